/- Plain facts on good code: what opens and its end name one another, and a WElse names the end of its WIf. -/
import Derived.Test.YthkkhinmdlmhkaaDoorTargetMath
namespace Go.Proofs.YthkkhinmdlmhkaaDoor
set_option linter.unusedVariables false

/-- a part that is ended -/
def PairAt (L : List Stp) (e d : List Int) (j : Nat) : Prop := ∃ (k : Nat) (v : Int) (z : Stp), e[j]? = some (k : Int) ∧ j < k ∧ e[k]? = some (j : Int) ∧ d[j]? = some v ∧ d[k]? = some (v + 1) ∧ L[k]? = some z ∧ z.1 = 19
/-- a WElse whose part is ended -/
def ElseAt (L : List Stp) (e d : List Int) (j : Nat) : Prop := ∃ (k i : Nat) (v : Int) (z z' : Stp), e[j]? = some (k : Int) ∧ L[k]? = some z ∧ z.1 = 19 ∧ e[k]? = some (i : Int) ∧ L[i]? = some z' ∧ z'.1 = 17 ∧ d[j]? = some v ∧ d[k]? = some v
structure Pr (L : List Stp) (o : List Spn) (e d : List Int) : Prop where
  pair : ∀ j y, L[j]? = some y → opensB y.1 = true → (∃ s ∈ o, s.2.1 = j) ∨ PairAt L e d j
  hdeep : ∀ (i : Nat) (s : Spn), o[i]? = some s → s.2.2 ≠ -1 → s.1 = 17 ∧ d[s.2.2.toNat]? = some ((i : Int) + 1)
  els : ∀ (j : Nat) (y : Stp), L[j]? = some y → y.1 = 18 → (∃ s ∈ o, s.2.2 = (j : Int)) ∨ ElseAt L e d j
theorem Pr.nil : Pr [] [] [] [] := ⟨by simp, by simp, by simp⟩
theorem PairAt.left {L : List Stp} {e d : List Int} {j : Nat} (h : PairAt L e d j) (x : Stp) (y z : Int) : PairAt (L ++ [x]) (e ++ [y]) (d ++ [z]) j := by
  obtain ⟨k, v, q, h1, h2, h3, h4, h5, h6, h7⟩ := h
  exact ⟨k, v, q, at_left _ h1, h2, at_left _ h3, at_left _ h4, at_left _ h5, at_left _ h6, h7⟩
theorem ElseAt.left {L : List Stp} {e d : List Int} {j : Nat} (h : ElseAt L e d j) (x : Stp) (y z : Int) : ElseAt (L ++ [x]) (e ++ [y]) (d ++ [z]) j := by
  obtain ⟨k, i, v, q, q', h1, h2, h3, h4, h5, h6, h7, h8⟩ := h
  exact ⟨k, i, v, q, q', at_left _ h1, at_left _ h2, h3, at_left _ h4, at_left _ h5, h6, at_left _ h7, at_left _ h8⟩
theorem opens_not {y : Stp} (h : opensB y.1 = true) : y.1 ≠ 18 ∧ y.1 ≠ 19 := by simp [opensB] at h; omega

theorem Pr.step {L : List Stp} {x : Stp} {o o' : List Spn} {e d e' : List Int} (hi : Inv L o e d) (h : Pr L o e d) (hs : stp x o e = some (o', e')) : Pr (L ++ [x]) o' e' (d ++ [(o.length : Int)]) := by
  have hw := stp_went hs
  have hle := hi.le
  have hld := hi.ld
  have hdl : (d ++ [(o.length : Int)])[L.length]? = some (o.length : Int) := by rw [← hld]; simp
  have hdeep' : ∀ (i : Nat) (s : Spn), o[i]? = some s → s.2.2 ≠ -1 → s.1 = 17 ∧ (d ++ [(o.length : Int)])[s.2.2.toNat]? = some ((i : Int) + 1) := fun i s h1 h2 => by
    obtain ⟨h3, h4⟩ := h.hdeep i s h1 h2
    exact ⟨h3, at_left _ h4⟩
  cases hw with
  | push ho h8 =>
    refine ⟨?_, ?_, ?_⟩
    · intro j y hj hy
      rcases at_snoc hj with hj | ⟨rfl, rfl⟩
      · rcases h.pair j y hj hy with ⟨s, hs, h2⟩ | hp
        · exact .inl ⟨s, List.mem_append_left _ hs, h2⟩
        · exact .inr (hp.left _ _ _)
      · exact .inl ⟨_, List.mem_append_right _ (List.mem_singleton.2 rfl), by simpa using hle⟩
    · intro i s hi2 hn
      rcases at_snoc hi2 with hi2 | ⟨rfl, rfl⟩
      · exact hdeep' i s hi2 hn
      · simp at hn
    · intro j y hj hy
      rcases at_snoc hj with hj | ⟨rfl, rfl⟩
      · rcases h.els j y hj hy with ⟨s, hs, h2⟩ | hp
        · exact .inl ⟨s, List.mem_append_left _ hs, h2⟩
        · exact .inr (hp.left _ _ _)
      · exact absurd hy (opens_not ho).1
  | turn s ho h18 hl =>
    have hsp := last_split hl
    have hlen := congrArg List.length hsp
    simp at hlen
    refine ⟨?_, ?_, ?_⟩
    · intro j y hj hy
      rcases at_snoc hj with hj | ⟨rfl, rfl⟩
      · rcases h.pair j y hj hy with ⟨q, hq, h2⟩ | hp
        · rcases mem_last hl q hq with hq | rfl
          · exact .inl ⟨q, List.mem_append_left _ hq, h2⟩
          · exact .inl ⟨(17, s, (e.length : Int)), by simp, h2⟩
        · exact .inr (hp.left _ _ _)
      · rw [ho] at hy; cases hy
    · intro i q hi2 hn
      rcases at_snoc hi2 with hi2 | ⟨rfl, rfl⟩
      · exact hdeep' i q (drop_at? hi2).1 hn
      · refine ⟨rfl, ?_⟩
        simp only [Int.toNat_natCast]
        rw [hle, hdl]
        congr 1
        have : o.length = o.dropLast.length + 1 := by simp; omega
        omega
    · intro j y hj hy
      rcases at_snoc hj with hj | ⟨rfl, rfl⟩
      · rcases h.els j y hj hy with ⟨q, hq, h2⟩ | hp
        · rcases mem_last hl q hq with hq | rfl
          · exact .inl ⟨q, List.mem_append_left _ hq, h2⟩
          · simp only [] at h2; omega
        · exact .inr (hp.left _ _ _)
      · exact .inl ⟨(17, s, (e.length : Int)), by simp, by simp only []; rw [hle]⟩
  | shut p s t ho h19 hl =>
    have hz := hi.ok.2 _ (List.mem_of_getLast? hl)
    simp only [] at hz
    have ht : t = -1 ∨ 0 ≤ t := by have := hz.2.1; omega
    have hsp := last_split hl
    have hlen := congrArg List.length hsp
    simp at hlen
    have hol : o[o.length - 1]? = some (p, s, t) := by rw [← List.getLast?_eq_getElem?]; exact hl
    have hops := hi.ops _ (List.mem_of_getLast? hl)
    obtain ⟨ys, hys, hys1⟩ := hops
    simp only [] at hys hys1
    have hpE : ∀ j, j < e.length + 1 → (putE (e ++ [(s : Int)]) s t e.length)[j]? = if s = j ∨ t = j then some (e.length : Int) else (e ++ [(s : Int)])[j]? := fun j hj => putE_at _ _ _ _ _ (by simp; omega) ht
    have hend : (putE (e ++ [(s : Int)]) s t e.length)[L.length]? = some (s : Int) := by
      rw [hpE _ (by omega), if_neg (by have := hz.1; have := hz.2.1; omega), ← hle]; simp
    have hth : ∀ (y : Nat), t = (y : Int) → ∃ z, L[y]? = some z ∧ z.1 = 18 := fun y hy => by
      obtain ⟨z, h1, h2⟩ := hi.half _ (List.mem_of_getLast? hl) (by simp only []; omega)
      simp only [hy, Int.toNat_natCast] at h1
      exact ⟨z, h1, h2⟩
    have keep : ∀ (j : Nat) (y : Stp) (v : Int), L[j]? = some y → y.1 ≠ 18 → s ≠ j → e[j]? = some v → (putE (e ++ [(s : Int)]) s t e.length)[j]? = some v := fun j y v h1 h2 h3 h4 => by
      have hjl := (List.getElem?_eq_some_iff.1 h4).1
      rw [hpE j (by omega), if_neg ?_]
      · exact at_left _ h4
      · rintro (h5 | h5)
        · exact h3 h5
        · obtain ⟨z, h6, h7⟩ := hth j h5
          rw [h1] at h6; cases h6; exact h2 h7
    have hso : opensB ys.1 = true := by rw [hys1]; exact hz.2.2
    have knot : ∀ (k : Nat) (z : Stp), L[k]? = some z → z.1 = 19 → s ≠ k := fun k z h1 h2 h3 => by
      subst h3
      rw [hys] at h1; cases h1
      exact (opens_not hso).2 h2
    have hsd := (hi.deep _ _ hol).1
    simp only [] at hsd
    refine ⟨?_, ?_, ?_⟩
    · intro j y hj hy
      rcases at_snoc hj with hj | ⟨rfl, rfl⟩
      · by_cases hjs : s = j
        · subst hjs
          right
          refine ⟨L.length, ((o.length - 1 : Nat) : Int), x, ?_, by have := hz.1; omega, hend, at_left _ hsd, ?_, by simp, h19⟩
          · rw [hpE s (by have := hz.1; omega), if_pos (.inl rfl), hle]
          · rw [hdl]; congr 1; omega
        · rcases h.pair j y hj hy with ⟨q, hq, h2⟩ | ⟨k, v, z, h1, h2, h3, h4, h5, h6, h7⟩
          · rcases mem_last hl q hq with hq | rfl
            · exact .inl ⟨q, hq, h2⟩
            · exact absurd h2 hjs
          · right
            exact ⟨k, v, z, keep j y _ hj (opens_not hy).1 hjs h1, h2, keep k z _ h6 (by omega) (knot k z h6 h7) h3, at_left _ h4, at_left _ h5, at_left _ h6, h7⟩
      · rw [ho] at hy; cases hy
    · exact fun i q hi2 hn => hdeep' i q (drop_at? hi2).1 hn
    · intro j y hj hy
      rcases at_snoc hj with hj | ⟨rfl, rfl⟩
      · by_cases htj : t = (j : Int)
        · right
          obtain ⟨h17, hd⟩ := h.hdeep _ _ hol (by simp only []; omega)
          simp only [] at h17 hd
          rw [htj, Int.toNat_natCast] at hd
          have hjl := (List.getElem?_eq_some_iff.1 hj).1
          refine ⟨L.length, s, _, x, ys, ?_, by simp, h19, hend, at_left _ hys, by rw [hys1]; exact h17, at_left _ hd, ?_⟩
          · rw [hpE j (by omega), if_pos (.inr htj), hle]
          · rw [hdl]; congr 1; omega
        · rcases h.els j y hj hy with ⟨q, hq, h2⟩ | ⟨k, i, v, z, z', h1, h2, h3, h4, h5, h6, h7, h8⟩
          · rcases mem_last hl q hq with hq | rfl
            · exact .inl ⟨q, hq, h2⟩
            · exact absurd h2 htj
          · right
            have hsj : s ≠ j := fun hc => by
              subst hc
              rw [hys] at hj; cases hj
              exact (opens_not hso).1 hy
            have hj2 : (putE (e ++ [(s : Int)]) s t e.length)[j]? = some (k : Int) := by
              have hjl := (List.getElem?_eq_some_iff.1 h1).1
              rw [hpE j (by omega), if_neg (by rintro (h | h); exact hsj h; exact htj h)]
              exact at_left _ h1
            exact ⟨k, i, v, z, z', hj2, at_left _ h2, h3, keep k z _ h2 (by omega) (knot k z h2 h3) h4, at_left _ h5, h6, at_left _ h7, at_left _ h8⟩
      · omega
  | plain ho h18 h19 =>
    refine ⟨?_, hdeep', ?_⟩
    · intro j y hj hy
      rcases at_snoc hj with hj | ⟨rfl, rfl⟩
      · rcases h.pair j y hj hy with h1 | hp
        · exact .inl h1
        · exact .inr (hp.left _ _ _)
      · rw [ho] at hy; cases hy
    · intro j y hj hy
      rcases at_snoc hj with hj | ⟨rfl, rfl⟩
      · rcases h.els j y hj hy with h1 | hp
        · exact .inl h1
        · exact .inr (hp.left _ _ _)
      · exact absurd hy h18
theorem Pr.run {L r : List Stp} {o o' : List Spn} {e d e' d' : List Int} (hi : Inv L o e d) (h : Pr L o e d) (hr : runN r o e d = some (o', e', d')) : Pr (L ++ r) o' e' d' := by
  induction r generalizing L o e d with
  | nil => simp [runN] at hr; obtain ⟨rfl, rfl, rfl⟩ := hr; simpa using h
  | cons x r ih =>
    cases hs : stp x o e with
    | none => rw [runN_snoc_none hs] at hr; cases hr
    | some p =>
      obtain ⟨o1, e1⟩ := p
      rw [runN_snoc_some hs] at hr
      have := ih (hi.step hs) (h.step hi hs) hr
      simpa using this
/-- of good code: what opens and its end name one another, and a WElse names the end of its WIf -/
theorem pairs {xs : List Stp} {e d : List Int} (h : nestO xs = some (e, d)) : (∀ j y, xs[j]? = some y → opensB y.1 = true → PairAt xs e d j) ∧ (∀ j y, xs[j]? = some y → y.1 = 18 → ElseAt xs e d j) := by
  have hp := Pr.run Inv.nil Pr.nil (nestO_run h)
  simp only [List.nil_append] at hp
  refine ⟨fun j y hj hy => ?_, fun j y hj hy => ?_⟩
  · rcases hp.pair j y hj hy with ⟨s, hs, _⟩ | h1
    · cases hs
    · exact h1
  · rcases hp.els j y hj hy with ⟨s, hs, _⟩ | h1
    · cases hs
    · exact h1
end Go.Proofs.YthkkhinmdlmhkaaDoor
