/- Plain facts on code of steps: what is open at a place, and where a way out goes on. -/
import Derived.Test.YthkkhinmdlmhkaaDoorNestMath
namespace Go.Proofs.YthkkhinmdlmhkaaDoor
set_option linter.unusedVariables false

theorem runN_append {xs ys : List Stp} {o : List Spn} {e d : List Int} {z : List Spn × List Int × List Int} (h : runN (xs ++ ys) o e d = some z) : ∃ o1 e1 d1, runN xs o e d = some (o1, e1, d1) ∧ runN ys o1 e1 d1 = some z := by
  induction xs generalizing o e d with
  | nil => exact ⟨o, e, d, rfl, h⟩
  | cons x r ih =>
    cases hs : stp x o e with
    | none => rw [List.cons_append, runN_snoc_none hs] at h; cases h
    | some p =>
      obtain ⟨o1, e1⟩ := p
      rw [List.cons_append, runN_snoc_some hs] at h
      rw [runN_snoc_some hs]
      exact ih h

theorem okO_lastlt2 {o : List Spn} {n : Nat} {p : Int} {s : Nat} {t : Int} (hk : okO o n) (hl : o.getLast? = some (p, s, t)) : ∀ q ∈ o.dropLast, q.2.2 < s := by
  have hp := hk.1
  rw [last_split hl] at hp
  intro q hq
  exact ((List.pairwise_append.1 hp).2.2 q hq (p, s, t) (by simp)).2

/-- what can have become of the state behind a step -/
inductive Went (x : Stp) (o : List Spn) (e : List Int) : List Spn → List Int → Prop
  | push : opensB x.1 = true → o.length < 8 → Went x o e (o ++ [(x.1, e.length, -1)]) (e ++ [-1])
  | turn (s : Nat) : opensB x.1 = false → x.1 = 18 → o.getLast? = some (17, s, -1) → Went x o e (o.dropLast ++ [(17, s, (e.length : Int))]) (e ++ [-1])
  | shut (p : Int) (s : Nat) (t : Int) : opensB x.1 = false → x.1 = 19 → o.getLast? = some (p, s, t) → Went x o e o.dropLast (putE (e ++ [(s : Int)]) s t e.length)
  | plain : opensB x.1 = false → x.1 ≠ 18 → x.1 ≠ 19 → Went x o e o (e ++ [-1])
theorem stp_went {x : Stp} {o o' : List Spn} {e e' : List Int} (h : stp x o e = some (o', e')) : Went x o e o' e' := by
  unfold stp at h
  split at h
  · split at h
    · rename_i ho
      split at h
      · rename_i h8; simp at h; rw [← h.1, ← h.2]; exact .push ho h8
      · cases h
    · rename_i ho
      have ho : opensB x.1 = false := by simpa using ho
      split at h
      · rename_i h18
        split at h
        · cases h
        · rename_i hl
          split at h
          · rename_i hpt; obtain ⟨rfl, rfl⟩ := hpt; simp at h; rw [← h.1, ← h.2]; exact .turn _ ho h18 hl
          · cases h
      · rename_i h18
        split at h
        · rename_i h19
          split at h
          · cases h
          · rename_i hl; simp at h; rw [← h.1, ← h.2]; exact .shut _ _ _ ho h19 hl
        · rename_i h19; simp at h; rw [← h.1, ← h.2]; exact .plain ho h18 h19
  · cases h

theorem mem_last {o : List Spn} {z : Spn} (h : o.getLast? = some z) (s : Spn) (hs : s ∈ o) : s ∈ o.dropLast ∨ s = z := by
  rw [last_split h] at hs
  rcases List.mem_append.1 hs with h | h
  · exact .inl h
  · exact .inr (by simpa using h)
theorem set_at (e : List Int) (k : Nat) (v : Int) (j : Nat) (hj : j < e.length) : (e.set k v)[j]? = if k = j then some v else e[j]? := by
  rw [List.getElem?_set]; split
  · rename_i h; subst h; simp [hj]
  · rfl
theorem putE_at (e : List Int) (s : Nat) (t : Int) (k j : Nat) (hj : j < e.length) (ht : t = -1 ∨ 0 ≤ t) : (putE e s t k)[j]? = if s = j ∨ t = j then some (k : Int) else e[j]? := by
  unfold putE
  by_cases h : t = -1
  · rw [if_pos h, set_at _ _ _ _ hj]
    subst h
    by_cases hs : s = j
    · simp [hs]
    · rw [if_neg hs, if_neg (by omega)]
  · rw [if_neg h, set_at _ _ _ _ (by simpa using hj), set_at _ _ _ _ hj]
    by_cases h1 : t.toNat = j
    · rw [if_pos h1, if_pos (.inr (by omega))]
    · rw [if_neg h1]
      by_cases hs : s = j
      · rw [if_pos hs, if_pos (.inl hs)]
      · rw [if_neg hs, if_neg (by omega)]

/-- what becomes of ends later on -/
theorem later {R : List Stp} {o : List Spn} {e d e' d' : List Int} (h : runN R o e d = some ([], e', d')) (hk : okO o e.length) :
    (∀ s ∈ o, ∃ v, e'[s.2.1]? = some v ∧ (e.length : Int) ≤ v) ∧ (∀ j, j < e.length → (∀ s ∈ o, s.2.1 ≠ j ∧ s.2.2 ≠ j) → e'[j]? = e[j]?) := by
  induction R generalizing o e d with
  | nil => simp [runN] at h; obtain ⟨rfl, rfl, rfl⟩ := h; simp
  | cons x r ih =>
    cases hs : stp x o e with
    | none => rw [runN_snoc_none hs] at h; cases h
    | some p =>
      obtain ⟨o1, e1⟩ := p
      rw [runN_snoc_some hs] at h
      have hk1 := stp_ok hs hk
      have hl1 := stp_length hs
      obtain ⟨i1, i2⟩ := ih h hk1
      rw [hl1] at i1 i2
      have hw := stp_went hs
      clear ih h hs
      cases hw with
      | push ho h8 =>
        refine ⟨fun s hs => ?_, fun j hj hn => ?_⟩
        · obtain ⟨v, h1, h2⟩ := i1 s (List.mem_append_left _ hs)
          exact ⟨v, h1, by omega⟩
        · rw [i2 j (by omega) (fun s hs => ?_)]
          · rw [List.getElem?_append_left hj]
          · rcases List.mem_append.1 hs with hs | hs
            · exact hn s hs
            · simp at hs; subst hs; simp only []; omega
      | turn s ho h18 hl =>
        refine ⟨fun q hq => ?_, fun j hj hn => ?_⟩
        · rcases mem_last hl q hq with hq | rfl
          · obtain ⟨v, h1, h2⟩ := i1 q (List.mem_append_left _ hq)
            exact ⟨v, h1, by omega⟩
          · obtain ⟨v, h1, h2⟩ := i1 (17, s, (e.length : Int)) (by simp)
            exact ⟨v, h1, by omega⟩
        · rw [i2 j (by omega) (fun q hq => ?_)]
          · rw [List.getElem?_append_left hj]
          · rcases List.mem_append.1 hq with hq | hq
            · exact hn q ((List.dropLast_sublist _).mem hq)
            · simp at hq; subst hq
              have := hn _ (List.mem_of_getLast? hl)
              simp only [] at this ⊢; omega
      | shut p s t ho h19 hl =>
        have hz := hk.2 _ (List.mem_of_getLast? hl)
        have ht : t = -1 ∨ 0 ≤ t := by have := hz.2.1; simp only [] at this; omega
        have hs1 : s < e.length := hz.1
        have la := okO_lastlt hk hl
        have lb := okO_lastlt2 hk hl
        refine ⟨fun q hq => ?_, fun j hj hn => ?_⟩
        · rcases mem_last hl q hq with hq | rfl
          · obtain ⟨v, h1, h2⟩ := i1 q hq
            exact ⟨v, h1, by omega⟩
          · have := i2 s (by omega) (fun q hq => ⟨by have := la q hq; omega, by have := lb q hq; omega⟩)
            rw [putE_at _ _ _ _ _ (by simp; omega) ht, if_pos (.inl rfl)] at this
            exact ⟨_, this, by omega⟩
        · rw [i2 j (by omega) (fun q hq => hn q ((List.dropLast_sublist _).mem hq))]
          have := hn _ (List.mem_of_getLast? hl)
          simp only [] at this
          rw [putE_at _ _ _ _ _ (by simp; omega) ht, if_neg (by omega), List.getElem?_append_left hj]
      | plain ho h18 h19 =>
        refine ⟨fun s hs => ?_, fun j hj hn => ?_⟩
        · obtain ⟨v, h1, h2⟩ := i1 s hs
          exact ⟨v, h1, by omega⟩
        · rw [i2 j (by omega) hn, List.getElem?_append_left hj]

/-- what holds at each place of code that is gone through -/
structure Inv (L : List Stp) (o : List Spn) (e d : List Int) : Prop where
  ok : okO o e.length
  le : e.length = L.length
  ld : d.length = L.length
  deep : ∀ (i : Nat) (s : Spn), o[i]? = some s → d[s.2.1]? = some (i : Int) ∧ ∀ j, s.2.1 < j → j < L.length → ∃ v, d[j]? = some v ∧ (i : Int) < v
  ops : ∀ s ∈ o, ∃ y, L[s.2.1]? = some y ∧ y.1 = s.1
  half : ∀ s ∈ o, s.2.2 ≠ -1 → ∃ y, L[s.2.2.toNat]? = some y ∧ y.1 = 18
  done : ∀ j y, L[j]? = some y → opensB y.1 = true → (∃ s ∈ o, s.2.1 = j) ∨ ∃ v, e[j]? = some v ∧ v < (L.length : Int)

theorem Inv.nil : Inv [] [] [] [] := ⟨okO_nil _, rfl, rfl, by simp, by simp, by simp, by simp⟩
theorem at_left {α : Type} {L : List α} {y : α} {j : Nat} (x : α) (h : L[j]? = some y) : (L ++ [x])[j]? = some y := by
  rw [List.getElem?_append_left (List.getElem?_eq_some_iff.1 h).1]; exact h
theorem at_snoc {α : Type} {L : List α} {x y : α} {j : Nat} (h : (L ++ [x])[j]? = some y) : L[j]? = some y ∨ (j = L.length ∧ y = x) := by
  rcases Nat.lt_trichotomy j L.length with hj | hj | hj
  · rw [List.getElem?_append_left hj] at h; exact .inl h
  · subst hj; simp at h; exact .inr ⟨rfl, h.symm⟩
  · rw [List.getElem?_eq_none (by simp; omega)] at h; cases h
theorem drop_at? {o : List Spn} {i : Nat} {s : Spn} (h : o.dropLast[i]? = some s) : o[i]? = some s ∧ i + 1 < o.length := by
  obtain ⟨hi, he⟩ := List.getElem?_eq_some_iff.1 h
  simp at hi
  refine ⟨?_, by omega⟩
  rw [← he, List.getElem_dropLast]
  simp

theorem Inv.step {L : List Stp} {x : Stp} {o o' : List Spn} {e d e' : List Int} (h : Inv L o e d) (hs : stp x o e = some (o', e')) : Inv (L ++ [x]) o' e' (d ++ [(o.length : Int)]) := by
  have hk1 := stp_ok hs h.ok
  have hl1 := stp_length hs
  have hw := stp_went hs
  have hle := h.le
  have hld := h.ld
  have hdl : (d ++ [(o.length : Int)])[L.length]? = some (o.length : Int) := by rw [← hld]; simp
  have deep' : ∀ (i : Nat) (s : Spn), o[i]? = some s → (d ++ [(o.length : Int)])[s.2.1]? = some (i : Int) ∧ ∀ j, s.2.1 < j → j < L.length + 1 → ∃ v, (d ++ [(o.length : Int)])[j]? = some v ∧ (i : Int) < v := by
    intro i s hi
    obtain ⟨h1, h2⟩ := h.deep i s hi
    refine ⟨at_left _ h1, fun j hj hj2 => ?_⟩
    by_cases hjl : j < L.length
    · obtain ⟨v, h3, h4⟩ := h2 j hj hjl
      exact ⟨v, at_left _ h3, h4⟩
    · obtain rfl : j = L.length := by omega
      exact ⟨_, hdl, by have := (List.getElem?_eq_some_iff.1 hi).1; omega⟩
  have ops' : ∀ s ∈ o, ∃ y, (L ++ [x])[s.2.1]? = some y ∧ y.1 = s.1 := fun s hs => by obtain ⟨y, h1, h2⟩ := h.ops s hs; exact ⟨y, at_left _ h1, h2⟩
  have half' : ∀ s ∈ o, s.2.2 ≠ -1 → ∃ y, (L ++ [x])[s.2.2.toNat]? = some y ∧ y.1 = 18 := fun s hs hn => by obtain ⟨y, h1, h2⟩ := h.half s hs hn; exact ⟨y, at_left _ h1, h2⟩
  cases hw with
  | push ho h8 =>
    refine ⟨hk1, by simp; omega, by simp; omega, ?_, ?_, ?_, ?_⟩
    · intro i s hi
      simp only [List.length_append, List.length_singleton]
      rcases at_snoc hi with hi | ⟨rfl, rfl⟩
      · exact deep' i s hi
      · simp only []
        rw [hle]
        exact ⟨hdl, fun j hj hj2 => by omega⟩
    · intro s hs
      rcases List.mem_append.1 hs with hs | hs
      · exact ops' s hs
      · simp at hs; subst hs; simp only []; rw [hle]; exact ⟨x, by simp, rfl⟩
    · intro s hs hn
      rcases List.mem_append.1 hs with hs | hs
      · exact half' s hs hn
      · simp at hs; subst hs; simp at hn
    · intro j y hj hy
      rcases at_snoc hj with hj | ⟨rfl, rfl⟩
      · rcases h.done j y hj hy with ⟨s, hs, h2⟩ | ⟨v, h1, h2⟩
        · exact .inl ⟨s, List.mem_append_left _ hs, h2⟩
        · exact .inr ⟨v, at_left _ h1, by simp; omega⟩
      · exact .inl ⟨_, List.mem_append_right _ (List.mem_singleton.2 rfl), by simpa using hle⟩
  | turn s ho h18 hl =>
    have hsp := last_split hl
    have hlen := congrArg List.length hsp
    simp at hlen
    refine ⟨hk1, by simp; omega, by simp; omega, ?_, ?_, ?_, ?_⟩
    · intro i q hi
      simp only [List.length_append, List.length_singleton]
      rcases at_snoc hi with hi | ⟨rfl, rfl⟩
      · exact deep' i q (drop_at? hi).1
      · refine deep' o.dropLast.length (17, s, -1) ?_
        rw [hsp]; simp
    · intro q hq
      rcases List.mem_append.1 hq with hq | hq
      · exact ops' q ((List.dropLast_sublist _).mem hq)
      · simp at hq; subst hq; exact ops' (17, s, -1) (List.mem_of_getLast? hl)
    · intro q hq hn
      rcases List.mem_append.1 hq with hq | hq
      · exact half' q ((List.dropLast_sublist _).mem hq) hn
      · simp at hq; subst hq; simp only [Int.toNat_natCast]; rw [hle]; exact ⟨x, by simp, h18⟩
    · intro j y hj hy
      rcases at_snoc hj with hj | ⟨rfl, rfl⟩
      · rcases h.done j y hj hy with ⟨q, hq, h2⟩ | ⟨v, h1, h2⟩
        · rcases mem_last hl q hq with hq | rfl
          · exact .inl ⟨q, List.mem_append_left _ hq, h2⟩
          · exact .inl ⟨(17, s, (e.length : Int)), by simp, h2⟩
        · exact .inr ⟨v, at_left _ h1, by simp; omega⟩
      · rw [ho] at hy; cases hy
  | shut p s t ho h19 hl =>
    have hz := h.ok.2 _ (List.mem_of_getLast? hl)
    have ht : t = -1 ∨ 0 ≤ t := by have := hz.2.1; simp only [] at this; omega
    refine ⟨hk1, by rw [putE_length]; simp; omega, by simp; omega, ?_, ?_, ?_, ?_⟩
    · intro i q hi
      simp only [List.length_append, List.length_singleton]
      exact deep' i q (drop_at? hi).1
    · exact fun q hq => ops' q ((List.dropLast_sublist _).mem hq)
    · exact fun q hq hn => half' q ((List.dropLast_sublist _).mem hq) hn
    · intro j y hj hy
      rcases at_snoc hj with hj | ⟨rfl, rfl⟩
      · have hjl := (List.getElem?_eq_some_iff.1 hj).1
        have hp := putE_at (e ++ [(s : Int)]) s t e.length j (by simp; omega) ht
        rcases h.done j y hj hy with ⟨q, hq, h2⟩ | ⟨v, h1, h2⟩
        · rcases mem_last hl q hq with hq | rfl
          · exact .inl ⟨q, hq, h2⟩
          · rw [if_pos (.inl h2)] at hp
            exact .inr ⟨_, hp, by simp; omega⟩
        · right
          by_cases hc : s = j ∨ t = j
          · rw [if_pos hc] at hp
            exact ⟨_, hp, by simp; omega⟩
          · rw [if_neg hc, at_left _ h1] at hp
            exact ⟨_, hp, by simp; omega⟩
      · rw [ho] at hy; cases hy
  | plain ho h18 h19 =>
    refine ⟨hk1, by simp; omega, by simp; omega, ?_, ops', half', ?_⟩
    · intro i s hi
      simp only [List.length_append, List.length_singleton]
      exact deep' i s hi
    · intro j y hj hy
      rcases at_snoc hj with hj | ⟨rfl, rfl⟩
      · rcases h.done j y hj hy with h1 | ⟨v, h1, h2⟩
        · exact .inl h1
        · exact .inr ⟨v, at_left _ h1, by simp; omega⟩
      · rw [ho] at hy; cases hy
theorem Inv.run {L r : List Stp} {o o' : List Spn} {e d e' d' : List Int} (h : Inv L o e d) (hr : runN r o e d = some (o', e', d')) : Inv (L ++ r) o' e' d' := by
  induction r generalizing L o e d with
  | nil => simp [runN] at hr; obtain ⟨rfl, rfl, rfl⟩ := hr; simpa using h
  | cons x r ih =>
    cases hs : stp x o e with
    | none => rw [runN_snoc_none hs] at hr; cases hr
    | some p =>
      obtain ⟨o1, e1⟩ := p
      rw [runN_snoc_some hs] at hr
      have := ih (h.step hs) hr
      simpa using this

/-- the model's way to where a way out goes on -/
def specT (xs : List Stp) (e : List Int) (at' : Nat) : Nat → Nat → Int
  | 0, _ => xs.length
  | k + 1, dep => if (opensB (xs[k]?.getD (0, 0, [])).1 && decide ((at' : Int) ≤ e[k]?.getD 0)) = true then (if dep = 0 then (if (xs[k]?.getD (0, 0, [])).1 = 16 then (k : Int) + 1 else e[k]?.getD 0 + 1) else specT xs e at' k (dep - 1)) else specT xs e at' k dep
/-- where a part that is open is gone on behind it -/
def ansT (xs : List Stp) (e : List Int) (s : Nat) : Int := if (xs[s]?.getD (0, 0, [])).1 = 16 then (s : Int) + 1 else e[s]?.getD 0 + 1

theorem nestO_run {xs : List Stp} {e d : List Int} (h : nestO xs = some (e, d)) : runN xs [] [] [] = some ([], e, d) := by
  unfold nestO at h
  split at h
  · split at h
    · rename_i hr
      simp at h
      obtain ⟨rfl, rfl⟩ := h
      exact hr
    · cases h
  · cases h

/-- what is open at a place of good code -/
theorem openAt {xs : List Stp} {e d : List Int} (h : nestO xs = some (e, d)) (at' : Nat) (ha : at' < xs.length) :
    ∃ o : List Spn, d[at']? = some (o.length : Int) ∧ okO o at' ∧ (∀ (i : Nat) (s : Spn), o[i]? = some s → d[s.2.1]? = some (i : Int) ∧ ∀ j, s.2.1 < j → j < at' → ∃ v, d[j]? = some v ∧ (i : Int) < v) ∧
      (∀ s ∈ o, (∃ y, xs[s.2.1]? = some y ∧ opensB y.1 = true) ∧ ∃ v, e[s.2.1]? = some v ∧ (at' : Int) ≤ v) ∧
      (∀ j y, j < at' → xs[j]? = some y → opensB y.1 = true → (∃ s ∈ o, s.2.1 = j) ∨ ∃ v, e[j]? = some v ∧ v < (at' : Int)) := by
  have hr := nestO_run h
  have hsp : xs = xs.take at' ++ xs.drop at' := (List.take_append_drop _ _).symm
  rw [hsp] at hr
  obtain ⟨o, e1, d1, r1, r2⟩ := runN_append hr
  have hI := Inv.run Inv.nil r1
  simp only [List.nil_append] at hI
  have hL : (xs.take at').length = at' := by simp; omega
  have hle : e1.length = at' := by rw [hI.le, hL]
  have hld : d1.length = at' := by rw [hI.ld, hL]
  have hdd := runN_depths r2
  obtain ⟨c1, c2⟩ := later r2 hI.ok
  rw [hle] at c1 c2
  have hdrop : xs.drop at' = xs[at'] :: xs.drop (at' + 1) := List.drop_eq_getElem_cons ha
  have hget : ∀ {j : Nat} {y : Stp}, (xs.take at')[j]? = some y → xs[j]? = some y := by
    intro j y hj
    rw [List.getElem?_take] at hj
    split at hj
    · exact hj
    · cases hj
  refine ⟨o, ?_, by rw [← hle]; exact hI.ok, ?_, ?_, ?_⟩
  · rw [hdd, hdrop, List.getElem?_append_right (by omega), hld]
    simp [depL]
  · intro i s hi
    obtain ⟨h1, h2⟩ := hI.deep i s hi
    have old : ∀ {j : Nat} {v : Int}, d1[j]? = some v → d[j]? = some v := by
      intro j v hj
      rw [hdd, List.getElem?_append_left (List.getElem?_eq_some_iff.1 hj).1]; exact hj
    refine ⟨old h1, fun j hj hj2 => ?_⟩
    obtain ⟨v, h3, h4⟩ := h2 j hj (by omega)
    exact ⟨v, old h3, h4⟩
  · intro s hs
    refine ⟨?_, c1 s hs⟩
    obtain ⟨y, h1, h2⟩ := hI.ops s hs
    exact ⟨y, hget h1, by rw [h2]; exact (hI.ok.2 s hs).2.2⟩
  · intro j y hj hy ho
    have hy' : (xs.take at')[j]? = some y := by rw [List.getElem?_take, if_pos hj]; exact hy
    rcases hI.done j y hy' ho with h1 | ⟨v, h1, h2⟩
    · exact .inl h1
    · by_cases hex : ∃ s ∈ o, s.2.1 = j
      · exact .inl hex
      · right
        rw [hL] at h2
        refine ⟨v, ?_, h2⟩
        rw [c2 j (by omega) (fun s hs => ⟨fun he => hex ⟨s, hs, he⟩, fun he => ?_⟩)]
        · exact h1
        · obtain ⟨z, hz, hz2⟩ := hI.half s hs (by omega)
          rw [he, Int.toNat_natCast, hy'] at hz
          cases hz
          rw [hz2] at ho
          simp [opensB] at ho

theorem specT_open {xs : List Stp} {e : List Int} {at' : Nat} {o : List Spn} (hk : okO o at')
    (h1 : ∀ s ∈ o, (∃ y, xs[s.2.1]? = some y ∧ opensB y.1 = true) ∧ ∃ v, e[s.2.1]? = some v ∧ (at' : Int) ≤ v)
    (h2 : ∀ j y, j < at' → xs[j]? = some y → opensB y.1 = true → (∃ s ∈ o, s.2.1 = j) ∨ ∃ v, e[j]? = some v ∧ v < (at' : Int)) (hx : at' ≤ xs.length) :
    ∀ (k c : Nat), k ≤ at' → c ≤ o.length → (∀ (i : Nat) (s : Spn), o[i]? = some s → (i < c ↔ s.2.1 < k)) → ∀ dep, (∀ s, dep < c → o[c - 1 - dep]? = some s → specT xs e at' k dep = ansT xs e s.2.1) ∧ (c ≤ dep → specT xs e at' k dep = xs.length) := by
  intro k
  induction k with
  | zero =>
    intro c hk0 hc hcc dep
    refine ⟨fun s hd hs => ?_, fun _ => rfl⟩
    have := (hcc _ s hs).1 (by omega)
    omega
  | succ k ih =>
    intro c hk0 hc hcc dep
    obtain ⟨y, hy⟩ : ∃ y, xs[k]? = some y := ⟨_, List.getElem?_eq_getElem (by omega)⟩
    by_cases hin : ∃ s ∈ o, s.2.1 = k
    · obtain ⟨s, hs, rfl⟩ := hin
      obtain ⟨i, hi, hie⟩ := List.mem_iff_getElem.1 hs
      have hi' : o[i]? = some s := by rw [← hie]; simp
      have hic := (hcc i s hi').2 (by omega)
      have hci : c = i + 1 := by
        by_cases hne : i + 1 < c
        · exfalso
          obtain ⟨q, hq⟩ : ∃ q, o[i + 1]? = some q := ⟨_, List.getElem?_eq_getElem (by omega)⟩
          have hq1 := (hcc (i + 1) q hq).1 hne
          have hqi : i + 1 < o.length := by omega
          have hp := List.pairwise_iff_getElem.1 hk.1 i (i + 1) hi hqi (by omega)
          rw [hie] at hp
          have : o[i + 1] = q := by have := List.getElem?_eq_getElem hqi; rw [hq] at this; injection this with this; exact this.symm
          rw [this] at hp
          omega
        · omega
      subst hci
      obtain ⟨⟨y', hy', ho⟩, v, hv, hva⟩ := h1 s hs
      rw [hy] at hy'; cases hy'
      have hcc' : ∀ j q, o[j]? = some q → (j < i ↔ q.2.1 < s.2.1) := by
        intro j q hq
        obtain ⟨hj, hqe⟩ := List.getElem?_eq_some_iff.1 hq
        constructor
        · intro hji
          have hp := List.pairwise_iff_getElem.1 hk.1 j i hj hi hji
          rw [hie, hqe] at hp
          exact hp.1
        · intro hlt
          rcases Nat.lt_trichotomy j i with h | h | h
          · exact h
          · subst h; rw [hi'] at hq; cases hq; omega
          · have hp := List.pairwise_iff_getElem.1 hk.1 i j hi hj h
            rw [hie, hqe] at hp
            omega
      obtain ih := ih i (by omega) (by omega) hcc'
      unfold specT
      have hcond : (opensB (xs[s.2.1]?.getD (0, 0, [])).1 && decide ((at' : Int) ≤ e[s.2.1]?.getD 0)) = true := by simp [hy, hv, ho, hva]
      rw [if_pos hcond]
      by_cases h0 : dep = 0
      · subst h0
        rw [if_pos rfl]
        refine ⟨fun q _ hq => ?_, fun h => by omega⟩
        have : i + 1 - 1 - 0 = i := by omega
        rw [this, hi'] at hq
        cases hq
        rfl
      · rw [if_neg h0]
        obtain ⟨g1, g2⟩ := ih (dep - 1)
        refine ⟨fun q hd hq => g1 q (by omega) ?_, fun h => g2 (by omega)⟩
        rw [← hq]; congr 1; omega
    · have hcond : ¬ (opensB (xs[k]?.getD (0, 0, [])).1 && decide ((at' : Int) ≤ e[k]?.getD 0)) = true := by
        rw [hy]
        simp only [Option.getD_some, Bool.and_eq_true, not_and]
        intro ho
        rcases h2 k y (by omega) hy ho with h | ⟨v, hv, hva⟩
        · exact absurd h hin
        · rw [hv]; simp; omega
      unfold specT
      rw [if_neg hcond]
      refine ih c (by omega) hc (fun i s hi => ?_) dep
      rw [hcc i s hi]
      have : s.2.1 ≠ k := fun he => hin ⟨s, List.mem_of_getElem? hi, he⟩
      omega

/-- where a way out goes on, at a place of good code -/
theorem target {xs : List Stp} {e d : List Int} (h : nestO xs = some (e, d)) (at' : Nat) (ha : at' < xs.length) :
    ∃ m : Nat, d[at']? = some (m : Int) ∧ specT xs e at' at' m = xs.length ∧ ∀ dep, dep < m → ∃ s, s < at' ∧ d[s]? = some ((m : Int) - 1 - dep) ∧ (∀ j, s < j → j < at' → ∃ v, d[j]? = some v ∧ v ≠ (m : Int) - 1 - dep) ∧ specT xs e at' at' dep = ansT xs e s := by
  obtain ⟨o, h0, hk, h1, h2, h3⟩ := openAt h at' ha
  have hs := specT_open hk h2 h3 (by omega) at' o.length (by omega) (by omega) (fun i s hi => by
    have := (List.getElem?_eq_some_iff.1 hi).1
    have := (hk.2 s (List.mem_of_getElem? hi)).1
    omega)
  refine ⟨o.length, h0, (hs o.length).2 (by omega), fun dep hd => ?_⟩
  obtain ⟨s, hsi⟩ : ∃ s, o[o.length - 1 - dep]? = some s := ⟨_, List.getElem?_eq_getElem (by omega)⟩
  obtain ⟨g1, g2⟩ := h1 _ s hsi
  refine ⟨s.2.1, (hk.2 s (List.mem_of_getElem? hsi)).1, ?_, fun j hj hj2 => ?_, (hs dep).1 s hd hsi⟩
  · rw [g1]; congr 1; omega
  · obtain ⟨v, hv, hl⟩ := g2 j hj hj2
    exact ⟨v, hv, by omega⟩
end Go.Proofs.YthkkhinmdlmhkaaDoor
