/- Plain facts on running valid code: a machine that stands as it must goes on as it must. -/
import Derived.Test.YthkkhinmdlmhkaaDoorRunMath2
namespace Go.Proofs.YthkkhinmdlmhkaaDoor
set_option linter.unusedVariables false
set_option linter.unusedSimpArgs false

/-- a WElse has the end of its WIf -/
theorem else_same {R : List Stp} {o : List Spn} {e d e' d' : List Int} (h : runN R o e d = some ([], e', d')) (hk : okO o e.length) : ∀ s ∈ o, s.2.2 ≠ -1 → e'[s.2.2.toNat]? = e'[s.2.1]? := by
  induction R generalizing o e d with
  | nil => simp [runN] at h; obtain ⟨rfl, rfl, rfl⟩ := h; simp
  | cons x r ih =>
    cases hs : stp x o e with
    | none => rw [runN_snoc_none hs] at h; cases h
    | some p =>
      obtain ⟨o1, e1⟩ := p
      rw [runN_snoc_some hs] at h
      have hk1 := stp_ok hs hk
      have hl1 := stp_length hs
      have i0 := ih h hk1
      have lat := (later h hk1).2
      rw [hl1] at lat
      have hw := stp_went hs
      clear ih h hs
      intro q hq hne
      cases hw with
      | push ho h8 => exact i0 q (List.mem_append_left _ hq) hne
      | turn s ho h18 hl =>
        rcases mem_last hl q hq with hq | rfl
        · exact i0 q (List.mem_append_left _ hq) hne
        · exact absurd rfl hne
      | shut p s t ho h19 hl =>
        rcases mem_last hl q hq with hq | rfl
        · exact i0 q hq hne
        · have hz := hk.2 _ (List.mem_of_getLast? hl)
          simp only [] at hz hne ⊢
          have ht0 : 0 ≤ t := by have := hz.2.1; omega
          have htl : t.toNat < e.length := by have := hz.2.1; omega
          have la := okO_lastlt hk hl
          have lb := okO_lastlt2 hk hl
          have lo : ∀ q ∈ o.dropLast, q.2.1 < e.length ∧ q.2.2 < (s : Int) := fun q hq => ⟨by have := la q hq; omega, lb q hq⟩
          have g1 := lat s (by omega) (fun q hq => ⟨by have := la q hq; omega, by have := lb q hq; omega⟩)
          have g2 := lat t.toNat (by omega) (fun q hq => ⟨by have := la q hq; have := hz.2.1; omega, by have := lb q hq; have := hz.2.1; omega⟩)
          rw [g1, g2, putE_at _ _ _ _ _ (by simp; omega) (.inr ht0), putE_at _ _ _ _ _ (by simp; omega) (.inr ht0), if_pos (.inr (by omega)), if_pos (.inl rfl)]
      | plain ho h18 h19 => exact i0 q hq hne
theorem split_at {xs : List Stp} {k : Nat} {x : Stp} (hx : xs[k]? = some x) : xs = xs.take k ++ x :: xs.drop (k + 1) := by
  have hk := (List.getElem?_eq_some_iff.1 hx).1
  have := List.drop_eq_getElem_cons hk
  rw [(List.getElem?_eq_some_iff.1 hx).2] at this
  rw [← this, List.take_append_drop]
/-- the WIf of a WElse -/
theorem else_if {xs : List Stp} {e d : List Int} (h : nestO xs = some (e, d)) {k : Nat} {x : Stp} (hx : xs[k]? = some x) (h18 : x.1 = 18) : ∃ (s p : Nat) (y : Stp), s < k ∧ k < p ∧ xs[s]? = some y ∧ y.1 = 17 ∧ e[s]? = some (p : Int) ∧ e[k]? = some (p : Int) := by
  have hk := (List.getElem?_eq_some_iff.1 hx).1
  have hr := nestO_run h
  rw [split_at hx] at hr
  obtain ⟨o1, e1, d1, r1, r2⟩ := runN_append hr
  have hI := Inv.run Inv.nil r1
  simp only [List.nil_append] at hI
  have hle : e1.length = k := by rw [hI.le]; simp; omega
  cases hs : stp x o1 e1 with
  | none => rw [runN_snoc_none hs] at r2; cases r2
  | some p =>
    obtain ⟨o2, e2⟩ := p
    rw [runN_snoc_some hs] at r2
    have hk2 := stp_ok hs hI.ok
    have hw := stp_went hs
    have hl2 := stp_length hs
    cases hw with
    | push ho h8 => simp [opensB] at ho; omega
    | turn s ho h18' hl =>
      have hsam := else_same r2 hk2 (17, s, (e1.length : Int)) (by simp) (by simp only []; omega)
      have hlat := (later r2 hk2).1 (17, s, (e1.length : Int)) (by simp)
      obtain ⟨w, hw1, hw2⟩ := hlat
      simp only [] at hsam hw1
      have hsk := (hI.ok.2 _ (List.mem_of_getLast? hl)).1
      simp only [] at hsk
      obtain ⟨y, hy, hy1⟩ := hI.ops _ (List.mem_of_getLast? hl)
      simp only [] at hy hy1
      refine ⟨s, w.toNat, y, by omega, by omega, ?_, hy1, by rw [hw1]; congr 1; omega, ?_⟩
      · rw [List.getElem?_take] at hy; split at hy
        · exact hy
        · cases hy
      · rw [show ((e1.length : Int)).toNat = k by omega] at hsam
        rw [hsam, hw1]; congr 1; omega
    | shut p s t ho h19 hl => omega
    | plain ho h18' h19 => exact absurd h18 h18'
/-- what an end is the end of -/
theorem end_of {xs : List Stp} {e d : List Int} (h : nestO xs = some (e, d)) {k : Nat} {x : Stp} (hx : xs[k]? = some x) : (x.1 = 19 → ∃ i : Nat, e[k]? = some (i : Int) ∧ i < k) ∧ (opensB x.1 = false → x.1 ≠ 18 → x.1 ≠ 19 → e[k]? = some (-1)) := by
  have hk := (List.getElem?_eq_some_iff.1 hx).1
  have hr := nestO_run h
  rw [split_at hx] at hr
  obtain ⟨o1, e1, d1, r1, r2⟩ := runN_append hr
  have hI := Inv.run Inv.nil r1
  simp only [List.nil_append] at hI
  have hle : e1.length = k := by rw [hI.le]; simp; omega
  cases hs : stp x o1 e1 with
  | none => rw [runN_snoc_none hs] at r2; cases r2
  | some p =>
    obtain ⟨o2, e2⟩ := p
    rw [runN_snoc_some hs] at r2
    have hk2 := stp_ok hs hI.ok
    have hw := stp_went hs
    have hl2 := stp_length hs
    have lat := (later r2 hk2).2
    cases hw with
    | push ho h8 => exact ⟨fun h => by simp [opensB] at ho; omega, fun h => by rw [ho] at h; cases h⟩
    | turn s ho h18' hl => exact ⟨fun h => by omega, fun _ h => absurd h18' h⟩
    | shut p s t ho h19 hl =>
      refine ⟨fun _ => ?_, fun _ _ h => absurd h19 h⟩
      have hz := hI.ok.2 _ (List.mem_of_getLast? hl)
      simp only [] at hz
      have ht : t = -1 ∨ 0 ≤ t := by have := hz.2.1; omega
      have hg := lat k (by omega) (fun q hq => by
        have h1 := hk2.2 q hq
        have la := okO_lastlt hI.ok hl q hq
        have lb := okO_lastlt2 hI.ok hl q hq
        exact ⟨by omega, by omega⟩)
      rw [putE_at _ _ _ _ _ (by simp; omega) ht, if_neg (by have := hz.2.1; omega), List.getElem?_append_right (by omega), hle] at hg
      simp at hg
      exact ⟨s, hg, by omega⟩
    | plain ho h18' h19 =>
      refine ⟨fun h => absurd h h19, fun _ _ _ => ?_⟩
      have hg := lat k (by omega) (fun q hq => by
        have h1 := hI.ok.2 q hq
        exact ⟨by omega, by have := h1.2.1; omega⟩)
      rw [List.getElem?_append_right (by omega), hle] at hg
      simpa using hg
/-- what has the end of what opens, within it, is its WElse -/
theorem else_only {xs : List Stp} {e d : List Int} (h : nestO xs = some (e, d)) {s p j : Nat} {x : Stp} (hp : e[p]? = some (s : Int)) (hsj : s < j) (hjp : j < p) (hx : xs[j]? = some x) (he : e[j]? = some (p : Int)) : x.1 = 18 := by
  by_cases ho : opensB x.1 = true
  · obtain ⟨p', n, z, h1, h2, h3, _⟩ := span h hx ho
    rw [he] at h1
    obtain rfl : p = p' := by have := Option.some.inj h1; omega
    rw [hp] at h3
    have := Option.some.inj h3
    omega
  · by_cases h18 : x.1 = 18
    · exact h18
    · by_cases h19 : x.1 = 19
      · obtain ⟨i, h1, h2⟩ := (end_of h hx).1 h19
        rw [he] at h1
        have := Option.some.inj h1
        omega
      · have h1 := (end_of h hx).2 (by simpa using ho) h18 h19
        rw [he] at h1
        have := Option.some.inj h1
        omega
theorem othN_spec (e : List Int) (p : Int) (f j : Nat) : j ≤ othN e p f j ∧ othN e p f j ≤ j + f ∧ (othN e p f j < j + f → e[othN e p f j]?.getD 0 = p) := by
  induction f generalizing j with
  | zero => simp [othN]
  | succ f ih =>
    unfold othN
    split
    · rename_i h; exact ⟨Nat.le_refl _, by omega, fun _ => h⟩
    · obtain ⟨h1, h2, h3⟩ := ih (j + 1)
      exact ⟨by omega, by omega, fun h => h3 (by omega)⟩

/-- the way out leaves a machine as it must stand -/
theorem leave_ok {xs : List Stp} {e d hs : List Int} {rs : List Bool} (v : Vld xs e d hs rs) {c : Cf} (k : Okc xs hs rs c) {x : Stp} (hx : xs[c.pc]? = some x) {st : List Int} (hst : wds st) (hlen : (st.length : Int) = (c.st.length : Int) - offN x.1) {dep : Int} {n : Nat} (hd : d[c.pc]? = some (n : Int)) (hdep : dep ≤ n) :
    Okc xs hs rs (leave xs e hs c st dep) ∧ ∃ (q : Nat) (b : Int), specT xs e c.pc c.pc dep.toNat = (q : Int) ∧ q ≤ xs.length ∧ hs[q]? = some b ∧ 0 ≤ b ∧ b ≤ st.length := by
  have hk := (List.getElem?_eq_some_iff.1 hx).1
  obtain ⟨o, o', h', d', m, t, G, hd', t', hv, h1, h2⟩ := k.tr v hx
  obtain ⟨q, b, q1, q2, q3, q4, q5, q6⟩ := v.target hk t hd dep.toNat (by omega)
  refine ⟨?_, q, b, q1, q2, q3, q4, by omega⟩
  unfold leave
  rw [q1]
  simp only [Int.toNat_natCast]
  refine ⟨q2, ?_, q6, wds_take hst, k.L8, k.M16, k.T100, k.L, k.M, k.T⟩
  simp only []
  rw [q3]
  congr 1
  simp only [Option.getD_some, List.length_take]
  omega

theorem off_of {op : Int} : (op = 1 ∨ op = 2 → offN op = 0 ∧ onN op = 1) ∧ (4 ≤ op ∧ op ≤ 9 → offN op = 2 ∧ onN op = 1) ∧ (op = 10 → offN op = 1 ∧ onN op = 1) ∧ (op = 11 → offN op = 2 ∧ onN op = 0) ∧ (op = 3 ∨ op = 12 ∨ op = 13 ∨ op = 17 ∨ op = 21 ∨ op = 22 → offN op = 1 ∧ onN op = 0) ∧ (op = 14 ∨ op = 15 ∨ op = 16 ∨ op = 18 ∨ op = 19 ∨ op = 20 → offN op = 0 ∧ onN op = 0) := by
  refine ⟨fun h => ?_, fun h => ?_, fun h => ?_, fun h => ?_, fun h => ?_, fun h => ?_⟩
  · unfold offN onN; rw [if_pos h, if_pos h]; exact ⟨rfl, rfl⟩
  · unfold offN onN; rw [if_neg (by omega), if_pos h, if_neg (by omega), if_pos h]; exact ⟨rfl, rfl⟩
  · subst h; decide
  · subst h; decide
  · rcases h with rfl | rfl | rfl | rfl | rfl | rfl <;> decide
  · rcases h with rfl | rfl | rfl | rfl | rfl | rfl <;> decide

/-- a machine that stands as it must stands so behind each step that does not trap -/
theorem eff_ok {xs : List Stp} {e d hs : List Int} {rs : List Bool} (v : Vld xs e d hs rs) {c c' : Cf} (k : Okc xs hs rs c) {x : Stp} (hx : xs[c.pc]? = some x) (he : eff xs e hs c x = some c') : Okc xs hs rs c' := by
  have hk := (List.getElem?_eq_some_iff.1 hx).1
  have hneed := k.need v hx
  have hnext := k.next v hx
  obtain ⟨o, o', h', d', n, t, G, hd, t', hv, h1, h2⟩ := k.tr v hx
  obtain ⟨hone, hdn, hdt⟩ := within_dep v.nest hx hd
  obtain ⟨f1, f2, f3, f4, f5, f6⟩ := off_of (op := x.1)
  have hop : 1 ≤ x.1 ∧ x.1 ≤ 22 := by simp [oneS, isOpB] at hone; exact hone.1.1
  have hw := top_word k.st
  have hw1 := top_word (wds_drop k.st)
  have plain : ∀ (st L M T : List Int), (st.length : Int) = (c.st.length : Int) - offN x.1 + onN x.1 → (x.1 ≠ 14 ∧ x.1 ≠ 20 ∧ x.1 ≠ 22 ∧ x.1 ≠ 18) → wds st → L.length = 8 → M.length = 16 → T.length ≤ 100 → wds L → wds M → wds T → Okc xs hs rs ⟨c.pc + 1, st, L, M, T⟩ := by
    intro st L M T hl hne a1 a2 a3 a4 a5 a6 a7
    obtain ⟨g1, g2⟩ := hnext hne
    exact ⟨by simp only []; omega, by simp only []; rw [g1, hl], g2, a1, a2, a3, a4, a5, a6, a7⟩
  have hdl : 1 ≤ c.st.length → (c.st.dropLast.length : Int) = (c.st.length : Int) - 1 := fun h => by rw [List.length_dropLast]; omega
  have hdl2 : 2 ≤ c.st.length → (c.st.dropLast.dropLast.length : Int) = (c.st.length : Int) - 2 := fun h => by rw [List.length_dropLast, List.length_dropLast]; omega
  by_cases h : x.1 = 1
  · rw [eff_1 xs e hs c x h] at he
    cases he
    obtain ⟨z1, z2⟩ := f1 (.inl h)
    have hn : 0 ≤ x.2.1 ∧ x.2.1 ≤ 65535 := by
      have hfit : fitsB x.1 x.2.1 = true := by simp [oneS] at hone; exact hone.1.2
      rw [h] at hfit
      simpa [fitsB, mostN] using hfit
    exact plain _ _ _ _ (by simp; omega) (by omega) (wds_snoc k.st hn) k.L8 k.M16 k.T100 k.L k.M k.T
  have n0 := h
  clear h
  by_cases h : x.1 = 2
  · rw [eff_2 xs e hs c x h] at he
    cases he
    obtain ⟨z1, z2⟩ := f1 (.inr h)
    exact plain _ _ _ _ (by simp; omega) (by omega) (wds_snoc k.st (at_word k.L)) k.L8 k.M16 k.T100 k.L k.M k.T
  have n1 := h
  clear h
  by_cases h : x.1 = 3
  · rw [eff_3 xs e hs c x h] at he
    cases he
    obtain ⟨z1, z2⟩ := f5 (by omega)
    exact plain _ _ _ _ (by rw [hdl (by omega)]; omega) (by omega) (wds_drop k.st) (by simp [k.L8]) k.M16 k.T100 (wds_set k.L hw) k.M k.T
  have n2 := h
  clear h
  by_cases h : 4 ≤ x.1 ∧ x.1 ≤ 9
  · rw [eff_w xs e hs c x h] at he
    obtain ⟨z1, z2⟩ := f2 h
    split at he
    · cases he
      exact plain _ _ _ _ (by rw [List.length_append]; have := hdl2 (by omega); simp only [List.length_singleton]; omega) (by omega) (wds_snoc (wds_drop (wds_drop k.st)) (doN_range hw1 hw)) k.L8 k.M16 k.T100 k.L k.M k.T
    · cases he
  have n3 := h
  clear h
  by_cases h : x.1 = 10
  · rw [eff_10 xs e hs c x h] at he
    obtain ⟨z1, z2⟩ := f3 h
    split at he
    · cases he
      exact plain _ _ _ _ (by rw [List.length_append]; have := hdl (by omega); simp only [List.length_singleton]; omega) (by omega) (wds_snoc (wds_drop k.st) (at_word k.M)) k.L8 k.M16 k.T100 k.L k.M k.T
    · cases he
  have n4 := h
  clear h
  by_cases h : x.1 = 11
  · rw [eff_11 xs e hs c x h] at he
    obtain ⟨z1, z2⟩ := f4 h
    split at he
    · cases he
      exact plain _ _ _ _ (by rw [hdl2 (by omega)]; omega) (by omega) (wds_drop (wds_drop k.st)) k.L8 (by simp [k.M16]) k.T100 k.L (wds_set k.M hw) k.T
    · cases he
  have n5 := h
  clear h
  by_cases h : x.1 = 12
  · rw [eff_12 xs e hs c x h] at he
    obtain ⟨z1, z2⟩ := f5 (by omega)
    split at he
    · rename_i hT
      cases he
      exact plain _ _ _ _ (by rw [hdl (by omega)]; omega) (by omega) (wds_drop k.st) k.L8 k.M16 (by simp; omega) k.L k.M (wds_snoc k.T hw)
    · cases he
  have n6 := h
  clear h
  by_cases h : x.1 = 13
  · rw [eff_13 xs e hs c x h] at he
    cases he
    obtain ⟨z1, z2⟩ := f5 (by omega)
    exact plain _ _ _ _ (by rw [hdl (by omega)]; omega) (by omega) (wds_drop k.st) k.L8 k.M16 k.T100 k.L k.M k.T
  have n7 := h
  clear h
  by_cases h : x.1 = 14
  · rw [eff_14 xs e hs c x h] at he
    cases he
  have n8 := h
  clear h
  by_cases h : x.1 = 17
  · rw [eff_17 xs e hs c x h] at he
    cases he
    obtain ⟨z1, z2⟩ := f5 (by omega)
    by_cases h0 : top c.st = 0
    · rw [if_pos h0]
      obtain ⟨p, b, q1, q2, q3, q4, q5, q6, q7, q8, q9, q10⟩ := v.frame hx (by rw [h]; decide) t
      have hb : b = (c.st.length : Int) - 1 := by
        rw [q6, h]
        have : takeH 17 o c.st.length = (c.st.length : Int) - 1 := by unfold takeH; rw [← h, z1, if_neg (by omega)]
        rw [this]; simp [onN]
      have hsp := othN_spec e (e[c.pc]?.getD 0) ((e[c.pc]?.getD 0).toNat - (c.pc + 1)) (c.pc + 1)
      rw [q1] at hsp
      simp only [Option.getD_some, Int.toNat_natCast] at hsp
      have hoth : oth e c.pc = othN e (p : Int) (p - (c.pc + 1)) (c.pc + 1) := by unfold oth; rw [q1]; simp
      rw [← hoth] at hsp
      have fin : ∀ q o3, Tr xs (q + 1) o3 b false → q < xs.length → Okc xs hs rs ⟨q + 1, c.st.dropLast, c.L, c.M, c.T⟩ := by
        intro q o3 t3 hq
        obtain ⟨o4, h4, d4, t4, r1, r2, _⟩ := v.at (q + 1) (by omega)
        obtain ⟨_, rfl, rfl⟩ := t4.one t3
        exact ⟨by simp only []; omega, by simp only []; rw [r1, hdl (by omega), hb], fun hh => r2 hh, wds_drop k.st, k.L8, k.M16, k.T100, k.L, k.M, k.T⟩
      by_cases hj : oth e c.pc = p
      · rw [hj]
        exact fin p o q8 q3
      · have hjl : oth e c.pc < p := by omega
        have hje := hsp.2.2 (by omega)
        obtain ⟨y, hy⟩ : ∃ y, xs[oth e c.pc]? = some y := ⟨_, List.getElem?_eq_getElem (by omega)⟩
        have hje' : e[oth e c.pc]? = some (p : Int) := by
          cases hq : e[oth e c.pc]? with
          | none =>
            have hel := (nestO_length v.nest).1
            rw [List.getElem?_eq_none_iff] at hq
            omega
          | some w => rw [hq] at hje; simp at hje; rw [hje]
        have h18 := else_only v.nest q4 (show c.pc < oth e c.pc by omega) hjl hy hje'
        exact fin _ _ (q10 _ (by omega) hjl y hy h18 hje') (by omega)
    · rw [if_neg h0]
      exact plain _ _ _ _ (by rw [hdl (by omega)]; omega) (by omega) (wds_drop k.st) k.L8 k.M16 k.T100 k.L k.M k.T
  have n9 := h
  clear h
  by_cases h : x.1 = 18
  · rw [eff_18 xs e hs c x h] at he
    cases he
    obtain ⟨s, p, y, s1, s2, s3, s4, s5, s6⟩ := else_if v.nest hx h
    obtain ⟨os, hh, fs, ts, _⟩ := v.at s (by omega)
    obtain ⟨p', b, q1, q2, q3, q4, q5, q6, q7, q8, q9, q10⟩ := v.frame s3 (by rw [s4]; decide) ts
    obtain rfl : p = p' := by rw [s5] at q1; have := Option.some.inj q1; omega
    obtain ⟨kk, i, w, z1, z2, r1, r2, r3, r4, r5, r6, r7, r8⟩ := (pairs v.nest).2 c.pc x hx h
    obtain rfl : p = kk := by rw [s6] at r1; have := Option.some.inj r1; omega
    obtain ⟨pp, nn, zz, g1, g2, g3, g4, g5, g6, g7, g8⟩ := span v.nest s3 (by rw [s4]; decide)
    obtain rfl : p = pp := by rw [s5] at g1; have := Option.some.inj g1; omega
    have hdk : d[c.pc]? = some ((nn + 1 : Nat) : Int) := by rw [r7, ← r8, g7]
    have hol := v.lenAt hk hdk t
    have hosl := v.lenAt (by omega) g6 ts
    have hpre := q9 c.pc s1 (by omega) _ _ _ t
    rw [List.take_of_length_le (by omega)] at hpre
    subst hpre
    have hfs := G.live rfl
    rw [inn_snoc] at hfs
    simp only [] at hfs
    subst hfs
    unfold vlead at hv
    rw [if_neg (by omega), if_neg (by rw [h]; decide), if_pos h, inn_snoc] at hv
    obtain ⟨z3, z4⟩ := f6 (by omega)
    split at hv
    · rename_i hbe
      obtain ⟨o4, h4, d4, t4, u1, u2, _⟩ := v.at (p + 1) (by omega)
      obtain ⟨_, rfl, rfl⟩ := t4.one q8
      have hpc : (e[c.pc]?.getD 0).toNat + 1 = p + 1 := by rw [s6]; simp
      refine ⟨by simp only []; omega, ?_, ?_, k.st, k.L8, k.M16, k.T100, k.L, k.M, k.T⟩
      · simp only []; rw [hpc, u1]; congr 1; simp only [] at hbe; omega
      · simp only []; rw [hpc]; intro hh; exact u2 hh
    · cases hv
  have n10 := h
  clear h
  by_cases h : x.1 = 20
  · rw [eff_20 xs e hs c x h] at he
    cases he
    obtain ⟨z1, z2⟩ := f6 (by omega)
    exact (leave_ok v k hx k.st (by omega) hd (hdn (by omega))).1
  have n11 := h
  clear h
  by_cases h : x.1 = 21
  · rw [eff_21 xs e hs c x h] at he
    cases he
    obtain ⟨z1, z2⟩ := f5 (by omega)
    by_cases h0 : top c.st = 0
    · rw [if_pos h0]
      exact plain _ _ _ _ (by rw [hdl (by omega)]; omega) (by omega) (wds_drop k.st) k.L8 k.M16 k.T100 k.L k.M k.T
    · rw [if_neg h0]
      exact (leave_ok v k hx (wds_drop k.st) (by rw [hdl (by omega)]; omega) hd (hdn (by omega))).1
  have n12 := h
  clear h
  by_cases h : x.1 = 22
  · rw [eff_22 xs e hs c x h] at he
    cases he
    obtain ⟨z1, z2⟩ := f5 (by omega)
    refine (leave_ok v k hx (wds_drop k.st) (by rw [hdl (by omega)]; omega) hd ?_).1
    split
    · cases ht : x.2.2[(top c.st).toNat]? with
      | none => simp
      | some w => exact hdt w (List.mem_of_getElem? ht)
    · exact hdn (by omega)
  have n13 := h
  clear h
  rw [eff_n xs e hs c x (by omega)] at he
  cases he
  obtain ⟨z1, z2⟩ := f6 (by omega)
  exact plain _ _ _ _ (by omega) (by omega) k.st k.L8 k.M16 k.T100 k.L k.M k.T
end Go.Proofs.YthkkhinmdlmhkaaDoor
