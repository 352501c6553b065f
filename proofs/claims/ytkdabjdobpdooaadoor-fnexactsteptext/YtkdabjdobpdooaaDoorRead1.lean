/- What reading one step tells, by the program. -/
import Derived.Test.YtkdabjdobpdooaaDoorReadMath
import Derived.Test.YtkdabjdobpdooaaDoorMark
namespace Go.Proofs.YtkdabjdobpdooaaDoor
open Go.RowKit
set_option linter.unusedVariables false
set_option linter.unusedSimpArgs false
set_option maxRecDepth 100000

theorem tellsN_any (op : Int) (w : World) (h : isOpB op = true) (hT : Tab w) : Calls Tryd.prog 48 #[.int .i64 op] w fun e w' => e = .returned (.bool (hasN op)) ∧ w' = w := by
  have hb : 1 ≤ op ∧ op ≤ 22 := by simpa [isOpB] using h
  obtain ⟨k, rfl⟩ := Int.eq_ofNat_of_zero_le (show 0 ≤ op by omega)
  obtain ⟨_, hc⟩ := hT k (by omega)
  obtain ⟨m, hm⟩ : ∃ m : Int, mostN k = m := ⟨_, rfl⟩
  rw [hm] at hc
  have hk : k ≤ 22 := by omega
  clear h hT hb
  go_enter Tryd.func48, Tryd.ntmps48
  go_wp2
  go_ret
  exact ⟨ret_bool (by simp [hasN, hm]), rfl⟩

/-- what reading one step answers -/
def stepAns (B : Nat) (w' : World) (op : Int) (r : RS) (e : Ending) : Prop := match r with
  | .bad c => e = .returned (.tuple #[.agg #[.int .i64 0, .int .i64 0, .slice none 0 0], .int .i64 0, .int .i64 c])
  | .ok n t e2 => ∃ ta tc, e = .returned (.tuple #[.agg #[.int .i64 op, .int .i64 n, .slice ta t.length tc], .int .i64 e2, .int .i64 0]) ∧ w'.ownsRow B 3 1 (.slice ta t.length tc) t.length (ints t)

theorem rdStep_noop {s : ByteArray} {at' : Nat} {op : Int} (h : isOpB op = false) : rdStep s at' op = .bad 2 := by simp [rdStep, h]
theorem rdStep_plain {s : ByteArray} {at' : Nat} {op : Int} (h : isOpB op = true) (h2 : op ≠ 22) : rdStep s at' op = rdN s op [] (at' + 1) := by simp [rdStep, h, h2]
theorem rdStep_tab0 {s : ByteArray} {k : Nat} (h : vecOf s ((k + 1 : Nat) : Int) = none) : rdStep s k 22 = .bad 1 := by
  have : isOpB 22 = true := by decide
  unfold rdStep; rw [if_pos this, if_pos rfl, h]
theorem rdStep_tab1 {s : ByteArray} {k : Nat} {t : List Int} {e : Nat} (h : vecOf s ((k + 1 : Nat) : Int) = some (t, e)) : rdStep s k 22 = rdN s 22 t e := by
  have : isOpB 22 = true := by decide
  unfold rdStep; rw [if_pos this, if_pos rfl, h]
theorem rdN_no {s : ByteArray} {op : Int} {t : List Int} {e : Nat} (h : hasN op = false) : rdN s op t e = .ok 0 t e := by simp [rdN, h]
theorem rdN_none {s : ByteArray} {op : Int} {t : List Int} {e : Nat} (h : hasN op = true) (hr : resU s e = none) : rdN s op t e = .bad 1 := by unfold rdN; rw [if_pos h, hr]
theorem rdN_some {s : ByteArray} {op : Int} {t : List Int} {e : Nat} {n : Int} {e2 : Nat} (h : hasN op = true) (hr : resU s e = some (n, e2)) : rdN s op t e = .ok n t e2 := by unfold rdN; rw [if_pos h, hr]

set_option maxHeartbeats 4000000 in
theorem readStep_any (s : ByteArray) (k : Nat) (w : World) (hs : s.size ≤ 400) (hk : k < s.size) (hT : Tab w) :
    Calls Tryd.prog 55 #[.string s, .int .i64 k] w fun e w' => stepAns w.heap.size w' (opAt s k) (rdStep s k (opAt s k)) e ∧ Below w.heap.size w w' := by
  have HT : Hid (∀ w', Below w.heap.size w w' → Tab w') := fun w' hb => hT.below hb
  clear hT
  have hbe := opAt_eq s k hk
  obtain ⟨b, hb⟩ : ∃ b, opAt s k = b := ⟨_, rfl⟩
  rw [hb] at hbe ⊢
  have hb0 : 0 ≤ b ∧ b ≤ 255 := by have := s[k].toNat_lt; omega
  have hw : wrap64 b = b := by have : wrap64 (s[k].toNat : Int) = s[k].toNat := wrap8 _; rw [hbe] at this; exact this
  obtain ⟨h0, h255⟩ := hb0
  clear hb
  have hop := fun w => isOp_any b w
  cases h1 : isOpB b with
  | false =>
    rw [h1] at hop
    rw [rdStep_noop h1]
    clear h1
    go_enter Tryd.func55, Tryd.ntmps55
    go_wp2_with (go_at_call 83; refine (hop _).mono ?_; rintro e' w' ⟨rfl, hw'⟩; subst w')
    exact bodyPost_ret (v := .tuple #[.agg #[.int .i64 0, .int .i64 0, .slice none 0 0], .int .i64 0, .int .i64 2]) (by simp [results, Tryd.results55, go_sem, *]) rfl ⟨rfl, below2 w _ _⟩
  | true =>
    rw [h1] at hop
    have HOP : Hid (isOpB b = true) := h1
    have htn := fun w' hb => tellsN_any b w' h1 (HT.out w' hb)
    by_cases h22 : b = 22
    · subst h22
      have hN : hasN 22 = true := by decide
      rw [hN] at htn
      have HTN : Hid (_) := htn
      clear htn h1
      have htv := fun w => iTakeVec_any s ((k + 1 : Nat) : Int) w (by omega)
      have ek : ((k + 1 : Nat) : Int) = (k : Int) + 1 := by omega
      cases hv : vecOf s ((k + 1 : Nat) : Int) with
      | none =>
        rw [rdStep_tab0 hv]
        rw [hv, ek] at htv
        have HTV : Hid (∀ w, Calls Tryd.prog 84 #[.string s, .int .i64 ((k : Int) + 1)] w fun e w' => e = .returned (.tuple #[.slice none 0 0, .int .i64 0, .bool false]) ∧ Below w.heap.size w w') := htv
        clear htv ek hv
        go_enter Tryd.func55, Tryd.ntmps55
        go_wp2_with (go_at_call 83; refine (hop _).mono ?_; rintro e' w' ⟨rfl, hw'⟩; subst w')
        refine (HTV.out _).mono ?_
        rintro e' w1 ⟨rfl, hb1⟩
        obtain ⟨hc, hf⟩ := bcell hb1
        have m0 : w1.cell? ⟨w.heap.size + 1, 0, none⟩ = some (.int .i64 22) := by rw [hc _ _ (by simp <;> omega)]; simp [go_sem]
        have g0 : w1.frozen? ⟨w.heap.size + 1, 0, none⟩ = false := by rw [hf _ _ (by simp <;> omega)]; simp [go_sem]
        have m1 : w1.cell? ⟨w.heap.size + 1, 1, none⟩ = some (.int .i64 0) := by rw [hc _ _ (by simp <;> omega)]; simp [go_sem]
        have g1 : w1.frozen? ⟨w.heap.size + 1, 1, none⟩ = false := by rw [hf _ _ (by simp <;> omega)]; simp [go_sem]
        have m2 : w1.cell? ⟨w.heap.size + 1, 2, none⟩ = some (.slice none 0 0) := by rw [hc _ _ (by simp <;> omega)]; simp [go_sem]
        have g2 : w1.frozen? ⟨w.heap.size + 1, 2, none⟩ = false := by rw [hf _ _ (by simp <;> omega)]; simp [go_sem]
        have o0 : w1.cell? ⟨w.heap.size, 0, none⟩ = some (.int .i64 0) := by rw [hc _ _ (by simp <;> omega)]; simp [go_sem]
        have q0 : w1.frozen? ⟨w.heap.size, 0, none⟩ = false := by rw [hf _ _ (by simp <;> omega)]; simp [go_sem]
        have o1 : w1.cell? ⟨w.heap.size, 1, none⟩ = some (.int .i64 0) := by rw [hc _ _ (by simp <;> omega)]; simp [go_sem]
        have q1 : w1.frozen? ⟨w.heap.size, 1, none⟩ = false := by rw [hf _ _ (by simp <;> omega)]; simp [go_sem]
        have o2 : w1.cell? ⟨w.heap.size, 2, none⟩ = some (.slice none 0 0) := by rw [hc _ _ (by simp <;> omega)]; simp [go_sem]
        have q2 : w1.frozen? ⟨w.heap.size, 2, none⟩ = false := by rw [hf _ _ (by simp <;> omega)]; simp [go_sem]
        clear hc hf
        have HB : Hid (Below w.heap.size w w1) := bstep' (below2 w _ _) hb1
        clear hb1
        go_wp2
        refine bodyPost_ret (v := .tuple #[.agg #[.int .i64 0, .int .i64 0, .slice none 0 0], .int .i64 0, .int .i64 1]) (by simp [results, Tryd.results55, go_sem, *]) rfl ⟨rfl, ?_⟩
        exact below_set3 (HB.out.setCell (p := ⟨w.heap.size + 1, 2, none⟩) (by simp) _) w.heap.size (Nat.le_refl _) _ _ _
      | some te =>
        obtain ⟨t, e1⟩ := te
        rw [rdStep_tab1 hv]
        rw [hv, ek] at htv
        have hva := vec_ahead hv
        have htk := fun w => iTakeU_any s (e1 : Int) w (by omega)
        have HTV : Hid (∀ w, Calls Tryd.prog 84 #[.string s, .int .i64 ((k : Int) + 1)] w fun e w' => (∃ v, e = .returned (.tuple #[v, .int .i64 e1, .bool true]) ∧ w'.ownsRow w.heap.size 3 1 v t.length (ints t)) ∧ Below w.heap.size w w') := htv
        clear htv ek hv
        cases hr : resU s (e1 : Int) with
        | none =>
          rw [rdN_none hN hr]
          rw [hr] at htk
          have HTK : Hid (∀ w, Calls Tryd.prog 85 #[.string s, .int .i64 e1] w fun e w' => e = .returned (takeV none) ∧ w' = w) := htk
          clear htk hr hN
          go_enter Tryd.func55, Tryd.ntmps55
          go_wp2_with (go_at_call 83; refine (hop _).mono ?_; rintro e' w' ⟨rfl, hw'⟩; subst w')
          refine (HTV.out _).mono ?_
          rintro e' w1 ⟨⟨v, rfl, hown⟩, hb1⟩
          obtain ⟨va, vc, rfl, hrow⟩ := Row.of_owned hown
          obtain ⟨hc, hf⟩ := bcell hb1
          have m0 : w1.cell? ⟨w.heap.size + 1, 0, none⟩ = some (.int .i64 22) := by rw [hc _ _ (by simp <;> omega)]; simp [go_sem]
          have g0 : w1.frozen? ⟨w.heap.size + 1, 0, none⟩ = false := by rw [hf _ _ (by simp <;> omega)]; simp [go_sem]
          have m1 : w1.cell? ⟨w.heap.size + 1, 1, none⟩ = some (.int .i64 0) := by rw [hc _ _ (by simp <;> omega)]; simp [go_sem]
          have g1 : w1.frozen? ⟨w.heap.size + 1, 1, none⟩ = false := by rw [hf _ _ (by simp <;> omega)]; simp [go_sem]
          have m2 : w1.cell? ⟨w.heap.size + 1, 2, none⟩ = some (.slice none 0 0) := by rw [hc _ _ (by simp <;> omega)]; simp [go_sem]
          have g2 : w1.frozen? ⟨w.heap.size + 1, 2, none⟩ = false := by rw [hf _ _ (by simp <;> omega)]; simp [go_sem]
          have o0 : w1.cell? ⟨w.heap.size, 0, none⟩ = some (.int .i64 0) := by rw [hc _ _ (by simp <;> omega)]; simp [go_sem]
          have q0 : w1.frozen? ⟨w.heap.size, 0, none⟩ = false := by rw [hf _ _ (by simp <;> omega)]; simp [go_sem]
          have o1 : w1.cell? ⟨w.heap.size, 1, none⟩ = some (.int .i64 0) := by rw [hc _ _ (by simp <;> omega)]; simp [go_sem]
          have q1 : w1.frozen? ⟨w.heap.size, 1, none⟩ = false := by rw [hf _ _ (by simp <;> omega)]; simp [go_sem]
          have o2 : w1.cell? ⟨w.heap.size, 2, none⟩ = some (.slice none 0 0) := by rw [hc _ _ (by simp <;> omega)]; simp [go_sem]
          have q2 : w1.frozen? ⟨w.heap.size, 2, none⟩ = false := by rw [hf _ _ (by simp <;> omega)]; simp [go_sem]
          clear hc hf
          have HB : Hid (Below w.heap.size w w1) := bstep' (below2 w _ _) hb1
          clear hb1 hown hrow
          go_wp2_with (first | (go_at_call 48; refine (HTN.out _ (HB.out.setCell (p := ⟨w.heap.size + 1, 2, none⟩) (by simp) _)).mono ?_; rintro e' w' ⟨rfl, hw'⟩; subst w') | (go_at_call 85; refine (HTK.out _).mono ?_; rintro e' w' ⟨rfl, hw'⟩; subst w'; unfold takeV))
          refine bodyPost_ret (v := .tuple #[.agg #[.int .i64 0, .int .i64 0, .slice none 0 0], .int .i64 0, .int .i64 1]) (by simp [results, Tryd.results55, go_sem, *]) rfl ⟨rfl, ?_⟩
          exact below_set3 ((HB.out.setCell (p := ⟨w.heap.size + 1, 2, none⟩) (by simp) _).setCell (p := ⟨w.heap.size + 1, 1, none⟩) (by simp) _) w.heap.size (Nat.le_refl _) _ _ _
        | some ne =>
          obtain ⟨n, e2⟩ := ne
          obtain ⟨hp0, hp1, hp2⟩ := resU_pos _ _ _ _ hr
          rw [rdN_some hN hr]
          rw [hr] at htk
          have HTK : Hid (∀ w, Calls Tryd.prog 85 #[.string s, .int .i64 e1] w fun e w' => e = .returned (takeV (some (n, e2))) ∧ w' = w) := htk
          clear htk hr hN
          go_enter Tryd.func55, Tryd.ntmps55
          go_wp2_with (go_at_call 83; refine (hop _).mono ?_; rintro e' w' ⟨rfl, hw'⟩; subst w')
          refine (HTV.out _).mono ?_
          rintro e' w1 ⟨⟨v, rfl, hown⟩, hb1⟩
          obtain ⟨va, vc, rfl, hrow⟩ := Row.of_owned hown
          obtain ⟨hc, hf⟩ := bcell hb1
          have m0 : w1.cell? ⟨w.heap.size + 1, 0, none⟩ = some (.int .i64 22) := by rw [hc _ _ (by simp <;> omega)]; simp [go_sem]
          have g0 : w1.frozen? ⟨w.heap.size + 1, 0, none⟩ = false := by rw [hf _ _ (by simp <;> omega)]; simp [go_sem]
          have m1 : w1.cell? ⟨w.heap.size + 1, 1, none⟩ = some (.int .i64 0) := by rw [hc _ _ (by simp <;> omega)]; simp [go_sem]
          have g1 : w1.frozen? ⟨w.heap.size + 1, 1, none⟩ = false := by rw [hf _ _ (by simp <;> omega)]; simp [go_sem]
          have m2 : w1.cell? ⟨w.heap.size + 1, 2, none⟩ = some (.slice none 0 0) := by rw [hc _ _ (by simp <;> omega)]; simp [go_sem]
          have g2 : w1.frozen? ⟨w.heap.size + 1, 2, none⟩ = false := by rw [hf _ _ (by simp <;> omega)]; simp [go_sem]
          have o0 : w1.cell? ⟨w.heap.size, 0, none⟩ = some (.int .i64 0) := by rw [hc _ _ (by simp <;> omega)]; simp [go_sem]
          have q0 : w1.frozen? ⟨w.heap.size, 0, none⟩ = false := by rw [hf _ _ (by simp <;> omega)]; simp [go_sem]
          have o1 : w1.cell? ⟨w.heap.size, 1, none⟩ = some (.int .i64 0) := by rw [hc _ _ (by simp <;> omega)]; simp [go_sem]
          have q1 : w1.frozen? ⟨w.heap.size, 1, none⟩ = false := by rw [hf _ _ (by simp <;> omega)]; simp [go_sem]
          have o2 : w1.cell? ⟨w.heap.size, 2, none⟩ = some (.slice none 0 0) := by rw [hc _ _ (by simp <;> omega)]; simp [go_sem]
          have q2 : w1.frozen? ⟨w.heap.size, 2, none⟩ = false := by rw [hf _ _ (by simp <;> omega)]; simp [go_sem]
          clear hc hf
          have HB : Hid (Below w.heap.size w w1) := bstep' (below2 w _ _) hb1
          have HO : Hid (w1.ownsRow (w.heap.size + 1 + 1) 3 1 (.slice va t.length vc) t.length (ints t)) := by simp at hown; exact hown
          clear hb1 hown hrow
          go_wp2_with (first | (go_at_call 48; refine (HTN.out _ (HB.out.setCell (p := ⟨w.heap.size + 1, 2, none⟩) (by simp) _)).mono ?_; rintro e' w' ⟨rfl, hw'⟩; subst w') | (go_at_call 85; refine (HTK.out _).mono ?_; rintro e' w' ⟨rfl, hw'⟩; subst w'; unfold takeV))
          refine bodyPost_ret (v := .tuple #[.agg #[.int .i64 22, .int .i64 n, .slice va t.length vc], .int .i64 e2, .int .i64 0]) (by simp [results, Tryd.results55, go_sem, *]) rfl ⟨⟨va, vc, rfl, ?_⟩, ?_⟩
          · refine owns_mono (B := w.heap.size + 1 + 1) ?_ (by omega)
            exact ownsRow_setCell_below (ownsRow_setCell_below (ownsRow_setCell_below (ownsRow_setCell_below (ownsRow_setCell_below HO.out (by simp) _) (by simp) _) (by simp <;> omega) _) (by simp <;> omega) _) (by simp <;> omega) _
          · exact below_set3 ((HB.out.setCell (p := ⟨w.heap.size + 1, 2, none⟩) (by simp) _).setCell (p := ⟨w.heap.size + 1, 1, none⟩) (by simp) _) w.heap.size (Nat.le_refl _) _ _ _
    · rw [rdStep_plain h1 h22]
      cases hN : hasN b with
      | false =>
        rw [hN] at htn
        rw [rdN_no hN]
        have HTN : Hid (_) := htn
        clear htn h1 hN
        go_enter Tryd.func55, Tryd.ntmps55
        go_wp2_with (first | (go_at_call 83; refine (hop _).mono ?_; rintro e' w' ⟨rfl, hw'⟩; subst w') | (go_at_call 48; refine (HTN.out _ (below2 w _ _)).mono ?_; rintro e' w' ⟨rfl, hw'⟩; subst w'))
        refine bodyPost_ret (v := .tuple #[.agg #[.int .i64 b, .int .i64 0, .slice none 0 0], .int .i64 ((k : Int) + 1), .int .i64 0]) (by simp [results, Tryd.results55, go_sem, *]) rfl ⟨⟨none, 0, rfl, World.ownsRow_nil _ _ _ _⟩, ?_⟩
        exact below2 w _ _
      | true =>
        rw [hN] at htn
        have htk := fun w => iTakeU_any s ((k + 1 : Nat) : Int) w (by omega)
        have ek : ((k + 1 : Nat) : Int) = (k : Int) + 1 := by omega
        cases hr : resU s ((k + 1 : Nat) : Int) with
        | none =>
          rw [rdN_none hN hr]
          rw [hr, ek] at htk
          have HTN : Hid (_) := htn
          have HTK : Hid (∀ w, Calls Tryd.prog 85 #[.string s, .int .i64 ((k : Int) + 1)] w fun e w' => e = .returned (takeV none) ∧ w' = w) := htk
          clear htn h1 hN htk ek hr
          go_enter Tryd.func55, Tryd.ntmps55
          go_wp2_with (first | (go_at_call 83; refine (hop _).mono ?_; rintro e' w' ⟨rfl, hw'⟩; subst w') | (go_at_call 48; refine (HTN.out _ (below2 w _ _)).mono ?_; rintro e' w' ⟨rfl, hw'⟩; subst w') | (go_at_call 85; refine (HTK.out _).mono ?_; rintro e' w' ⟨rfl, hw'⟩; subst w'; unfold takeV))
          exact bodyPost_ret (v := .tuple #[.agg #[.int .i64 0, .int .i64 0, .slice none 0 0], .int .i64 0, .int .i64 1]) (by simp [results, Tryd.results55, go_sem, *]) rfl ⟨rfl, below2 w _ _⟩
        | some ne =>
          obtain ⟨n, e2⟩ := ne
          have hpos := resU_pos _ _ _ _ hr
          rw [rdN_some hN hr]
          rw [hr, ek] at htk
          have HTN : Hid (_) := htn
          have HTK : Hid (∀ w, Calls Tryd.prog 85 #[.string s, .int .i64 ((k : Int) + 1)] w fun e w' => e = .returned (takeV (some (n, e2))) ∧ w' = w) := htk
          obtain ⟨hp0, hp1, hp2⟩ := hpos
          clear htn h1 hN htk ek hr
          go_enter Tryd.func55, Tryd.ntmps55
          go_wp2_with (first | (go_at_call 83; refine (hop _).mono ?_; rintro e' w' ⟨rfl, hw'⟩; subst w') | (go_at_call 48; refine (HTN.out _ (below2 w _ _)).mono ?_; rintro e' w' ⟨rfl, hw'⟩; subst w') | (go_at_call 85; refine (HTK.out _).mono ?_; rintro e' w' ⟨rfl, hw'⟩; subst w'; unfold takeV))
          refine bodyPost_ret (v := .tuple #[.agg #[.int .i64 b, .int .i64 n, .slice none 0 0], .int .i64 e2, .int .i64 0]) (by simp [results, Tryd.results55, go_sem, *]) rfl ⟨⟨none, 0, rfl, World.ownsRow_nil _ _ _ _⟩, ?_⟩
          exact below2 w _ _
end Go.Proofs.YtkdabjdobpdooaaDoor
