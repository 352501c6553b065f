/- What the program makes of a step of good code while it goes through it. -/
import Derived.Test.YthkkhinmdlmhkaaDoorWk3
import Derived.Test.YthkkhinmdlmhkaaDoorWk4
namespace Go.Proofs.YthkkhinmdlmhkaaDoor
open Go.RowKit
set_option linter.unusedVariables false
set_option linter.unusedSimpArgs false
set_option maxRecDepth 100000

/-- what a step comes to, in memory -/
def vAns (B : Nat) (w' : World) (nb : Nat) (hv rv : Value) (hs : List Int) (rs : List Bool) (S : Nat → Addr) (e : Ending) : VR → Prop
  | .bad c => e = .returned (errV S c) ∧ 1 ≤ c ∧ c ≤ 4
  | .go o' h' d' => e = .returned .nilIface ∧ ∃ ov', WS B w' nb ov' h' d' hv rv o' hs rs

theorem lead_any (B nb : Nat) (ov : Value) (h : Int) (d : Bool) (hv rv : Value) (o : List Frm) (hs : List Int) (rs : List Bool) (S : Nat → Addr) (w : World) (k : WS B w nb ov h d hv rv o hs rs) (hE : Errs w S) (h0 : 0 < o.length) (h9 : o.length ≤ 9) (op : Int) :
    Calls Tryd.prog 92 #[.pointer (some ⟨nb, 0, none⟩), .int .i64 op] w fun e w' => vAns B w' nb hv rv hs rs S e (vlead op o h d) ∧ Below B w w' := by
  have hB : B ≤ w.heap.size := by have := k.low; have := k.lt; omega
  unfold vlead
  by_cases hp : op = 14 ∨ op = 20 ∨ op = 22
  · rw [if_pos hp]
    exact (lead_stop B nb ov h d hv rv o hs rs w k h0 h9 op hp).mono fun e w' ⟨h1, h2, h3⟩ => ⟨⟨h1, _, h2⟩, h3⟩
  · rw [if_neg hp]
    by_cases ho : opensB op = true
    · rw [if_pos ho]
      have ho' : op = 15 ∨ op = 16 ∨ op = 17 := by simp [opensB] at ho; omega
      exact (lead_push B nb ov h d hv rv o hs rs w k h0 h9 op ho').mono fun e w' ⟨h1, h2, h3⟩ => ⟨⟨h1, h2⟩, h3⟩
    · rw [if_neg ho]
      by_cases h18 : op = 18
      · subst h18
        rw [if_pos rfl]
        by_cases he : h = (inn o).1
        · rw [if_pos he]
          exact (lead_else B nb ov h d hv rv o hs rs S w k hE h0 h9 he).mono fun e w' ⟨h1, h2, h3⟩ => ⟨⟨h1, _, h2⟩, h3⟩
        · rw [if_neg he]
          exact (lead_rest B nb ov h d hv rv o hs rs S w k hE h0 h9 18 (.inl rfl) he).mono fun e w' ⟨h1, h2⟩ => ⟨⟨h1, by omega, by omega⟩, h2.mono hB⟩
      · rw [if_neg h18]
        by_cases h19 : op = 19
        · subst h19
          rw [if_pos rfl]
          by_cases he : h = (inn o).1
          · rw [if_pos he]
            exact (lead_end B nb ov h d hv rv o hs rs S w k hE h0 h9 he).mono fun e w' ⟨h1, h2, h3⟩ => ⟨⟨h1, h2⟩, h3⟩
          · rw [if_neg he]
            exact (lead_rest B nb ov h d hv rv o hs rs S w k hE h0 h9 19 (.inr rfl) he).mono fun e w' ⟨h1, h2⟩ => ⟨⟨h1, by omega, by omega⟩, h2.mono hB⟩
        · rw [if_neg h19]
          have ho' : op ≠ 15 ∧ op ≠ 16 ∧ op ≠ 17 := by simp [opensB] at ho; omega
          exact (lead_plain B nb ov h d hv rv o hs rs w k h0 h9 op (by omega) (by omega) (by omega) ho'.1 ho'.2.1 ho'.2.2 h18 h19).mono fun e w' ⟨h1, h2, h3⟩ => ⟨⟨h1, _, h2⟩, h3⟩

theorem Errs.grown {w w' : World} {S : Nat → Addr} {nb : Nat} (h : Errs w S) (hg : w.grownBy w' (some nb)) (hn : ∀ k, 1 ≤ k → k ≤ 4 → eb k ≠ nb ∧ (S k).block ≠ nb) : Errs w' S :=
  ⟨fun k h1 h2 => by rw [hg.cell_far _ (World.block_lt_of_cell? w _ (h.cell k h1 h2)) (by intro e; injection e with e; exact (hn k h1 h2).1 e)]; exact h.cell k h1 h2,
   fun k h1 h2 => by obtain ⟨c, t, e⟩ := h.blk k h1 h2; exact ⟨c, t, by rw [hg.block _ (Array.getElem?_eq_some_iff.1 e).1 (by intro e; injection e with e; exact (hn k h1 h2).2 e)]; exact e⟩, h.inj⟩

set_option maxHeartbeats 4000000 in
/-- the program's pass -/
theorem wkPass_any (B nb : Nat) (ov : Value) (h : Int) (d : Bool) (hv rv : Value) (o : List Frm) (hs : List Int) (rs : List Bool) (S : Nat → Addr) (w : World) (k : WS B w nb ov h d hv rv o hs rs) (hE : Errs w S) (hEn : ∀ k, 1 ≤ k → k ≤ 4 → eb k ≠ nb ∧ (S k).block ≠ nb) (hT : Tab w) (hk : OkV o h) (h9 : o.length ≤ 9)
    (op n : Int) (t : List Int) (ta : Option Addr) (tc : Nat) (hl : t.length ≤ 9223372036854775807) (hR : Row w ta t) (hone : oneS (op, n, t) = true) :
    Calls Tryd.prog 67 #[.pointer (some ⟨nb, 0, none⟩), .agg #[.int .i64 op, .int .i64 n, .slice ta t.length tc]] w fun e w' => vAns B w' nb hv rv hs rs S e (vstp op o h d) ∧ Below B w w' := by
  have h0 := hk.pos
  have hB : B ≤ w.heap.size := by have := k.low; have := k.lt; omega
  obtain ⟨f0, f2⟩ := off_range op
  obtain ⟨g0, g1⟩ := on_range op
  have hb0 := hk.base
  have hlo := hk.low
  have hhi := hk.high
  have hnd := iNeeds_any op n t ta tc (w.alloc (.cells #[.int .i64 op, .int .i64 n, .slice ta t.length tc] 59)) hl (hR.below (below1 w _)) (hT.below (below1 w _))
  rw [(off_true hone).1, (off_true hone).2, hone] at hnd
  have HN : Hid (Calls Tryd.prog 89 #[.agg #[.int .i64 op, .int .i64 n, .slice ta t.length tc]] (w.alloc (.cells #[.int .i64 op, .int .i64 n, .slice ta t.length tc] 59)) fun e w' => e = .returned (.tuple #[.int .i64 (offN op), .int .i64 (onN op), .bool true]) ∧ Below (w.alloc (.cells #[.int .i64 op, .int .i64 n, .slice ta t.length tc] 59)).heap.size (w.alloc (.cells #[.int .i64 op, .int .i64 n, .slice ta t.length tc] 59)) w') := hnd
  have KF : Hid (∀ W, Below w.heap.size w W → WS B W nb ov h d hv rv o hs rs ∧ Errs W S) := fun W hb => ⟨k.heap hb, hE.below hb⟩
  have hltn := k.lt
  clear hnd k hE hT hR
  unfold vstp
  by_cases hbad : (decide (h - offN op < (inn o).1) && !d) = true
  · rw [if_pos hbad]
    simp only [Bool.and_eq_true, decide_eq_true_eq, Bool.not_eq_true'] at hbad
    obtain ⟨hlt, rfl⟩ := hbad
    generalize offN op = off at *
    generalize onN op = on at *
    go_enter Tryd.func67, Tryd.ntmps67
    go_wp2_with fail
    refine HN.out.mono ?_
    rintro e w1 ⟨rfl, hb1⟩
    have hb2 := bstep' (below1 w _) hb1
    obtain ⟨k1, e1⟩ := KF.out w1 hb2
    go_wp2_with fail
    refine (wkTake_bad B nb ov h hv rv o hs rs S _ k1 e1 h0 h9 off f0 f2 (by omega) hhi hlt).mono ?_
    rintro e w2 ⟨rfl, hb3⟩
    have HB : Hid (_) := (bstep' hb2 hb3).mono hB
    clear hb1 hb2 hb3 k1 e1
    go_wp2
    go_ret
    exact ⟨⟨rfl, by omega, by omega⟩, HB.out⟩
  · rw [if_neg hbad]
    have hdead : h - offN op < (inn o).1 → d = true := by
      intro hlt
      cases d
      · exact absurd (by simp [hlt]) hbad
      · rfl
    have hx0 := takeH_low op o h
    have hx4 := takeH_high (op := op) hk
    have HX : Hid (takeH op o h = if h - offN op < (inn o).1 then (inn o).1 else h - offN op) := rfl
    generalize takeH op o h = x at *
    generalize offN op = off at *
    generalize onN op = on at *
    generalize hr : (if 4 < x + on then VR.bad 4 else vlead op o (x + on) d) = r
    have HRR : Hid ((if 4 < x + on then VR.bad 4 else vlead op o (x + on) d) = r) := hr
    clear hr
    go_enter Tryd.func67, Tryd.ntmps67
    go_wp2_with fail
    refine HN.out.mono ?_
    rintro e w1 ⟨rfl, hb1⟩
    have hb2 := bstep' (below1 w _) hb1
    obtain ⟨k1, e1⟩ := KF.out w1 hb2
    have c0 := hb1.cell (p := ⟨w.heap.size, 0, none⟩) (by simp)
    simp [go_sem] at c0
    go_wp2_with fail
    refine (wkTake_good B nb ov h d hv rv o hs rs _ k1 h0 h9 off f0 f2 (by omega) hhi hdead).mono ?_
    rintro e w2 ⟨rfl, k2, g2⟩
    rw [← HX.out] at k2
    have e2 := e1.grown g2 hEn
    have c2 := g2.cell_far ⟨w.heap.size, 0, none⟩ (World.block_lt_of_cell? _ _ c0) (by intro e; injection e with e; simp only [] at e; omega)
    rw [c0] at c2
    have B2 : Below B w w2 := (hb2.mono hB).grown g2 (Nat.le_trans hB hb2.size) (fun j hj => by cases hj; exact k1.low)
    have hput := wkPut_any B nb ov x d hv rv o hs rs S w2 k2 e2 on g0 g1 (by omega) hx4
    have HC2 : Hid (_) := c2
    have HB2 : Hid (_) := B2
    have HE2 : Hid (_) := e2
    have HK2 : Hid (_) := k2.low
    clear k1 e1 k2 e2 g2 c0 c2 B2 hb1 hb2 HX HN KF
    by_cases h4 : 4 < x + on
    · rw [if_pos h4] at hput
      have HPU : Hid (Calls Tryd.prog 91 #[.pointer (some ⟨nb, 0, none⟩), .int .i64 on] w2 fun e w' => e = .returned (errV S 4) ∧ WS B w' nb ov (x + on) d hv rv o hs rs ∧ w2.grownBy w' (some nb)) := hput
      clear hput
      go_wp2_with fail
      refine HPU.out.mono ?_
      rintro e w3 ⟨rfl, k3, g3⟩
      have HB : Hid (Below B w w3) := HB2.out.grown g3 (Nat.le_trans hB HB2.out.size) (fun j hj => by cases hj; exact HK2.out)
      clear k3 g3
      go_wp2
      go_ret
      refine ⟨?_, HB.out⟩
      rw [← HRR.out, if_pos h4]
      exact ⟨rfl, by omega, by omega⟩
    · rw [if_neg h4] at hput
      have HPU : Hid (Calls Tryd.prog 91 #[.pointer (some ⟨nb, 0, none⟩), .int .i64 on] w2 fun e w' => e = .returned .nilIface ∧ WS B w' nb ov (x + on) d hv rv o hs rs ∧ w2.grownBy w' (some nb)) := hput
      clear hput
      go_wp2_with fail
      refine HPU.out.mono ?_
      rintro e w3 ⟨rfl, k3, g3⟩
      have HB : Hid (Below B w w3) := HB2.out.grown g3 (Nat.le_trans hB HB2.out.size) (fun j hj => by cases hj; exact HK2.out)
      have c3 := g3.cell_far ⟨w.heap.size, 0, none⟩ (World.block_lt_of_cell? _ _ HC2.out) (by intro e; injection e with e; simp only [] at e; omega)
      rw [HC2.out] at c3
      have hld := lead_any B nb ov (x + on) d hv rv o hs rs S w3 k3 (HE2.out.grown g3 hEn) h0 h9 op
      have HLD : Hid (Calls Tryd.prog 92 #[.pointer (some ⟨nb, 0, none⟩), .int .i64 op] w3 fun e w' => vAns B w' nb hv rv hs rs S e (vlead op o (x + on) d) ∧ Below B w3 w') := hld
      clear k3 g3 hld
      go_wp2_with fail
      refine HLD.out.mono ?_
      rintro e w4 ⟨ha, hb4⟩
      have hv4 : ∃ v, e = .returned v := by
        generalize vlead op o (x + on) d = r at ha
        cases r with
        | bad c => exact ⟨_, ha.1⟩
        | go o' h' d' => exact ⟨_, ha.1⟩
      obtain ⟨v, rfl⟩ := hv4
      have HA : Hid (vAns B w4 nb hv rv hs rs S (.returned v) (vlead op o (x + on) d) ∧ Below B w w4) := ⟨ha, HB.out.trans hb4⟩
      clear ha hb4
      go_wp2
      go_ret
      rw [← HRR.out, if_neg (by omega)]
      exact HA.out
end Go.Proofs.YthkkhinmdlmhkaaDoor
