/- What the program makes of a step while it goes through code: words off, words on. -/
import Derived.Test.YthkkhinmdlmhkaaDoorWk1
import Derived.Test.YthkkhinmdlmhkaaDoorNeeds
namespace Go.Proofs.YthkkhinmdlmhkaaDoor
open Go.RowKit
set_option linter.unusedVariables false
set_option linter.unusedSimpArgs false
set_option maxRecDepth 100000

theorem grow_trans {a b c : World} {row : Option Nat} (h : a.grownBy b row) (k : b.grownBy c row) : a.grownBy c row :=
  ⟨k.os.trans h.os, k.tape.trans h.tape, k.output.trans h.output, Nat.le_trans h.size k.size, fun j hj hr => (k.block j (Nat.lt_of_lt_of_le hj h.size) hr).trans (h.block j hj hr)⟩
set_option maxHeartbeats 2000000 in
/-- the program's take: too few words -/
theorem wkTake_bad (B nb : Nat) (ov : Value) (h : Int) (hv rv : Value) (o : List Frm) (hs : List Int) (rs : List Bool) (S : Nat → Addr) (w : World) (k : WS B w nb ov h false hv rv o hs rs) (hE : Errs w S) (h0 : 0 < o.length) (h9 : o.length ≤ 9) (off : Int) (hf0 : 0 ≤ off) (hf2 : off ≤ 2) (hh0 : 0 ≤ h) (hh4 : h ≤ 4) (hlow : h - off < (inn o).1) :
    Calls Tryd.prog 90 #[.pointer (some ⟨nb, 0, none⟩), .int .i64 off] w fun e w' => e = .returned (errV S 2) ∧ Below w.heap.size w w' := by
  have hi := innermost_any B nb ov h false hv rv o hs rs w k h0 h9
  have HE : Hid (∀ W, Below w.heap.size w W → W.cell? ⟨2, 0, none⟩ = some (errV S 2) ∧ W.cell? ⟨nb, 1, none⟩ = some (.int .i64 h) ∧ W.cell? ⟨nb, 2, none⟩ = some (.bool false)) := fun W hb => ⟨(hE.below hb).cell 2 (by omega) (by omega), (k.heap hb).cells.2.1, (k.heap hb).cells.2.2.1⟩
  generalize inn o = z at hi hlow
  obtain ⟨b0, d0⟩ := z
  simp only [] at hi hlow
  have HI : Hid (Calls Tryd.prog 93 #[.pointer (some ⟨nb, 0, none⟩)] w fun e w' => e = .returned (.agg #[.int .i64 b0, .bool d0]) ∧ Below w.heap.size w w') := hi
  have hfb := field_base b0 d0
  clear k hE hi
  go_enter Tryd.func90, Tryd.ntmps90
  go_wp2_with fail
  refine HI.out.mono ?_
  rintro e w1 ⟨rfl, hb1⟩
  obtain ⟨c2, n1, n2⟩ := HE.out w1 hb1
  go_wp2
  go_ret
  exact ⟨rfl, hb1⟩

set_option maxHeartbeats 2000000 in
/-- the program's take -/
theorem wkTake_good (B nb : Nat) (ov : Value) (h : Int) (d : Bool) (hv rv : Value) (o : List Frm) (hs : List Int) (rs : List Bool) (w : World) (k : WS B w nb ov h d hv rv o hs rs) (h0 : 0 < o.length) (h9 : o.length ≤ 9) (off : Int) (hf0 : 0 ≤ off) (hf2 : off ≤ 2) (hh0 : 0 ≤ h) (hh4 : h ≤ 4) (hlow : h - off < (inn o).1 → d = true) :
    Calls Tryd.prog 90 #[.pointer (some ⟨nb, 0, none⟩), .int .i64 off] w fun e w' => e = .returned .nilIface ∧ WS B w' nb ov (if h - off < (inn o).1 then (inn o).1 else h - off) d hv rv o hs rs ∧ w.grownBy w' (some nb) := by
  have hi := innermost_any B nb ov h d hv rv o hs rs w k h0 h9
  have HE : Hid (∀ W, Below w.heap.size w W → W.cell? ⟨nb, 1, none⟩ = some (.int .i64 h) ∧ W.cell? ⟨nb, 2, none⟩ = some (.bool d) ∧ W.frozen? ⟨nb, 1, none⟩ = false) := fun W hb => ⟨(k.heap hb).cells.2.1, (k.heap hb).cells.2.2.1, (k.heap hb).frozen 1⟩
  have HF : Hid (∀ W x, Below w.heap.size w W → WS B (W.setCell ⟨nb, 1, none⟩ (.int .i64 x)) nb ov x d hv rv o hs rs ∧ w.grownBy (W.setCell ⟨nb, 1, none⟩ (.int .i64 x)) (some nb)) := fun W x hb => ⟨((k.heap hb).setH x).1, grow_trans (grownBy_of_below hb _) (grown_set _ _ _ _)⟩
  generalize hz : inn o = z at hi hlow ⊢
  obtain ⟨b0, d0⟩ := z
  simp only [] at hi hlow ⊢
  have HI : Hid (Calls Tryd.prog 93 #[.pointer (some ⟨nb, 0, none⟩)] w fun e w' => e = .returned (.agg #[.int .i64 b0, .bool d0]) ∧ Below w.heap.size w w') := hi
  have hfb := field_base b0 d0
  clear k hi hz
  by_cases hlt : h - off < b0
  · obtain rfl := hlow hlt
    rw [if_pos hlt]
    clear hlow
    go_enter Tryd.func90, Tryd.ntmps90
    go_wp2_with fail
    refine HI.out.mono ?_
    rintro e w1 ⟨rfl, hb1⟩
    obtain ⟨n1, n2, f1⟩ := HE.out w1 hb1
    go_wp2
    go_ret
    exact ⟨rfl, HF.out _ _ hb1⟩
  · rw [if_neg hlt]
    clear hlow
    go_enter Tryd.func90, Tryd.ntmps90
    go_wp2_with fail
    refine HI.out.mono ?_
    rintro e w1 ⟨rfl, hb1⟩
    obtain ⟨n1, n2, f1⟩ := HE.out w1 hb1
    go_wp2
    go_ret
    exact ⟨rfl, HF.out _ _ hb1⟩

set_option maxHeartbeats 2000000 in
/-- the program's put -/
theorem wkPut_any (B nb : Nat) (ov : Value) (h : Int) (d : Bool) (hv rv : Value) (o : List Frm) (hs : List Int) (rs : List Bool) (S : Nat → Addr) (w : World) (k : WS B w nb ov h d hv rv o hs rs) (hE : Errs w S) (on : Int) (hf0 : 0 ≤ on) (hf2 : on ≤ 1) (hh0 : 0 ≤ h) (hh4 : h ≤ 4) :
    Calls Tryd.prog 91 #[.pointer (some ⟨nb, 0, none⟩), .int .i64 on] w fun e w' => e = .returned (if 4 < h + on then errV S 4 else .nilIface) ∧ WS B w' nb ov (h + on) d hv rv o hs rs ∧ w.grownBy w' (some nb) := by
  obtain ⟨-, n1, -⟩ := k.cells
  have f1 := k.frozen 1
  have hlt := k.lt
  have hF : WS B (w.setCell ⟨nb, 1, none⟩ (.int .i64 (h + on))) nb ov (h + on) d hv rv o hs rs ∧ w.grownBy (w.setCell ⟨nb, 1, none⟩ (.int .i64 (h + on))) (some nb) := ⟨(k.setH (h + on)).1, grown_set _ _ _ _⟩
  have HF : Hid (_ ∧ _) := hF
  have c4 : w.cell? ⟨3, 0, none⟩ = some (errV S 4) := hE.cell 4 (by omega) (by omega)
  have e4 : ¬ 3 = nb := by
    intro e
    subst e
    have hov := k.cells.1
    rw [c4] at hov
    rcases k.opn.2 with ⟨rfl, _⟩ | ⟨_, _, _, rfl, _⟩ <;> cases hov
  clear k hE hF
  by_cases h4 : 4 < h + on
  · rw [if_pos h4]
    go_enter Tryd.func91, Tryd.ntmps91
    go_wp2
    go_ret
    exact ⟨rfl, HF.out⟩
  · rw [if_neg h4]
    go_enter Tryd.func91, Tryd.ntmps91
    go_wp2
    go_ret
    exact ⟨rfl, HF.out⟩

set_option maxHeartbeats 2000000 in
/-- the program's lead: nothing comes behind -/
theorem lead_stop (B nb : Nat) (ov : Value) (h : Int) (d : Bool) (hv rv : Value) (o : List Frm) (hs : List Int) (rs : List Bool) (w : World) (k : WS B w nb ov h d hv rv o hs rs) (h0 : 0 < o.length) (h9 : o.length ≤ 9) (op : Int) (hop : op = 14 ∨ op = 20 ∨ op = 22) :
    Calls Tryd.prog 92 #[.pointer (some ⟨nb, 0, none⟩), .int .i64 op] w fun e w' => e = .returned .nilIface ∧ WS B w' nb ov (inn o).1 true hv rv o hs rs ∧ Below B w w' := by
  have hi := innermost_any B nb ov h d hv rv o hs rs w k h0 h9
  have hlt := k.lt
  have HF : Hid (∀ W o1 x, Below w.heap.size w W → (W.cell? ⟨nb, 1, none⟩ = some (.int .i64 h) ∧ W.cell? ⟨nb, 2, none⟩ = some (.bool d) ∧ W.frozen? ⟨nb, 1, none⟩ = false ∧ W.frozen? ⟨nb, 2, none⟩ = false ∧ nb < W.heap.size) ∧ Hid (WS B (((W.setCell ⟨nb, 1, none⟩ (.int .i64 x)).setCell ⟨nb, 2, none⟩ (.bool true)).alloc o1) nb ov x true hv rv o hs rs ∧ Below B w (((W.setCell ⟨nb, 1, none⟩ (.int .i64 x)).setCell ⟨nb, 2, none⟩ (.bool true)).alloc o1))) := by
    intro W o1 x hb
    have k1 := k.heap hb
    have k2 := k1.setH x
    have k3 := k2.1.setD true
    have hB : B ≤ w.heap.size := by have := k.low; omega
    exact ⟨⟨k1.cells.2.1, k1.cells.2.2.1, k1.frozen 1, k1.frozen 2, k1.lt⟩, ⟨k3.1.heap (below1 _ o1), (((hb.mono hB).trans k2.2).trans k3.2).alloc (by have := k3.1.low; have := k3.1.lt; omega) _⟩⟩
  generalize hz : inn o = z at hi ⊢
  obtain ⟨b0, d0⟩ := z
  simp only [] at hi ⊢
  have HI : Hid (Calls Tryd.prog 93 #[.pointer (some ⟨nb, 0, none⟩)] w fun e w' => e = .returned (.agg #[.int .i64 b0, .bool d0]) ∧ Below w.heap.size w w') := hi
  clear k hi hz
  rcases hop with rfl | rfl | rfl
  all_goals
    go_enter Tryd.func92, Tryd.ntmps92
    go_wp2_with fail
    refine HI.out.mono ?_
    rintro e w1 ⟨rfl, hb1⟩
    obtain ⟨⟨n1, n2, f1, f2, hn⟩, HW⟩ := HF.out w1 (.cells #[.int .i64 b0, .bool d0] 108) b0 hb1
    go_wp2
    go_ret
    exact ⟨rfl, HW.out⟩

set_option maxHeartbeats 2000000 in
/-- the program's lead: a step that leads on -/
theorem lead_plain (B nb : Nat) (ov : Value) (h : Int) (d : Bool) (hv rv : Value) (o : List Frm) (hs : List Int) (rs : List Bool) (w : World) (k : WS B w nb ov h d hv rv o hs rs) (h0 : 0 < o.length) (h9 : o.length ≤ 9) (op : Int) (h14 : op ≠ 14) (h20 : op ≠ 20) (h22 : op ≠ 22) (h15 : op ≠ 15) (h16 : op ≠ 16) (h17 : op ≠ 17) (h18 : op ≠ 18) (h19 : op ≠ 19) :
    Calls Tryd.prog 92 #[.pointer (some ⟨nb, 0, none⟩), .int .i64 op] w fun e w' => e = .returned .nilIface ∧ WS B w' nb ov h d hv rv o hs rs ∧ Below B w w' := by
  have hi := innermost_any B nb ov h d hv rv o hs rs w k h0 h9
  have HF : Hid (∀ W o1, Below w.heap.size w W → WS B (W.alloc o1) nb ov h d hv rv o hs rs ∧ Below B w (W.alloc o1)) := by
    intro W o1 hb
    have hb1 := bstep' hb (below1 W o1)
    exact ⟨k.heap hb1, hb1.mono (by have := k.low; have := k.lt; omega)⟩
  generalize hz : inn o = z at hi
  obtain ⟨b0, d0⟩ := z
  simp only [] at hi
  have HI : Hid (Calls Tryd.prog 93 #[.pointer (some ⟨nb, 0, none⟩)] w fun e w' => e = .returned (.agg #[.int .i64 b0, .bool d0]) ∧ Below w.heap.size w w') := hi
  clear k hi hz
  go_enter Tryd.func92, Tryd.ntmps92
  go_wp2_with fail
  refine HI.out.mono ?_
  rintro e w1 ⟨rfl, hb1⟩
  go_wp2
  go_ret
  exact ⟨rfl, HF.out _ _ hb1⟩

set_option maxHeartbeats 2000000 in
/-- the program's lead: a WElse or a WEnd with words left -/
theorem lead_rest (B nb : Nat) (ov : Value) (h : Int) (d : Bool) (hv rv : Value) (o : List Frm) (hs : List Int) (rs : List Bool) (S : Nat → Addr) (w : World) (k : WS B w nb ov h d hv rv o hs rs) (hE : Errs w S) (h0 : 0 < o.length) (h9 : o.length ≤ 9) (op : Int) (hop : op = 18 ∨ op = 19) (hne : h ≠ (inn o).1) :
    Calls Tryd.prog 92 #[.pointer (some ⟨nb, 0, none⟩), .int .i64 op] w fun e w' => e = .returned (errV S 3) ∧ Below w.heap.size w w' := by
  have hi := innermost_any B nb ov h d hv rv o hs rs w k h0 h9
  have hset := fun W hb => settle_any B nb ov h d hv rv o hs rs S W (k.heap hb) (hE.below hb) h0 h9
  rw [if_neg hne] at hset
  have HS : Hid (∀ W, Below w.heap.size w W → Calls Tryd.prog 68 #[.pointer (some ⟨nb, 0, none⟩)] W fun e w' => e = .returned (errV S 3) ∧ Below W.heap.size W w') := hset
  generalize hz : inn o = z at hi hne
  obtain ⟨b0, d0⟩ := z
  simp only [] at hi
  have HI : Hid (Calls Tryd.prog 93 #[.pointer (some ⟨nb, 0, none⟩)] w fun e w' => e = .returned (.agg #[.int .i64 b0, .bool d0]) ∧ Below w.heap.size w w') := hi
  clear k hi hz hset hE hne
  rcases hop with rfl | rfl
  all_goals
    go_enter Tryd.func92, Tryd.ntmps92
    go_wp2_with fail
    refine HI.out.mono ?_
    rintro e w1 ⟨rfl, hb1⟩
    have hb2 := bstep' hb1 (below1 w1 (.cells #[.int .i64 b0, .bool d0] 108))
    have HB2 : Hid (_) := hb2
    clear hb1 hb2
    go_wp2_with fail
    refine (HS.out _ HB2.out).mono ?_
    rintro e w2 ⟨rfl, hb3⟩
    have HB3 : Hid (_) := bstep' HB2.out hb3
    clear hb3
    go_wp2
    go_ret
    exact ⟨rfl, HB3.out⟩
end Go.Proofs.YthkkhinmdlmhkaaDoor
