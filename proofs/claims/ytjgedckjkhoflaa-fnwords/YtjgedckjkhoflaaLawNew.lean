/- The law on NewState is true at every two numbers. -/
import Derived.Test.YtjgedckjkhoflaaNew2
namespace Go.Proofs.Ytjgedckjkhoflaa
open Go.RowKit
set_option linter.unusedVariables false
set_option linter.unusedSimpArgs false
set_option maxRecDepth 100000

theorem hid {p : Prop} (h : p) : Hid p := h
theorem ownsRow_below {w w' : World} {B : Nat} {e : TypeId} {size : Nat} {v : Value} {n : Nat} {xs : List Value} (h : w.ownsRow B e size v n xs) (hb : Below w.heap.size w w') : w'.ownsRow B e size v n xs := by
  refine ⟨h.1, ?_⟩
  rcases h.2 with hn | ⟨g, cap, cur, rfl, hB, hgg, rest⟩
  · exact .inl hn
  · refine .inr ⟨g, cap, cur, rfl, hB, ?_, rest⟩
    rw [hb.block g (Array.getElem?_eq_some_iff.1 hgg).1]
    exact hgg
theorem OwnSt.below {w w' : World} {B : Nat} {v1 v2 v3 : Value} {xs ys zs : List Int} (h : OwnSt w B v1 v2 v3 xs ys zs) (hb : Below w.heap.size w w') : OwnSt w' B v1 v2 v3 xs ys zs :=
  ⟨ownsRow_below h.l hb, ownsRow_below h.m hb, ownsRow_below h.t hb, h.lm, h.lt, h.mt⟩
theorem newL_len (a b : Int) : (newL a b).length ≤ 8 := by unfold newL; split <;> simp
theorem newM_len (a b : Int) : (newM a b).length ≤ 16 := by unfold newM; split <;> simp
/-- the three cells of a state that is kept -/
def Box3 (W : World) (b : Nat) (v1 v2 v3 : Value) : Prop := W.cell? ⟨b, 0, none⟩ = some v1 ∧ W.cell? ⟨b, 1, none⟩ = some v2 ∧ W.cell? ⟨b, 2, none⟩ = some v3
theorem Box3.new (w : World) (v1 v2 v3 : Value) (t : TypeId) : Box3 (w.alloc (.cells #[v1, v2, v3] t)) w.heap.size v1 v2 v3 := by
  have hb : (w.alloc (.cells #[v1, v2, v3] t)).heap[w.heap.size]? = some (.cells #[v1, v2, v3] t) := heap_alloc_new w _
  refine ⟨?_, ?_, ?_⟩ <;> rw [Lib.cell_of_heap hb] <;> rfl
theorem Box3.below {w w' : World} {b : Nat} {v1 v2 v3 : Value} (h : Box3 w b v1 v2 v3) (hb : Below w.heap.size w w') : Box3 w' b v1 v2 v3 := by
  have hl := World.block_lt_of_cell? w _ h.1
  exact ⟨by rw [hb.cell (p := ⟨b, 0, none⟩) hl]; exact h.1, by rw [hb.cell (p := ⟨b, 1, none⟩) hl]; exact h.2.1, by rw [hb.cell (p := ⟨b, 2, none⟩) hl]; exact h.2.2⟩
theorem Box3.lt {w : World} {b : Nat} {v1 v2 v3 : Value} (h : Box3 w b v1 v2 v3) : b < w.heap.size := World.block_lt_of_cell? w _ h.1
theorem Touch.cell {B C : Nat} {w w' : World} (h : Touch B C w w') (b o : Nat) (hl : b < w.heap.size) (hn : b < B ∨ C ≤ b) : w'.cell? ⟨b, o, none⟩ = w.cell? ⟨b, o, none⟩ := World.cell?_of_block (w := w) (a := ⟨b, o, none⟩) (h.block b hl hn)
theorem Box3.touch {B C : Nat} {w w' : World} {b : Nat} {v1 v2 v3 : Value} (h : Box3 w b v1 v2 v3) (ht : Touch B C w w') (hn : b < B ∨ C ≤ b) : Box3 w' b v1 v2 v3 :=
  ⟨by rw [ht.cell b 0 h.lt hn]; exact h.1, by rw [ht.cell b 1 h.lt hn]; exact h.2.1, by rw [ht.cell b 2 h.lt hn]; exact h.2.2⟩

set_option maxHeartbeats 4000000 in
theorem lawNew (a b : Int) (w : World) :
    Calls Try.prog 4 #[.int .i64 a, .int .i64 b] w fun e w' => e = .returned (.bool true) ∧ Below w.heap.size w w' := by
  have hs := fun w => sNew_any a b w
  have hi := fun w => iNew_any a b w
  have hL := newL_len a b
  have hM := newM_len a b
  generalize newL a b = L at hs hi hL
  generalize newM a b = M at hs hi hM
  generalize okN a b = k at hs hi
  have HS : Hid (∀ w, Calls Try.prog 12 #[.int .i64 a, .int .i64 b] w fun e w' => newAns w.heap.size w' L M k e ∧ Below w.heap.size w w') := hs
  have HI : Hid (∀ w, Calls Try.prog 11 #[.int .i64 a, .int .i64 b] w fun e w' => newAns w.heap.size w' L M k e ∧ Below w.heap.size w w') := hi
  clear hs hi
  go_enter Try.func4, Try.ntmps4
  go_wp2_with fail
  refine (HS.out _).mono ?_
  rintro e w1 ⟨⟨a1, a2, a3, c1, c2, c3, rfl, O1⟩, B1⟩
  have R1 := O1.row
  have P1 := Box3.new w1 (.slice a1 L.length c1) (.slice a2 M.length c2) (.slice a3 0 c3) 31
  have D1 := below1 w1 (.cells #[.slice a1 L.length c1, .slice a2 M.length c2, .slice a3 0 c3] 31)
  have HW1 := hid (And.intro (R1) (And.intro (P1) (And.intro (B1) (D1))))
  clear O1 B1 R1 P1 D1
  go_wp2_with fail
  refine (HI.out _).mono ?_
  obtain ⟨W1, hW1⟩ : ∃ W1, w1.alloc (.cells #[.slice a1 L.length c1, .slice a2 M.length c2, .slice a3 0 c3] 31) = W1 := ⟨_, rfl⟩
  rw [hW1]
  obtain ⟨R1, P1, B1, D1⟩ := HW1.out
  rw [hW1] at P1 D1
  clear HW1 hW1
  rintro e w2 ⟨⟨b1, b2, b3, d1, d2, d3, rfl, O2⟩, B2⟩
  have hl1 := P1.lt
  have q1 := P1.below B2
  have hl2 := q1.lt
  have P2 := Box3.new w2 (.slice b1 L.length d1) (.slice b2 M.length d2) (.slice b3 0 d3) 31
  have D2 := below1 w2 (.cells #[.slice b1 L.length d1, .slice b2 M.length d2, .slice b3 0 d3] 31)
  have HW2 := hid (And.intro (R1) (And.intro (B1) (And.intro (D1) (And.intro (O2) (And.intro (B2) (And.intro (P2) (D2)))))))
  have HP1 := hid (P1)
  obtain ⟨q10, q11, q12⟩ := q1
  clear R1 B1 D1 O2 B2 P2 D2 P1
  go_wp2_with fail
  have HX := hid (And.intro (HW2.out.1.below (bstep' (bstep' HW2.out.2.2.1 HW2.out.2.2.2.2.1) HW2.out.2.2.2.2.2.2)) (HW2.out.2.2.2.1.row.below HW2.out.2.2.2.2.2.2))
  refine (eqState_same b1 b2 b3 a1 a2 a3 d1 d2 d3 c1 c2 c3 L M [] _ (by omega) (by omega) (by simp) HX.out.2 HX.out.1).mono ?_
  clear HX
  obtain ⟨W2, hW2⟩ : ∃ W2, w2.alloc (.cells #[.slice b1 L.length d1, .slice b2 M.length d2, .slice b3 0 d3] 31) = W2 := ⟨_, rfl⟩
  obtain ⟨R1, B1, D1, O2, B2, P2, D2⟩ := HW2.out
  have P1 := HP1.out
  rw [hW2] at P2 D2 ⊢
  clear HW2 HP1 hW2 q10 q11 q12
  rintro e w3 ⟨rfl, B3⟩
  have O3 := (O2.below D2).below B3
  have P13 := ((P1.below B2).below D2).below B3
  have P23 := P2.below B3
  have E13 : Below w1.heap.size w1 w3 := bstep' (bstep' (bstep' D1 B2) D2) B3
  have Ew3 : Below w.heap.size w w3 := bstep' B1 E13
  have hC2 : w2.heap.size < w3.heap.size := by have := P23.lt; omega
  have hlW1 : w1.heap.size < W1.heap.size := hl1
  have hW12 : W1.heap.size ≤ w2.heap.size := B2.size
  have HC : Hid ((∀ g, (Value.slice b1 L.length d1).ownBlock = some g → g < w2.heap.size) ∧ (∀ g, (Value.slice b2 M.length d2).ownBlock = some g → g < w2.heap.size) ∧ (∀ g, (Value.slice b3 ([] : List Int).length d3).ownBlock = some g → g < w2.heap.size)) := ⟨fun g e => (O2.l.lt g e).2, fun g e => (O2.m.lt g e).2, fun g e => (O2.t.lt g e).2⟩
  have HW3 := hid (And.intro (R1) (And.intro (O3) (And.intro (P13) (And.intro P23 (And.intro (E13) (Ew3))))))
  obtain ⟨x0, x1, x2⟩ := P23
  have hww : w.heap.size ≤ W1.heap.size := by have := B1.size; have := D1.size; omega
  clear R1 B1 D1 O2 B2 P2 D2 P1 O3 P13 E13 Ew3 B3
  go_wp2_with fail
  refine (markState_any W1.heap.size w2.heap.size b1 b2 b3 d1 d2 d3 L M [] w3 (by omega) (by omega) (by simp) HW3.out.2.1 (by omega) HC.out.1 HC.out.2.1 HC.out.2.2).mono ?_
  rintro e w4 ⟨rfl, RM, T4⟩
  obtain ⟨m, hm, hm0⟩ : ∃ m : Int, 1 + (L.length : Int) + (M.length : Int) + (([] : List Int).length : Int) = m ∧ ¬ m < 0 := ⟨_, rfl, by omega⟩
  rw [hm]
  obtain ⟨R1, O3, P13, P23, E13, Ew3⟩ := HW3.out
  have P14 := P13.touch T4 (.inl (by omega))
  have P24 := P23.touch T4 (.inr (Nat.le_refl _))
  have E14 := T4.below E13 (by omega)
  have Ew4 := T4.below Ew3 hww
  have HM : Hid (1 + (L.length : Int) + (M.length : Int) + (([] : List Int).length : Int) = m) := hm
  have HW4 := hid (And.intro (R1) (And.intro (RM) (And.intro (P14) (And.intro (P24) (And.intro (E14) (Ew4))))))
  obtain ⟨y0, y1, y2⟩ := P24
  clear hm R1 O3 P13 P23 E13 Ew3 P14 E14 Ew4 T4 RM HW3 HC x0 x1 x2 hlW1 hww hC2 hW12
  go_wp2_with fail
  refine (heldState_any b1 b2 b3 d1 d2 d3 L.length M.length ([] : List Int).length w4 (by omega) (by omega) (by simp) HW4.out.2.1).mono ?_
  rw [HM.out]
  rintro e w5 ⟨rfl, B5⟩
  have P15 := HW4.out.2.2.1.below B5
  have P25 := HW4.out.2.2.2.1.below B5
  have HW5 := hid (And.intro (HW4.out.1) (And.intro (HW4.out.2.1.below B5) (And.intro (P15) (And.intro (P25) (And.intro (bstep' HW4.out.2.2.2.2.1 B5) (bstep' HW4.out.2.2.2.2.2 B5))))))
  clear HW4 B5 y0 y1 y2 P15 P25
  go_wp2_with fail
  refine (HI.out _).mono ?_
  rintro e w6 ⟨⟨f1, f2, f3, g1, g2, g3, rfl, O6⟩, B6⟩
  obtain ⟨R1, RM, P15, P25, E15, Ew5⟩ := HW5.out
  have P16 := P15.below B6
  have P26 := P25.below B6
  have D6 := below1 w6 (.cells #[.slice f1 L.length g1, .slice f2 M.length g2, .slice f3 0 g3] 31)
  have P66 := Box3.new w6 (.slice f1 L.length g1) (.slice f2 M.length g2) (.slice f3 0 g3) 31
  have R6 := O6.row.below D6
  have R16 := R1.below (bstep' (bstep' E15 B6) D6)
  have HW6 := hid (And.intro (R6) (And.intro (R16) (And.intro ((RM.below B6).below D6) (And.intro (P26.below D6) (bstep' (bstep' Ew5 B6) D6)))))
  obtain ⟨y0, y1, y2⟩ := P16
  have hl6 := P26.lt
  have hl16 := World.block_lt_of_cell? w6 _ y0
  clear R1 RM P15 P25 E15 Ew5 P26 D6 P66 R6 R16 O6 B6 HW5
  go_wp2_with fail
  refine (eqState_same f1 f2 f3 a1 a2 a3 g1 g2 g3 c1 c2 c3 L M [] _ (by omega) (by omega) (by simp) HW6.out.1 HW6.out.2.1).mono ?_
  rintro e w7 ⟨rfl, B7⟩
  have P27 := HW6.out.2.2.2.1.below B7
  have HW7 := hid (And.intro (HW6.out.2.2.1.below B7) (bstep' HW6.out.2.2.2.2 B7))
  obtain ⟨x0, x1, x2⟩ := P27
  clear B7 HW6 y0 y1 y2 hl6 hl16
  go_wp2_with fail
  refine (heldState_any b1 b2 b3 d1 d2 d3 L.length M.length ([] : List Int).length w7 (by omega) (by omega) (by simp) HW7.out.1).mono ?_
  rw [HM.out]
  rintro e w8 ⟨rfl, B8⟩
  have HW8 := hid (bstep' HW7.out.2 B8)
  clear B8 HW7 x0 x1 x2
  go_wp2
  go_ret
  exact ⟨rfl, HW8.out⟩
end Go.Proofs.Ytjgedckjkhoflaa
