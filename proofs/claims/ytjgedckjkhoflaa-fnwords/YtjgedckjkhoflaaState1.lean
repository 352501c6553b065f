/- States as three rows of numbers: what the laws' own helpers on them do: comparing, marking, asking for the marks. -/
import Derived.Test.YtjgedckjkhoflaaMark
import Derived.Test.YtjgedckjkhoflaaWord
namespace Go.Proofs.Ytjgedckjkhoflaa
open Go.RowKit
set_option linter.unusedVariables false
set_option linter.unusedSimpArgs false
set_option maxRecDepth 100000

theorem below_drewN {B : Nat} {a w : World} (h : Below B a w) (q : Nat) : Below B a (w.drewN q) := ⟨h.os, h.tape, h.output, h.size, h.block⟩
theorem Row.drewN {w : World} {a : Option Addr} {xs : List Int} (h : Row w a xs) (q : Nat) : Row (w.drewN q) a xs := h.kept fun p hp => rfl

/-- a state that can be read -/
def SRow (w : World) (a1 a2 a3 : Option Addr) (xs ys zs : List Int) : Prop := Row w a1 xs ∧ Row w a2 ys ∧ Row w a3 zs
theorem SRow.below {w w' : World} {a1 a2 a3 : Option Addr} {xs ys zs : List Int} (h : SRow w a1 a2 a3 xs ys zs) (hb : Below w.heap.size w w') : SRow w' a1 a2 a3 xs ys zs := ⟨h.1.below hb, h.2.1.below hb, h.2.2.below hb⟩

theorem eqState_same (a1 a2 a3 b1 b2 b3 : Option Addr) (c1 c2 c3 d1 d2 d3 : Nat) (xs ys zs : List Int) (w : World) (hx : xs.length ≤ 9223372036854775807) (hy : ys.length ≤ 9223372036854775807) (hz : zs.length ≤ 9223372036854775807) (h : SRow w a1 a2 a3 xs ys zs) (h' : SRow w b1 b2 b3 xs ys zs) :
    Calls Try.prog 15 #[.agg #[.slice a1 xs.length c1, .slice a2 ys.length c2, .slice a3 zs.length c3], .agg #[.slice b1 xs.length d1, .slice b2 ys.length d2, .slice b3 zs.length d3]] w fun e w' => e = .returned (.bool true) ∧ Below w.heap.size w w' := by
  have H : Hid (SRow w a1 a2 a3 xs ys zs ∧ SRow w b1 b2 b3 xs ys zs) := ⟨h, h'⟩
  clear h h'
  go_enter Try.func15, Try.ntmps15
  go_wp2_with fail
  refine (eqIntS_same a1 b1 c1 d1 xs _ hx (H.out.1.1.below (below2 w _ _)) (H.out.2.1.below (below2 w _ _))).mono ?_
  rintro e w1 ⟨rfl, q1, rfl⟩
  go_wp2_with fail
  refine (eqIntS_same a2 b2 c2 d2 ys _ hy ((H.out.1.2.1.below (below2 w _ _)).drewN _) ((H.out.2.2.1.below (below2 w _ _)).drewN _)).mono ?_
  rintro e w1 ⟨rfl, q2, rfl⟩
  go_wp2_with fail
  refine (eqIntS_same a3 b3 c3 d3 zs _ hz ((H.out.1.2.2.below (below2 w _ _)).drewN _) ((H.out.2.2.2.below (below2 w _ _)).drewN _)).mono ?_
  rintro e w1 ⟨rfl, q3, rfl⟩
  go_wp2
  go_ret
  exact ⟨rfl, below_drewN (below2 w _ _) _⟩

/-- a state that is owned, its three lists in blocks of their own -/
structure OwnSt (w : World) (B : Nat) (v1 v2 v3 : Value) (xs ys zs : List Int) : Prop where
  l : w.ownsRow B 3 1 v1 xs.length (ints xs)
  m : w.ownsRow B 3 1 v2 ys.length (ints ys)
  t : w.ownsRow B 3 1 v3 zs.length (ints zs)
  lm : ∀ g, v1.ownBlock = some g → v2.ownBlock ≠ some g
  lt : ∀ g, v1.ownBlock = some g → v3.ownBlock ≠ some g
  mt : ∀ g, v2.ownBlock = some g → v3.ownBlock ≠ some g

theorem OwnSt.row {w : World} {B c1 c2 c3 : Nat} {a1 a2 a3 : Option Addr} {xs ys zs : List Int} (h : OwnSt w B (.slice a1 xs.length c1) (.slice a2 ys.length c2) (.slice a3 zs.length c3) xs ys zs) : SRow w a1 a2 a3 xs ys zs := ⟨own_row h.l, own_row h.m, own_row h.t⟩

theorem own_kept {w w' : World} {B : Nat} {v u : Value} {n : Nat} {xs : List Value} (h : w.ownsRow B 3 1 v n xs) (hg : w.grownBy w' u.ownBlock) (hne : ∀ g, v.ownBlock = some g → u.ownBlock ≠ some g) : w'.ownsRow B 3 1 v n xs := by
  refine World.ownsRow.kept h hg ?_
  cases e : v.ownBlock with
  | none => exact .inl rfl
  | some r => exact .inr fun e2 => hne r e e2.symm

theorem row_marksK {w : World} {B : Nat} {a : Option Addr} {n c : Nat} {k : Int} (h : w.ownsRow B 3 1 (.slice a n c) n (ints (marks k n))) : Row w a (marks k n) := by
  have h2 : w.ownsRow B 3 1 (.slice a (marks k n).length c) (marks k n).length (ints (marks k n)) := by rw [marks_length]; exact h
  exact own_row h2

theorem grown_cell {w w' : World} {row : Option Nat} {b o : Nat} {v : Value} (hg : w.grownBy w' row) (hc : w.cell? ⟨b, o, none⟩ = some v) (hr : ∀ g, row = some g → g < b) : w'.cell? ⟨b, o, none⟩ = some v :=
  hg.cell hc (fun e => by have := hr b e.symm; omega)

set_option maxHeartbeats 1000000 in
/-- marking a state that is owned -/
theorem markState_any (B C : Nat) (a1 a2 a3 : Option Addr) (c1 c2 c3 : Nat) (xs ys zs : List Int) (w : World) (hx : xs.length ≤ 1048576) (hy : ys.length ≤ 1048576) (hz : zs.length ≤ 1048576)
    (h : OwnSt w B (.slice a1 xs.length c1) (.slice a2 ys.length c2) (.slice a3 zs.length c3) xs ys zs) (hC : C ≤ w.heap.size)
    (hC1 : ∀ g, (Value.slice a1 xs.length c1).ownBlock = some g → g < C) (hC2 : ∀ g, (Value.slice a2 ys.length c2).ownBlock = some g → g < C) (hC3 : ∀ g, (Value.slice a3 zs.length c3).ownBlock = some g → g < C) :
    Calls Try.prog 16 #[.agg #[.slice a1 xs.length c1, .slice a2 ys.length c2, .slice a3 zs.length c3], .int .i64 1] w fun e w' => e = .returned (.int .i64 (1 + xs.length + ys.length + zs.length)) ∧ SRow w' a1 a2 a3 (marks 1 xs.length) (marks (1 + xs.length) ys.length) (marks (1 + xs.length + ys.length) zs.length) ∧ Touch B C w w' := by
  have HC1 : Hid (_) := hC1
  have HC2 : Hid (_) := hC2
  have HC3 : Hid (_) := hC3
  clear hC1 hC2 hC3
  have H : Hid (OwnSt w B (.slice a1 xs.length c1) (.slice a2 ys.length c2) (.slice a3 zs.length c3) xs ys zs) := h
  have H1 : Hid (∀ g, (Value.slice a1 xs.length c1).ownBlock = some g → g < w.heap.size) := fun g e => (h.l.lt g e).2
  have H2 : Hid (∀ g, (Value.slice a2 ys.length c2).ownBlock = some g → g < w.heap.size) := fun g e => (h.m.lt g e).2
  have H3 : Hid (∀ g, (Value.slice a3 zs.length c3).ownBlock = some g → g < w.heap.size) := fun g e => (h.t.lt g e).2
  have b1 := h.l.alloc (.cells #[.slice a1 xs.length c1, .slice a2 ys.length c2, .slice a3 zs.length c3] 31)
  have b2 := h.m.alloc (.cells #[.slice a1 xs.length c1, .slice a2 ys.length c2, .slice a3 zs.length c3] 31)
  have b3 := h.t.alloc (.cells #[.slice a1 xs.length c1, .slice a2 ys.length c2, .slice a3 zs.length c3] 31)
  have e2 : (w.alloc (.cells #[.slice a1 xs.length c1, .slice a2 ys.length c2, .slice a3 zs.length c3] 31)).cell? ⟨w.heap.size, 1, none⟩ = some (.slice a2 ys.length c2) := by simp [go_sem]
  have e3 : (w.alloc (.cells #[.slice a1 xs.length c1, .slice a2 ys.length c2, .slice a3 zs.length c3] 31)).cell? ⟨w.heap.size, 2, none⟩ = some (.slice a3 zs.length c3) := by simp [go_sem]
  have T0 : Touch B C w (w.alloc (.cells #[.slice a1 xs.length c1, .slice a2 ys.length c2, .slice a3 zs.length c3] 31)) := ⟨rfl, rfl, rfl, by simp, fun k hk _ => Below.heap_alloc _ _ _ hk⟩
  have HB : Hid (_ ∧ _ ∧ _ ∧ _ ∧ _ ∧ _) := ⟨b1, b2, b3, e2, e3, T0⟩
  clear h b1 b2 b3 e2 e3 T0
  go_enter Try.func16, Try.ntmps16
  go_wp2_with fail
  refine (markI_any B _ xs 1 _ (by omega) (by omega) hx HB.out.1).mono ?_
  rintro e w1 ⟨rfl, o1, g1⟩
  have f2 := grown_cell g1 HB.out.2.2.2.1 H1.out
  have f3 := grown_cell g1 HB.out.2.2.2.2.1 H1.out
  have p2 := own_kept HB.out.2.1 g1 (fun g e e' => H.out.lm g e' e)
  have p3 := own_kept HB.out.2.2.1 g1 (fun g e e' => H.out.lt g e' e)
  have t1 : Touch B C _ _ := HB.out.2.2.2.2.2.trans (Touch.of_grown g1 fun k e => ⟨(H.out.l.lt k e).1, HC1.out k e⟩)
  have HP : Hid (_ ∧ _ ∧ _ ∧ _ ∧ _) := ⟨p2, p3, f3, t1, o1⟩
  obtain ⟨k1, hk1, hk10, hk11⟩ : ∃ k1 : Int, 1 + (xs.length : Int) = k1 ∧ 0 ≤ k1 ∧ k1 ≤ 1048577 := ⟨_, rfl, by omega, by omega⟩
  rw [hk1]
  have HK1 : Hid (1 + (xs.length : Int) = k1) := hk1
  clear hk1 p2 p3 t1 o1 g1 f3
  go_wp2_with fail
  refine (markI_any B _ ys k1 _ (by omega) (by omega) hy HP.out.1).mono ?_
  rintro e w2 ⟨rfl, o2, g2⟩
  have f3 := grown_cell g2 HP.out.2.2.1 H2.out
  have p3 := own_kept HP.out.2.1 g2 (fun g e e' => H.out.mt g e' e)
  have t2 := HP.out.2.2.2.1.trans (Touch.of_grown (B := B) (C := C) g2 fun k e => ⟨(H.out.m.lt k e).1, HC2.out k e⟩)
  have q1 := own_kept HP.out.2.2.2.2 g2 (fun g e => H.out.lm g e)
  have HQ : Hid (_ ∧ _ ∧ _ ∧ _) := ⟨p3, t2, q1, o2⟩
  obtain ⟨k2, hk2, hk20, hk21⟩ : ∃ k2 : Int, k1 + (ys.length : Int) = k2 ∧ 0 ≤ k2 ∧ k2 ≤ 2097153 := ⟨_, rfl, by omega, by omega⟩
  rw [hk2]
  have HK2 : Hid (k1 + (ys.length : Int) = k2) := hk2
  clear hk2 p3 t2 q1 o2 g2
  go_wp2_with fail
  refine (markI_any B _ zs k2 _ (by omega) (by omega) hz HQ.out.1).mono ?_
  rintro e w3 ⟨rfl, o3, g3⟩
  have t3 := HQ.out.2.1.trans (Touch.of_grown (B := B) (C := C) g3 fun k e => ⟨(H.out.t.lt k e).1, HC3.out k e⟩)
  have s1 := own_kept HQ.out.2.2.1 g3 (fun g e => H.out.lt g e)
  have s2 := own_kept HQ.out.2.2.2 g3 (fun g e => H.out.mt g e)
  have HS : Hid (_ ∧ _ ∧ _ ∧ _) := ⟨t3, row_marksK s1, row_marksK s2, row_marksK o3⟩
  clear t3 s1 s2 o3 g3
  obtain ⟨k3, hk3⟩ : ∃ k3 : Int, k2 + (zs.length : Int) = k3 := ⟨_, rfl⟩
  rw [hk3]
  have HK3 : Hid (k2 + (zs.length : Int) = k3) := hk3
  clear hk3
  go_wp2
  go_ret
  have z1 := HK1.out
  have z2 := HK2.out
  have z3 := HK3.out
  subst z1
  subst z2
  exact ⟨ret_int (by rw [← z3]), ⟨HS.out.2.1, HS.out.2.2.1, HS.out.2.2.2⟩, HS.out.1⟩

/-- asking for the marks of a state -/
theorem heldState_any (a1 a2 a3 : Option Addr) (c1 c2 c3 n1 n2 n3 : Nat) (w : World) (hx : n1 ≤ 1048576) (hy : n2 ≤ 1048576) (hz : n3 ≤ 1048576)
    (h : SRow w a1 a2 a3 (marks 1 n1) (marks (1 + n1) n2) (marks (1 + n1 + n2) n3)) :
    Calls Try.prog 17 #[.agg #[.slice a1 n1 c1, .slice a2 n2 c2, .slice a3 n3 c3], .int .i64 1] w fun e w' => e = .returned (.int .i64 (1 + n1 + n2 + n3)) ∧ Below w.heap.size w w' := by
  have H := h.below (below1 w (.cells #[.slice a1 n1 c1, .slice a2 n2 c2, .slice a3 n3 c3] 31))
  obtain ⟨k1, hk1, hk10, hk11⟩ : ∃ k1 : Int, 1 + (n1 : Int) = k1 ∧ 0 ≤ k1 ∧ k1 ≤ 1048577 := ⟨_, rfl, by omega, by omega⟩
  rw [hk1] at H ⊢
  obtain ⟨k2, hk2, hk20, hk21⟩ : ∃ k2 : Int, k1 + (n2 : Int) = k2 ∧ 0 ≤ k2 ∧ k2 ≤ 2097153 := ⟨_, rfl, by omega, by omega⟩
  rw [hk2] at H ⊢
  obtain ⟨k3, hk3, hk30⟩ : ∃ k3 : Int, k2 + (n3 : Int) = k3 ∧ 0 ≤ k3 := ⟨_, rfl, by omega⟩
  rw [hk3]
  have hh1 := heldI_any a1 c1 n1 1 _ (by omega) (by omega) hx H.1
  have hh2 := heldI_any a2 c2 n2 k1 _ (by omega) (by omega) hy H.2.1
  have hh3 := heldI_any a3 c3 n3 k2 _ (by omega) (by omega) hz H.2.2
  rw [hk1] at hh1
  rw [hk2] at hh2
  rw [hk3] at hh3
  have HH : Hid (_ ∧ _ ∧ _) := ⟨hh1, hh2, hh3⟩
  clear h H hh1 hh2 hh3 hk1 hk2 hk3
  go_enter Try.func17, Try.ntmps17
  go_wp2_with fail
  refine Calls.mono HH.out.1 ?_
  rintro e w1 ⟨rfl, rfl⟩
  go_wp2_with fail
  refine Calls.mono HH.out.2.1 ?_
  rintro e w1 ⟨rfl, rfl⟩
  go_wp2_with fail
  refine Calls.mono HH.out.2.2 ?_
  rintro e w1 ⟨rfl, rfl⟩
  go_wp2
  go_ret
  exact ⟨rfl, below1 _ _⟩
end Go.Proofs.Ytjgedckjkhoflaa
