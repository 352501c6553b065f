/- States as three rows of numbers: what the laws' own helpers on them do: comparing, marking, asking for the marks. -/
import Derived.Test.YthkkhinmdlmhkaaDoorMark
import Derived.Test.YthkkhinmdlmhkaaDoorWord
import Derived.Test.YthkkhinmdlmhkaaDoorMch
import Derived.Test.YthkkhinmdlmhkaaDoorRes
import Derived.Deep.AppendLies
import Derived.Deep.Upon
import Derived.Deep.RegionHeld
import Derived.Deep.RegionHeldLaw
import Derived.Test.YthkkhinmdlmhkaaDoorSep
namespace Go.Proofs.YthkkhinmdlmhkaaDoor
section
open Go.RowKit
set_option linter.unusedVariables false
set_option linter.unusedSimpArgs false
set_option maxRecDepth 100000

theorem Row.drewN {w : World} {a : Option Addr} {xs : List Int} (h : Row w a xs) (q : Nat) : Row (w.drewN q) a xs := h.kept fun p hp => rfl

/-- a state that can be read -/
def SRow (w : World) (a1 a2 a3 : Option Addr) (xs ys zs : List Int) : Prop := Row w a1 xs ∧ Row w a2 ys ∧ Row w a3 zs
theorem SRow.below {w w' : World} {a1 a2 a3 : Option Addr} {xs ys zs : List Int} (h : SRow w a1 a2 a3 xs ys zs) (hb : Below w.heap.size w w') : SRow w' a1 a2 a3 xs ys zs := ⟨h.1.below hb, h.2.1.below hb, h.2.2.below hb⟩

theorem eqState_same (a1 a2 a3 b1 b2 b3 : Option Addr) (c1 c2 c3 d1 d2 d3 : Nat) (xs ys zs : List Int) (w : World) (hx : xs.length ≤ 9223372036854775807) (hy : ys.length ≤ 9223372036854775807) (hz : zs.length ≤ 9223372036854775807) (h : SRow w a1 a2 a3 xs ys zs) (h' : SRow w b1 b2 b3 xs ys zs) :
    Calls Tryd.prog 12 #[.agg #[.slice a1 xs.length c1, .slice a2 ys.length c2, .slice a3 zs.length c3], .agg #[.slice b1 xs.length d1, .slice b2 ys.length d2, .slice b3 zs.length d3]] w fun e w' => e = .returned (.bool true) ∧ Below w.heap.size w w' := by
  have H : Hid (SRow w a1 a2 a3 xs ys zs ∧ SRow w b1 b2 b3 xs ys zs) := ⟨h, h'⟩
  clear h h'
  go_enter Tryd.func12, Tryd.ntmps12
  go_wp2_with fail
  refine (eqIntS_same a1 b1 c1 d1 xs _ hx (H.out.1.1.below (below2 w _ _)) (H.out.2.1.below (below2 w _ _))).mono ?_
  rintro e w1 ⟨rfl, q1, rfl⟩
  go_wp2_with fail
  refine (eqIntS_same a2 b2 c2 d2 ys _ hy ((H.out.1.2.1.below (below2 w _ _)).drewN _) ((H.out.2.2.1.below (below2 w _ _)).drewN _)).mono ?_
  rintro e w1 ⟨rfl, q2, rfl⟩
  go_wp2_with fail
  refine (eqIntS_same a3 b3 c3 d3 zs _ hz ((H.out.1.2.2.below (below2 w _ _)).drewN _) ((H.out.2.2.2.below (below2 w _ _)).drewN _)).mono ?_
  rintro e w1 ⟨rfl, q3, rfl⟩
  go_wp2
  go_ret
  exact ⟨rfl, below_drewN (below2 w _ _) _⟩

/-- a state that is owned, its three lists in blocks of their own -/
structure OwnSt (w : World) (B : Nat) (v1 v2 v3 : Value) (xs ys zs : List Int) : Prop where
  l : w.ownsRow B 3 1 v1 xs.length (ints xs)
  m : w.ownsRow B 3 1 v2 ys.length (ints ys)
  t : w.ownsRow B 3 1 v3 zs.length (ints zs)
  lm : ∀ g, v1.ownBlock = some g → v2.ownBlock ≠ some g
  lt : ∀ g, v1.ownBlock = some g → v3.ownBlock ≠ some g
  mt : ∀ g, v2.ownBlock = some g → v3.ownBlock ≠ some g

theorem OwnSt.row {w : World} {B c1 c2 c3 : Nat} {a1 a2 a3 : Option Addr} {xs ys zs : List Int} (h : OwnSt w B (.slice a1 xs.length c1) (.slice a2 ys.length c2) (.slice a3 zs.length c3) xs ys zs) : SRow w a1 a2 a3 xs ys zs := ⟨own_row h.l, own_row h.m, own_row h.t⟩

theorem own_kept {w w' : World} {B : Nat} {v u : Value} {n : Nat} {xs : List Value} (h : w.ownsRow B 3 1 v n xs) (hg : w.grownBy w' u.ownBlock) (hne : ∀ g, v.ownBlock = some g → u.ownBlock ≠ some g) : w'.ownsRow B 3 1 v n xs := by
  refine World.ownsRow.kept h hg ?_
  cases e : v.ownBlock with
  | none => exact .inl rfl
  | some r => exact .inr fun e2 => hne r e e2.symm

theorem row_marksK {w : World} {B : Nat} {a : Option Addr} {n c : Nat} {k : Int} (h : w.ownsRow B 3 1 (.slice a n c) n (ints (marks k n))) : Row w a (marks k n) := by
  have h2 : w.ownsRow B 3 1 (.slice a (marks k n).length c) (marks k n).length (ints (marks k n)) := by rw [marks_length]; exact h
  exact own_row h2

theorem grown_cell {w w' : World} {row : Option Nat} {b o : Nat} {v : Value} (hg : w.grownBy w' row) (hc : w.cell? ⟨b, o, none⟩ = some v) (hr : ∀ g, row = some g → g < b) : w'.cell? ⟨b, o, none⟩ = some v :=
  hg.cell hc (fun e => by have := hr b e.symm; omega)

set_option maxHeartbeats 1000000 in
/-- marking a state that is owned -/
theorem markState_any (B C : Nat) (a1 a2 a3 : Option Addr) (c1 c2 c3 : Nat) (xs ys zs : List Int) (w : World) (hx : xs.length ≤ 1048576) (hy : ys.length ≤ 1048576) (hz : zs.length ≤ 1048576)
    (h : OwnSt w B (.slice a1 xs.length c1) (.slice a2 ys.length c2) (.slice a3 zs.length c3) xs ys zs) (hC : C ≤ w.heap.size)
    (hC1 : ∀ g, (Value.slice a1 xs.length c1).ownBlock = some g → g < C) (hC2 : ∀ g, (Value.slice a2 ys.length c2).ownBlock = some g → g < C) (hC3 : ∀ g, (Value.slice a3 zs.length c3).ownBlock = some g → g < C) :
    Calls Tryd.prog 15 #[.agg #[.slice a1 xs.length c1, .slice a2 ys.length c2, .slice a3 zs.length c3], .int .i64 1] w fun e w' => e = .returned (.int .i64 (1 + xs.length + ys.length + zs.length)) ∧ SRow w' a1 a2 a3 (marks 1 xs.length) (marks (1 + xs.length) ys.length) (marks (1 + xs.length + ys.length) zs.length) ∧ Touch B C w w' := by
  have HC1 : Hid (_) := hC1
  have HC2 : Hid (_) := hC2
  have HC3 : Hid (_) := hC3
  clear hC1 hC2 hC3
  have H : Hid (OwnSt w B (.slice a1 xs.length c1) (.slice a2 ys.length c2) (.slice a3 zs.length c3) xs ys zs) := h
  have H1 : Hid (∀ g, (Value.slice a1 xs.length c1).ownBlock = some g → g < w.heap.size) := fun g e => (h.l.lt g e).2
  have H2 : Hid (∀ g, (Value.slice a2 ys.length c2).ownBlock = some g → g < w.heap.size) := fun g e => (h.m.lt g e).2
  have H3 : Hid (∀ g, (Value.slice a3 zs.length c3).ownBlock = some g → g < w.heap.size) := fun g e => (h.t.lt g e).2
  have b1 := h.l.alloc (.cells #[.slice a1 xs.length c1, .slice a2 ys.length c2, .slice a3 zs.length c3] 28)
  have b2 := h.m.alloc (.cells #[.slice a1 xs.length c1, .slice a2 ys.length c2, .slice a3 zs.length c3] 28)
  have b3 := h.t.alloc (.cells #[.slice a1 xs.length c1, .slice a2 ys.length c2, .slice a3 zs.length c3] 28)
  have e2 : (w.alloc (.cells #[.slice a1 xs.length c1, .slice a2 ys.length c2, .slice a3 zs.length c3] 28)).cell? ⟨w.heap.size, 1, none⟩ = some (.slice a2 ys.length c2) := by simp [go_sem]
  have e3 : (w.alloc (.cells #[.slice a1 xs.length c1, .slice a2 ys.length c2, .slice a3 zs.length c3] 28)).cell? ⟨w.heap.size, 2, none⟩ = some (.slice a3 zs.length c3) := by simp [go_sem]
  have T0 : Touch B C w (w.alloc (.cells #[.slice a1 xs.length c1, .slice a2 ys.length c2, .slice a3 zs.length c3] 28)) := ⟨rfl, rfl, rfl, by simp, fun k hk _ => Below.heap_alloc _ _ _ hk⟩
  have HB : Hid (_ ∧ _ ∧ _ ∧ _ ∧ _ ∧ _) := ⟨b1, b2, b3, e2, e3, T0⟩
  clear h b1 b2 b3 e2 e3 T0
  go_enter Tryd.func15, Tryd.ntmps15
  go_wp2_with fail
  refine (markI_any B _ xs 1 _ (by omega) (by omega) hx HB.out.1).mono ?_
  rintro e w1 ⟨rfl, o1, g1⟩
  have f2 := grown_cell g1 HB.out.2.2.2.1 H1.out
  have f3 := grown_cell g1 HB.out.2.2.2.2.1 H1.out
  have p2 := own_kept HB.out.2.1 g1 (fun g e e' => H.out.lm g e' e)
  have p3 := own_kept HB.out.2.2.1 g1 (fun g e e' => H.out.lt g e' e)
  have t1 : Touch B C _ _ := HB.out.2.2.2.2.2.trans (Touch.of_grown g1 fun k e => ⟨(H.out.l.lt k e).1, HC1.out k e⟩)
  have HP : Hid (_ ∧ _ ∧ _ ∧ _ ∧ _) := ⟨p2, p3, f3, t1, o1⟩
  obtain ⟨k1, hk1, hk10, hk11⟩ : ∃ k1 : Int, 1 + (xs.length : Int) = k1 ∧ 0 ≤ k1 ∧ k1 ≤ 1048577 := ⟨_, rfl, by omega, by omega⟩
  rw [hk1]
  have HK1 : Hid (1 + (xs.length : Int) = k1) := hk1
  clear hk1 p2 p3 t1 o1 g1 f3
  go_wp2_with fail
  refine (markI_any B _ ys k1 _ (by omega) (by omega) hy HP.out.1).mono ?_
  rintro e w2 ⟨rfl, o2, g2⟩
  have f3 := grown_cell g2 HP.out.2.2.1 H2.out
  have p3 := own_kept HP.out.2.1 g2 (fun g e e' => H.out.mt g e' e)
  have t2 := HP.out.2.2.2.1.trans (Touch.of_grown (B := B) (C := C) g2 fun k e => ⟨(H.out.m.lt k e).1, HC2.out k e⟩)
  have q1 := own_kept HP.out.2.2.2.2 g2 (fun g e => H.out.lm g e)
  have HQ : Hid (_ ∧ _ ∧ _ ∧ _) := ⟨p3, t2, q1, o2⟩
  obtain ⟨k2, hk2, hk20, hk21⟩ : ∃ k2 : Int, k1 + (ys.length : Int) = k2 ∧ 0 ≤ k2 ∧ k2 ≤ 2097153 := ⟨_, rfl, by omega, by omega⟩
  rw [hk2]
  have HK2 : Hid (k1 + (ys.length : Int) = k2) := hk2
  clear hk2 p3 t2 q1 o2 g2
  go_wp2_with fail
  refine (markI_any B _ zs k2 _ (by omega) (by omega) hz HQ.out.1).mono ?_
  rintro e w3 ⟨rfl, o3, g3⟩
  have t3 := HQ.out.2.1.trans (Touch.of_grown (B := B) (C := C) g3 fun k e => ⟨(H.out.t.lt k e).1, HC3.out k e⟩)
  have s1 := own_kept HQ.out.2.2.1 g3 (fun g e => H.out.lt g e)
  have s2 := own_kept HQ.out.2.2.2 g3 (fun g e => H.out.mt g e)
  have HS : Hid (_ ∧ _ ∧ _ ∧ _) := ⟨t3, row_marksK s1, row_marksK s2, row_marksK o3⟩
  clear t3 s1 s2 o3 g3
  obtain ⟨k3, hk3⟩ : ∃ k3 : Int, k2 + (zs.length : Int) = k3 := ⟨_, rfl⟩
  rw [hk3]
  have HK3 : Hid (k2 + (zs.length : Int) = k3) := hk3
  clear hk3
  go_wp2
  go_ret
  have z1 := HK1.out
  have z2 := HK2.out
  have z3 := HK3.out
  subst z1
  subst z2
  exact ⟨ret_int (by rw [← z3]), ⟨HS.out.2.1, HS.out.2.2.1, HS.out.2.2.2⟩, HS.out.1⟩

/-- asking for the marks of a state -/
theorem heldState_any (a1 a2 a3 : Option Addr) (c1 c2 c3 n1 n2 n3 : Nat) (w : World) (hx : n1 ≤ 1048576) (hy : n2 ≤ 1048576) (hz : n3 ≤ 1048576)
    (h : SRow w a1 a2 a3 (marks 1 n1) (marks (1 + n1) n2) (marks (1 + n1 + n2) n3)) :
    Calls Tryd.prog 16 #[.agg #[.slice a1 n1 c1, .slice a2 n2 c2, .slice a3 n3 c3], .int .i64 1] w fun e w' => e = .returned (.int .i64 (1 + n1 + n2 + n3)) ∧ Below w.heap.size w w' := by
  have H := h.below (below1 w (.cells #[.slice a1 n1 c1, .slice a2 n2 c2, .slice a3 n3 c3] 28))
  obtain ⟨k1, hk1, hk10, hk11⟩ : ∃ k1 : Int, 1 + (n1 : Int) = k1 ∧ 0 ≤ k1 ∧ k1 ≤ 1048577 := ⟨_, rfl, by omega, by omega⟩
  rw [hk1] at H ⊢
  obtain ⟨k2, hk2, hk20, hk21⟩ : ∃ k2 : Int, k1 + (n2 : Int) = k2 ∧ 0 ≤ k2 ∧ k2 ≤ 2097153 := ⟨_, rfl, by omega, by omega⟩
  rw [hk2] at H ⊢
  obtain ⟨k3, hk3, hk30⟩ : ∃ k3 : Int, k2 + (n3 : Int) = k3 ∧ 0 ≤ k3 := ⟨_, rfl, by omega⟩
  rw [hk3]
  have hh1 := heldI_any a1 c1 n1 1 _ (by omega) (by omega) hx H.1
  have hh2 := heldI_any a2 c2 n2 k1 _ (by omega) (by omega) hy H.2.1
  have hh3 := heldI_any a3 c3 n3 k2 _ (by omega) (by omega) hz H.2.2
  rw [hk1] at hh1
  rw [hk2] at hh2
  rw [hk3] at hh3
  have HH : Hid (_ ∧ _ ∧ _) := ⟨hh1, hh2, hh3⟩
  clear h H hh1 hh2 hh3 hk1 hk2 hk3
  go_enter Tryd.func16, Tryd.ntmps16
  go_wp2_with fail
  refine Calls.mono HH.out.1 ?_
  rintro e w1 ⟨rfl, rfl⟩
  go_wp2_with fail
  refine Calls.mono HH.out.2.1 ?_
  rintro e w1 ⟨rfl, rfl⟩
  go_wp2_with fail
  refine Calls.mono HH.out.2.2 ?_
  rintro e w1 ⟨rfl, rfl⟩
  go_wp2
  go_ret
  exact ⟨rfl, below1 _ _⟩
end

section
open Go.RowKit
set_option linter.unusedVariables false
set_option linter.unusedSimpArgs false
set_option maxRecDepth 100000

theorem ownsRow_below {w w' : World} {B : Nat} {e : TypeId} {size : Nat} {v : Value} {n : Nat} {xs : List Value} (h : w.ownsRow B e size v n xs) (hb : Below w.heap.size w w') : w'.ownsRow B e size v n xs := by
  refine ⟨h.1, ?_⟩
  rcases h.2 with hn | ⟨g, cap, cur, rfl, hB, hgg, rest⟩
  · exact .inl hn
  · refine .inr ⟨g, cap, cur, rfl, hB, ?_, rest⟩
    rw [hb.block g (Array.getElem?_eq_some_iff.1 hgg).1]
    exact hgg
theorem OwnSt.below {w w' : World} {B : Nat} {v1 v2 v3 : Value} {xs ys zs : List Int} (h : OwnSt w B v1 v2 v3 xs ys zs) (hb : Below w.heap.size w w') : OwnSt w' B v1 v2 v3 xs ys zs :=
  ⟨ownsRow_below h.l hb, ownsRow_below h.m hb, ownsRow_below h.t hb, h.lm, h.lt, h.mt⟩
/-- the three cells of a state that is kept -/
def Box3 (W : World) (b : Nat) (v1 v2 v3 : Value) : Prop := W.cell? ⟨b, 0, none⟩ = some v1 ∧ W.cell? ⟨b, 1, none⟩ = some v2 ∧ W.cell? ⟨b, 2, none⟩ = some v3
theorem Box3.new (w : World) (v1 v2 v3 : Value) (t : TypeId) : Box3 (w.alloc (.cells #[v1, v2, v3] t)) w.heap.size v1 v2 v3 := by
  have hb : (w.alloc (.cells #[v1, v2, v3] t)).heap[w.heap.size]? = some (.cells #[v1, v2, v3] t) := heap_alloc_new w _
  refine ⟨?_, ?_, ?_⟩ <;> rw [Lib.cell_of_heap hb] <;> rfl
theorem Box3.below {w w' : World} {b : Nat} {v1 v2 v3 : Value} (h : Box3 w b v1 v2 v3) (hb : Below w.heap.size w w') : Box3 w' b v1 v2 v3 := by
  have hl := World.block_lt_of_cell? w _ h.1
  exact ⟨by rw [hb.cell (p := ⟨b, 0, none⟩) hl]; exact h.1, by rw [hb.cell (p := ⟨b, 1, none⟩) hl]; exact h.2.1, by rw [hb.cell (p := ⟨b, 2, none⟩) hl]; exact h.2.2⟩
theorem Box3.lt {w : World} {b : Nat} {v1 v2 v3 : Value} (h : Box3 w b v1 v2 v3) : b < w.heap.size := World.block_lt_of_cell? w _ h.1
theorem Touch.cell {B C : Nat} {w w' : World} (h : Touch B C w w') (b o : Nat) (hl : b < w.heap.size) (hn : b < B ∨ C ≤ b) : w'.cell? ⟨b, o, none⟩ = w.cell? ⟨b, o, none⟩ := World.cell?_of_block (w := w) (a := ⟨b, o, none⟩) (h.block b hl hn)
theorem Box3.touch {B C : Nat} {w w' : World} {b : Nat} {v1 v2 v3 : Value} (h : Box3 w b v1 v2 v3) (ht : Touch B C w w') (hn : b < B ∨ C ≤ b) : Box3 w' b v1 v2 v3 :=
  ⟨by rw [ht.cell b 0 h.lt hn]; exact h.1, by rw [ht.cell b 1 h.lt hn]; exact h.2.1, by rw [ht.cell b 2 h.lt hn]; exact h.2.2⟩
end

section
open Go.RowKit
set_option linter.unusedVariables false
set_option linter.unusedSimpArgs false
set_option maxRecDepth 100000

/-- the laws' measure of a state: told, or too great -/
theorem szState_any (a1 a2 a3 : Option Addr) (c1 c2 c3 n1 n2 n3 : Nat) (r : Int) (w : World) (h1 : n1 ≤ 9223372036854775807) (h2 : n2 ≤ 9223372036854775807) (h3 : n3 ≤ 9223372036854775807) (hr0 : 0 ≤ r) (hr1 : r ≤ 1048576) :
    Calls Tryd.prog 7 #[.agg #[.slice a1 n1 c1, .slice a2 n2 c2, .slice a3 n3 c3], .int .i64 r] w fun e w' => (∃ q, e = .returned (.int .i64 q) ∧ (q < 0 ∨ (q ≤ r ∧ n1 ≤ 1048576 ∧ n2 ≤ 1048576 ∧ n3 ≤ 1048576))) ∧ Below w.heap.size w w' := by
  have z1 := fun w => szIntS_any a1 c1 n1 r w h1 hr0 hr1
  by_cases k1 : r < n1
  · rw [if_pos k1] at z1
    have Z1 := hid z1
    clear z1
    go_enter Tryd.func7, Tryd.ntmps7
    go_wp2_with fail
    refine Calls.mono (Z1.out _) ?_
    rintro e w1 ⟨rfl, rfl⟩
    go_wp2
    go_ret
    exact ⟨⟨_, rfl, .inl (by decide)⟩, below1 _ _⟩
  rw [if_neg k1] at z1
  obtain ⟨r1, e1, r10, r11⟩ : ∃ r1 : Int, r - (n1 : Int) = r1 ∧ 0 ≤ r1 ∧ r1 ≤ r := ⟨_, rfl, by omega, by omega⟩
  rw [e1] at z1
  have q1 : n1 ≤ 1048576 := by omega
  have Z1 := hid z1
  clear z1 e1
  have z2 := fun w => szIntS_any a2 c2 n2 r1 w h2 r10 (by omega)
  by_cases k2 : r1 < n2
  · rw [if_pos k2] at z2
    have Z2 := hid z2
    clear z2
    go_enter Tryd.func7, Tryd.ntmps7
    go_wp2_with fail
    refine Calls.mono (Z1.out _) ?_
    rintro e w1 ⟨rfl, rfl⟩
    go_wp2_with fail
    refine Calls.mono (Z2.out _) ?_
    rintro e w1 ⟨rfl, rfl⟩
    go_wp2
    go_ret
    exact ⟨⟨_, rfl, .inl (by decide)⟩, below1 _ _⟩
  rw [if_neg k2] at z2
  obtain ⟨r2, e2, r20, r21⟩ : ∃ r2 : Int, r1 - (n2 : Int) = r2 ∧ 0 ≤ r2 ∧ r2 ≤ r1 := ⟨_, rfl, by omega, by omega⟩
  rw [e2] at z2
  have q2 : n2 ≤ 1048576 := by omega
  have Z2 := hid z2
  clear z2 e2
  have z3 := fun w => szIntS_any a3 c3 n3 r2 w h3 r20 (by omega)
  by_cases k3 : r2 < n3
  · rw [if_pos k3] at z3
    have Z3 := hid z3
    clear z3
    go_enter Tryd.func7, Tryd.ntmps7
    go_wp2_with fail
    refine Calls.mono (Z1.out _) ?_
    rintro e w1 ⟨rfl, rfl⟩
    go_wp2_with fail
    refine Calls.mono (Z2.out _) ?_
    rintro e w1 ⟨rfl, rfl⟩
    go_wp2_with fail
    refine Calls.mono (Z3.out _) ?_
    rintro e w1 ⟨rfl, rfl⟩
    go_wp2
    go_ret
    exact ⟨⟨_, rfl, .inl (by decide)⟩, below1 _ _⟩
  rw [if_neg k3] at z3
  obtain ⟨r3, e3, r30, r31⟩ : ∃ r3 : Int, r2 - (n3 : Int) = r3 ∧ 0 ≤ r3 ∧ r3 ≤ r2 := ⟨_, rfl, by omega, by omega⟩
  rw [e3] at z3
  have q3 : n3 ≤ 1048576 := by omega
  have Z3 := hid z3
  clear z3 e3
  go_enter Tryd.func7, Tryd.ntmps7
  go_wp2_with fail
  refine Calls.mono (Z1.out _) ?_
  rintro e w1 ⟨rfl, rfl⟩
  go_wp2_with fail
  refine Calls.mono (Z2.out _) ?_
  rintro e w1 ⟨rfl, rfl⟩
  go_wp2_with fail
  refine Calls.mono (Z3.out _) ?_
  rintro e w1 ⟨rfl, rfl⟩
  go_wp2
  go_ret
  exact ⟨⟨_, rfl, .inr ⟨by omega, q1, q2, q3⟩⟩, below1 _ _⟩

theorem toIntS_sl (a : Option Addr) (c : Nat) (xs : List Int) (w : World) (hl : xs.length ≤ 1048576) (h : Row w a xs) :
    Calls Tryd.prog 32 #[.slice a xs.length c] w fun e w' => ∃ b d, e = .returned (.slice b xs.length d) ∧ w'.ownsRow w.heap.size 3 1 (.slice b xs.length d) xs.length (ints xs) ∧ Below w.heap.size w w' := by
  refine (toIntS_any a c xs w hl h).mono ?_
  rintro e w' ⟨v, rfl, ho, hb⟩
  obtain ⟨b, d, rfl, _⟩ := Row.of_owned ho
  exact ⟨b, d, rfl, ho, hb⟩
theorem apart_of {w w' : World} {B B' : Nat} {v u : Value} {n m : Nat} {xs ys : List Value} (h : w.ownsRow B 3 1 v n xs) (h' : w'.ownsRow B' 3 1 u m ys) (hB : w.heap.size ≤ B') : ∀ g, v.ownBlock = some g → u.ownBlock ≠ some g := by
  intro g e e'
  have := (h.lt g e).2
  have := (h'.lt g e').1
  omega

theorem ownsRow_set3 {w : World} {B g : Nat} {v : Value} {n : Nat} {xs : List Value} (h : w.ownsRow B 3 1 v n xs) (hg : g < B) (u1 u2 u3 : Value) : (((w.setCell ⟨g, 0, none⟩ u1).setCell ⟨g, 1, none⟩ u2).setCell ⟨g, 2, none⟩ u3).ownsRow B 3 1 v n xs :=
  ownsRow_setCell_below (a := ⟨g, 2, none⟩) (ownsRow_setCell_below (a := ⟨g, 1, none⟩) (ownsRow_setCell_below (a := ⟨g, 0, none⟩) h hg u1) hg u2) hg u3
/-- the blocks of the laws' copy of a state while it is made -/
structure TS (w X : World) (v1 v2 v3 u1 u2 u3 : Value) : Prop where
  a : Box3 X w.heap.size v1 v2 v3
  r : Box3 X (w.heap.size + 1) (.slice none 0 0) (.slice none 0 0) (.slice none 0 0)
  o : Box3 X (w.heap.size + 1 + 1) u1 u2 u3
  fr : ∀ j, X.frozen? ⟨w.heap.size + 1, j, none⟩ = false
  fo : ∀ j, X.frozen? ⟨w.heap.size + 1 + 1, j, none⟩ = false
  b : Below w.heap.size w X
theorem TS.below {w X X' : World} {v1 v2 v3 u1 u2 u3 : Value} (h : TS w X v1 v2 v3 u1 u2 u3) (hb : Below X.heap.size X X') : TS w X' v1 v2 v3 u1 u2 u3 :=
  ⟨h.a.below hb, h.r.below hb, h.o.below hb, fun j => by rw [hb.frozen (p := ⟨w.heap.size + 1, j, none⟩) h.r.lt]; exact h.fr j, fun j => by rw [hb.frozen (p := ⟨w.heap.size + 1 + 1, j, none⟩) h.o.lt]; exact h.fo j, bstep' h.b hb⟩
theorem TS.new (w : World) (v1 v2 v3 : Value) (t1 t2 : TypeId) : TS w (((w.alloc (.cells #[v1, v2, v3] t1)).alloc (.cells #[.slice none 0 0, .slice none 0 0, .slice none 0 0] t2)).alloc (.cells #[.slice none 0 0, .slice none 0 0, .slice none 0 0] t2)) v1 v2 v3 (.slice none 0 0) (.slice none 0 0) (.slice none 0 0) := by
  have s0 := size_alloc1 w (.cells #[v1, v2, v3] t1)
  have s1 := size_alloc1 (w.alloc (.cells #[v1, v2, v3] t1)) (.cells #[.slice none 0 0, .slice none 0 0, .slice none 0 0] t2)
  rw [s0] at s1
  have b0 := Box3.new w v1 v2 v3 t1
  have b1 := Box3.new (w.alloc (.cells #[v1, v2, v3] t1)) (.slice none 0 0) (.slice none 0 0) (.slice none 0 0) t2
  have b2 := Box3.new ((w.alloc (.cells #[v1, v2, v3] t1)).alloc (.cells #[.slice none 0 0, .slice none 0 0, .slice none 0 0] t2)) (.slice none 0 0) (.slice none 0 0) (.slice none 0 0) t2
  rw [s0] at b1
  rw [s1] at b2
  refine ⟨(b0.below (below1 _ _)).below (below1 _ _), b1.below (below1 _ _), b2, fun j => ?_, fun j => ?_, below3 w _ _ _⟩
  · simp [go_sem]
  · simp [go_sem]
theorem TS.set {w X : World} {v1 v2 v3 u1 u2 u3 : Value} (h : TS w X v1 v2 v3 u1 u2 u3) (j : Nat) (u : Value) (hj : j < 3) :
    TS w (X.setCell ⟨w.heap.size + 1 + 1, j, none⟩ u) v1 v2 v3 (if j = 0 then u else u1) (if j = 1 then u else u2) (if j = 2 then u else u3) := by
  have hne : ∀ b o, b ≠ w.heap.size + 1 + 1 → (X.setCell ⟨w.heap.size + 1 + 1, j, none⟩ u).cell? ⟨b, o, none⟩ = X.cell? ⟨b, o, none⟩ := fun b o hb => World.cell?_setCell_other X _ _ _ (by intro e; cases e; exact hb rfl)
  refine ⟨⟨?_, ?_, ?_⟩, ⟨?_, ?_, ?_⟩, ⟨?_, ?_, ?_⟩, fun k => ?_, fun k => ?_, h.b.setCell (by simp; omega) _⟩
  · rw [hne _ _ (by omega)]; exact h.a.1
  · rw [hne _ _ (by omega)]; exact h.a.2.1
  · rw [hne _ _ (by omega)]; exact h.a.2.2
  · rw [hne _ _ (by omega)]; exact h.r.1
  · rw [hne _ _ (by omega)]; exact h.r.2.1
  · rw [hne _ _ (by omega)]; exact h.r.2.2
  · by_cases e : j = 0
    · subst e; rw [if_pos rfl]; exact World.cell?_setCell_same X _ _ h.o.1
    · rw [if_neg e, World.cell?_setCell_other X _ _ _ (by intro e'; cases e'; exact e rfl)]; exact h.o.1
  · by_cases e : j = 1
    · subst e; rw [if_pos rfl]; exact World.cell?_setCell_same X _ _ h.o.2.1
    · rw [if_neg e, World.cell?_setCell_other X _ _ _ (by intro e'; cases e'; exact e rfl)]; exact h.o.2.1
  · by_cases e : j = 2
    · subst e; rw [if_pos rfl]; exact World.cell?_setCell_same X _ _ h.o.2.2
    · rw [if_neg e, World.cell?_setCell_other X _ _ _ (by intro e'; cases e'; exact e rfl)]; exact h.o.2.2
  · simp [go_sem]; exact h.fr k
  · simp [go_sem]; exact h.fo k

set_option maxHeartbeats 1000000 in
/-- the laws' copy of a state -/
theorem toState_any (a1 a2 a3 : Option Addr) (c1 c2 c3 : Nat) (xs ys zs : List Int) (w : World) (hx : xs.length ≤ 1048576) (hy : ys.length ≤ 1048576) (hz : zs.length ≤ 1048576) (h : SRow w a1 a2 a3 xs ys zs) :
    Calls Tryd.prog 10 #[.agg #[.slice a1 xs.length c1, .slice a2 ys.length c2, .slice a3 zs.length c3]] w fun e w' => ∃ b1 b2 b3 d1 d2 d3, e = .returned (.agg #[.slice b1 xs.length d1, .slice b2 ys.length d2, .slice b3 zs.length d3]) ∧ OwnSt w' w.heap.size (.slice b1 xs.length d1) (.slice b2 ys.length d2) (.slice b3 zs.length d3) xs ys zs ∧ Below w.heap.size w w' := by
  have H := hid h
  have T := hid (TS.new w (.slice a1 xs.length c1) (.slice a2 ys.length c2) (.slice a3 zs.length c3) 25 28)
  clear h
  go_enter Tryd.func10, Tryd.ntmps10
  go_wp2_with fail
  refine (toIntS_sl a1 c1 xs _ hx (H.out.1.below T.out.b)).mono ?_
  obtain ⟨W, hW⟩ : ∃ W, ((w.alloc (.cells #[.slice a1 xs.length c1, .slice a2 ys.length c2, .slice a3 zs.length c3] 25)).alloc (.cells #[.slice none 0 0, .slice none 0 0, .slice none 0 0] 28)).alloc (.cells #[.slice none 0 0, .slice none 0 0, .slice none 0 0] 28) = W := ⟨_, rfl⟩
  have T0 := T.out
  rw [hW] at T0 ⊢
  clear hW T
  rintro e w1 ⟨b1, d1, rfl, o1, B1⟩
  have T1 := T0.below B1
  have lW := T0.o.lt
  have T2 := T1.set 0 (.slice b1 xs.length d1) (by omega)
  rw [if_pos rfl, if_neg (by omega), if_neg (by omega)] at T2
  have p1 := ownsRow_setCell_below (a := ⟨w.heap.size + 1 + 1, 0, none⟩) o1 lW (.slice b1 xs.length d1)
  have f0 := T1.fo 0
  have lw1 := T1.o.lt
  obtain ⟨x0, x1, x2⟩ := T1.o
  obtain ⟨y0, y1, y2⟩ := T1.a
  have HT := hid T2
  have HP := hid p1
  clear T0 T1 T2 p1 o1 B1
  go_wp2_with fail
  refine (toIntS_sl a2 c2 ys _ hy (H.out.2.1.below HT.out.b)).mono ?_
  rintro e w2 ⟨b2, d2, rfl, o2, B2⟩
  have T3 := HT.out.below B2
  have T4 := T3.set 1 (.slice b2 ys.length d2) (by omega)
  rw [if_neg (by omega), if_pos rfl, if_neg (by omega)] at T4
  have q1 := ownsRow_below HP.out B2
  have q12 := apart_of HP.out o2 (Nat.le_refl _)
  have lw1' := HT.out.o.lt
  have p1 := ownsRow_setCell_below (a := ⟨w.heap.size + 1 + 1, 1, none⟩) q1 lW (.slice b2 ys.length d2)
  have p2 := ownsRow_setCell_below (a := ⟨w.heap.size + 1 + 1, 1, none⟩) o2 lw1' (.slice b2 ys.length d2)
  have f1 := T3.fo 1
  have lw2 := T3.o.lt
  clear x0 x1 x2 y0 y1 y2 f0
  obtain ⟨x0, x1, x2⟩ := T3.o
  obtain ⟨y0, y1, y2⟩ := T3.a
  have HT2 := hid T4
  have HP2 := hid (And.intro p1 (And.intro p2 q12))
  clear T3 T4 p1 p2 q1 q12 o2 B2 HT HP
  go_wp2_with fail
  refine (toIntS_sl a3 c3 zs _ hz (H.out.2.2.below HT2.out.b)).mono ?_
  rintro e w3 ⟨b3, d3, rfl, o3, B3⟩
  have T5 := HT2.out.below B3
  have T6 := T5.set 2 (.slice b3 zs.length d3) (by omega)
  rw [if_neg (by omega), if_neg (by omega), if_pos rfl] at T6
  have q1 := ownsRow_below HP2.out.1 B3
  have q2 := ownsRow_below HP2.out.2.1 B3
  have q13 := apart_of HP2.out.1 o3 (Nat.le_refl _)
  have q23 := apart_of HP2.out.2.1 o3 (Nat.le_refl _)
  have lw2' := HT2.out.o.lt
  have p1 := ownsRow_setCell_below (a := ⟨w.heap.size + 1 + 1, 2, none⟩) q1 lW (.slice b3 zs.length d3)
  have p2 := ownsRow_setCell_below (a := ⟨w.heap.size + 1 + 1, 2, none⟩) q2 lw1' (.slice b3 zs.length d3)
  have p3 := ownsRow_setCell_below (a := ⟨w.heap.size + 1 + 1, 2, none⟩) o3 lw2' (.slice b3 zs.length d3)
  have f2 := T5.fo 2
  have lw3 := T5.o.lt
  clear x0 x1 x2 y0 y1 y2 f1
  obtain ⟨x0, x1, x2⟩ := T5.o
  obtain ⟨r0, r1, r2⟩ := T5.r
  have g0 := T5.fr 0
  have g1 := T5.fr 1
  have g2 := T5.fr 2
  have lr := T5.r.lt
  have HF := hid (And.intro T6 (And.intro p1 (And.intro p2 (And.intro p3 (And.intro HP2.out.2.2 (And.intro q13 q23))))))
  clear T5 T6 p1 p2 p3 q1 q2 q13 q23 o3 B3 HT2 HP2
  go_wp2
  refine bodyPost_ret (v := .agg #[.slice b1 xs.length d1, .slice b2 ys.length d2, .slice b3 zs.length d3]) (by simp [results, Tryd.results10, go_sem, *]) rfl ⟨b1, b2, b3, d1, d2, d3, rfl, ?_, ?_⟩
  · obtain ⟨T6, p1, p2, p3, n12, n13, n23⟩ := HF.out
    have hlo : w.heap.size + 1 < W.heap.size := by omega
    exact ⟨owns_mono (ownsRow_set3 p1 hlo _ _ _) (by omega), owns_mono (ownsRow_set3 p2 (by have := hlo; simp at lw1' ⊢; omega) _ _ _) (by simp; omega), owns_mono (ownsRow_set3 p3 (by simp at lw2' ⊢; omega) _ _ _) (by simp; omega), n12, n13, n23⟩
  · exact (((HF.out.1.b.setCell (p := ⟨w.heap.size + 1, 0, none⟩) (by simp) _).setCell (p := ⟨w.heap.size + 1, 1, none⟩) (by simp) _).setCell (p := ⟨w.heap.size + 1, 2, none⟩) (by simp) _)
end

section
open Go.RowKit
set_option linter.unusedVariables false
set_option linter.unusedSimpArgs false
set_option maxRecDepth 100000

/-- appending a slice of numbers to an empty one -/
theorem run_append_row (w : World) (ty : TypeId) (B : Nat) (v : Value) (hown : w.ownsRow B 3 1 v 0 []) (ta : Option Addr) (tc : Nat) (t : List Int) (hR : Row w ta t) (hl : t.length ≤ 1048576) (hB : B ≤ w.heap.size) :
    ∃ va vc w', (Builtin.append_ #[23, 23] ty #[v, .slice ta t.length tc]).run Tryd.prog w = .ok (.slice va t.length vc) w' ∧ w'.ownsRow B 3 1 (.slice va t.length vc) t.length (ints t) ∧ w.grownBy w' v.ownBlock := by
  obtain ⟨i0, hi, hz0, hz1, hz2⟩ := info_parts info3
  obtain ⟨va, vc, hv⟩ : ∃ a c, v = .slice a 0 c := by
    rcases hown.2 with ⟨rfl, h0⟩ | ⟨g, cap, cur, rfl, _⟩
    · exact ⟨none, 0, rfl⟩
    · exact ⟨_, cap, rfl⟩
  by_cases ht : t = []
  · subst ht
    subst hv
    refine ⟨va, vc, w, ?_, by simpa [ints] using hown, ⟨rfl, rfl, rfl, Nat.le_refl _, fun _ _ _ => rfl⟩⟩
    refine run_append_nothing w 23 23 ty 3 i0 Tryd.underlying23 hi va 0 vc (Nat.zero_le _) _ ?_
    rw [hz1]
    cases ta with
    | none => exact Src.ofNil _ Tryd.underlying23 tc
    | some ad => exact Src.ofSlice _ Tryd.underlying23 ad 0 tc [] (by simp) (by simp) (by simp)
  · rcases hR with h | ⟨b, off, rfl, hc⟩
    · exact absurd h ht
    have hpos : 0 < t.length := List.length_pos_iff.2 ht
    obtain ⟨g, cap, w', hr, h2, h3, _, _⟩ := run_append_lies (P := Tryd.prog) w 23 ty B 3 i0 (.int .i64 0) 1 8 Tryd.underlying23 hi hz0 hz1 hz2 rfl (by decide) v 0 [] hown ⟨b, off, none⟩ t.length tc (ints t) (by simp [ints])
      (by
        intro j u hj
        have hjl : j < t.length := by have := (List.getElem?_eq_some_iff.1 hj).1; simpa [ints] using this
        have h1 := hc j hjl
        have h2 : (ints t)[j]? = some (.int .i64 (t[j]?.getD 0)) := by simp [ints, hjl]
        rw [h2] at hj
        rw [← hj]
        cases j with
        | zero => simpa [Addr.add] using h1
        | succ j => simpa [Addr.add] using h1)
      (by simp [ints, Value.oneCell']) hpos (by unfold maxLen; omega) (by omega) hB _ rfl
    rw [Nat.zero_add] at hr h2
    exact ⟨_, cap, w', hr, by simpa using h2, h3⟩

theorem wp_append_row {w : World} {o : Oper} {a : Act} {K : Act → World → Prop} {Q : Exit → Act → World → Prop} (s x : Operand)
    (ho : o.op = .call { callee := .builtin .append, args := #[s, x], argTypes := #[23, 23] })
    (B : Nat) (v : Value) (hs : a.eval s = v) (hown : w.ownsRow B 3 1 v 0 []) (ta : Option Addr) (tc : Nat) (t : List Int) (hx : a.eval x = .slice ta t.length tc) (hR : Row w ta t) (hl : t.length ≤ 1048576) (hB : B ≤ w.heap.size)
    (h : ∀ va vc w', w'.ownsRow B 3 1 (.slice va t.length vc) t.length (ints t) → w.grownBy w' v.ownBlock → K (a.put o.dst (.slice va t.length vc)) w') : o.wp Tryd.prog a w K Q := by
  obtain ⟨va, vc, w', hr, h2, h3⟩ := run_append_row w o.type B v hown ta tc t hR hl hB
  unfold Oper.wp execOp
  simp only [ho, resolve, invoke, builtin, Sem.run_bind, Sem.run_pure, Result.andThen_ok, List.map_toArray, List.map_cons, List.map_nil, hs, hx, hr]
  exact h va vc w' h2 h3
theorem wpList_append_row {w : World} {ops : Array Oper} {rest : List Oper} {o : Oper} {a : Act} {Q : Exit → Act → World → Prop} (hgd : o.guard = none) (s x : Operand)
    (ho : o.op = .call { callee := .builtin .append, args := #[s, x], argTypes := #[23, 23] })
    (B : Nat) (v : Value) (hs : a.eval s = v) (hown : w.ownsRow B 3 1 v 0 []) (ta : Option Addr) (tc : Nat) (t : List Int) (hx : a.eval x = .slice ta t.length tc) (hR : Row w ta t) (hl : t.length ≤ 1048576) (hB : B ≤ w.heap.size)
    (h : ∀ va vc w', w'.ownsRow B 3 1 (.slice va t.length vc) t.length (ints t) → w.grownBy w' v.ownBlock → wpList Tryd.prog ops Q rest (a.put o.dst (.slice va t.length vc)) w') : wpList Tryd.prog ops Q (o :: rest) a w :=
  wpList_plain hgd fun _ hK => wp_append_row s x ho B v hs hown ta tc t hx hR hl hB fun va vc w' h2 h3 => hK _ _ (h va vc w' h2 h3)
theorem step_append_row {w : World} {ops : Array Oper} {o : Oper} {a : Act} {K : Act → World → Prop} {Q : Exit → Act → World → Prop} {E : Prop} (hgd : o.guard = none) (s x : Operand)
    (ho : o.op = .call { callee := .builtin .append, args := #[s, x], argTypes := #[23, 23] })
    (B : Nat) (v : Value) (hs : a.eval s = v) (hown : w.ownsRow B 3 1 v 0 []) (ta : Option Addr) (tc : Nat) (t : List Int) (hx : a.eval x = .slice ta t.length tc) (hR : Row w ta t) (hl : t.length ≤ 1048576) (hB : B ≤ w.heap.size)
    (h : ∀ va vc w', w'.ownsRow B 3 1 (.slice va t.length vc) t.length (ints t) → w.grownBy w' v.ownBlock → K (a.put o.dst (.slice va t.length vc)) w') :
    if Region.wanted o (yielded ops a.tmps) = true then Oper.wp Tryd.prog o a w K Q else E := by
  have hw : Region.wanted o (yielded ops a.tmps) = true := by simp [Region.wanted, hgd]
  rw [if_pos hw]
  exact wp_append_row s x ho B v hs hown ta tc t hx hR hl hB h

/-- three rows made one after the other, each apart from the others -/
theorem rows3 {w0 wa wb wc : World} {va vb vc : Value} {na nb nc : Nat} {la lb lc : List Value} (ha : wa.ownsRow w0.heap.size 3 1 va na la) (hb : wb.ownsRow wa.heap.size 3 1 vb nb lb) (hc : wc.ownsRow wb.heap.size 3 1 vc nc lc) (g1 : w0.grownBy wa none) (g2 : wa.grownBy wb none) (g3 : wb.grownBy wc none) :
    (wc.ownsRow w0.heap.size 3 1 va na la ∧ wc.ownsRow w0.heap.size 3 1 vb nb lb ∧ wc.ownsRow w0.heap.size 3 1 vc nc lc) ∧ ((∀ g, va.ownBlock = some g → vb.ownBlock ≠ some g) ∧ (∀ g, va.ownBlock = some g → vc.ownBlock ≠ some g) ∧ ∀ g, vb.ownBlock = some g → vc.ownBlock ≠ some g) ∧ Below w0.heap.size w0 wc := by
  have b1 : Below w0.heap.size w0 wa := (Below.refl _ _).grown g1 (Nat.le_refl _) (fun k hk => by cases hk)
  have b2 : Below wa.heap.size wa wb := (Below.refl _ _).grown g2 (Nat.le_refl _) (fun k hk => by cases hk)
  have b3 : Below wb.heap.size wb wc := (Below.refl _ _).grown g3 (Nat.le_refl _) (fun k hk => by cases hk)
  refine ⟨⟨owns_below (owns_below ha b2) b3, owns_mono (owns_below hb b3) b1.size, owns_mono hc (Nat.le_trans b1.size b2.size)⟩, ⟨?_, ?_, ?_⟩, bstep' (bstep' b1 b2) b3⟩
  · intro g e e'
    have := (ha.lt g e).2
    have := (hb.lt g e').1
    omega
  · intro g e e'
    have := (ha.lt g e).2
    have := (hc.lt g e').1
    have := b2.size
    omega
  · intro g e e'
    have := (hb.lt g e).2
    have := (hc.lt g e').1
    omega

set_option maxHeartbeats 4000000 in
/-- the program's copyState -/
theorem copyState_any (a1 a2 a3 : Option Addr) (c1 c2 c3 : Nat) (xs ys zs : List Int) (w : World) (hx : xs.length ≤ 1048576) (hy : ys.length ≤ 1048576) (hz : zs.length ≤ 1048576) (h : SRow w a1 a2 a3 xs ys zs) :
    Calls Tryd.prog 46 #[.agg #[.slice a1 xs.length c1, .slice a2 ys.length c2, .slice a3 zs.length c3]] w fun e w' => ∃ b1 b2 b3 d1 d2 d3, e = .returned (.agg #[.slice b1 xs.length d1, .slice b2 ys.length d2, .slice b3 zs.length d3]) ∧ OwnSt w' w.heap.size (.slice b1 xs.length d1) (.slice b2 ys.length d2) (.slice b3 zs.length d3) xs ys zs ∧ Below w.heap.size w w' := by
  have HS := hid h
  clear h
  go_enter Tryd.func46, Tryd.ntmps46
  go_wp2
  have P0 := (Box3.new w (.slice a1 xs.length c1) (.slice a2 ys.length c2) (.slice a3 zs.length c3) 28).below (below1 _ (.cells #[.slice none 0 0, .slice none 0 0, .slice none 0 0] 28))
  have P1 := Box3.new (w.alloc (.cells #[.slice a1 xs.length c1, .slice a2 ys.length c2, .slice a3 zs.length c3] 28)) (.slice none 0 0) (.slice none 0 0) (.slice none 0 0) 28
  rw [size_alloc1] at P1
  have F1 : ∀ j, ((w.alloc (.cells #[.slice a1 xs.length c1, .slice a2 ys.length c2, .slice a3 zs.length c3] 28)).alloc (.cells #[.slice none 0 0, .slice none 0 0, .slice none 0 0] 28)).frozen? ⟨w.heap.size + 1, j, none⟩ = false := fun j => by simp [go_sem]
  have B0 := below2 w (.cells #[.slice a1 xs.length c1, .slice a2 ys.length c2, .slice a3 zs.length c3] 28) (.cells #[.slice none 0 0, .slice none 0 0, .slice none 0 0] 28)
  have hsz : ((w.alloc (.cells #[.slice a1 xs.length c1, .slice a2 ys.length c2, .slice a3 zs.length c3] 28)).alloc (.cells #[.slice none 0 0, .slice none 0 0, .slice none 0 0] 28)).heap.size = w.heap.size + 1 + 1 := by simp
  generalize ((w.alloc (.cells #[.slice a1 xs.length c1, .slice a2 ys.length c2, .slice a3 zs.length c3] 28)).alloc (.cells #[.slice none 0 0, .slice none 0 0, .slice none 0 0] 28)) = X0 at P0 P1 F1 B0 hsz
  have HR : Hid (∀ X, Below X0.heap.size X0 X → SRow X a1 a2 a3 xs ys zs) := fun X hb => HS.out.below (bstep' B0 hb)
  have HK : Hid (∀ X, Below X0.heap.size X0 X → (X.cell? ⟨w.heap.size, 0, none⟩ = some (.slice a1 xs.length c1) ∧ X.cell? ⟨w.heap.size, 1, none⟩ = some (.slice a2 ys.length c2) ∧ X.cell? ⟨w.heap.size, 2, none⟩ = some (.slice a3 zs.length c3))) := fun X hb => P0.below hb
  have HBN : Hid (∀ X Y, Below X0.heap.size X0 X → X.grownBy Y none → Below X0.heap.size X0 Y) := fun X Y hb hg => hb.grown hg hb.size (fun k hk => by cases hk)
  have hb0 : Below X0.heap.size X0 X0.drew := (Below.refl _ _).drew
  have HR1 : Hid (∀ X, Below X0.heap.size X0 X → X.cell? ⟨w.heap.size + 1, 0, none⟩ = some (.slice none 0 0) ∧ X.cell? ⟨w.heap.size + 1, 1, none⟩ = some (.slice none 0 0) ∧ X.cell? ⟨w.heap.size + 1, 2, none⟩ = some (.slice none 0 0) ∧ X.frozen? ⟨w.heap.size + 1, 0, none⟩ = false ∧ X.frozen? ⟨w.heap.size + 1, 1, none⟩ = false ∧ X.frozen? ⟨w.heap.size + 1, 2, none⟩ = false ∧ w.heap.size + 1 < X.heap.size) := by
    intro X hb
    have hp := P1.below hb
    have hf : ∀ j, X.frozen? ⟨w.heap.size + 1, j, none⟩ = false := fun j => by rw [hb.frozen (p := ⟨w.heap.size + 1, j, none⟩) (by simp; omega)]; exact F1 j
    exact ⟨hp.1, hp.2.1, hp.2.2, hf 0, hf 1, hf 2, hp.lt⟩
  clear P0 P1 F1
  go_region_held_law (fun w' => w'.cell? ⟨w.heap.size, 0, none⟩ = some (.slice a1 xs.length c1) ∧ w'.cell? ⟨w.heap.size, 1, none⟩ = some (.slice a2 ys.length c2) ∧ w'.cell? ⟨w.heap.size, 2, none⟩ = some (.slice a3 zs.length c3)) ((first | exact HK.out _ (by assumption) | go_keep)) ((first
    | (refine step_append_row (by rfl) _ _ (by rfl) _ _ (by rfl) (World.ownsRow_nil _ _ _ _) a1 c1 xs (by rfl) (HR.out _ (by assumption)).1 hx (Nat.le_refl _) ?_; intro va1 vc1 x1 ho1 hg1; have hb1 := HBN.out _ _ (by assumption) hg1; obtain ⟨r0, r1, r2, q0, q1, q2, rl⟩ := HR1.out _ hb1)
    | (refine step_append_row (by rfl) _ _ (by rfl) _ _ (by rfl) (World.ownsRow_nil _ _ _ _) a2 c2 ys (by rfl) (HR.out _ (by assumption)).2.1 hy (Nat.le_refl _) ?_; intro va2 vc2 x2 ho2 hg2; have hb2 := HBN.out _ _ (by assumption) hg2; obtain ⟨r0, r1, r2, q0, q1, q2, rl⟩ := HR1.out _ hb2)
    | (refine step_append_row (by rfl) _ _ (by rfl) _ _ (by rfl) (World.ownsRow_nil _ _ _ _) a3 c3 zs (by rfl) (HR.out _ (by assumption)).2.2 hz (Nat.le_refl _) ?_; intro va3 vc3 x3 ho3 hg3; have hb3 := HBN.out _ _ (by assumption) hg3; obtain ⟨r0, r1, r2, q0, q1, q2, rl⟩ := HR1.out _ hb3)))
  all_goals
    have hr := rows3 (w0 := X0.drew) ho1 ho2 ho3 hg1 hg2 hg3
    have HF := hid (And.intro hr hsz)
    have HB := hid (bstep' B0 hb3)
    clear hr ho1 ho2 ho3 hg1 hg2 hg3 hb0 hb1 hb2 hb3 hsz B0
    go_wp2
    refine bodyPost_ret (v := .agg #[.slice va1 xs.length vc1, .slice va2 ys.length vc2, .slice va3 zs.length vc3]) (by simp [results, Tryd.results46, go_sem, *]) rfl ⟨va1, va2, va3, vc1, vc2, vc3, rfl, ?_, ?_⟩
    · obtain ⟨⟨⟨p1, p2, p3⟩, ⟨n1, n2, n3⟩, _⟩, hsz⟩ := HF.out
      have hlo : w.heap.size + 1 < X0.drew.heap.size := by show w.heap.size + 1 < X0.heap.size; omega
      have hle : w.heap.size ≤ X0.drew.heap.size := by show w.heap.size ≤ X0.heap.size; omega
      exact ⟨owns_mono (ownsRow_set3 p1 hlo _ _ _) hle, owns_mono (ownsRow_set3 p2 hlo _ _ _) hle, owns_mono (ownsRow_set3 p3 hlo _ _ _) hle, n1, n2, n3⟩
    · exact (((HB.out.setCell (p := ⟨w.heap.size + 1, 0, none⟩) (by simp) _).setCell (p := ⟨w.heap.size + 1, 1, none⟩) (by simp) _).setCell (p := ⟨w.heap.size + 1, 2, none⟩) (by simp) _)
end

section
open Go.RowKit
set_option linter.unusedVariables false
set_option linter.unusedSimpArgs false
set_option maxRecDepth 100000

abbrev nilOR : OR := ⟨3, 1, .slice none 0 0, 0, []⟩
theorem nil3 (w : World) (B : Nat) : Sep w B [nilOR, nilOR, nilOR] := by
  refine ⟨fun x hx => ?_, ?_⟩
  · simp only [List.mem_cons, List.not_mem_nil, or_false, or_self] at hx
    subst hx
    exact World.ownsRow_nil _ _ _ _
  · refine List.Pairwise.cons (fun x _ => .inl rfl) (List.Pairwise.cons (fun x _ => .inl rfl) (List.Pairwise.cons (fun x hx => by cases hx) List.Pairwise.nil))
/-- an empty slice that is built -/
theorem Sep.built {w : World} {B : Nat} (l1 : List OR) {l2 : List OR} (h : Sep w B (l1 ++ nilOR :: l2)) (hB : B ≤ w.heap.size) : Sep (w.alloc (.cells #[] 3)) B (l1 ++ ⟨3, 1, .slice (some ⟨w.heap.size, 0, none⟩) 0 0, 0, []⟩ :: l2) := by
  refine h.turn l1 (below1 w (.cells #[] 3)) (World.grownBy.refl _ _) ⟨3, 1, .slice (some ⟨w.heap.size, 0, none⟩) 0 0, 0, []⟩ ?_ (fun k hk => by simp [Value.ownBlock] at hk; omega)
  exact ⟨by simp, .inr ⟨w.heap.size, 0, #[], rfl, hB, heap_alloc_new w _, Nat.le_refl _, by unfold maxLen; simp, by simp, by simp⟩⟩
/-- appending a slice of numbers to an empty one, among rows that lie apart -/
theorem run_append_sep0 (w : World) (ty : TypeId) (B : Nat) (l1 l2 : List OR) (v : Value) (h : Sep w B (l1 ++ ⟨3, 1, v, 0, []⟩ :: l2)) (ta : Option Addr) (tc : Nat) (t : List Int) (hR : Row w ta t) (hl : t.length ≤ 1048576) (hB : B ≤ w.heap.size) :
    ∃ va vc w', (Builtin.append_ #[23, 23] ty #[v, .slice ta t.length tc]).run Tryd.prog w = .ok (.slice va t.length vc) w' ∧ Sep w' B (l1 ++ ⟨3, 1, .slice va t.length vc, t.length, ints t⟩ :: l2) ∧ Below B w w' := by
  obtain ⟨i0, hi, hz0, hz1, hz2⟩ := info_parts info3
  have hown : w.ownsRow B 3 1 v 0 [] := h.1 ⟨3, 1, v, 0, []⟩ (by simp)
  obtain ⟨va, vc, hv⟩ : ∃ a c, v = .slice a 0 c := by
    rcases hown.2 with ⟨rfl, h0⟩ | ⟨g, cap, cur, rfl, _⟩
    · exact ⟨none, 0, rfl⟩
    · exact ⟨_, cap, rfl⟩
  by_cases ht : t = []
  · subst ht
    subst hv
    refine ⟨va, vc, w, ?_, by simpa [ints] using h, Below.refl _ _⟩
    refine run_append_nothing w 23 23 ty 3 i0 Tryd.underlying23 hi va 0 vc (Nat.zero_le _) _ ?_
    rw [hz1]
    cases ta with
    | none => exact Src.ofNil _ Tryd.underlying23 tc
    | some ad => exact Src.ofSlice _ Tryd.underlying23 ad 0 tc [] (by simp) (by simp) (by simp)
  · rcases hR with h' | ⟨b, off, rfl, hc⟩
    · exact absurd h' ht
    have hpos : 0 < t.length := List.length_pos_iff.2 ht
    obtain ⟨g, cap, w', hr, h2, h3, hat, _⟩ := run_append_lies (P := Tryd.prog) w 23 ty B 3 i0 (.int .i64 0) 1 8 Tryd.underlying23 hi hz0 hz1 hz2 rfl (by decide) v 0 [] hown ⟨b, off, none⟩ t.length tc (ints t) (by simp [ints])
      (by
        intro j u hj
        have hjl : j < t.length := by have := (List.getElem?_eq_some_iff.1 hj).1; simpa [ints] using this
        have h1 := hc j hjl
        have h2 : (ints t)[j]? = some (.int .i64 (t[j]?.getD 0)) := by simp [ints, hjl]
        rw [h2] at hj
        rw [← hj]
        cases j with
        | zero => simpa [Addr.add] using h1
        | succ j => simpa [Addr.add] using h1)
      (by simp [ints, Value.oneCell']) hpos (by unfold maxLen; omega) (by omega) hB _ rfl
    rw [Nat.zero_add] at hr h2
    have h2' : w'.ownsRow B 3 1 (.slice (some ⟨g, 0, none⟩) t.length cap) t.length (ints t) := by simpa using h2
    refine ⟨_, cap, w', hr, h.turn l1 (Below.refl _ _) h3 ⟨3, 1, .slice (some ⟨g, 0, none⟩) t.length cap, t.length, ints t⟩ h2' (fun k hk => ?_), (Below.refl B w).grown h3 hB (fun j hj => (hown.lt j hj).1)⟩
    simp only [Value.ownBlock, Option.some.injEq] at hk
    subst hk
    rcases hat with hat | hat
    · exact .inl hat
    · exact .inr (by omega)
theorem step_append_sep0 {w : World} {ops : Array Oper} {o : Oper} {a : Act} {K : Act → World → Prop} {Q : Exit → Act → World → Prop} {E : Prop} (l1 l2 : List OR) (hgd : o.guard = none) (s x : Operand)
    (ho : o.op = .call { callee := .builtin .append, args := #[s, x], argTypes := #[23, 23] })
    (B : Nat) (v : Value) (hs : a.eval s = v) (hS : Sep w B (l1 ++ ⟨3, 1, v, 0, []⟩ :: l2)) (ta : Option Addr) (tc : Nat) (t : List Int) (hx : a.eval x = .slice ta t.length tc) (hR : Row w ta t) (hl : t.length ≤ 1048576) (hB : B ≤ w.heap.size)
    (h : ∀ va vc w', Sep w' B (l1 ++ ⟨3, 1, .slice va t.length vc, t.length, ints t⟩ :: l2) → Below B w w' → K (a.put o.dst (.slice va t.length vc)) w') :
    if Region.wanted o (yielded ops a.tmps) = true then Oper.wp Tryd.prog o a w K Q else E := by
  have hw : Region.wanted o (yielded ops a.tmps) = true := by simp [Region.wanted, hgd]
  rw [if_pos hw]
  obtain ⟨va, vc, w', hr, h2, h3⟩ := run_append_sep0 w o.type B l1 l2 v hS ta tc t hR hl hB
  unfold Oper.wp execOp
  simp only [ho, resolve, invoke, builtin, Sem.run_bind, Sem.run_pure, Result.andThen_ok, List.map_toArray, List.map_cons, List.map_nil, hs, hx, hr]
  exact h va vc w' h2 h3
theorem OwnSt.of_sep {w : World} {B : Nat} {v1 v2 v3 : Value} {xs ys zs : List Int} (h : Sep w B [⟨3, 1, v1, xs.length, ints xs⟩, ⟨3, 1, v2, ys.length, ints ys⟩, ⟨3, 1, v3, zs.length, ints zs⟩]) : OwnSt w B v1 v2 v3 xs ys zs := by
  have h2 := h.2
  simp only [List.pairwise_cons, List.mem_cons, List.not_mem_nil, or_false, forall_eq_or_imp, forall_eq, false_implies, implies_true, and_true, List.Pairwise.nil] at h2
  have key : ∀ {x y : OR}, apt x y → ∀ g, x.v.ownBlock = some g → y.v.ownBlock ≠ some g := by
    rintro x y (h | h) g e e'
    · rw [h] at e; cases e
    · exact h (e.trans e'.symm)
  exact ⟨h.1 ⟨3, 1, v1, xs.length, ints xs⟩ (by simp), h.1 ⟨3, 1, v2, ys.length, ints ys⟩ (by simp), h.1 ⟨3, 1, v3, zs.length, ints zs⟩ (by simp), key h2.1.1, key h2.1.2, key h2.2⟩

theorem own_end1 {w X0 V : World} {v1 v2 v3 : Value} {xs ys zs : List Int} (s : Sep V X0.heap.size [⟨3, 1, v1, xs.length, ints xs⟩, ⟨3, 1, v2, ys.length, ints ys⟩, ⟨3, 1, v3, zs.length, ints zs⟩]) (hsz : X0.heap.size = w.heap.size + 1 + 1) (u1 u2 u3 : Value) : OwnSt (((V.setCell ⟨w.heap.size + 1, 0, none⟩ u1).setCell ⟨w.heap.size + 1, 1, none⟩ u2).setCell ⟨w.heap.size + 1, 2, none⟩ u3) w.heap.size v1 v2 v3 xs ys zs := by
  obtain ⟨p1, p2, p3, n1, n2, n3⟩ := OwnSt.of_sep s
  have hlo : w.heap.size + 1 < X0.heap.size := by omega
  have hle : w.heap.size ≤ X0.heap.size := by omega
  exact ⟨owns_mono (ownsRow_set3 p1 hlo _ _ _) hle, owns_mono (ownsRow_set3 p2 hlo _ _ _) hle, owns_mono (ownsRow_set3 p3 hlo _ _ _) hle, n1, n2, n3⟩
theorem own_end2 {w X0 V : World} (hB : Below X0.heap.size X0 V) (hsz : X0.heap.size = w.heap.size + 1 + 1) (B0 : Below w.heap.size w X0) (u1 u2 u3 : Value) : Below w.heap.size w (((V.setCell ⟨w.heap.size + 1, 0, none⟩ u1).setCell ⟨w.heap.size + 1, 1, none⟩ u2).setCell ⟨w.heap.size + 1, 2, none⟩ u3) :=
  ((((bstep' B0 hB).setCell (p := ⟨w.heap.size + 1, 0, none⟩) (by simp) _).setCell (p := ⟨w.heap.size + 1, 1, none⟩) (by simp) _).setCell (p := ⟨w.heap.size + 1, 2, none⟩) (by simp) _)
set_option maxHeartbeats 4000000 in
/-- the model's l5Own -/
theorem l5Own_any (a1 a2 a3 : Option Addr) (c1 c2 c3 : Nat) (xs ys zs : List Int) (w : World) (hx : xs.length ≤ 1048576) (hy : ys.length ≤ 1048576) (hz : zs.length ≤ 1048576) (h : SRow w a1 a2 a3 xs ys zs) :
    Calls Tryd.prog 30 #[.agg #[.slice a1 xs.length c1, .slice a2 ys.length c2, .slice a3 zs.length c3]] w fun e w' => ∃ b1 b2 b3 d1 d2 d3, e = .returned (.agg #[.slice b1 xs.length d1, .slice b2 ys.length d2, .slice b3 zs.length d3]) ∧ OwnSt w' w.heap.size (.slice b1 xs.length d1) (.slice b2 ys.length d2) (.slice b3 zs.length d3) xs ys zs ∧ Below w.heap.size w w' := by
  have HS := hid h
  clear h
  go_enter Tryd.func30, Tryd.ntmps30
  go_wp2
  have P0 := (Box3.new w (.slice a1 xs.length c1) (.slice a2 ys.length c2) (.slice a3 zs.length c3) 28).below (below1 _ (.cells #[.slice none 0 0, .slice none 0 0, .slice none 0 0] 28))
  have P1 := Box3.new (w.alloc (.cells #[.slice a1 xs.length c1, .slice a2 ys.length c2, .slice a3 zs.length c3] 28)) (.slice none 0 0) (.slice none 0 0) (.slice none 0 0) 28
  rw [size_alloc1] at P1
  have F1 : ∀ j, ((w.alloc (.cells #[.slice a1 xs.length c1, .slice a2 ys.length c2, .slice a3 zs.length c3] 28)).alloc (.cells #[.slice none 0 0, .slice none 0 0, .slice none 0 0] 28)).frozen? ⟨w.heap.size + 1, j, none⟩ = false := fun j => by simp [go_sem]
  have B0 := below2 w (.cells #[.slice a1 xs.length c1, .slice a2 ys.length c2, .slice a3 zs.length c3] 28) (.cells #[.slice none 0 0, .slice none 0 0, .slice none 0 0] 28)
  have hsz : ((w.alloc (.cells #[.slice a1 xs.length c1, .slice a2 ys.length c2, .slice a3 zs.length c3] 28)).alloc (.cells #[.slice none 0 0, .slice none 0 0, .slice none 0 0] 28)).heap.size = w.heap.size + 1 + 1 := by simp
  generalize ((w.alloc (.cells #[.slice a1 xs.length c1, .slice a2 ys.length c2, .slice a3 zs.length c3] 28)).alloc (.cells #[.slice none 0 0, .slice none 0 0, .slice none 0 0] 28)) = X0 at P0 P1 F1 B0 hsz
  have HR : Hid (∀ X, Below X0.heap.size X0 X → SRow X a1 a2 a3 xs ys zs) := fun X hb => HS.out.below (bstep' B0 hb)
  have HK : Hid (∀ X, Below X0.heap.size X0 X → (X.cell? ⟨w.heap.size, 0, none⟩ = some (.slice a1 xs.length c1) ∧ X.cell? ⟨w.heap.size, 1, none⟩ = some (.slice a2 ys.length c2) ∧ X.cell? ⟨w.heap.size, 2, none⟩ = some (.slice a3 zs.length c3))) := fun X hb => P0.below hb
  have hb0 : Below X0.heap.size X0 X0.drew := (Below.refl _ _).drew
  have HR1 : Hid (∀ X, Below X0.heap.size X0 X → X.cell? ⟨w.heap.size + 1, 0, none⟩ = some (.slice none 0 0) ∧ X.cell? ⟨w.heap.size + 1, 1, none⟩ = some (.slice none 0 0) ∧ X.cell? ⟨w.heap.size + 1, 2, none⟩ = some (.slice none 0 0) ∧ X.frozen? ⟨w.heap.size + 1, 0, none⟩ = false ∧ X.frozen? ⟨w.heap.size + 1, 1, none⟩ = false ∧ X.frozen? ⟨w.heap.size + 1, 2, none⟩ = false ∧ w.heap.size + 1 < X.heap.size) := by
    intro X hb
    have hp := P1.below hb
    have hf : ∀ j, X.frozen? ⟨w.heap.size + 1, j, none⟩ = false := fun j => by rw [hb.frozen (p := ⟨w.heap.size + 1, j, none⟩) (by simp; omega)]; exact F1 j
    exact ⟨hp.1, hp.2.1, hp.2.2, hf 0, hf 1, hf 2, hp.lt⟩
  clear P0 P1 F1
  refine wp_region_held_drew (S := fun w' => w'.cell? ⟨w.heap.size, 0, none⟩ = some (.slice a1 xs.length c1) ∧ w'.cell? ⟨w.heap.size, 1, none⟩ = some (.slice a2 ys.length c2) ∧ w'.cell? ⟨w.heap.size, 2, none⟩ = some (.slice a3 zs.length c3)) (by kernel_rfl) (HK.out _ hb0) (fun hHeld => ?_)
  obtain ⟨W1, hW1⟩ : ∃ W1, X0.drew = W1 := ⟨_, rfl⟩
  rw [hW1] at hb0 hHeld ⊢
  clear hW1
  have s0 := nil3 W1 X0.heap.size
  refine wpAnyH_take (i := 1) (v := ?_) rfl (by kernel_rfl) (by kernel_rfl) (by kernel_rfl) (fun _ _ _ h => h) (Or.inl ⟨by rfl, ?_⟩) (by assumption) ?_
  rotate_left
  focus (intro w hSw; (try dsimp only at hSw); go_simp; first | done | with_reducible rfl)
  try simp only [Act.put, List.setIfInBounds_toArray, List.set_cons_zero, List.set_cons_succ]
  refine wpAnyH_take (i := 2) (v := ?_) rfl (by kernel_rfl) (by kernel_rfl) (by kernel_rfl) (fun _ _ _ h => h) (Or.inl ⟨by rfl, ?_⟩) (by assumption) ?_
  rotate_left
  focus (intro w hSw; (try dsimp only at hSw); go_simp; first | done | with_reducible rfl)
  try simp only [Act.put, List.setIfInBounds_toArray, List.set_cons_zero, List.set_cons_succ]
  refine wpAnyH_take (i := 5) (v := ?_) rfl (by kernel_rfl) (by kernel_rfl) (by kernel_rfl) (fun _ _ _ h => h) (Or.inl ⟨by rfl, ?_⟩) (by assumption) ?_
  rotate_left
  focus (intro w hSw; (try dsimp only at hSw); go_simp; first | done | with_reducible rfl)
  try simp only [Act.put, List.setIfInBounds_toArray, List.set_cons_zero, List.set_cons_succ]
  refine wpAnyH_take (i := 6) (v := ?_) rfl (by kernel_rfl) (by kernel_rfl) (by kernel_rfl) (fun _ _ _ h => h) (Or.inl ⟨by rfl, ?_⟩) (by assumption) ?_
  rotate_left
  focus (intro w hSw; (try dsimp only at hSw); go_simp; first | done | with_reducible rfl)
  try simp only [Act.put, List.setIfInBounds_toArray, List.set_cons_zero, List.set_cons_succ]
  refine wpAnyH_take (i := 9) (v := ?_) rfl (by kernel_rfl) (by kernel_rfl) (by kernel_rfl) (fun _ _ _ h => h) (Or.inl ⟨by rfl, ?_⟩) (by assumption) ?_
  rotate_left
  focus (intro w hSw; (try dsimp only at hSw); go_simp; first | done | with_reducible rfl)
  try simp only [Act.put, List.setIfInBounds_toArray, List.set_cons_zero, List.set_cons_succ]
  refine wpAnyH_take (i := 10) (v := ?_) rfl (by kernel_rfl) (by kernel_rfl) (by kernel_rfl) (fun _ _ _ h => h) (Or.inl ⟨by rfl, ?_⟩) (by assumption) ?_
  rotate_left
  focus (intro w hSw; (try dsimp only at hSw); go_simp; first | done | with_reducible rfl)
  try simp only [Act.put, List.setIfInBounds_toArray, List.set_cons_zero, List.set_cons_succ]
  refine wpAnyH_ready (rs := [0, 4, 8]) (by kernel_rfl) (by simp) ?_
  refine AllReadyH.cons rfl (fun K hK => ?_) ?_
  · go_simp
    obtain ⟨V1, e1⟩ : ∃ V1, World.alloc W1 (.cells #[] 3) = V1 := ⟨_, rfl⟩
    rw [e1]
    have s1 : Sep V1 X0.heap.size [⟨3, 1, .slice (some ⟨W1.heap.size, 0, none⟩) 0 0, 0, []⟩, nilOR, nilOR] := by rw [← e1]; exact Sep.built [] s0 hb0.size
    have hB1 : Below X0.heap.size X0 V1 := by rw [← e1]; exact hb0.alloc hb0.size _
    clear e1
    refine hK.out _ _ (HK.out _ hB1) (fun hHeld => ?_)
    clear hK K
    try simp only [Act.put, List.setIfInBounds_toArray, List.set_cons_zero, List.set_cons_succ]
    refine wpAnyH_ready (rs := [3, 4, 8]) (by kernel_rfl) (by simp) ?_
    refine AllReadyH.cons rfl (fun K hK => ?_) ?_
    · refine step_append_sep0 [] [nilOR, nilOR] rfl _ _ rfl X0.heap.size (.slice (some ⟨W1.heap.size, 0, none⟩) 0 0) rfl s1 a1 c1 xs rfl (HR.out _ hB1).1 hx hB1.size ?_
      intro va2 vc2 V2 s2 hb2
      have hB2 := hB1.trans hb2
      clear hb2
      refine hK.out _ _ (HK.out _ hB2) (fun hHeld => ?_)
      clear hK K
      try simp only [Act.put, List.setIfInBounds_toArray, List.set_cons_zero, List.set_cons_succ]
      refine wpAnyH_ready (rs := [4, 8]) (by kernel_rfl) (by simp) ?_
      refine AllReadyH.cons rfl (fun K hK => ?_) ?_
      · go_simp
        obtain ⟨V3, e3⟩ : ∃ V3, World.alloc V2 (.cells #[] 3) = V3 := ⟨_, rfl⟩
        rw [e3]
        have s3 : Sep V3 X0.heap.size [⟨3, 1, .slice va2 xs.length vc2, xs.length, ints xs⟩, ⟨3, 1, .slice (some ⟨V2.heap.size, 0, none⟩) 0 0, 0, []⟩, nilOR] := by rw [← e3]; exact Sep.built [⟨3, 1, .slice va2 xs.length vc2, xs.length, ints xs⟩] s2 hB2.size
        have hB3 : Below X0.heap.size X0 V3 := by rw [← e3]; exact hB2.alloc hB2.size _
        clear e3
        refine hK.out _ _ (HK.out _ hB3) (fun hHeld => ?_)
        clear hK K
        try simp only [Act.put, List.setIfInBounds_toArray, List.set_cons_zero, List.set_cons_succ]
        refine wpAnyH_ready (rs := [7, 8]) (by kernel_rfl) (by simp) ?_
        refine AllReadyH.cons rfl (fun K hK => ?_) ?_
        · refine step_append_sep0 [⟨3, 1, .slice va2 xs.length vc2, xs.length, ints xs⟩] [nilOR] rfl _ _ rfl X0.heap.size (.slice (some ⟨V2.heap.size, 0, none⟩) 0 0) rfl s3 a2 c2 ys rfl (HR.out _ hB3).2.1 hy hB3.size ?_
          intro va4 vc4 V4 s4 hb4
          have hB4 := hB3.trans hb4
          clear hb4
          refine hK.out _ _ (HK.out _ hB4) (fun hHeld => ?_)
          clear hK K
          try simp only [Act.put, List.setIfInBounds_toArray, List.set_cons_zero, List.set_cons_succ]
          refine wpAnyH_ready (rs := [8]) (by kernel_rfl) (by simp) ?_
          refine AllReadyH.cons rfl (fun K hK => ?_) AllReadyH.nil
          go_simp
          obtain ⟨V5, e5⟩ : ∃ V5, World.alloc V4 (.cells #[] 3) = V5 := ⟨_, rfl⟩
          rw [e5]
          have s5 : Sep V5 X0.heap.size [⟨3, 1, .slice va2 xs.length vc2, xs.length, ints xs⟩, ⟨3, 1, .slice va4 ys.length vc4, ys.length, ints ys⟩, ⟨3, 1, .slice (some ⟨V4.heap.size, 0, none⟩) 0 0, 0, []⟩] := by rw [← e5]; exact Sep.built [⟨3, 1, .slice va2 xs.length vc2, xs.length, ints xs⟩, ⟨3, 1, .slice va4 ys.length vc4, ys.length, ints ys⟩] s4 hB4.size
          have hB5 : Below X0.heap.size X0 V5 := by rw [← e5]; exact hB4.alloc hB4.size _
          clear e5
          refine hK.out _ _ (HK.out _ hB5) (fun hHeld => ?_)
          clear hK K
          try simp only [Act.put, List.setIfInBounds_toArray, List.set_cons_zero, List.set_cons_succ]
          refine wpAnyH_ready (rs := [11]) (by kernel_rfl) (by simp) ?_
          refine AllReadyH.cons rfl (fun K hK => ?_) AllReadyH.nil
          refine step_append_sep0 [⟨3, 1, .slice va2 xs.length vc2, xs.length, ints xs⟩, ⟨3, 1, .slice va4 ys.length vc4, ys.length, ints ys⟩] [] rfl _ _ rfl X0.heap.size (.slice (some ⟨V4.heap.size, 0, none⟩) 0 0) rfl s5 a3 c3 zs rfl (HR.out _ hB5).2.2 hz hB5.size ?_
          intro va6 vc6 V6 s6 hb6
          have hB6 := hB5.trans hb6
          clear hb6
          refine hK.out _ _ (HK.out _ hB6) (fun hHeld => ?_)
          clear hK K
          try simp only [Act.put, List.setIfInBounds_toArray, List.set_cons_zero, List.set_cons_succ]
          refine wpAnyH_take (i := 12) (v := ?_) rfl (by kernel_rfl) (by kernel_rfl) (by kernel_rfl) (fun _ _ _ h => h) (Or.inl ⟨by rfl, ?_⟩) (by assumption) ?_
          rotate_left
          focus (intro w hSw; (try dsimp only at hSw); go_simp; first | done | with_reducible rfl)
          try simp only [Act.put, List.setIfInBounds_toArray, List.set_cons_zero, List.set_cons_succ]
          obtain ⟨r0, r1, r2, q0, q1, q2, rl⟩ := HR1.out _ hB6
          refine wpAnyH_ready (rs := [13]) (by kernel_rfl) (by simp) ?_
          refine AllReadyH.cons rfl (fun K hK => ?_) AllReadyH.nil
          go_simp
          refine hK.out _ _ (by go_keep) (fun hHeld => ?_)
          clear hK K
          refine wpAnyH_done (by kernel_rfl) ?_ _
          clear hHeld
          have HF := hid (And.intro s6 (And.intro hB6 (And.intro hsz B0)))
          clear s0 hb0 s1 hB1 s2 hB2 s3 hB3 s4 hB4 s5 hB5 s6 hB6 hsz B0
          go_wp2
          refine bodyPost_ret (v := .agg #[.slice va2 xs.length vc2, .slice va4 ys.length vc4, .slice va6 zs.length vc6]) (by simp [results, Tryd.results30, go_sem, *]) rfl ⟨va2, va4, va6, vc2, vc4, vc6, rfl, ?_, ?_⟩
          · exact own_end1 HF.out.1 HF.out.2.2.1 _ _ _
          · exact own_end2 HF.out.2.1 HF.out.2.2.1 HF.out.2.2.2 _ _ _
        refine AllReadyH.cons rfl (fun K hK => ?_) ?_
        · go_simp
          obtain ⟨V7, e7⟩ : ∃ V7, World.alloc V3 (.cells #[] 3) = V7 := ⟨_, rfl⟩
          rw [e7]
          have s7 : Sep V7 X0.heap.size [⟨3, 1, .slice va2 xs.length vc2, xs.length, ints xs⟩, ⟨3, 1, .slice (some ⟨V2.heap.size, 0, none⟩) 0 0, 0, []⟩, ⟨3, 1, .slice (some ⟨V3.heap.size, 0, none⟩) 0 0, 0, []⟩] := by rw [← e7]; exact Sep.built [⟨3, 1, .slice va2 xs.length vc2, xs.length, ints xs⟩, ⟨3, 1, .slice (some ⟨V2.heap.size, 0, none⟩) 0 0, 0, []⟩] s3 hB3.size
          have hB7 : Below X0.heap.size X0 V7 := by rw [← e7]; exact hB3.alloc hB3.size _
          clear e7
          refine hK.out _ _ (HK.out _ hB7) (fun hHeld => ?_)
          clear hK K
          try simp only [Act.put, List.setIfInBounds_toArray, List.set_cons_zero, List.set_cons_succ]
          refine wpAnyH_ready (rs := [7]) (by kernel_rfl) (by simp) ?_
          refine AllReadyH.cons rfl (fun K hK => ?_) AllReadyH.nil
          refine step_append_sep0 [⟨3, 1, .slice va2 xs.length vc2, xs.length, ints xs⟩] [⟨3, 1, .slice (some ⟨V3.heap.size, 0, none⟩) 0 0, 0, []⟩] rfl _ _ rfl X0.heap.size (.slice (some ⟨V2.heap.size, 0, none⟩) 0 0) rfl s7 a2 c2 ys rfl (HR.out _ hB7).2.1 hy hB7.size ?_
          intro va8 vc8 V8 s8 hb8
          have hB8 := hB7.trans hb8
          clear hb8
          refine hK.out _ _ (HK.out _ hB8) (fun hHeld => ?_)
          clear hK K
          try simp only [Act.put, List.setIfInBounds_toArray, List.set_cons_zero, List.set_cons_succ]
          refine wpAnyH_ready (rs := [11]) (by kernel_rfl) (by simp) ?_
          refine AllReadyH.cons rfl (fun K hK => ?_) AllReadyH.nil
          refine step_append_sep0 [⟨3, 1, .slice va2 xs.length vc2, xs.length, ints xs⟩, ⟨3, 1, .slice va8 ys.length vc8, ys.length, ints ys⟩] [] rfl _ _ rfl X0.heap.size (.slice (some ⟨V3.heap.size, 0, none⟩) 0 0) rfl s8 a3 c3 zs rfl (HR.out _ hB8).2.2 hz hB8.size ?_
          intro va9 vc9 V9 s9 hb9
          have hB9 := hB8.trans hb9
          clear hb9
          refine hK.out _ _ (HK.out _ hB9) (fun hHeld => ?_)
          clear hK K
          try simp only [Act.put, List.setIfInBounds_toArray, List.set_cons_zero, List.set_cons_succ]
          refine wpAnyH_take (i := 12) (v := ?_) rfl (by kernel_rfl) (by kernel_rfl) (by kernel_rfl) (fun _ _ _ h => h) (Or.inl ⟨by rfl, ?_⟩) (by assumption) ?_
          rotate_left
          focus (intro w hSw; (try dsimp only at hSw); go_simp; first | done | with_reducible rfl)
          try simp only [Act.put, List.setIfInBounds_toArray, List.set_cons_zero, List.set_cons_succ]
          obtain ⟨r0, r1, r2, q0, q1, q2, rl⟩ := HR1.out _ hB9
          refine wpAnyH_ready (rs := [13]) (by kernel_rfl) (by simp) ?_
          refine AllReadyH.cons rfl (fun K hK => ?_) AllReadyH.nil
          go_simp
          refine hK.out _ _ (by go_keep) (fun hHeld => ?_)
          clear hK K
          refine wpAnyH_done (by kernel_rfl) ?_ _
          clear hHeld
          have HF := hid (And.intro s9 (And.intro hB9 (And.intro hsz B0)))
          clear s0 hb0 s1 hB1 s2 hB2 s3 hB3 s7 hB7 s8 hB8 s9 hB9 hsz B0
          go_wp2
          refine bodyPost_ret (v := .agg #[.slice va2 xs.length vc2, .slice va8 ys.length vc8, .slice va9 zs.length vc9]) (by simp [results, Tryd.results30, go_sem, *]) rfl ⟨va2, va8, va9, vc2, vc8, vc9, rfl, ?_, ?_⟩
          · exact own_end1 HF.out.1 HF.out.2.2.1 _ _ _
          · exact own_end2 HF.out.2.1 HF.out.2.2.1 HF.out.2.2.2 _ _ _
        exact AllReadyH.nil
      refine AllReadyH.cons rfl (fun K hK => ?_) ?_
      · go_simp
        obtain ⟨V10, e10⟩ : ∃ V10, World.alloc V2 (.cells #[] 3) = V10 := ⟨_, rfl⟩
        rw [e10]
        have s10 : Sep V10 X0.heap.size [⟨3, 1, .slice va2 xs.length vc2, xs.length, ints xs⟩, nilOR, ⟨3, 1, .slice (some ⟨V2.heap.size, 0, none⟩) 0 0, 0, []⟩] := by rw [← e10]; exact Sep.built [⟨3, 1, .slice va2 xs.length vc2, xs.length, ints xs⟩, nilOR] s2 hB2.size
        have hB10 : Below X0.heap.size X0 V10 := by rw [← e10]; exact hB2.alloc hB2.size _
        clear e10
        refine hK.out _ _ (HK.out _ hB10) (fun hHeld => ?_)
        clear hK K
        try simp only [Act.put, List.setIfInBounds_toArray, List.set_cons_zero, List.set_cons_succ]
        refine wpAnyH_ready (rs := [4]) (by kernel_rfl) (by simp) ?_
        refine AllReadyH.cons rfl (fun K hK => ?_) AllReadyH.nil
        go_simp
        obtain ⟨V11, e11⟩ : ∃ V11, World.alloc V10 (.cells #[] 3) = V11 := ⟨_, rfl⟩
        rw [e11]
        have s11 : Sep V11 X0.heap.size [⟨3, 1, .slice va2 xs.length vc2, xs.length, ints xs⟩, ⟨3, 1, .slice (some ⟨V10.heap.size, 0, none⟩) 0 0, 0, []⟩, ⟨3, 1, .slice (some ⟨V2.heap.size, 0, none⟩) 0 0, 0, []⟩] := by rw [← e11]; exact Sep.built [⟨3, 1, .slice va2 xs.length vc2, xs.length, ints xs⟩] s10 hB10.size
        have hB11 : Below X0.heap.size X0 V11 := by rw [← e11]; exact hB10.alloc hB10.size _
        clear e11
        refine hK.out _ _ (HK.out _ hB11) (fun hHeld => ?_)
        clear hK K
        try simp only [Act.put, List.setIfInBounds_toArray, List.set_cons_zero, List.set_cons_succ]
        refine wpAnyH_ready (rs := [7]) (by kernel_rfl) (by simp) ?_
        refine AllReadyH.cons rfl (fun K hK => ?_) AllReadyH.nil
        refine step_append_sep0 [⟨3, 1, .slice va2 xs.length vc2, xs.length, ints xs⟩] [⟨3, 1, .slice (some ⟨V2.heap.size, 0, none⟩) 0 0, 0, []⟩] rfl _ _ rfl X0.heap.size (.slice (some ⟨V10.heap.size, 0, none⟩) 0 0) rfl s11 a2 c2 ys rfl (HR.out _ hB11).2.1 hy hB11.size ?_
        intro va12 vc12 V12 s12 hb12
        have hB12 := hB11.trans hb12
        clear hb12
        refine hK.out _ _ (HK.out _ hB12) (fun hHeld => ?_)
        clear hK K
        try simp only [Act.put, List.setIfInBounds_toArray, List.set_cons_zero, List.set_cons_succ]
        refine wpAnyH_ready (rs := [11]) (by kernel_rfl) (by simp) ?_
        refine AllReadyH.cons rfl (fun K hK => ?_) AllReadyH.nil
        refine step_append_sep0 [⟨3, 1, .slice va2 xs.length vc2, xs.length, ints xs⟩, ⟨3, 1, .slice va12 ys.length vc12, ys.length, ints ys⟩] [] rfl _ _ rfl X0.heap.size (.slice (some ⟨V2.heap.size, 0, none⟩) 0 0) rfl s12 a3 c3 zs rfl (HR.out _ hB12).2.2 hz hB12.size ?_
        intro va13 vc13 V13 s13 hb13
        have hB13 := hB12.trans hb13
        clear hb13
        refine hK.out _ _ (HK.out _ hB13) (fun hHeld => ?_)
        clear hK K
        try simp only [Act.put, List.setIfInBounds_toArray, List.set_cons_zero, List.set_cons_succ]
        refine wpAnyH_take (i := 12) (v := ?_) rfl (by kernel_rfl) (by kernel_rfl) (by kernel_rfl) (fun _ _ _ h => h) (Or.inl ⟨by rfl, ?_⟩) (by assumption) ?_
        rotate_left
        focus (intro w hSw; (try dsimp only at hSw); go_simp; first | done | with_reducible rfl)
        try simp only [Act.put, List.setIfInBounds_toArray, List.set_cons_zero, List.set_cons_succ]
        obtain ⟨r0, r1, r2, q0, q1, q2, rl⟩ := HR1.out _ hB13
        refine wpAnyH_ready (rs := [13]) (by kernel_rfl) (by simp) ?_
        refine AllReadyH.cons rfl (fun K hK => ?_) AllReadyH.nil
        go_simp
        refine hK.out _ _ (by go_keep) (fun hHeld => ?_)
        clear hK K
        refine wpAnyH_done (by kernel_rfl) ?_ _
        clear hHeld
        have HF := hid (And.intro s13 (And.intro hB13 (And.intro hsz B0)))
        clear s0 hb0 s1 hB1 s2 hB2 s10 hB10 s11 hB11 s12 hB12 s13 hB13 hsz B0
        go_wp2
        refine bodyPost_ret (v := .agg #[.slice va2 xs.length vc2, .slice va12 ys.length vc12, .slice va13 zs.length vc13]) (by simp [results, Tryd.results30, go_sem, *]) rfl ⟨va2, va12, va13, vc2, vc12, vc13, rfl, ?_, ?_⟩
        · exact own_end1 HF.out.1 HF.out.2.2.1 _ _ _
        · exact own_end2 HF.out.2.1 HF.out.2.2.1 HF.out.2.2.2 _ _ _
      exact AllReadyH.nil
    refine AllReadyH.cons rfl (fun K hK => ?_) ?_
    · go_simp
      obtain ⟨V14, e14⟩ : ∃ V14, World.alloc V1 (.cells #[] 3) = V14 := ⟨_, rfl⟩
      rw [e14]
      have s14 : Sep V14 X0.heap.size [⟨3, 1, .slice (some ⟨W1.heap.size, 0, none⟩) 0 0, 0, []⟩, ⟨3, 1, .slice (some ⟨V1.heap.size, 0, none⟩) 0 0, 0, []⟩, nilOR] := by rw [← e14]; exact Sep.built [⟨3, 1, .slice (some ⟨W1.heap.size, 0, none⟩) 0 0, 0, []⟩] s1 hB1.size
      have hB14 : Below X0.heap.size X0 V14 := by rw [← e14]; exact hB1.alloc hB1.size _
      clear e14
      refine hK.out _ _ (HK.out _ hB14) (fun hHeld => ?_)
      clear hK K
      try simp only [Act.put, List.setIfInBounds_toArray, List.set_cons_zero, List.set_cons_succ]
      refine wpAnyH_ready (rs := [3, 8]) (by kernel_rfl) (by simp) ?_
      refine AllReadyH.cons rfl (fun K hK => ?_) ?_
      · refine step_append_sep0 [] [⟨3, 1, .slice (some ⟨V1.heap.size, 0, none⟩) 0 0, 0, []⟩, nilOR] rfl _ _ rfl X0.heap.size (.slice (some ⟨W1.heap.size, 0, none⟩) 0 0) rfl s14 a1 c1 xs rfl (HR.out _ hB14).1 hx hB14.size ?_
        intro va15 vc15 V15 s15 hb15
        have hB15 := hB14.trans hb15
        clear hb15
        refine hK.out _ _ (HK.out _ hB15) (fun hHeld => ?_)
        clear hK K
        try simp only [Act.put, List.setIfInBounds_toArray, List.set_cons_zero, List.set_cons_succ]
        refine wpAnyH_ready (rs := [7, 8]) (by kernel_rfl) (by simp) ?_
        refine AllReadyH.cons rfl (fun K hK => ?_) ?_
        · refine step_append_sep0 [⟨3, 1, .slice va15 xs.length vc15, xs.length, ints xs⟩] [nilOR] rfl _ _ rfl X0.heap.size (.slice (some ⟨V1.heap.size, 0, none⟩) 0 0) rfl s15 a2 c2 ys rfl (HR.out _ hB15).2.1 hy hB15.size ?_
          intro va16 vc16 V16 s16 hb16
          have hB16 := hB15.trans hb16
          clear hb16
          refine hK.out _ _ (HK.out _ hB16) (fun hHeld => ?_)
          clear hK K
          try simp only [Act.put, List.setIfInBounds_toArray, List.set_cons_zero, List.set_cons_succ]
          refine wpAnyH_ready (rs := [8]) (by kernel_rfl) (by simp) ?_
          refine AllReadyH.cons rfl (fun K hK => ?_) AllReadyH.nil
          go_simp
          obtain ⟨V17, e17⟩ : ∃ V17, World.alloc V16 (.cells #[] 3) = V17 := ⟨_, rfl⟩
          rw [e17]
          have s17 : Sep V17 X0.heap.size [⟨3, 1, .slice va15 xs.length vc15, xs.length, ints xs⟩, ⟨3, 1, .slice va16 ys.length vc16, ys.length, ints ys⟩, ⟨3, 1, .slice (some ⟨V16.heap.size, 0, none⟩) 0 0, 0, []⟩] := by rw [← e17]; exact Sep.built [⟨3, 1, .slice va15 xs.length vc15, xs.length, ints xs⟩, ⟨3, 1, .slice va16 ys.length vc16, ys.length, ints ys⟩] s16 hB16.size
          have hB17 : Below X0.heap.size X0 V17 := by rw [← e17]; exact hB16.alloc hB16.size _
          clear e17
          refine hK.out _ _ (HK.out _ hB17) (fun hHeld => ?_)
          clear hK K
          try simp only [Act.put, List.setIfInBounds_toArray, List.set_cons_zero, List.set_cons_succ]
          refine wpAnyH_ready (rs := [11]) (by kernel_rfl) (by simp) ?_
          refine AllReadyH.cons rfl (fun K hK => ?_) AllReadyH.nil
          refine step_append_sep0 [⟨3, 1, .slice va15 xs.length vc15, xs.length, ints xs⟩, ⟨3, 1, .slice va16 ys.length vc16, ys.length, ints ys⟩] [] rfl _ _ rfl X0.heap.size (.slice (some ⟨V16.heap.size, 0, none⟩) 0 0) rfl s17 a3 c3 zs rfl (HR.out _ hB17).2.2 hz hB17.size ?_
          intro va18 vc18 V18 s18 hb18
          have hB18 := hB17.trans hb18
          clear hb18
          refine hK.out _ _ (HK.out _ hB18) (fun hHeld => ?_)
          clear hK K
          try simp only [Act.put, List.setIfInBounds_toArray, List.set_cons_zero, List.set_cons_succ]
          refine wpAnyH_take (i := 12) (v := ?_) rfl (by kernel_rfl) (by kernel_rfl) (by kernel_rfl) (fun _ _ _ h => h) (Or.inl ⟨by rfl, ?_⟩) (by assumption) ?_
          rotate_left
          focus (intro w hSw; (try dsimp only at hSw); go_simp; first | done | with_reducible rfl)
          try simp only [Act.put, List.setIfInBounds_toArray, List.set_cons_zero, List.set_cons_succ]
          obtain ⟨r0, r1, r2, q0, q1, q2, rl⟩ := HR1.out _ hB18
          refine wpAnyH_ready (rs := [13]) (by kernel_rfl) (by simp) ?_
          refine AllReadyH.cons rfl (fun K hK => ?_) AllReadyH.nil
          go_simp
          refine hK.out _ _ (by go_keep) (fun hHeld => ?_)
          clear hK K
          refine wpAnyH_done (by kernel_rfl) ?_ _
          clear hHeld
          have HF := hid (And.intro s18 (And.intro hB18 (And.intro hsz B0)))
          clear s0 hb0 s1 hB1 s14 hB14 s15 hB15 s16 hB16 s17 hB17 s18 hB18 hsz B0
          go_wp2
          refine bodyPost_ret (v := .agg #[.slice va15 xs.length vc15, .slice va16 ys.length vc16, .slice va18 zs.length vc18]) (by simp [results, Tryd.results30, go_sem, *]) rfl ⟨va15, va16, va18, vc15, vc16, vc18, rfl, ?_, ?_⟩
          · exact own_end1 HF.out.1 HF.out.2.2.1 _ _ _
          · exact own_end2 HF.out.2.1 HF.out.2.2.1 HF.out.2.2.2 _ _ _
        refine AllReadyH.cons rfl (fun K hK => ?_) ?_
        · go_simp
          obtain ⟨V19, e19⟩ : ∃ V19, World.alloc V15 (.cells #[] 3) = V19 := ⟨_, rfl⟩
          rw [e19]
          have s19 : Sep V19 X0.heap.size [⟨3, 1, .slice va15 xs.length vc15, xs.length, ints xs⟩, ⟨3, 1, .slice (some ⟨V1.heap.size, 0, none⟩) 0 0, 0, []⟩, ⟨3, 1, .slice (some ⟨V15.heap.size, 0, none⟩) 0 0, 0, []⟩] := by rw [← e19]; exact Sep.built [⟨3, 1, .slice va15 xs.length vc15, xs.length, ints xs⟩, ⟨3, 1, .slice (some ⟨V1.heap.size, 0, none⟩) 0 0, 0, []⟩] s15 hB15.size
          have hB19 : Below X0.heap.size X0 V19 := by rw [← e19]; exact hB15.alloc hB15.size _
          clear e19
          refine hK.out _ _ (HK.out _ hB19) (fun hHeld => ?_)
          clear hK K
          try simp only [Act.put, List.setIfInBounds_toArray, List.set_cons_zero, List.set_cons_succ]
          refine wpAnyH_ready (rs := [7]) (by kernel_rfl) (by simp) ?_
          refine AllReadyH.cons rfl (fun K hK => ?_) AllReadyH.nil
          refine step_append_sep0 [⟨3, 1, .slice va15 xs.length vc15, xs.length, ints xs⟩] [⟨3, 1, .slice (some ⟨V15.heap.size, 0, none⟩) 0 0, 0, []⟩] rfl _ _ rfl X0.heap.size (.slice (some ⟨V1.heap.size, 0, none⟩) 0 0) rfl s19 a2 c2 ys rfl (HR.out _ hB19).2.1 hy hB19.size ?_
          intro va20 vc20 V20 s20 hb20
          have hB20 := hB19.trans hb20
          clear hb20
          refine hK.out _ _ (HK.out _ hB20) (fun hHeld => ?_)
          clear hK K
          try simp only [Act.put, List.setIfInBounds_toArray, List.set_cons_zero, List.set_cons_succ]
          refine wpAnyH_ready (rs := [11]) (by kernel_rfl) (by simp) ?_
          refine AllReadyH.cons rfl (fun K hK => ?_) AllReadyH.nil
          refine step_append_sep0 [⟨3, 1, .slice va15 xs.length vc15, xs.length, ints xs⟩, ⟨3, 1, .slice va20 ys.length vc20, ys.length, ints ys⟩] [] rfl _ _ rfl X0.heap.size (.slice (some ⟨V15.heap.size, 0, none⟩) 0 0) rfl s20 a3 c3 zs rfl (HR.out _ hB20).2.2 hz hB20.size ?_
          intro va21 vc21 V21 s21 hb21
          have hB21 := hB20.trans hb21
          clear hb21
          refine hK.out _ _ (HK.out _ hB21) (fun hHeld => ?_)
          clear hK K
          try simp only [Act.put, List.setIfInBounds_toArray, List.set_cons_zero, List.set_cons_succ]
          refine wpAnyH_take (i := 12) (v := ?_) rfl (by kernel_rfl) (by kernel_rfl) (by kernel_rfl) (fun _ _ _ h => h) (Or.inl ⟨by rfl, ?_⟩) (by assumption) ?_
          rotate_left
          focus (intro w hSw; (try dsimp only at hSw); go_simp; first | done | with_reducible rfl)
          try simp only [Act.put, List.setIfInBounds_toArray, List.set_cons_zero, List.set_cons_succ]
          obtain ⟨r0, r1, r2, q0, q1, q2, rl⟩ := HR1.out _ hB21
          refine wpAnyH_ready (rs := [13]) (by kernel_rfl) (by simp) ?_
          refine AllReadyH.cons rfl (fun K hK => ?_) AllReadyH.nil
          go_simp
          refine hK.out _ _ (by go_keep) (fun hHeld => ?_)
          clear hK K
          refine wpAnyH_done (by kernel_rfl) ?_ _
          clear hHeld
          have HF := hid (And.intro s21 (And.intro hB21 (And.intro hsz B0)))
          clear s0 hb0 s1 hB1 s14 hB14 s15 hB15 s19 hB19 s20 hB20 s21 hB21 hsz B0
          go_wp2
          refine bodyPost_ret (v := .agg #[.slice va15 xs.length vc15, .slice va20 ys.length vc20, .slice va21 zs.length vc21]) (by simp [results, Tryd.results30, go_sem, *]) rfl ⟨va15, va20, va21, vc15, vc20, vc21, rfl, ?_, ?_⟩
          · exact own_end1 HF.out.1 HF.out.2.2.1 _ _ _
          · exact own_end2 HF.out.2.1 HF.out.2.2.1 HF.out.2.2.2 _ _ _
        exact AllReadyH.nil
      refine AllReadyH.cons rfl (fun K hK => ?_) ?_
      · go_simp
        obtain ⟨V22, e22⟩ : ∃ V22, World.alloc V14 (.cells #[] 3) = V22 := ⟨_, rfl⟩
        rw [e22]
        have s22 : Sep V22 X0.heap.size [⟨3, 1, .slice (some ⟨W1.heap.size, 0, none⟩) 0 0, 0, []⟩, ⟨3, 1, .slice (some ⟨V1.heap.size, 0, none⟩) 0 0, 0, []⟩, ⟨3, 1, .slice (some ⟨V14.heap.size, 0, none⟩) 0 0, 0, []⟩] := by rw [← e22]; exact Sep.built [⟨3, 1, .slice (some ⟨W1.heap.size, 0, none⟩) 0 0, 0, []⟩, ⟨3, 1, .slice (some ⟨V1.heap.size, 0, none⟩) 0 0, 0, []⟩] s14 hB14.size
        have hB22 : Below X0.heap.size X0 V22 := by rw [← e22]; exact hB14.alloc hB14.size _
        clear e22
        refine hK.out _ _ (HK.out _ hB22) (fun hHeld => ?_)
        clear hK K
        try simp only [Act.put, List.setIfInBounds_toArray, List.set_cons_zero, List.set_cons_succ]
        refine wpAnyH_ready (rs := [3]) (by kernel_rfl) (by simp) ?_
        refine AllReadyH.cons rfl (fun K hK => ?_) AllReadyH.nil
        refine step_append_sep0 [] [⟨3, 1, .slice (some ⟨V1.heap.size, 0, none⟩) 0 0, 0, []⟩, ⟨3, 1, .slice (some ⟨V14.heap.size, 0, none⟩) 0 0, 0, []⟩] rfl _ _ rfl X0.heap.size (.slice (some ⟨W1.heap.size, 0, none⟩) 0 0) rfl s22 a1 c1 xs rfl (HR.out _ hB22).1 hx hB22.size ?_
        intro va23 vc23 V23 s23 hb23
        have hB23 := hB22.trans hb23
        clear hb23
        refine hK.out _ _ (HK.out _ hB23) (fun hHeld => ?_)
        clear hK K
        try simp only [Act.put, List.setIfInBounds_toArray, List.set_cons_zero, List.set_cons_succ]
        refine wpAnyH_ready (rs := [7]) (by kernel_rfl) (by simp) ?_
        refine AllReadyH.cons rfl (fun K hK => ?_) AllReadyH.nil
        refine step_append_sep0 [⟨3, 1, .slice va23 xs.length vc23, xs.length, ints xs⟩] [⟨3, 1, .slice (some ⟨V14.heap.size, 0, none⟩) 0 0, 0, []⟩] rfl _ _ rfl X0.heap.size (.slice (some ⟨V1.heap.size, 0, none⟩) 0 0) rfl s23 a2 c2 ys rfl (HR.out _ hB23).2.1 hy hB23.size ?_
        intro va24 vc24 V24 s24 hb24
        have hB24 := hB23.trans hb24
        clear hb24
        refine hK.out _ _ (HK.out _ hB24) (fun hHeld => ?_)
        clear hK K
        try simp only [Act.put, List.setIfInBounds_toArray, List.set_cons_zero, List.set_cons_succ]
        refine wpAnyH_ready (rs := [11]) (by kernel_rfl) (by simp) ?_
        refine AllReadyH.cons rfl (fun K hK => ?_) AllReadyH.nil
        refine step_append_sep0 [⟨3, 1, .slice va23 xs.length vc23, xs.length, ints xs⟩, ⟨3, 1, .slice va24 ys.length vc24, ys.length, ints ys⟩] [] rfl _ _ rfl X0.heap.size (.slice (some ⟨V14.heap.size, 0, none⟩) 0 0) rfl s24 a3 c3 zs rfl (HR.out _ hB24).2.2 hz hB24.size ?_
        intro va25 vc25 V25 s25 hb25
        have hB25 := hB24.trans hb25
        clear hb25
        refine hK.out _ _ (HK.out _ hB25) (fun hHeld => ?_)
        clear hK K
        try simp only [Act.put, List.setIfInBounds_toArray, List.set_cons_zero, List.set_cons_succ]
        refine wpAnyH_take (i := 12) (v := ?_) rfl (by kernel_rfl) (by kernel_rfl) (by kernel_rfl) (fun _ _ _ h => h) (Or.inl ⟨by rfl, ?_⟩) (by assumption) ?_
        rotate_left
        focus (intro w hSw; (try dsimp only at hSw); go_simp; first | done | with_reducible rfl)
        try simp only [Act.put, List.setIfInBounds_toArray, List.set_cons_zero, List.set_cons_succ]
        obtain ⟨r0, r1, r2, q0, q1, q2, rl⟩ := HR1.out _ hB25
        refine wpAnyH_ready (rs := [13]) (by kernel_rfl) (by simp) ?_
        refine AllReadyH.cons rfl (fun K hK => ?_) AllReadyH.nil
        go_simp
        refine hK.out _ _ (by go_keep) (fun hHeld => ?_)
        clear hK K
        refine wpAnyH_done (by kernel_rfl) ?_ _
        clear hHeld
        have HF := hid (And.intro s25 (And.intro hB25 (And.intro hsz B0)))
        clear s0 hb0 s1 hB1 s14 hB14 s22 hB22 s23 hB23 s24 hB24 s25 hB25 hsz B0
        go_wp2
        refine bodyPost_ret (v := .agg #[.slice va23 xs.length vc23, .slice va24 ys.length vc24, .slice va25 zs.length vc25]) (by simp [results, Tryd.results30, go_sem, *]) rfl ⟨va23, va24, va25, vc23, vc24, vc25, rfl, ?_, ?_⟩
        · exact own_end1 HF.out.1 HF.out.2.2.1 _ _ _
        · exact own_end2 HF.out.2.1 HF.out.2.2.1 HF.out.2.2.2 _ _ _
      exact AllReadyH.nil
    refine AllReadyH.cons rfl (fun K hK => ?_) ?_
    · go_simp
      obtain ⟨V26, e26⟩ : ∃ V26, World.alloc V1 (.cells #[] 3) = V26 := ⟨_, rfl⟩
      rw [e26]
      have s26 : Sep V26 X0.heap.size [⟨3, 1, .slice (some ⟨W1.heap.size, 0, none⟩) 0 0, 0, []⟩, nilOR, ⟨3, 1, .slice (some ⟨V1.heap.size, 0, none⟩) 0 0, 0, []⟩] := by rw [← e26]; exact Sep.built [⟨3, 1, .slice (some ⟨W1.heap.size, 0, none⟩) 0 0, 0, []⟩, nilOR] s1 hB1.size
      have hB26 : Below X0.heap.size X0 V26 := by rw [← e26]; exact hB1.alloc hB1.size _
      clear e26
      refine hK.out _ _ (HK.out _ hB26) (fun hHeld => ?_)
      clear hK K
      try simp only [Act.put, List.setIfInBounds_toArray, List.set_cons_zero, List.set_cons_succ]
      refine wpAnyH_ready (rs := [3, 4]) (by kernel_rfl) (by simp) ?_
      refine AllReadyH.cons rfl (fun K hK => ?_) ?_
      · refine step_append_sep0 [] [nilOR, ⟨3, 1, .slice (some ⟨V1.heap.size, 0, none⟩) 0 0, 0, []⟩] rfl _ _ rfl X0.heap.size (.slice (some ⟨W1.heap.size, 0, none⟩) 0 0) rfl s26 a1 c1 xs rfl (HR.out _ hB26).1 hx hB26.size ?_
        intro va27 vc27 V27 s27 hb27
        have hB27 := hB26.trans hb27
        clear hb27
        refine hK.out _ _ (HK.out _ hB27) (fun hHeld => ?_)
        clear hK K
        try simp only [Act.put, List.setIfInBounds_toArray, List.set_cons_zero, List.set_cons_succ]
        refine wpAnyH_ready (rs := [4]) (by kernel_rfl) (by simp) ?_
        refine AllReadyH.cons rfl (fun K hK => ?_) AllReadyH.nil
        go_simp
        obtain ⟨V28, e28⟩ : ∃ V28, World.alloc V27 (.cells #[] 3) = V28 := ⟨_, rfl⟩
        rw [e28]
        have s28 : Sep V28 X0.heap.size [⟨3, 1, .slice va27 xs.length vc27, xs.length, ints xs⟩, ⟨3, 1, .slice (some ⟨V27.heap.size, 0, none⟩) 0 0, 0, []⟩, ⟨3, 1, .slice (some ⟨V1.heap.size, 0, none⟩) 0 0, 0, []⟩] := by rw [← e28]; exact Sep.built [⟨3, 1, .slice va27 xs.length vc27, xs.length, ints xs⟩] s27 hB27.size
        have hB28 : Below X0.heap.size X0 V28 := by rw [← e28]; exact hB27.alloc hB27.size _
        clear e28
        refine hK.out _ _ (HK.out _ hB28) (fun hHeld => ?_)
        clear hK K
        try simp only [Act.put, List.setIfInBounds_toArray, List.set_cons_zero, List.set_cons_succ]
        refine wpAnyH_ready (rs := [7]) (by kernel_rfl) (by simp) ?_
        refine AllReadyH.cons rfl (fun K hK => ?_) AllReadyH.nil
        refine step_append_sep0 [⟨3, 1, .slice va27 xs.length vc27, xs.length, ints xs⟩] [⟨3, 1, .slice (some ⟨V1.heap.size, 0, none⟩) 0 0, 0, []⟩] rfl _ _ rfl X0.heap.size (.slice (some ⟨V27.heap.size, 0, none⟩) 0 0) rfl s28 a2 c2 ys rfl (HR.out _ hB28).2.1 hy hB28.size ?_
        intro va29 vc29 V29 s29 hb29
        have hB29 := hB28.trans hb29
        clear hb29
        refine hK.out _ _ (HK.out _ hB29) (fun hHeld => ?_)
        clear hK K
        try simp only [Act.put, List.setIfInBounds_toArray, List.set_cons_zero, List.set_cons_succ]
        refine wpAnyH_ready (rs := [11]) (by kernel_rfl) (by simp) ?_
        refine AllReadyH.cons rfl (fun K hK => ?_) AllReadyH.nil
        refine step_append_sep0 [⟨3, 1, .slice va27 xs.length vc27, xs.length, ints xs⟩, ⟨3, 1, .slice va29 ys.length vc29, ys.length, ints ys⟩] [] rfl _ _ rfl X0.heap.size (.slice (some ⟨V1.heap.size, 0, none⟩) 0 0) rfl s29 a3 c3 zs rfl (HR.out _ hB29).2.2 hz hB29.size ?_
        intro va30 vc30 V30 s30 hb30
        have hB30 := hB29.trans hb30
        clear hb30
        refine hK.out _ _ (HK.out _ hB30) (fun hHeld => ?_)
        clear hK K
        try simp only [Act.put, List.setIfInBounds_toArray, List.set_cons_zero, List.set_cons_succ]
        refine wpAnyH_take (i := 12) (v := ?_) rfl (by kernel_rfl) (by kernel_rfl) (by kernel_rfl) (fun _ _ _ h => h) (Or.inl ⟨by rfl, ?_⟩) (by assumption) ?_
        rotate_left
        focus (intro w hSw; (try dsimp only at hSw); go_simp; first | done | with_reducible rfl)
        try simp only [Act.put, List.setIfInBounds_toArray, List.set_cons_zero, List.set_cons_succ]
        obtain ⟨r0, r1, r2, q0, q1, q2, rl⟩ := HR1.out _ hB30
        refine wpAnyH_ready (rs := [13]) (by kernel_rfl) (by simp) ?_
        refine AllReadyH.cons rfl (fun K hK => ?_) AllReadyH.nil
        go_simp
        refine hK.out _ _ (by go_keep) (fun hHeld => ?_)
        clear hK K
        refine wpAnyH_done (by kernel_rfl) ?_ _
        clear hHeld
        have HF := hid (And.intro s30 (And.intro hB30 (And.intro hsz B0)))
        clear s0 hb0 s1 hB1 s26 hB26 s27 hB27 s28 hB28 s29 hB29 s30 hB30 hsz B0
        go_wp2
        refine bodyPost_ret (v := .agg #[.slice va27 xs.length vc27, .slice va29 ys.length vc29, .slice va30 zs.length vc30]) (by simp [results, Tryd.results30, go_sem, *]) rfl ⟨va27, va29, va30, vc27, vc29, vc30, rfl, ?_, ?_⟩
        · exact own_end1 HF.out.1 HF.out.2.2.1 _ _ _
        · exact own_end2 HF.out.2.1 HF.out.2.2.1 HF.out.2.2.2 _ _ _
      refine AllReadyH.cons rfl (fun K hK => ?_) ?_
      · go_simp
        obtain ⟨V31, e31⟩ : ∃ V31, World.alloc V26 (.cells #[] 3) = V31 := ⟨_, rfl⟩
        rw [e31]
        have s31 : Sep V31 X0.heap.size [⟨3, 1, .slice (some ⟨W1.heap.size, 0, none⟩) 0 0, 0, []⟩, ⟨3, 1, .slice (some ⟨V26.heap.size, 0, none⟩) 0 0, 0, []⟩, ⟨3, 1, .slice (some ⟨V1.heap.size, 0, none⟩) 0 0, 0, []⟩] := by rw [← e31]; exact Sep.built [⟨3, 1, .slice (some ⟨W1.heap.size, 0, none⟩) 0 0, 0, []⟩] s26 hB26.size
        have hB31 : Below X0.heap.size X0 V31 := by rw [← e31]; exact hB26.alloc hB26.size _
        clear e31
        refine hK.out _ _ (HK.out _ hB31) (fun hHeld => ?_)
        clear hK K
        try simp only [Act.put, List.setIfInBounds_toArray, List.set_cons_zero, List.set_cons_succ]
        refine wpAnyH_ready (rs := [3]) (by kernel_rfl) (by simp) ?_
        refine AllReadyH.cons rfl (fun K hK => ?_) AllReadyH.nil
        refine step_append_sep0 [] [⟨3, 1, .slice (some ⟨V26.heap.size, 0, none⟩) 0 0, 0, []⟩, ⟨3, 1, .slice (some ⟨V1.heap.size, 0, none⟩) 0 0, 0, []⟩] rfl _ _ rfl X0.heap.size (.slice (some ⟨W1.heap.size, 0, none⟩) 0 0) rfl s31 a1 c1 xs rfl (HR.out _ hB31).1 hx hB31.size ?_
        intro va32 vc32 V32 s32 hb32
        have hB32 := hB31.trans hb32
        clear hb32
        refine hK.out _ _ (HK.out _ hB32) (fun hHeld => ?_)
        clear hK K
        try simp only [Act.put, List.setIfInBounds_toArray, List.set_cons_zero, List.set_cons_succ]
        refine wpAnyH_ready (rs := [7]) (by kernel_rfl) (by simp) ?_
        refine AllReadyH.cons rfl (fun K hK => ?_) AllReadyH.nil
        refine step_append_sep0 [⟨3, 1, .slice va32 xs.length vc32, xs.length, ints xs⟩] [⟨3, 1, .slice (some ⟨V1.heap.size, 0, none⟩) 0 0, 0, []⟩] rfl _ _ rfl X0.heap.size (.slice (some ⟨V26.heap.size, 0, none⟩) 0 0) rfl s32 a2 c2 ys rfl (HR.out _ hB32).2.1 hy hB32.size ?_
        intro va33 vc33 V33 s33 hb33
        have hB33 := hB32.trans hb33
        clear hb33
        refine hK.out _ _ (HK.out _ hB33) (fun hHeld => ?_)
        clear hK K
        try simp only [Act.put, List.setIfInBounds_toArray, List.set_cons_zero, List.set_cons_succ]
        refine wpAnyH_ready (rs := [11]) (by kernel_rfl) (by simp) ?_
        refine AllReadyH.cons rfl (fun K hK => ?_) AllReadyH.nil
        refine step_append_sep0 [⟨3, 1, .slice va32 xs.length vc32, xs.length, ints xs⟩, ⟨3, 1, .slice va33 ys.length vc33, ys.length, ints ys⟩] [] rfl _ _ rfl X0.heap.size (.slice (some ⟨V1.heap.size, 0, none⟩) 0 0) rfl s33 a3 c3 zs rfl (HR.out _ hB33).2.2 hz hB33.size ?_
        intro va34 vc34 V34 s34 hb34
        have hB34 := hB33.trans hb34
        clear hb34
        refine hK.out _ _ (HK.out _ hB34) (fun hHeld => ?_)
        clear hK K
        try simp only [Act.put, List.setIfInBounds_toArray, List.set_cons_zero, List.set_cons_succ]
        refine wpAnyH_take (i := 12) (v := ?_) rfl (by kernel_rfl) (by kernel_rfl) (by kernel_rfl) (fun _ _ _ h => h) (Or.inl ⟨by rfl, ?_⟩) (by assumption) ?_
        rotate_left
        focus (intro w hSw; (try dsimp only at hSw); go_simp; first | done | with_reducible rfl)
        try simp only [Act.put, List.setIfInBounds_toArray, List.set_cons_zero, List.set_cons_succ]
        obtain ⟨r0, r1, r2, q0, q1, q2, rl⟩ := HR1.out _ hB34
        refine wpAnyH_ready (rs := [13]) (by kernel_rfl) (by simp) ?_
        refine AllReadyH.cons rfl (fun K hK => ?_) AllReadyH.nil
        go_simp
        refine hK.out _ _ (by go_keep) (fun hHeld => ?_)
        clear hK K
        refine wpAnyH_done (by kernel_rfl) ?_ _
        clear hHeld
        have HF := hid (And.intro s34 (And.intro hB34 (And.intro hsz B0)))
        clear s0 hb0 s1 hB1 s26 hB26 s31 hB31 s32 hB32 s33 hB33 s34 hB34 hsz B0
        go_wp2
        refine bodyPost_ret (v := .agg #[.slice va32 xs.length vc32, .slice va33 ys.length vc33, .slice va34 zs.length vc34]) (by simp [results, Tryd.results30, go_sem, *]) rfl ⟨va32, va33, va34, vc32, vc33, vc34, rfl, ?_, ?_⟩
        · exact own_end1 HF.out.1 HF.out.2.2.1 _ _ _
        · exact own_end2 HF.out.2.1 HF.out.2.2.1 HF.out.2.2.2 _ _ _
      exact AllReadyH.nil
    exact AllReadyH.nil
  refine AllReadyH.cons rfl (fun K hK => ?_) ?_
  · go_simp
    obtain ⟨V35, e35⟩ : ∃ V35, World.alloc W1 (.cells #[] 3) = V35 := ⟨_, rfl⟩
    rw [e35]
    have s35 : Sep V35 X0.heap.size [nilOR, ⟨3, 1, .slice (some ⟨W1.heap.size, 0, none⟩) 0 0, 0, []⟩, nilOR] := by rw [← e35]; exact Sep.built [nilOR] s0 hb0.size
    have hB35 : Below X0.heap.size X0 V35 := by rw [← e35]; exact hb0.alloc hb0.size _
    clear e35
    refine hK.out _ _ (HK.out _ hB35) (fun hHeld => ?_)
    clear hK K
    try simp only [Act.put, List.setIfInBounds_toArray, List.set_cons_zero, List.set_cons_succ]
    refine wpAnyH_ready (rs := [0, 8]) (by kernel_rfl) (by simp) ?_
    refine AllReadyH.cons rfl (fun K hK => ?_) ?_
    · go_simp
      obtain ⟨V36, e36⟩ : ∃ V36, World.alloc V35 (.cells #[] 3) = V36 := ⟨_, rfl⟩
      rw [e36]
      have s36 : Sep V36 X0.heap.size [⟨3, 1, .slice (some ⟨V35.heap.size, 0, none⟩) 0 0, 0, []⟩, ⟨3, 1, .slice (some ⟨W1.heap.size, 0, none⟩) 0 0, 0, []⟩, nilOR] := by rw [← e36]; exact Sep.built [] s35 hB35.size
      have hB36 : Below X0.heap.size X0 V36 := by rw [← e36]; exact hB35.alloc hB35.size _
      clear e36
      refine hK.out _ _ (HK.out _ hB36) (fun hHeld => ?_)
      clear hK K
      try simp only [Act.put, List.setIfInBounds_toArray, List.set_cons_zero, List.set_cons_succ]
      refine wpAnyH_ready (rs := [3, 8]) (by kernel_rfl) (by simp) ?_
      refine AllReadyH.cons rfl (fun K hK => ?_) ?_
      · refine step_append_sep0 [] [⟨3, 1, .slice (some ⟨W1.heap.size, 0, none⟩) 0 0, 0, []⟩, nilOR] rfl _ _ rfl X0.heap.size (.slice (some ⟨V35.heap.size, 0, none⟩) 0 0) rfl s36 a1 c1 xs rfl (HR.out _ hB36).1 hx hB36.size ?_
        intro va37 vc37 V37 s37 hb37
        have hB37 := hB36.trans hb37
        clear hb37
        refine hK.out _ _ (HK.out _ hB37) (fun hHeld => ?_)
        clear hK K
        try simp only [Act.put, List.setIfInBounds_toArray, List.set_cons_zero, List.set_cons_succ]
        refine wpAnyH_ready (rs := [7, 8]) (by kernel_rfl) (by simp) ?_
        refine AllReadyH.cons rfl (fun K hK => ?_) ?_
        · refine step_append_sep0 [⟨3, 1, .slice va37 xs.length vc37, xs.length, ints xs⟩] [nilOR] rfl _ _ rfl X0.heap.size (.slice (some ⟨W1.heap.size, 0, none⟩) 0 0) rfl s37 a2 c2 ys rfl (HR.out _ hB37).2.1 hy hB37.size ?_
          intro va38 vc38 V38 s38 hb38
          have hB38 := hB37.trans hb38
          clear hb38
          refine hK.out _ _ (HK.out _ hB38) (fun hHeld => ?_)
          clear hK K
          try simp only [Act.put, List.setIfInBounds_toArray, List.set_cons_zero, List.set_cons_succ]
          refine wpAnyH_ready (rs := [8]) (by kernel_rfl) (by simp) ?_
          refine AllReadyH.cons rfl (fun K hK => ?_) AllReadyH.nil
          go_simp
          obtain ⟨V39, e39⟩ : ∃ V39, World.alloc V38 (.cells #[] 3) = V39 := ⟨_, rfl⟩
          rw [e39]
          have s39 : Sep V39 X0.heap.size [⟨3, 1, .slice va37 xs.length vc37, xs.length, ints xs⟩, ⟨3, 1, .slice va38 ys.length vc38, ys.length, ints ys⟩, ⟨3, 1, .slice (some ⟨V38.heap.size, 0, none⟩) 0 0, 0, []⟩] := by rw [← e39]; exact Sep.built [⟨3, 1, .slice va37 xs.length vc37, xs.length, ints xs⟩, ⟨3, 1, .slice va38 ys.length vc38, ys.length, ints ys⟩] s38 hB38.size
          have hB39 : Below X0.heap.size X0 V39 := by rw [← e39]; exact hB38.alloc hB38.size _
          clear e39
          refine hK.out _ _ (HK.out _ hB39) (fun hHeld => ?_)
          clear hK K
          try simp only [Act.put, List.setIfInBounds_toArray, List.set_cons_zero, List.set_cons_succ]
          refine wpAnyH_ready (rs := [11]) (by kernel_rfl) (by simp) ?_
          refine AllReadyH.cons rfl (fun K hK => ?_) AllReadyH.nil
          refine step_append_sep0 [⟨3, 1, .slice va37 xs.length vc37, xs.length, ints xs⟩, ⟨3, 1, .slice va38 ys.length vc38, ys.length, ints ys⟩] [] rfl _ _ rfl X0.heap.size (.slice (some ⟨V38.heap.size, 0, none⟩) 0 0) rfl s39 a3 c3 zs rfl (HR.out _ hB39).2.2 hz hB39.size ?_
          intro va40 vc40 V40 s40 hb40
          have hB40 := hB39.trans hb40
          clear hb40
          refine hK.out _ _ (HK.out _ hB40) (fun hHeld => ?_)
          clear hK K
          try simp only [Act.put, List.setIfInBounds_toArray, List.set_cons_zero, List.set_cons_succ]
          refine wpAnyH_take (i := 12) (v := ?_) rfl (by kernel_rfl) (by kernel_rfl) (by kernel_rfl) (fun _ _ _ h => h) (Or.inl ⟨by rfl, ?_⟩) (by assumption) ?_
          rotate_left
          focus (intro w hSw; (try dsimp only at hSw); go_simp; first | done | with_reducible rfl)
          try simp only [Act.put, List.setIfInBounds_toArray, List.set_cons_zero, List.set_cons_succ]
          obtain ⟨r0, r1, r2, q0, q1, q2, rl⟩ := HR1.out _ hB40
          refine wpAnyH_ready (rs := [13]) (by kernel_rfl) (by simp) ?_
          refine AllReadyH.cons rfl (fun K hK => ?_) AllReadyH.nil
          go_simp
          refine hK.out _ _ (by go_keep) (fun hHeld => ?_)
          clear hK K
          refine wpAnyH_done (by kernel_rfl) ?_ _
          clear hHeld
          have HF := hid (And.intro s40 (And.intro hB40 (And.intro hsz B0)))
          clear s0 hb0 s35 hB35 s36 hB36 s37 hB37 s38 hB38 s39 hB39 s40 hB40 hsz B0
          go_wp2
          refine bodyPost_ret (v := .agg #[.slice va37 xs.length vc37, .slice va38 ys.length vc38, .slice va40 zs.length vc40]) (by simp [results, Tryd.results30, go_sem, *]) rfl ⟨va37, va38, va40, vc37, vc38, vc40, rfl, ?_, ?_⟩
          · exact own_end1 HF.out.1 HF.out.2.2.1 _ _ _
          · exact own_end2 HF.out.2.1 HF.out.2.2.1 HF.out.2.2.2 _ _ _
        refine AllReadyH.cons rfl (fun K hK => ?_) ?_
        · go_simp
          obtain ⟨V41, e41⟩ : ∃ V41, World.alloc V37 (.cells #[] 3) = V41 := ⟨_, rfl⟩
          rw [e41]
          have s41 : Sep V41 X0.heap.size [⟨3, 1, .slice va37 xs.length vc37, xs.length, ints xs⟩, ⟨3, 1, .slice (some ⟨W1.heap.size, 0, none⟩) 0 0, 0, []⟩, ⟨3, 1, .slice (some ⟨V37.heap.size, 0, none⟩) 0 0, 0, []⟩] := by rw [← e41]; exact Sep.built [⟨3, 1, .slice va37 xs.length vc37, xs.length, ints xs⟩, ⟨3, 1, .slice (some ⟨W1.heap.size, 0, none⟩) 0 0, 0, []⟩] s37 hB37.size
          have hB41 : Below X0.heap.size X0 V41 := by rw [← e41]; exact hB37.alloc hB37.size _
          clear e41
          refine hK.out _ _ (HK.out _ hB41) (fun hHeld => ?_)
          clear hK K
          try simp only [Act.put, List.setIfInBounds_toArray, List.set_cons_zero, List.set_cons_succ]
          refine wpAnyH_ready (rs := [7]) (by kernel_rfl) (by simp) ?_
          refine AllReadyH.cons rfl (fun K hK => ?_) AllReadyH.nil
          refine step_append_sep0 [⟨3, 1, .slice va37 xs.length vc37, xs.length, ints xs⟩] [⟨3, 1, .slice (some ⟨V37.heap.size, 0, none⟩) 0 0, 0, []⟩] rfl _ _ rfl X0.heap.size (.slice (some ⟨W1.heap.size, 0, none⟩) 0 0) rfl s41 a2 c2 ys rfl (HR.out _ hB41).2.1 hy hB41.size ?_
          intro va42 vc42 V42 s42 hb42
          have hB42 := hB41.trans hb42
          clear hb42
          refine hK.out _ _ (HK.out _ hB42) (fun hHeld => ?_)
          clear hK K
          try simp only [Act.put, List.setIfInBounds_toArray, List.set_cons_zero, List.set_cons_succ]
          refine wpAnyH_ready (rs := [11]) (by kernel_rfl) (by simp) ?_
          refine AllReadyH.cons rfl (fun K hK => ?_) AllReadyH.nil
          refine step_append_sep0 [⟨3, 1, .slice va37 xs.length vc37, xs.length, ints xs⟩, ⟨3, 1, .slice va42 ys.length vc42, ys.length, ints ys⟩] [] rfl _ _ rfl X0.heap.size (.slice (some ⟨V37.heap.size, 0, none⟩) 0 0) rfl s42 a3 c3 zs rfl (HR.out _ hB42).2.2 hz hB42.size ?_
          intro va43 vc43 V43 s43 hb43
          have hB43 := hB42.trans hb43
          clear hb43
          refine hK.out _ _ (HK.out _ hB43) (fun hHeld => ?_)
          clear hK K
          try simp only [Act.put, List.setIfInBounds_toArray, List.set_cons_zero, List.set_cons_succ]
          refine wpAnyH_take (i := 12) (v := ?_) rfl (by kernel_rfl) (by kernel_rfl) (by kernel_rfl) (fun _ _ _ h => h) (Or.inl ⟨by rfl, ?_⟩) (by assumption) ?_
          rotate_left
          focus (intro w hSw; (try dsimp only at hSw); go_simp; first | done | with_reducible rfl)
          try simp only [Act.put, List.setIfInBounds_toArray, List.set_cons_zero, List.set_cons_succ]
          obtain ⟨r0, r1, r2, q0, q1, q2, rl⟩ := HR1.out _ hB43
          refine wpAnyH_ready (rs := [13]) (by kernel_rfl) (by simp) ?_
          refine AllReadyH.cons rfl (fun K hK => ?_) AllReadyH.nil
          go_simp
          refine hK.out _ _ (by go_keep) (fun hHeld => ?_)
          clear hK K
          refine wpAnyH_done (by kernel_rfl) ?_ _
          clear hHeld
          have HF := hid (And.intro s43 (And.intro hB43 (And.intro hsz B0)))
          clear s0 hb0 s35 hB35 s36 hB36 s37 hB37 s41 hB41 s42 hB42 s43 hB43 hsz B0
          go_wp2
          refine bodyPost_ret (v := .agg #[.slice va37 xs.length vc37, .slice va42 ys.length vc42, .slice va43 zs.length vc43]) (by simp [results, Tryd.results30, go_sem, *]) rfl ⟨va37, va42, va43, vc37, vc42, vc43, rfl, ?_, ?_⟩
          · exact own_end1 HF.out.1 HF.out.2.2.1 _ _ _
          · exact own_end2 HF.out.2.1 HF.out.2.2.1 HF.out.2.2.2 _ _ _
        exact AllReadyH.nil
      refine AllReadyH.cons rfl (fun K hK => ?_) ?_
      · go_simp
        obtain ⟨V44, e44⟩ : ∃ V44, World.alloc V36 (.cells #[] 3) = V44 := ⟨_, rfl⟩
        rw [e44]
        have s44 : Sep V44 X0.heap.size [⟨3, 1, .slice (some ⟨V35.heap.size, 0, none⟩) 0 0, 0, []⟩, ⟨3, 1, .slice (some ⟨W1.heap.size, 0, none⟩) 0 0, 0, []⟩, ⟨3, 1, .slice (some ⟨V36.heap.size, 0, none⟩) 0 0, 0, []⟩] := by rw [← e44]; exact Sep.built [⟨3, 1, .slice (some ⟨V35.heap.size, 0, none⟩) 0 0, 0, []⟩, ⟨3, 1, .slice (some ⟨W1.heap.size, 0, none⟩) 0 0, 0, []⟩] s36 hB36.size
        have hB44 : Below X0.heap.size X0 V44 := by rw [← e44]; exact hB36.alloc hB36.size _
        clear e44
        refine hK.out _ _ (HK.out _ hB44) (fun hHeld => ?_)
        clear hK K
        try simp only [Act.put, List.setIfInBounds_toArray, List.set_cons_zero, List.set_cons_succ]
        refine wpAnyH_ready (rs := [3]) (by kernel_rfl) (by simp) ?_
        refine AllReadyH.cons rfl (fun K hK => ?_) AllReadyH.nil
        refine step_append_sep0 [] [⟨3, 1, .slice (some ⟨W1.heap.size, 0, none⟩) 0 0, 0, []⟩, ⟨3, 1, .slice (some ⟨V36.heap.size, 0, none⟩) 0 0, 0, []⟩] rfl _ _ rfl X0.heap.size (.slice (some ⟨V35.heap.size, 0, none⟩) 0 0) rfl s44 a1 c1 xs rfl (HR.out _ hB44).1 hx hB44.size ?_
        intro va45 vc45 V45 s45 hb45
        have hB45 := hB44.trans hb45
        clear hb45
        refine hK.out _ _ (HK.out _ hB45) (fun hHeld => ?_)
        clear hK K
        try simp only [Act.put, List.setIfInBounds_toArray, List.set_cons_zero, List.set_cons_succ]
        refine wpAnyH_ready (rs := [7]) (by kernel_rfl) (by simp) ?_
        refine AllReadyH.cons rfl (fun K hK => ?_) AllReadyH.nil
        refine step_append_sep0 [⟨3, 1, .slice va45 xs.length vc45, xs.length, ints xs⟩] [⟨3, 1, .slice (some ⟨V36.heap.size, 0, none⟩) 0 0, 0, []⟩] rfl _ _ rfl X0.heap.size (.slice (some ⟨W1.heap.size, 0, none⟩) 0 0) rfl s45 a2 c2 ys rfl (HR.out _ hB45).2.1 hy hB45.size ?_
        intro va46 vc46 V46 s46 hb46
        have hB46 := hB45.trans hb46
        clear hb46
        refine hK.out _ _ (HK.out _ hB46) (fun hHeld => ?_)
        clear hK K
        try simp only [Act.put, List.setIfInBounds_toArray, List.set_cons_zero, List.set_cons_succ]
        refine wpAnyH_ready (rs := [11]) (by kernel_rfl) (by simp) ?_
        refine AllReadyH.cons rfl (fun K hK => ?_) AllReadyH.nil
        refine step_append_sep0 [⟨3, 1, .slice va45 xs.length vc45, xs.length, ints xs⟩, ⟨3, 1, .slice va46 ys.length vc46, ys.length, ints ys⟩] [] rfl _ _ rfl X0.heap.size (.slice (some ⟨V36.heap.size, 0, none⟩) 0 0) rfl s46 a3 c3 zs rfl (HR.out _ hB46).2.2 hz hB46.size ?_
        intro va47 vc47 V47 s47 hb47
        have hB47 := hB46.trans hb47
        clear hb47
        refine hK.out _ _ (HK.out _ hB47) (fun hHeld => ?_)
        clear hK K
        try simp only [Act.put, List.setIfInBounds_toArray, List.set_cons_zero, List.set_cons_succ]
        refine wpAnyH_take (i := 12) (v := ?_) rfl (by kernel_rfl) (by kernel_rfl) (by kernel_rfl) (fun _ _ _ h => h) (Or.inl ⟨by rfl, ?_⟩) (by assumption) ?_
        rotate_left
        focus (intro w hSw; (try dsimp only at hSw); go_simp; first | done | with_reducible rfl)
        try simp only [Act.put, List.setIfInBounds_toArray, List.set_cons_zero, List.set_cons_succ]
        obtain ⟨r0, r1, r2, q0, q1, q2, rl⟩ := HR1.out _ hB47
        refine wpAnyH_ready (rs := [13]) (by kernel_rfl) (by simp) ?_
        refine AllReadyH.cons rfl (fun K hK => ?_) AllReadyH.nil
        go_simp
        refine hK.out _ _ (by go_keep) (fun hHeld => ?_)
        clear hK K
        refine wpAnyH_done (by kernel_rfl) ?_ _
        clear hHeld
        have HF := hid (And.intro s47 (And.intro hB47 (And.intro hsz B0)))
        clear s0 hb0 s35 hB35 s36 hB36 s44 hB44 s45 hB45 s46 hB46 s47 hB47 hsz B0
        go_wp2
        refine bodyPost_ret (v := .agg #[.slice va45 xs.length vc45, .slice va46 ys.length vc46, .slice va47 zs.length vc47]) (by simp [results, Tryd.results30, go_sem, *]) rfl ⟨va45, va46, va47, vc45, vc46, vc47, rfl, ?_, ?_⟩
        · exact own_end1 HF.out.1 HF.out.2.2.1 _ _ _
        · exact own_end2 HF.out.2.1 HF.out.2.2.1 HF.out.2.2.2 _ _ _
      exact AllReadyH.nil
    refine AllReadyH.cons rfl (fun K hK => ?_) ?_
    · go_simp
      obtain ⟨V48, e48⟩ : ∃ V48, World.alloc V35 (.cells #[] 3) = V48 := ⟨_, rfl⟩
      rw [e48]
      have s48 : Sep V48 X0.heap.size [nilOR, ⟨3, 1, .slice (some ⟨W1.heap.size, 0, none⟩) 0 0, 0, []⟩, ⟨3, 1, .slice (some ⟨V35.heap.size, 0, none⟩) 0 0, 0, []⟩] := by rw [← e48]; exact Sep.built [nilOR, ⟨3, 1, .slice (some ⟨W1.heap.size, 0, none⟩) 0 0, 0, []⟩] s35 hB35.size
      have hB48 : Below X0.heap.size X0 V48 := by rw [← e48]; exact hB35.alloc hB35.size _
      clear e48
      refine hK.out _ _ (HK.out _ hB48) (fun hHeld => ?_)
      clear hK K
      try simp only [Act.put, List.setIfInBounds_toArray, List.set_cons_zero, List.set_cons_succ]
      refine wpAnyH_ready (rs := [0]) (by kernel_rfl) (by simp) ?_
      refine AllReadyH.cons rfl (fun K hK => ?_) AllReadyH.nil
      go_simp
      obtain ⟨V49, e49⟩ : ∃ V49, World.alloc V48 (.cells #[] 3) = V49 := ⟨_, rfl⟩
      rw [e49]
      have s49 : Sep V49 X0.heap.size [⟨3, 1, .slice (some ⟨V48.heap.size, 0, none⟩) 0 0, 0, []⟩, ⟨3, 1, .slice (some ⟨W1.heap.size, 0, none⟩) 0 0, 0, []⟩, ⟨3, 1, .slice (some ⟨V35.heap.size, 0, none⟩) 0 0, 0, []⟩] := by rw [← e49]; exact Sep.built [] s48 hB48.size
      have hB49 : Below X0.heap.size X0 V49 := by rw [← e49]; exact hB48.alloc hB48.size _
      clear e49
      refine hK.out _ _ (HK.out _ hB49) (fun hHeld => ?_)
      clear hK K
      try simp only [Act.put, List.setIfInBounds_toArray, List.set_cons_zero, List.set_cons_succ]
      refine wpAnyH_ready (rs := [3]) (by kernel_rfl) (by simp) ?_
      refine AllReadyH.cons rfl (fun K hK => ?_) AllReadyH.nil
      refine step_append_sep0 [] [⟨3, 1, .slice (some ⟨W1.heap.size, 0, none⟩) 0 0, 0, []⟩, ⟨3, 1, .slice (some ⟨V35.heap.size, 0, none⟩) 0 0, 0, []⟩] rfl _ _ rfl X0.heap.size (.slice (some ⟨V48.heap.size, 0, none⟩) 0 0) rfl s49 a1 c1 xs rfl (HR.out _ hB49).1 hx hB49.size ?_
      intro va50 vc50 V50 s50 hb50
      have hB50 := hB49.trans hb50
      clear hb50
      refine hK.out _ _ (HK.out _ hB50) (fun hHeld => ?_)
      clear hK K
      try simp only [Act.put, List.setIfInBounds_toArray, List.set_cons_zero, List.set_cons_succ]
      refine wpAnyH_ready (rs := [7]) (by kernel_rfl) (by simp) ?_
      refine AllReadyH.cons rfl (fun K hK => ?_) AllReadyH.nil
      refine step_append_sep0 [⟨3, 1, .slice va50 xs.length vc50, xs.length, ints xs⟩] [⟨3, 1, .slice (some ⟨V35.heap.size, 0, none⟩) 0 0, 0, []⟩] rfl _ _ rfl X0.heap.size (.slice (some ⟨W1.heap.size, 0, none⟩) 0 0) rfl s50 a2 c2 ys rfl (HR.out _ hB50).2.1 hy hB50.size ?_
      intro va51 vc51 V51 s51 hb51
      have hB51 := hB50.trans hb51
      clear hb51
      refine hK.out _ _ (HK.out _ hB51) (fun hHeld => ?_)
      clear hK K
      try simp only [Act.put, List.setIfInBounds_toArray, List.set_cons_zero, List.set_cons_succ]
      refine wpAnyH_ready (rs := [11]) (by kernel_rfl) (by simp) ?_
      refine AllReadyH.cons rfl (fun K hK => ?_) AllReadyH.nil
      refine step_append_sep0 [⟨3, 1, .slice va50 xs.length vc50, xs.length, ints xs⟩, ⟨3, 1, .slice va51 ys.length vc51, ys.length, ints ys⟩] [] rfl _ _ rfl X0.heap.size (.slice (some ⟨V35.heap.size, 0, none⟩) 0 0) rfl s51 a3 c3 zs rfl (HR.out _ hB51).2.2 hz hB51.size ?_
      intro va52 vc52 V52 s52 hb52
      have hB52 := hB51.trans hb52
      clear hb52
      refine hK.out _ _ (HK.out _ hB52) (fun hHeld => ?_)
      clear hK K
      try simp only [Act.put, List.setIfInBounds_toArray, List.set_cons_zero, List.set_cons_succ]
      refine wpAnyH_take (i := 12) (v := ?_) rfl (by kernel_rfl) (by kernel_rfl) (by kernel_rfl) (fun _ _ _ h => h) (Or.inl ⟨by rfl, ?_⟩) (by assumption) ?_
      rotate_left
      focus (intro w hSw; (try dsimp only at hSw); go_simp; first | done | with_reducible rfl)
      try simp only [Act.put, List.setIfInBounds_toArray, List.set_cons_zero, List.set_cons_succ]
      obtain ⟨r0, r1, r2, q0, q1, q2, rl⟩ := HR1.out _ hB52
      refine wpAnyH_ready (rs := [13]) (by kernel_rfl) (by simp) ?_
      refine AllReadyH.cons rfl (fun K hK => ?_) AllReadyH.nil
      go_simp
      refine hK.out _ _ (by go_keep) (fun hHeld => ?_)
      clear hK K
      refine wpAnyH_done (by kernel_rfl) ?_ _
      clear hHeld
      have HF := hid (And.intro s52 (And.intro hB52 (And.intro hsz B0)))
      clear s0 hb0 s35 hB35 s48 hB48 s49 hB49 s50 hB50 s51 hB51 s52 hB52 hsz B0
      go_wp2
      refine bodyPost_ret (v := .agg #[.slice va50 xs.length vc50, .slice va51 ys.length vc51, .slice va52 zs.length vc52]) (by simp [results, Tryd.results30, go_sem, *]) rfl ⟨va50, va51, va52, vc50, vc51, vc52, rfl, ?_, ?_⟩
      · exact own_end1 HF.out.1 HF.out.2.2.1 _ _ _
      · exact own_end2 HF.out.2.1 HF.out.2.2.1 HF.out.2.2.2 _ _ _
    exact AllReadyH.nil
  refine AllReadyH.cons rfl (fun K hK => ?_) ?_
  · go_simp
    obtain ⟨V53, e53⟩ : ∃ V53, World.alloc W1 (.cells #[] 3) = V53 := ⟨_, rfl⟩
    rw [e53]
    have s53 : Sep V53 X0.heap.size [nilOR, nilOR, ⟨3, 1, .slice (some ⟨W1.heap.size, 0, none⟩) 0 0, 0, []⟩] := by rw [← e53]; exact Sep.built [nilOR, nilOR] s0 hb0.size
    have hB53 : Below X0.heap.size X0 V53 := by rw [← e53]; exact hb0.alloc hb0.size _
    clear e53
    refine hK.out _ _ (HK.out _ hB53) (fun hHeld => ?_)
    clear hK K
    try simp only [Act.put, List.setIfInBounds_toArray, List.set_cons_zero, List.set_cons_succ]
    refine wpAnyH_ready (rs := [0, 4]) (by kernel_rfl) (by simp) ?_
    refine AllReadyH.cons rfl (fun K hK => ?_) ?_
    · go_simp
      obtain ⟨V54, e54⟩ : ∃ V54, World.alloc V53 (.cells #[] 3) = V54 := ⟨_, rfl⟩
      rw [e54]
      have s54 : Sep V54 X0.heap.size [⟨3, 1, .slice (some ⟨V53.heap.size, 0, none⟩) 0 0, 0, []⟩, nilOR, ⟨3, 1, .slice (some ⟨W1.heap.size, 0, none⟩) 0 0, 0, []⟩] := by rw [← e54]; exact Sep.built [] s53 hB53.size
      have hB54 : Below X0.heap.size X0 V54 := by rw [← e54]; exact hB53.alloc hB53.size _
      clear e54
      refine hK.out _ _ (HK.out _ hB54) (fun hHeld => ?_)
      clear hK K
      try simp only [Act.put, List.setIfInBounds_toArray, List.set_cons_zero, List.set_cons_succ]
      refine wpAnyH_ready (rs := [3, 4]) (by kernel_rfl) (by simp) ?_
      refine AllReadyH.cons rfl (fun K hK => ?_) ?_
      · refine step_append_sep0 [] [nilOR, ⟨3, 1, .slice (some ⟨W1.heap.size, 0, none⟩) 0 0, 0, []⟩] rfl _ _ rfl X0.heap.size (.slice (some ⟨V53.heap.size, 0, none⟩) 0 0) rfl s54 a1 c1 xs rfl (HR.out _ hB54).1 hx hB54.size ?_
        intro va55 vc55 V55 s55 hb55
        have hB55 := hB54.trans hb55
        clear hb55
        refine hK.out _ _ (HK.out _ hB55) (fun hHeld => ?_)
        clear hK K
        try simp only [Act.put, List.setIfInBounds_toArray, List.set_cons_zero, List.set_cons_succ]
        refine wpAnyH_ready (rs := [4]) (by kernel_rfl) (by simp) ?_
        refine AllReadyH.cons rfl (fun K hK => ?_) AllReadyH.nil
        go_simp
        obtain ⟨V56, e56⟩ : ∃ V56, World.alloc V55 (.cells #[] 3) = V56 := ⟨_, rfl⟩
        rw [e56]
        have s56 : Sep V56 X0.heap.size [⟨3, 1, .slice va55 xs.length vc55, xs.length, ints xs⟩, ⟨3, 1, .slice (some ⟨V55.heap.size, 0, none⟩) 0 0, 0, []⟩, ⟨3, 1, .slice (some ⟨W1.heap.size, 0, none⟩) 0 0, 0, []⟩] := by rw [← e56]; exact Sep.built [⟨3, 1, .slice va55 xs.length vc55, xs.length, ints xs⟩] s55 hB55.size
        have hB56 : Below X0.heap.size X0 V56 := by rw [← e56]; exact hB55.alloc hB55.size _
        clear e56
        refine hK.out _ _ (HK.out _ hB56) (fun hHeld => ?_)
        clear hK K
        try simp only [Act.put, List.setIfInBounds_toArray, List.set_cons_zero, List.set_cons_succ]
        refine wpAnyH_ready (rs := [7]) (by kernel_rfl) (by simp) ?_
        refine AllReadyH.cons rfl (fun K hK => ?_) AllReadyH.nil
        refine step_append_sep0 [⟨3, 1, .slice va55 xs.length vc55, xs.length, ints xs⟩] [⟨3, 1, .slice (some ⟨W1.heap.size, 0, none⟩) 0 0, 0, []⟩] rfl _ _ rfl X0.heap.size (.slice (some ⟨V55.heap.size, 0, none⟩) 0 0) rfl s56 a2 c2 ys rfl (HR.out _ hB56).2.1 hy hB56.size ?_
        intro va57 vc57 V57 s57 hb57
        have hB57 := hB56.trans hb57
        clear hb57
        refine hK.out _ _ (HK.out _ hB57) (fun hHeld => ?_)
        clear hK K
        try simp only [Act.put, List.setIfInBounds_toArray, List.set_cons_zero, List.set_cons_succ]
        refine wpAnyH_ready (rs := [11]) (by kernel_rfl) (by simp) ?_
        refine AllReadyH.cons rfl (fun K hK => ?_) AllReadyH.nil
        refine step_append_sep0 [⟨3, 1, .slice va55 xs.length vc55, xs.length, ints xs⟩, ⟨3, 1, .slice va57 ys.length vc57, ys.length, ints ys⟩] [] rfl _ _ rfl X0.heap.size (.slice (some ⟨W1.heap.size, 0, none⟩) 0 0) rfl s57 a3 c3 zs rfl (HR.out _ hB57).2.2 hz hB57.size ?_
        intro va58 vc58 V58 s58 hb58
        have hB58 := hB57.trans hb58
        clear hb58
        refine hK.out _ _ (HK.out _ hB58) (fun hHeld => ?_)
        clear hK K
        try simp only [Act.put, List.setIfInBounds_toArray, List.set_cons_zero, List.set_cons_succ]
        refine wpAnyH_take (i := 12) (v := ?_) rfl (by kernel_rfl) (by kernel_rfl) (by kernel_rfl) (fun _ _ _ h => h) (Or.inl ⟨by rfl, ?_⟩) (by assumption) ?_
        rotate_left
        focus (intro w hSw; (try dsimp only at hSw); go_simp; first | done | with_reducible rfl)
        try simp only [Act.put, List.setIfInBounds_toArray, List.set_cons_zero, List.set_cons_succ]
        obtain ⟨r0, r1, r2, q0, q1, q2, rl⟩ := HR1.out _ hB58
        refine wpAnyH_ready (rs := [13]) (by kernel_rfl) (by simp) ?_
        refine AllReadyH.cons rfl (fun K hK => ?_) AllReadyH.nil
        go_simp
        refine hK.out _ _ (by go_keep) (fun hHeld => ?_)
        clear hK K
        refine wpAnyH_done (by kernel_rfl) ?_ _
        clear hHeld
        have HF := hid (And.intro s58 (And.intro hB58 (And.intro hsz B0)))
        clear s0 hb0 s53 hB53 s54 hB54 s55 hB55 s56 hB56 s57 hB57 s58 hB58 hsz B0
        go_wp2
        refine bodyPost_ret (v := .agg #[.slice va55 xs.length vc55, .slice va57 ys.length vc57, .slice va58 zs.length vc58]) (by simp [results, Tryd.results30, go_sem, *]) rfl ⟨va55, va57, va58, vc55, vc57, vc58, rfl, ?_, ?_⟩
        · exact own_end1 HF.out.1 HF.out.2.2.1 _ _ _
        · exact own_end2 HF.out.2.1 HF.out.2.2.1 HF.out.2.2.2 _ _ _
      refine AllReadyH.cons rfl (fun K hK => ?_) ?_
      · go_simp
        obtain ⟨V59, e59⟩ : ∃ V59, World.alloc V54 (.cells #[] 3) = V59 := ⟨_, rfl⟩
        rw [e59]
        have s59 : Sep V59 X0.heap.size [⟨3, 1, .slice (some ⟨V53.heap.size, 0, none⟩) 0 0, 0, []⟩, ⟨3, 1, .slice (some ⟨V54.heap.size, 0, none⟩) 0 0, 0, []⟩, ⟨3, 1, .slice (some ⟨W1.heap.size, 0, none⟩) 0 0, 0, []⟩] := by rw [← e59]; exact Sep.built [⟨3, 1, .slice (some ⟨V53.heap.size, 0, none⟩) 0 0, 0, []⟩] s54 hB54.size
        have hB59 : Below X0.heap.size X0 V59 := by rw [← e59]; exact hB54.alloc hB54.size _
        clear e59
        refine hK.out _ _ (HK.out _ hB59) (fun hHeld => ?_)
        clear hK K
        try simp only [Act.put, List.setIfInBounds_toArray, List.set_cons_zero, List.set_cons_succ]
        refine wpAnyH_ready (rs := [3]) (by kernel_rfl) (by simp) ?_
        refine AllReadyH.cons rfl (fun K hK => ?_) AllReadyH.nil
        refine step_append_sep0 [] [⟨3, 1, .slice (some ⟨V54.heap.size, 0, none⟩) 0 0, 0, []⟩, ⟨3, 1, .slice (some ⟨W1.heap.size, 0, none⟩) 0 0, 0, []⟩] rfl _ _ rfl X0.heap.size (.slice (some ⟨V53.heap.size, 0, none⟩) 0 0) rfl s59 a1 c1 xs rfl (HR.out _ hB59).1 hx hB59.size ?_
        intro va60 vc60 V60 s60 hb60
        have hB60 := hB59.trans hb60
        clear hb60
        refine hK.out _ _ (HK.out _ hB60) (fun hHeld => ?_)
        clear hK K
        try simp only [Act.put, List.setIfInBounds_toArray, List.set_cons_zero, List.set_cons_succ]
        refine wpAnyH_ready (rs := [7]) (by kernel_rfl) (by simp) ?_
        refine AllReadyH.cons rfl (fun K hK => ?_) AllReadyH.nil
        refine step_append_sep0 [⟨3, 1, .slice va60 xs.length vc60, xs.length, ints xs⟩] [⟨3, 1, .slice (some ⟨W1.heap.size, 0, none⟩) 0 0, 0, []⟩] rfl _ _ rfl X0.heap.size (.slice (some ⟨V54.heap.size, 0, none⟩) 0 0) rfl s60 a2 c2 ys rfl (HR.out _ hB60).2.1 hy hB60.size ?_
        intro va61 vc61 V61 s61 hb61
        have hB61 := hB60.trans hb61
        clear hb61
        refine hK.out _ _ (HK.out _ hB61) (fun hHeld => ?_)
        clear hK K
        try simp only [Act.put, List.setIfInBounds_toArray, List.set_cons_zero, List.set_cons_succ]
        refine wpAnyH_ready (rs := [11]) (by kernel_rfl) (by simp) ?_
        refine AllReadyH.cons rfl (fun K hK => ?_) AllReadyH.nil
        refine step_append_sep0 [⟨3, 1, .slice va60 xs.length vc60, xs.length, ints xs⟩, ⟨3, 1, .slice va61 ys.length vc61, ys.length, ints ys⟩] [] rfl _ _ rfl X0.heap.size (.slice (some ⟨W1.heap.size, 0, none⟩) 0 0) rfl s61 a3 c3 zs rfl (HR.out _ hB61).2.2 hz hB61.size ?_
        intro va62 vc62 V62 s62 hb62
        have hB62 := hB61.trans hb62
        clear hb62
        refine hK.out _ _ (HK.out _ hB62) (fun hHeld => ?_)
        clear hK K
        try simp only [Act.put, List.setIfInBounds_toArray, List.set_cons_zero, List.set_cons_succ]
        refine wpAnyH_take (i := 12) (v := ?_) rfl (by kernel_rfl) (by kernel_rfl) (by kernel_rfl) (fun _ _ _ h => h) (Or.inl ⟨by rfl, ?_⟩) (by assumption) ?_
        rotate_left
        focus (intro w hSw; (try dsimp only at hSw); go_simp; first | done | with_reducible rfl)
        try simp only [Act.put, List.setIfInBounds_toArray, List.set_cons_zero, List.set_cons_succ]
        obtain ⟨r0, r1, r2, q0, q1, q2, rl⟩ := HR1.out _ hB62
        refine wpAnyH_ready (rs := [13]) (by kernel_rfl) (by simp) ?_
        refine AllReadyH.cons rfl (fun K hK => ?_) AllReadyH.nil
        go_simp
        refine hK.out _ _ (by go_keep) (fun hHeld => ?_)
        clear hK K
        refine wpAnyH_done (by kernel_rfl) ?_ _
        clear hHeld
        have HF := hid (And.intro s62 (And.intro hB62 (And.intro hsz B0)))
        clear s0 hb0 s53 hB53 s54 hB54 s59 hB59 s60 hB60 s61 hB61 s62 hB62 hsz B0
        go_wp2
        refine bodyPost_ret (v := .agg #[.slice va60 xs.length vc60, .slice va61 ys.length vc61, .slice va62 zs.length vc62]) (by simp [results, Tryd.results30, go_sem, *]) rfl ⟨va60, va61, va62, vc60, vc61, vc62, rfl, ?_, ?_⟩
        · exact own_end1 HF.out.1 HF.out.2.2.1 _ _ _
        · exact own_end2 HF.out.2.1 HF.out.2.2.1 HF.out.2.2.2 _ _ _
      exact AllReadyH.nil
    refine AllReadyH.cons rfl (fun K hK => ?_) ?_
    · go_simp
      obtain ⟨V63, e63⟩ : ∃ V63, World.alloc V53 (.cells #[] 3) = V63 := ⟨_, rfl⟩
      rw [e63]
      have s63 : Sep V63 X0.heap.size [nilOR, ⟨3, 1, .slice (some ⟨V53.heap.size, 0, none⟩) 0 0, 0, []⟩, ⟨3, 1, .slice (some ⟨W1.heap.size, 0, none⟩) 0 0, 0, []⟩] := by rw [← e63]; exact Sep.built [nilOR] s53 hB53.size
      have hB63 : Below X0.heap.size X0 V63 := by rw [← e63]; exact hB53.alloc hB53.size _
      clear e63
      refine hK.out _ _ (HK.out _ hB63) (fun hHeld => ?_)
      clear hK K
      try simp only [Act.put, List.setIfInBounds_toArray, List.set_cons_zero, List.set_cons_succ]
      refine wpAnyH_ready (rs := [0]) (by kernel_rfl) (by simp) ?_
      refine AllReadyH.cons rfl (fun K hK => ?_) AllReadyH.nil
      go_simp
      obtain ⟨V64, e64⟩ : ∃ V64, World.alloc V63 (.cells #[] 3) = V64 := ⟨_, rfl⟩
      rw [e64]
      have s64 : Sep V64 X0.heap.size [⟨3, 1, .slice (some ⟨V63.heap.size, 0, none⟩) 0 0, 0, []⟩, ⟨3, 1, .slice (some ⟨V53.heap.size, 0, none⟩) 0 0, 0, []⟩, ⟨3, 1, .slice (some ⟨W1.heap.size, 0, none⟩) 0 0, 0, []⟩] := by rw [← e64]; exact Sep.built [] s63 hB63.size
      have hB64 : Below X0.heap.size X0 V64 := by rw [← e64]; exact hB63.alloc hB63.size _
      clear e64
      refine hK.out _ _ (HK.out _ hB64) (fun hHeld => ?_)
      clear hK K
      try simp only [Act.put, List.setIfInBounds_toArray, List.set_cons_zero, List.set_cons_succ]
      refine wpAnyH_ready (rs := [3]) (by kernel_rfl) (by simp) ?_
      refine AllReadyH.cons rfl (fun K hK => ?_) AllReadyH.nil
      refine step_append_sep0 [] [⟨3, 1, .slice (some ⟨V53.heap.size, 0, none⟩) 0 0, 0, []⟩, ⟨3, 1, .slice (some ⟨W1.heap.size, 0, none⟩) 0 0, 0, []⟩] rfl _ _ rfl X0.heap.size (.slice (some ⟨V63.heap.size, 0, none⟩) 0 0) rfl s64 a1 c1 xs rfl (HR.out _ hB64).1 hx hB64.size ?_
      intro va65 vc65 V65 s65 hb65
      have hB65 := hB64.trans hb65
      clear hb65
      refine hK.out _ _ (HK.out _ hB65) (fun hHeld => ?_)
      clear hK K
      try simp only [Act.put, List.setIfInBounds_toArray, List.set_cons_zero, List.set_cons_succ]
      refine wpAnyH_ready (rs := [7]) (by kernel_rfl) (by simp) ?_
      refine AllReadyH.cons rfl (fun K hK => ?_) AllReadyH.nil
      refine step_append_sep0 [⟨3, 1, .slice va65 xs.length vc65, xs.length, ints xs⟩] [⟨3, 1, .slice (some ⟨W1.heap.size, 0, none⟩) 0 0, 0, []⟩] rfl _ _ rfl X0.heap.size (.slice (some ⟨V53.heap.size, 0, none⟩) 0 0) rfl s65 a2 c2 ys rfl (HR.out _ hB65).2.1 hy hB65.size ?_
      intro va66 vc66 V66 s66 hb66
      have hB66 := hB65.trans hb66
      clear hb66
      refine hK.out _ _ (HK.out _ hB66) (fun hHeld => ?_)
      clear hK K
      try simp only [Act.put, List.setIfInBounds_toArray, List.set_cons_zero, List.set_cons_succ]
      refine wpAnyH_ready (rs := [11]) (by kernel_rfl) (by simp) ?_
      refine AllReadyH.cons rfl (fun K hK => ?_) AllReadyH.nil
      refine step_append_sep0 [⟨3, 1, .slice va65 xs.length vc65, xs.length, ints xs⟩, ⟨3, 1, .slice va66 ys.length vc66, ys.length, ints ys⟩] [] rfl _ _ rfl X0.heap.size (.slice (some ⟨W1.heap.size, 0, none⟩) 0 0) rfl s66 a3 c3 zs rfl (HR.out _ hB66).2.2 hz hB66.size ?_
      intro va67 vc67 V67 s67 hb67
      have hB67 := hB66.trans hb67
      clear hb67
      refine hK.out _ _ (HK.out _ hB67) (fun hHeld => ?_)
      clear hK K
      try simp only [Act.put, List.setIfInBounds_toArray, List.set_cons_zero, List.set_cons_succ]
      refine wpAnyH_take (i := 12) (v := ?_) rfl (by kernel_rfl) (by kernel_rfl) (by kernel_rfl) (fun _ _ _ h => h) (Or.inl ⟨by rfl, ?_⟩) (by assumption) ?_
      rotate_left
      focus (intro w hSw; (try dsimp only at hSw); go_simp; first | done | with_reducible rfl)
      try simp only [Act.put, List.setIfInBounds_toArray, List.set_cons_zero, List.set_cons_succ]
      obtain ⟨r0, r1, r2, q0, q1, q2, rl⟩ := HR1.out _ hB67
      refine wpAnyH_ready (rs := [13]) (by kernel_rfl) (by simp) ?_
      refine AllReadyH.cons rfl (fun K hK => ?_) AllReadyH.nil
      go_simp
      refine hK.out _ _ (by go_keep) (fun hHeld => ?_)
      clear hK K
      refine wpAnyH_done (by kernel_rfl) ?_ _
      clear hHeld
      have HF := hid (And.intro s67 (And.intro hB67 (And.intro hsz B0)))
      clear s0 hb0 s53 hB53 s63 hB63 s64 hB64 s65 hB65 s66 hB66 s67 hB67 hsz B0
      go_wp2
      refine bodyPost_ret (v := .agg #[.slice va65 xs.length vc65, .slice va66 ys.length vc66, .slice va67 zs.length vc67]) (by simp [results, Tryd.results30, go_sem, *]) rfl ⟨va65, va66, va67, vc65, vc66, vc67, rfl, ?_, ?_⟩
      · exact own_end1 HF.out.1 HF.out.2.2.1 _ _ _
      · exact own_end2 HF.out.2.1 HF.out.2.2.1 HF.out.2.2.2 _ _ _
    exact AllReadyH.nil
  exact AllReadyH.nil
end
end Go.Proofs.YthkkhinmdlmhkaaDoor
