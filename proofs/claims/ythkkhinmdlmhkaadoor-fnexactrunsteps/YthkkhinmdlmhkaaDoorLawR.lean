/- The law on RunSteps is true at every argument. -/
import Derived.Test.YthkkhinmdlmhkaaDoorK5
import Derived.Deep.CutRange
namespace Go.Proofs.YthkkhinmdlmhkaaDoor
open Go.RowKit
set_option linter.unusedVariables false
set_option linter.unusedSimpArgs false
set_option maxRecDepth 100000

set_option maxHeartbeats 1000000 in
/-- marking a state that is owned, from any number on -/
theorem markState_gen (B C : Nat) (k0 : Int) (hk0 : 0 ≤ k0) (hk0' : k0 ≤ 6000000) (a1 a2 a3 : Option Addr) (c1 c2 c3 : Nat) (xs ys zs : List Int) (w : World) (hx : xs.length ≤ 1048576) (hy : ys.length ≤ 1048576) (hz : zs.length ≤ 1048576)
    (h : OwnSt w B (.slice a1 xs.length c1) (.slice a2 ys.length c2) (.slice a3 zs.length c3) xs ys zs) (hC : C ≤ w.heap.size)
    (hC1 : ∀ g, (Value.slice a1 xs.length c1).ownBlock = some g → g < C) (hC2 : ∀ g, (Value.slice a2 ys.length c2).ownBlock = some g → g < C) (hC3 : ∀ g, (Value.slice a3 zs.length c3).ownBlock = some g → g < C) :
    Calls Tryd.prog 15 #[.agg #[.slice a1 xs.length c1, .slice a2 ys.length c2, .slice a3 zs.length c3], .int .i64 k0] w fun e w' => e = .returned (.int .i64 (k0 + xs.length + ys.length + zs.length)) ∧ SRow w' a1 a2 a3 (marks k0 xs.length) (marks (k0 + xs.length) ys.length) (marks (k0 + xs.length + ys.length) zs.length) ∧ Touch B C w w' := by
  have HC1 : Hid (_) := hC1
  have HC2 : Hid (_) := hC2
  have HC3 : Hid (_) := hC3
  clear hC1 hC2 hC3
  have H : Hid (OwnSt w B (.slice a1 xs.length c1) (.slice a2 ys.length c2) (.slice a3 zs.length c3) xs ys zs) := h
  have H1 : Hid (∀ g, (Value.slice a1 xs.length c1).ownBlock = some g → g < w.heap.size) := fun g e => (h.l.lt g e).2
  have H2 : Hid (∀ g, (Value.slice a2 ys.length c2).ownBlock = some g → g < w.heap.size) := fun g e => (h.m.lt g e).2
  have H3 : Hid (∀ g, (Value.slice a3 zs.length c3).ownBlock = some g → g < w.heap.size) := fun g e => (h.t.lt g e).2
  have b1 := h.l.alloc (.cells #[.slice a1 xs.length c1, .slice a2 ys.length c2, .slice a3 zs.length c3] 28)
  have b2 := h.m.alloc (.cells #[.slice a1 xs.length c1, .slice a2 ys.length c2, .slice a3 zs.length c3] 28)
  have b3 := h.t.alloc (.cells #[.slice a1 xs.length c1, .slice a2 ys.length c2, .slice a3 zs.length c3] 28)
  have e2 : (w.alloc (.cells #[.slice a1 xs.length c1, .slice a2 ys.length c2, .slice a3 zs.length c3] 28)).cell? ⟨w.heap.size, 1, none⟩ = some (.slice a2 ys.length c2) := by simp [go_sem]
  have e3 : (w.alloc (.cells #[.slice a1 xs.length c1, .slice a2 ys.length c2, .slice a3 zs.length c3] 28)).cell? ⟨w.heap.size, 2, none⟩ = some (.slice a3 zs.length c3) := by simp [go_sem]
  have T0 : Touch B C w (w.alloc (.cells #[.slice a1 xs.length c1, .slice a2 ys.length c2, .slice a3 zs.length c3] 28)) := ⟨rfl, rfl, rfl, by simp, fun k hk _ => Below.heap_alloc _ _ _ hk⟩
  have HB : Hid (_ ∧ _ ∧ _ ∧ _ ∧ _ ∧ _) := ⟨b1, b2, b3, e2, e3, T0⟩
  clear h b1 b2 b3 e2 e3 T0
  go_enter Tryd.func15, Tryd.ntmps15
  go_wp2_with fail
  refine (markI_any B _ xs k0 _ (by omega) (by omega) hx HB.out.1).mono ?_
  rintro e w1 ⟨rfl, o1, g1⟩
  have f2 := grown_cell g1 HB.out.2.2.2.1 H1.out
  have f3 := grown_cell g1 HB.out.2.2.2.2.1 H1.out
  have p2 := own_kept HB.out.2.1 g1 (fun g e e' => H.out.lm g e' e)
  have p3 := own_kept HB.out.2.2.1 g1 (fun g e e' => H.out.lt g e' e)
  have t1 : Touch B C _ _ := HB.out.2.2.2.2.2.trans (Touch.of_grown g1 fun k e => ⟨(H.out.l.lt k e).1, HC1.out k e⟩)
  have HP : Hid (_ ∧ _ ∧ _ ∧ _ ∧ _) := ⟨p2, p3, f3, t1, o1⟩
  obtain ⟨k1, hk1, hk10, hk11⟩ : ∃ k1 : Int, k0 + (xs.length : Int) = k1 ∧ 0 ≤ k1 ∧ k1 ≤ 7048576 := ⟨_, rfl, by omega, by omega⟩
  rw [hk1]
  have HK1 : Hid (k0 + (xs.length : Int) = k1) := hk1
  clear hk1 p2 p3 t1 o1 g1 f3
  go_wp2_with fail
  refine (markI_any B _ ys k1 _ (by omega) (by omega) hy HP.out.1).mono ?_
  rintro e w2 ⟨rfl, o2, g2⟩
  have f3 := grown_cell g2 HP.out.2.2.1 H2.out
  have p3 := own_kept HP.out.2.1 g2 (fun g e e' => H.out.mt g e' e)
  have t2 := HP.out.2.2.2.1.trans (Touch.of_grown (B := B) (C := C) g2 fun k e => ⟨(H.out.m.lt k e).1, HC2.out k e⟩)
  have q1 := own_kept HP.out.2.2.2.2 g2 (fun g e => H.out.lm g e)
  have HQ : Hid (_ ∧ _ ∧ _ ∧ _) := ⟨p3, t2, q1, o2⟩
  obtain ⟨k2, hk2, hk20, hk21⟩ : ∃ k2 : Int, k1 + (ys.length : Int) = k2 ∧ 0 ≤ k2 ∧ k2 ≤ 8097152 := ⟨_, rfl, by omega, by omega⟩
  rw [hk2]
  have HK2 : Hid (k1 + (ys.length : Int) = k2) := hk2
  clear hk2 p3 t2 q1 o2 g2
  go_wp2_with fail
  refine (markI_any B _ zs k2 _ (by omega) (by omega) hz HQ.out.1).mono ?_
  rintro e w3 ⟨rfl, o3, g3⟩
  have t3 := HQ.out.2.1.trans (Touch.of_grown (B := B) (C := C) g3 fun k e => ⟨(H.out.t.lt k e).1, HC3.out k e⟩)
  have s1 := own_kept HQ.out.2.2.1 g3 (fun g e => H.out.lt g e)
  have s2 := own_kept HQ.out.2.2.2 g3 (fun g e => H.out.mt g e)
  have HS : Hid (_ ∧ _ ∧ _ ∧ _) := ⟨t3, row_marksK s1, row_marksK s2, row_marksK o3⟩
  clear t3 s1 s2 o3 g3
  obtain ⟨k3, hk3⟩ : ∃ k3 : Int, k2 + (zs.length : Int) = k3 := ⟨_, rfl⟩
  rw [hk3]
  have HK3 : Hid (k2 + (zs.length : Int) = k3) := hk3
  clear hk3
  go_wp2
  go_ret
  have z1 := HK1.out
  have z2 := HK2.out
  have z3 := HK3.out
  subst z1
  subst z2
  exact ⟨ret_int (by rw [← z3]), ⟨HS.out.2.1, HS.out.2.2.1, HS.out.2.2.2⟩, HS.out.1⟩

theorem OwnSt.touch {w w' : World} {B C : Nat} {v1 v2 v3 : Value} {xs ys zs : List Int} (h : OwnSt w C v1 v2 v3 xs ys zs) (t : Touch B C w w') : OwnSt w' C v1 v2 v3 xs ys zs :=
  ⟨owns_touch h.l t (fun k hk => .inr (h.l.lt k hk).1), owns_touch h.m t (fun k hk => .inr (h.m.lt k hk).1), owns_touch h.t t (fun k hk => .inr (h.t.lt k hk).1), h.lm, h.lt, h.mt⟩
/-- the parts of what RunSteps tells -/
def partL : Option (Cf × List Int × Int) → List Int
  | some r => r.1.L
  | none => []
def partM : Option (Cf × List Int × Int) → List Int
  | some r => r.1.M
  | none => []
def partT : Option (Cf × List Int × Int) → List Int
  | some r => r.1.T
  | none => []
def partH : Option (Cf × List Int × Int) → Int
  | some r => r.2.2
  | none => 0
def partN : Option (Cf × List Int × Int) → Int
  | some r => (r.2.1.length : Int)
  | none => 0
theorem part_len {xs : List Stp} {L M T : List Int} {F : Int} : (partL (runO xs L M T F)).length ≤ 100 ∧ (partM (runO xs L M T F)).length ≤ 100 ∧ (partT (runO xs L M T F)).length ≤ 100 := by
  cases h : runO xs L M T F with
  | none => simp [partL, partM, partT]
  | some r =>
    have f := runO_fin h
    exact ⟨by have := f.L8; simp only [partL]; omega, by have := f.M16; simp only [partM]; omega, f.T100⟩
theorem run_lay {w' : World} {B : Nat} {o : Option (Cf × List Int × Int)} {e : Ending} (h : RunAns w' B o e) : ∃ z1 z2 z3 k1 k2 k3, e = .returned (.tuple #[.agg #[.slice z1 (partL o).length k1, .slice z2 (partM o).length k2, .slice z3 (partT o).length k3], .int .i64 (partH o), .int .i64 (partN o), .bool o.isSome]) ∧ OwnSt w' B (.slice z1 (partL o).length k1) (.slice z2 (partM o).length k2) (.slice z3 (partT o).length k3) (partL o) (partM o) (partT o) := by
  cases o with
  | none => exact ⟨none, none, none, 0, 0, 0, h, ⟨World.ownsRow_nil _ _ _ _, World.ownsRow_nil _ _ _ _, World.ownsRow_nil _ _ _ _, (fun g e => by cases e), (fun g e => by cases e), (fun g e => by cases e)⟩⟩
  | some r =>
    obtain ⟨lv, mv, tv, rfl, ho⟩ := h
    obtain ⟨z1, k1, rfl⟩ := slice_of_owned ho.l
    obtain ⟨z2, k2, rfl⟩ := slice_of_owned ho.m
    obtain ⟨z3, k3, rfl⟩ := slice_of_owned ho.t
    exact ⟨z1, z2, z3, k1, k2, k3, rfl, ho⟩
theorem OwnSt.mono {w : World} {B B' : Nat} {v1 v2 v3 : Value} {xs ys zs : List Int} (h : OwnSt w B v1 v2 v3 xs ys zs) (hB : B' ≤ B) : OwnSt w B' v1 v2 v3 xs ys zs := ⟨owns_mono h.l hB, owns_mono h.m hB, owns_mono h.t hB, h.lm, h.lt, h.mt⟩
/-- a box of three lists, new -/
structure Bw (X : World) (wb : Nat) : Prop where
  c : ∀ j, j < 3 → X.cell? ⟨wb, j, none⟩ = some (.slice none 0 0) ∧ X.frozen? ⟨wb, j, none⟩ = false
  lt : wb < X.heap.size
theorem Bw.new (X : World) (t : TypeId) : Bw (X.alloc (.cells #[.slice none 0 0, .slice none 0 0, .slice none 0 0] t)) X.heap.size := by
  refine ⟨fun j hj => ?_, by simp⟩
  obtain rfl | rfl | rfl : j = 0 ∨ j = 1 ∨ j = 2 := by omega
  all_goals simp [go_sem]
theorem Bw.below {X X' : World} {wb : Nat} (h : Bw X wb) (hb : Below X.heap.size X X') : Bw X' wb := by
  refine ⟨fun j hj => ?_, Nat.lt_of_lt_of_le h.lt hb.size⟩
  rw [hb.cell (p := ⟨wb, j, none⟩) h.lt, hb.frozen (p := ⟨wb, j, none⟩) h.lt]
  exact h.c j hj
theorem Bw.all {X : World} {wb : Nat} (h : Bw X wb) : X.cell? ⟨wb, 0, none⟩ = some (.slice none 0 0) ∧ X.cell? ⟨wb, 1, none⟩ = some (.slice none 0 0) ∧ X.cell? ⟨wb, 2, none⟩ = some (.slice none 0 0) ∧ X.frozen? ⟨wb, 0, none⟩ = false ∧ X.frozen? ⟨wb, 1, none⟩ = false ∧ X.frozen? ⟨wb, 2, none⟩ = false ∧ wb < X.heap.size := ⟨(h.c 0 (by omega)).1, (h.c 1 (by omega)).1, (h.c 2 (by omega)).1, (h.c 0 (by omega)).2, (h.c 1 (by omega)).2, (h.c 2 (by omega)).2, h.lt⟩
theorem Bw.put3 {X : World} {wb : Nat} (h : Bw X wb) (u0 u1 u2 : Value) : Box3 (((X.setCell ⟨wb, 0, none⟩ u0).setCell ⟨wb, 1, none⟩ u1).setCell ⟨wb, 2, none⟩ u2) wb u0 u1 u2 := by
  obtain ⟨n0, n1, n2, f0, f1, f2, nl⟩ := h.all
  refine ⟨?_, ?_, ?_⟩ <;> simp [go_sem, *]
theorem low3' {X0 X : World} {wb : Nat} (h : Below X0.heap.size X0 X) (hb : X0.heap.size ≤ wb) (u0 u1 u2 : Value) : Below X0.heap.size X0 (((X.setCell ⟨wb, 0, none⟩ u0).setCell ⟨wb, 1, none⟩ u1).setCell ⟨wb, 2, none⟩ u2) :=
  ((h.setCell (p := ⟨wb, 0, none⟩) hb u0).setCell (p := ⟨wb, 1, none⟩) hb u1).setCell (p := ⟨wb, 2, none⟩) hb u2
theorem OwnSt.putA {V : World} {B B' b : Nat} {v1 v2 v3 : Value} {xs ys zs : List Int} (h : OwnSt V B v1 v2 v3 xs ys zs) (hb : b < B) (hB : B' ≤ B) (u1 u2 u3 : Value) : OwnSt (((V.setCell ⟨b, 0, none⟩ u1).setCell ⟨b, 1, none⟩ u2).setCell ⟨b, 2, none⟩ u3) B' v1 v2 v3 xs ys zs := h.put3 hb hB u1 u2 u3
theorem OwnSt.putB {Vc V : World} {B B' b : Nat} {v1 v2 v3 : Value} {xs ys zs : List Int} (h : OwnSt Vc B v1 v2 v3 xs ys zs) (hb : Below Vc.heap.size Vc V) (hl : Vc.heap.size ≤ b) (hB : B' ≤ B) (u1 u2 u3 : Value) : OwnSt (((V.setCell ⟨b, 0, none⟩ u1).setCell ⟨b, 1, none⟩ u2).setCell ⟨b, 2, none⟩ u3) B' v1 v2 v3 xs ys zs := (h.mono hB).below (low3' hb hl u1 u2 u3)
theorem OwnSt.touch' {w w' : World} {B C D : Nat} {v1 v2 v3 : Value} {xs ys zs : List Int} (h : OwnSt w D v1 v2 v3 xs ys zs) (t : Touch B C w w') (hD : D < 0 ∨ C ≤ D) : OwnSt w' D v1 v2 v3 xs ys zs := by
  have hC : C ≤ D := by omega
  exact ⟨owns_touch h.l t (fun k hk => .inr (Nat.le_trans hC (h.l.lt k hk).1)), owns_touch h.m t (fun k hk => .inr (Nat.le_trans hC (h.m.lt k hk).1)), owns_touch h.t t (fun k hk => .inr (Nat.le_trans hC (h.t.lt k hk).1)), h.lm, h.lt, h.mt⟩
set_option maxHeartbeats 4000000 in
theorem lawRunSteps (a : Option Addr) (ac : Nat) (xs : List Stp) (a1 a2 a3 : Option Addr) (c1 c2 c3 : Nat) (L M T : List Int) (F : Int) (S : Nat → Addr) (u : TypeId) (pv : Value) (w : World) (hl : xs.length ≤ 9223372036854775807) (h1 : L.length ≤ 9223372036854775807) (h2 : M.length ≤ 9223372036854775807) (h3 : T.length ≤ 9223372036854775807) (hT : TRow w a xs) (hS : SRow w a1 a2 a3 L M T) (hTb : Tab w) (hE : Errs w S) (h5 : 5 < w.heap.size) (he : w.cell? ⟨5, 0, none⟩ = some (.iface u pv)) :
    Calls Tryd.prog 3 #[.slice a xs.length ac, .agg #[.slice a1 L.length c1, .slice a2 M.length c2, .slice a3 T.length c3], .int .i64 F] w fun e w' => e = .returned (.bool true) ∧ Below w.heap.size w w' := by
  have HZ1 : Hid (∀ X r0, Below w.heap.size w X → 0 ≤ r0 → r0 ≤ 1048576 → Calls Tryd.prog 6 #[.slice a xs.length ac, .int .i64 r0] X fun e w' => (∃ r, e = .returned (.int .i64 r) ∧ (r < 0 ∨ (0 ≤ r ∧ r ≤ 1048576 ∧ xs.length ≤ 1048576 ∧ sumT xs ≤ 1048576))) ∧ Below X.heap.size X w') := fun X r0 hb q1 q2 => szSteps_gen a ac xs r0 X hl q1 q2 (hT.below hb)
  have HZ3 : Hid (∀ X r0, 0 ≤ r0 → r0 ≤ 1048576 → Calls Tryd.prog 7 #[.agg #[.slice a1 L.length c1, .slice a2 M.length c2, .slice a3 T.length c3], .int .i64 r0] X fun e w' => (∃ q, e = .returned (.int .i64 q) ∧ (q < 0 ∨ (q ≤ r0 ∧ L.length ≤ 1048576 ∧ M.length ≤ 1048576 ∧ T.length ≤ 1048576))) ∧ Below X.heap.size X w') := fun X r0 q1 q2 => szState_any a1 a2 a3 c1 c2 c3 L.length M.length T.length r0 X h1 h2 h3 q1 q2
  have HK : Hid (∀ X, Below w.heap.size w X → (TRow X a xs ∧ SRow X a1 a2 a3 L M T) ∧ Tab X ∧ Errs X S ∧ 5 < X.heap.size ∧ X.cell? ⟨5, 0, none⟩ = some (.iface u pv)) := fun X hb => ⟨⟨hT.below hb, hS.below hb⟩, hTb.below hb, hE.below hb, Nat.lt_of_lt_of_le h5 hb.size, (hb.cell (p := ⟨5, 0, none⟩) h5).trans he⟩
  clear hT hS hTb hE he hl h1 h2 h3
  have B0 := below1 w (.cells #[.slice a1 L.length c1, .slice a2 M.length c2, .slice a3 T.length c3] 25)
  have hX0s : w.heap.size < (w.alloc (.cells #[.slice a1 L.length c1, .slice a2 M.length c2, .slice a3 T.length c3] 25)).heap.size := by simp
  have HP : Hid (∀ X, Below (w.alloc (.cells #[.slice a1 L.length c1, .slice a2 M.length c2, .slice a3 T.length c3] 25)).heap.size (w.alloc (.cells #[.slice a1 L.length c1, .slice a2 M.length c2, .slice a3 T.length c3] 25)) X → Box3 X w.heap.size (.slice a1 L.length c1) (.slice a2 M.length c2) (.slice a3 T.length c3) ∧ Below w.heap.size w X) := fun X hb => ⟨(Box3.new w _ _ _ 25).below hb, bstep' B0 hb⟩
  go_enter Tryd.func3, Tryd.ntmps3
  go_wp2_with fail
  generalize (w.alloc (.cells #[.slice a1 L.length c1, .slice a2 M.length c2, .slice a3 T.length c3] 25)) = X0 at HP B0 hX0s ⊢
  refine (HZ1.out _ _ B0 (by decide) (by decide)).mono ?_
  rintro e X1 ⟨⟨r, rfl, hr⟩, hb1⟩
  have C1 := hb1
  by_cases hr0 : r < 0
  · have HB := hid (HP.out _ C1).2
    go_wp2
    go_ret
    exact ⟨rfl, HB.out⟩
  have HX : Hid (xs.length ≤ 1048576 ∧ sumT xs ≤ 1048576) := by show _ ∧ _; omega
  have hq : 0 ≤ r ∧ r ≤ 1048576 := by omega
  obtain ⟨⟨s0, s1, s2⟩, _⟩ := HP.out _ C1
  clear hr hb1
  go_wp2_with fail
  refine (HZ3.out _ _ hq.1 hq.2).mono ?_
  rintro e X3 ⟨⟨r3, rfl, hr3⟩, hb3⟩
  have C3 := bstep C1 C1.size hb3
  clear s0 s1 s2
  by_cases hr30 : r3 < 0
  · have HB := hid (HP.out _ C3).2
    go_wp2
    go_ret
    exact ⟨rfl, HB.out⟩
  have HL : Hid (L.length ≤ 1048576 ∧ M.length ≤ 1048576 ∧ T.length ≤ 1048576) := by show _ ∧ _ ∧ _; omega
  clear hr3 hb3
  have hs := fun (X : World) (p : Option Addr) (pc : Nat) (e1 e2 e3 : Option Addr) (f1 f2 f3 : Nat) t1 t3 => (sRunSteps_any p pc xs e1 e2 e3 f1 f2 f3 L M T F X HX.out.1 HL.out.1 HL.out.2.1 HL.out.2.2 t1 t3).mono fun e w' h => And.intro (run_lay h.1) h.2
  have hi := fun (X : World) (p : Option Addr) (pc : Nat) (e1 e2 e3 : Option Addr) (f1 f2 f3 : Nat) (hb : Below w.heap.size w X) t1 t3 => (iRunSteps_any p pc xs e1 e2 e3 f1 f2 f3 L M T F S u pv X HX.out.1 HL.out.1 HL.out.2.1 HL.out.2.2 t1 t3 (HK.out _ hb).2.1 (HK.out _ hb).2.2.1 (HK.out _ hb).2.2.2.1 (HK.out _ hb).2.2.2.2).mono fun e w' h => And.intro (run_lay h.1) h.2
  have hd := part_len (xs := xs) (L := L) (M := M) (T := T) (F := F)
  generalize partL (runO xs L M T F) = P at hs hi hd
  generalize partM (runO xs L M T F) = Q at hs hi hd
  generalize partT (runO xs L M T F) = R at hs hi hd
  generalize partH (runO xs L M T F) = hw at hs hi
  generalize partN (runO xs L M T F) = cn at hs hi
  generalize (runO xs L M T F).isSome = G at hs hi
  obtain ⟨hd1, hd2, hd3⟩ := hd
  have HSP : Hid (∀ X (p : Option Addr) (pc : Nat) (e1 e2 e3 : Option Addr) (f1 f2 f3 : Nat), TRow X p xs → SRow X e1 e2 e3 L M T → Calls Tryd.prog 8 #[.slice p xs.length pc, .agg #[.slice e1 L.length f1, .slice e2 M.length f2, .slice e3 T.length f3], .int .i64 F] X fun e w' => (∃ z1 z2 z3 k1 k2 k3, e = .returned (.tuple #[.agg #[.slice z1 P.length k1, .slice z2 Q.length k2, .slice z3 R.length k3], .int .i64 hw, .int .i64 cn, .bool G]) ∧ OwnSt w' X.heap.size (.slice z1 P.length k1) (.slice z2 Q.length k2) (.slice z3 R.length k3) P Q R) ∧ Below X.heap.size X w') := hs
  have HIP : Hid (∀ X (p : Option Addr) (pc : Nat) (e1 e2 e3 : Option Addr) (f1 f2 f3 : Nat), Below w.heap.size w X → TRow X p xs → SRow X e1 e2 e3 L M T → Calls Tryd.prog 11 #[.slice p xs.length pc, .agg #[.slice e1 L.length f1, .slice e2 M.length f2, .slice e3 T.length f3], .int .i64 F] X fun e w' => (∃ z1 z2 z3 k1 k2 k3, e = .returned (.tuple #[.agg #[.slice z1 P.length k1, .slice z2 Q.length k2, .slice z3 R.length k3], .int .i64 hw, .int .i64 cn, .bool G]) ∧ OwnSt w' X.heap.size (.slice z1 P.length k1) (.slice z2 Q.length k2) (.slice z3 R.length k3) P Q R) ∧ Below X.heap.size X w') := hi
  clear hs hi
  have tg : (G != G) = false := by simp
  have th : (hw != hw) = false := by simp
  have tn : (cn != cn) = false := by simp
  have HA : Hid (∀ X, Below X0.heap.size X0 X → Calls Tryd.prog 9 #[.slice a xs.length ac] X fun e w' => (∃ a' c', e = .returned (.slice a' xs.length c') ∧ TRow w' a' xs) ∧ Below X.heap.size X w') := fun X hb => toSteps_got a ac xs X HX.out.1 HX.out.2 (HK.out _ (HP.out _ hb).2).1.1
  have HC : Hid (∀ X, Below X0.heap.size X0 X → Calls Tryd.prog 10 #[.agg #[.slice a1 L.length c1, .slice a2 M.length c2, .slice a3 T.length c3]] X fun e w' => ∃ b1 b2 b3 d1 d2 d3, e = .returned (.agg #[.slice b1 L.length d1, .slice b2 M.length d2, .slice b3 T.length d3]) ∧ OwnSt w' X.heap.size (.slice b1 L.length d1) (.slice b2 M.length d2) (.slice b3 T.length d3) L M T ∧ Below X.heap.size X w') := fun X hb => toState_any a1 a2 a3 c1 c2 c3 L M T X HL.out.1 HL.out.2.1 HL.out.2.2 (HK.out _ (HP.out _ hb).2).1.2
  clear HZ1 HZ3
  go_wp2_with fail
  go_cut [8, 9, 10, 11] from 25 (fun t8 t9 t10 t11 wc => ∃ (wb : Nat) (z1 z2 z3 : Option Addr) (k1 k2 k3 : Nat), t8 = .pointer (some ⟨wb, 0, none⟩) ∧ t9 = .int .i64 hw ∧ t10 = .int .i64 cn ∧ t11 = .bool G ∧ X0.heap.size ≤ wb ∧ Box3 wc wb (.slice z1 P.length k1) (.slice z2 Q.length k2) (.slice z3 R.length k3) ∧ OwnSt wc X0.heap.size (.slice z1 P.length k1) (.slice z2 Q.length k2) (.slice z3 R.length k3) P Q R ∧ Below X0.heap.size X0 wc)
  case first =>
    have C4 := C3.drew
    refine wp_region_held_drew (S := fun X' => X'.cell? ⟨w.heap.size, 0, none⟩ = some (.slice a1 L.length c1) ∧ X'.cell? ⟨w.heap.size, 1, none⟩ = some (.slice a2 M.length c2) ∧ X'.cell? ⟨w.heap.size, 2, none⟩ = some (.slice a3 T.length c3)) (by kernel_rfl) (HP.out _ C4).1 (fun hHeld => ?_)
    obtain ⟨V0, hV0⟩ : ∃ V0, X3.drew = V0 := ⟨_, rfl⟩
    rw [hV0] at C4 hHeld ⊢
    clear hV0
    refine wpAnyH_take (i := 0) (v := ?_) rfl (by kernel_rfl) (by kernel_rfl) (by kernel_rfl) (fun _ _ _ h => h) (Or.inl ⟨by rfl, ?_⟩) (by assumption) ?_
    rotate_left
    focus (intro w hSw; (try dsimp only at hSw); go_simp; first | done | with_reducible rfl)
    try go_simp
    refine wpAnyH_take (i := 2) (v := ?_) rfl (by kernel_rfl) (by kernel_rfl) (by kernel_rfl) (fun _ _ _ h => h) (Or.inl ⟨by rfl, ?_⟩) (by assumption) ?_
    rotate_left
    focus (intro w hSw; (try dsimp only at hSw); go_simp; first | done | with_reducible rfl)
    try go_simp
    refine wpAnyH_take (i := 4) (v := ?_) rfl (by kernel_rfl) (by kernel_rfl) (by kernel_rfl) (fun _ _ _ h => h) (Or.inl ⟨by rfl, ?_⟩) (by assumption) ?_
    rotate_left
    focus (intro w hSw; (try dsimp only at hSw); go_simp; first | done | with_reducible rfl)
    try go_simp
    refine wpAnyH_ready (rs := [1, 11]) (by kernel_rfl) (by simp) ?_
    refine AllReadyH.cons rfl (fun K hK => ?_) ?_
    · go_simp
      go_wp2_with (go_at_call 9; refine (HA.out _ C4).mono ?_; rintro e V1 ⟨⟨xa1, xd1, rfl, t1⟩, b1⟩)
      have C1 := bstep C4 C4.size b1
      refine hK.out _ _ (HP.out _ C1).1 (fun hHeld => ?_)
      clear hK K
      try go_simp
      refine wpAnyH_ready (rs := [3, 11]) (by kernel_rfl) (by simp) ?_
      refine AllReadyH.cons rfl (fun K hK => ?_) ?_
      · go_simp
        go_wp2_with (go_at_call 10; refine (HC.out _ C1).mono ?_; rintro e V2 ⟨ya2, yb2, yc2, yd2, ye2, yf2, rfl, s2, b2⟩)
        have C2 := bstep C1 C1.size b2
        have t2 := t1.below b2
        refine hK.out _ _ (HP.out _ C2).1 (fun hHeld => ?_)
        clear hK K
        try go_simp
        refine wpAnyH_ready (rs := [5, 11]) (by kernel_rfl) (by simp) ?_
        refine AllReadyH.cons rfl (fun K hK => ?_) ?_
        · go_simp
          go_wp2_with (go_at_call 8; refine (HSP.out _ _ _ _ _ _ _ _ _ t2 s2.row).mono ?_; rintro e V3 ⟨⟨z1, z2, z3, k1, k2, k3, rfl, a3⟩, b3⟩)
          have C3 := bstep C2 C2.size b3
          have t3 := t2.below b3
          have s3 := s2.below b3
          refine hK.out _ _ (HP.out _ C3).1 (fun hHeld => ?_)
          clear hK K
          try go_simp
          refine wpAnyH_take (i := 6) (v := ?_) rfl (by kernel_rfl) (by kernel_rfl) (by kernel_rfl) (fun _ _ _ h => h) (Or.inl ⟨by rfl, ?_⟩) (by assumption) ?_
          rotate_left
          focus (intro w hSw; (try dsimp only at hSw); go_simp; first | done | with_reducible rfl)
          try go_simp
          refine wpAnyH_take (i := 7) (v := ?_) rfl (by kernel_rfl) (by kernel_rfl) (by kernel_rfl) (fun _ _ _ h => h) (Or.inl ⟨by rfl, ?_⟩) (by assumption) ?_
          rotate_left
          focus (intro w hSw; (try dsimp only at hSw); go_simp; first | done | with_reducible rfl)
          try go_simp
          refine wpAnyH_take (i := 8) (v := ?_) rfl (by kernel_rfl) (by kernel_rfl) (by kernel_rfl) (fun _ _ _ h => h) (Or.inl ⟨by rfl, ?_⟩) (by assumption) ?_
          rotate_left
          focus (intro w hSw; (try dsimp only at hSw); go_simp; first | done | with_reducible rfl)
          try go_simp
          refine wpAnyH_take (i := 9) (v := ?_) rfl (by kernel_rfl) (by kernel_rfl) (by kernel_rfl) (fun _ _ _ h => h) (Or.inl ⟨by rfl, ?_⟩) (by assumption) ?_
          rotate_left
          focus (intro w hSw; (try dsimp only at hSw); go_simp; first | done | with_reducible rfl)
          try go_simp
          refine wpAnyH_take (i := 10) (v := ?_) rfl (by kernel_rfl) (by kernel_rfl) (by kernel_rfl) (fun _ _ _ h => h) (Or.inl ⟨by rfl, ?_⟩) (by assumption) ?_
          rotate_left
          focus (intro w hSw; (try dsimp only at hSw); go_simp; first | done | with_reducible rfl)
          try go_simp
          refine wpAnyH_ready (rs := [11]) (by kernel_rfl) (by simp) ?_
          refine AllReadyH.cons rfl (fun K hK => ?_) AllReadyH.nil
          go_simp
          have b4 := below1 V3 (.cells #[.slice none 0 0, .slice none 0 0, .slice none 0 0] 28)
          have N4 := Bw.new V3 28
          obtain ⟨V4, e4⟩ : ∃ V4, World.alloc V3 (.cells #[.slice none 0 0, .slice none 0 0, .slice none 0 0] 28) = V4 := ⟨_, rfl⟩
          have hlo4 : X0.heap.size ≤ V3.heap.size := C3.size
          rw [e4] at b4 N4 ⊢
          have C4 := bstep C3 C3.size b4
          have t4 := t3.below b4
          have s4 := s3.below b4
          refine hK.out _ _ (HP.out _ C4).1 (fun hHeld => ?_)
          clear hK K
          try go_simp
          obtain ⟨n0, n1, n2, f0, f1, f2, nl⟩ := N4.all
          have hne : ¬ V3.heap.size = w.heap.size := by omega
          have hne' : ¬ w.heap.size = V3.heap.size := by omega
          refine wpAnyH_ready (rs := [12]) (by kernel_rfl) (by simp) ?_
          refine AllReadyH.cons rfl (fun K hK => ?_) AllReadyH.nil
          go_simp
          refine hK.out _ _ (by go_keep) (fun hHeld => ?_)
          clear hK K
          refine wpAnyH_take (i := 13) (v := ?_) rfl (by kernel_rfl) (by kernel_rfl) (by kernel_rfl) (fun _ _ _ h => h) (Or.inl ⟨by rfl, ?_⟩) (by assumption) ?_
          rotate_left
          focus (intro w hSw; (try dsimp only at hSw); go_simp; first | done | with_reducible rfl)
          try go_simp
          refine wpAnyH_take (i := 14) (v := ?_) rfl (by kernel_rfl) (by kernel_rfl) (by kernel_rfl) (fun _ _ _ h => h) (Or.inl ⟨by rfl, ?_⟩) (by assumption) ?_
          rotate_left
          focus (intro w hSw; (try dsimp only at hSw); go_simp; first | done | with_reducible rfl)
          try go_simp
          refine wpAnyH_take (i := 15) (v := ?_) rfl (by kernel_rfl) (by kernel_rfl) (by kernel_rfl) (fun _ _ _ h => h) (Or.inl ⟨by rfl, ?_⟩) (by assumption) ?_
          rotate_left
          focus (intro w hSw; (try dsimp only at hSw); go_simp; first | done | with_reducible rfl)
          try go_simp
          refine wpAnyH_done (by kernel_rfl) ?_ _
          clear hHeld
          go_wp2_with fail
          go_meet
          exact ⟨_, z1, z2, z3, k1, k2, k3, rfl, rfl, rfl, rfl, hlo4, N4.put3 _ _ _, (OwnSt.putB a3 b4 (Nat.le_refl _) C2.size _ _ _), low3' C4 hlo4 _ _ _⟩
        refine AllReadyH.cons rfl (fun K hK => ?_) ?_
        · go_simp
          have b5 := below1 V2 (.cells #[.slice none 0 0, .slice none 0 0, .slice none 0 0] 28)
          have N5 := Bw.new V2 28
          obtain ⟨V5, e5⟩ : ∃ V5, World.alloc V2 (.cells #[.slice none 0 0, .slice none 0 0, .slice none 0 0] 28) = V5 := ⟨_, rfl⟩
          have hlo5 : X0.heap.size ≤ V2.heap.size := C2.size
          rw [e5] at b5 N5 ⊢
          have C5 := bstep C2 C2.size b5
          have t5 := t2.below b5
          have s5 := s2.below b5
          refine hK.out _ _ (HP.out _ C5).1 (fun hHeld => ?_)
          clear hK K
          try go_simp
          refine wpAnyH_ready (rs := [5]) (by kernel_rfl) (by simp) ?_
          refine AllReadyH.cons rfl (fun K hK => ?_) AllReadyH.nil
          go_simp
          go_wp2_with (go_at_call 8; refine (HSP.out _ _ _ _ _ _ _ _ _ t5 s5.row).mono ?_; rintro e V6 ⟨⟨z1, z2, z3, k1, k2, k3, rfl, a6⟩, b6⟩)
          have C6 := bstep C5 C5.size b6
          have t6 := t5.below b6
          have s6 := s5.below b6
          have N6 := N5.below b6
          refine hK.out _ _ (HP.out _ C6).1 (fun hHeld => ?_)
          clear hK K
          try go_simp
          refine wpAnyH_take (i := 6) (v := ?_) rfl (by kernel_rfl) (by kernel_rfl) (by kernel_rfl) (fun _ _ _ h => h) (Or.inl ⟨by rfl, ?_⟩) (by assumption) ?_
          rotate_left
          focus (intro w hSw; (try dsimp only at hSw); go_simp; first | done | with_reducible rfl)
          try go_simp
          refine wpAnyH_take (i := 7) (v := ?_) rfl (by kernel_rfl) (by kernel_rfl) (by kernel_rfl) (fun _ _ _ h => h) (Or.inl ⟨by rfl, ?_⟩) (by assumption) ?_
          rotate_left
          focus (intro w hSw; (try dsimp only at hSw); go_simp; first | done | with_reducible rfl)
          try go_simp
          refine wpAnyH_take (i := 8) (v := ?_) rfl (by kernel_rfl) (by kernel_rfl) (by kernel_rfl) (fun _ _ _ h => h) (Or.inl ⟨by rfl, ?_⟩) (by assumption) ?_
          rotate_left
          focus (intro w hSw; (try dsimp only at hSw); go_simp; first | done | with_reducible rfl)
          try go_simp
          refine wpAnyH_take (i := 9) (v := ?_) rfl (by kernel_rfl) (by kernel_rfl) (by kernel_rfl) (fun _ _ _ h => h) (Or.inl ⟨by rfl, ?_⟩) (by assumption) ?_
          rotate_left
          focus (intro w hSw; (try dsimp only at hSw); go_simp; first | done | with_reducible rfl)
          try go_simp
          refine wpAnyH_take (i := 10) (v := ?_) rfl (by kernel_rfl) (by kernel_rfl) (by kernel_rfl) (fun _ _ _ h => h) (Or.inl ⟨by rfl, ?_⟩) (by assumption) ?_
          rotate_left
          focus (intro w hSw; (try dsimp only at hSw); go_simp; first | done | with_reducible rfl)
          try go_simp
          obtain ⟨n0, n1, n2, f0, f1, f2, nl⟩ := N6.all
          have hne : ¬ V2.heap.size = w.heap.size := by omega
          have hne' : ¬ w.heap.size = V2.heap.size := by omega
          refine wpAnyH_ready (rs := [12]) (by kernel_rfl) (by simp) ?_
          refine AllReadyH.cons rfl (fun K hK => ?_) AllReadyH.nil
          go_simp
          refine hK.out _ _ (by go_keep) (fun hHeld => ?_)
          clear hK K
          refine wpAnyH_take (i := 13) (v := ?_) rfl (by kernel_rfl) (by kernel_rfl) (by kernel_rfl) (fun _ _ _ h => h) (Or.inl ⟨by rfl, ?_⟩) (by assumption) ?_
          rotate_left
          focus (intro w hSw; (try dsimp only at hSw); go_simp; first | done | with_reducible rfl)
          try go_simp
          refine wpAnyH_take (i := 14) (v := ?_) rfl (by kernel_rfl) (by kernel_rfl) (by kernel_rfl) (fun _ _ _ h => h) (Or.inl ⟨by rfl, ?_⟩) (by assumption) ?_
          rotate_left
          focus (intro w hSw; (try dsimp only at hSw); go_simp; first | done | with_reducible rfl)
          try go_simp
          refine wpAnyH_take (i := 15) (v := ?_) rfl (by kernel_rfl) (by kernel_rfl) (by kernel_rfl) (fun _ _ _ h => h) (Or.inl ⟨by rfl, ?_⟩) (by assumption) ?_
          rotate_left
          focus (intro w hSw; (try dsimp only at hSw); go_simp; first | done | with_reducible rfl)
          try go_simp
          refine wpAnyH_done (by kernel_rfl) ?_ _
          clear hHeld
          go_wp2_with fail
          go_meet
          exact ⟨_, z1, z2, z3, k1, k2, k3, rfl, rfl, rfl, rfl, hlo5, N6.put3 _ _ _, (OwnSt.putA a6 N5.lt C5.size _ _ _), low3' C6 hlo5 _ _ _⟩
        exact AllReadyH.nil
      refine AllReadyH.cons rfl (fun K hK => ?_) ?_
      · go_simp
        have b7 := below1 V1 (.cells #[.slice none 0 0, .slice none 0 0, .slice none 0 0] 28)
        have N7 := Bw.new V1 28
        obtain ⟨V7, e7⟩ : ∃ V7, World.alloc V1 (.cells #[.slice none 0 0, .slice none 0 0, .slice none 0 0] 28) = V7 := ⟨_, rfl⟩
        have hlo7 : X0.heap.size ≤ V1.heap.size := C1.size
        rw [e7] at b7 N7 ⊢
        have C7 := bstep C1 C1.size b7
        have t7 := t1.below b7
        refine hK.out _ _ (HP.out _ C7).1 (fun hHeld => ?_)
        clear hK K
        try go_simp
        refine wpAnyH_ready (rs := [3]) (by kernel_rfl) (by simp) ?_
        refine AllReadyH.cons rfl (fun K hK => ?_) AllReadyH.nil
        go_simp
        go_wp2_with (go_at_call 10; refine (HC.out _ C7).mono ?_; rintro e V8 ⟨ya8, yb8, yc8, yd8, ye8, yf8, rfl, s8, b8⟩)
        have C8 := bstep C7 C7.size b8
        have t8 := t7.below b8
        have N8 := N7.below b8
        refine hK.out _ _ (HP.out _ C8).1 (fun hHeld => ?_)
        clear hK K
        try go_simp
        refine wpAnyH_ready (rs := [5]) (by kernel_rfl) (by simp) ?_
        refine AllReadyH.cons rfl (fun K hK => ?_) AllReadyH.nil
        go_simp
        go_wp2_with (go_at_call 8; refine (HSP.out _ _ _ _ _ _ _ _ _ t8 s8.row).mono ?_; rintro e V9 ⟨⟨z1, z2, z3, k1, k2, k3, rfl, a9⟩, b9⟩)
        have C9 := bstep C8 C8.size b9
        have t9 := t8.below b9
        have s9 := s8.below b9
        have N9 := N8.below b9
        refine hK.out _ _ (HP.out _ C9).1 (fun hHeld => ?_)
        clear hK K
        try go_simp
        refine wpAnyH_take (i := 6) (v := ?_) rfl (by kernel_rfl) (by kernel_rfl) (by kernel_rfl) (fun _ _ _ h => h) (Or.inl ⟨by rfl, ?_⟩) (by assumption) ?_
        rotate_left
        focus (intro w hSw; (try dsimp only at hSw); go_simp; first | done | with_reducible rfl)
        try go_simp
        refine wpAnyH_take (i := 7) (v := ?_) rfl (by kernel_rfl) (by kernel_rfl) (by kernel_rfl) (fun _ _ _ h => h) (Or.inl ⟨by rfl, ?_⟩) (by assumption) ?_
        rotate_left
        focus (intro w hSw; (try dsimp only at hSw); go_simp; first | done | with_reducible rfl)
        try go_simp
        refine wpAnyH_take (i := 8) (v := ?_) rfl (by kernel_rfl) (by kernel_rfl) (by kernel_rfl) (fun _ _ _ h => h) (Or.inl ⟨by rfl, ?_⟩) (by assumption) ?_
        rotate_left
        focus (intro w hSw; (try dsimp only at hSw); go_simp; first | done | with_reducible rfl)
        try go_simp
        refine wpAnyH_take (i := 9) (v := ?_) rfl (by kernel_rfl) (by kernel_rfl) (by kernel_rfl) (fun _ _ _ h => h) (Or.inl ⟨by rfl, ?_⟩) (by assumption) ?_
        rotate_left
        focus (intro w hSw; (try dsimp only at hSw); go_simp; first | done | with_reducible rfl)
        try go_simp
        refine wpAnyH_take (i := 10) (v := ?_) rfl (by kernel_rfl) (by kernel_rfl) (by kernel_rfl) (fun _ _ _ h => h) (Or.inl ⟨by rfl, ?_⟩) (by assumption) ?_
        rotate_left
        focus (intro w hSw; (try dsimp only at hSw); go_simp; first | done | with_reducible rfl)
        try go_simp
        obtain ⟨n0, n1, n2, f0, f1, f2, nl⟩ := N9.all
        have hne : ¬ V1.heap.size = w.heap.size := by omega
        have hne' : ¬ w.heap.size = V1.heap.size := by omega
        refine wpAnyH_ready (rs := [12]) (by kernel_rfl) (by simp) ?_
        refine AllReadyH.cons rfl (fun K hK => ?_) AllReadyH.nil
        go_simp
        refine hK.out _ _ (by go_keep) (fun hHeld => ?_)
        clear hK K
        refine wpAnyH_take (i := 13) (v := ?_) rfl (by kernel_rfl) (by kernel_rfl) (by kernel_rfl) (fun _ _ _ h => h) (Or.inl ⟨by rfl, ?_⟩) (by assumption) ?_
        rotate_left
        focus (intro w hSw; (try dsimp only at hSw); go_simp; first | done | with_reducible rfl)
        try go_simp
        refine wpAnyH_take (i := 14) (v := ?_) rfl (by kernel_rfl) (by kernel_rfl) (by kernel_rfl) (fun _ _ _ h => h) (Or.inl ⟨by rfl, ?_⟩) (by assumption) ?_
        rotate_left
        focus (intro w hSw; (try dsimp only at hSw); go_simp; first | done | with_reducible rfl)
        try go_simp
        refine wpAnyH_take (i := 15) (v := ?_) rfl (by kernel_rfl) (by kernel_rfl) (by kernel_rfl) (fun _ _ _ h => h) (Or.inl ⟨by rfl, ?_⟩) (by assumption) ?_
        rotate_left
        focus (intro w hSw; (try dsimp only at hSw); go_simp; first | done | with_reducible rfl)
        try go_simp
        refine wpAnyH_done (by kernel_rfl) ?_ _
        clear hHeld
        go_wp2_with fail
        go_meet
        exact ⟨_, z1, z2, z3, k1, k2, k3, rfl, rfl, rfl, rfl, hlo7, N9.put3 _ _ _, (OwnSt.putA a9 N8.lt C8.size _ _ _), low3' C9 hlo7 _ _ _⟩
      exact AllReadyH.nil
    refine AllReadyH.cons rfl (fun K hK => ?_) ?_
    · go_simp
      have b10 := below1 V0 (.cells #[.slice none 0 0, .slice none 0 0, .slice none 0 0] 28)
      have N10 := Bw.new V0 28
      obtain ⟨V10, e10⟩ : ∃ V10, World.alloc V0 (.cells #[.slice none 0 0, .slice none 0 0, .slice none 0 0] 28) = V10 := ⟨_, rfl⟩
      have hlo10 : X0.heap.size ≤ V0.heap.size := C4.size
      rw [e10] at b10 N10 ⊢
      have C10 := bstep C4 C4.size b10
      refine hK.out _ _ (HP.out _ C10).1 (fun hHeld => ?_)
      clear hK K
      try go_simp
      refine wpAnyH_ready (rs := [1]) (by kernel_rfl) (by simp) ?_
      refine AllReadyH.cons rfl (fun K hK => ?_) AllReadyH.nil
      go_simp
      go_wp2_with (go_at_call 9; refine (HA.out _ C10).mono ?_; rintro e V11 ⟨⟨xa11, xd11, rfl, t11⟩, b11⟩)
      have C11 := bstep C10 C10.size b11
      have N11 := N10.below b11
      refine hK.out _ _ (HP.out _ C11).1 (fun hHeld => ?_)
      clear hK K
      try go_simp
      refine wpAnyH_ready (rs := [3]) (by kernel_rfl) (by simp) ?_
      refine AllReadyH.cons rfl (fun K hK => ?_) AllReadyH.nil
      go_simp
      go_wp2_with (go_at_call 10; refine (HC.out _ C11).mono ?_; rintro e V12 ⟨ya12, yb12, yc12, yd12, ye12, yf12, rfl, s12, b12⟩)
      have C12 := bstep C11 C11.size b12
      have t12 := t11.below b12
      have N12 := N11.below b12
      refine hK.out _ _ (HP.out _ C12).1 (fun hHeld => ?_)
      clear hK K
      try go_simp
      refine wpAnyH_ready (rs := [5]) (by kernel_rfl) (by simp) ?_
      refine AllReadyH.cons rfl (fun K hK => ?_) AllReadyH.nil
      go_simp
      go_wp2_with (go_at_call 8; refine (HSP.out _ _ _ _ _ _ _ _ _ t12 s12.row).mono ?_; rintro e V13 ⟨⟨z1, z2, z3, k1, k2, k3, rfl, a13⟩, b13⟩)
      have C13 := bstep C12 C12.size b13
      have t13 := t12.below b13
      have s13 := s12.below b13
      have N13 := N12.below b13
      refine hK.out _ _ (HP.out _ C13).1 (fun hHeld => ?_)
      clear hK K
      try go_simp
      refine wpAnyH_take (i := 6) (v := ?_) rfl (by kernel_rfl) (by kernel_rfl) (by kernel_rfl) (fun _ _ _ h => h) (Or.inl ⟨by rfl, ?_⟩) (by assumption) ?_
      rotate_left
      focus (intro w hSw; (try dsimp only at hSw); go_simp; first | done | with_reducible rfl)
      try go_simp
      refine wpAnyH_take (i := 7) (v := ?_) rfl (by kernel_rfl) (by kernel_rfl) (by kernel_rfl) (fun _ _ _ h => h) (Or.inl ⟨by rfl, ?_⟩) (by assumption) ?_
      rotate_left
      focus (intro w hSw; (try dsimp only at hSw); go_simp; first | done | with_reducible rfl)
      try go_simp
      refine wpAnyH_take (i := 8) (v := ?_) rfl (by kernel_rfl) (by kernel_rfl) (by kernel_rfl) (fun _ _ _ h => h) (Or.inl ⟨by rfl, ?_⟩) (by assumption) ?_
      rotate_left
      focus (intro w hSw; (try dsimp only at hSw); go_simp; first | done | with_reducible rfl)
      try go_simp
      refine wpAnyH_take (i := 9) (v := ?_) rfl (by kernel_rfl) (by kernel_rfl) (by kernel_rfl) (fun _ _ _ h => h) (Or.inl ⟨by rfl, ?_⟩) (by assumption) ?_
      rotate_left
      focus (intro w hSw; (try dsimp only at hSw); go_simp; first | done | with_reducible rfl)
      try go_simp
      refine wpAnyH_take (i := 10) (v := ?_) rfl (by kernel_rfl) (by kernel_rfl) (by kernel_rfl) (fun _ _ _ h => h) (Or.inl ⟨by rfl, ?_⟩) (by assumption) ?_
      rotate_left
      focus (intro w hSw; (try dsimp only at hSw); go_simp; first | done | with_reducible rfl)
      try go_simp
      obtain ⟨n0, n1, n2, f0, f1, f2, nl⟩ := N13.all
      have hne : ¬ V0.heap.size = w.heap.size := by omega
      have hne' : ¬ w.heap.size = V0.heap.size := by omega
      refine wpAnyH_ready (rs := [12]) (by kernel_rfl) (by simp) ?_
      refine AllReadyH.cons rfl (fun K hK => ?_) AllReadyH.nil
      go_simp
      refine hK.out _ _ (by go_keep) (fun hHeld => ?_)
      clear hK K
      refine wpAnyH_take (i := 13) (v := ?_) rfl (by kernel_rfl) (by kernel_rfl) (by kernel_rfl) (fun _ _ _ h => h) (Or.inl ⟨by rfl, ?_⟩) (by assumption) ?_
      rotate_left
      focus (intro w hSw; (try dsimp only at hSw); go_simp; first | done | with_reducible rfl)
      try go_simp
      refine wpAnyH_take (i := 14) (v := ?_) rfl (by kernel_rfl) (by kernel_rfl) (by kernel_rfl) (fun _ _ _ h => h) (Or.inl ⟨by rfl, ?_⟩) (by assumption) ?_
      rotate_left
      focus (intro w hSw; (try dsimp only at hSw); go_simp; first | done | with_reducible rfl)
      try go_simp
      refine wpAnyH_take (i := 15) (v := ?_) rfl (by kernel_rfl) (by kernel_rfl) (by kernel_rfl) (fun _ _ _ h => h) (Or.inl ⟨by rfl, ?_⟩) (by assumption) ?_
      rotate_left
      focus (intro w hSw; (try dsimp only at hSw); go_simp; first | done | with_reducible rfl)
      try go_simp
      refine wpAnyH_done (by kernel_rfl) ?_ _
      clear hHeld
      go_wp2_with fail
      go_meet
      exact ⟨_, z1, z2, z3, k1, k2, k3, rfl, rfl, rfl, rfl, hlo10, N13.put3 _ _ _, (OwnSt.putA a13 N12.lt C12.size _ _ _), low3' C13 hlo10 _ _ _⟩
    exact AllReadyH.nil
  case rest =>
    obtain ⟨w8, z1, z2, z3, q1, q2, q3, rfl, rfl, rfl, rfl, hw8, P8, O3, C8⟩ := hcut
    have HL3 : Hid ((∀ k, (Value.slice z1 P.length q1).ownBlock = some k → k < wc.heap.size) ∧ (∀ k, (Value.slice z2 Q.length q2).ownBlock = some k → k < wc.heap.size) ∧ (∀ k, (Value.slice z3 R.length q3).ownBlock = some k → k < wc.heap.size) ∧ w8 < wc.heap.size) := ⟨fun k hk => (O3.l.lt k hk).2, fun k hk => (O3.m.lt k hk).2, fun k hk => (O3.t.lt k hk).2, P8.lt⟩
    go_wp2_with fail
    refine (toSteps_any a ac xs _ HX.out.1 HX.out.2 (HK.out _ (HP.out _ C8).2).1.1).mono ?_
    rintro e X9 ⟨v9, y9, rfl, O4, hy9, hb9⟩
    have C9 := bstep C8 C8.size hb9
    have HC4 : Hid ((∀ k, v9.ownBlock = some k → k < X9.heap.size) ∧ ∀ y ∈ y9, ∀ k, y.2.ownBlock = some k → k < X9.heap.size) := ⟨fun k hk => (O4.1.lt k hk).2, fun y hy k hk => ((O4.2.1 y hy).1.lt k hk).2⟩
    have O3 := O3.below hb9
    have P8 := P8.below hb9
    obtain ⟨x9, d9, hv9, hs9⟩ := O4.row
    subst hv9
    rw [hy9] at hs9
    have hn9 : y9.length = xs.length := by rw [← hy9]; simp
    have HY9 := hid (And.intro hy9 hn9)
    rw [hy9]
    rw [hy9] at O4 HC4
    have HSZ9 : Hid (X0.heap.size ≤ wc.heap.size ∧ wc.heap.size ≤ X9.heap.size) := ⟨C8.size, hb9.size⟩
    obtain ⟨⟨s0, s1, s2⟩, _⟩ := HP.out _ C9
    have HP8 := hid P8
    clear hb9 hy9 hn9 P8
    go_wp2_with fail
    refine (HC.out _ C9).mono ?_
    rintro e X10 ⟨m1, m2, m3, k1, k2, k3, rfl, O5, hb10⟩
    have b11 := below1 X10 (.cells #[.slice m1 L.length k1, .slice m2 M.length k2, .slice m3 T.length k3] 28)
    have C10 := bstep C9 C9.size hb10
    have C11 := bstep C10 C10.size b11
    have P11 := Box3.new X10 (.slice m1 L.length k1) (.slice m2 M.length k2) (.slice m3 T.length k3) 28
    have HC5 : Hid ((∀ g, (Value.slice m1 L.length k1).ownBlock = some g → g < X10.heap.size) ∧ (∀ g, (Value.slice m2 M.length k2).ownBlock = some g → g < X10.heap.size) ∧ (∀ g, (Value.slice m3 T.length k3).ownBlock = some g → g < X10.heap.size)) := ⟨fun g hg => (O5.l.lt g hg).2, fun g hg => (O5.m.lt g hg).2, fun g hg => (O5.t.lt g hg).2⟩
    have HSZ10 : Hid (X9.heap.size ≤ X10.heap.size ∧ X10.heap.size < (X10.alloc (.cells #[.slice m1 L.length k1, .slice m2 M.length k2, .slice m3 T.length k3] 28)).heap.size) := ⟨hb10.size, by simp⟩
    have HQ : Hid (∀ X, Below (X10.alloc (.cells #[.slice m1 L.length k1, .slice m2 M.length k2, .slice m3 T.length k3] 28)).heap.size (X10.alloc (.cells #[.slice m1 L.length k1, .slice m2 M.length k2, .slice m3 T.length k3] 28)) X → Box3 X X10.heap.size (.slice m1 L.length k1) (.slice m2 M.length k2) (.slice m3 T.length k3) ∧ Below X0.heap.size X0 X ∧ TRow X x9 xs ∧ OwnSt X X9.heap.size (.slice m1 L.length k1) (.slice m2 M.length k2) (.slice m3 T.length k3) L M T ∧ OwnSt X X0.heap.size (.slice z1 P.length q1) (.slice z2 Q.length q2) (.slice z3 R.length q3) P Q R ∧ OwnS X wc.heap.size (.slice x9 xs.length d9) y9 ∧ Box3 X w8 (.slice z1 P.length q1) (.slice z2 Q.length q2) (.slice z3 R.length q3)) := fun X hb => ⟨P11.below hb, bstep C11 C11.size hb, ((hs9.below hb10).below b11).below hb, (O5.below b11).below hb, ((O3.below hb10).below b11).below hb, ((O4.below hb10).below b11).below hb, ((HP8.out.below hb10).below b11).below hb⟩
    clear s0 s1 s2 hb10 b11 hs9 O5 O3 O4 P11 C11 C10 HP8
    go_wp2_with fail
    generalize (X10.alloc (.cells #[.slice m1 L.length k1, .slice m2 M.length k2, .slice m3 T.length k3] 28)) = X11 at HQ HSZ10 ⊢
    obtain ⟨⟨p0, p1, p2⟩, C11, t9, o5, _, _, _⟩ := HQ.out _ (Below.refl _ _)
    obtain ⟨sb, hsb⟩ : ∃ sb, X10.heap.size = sb := ⟨_, rfl⟩
    rw [hsb] at HQ HSZ10 HC5 p0 p1 p2 ⊢
    clear hsb
    refine (HIP.out X11 x9 d9 m1 m2 m3 k1 k2 k3 (HP.out _ C11).2 t9 o5.row).mono ?_
    rintro e X12 ⟨⟨g1, g2, g3, j1, j2, j3, rfl, O6⟩, hb12⟩
    have HC6 : Hid ((∀ g, (Value.slice g1 P.length j1).ownBlock = some g → g < X12.heap.size) ∧ (∀ g, (Value.slice g2 Q.length j2).ownBlock = some g → g < X12.heap.size) ∧ (∀ g, (Value.slice g3 R.length j3).ownBlock = some g → g < X12.heap.size)) := ⟨fun g hg => (O6.l.lt g hg).2, fun g hg => (O6.m.lt g hg).2, fun g hg => (O6.t.lt g hg).2⟩
    have b13 := below1 X12 (.cells #[.slice g1 P.length j1, .slice g2 Q.length j2, .slice g3 R.length j3] 28)
    have PG := Box3.new X12 (.slice g1 P.length j1) (.slice g2 Q.length j2) (.slice g3 R.length j3) 28
    have HSZ12 : Hid (X11.heap.size ≤ X12.heap.size) := hb12.size
    have HZ : Hid (∀ X, Below (X12.alloc (.cells #[.slice g1 P.length j1, .slice g2 Q.length j2, .slice g3 R.length j3] 28)).heap.size (X12.alloc (.cells #[.slice g1 P.length j1, .slice g2 Q.length j2, .slice g3 R.length j3] 28)) X → Below X11.heap.size X11 X ∧ Box3 X X12.heap.size (.slice g1 P.length j1) (.slice g2 Q.length j2) (.slice g3 R.length j3) ∧ OwnSt X X11.heap.size (.slice g1 P.length j1) (.slice g2 Q.length j2) (.slice g3 R.length j3) P Q R ∧ X12.heap.size < X.heap.size) := fun X hb => ⟨bstep (bstep hb12 hb12.size b13) (Nat.le_trans hb12.size b13.size) hb, PG.below hb, (O6.below b13).below hb, (PG.below hb).lt⟩
    obtain ⟨D13, PG13, _, _⟩ := HZ.out _ (Below.refl _ _)
    obtain ⟨_, _, _, _, _, _, P813⟩ := HQ.out _ D13
    obtain ⟨p0', p1', p2'⟩ := PG13
    obtain ⟨r0, r1, r2⟩ := P813
    clear p0 p1 p2 hb12 b13 PG O6 D13
    have HES : Hid (∀ X e1 e2 e3 f1 f2 f3, SRow X e1 e2 e3 P Q R → SRow X z1 z2 z3 P Q R → Calls Tryd.prog 12 #[.agg #[.slice e1 P.length f1, .slice e2 Q.length f2, .slice e3 R.length f3], .agg #[.slice z1 P.length q1, .slice z2 Q.length q2, .slice z3 R.length q3]] X fun e w' => e = .returned (.bool true) ∧ Below X.heap.size X w') := fun X e1 e2 e3 f1 f2 f3 h1 h2 => eqState_same e1 e2 e3 z1 z2 z3 f1 f2 f3 q1 q2 q3 P Q R X (by omega) (by omega) (by omega) h1 h2
    go_wp2_with fail
    generalize (X12.alloc (.cells #[.slice g1 P.length j1, .slice g2 Q.length j2, .slice g3 R.length j3] 28)) = X13 at HZ p0' p1' p2' r0 r1 r2 ⊢
    obtain ⟨gb, hgb⟩ : ∃ gb, X12.heap.size = gb := ⟨_, rfl⟩
    rw [hgb] at HZ HC6 HSZ12 p0' p1' p2' ⊢
    clear hgb
    obtain ⟨D13, _, og, _⟩ := HZ.out _ (Below.refl _ _)
    obtain ⟨_, C13, _, _, ow, _, _⟩ := HQ.out _ D13
    refine (HES.out _ _ _ _ _ _ _ og.row ow.row).mono ?_
    rintro e X14 ⟨rfl, hb14⟩
    have E14 := hb14
    obtain ⟨D14, _, _, _⟩ := HZ.out _ E14
    obtain ⟨_, C14, t9, _, _, _, _⟩ := HQ.out _ D14
    clear p0' p1' p2' r0 r1 r2 hb14
    go_wp2_with fail
    refine (HA.out _ C14).mono ?_
    rintro e X15 ⟨⟨x15, d15, rfl, t15⟩, hb15⟩
    have E15 := bstep E14 E14.size hb15
    obtain ⟨D15, _, _, _⟩ := HZ.out _ E15
    obtain ⟨_, C15, t9, _, _, _, _⟩ := HQ.out _ D15
    clear hb15
    go_wp2_with fail
    refine (eqSteps_same x9 x15 d9 d15 xs _ (by have := HX.out.1; omega) t9 t15).mono ?_
    rintro e X16 ⟨rfl, hb16⟩
    have E16 := bstep E15 E15.size hb16
    have E17 := E16.drew
    clear hb16
    go_wp2_with fail
    have HS : Hid (∀ X', Below X13.heap.size X13 X' → (X'.cell? ⟨sb, 0, none⟩ = some (.slice m1 L.length k1) ∧ X'.cell? ⟨sb, 1, none⟩ = some (.slice m2 M.length k2) ∧ X'.cell? ⟨sb, 2, none⟩ = some (.slice m3 T.length k3)) ∧ X'.cell? ⟨w.heap.size, 0, none⟩ = some (.slice a1 L.length c1) ∧ X'.cell? ⟨w.heap.size, 1, none⟩ = some (.slice a2 M.length c2) ∧ X'.cell? ⟨w.heap.size, 2, none⟩ = some (.slice a3 T.length c3)) := fun X hb => ⟨(HQ.out _ (HZ.out _ hb).1).1, (HP.out _ (HQ.out _ (HZ.out _ hb).1).2.1).1⟩
    have HEQ3 : Hid (∀ X e1 e2 e3 f1 f2 f3, SRow X m1 m2 m3 L M T → SRow X e1 e2 e3 L M T → Calls Tryd.prog 12 #[.agg #[.slice m1 L.length k1, .slice m2 M.length k2, .slice m3 T.length k3], .agg #[.slice e1 L.length f1, .slice e2 M.length f2, .slice e3 T.length f3]] X fun e w' => e = .returned (.bool true) ∧ Below X.heap.size X w') := fun X e1 e2 e3 f1 f2 f3 h1 h2 => eqState_same m1 m2 m3 e1 e2 e3 k1 k2 k3 f1 f2 f3 L M T X (by have := HL.out.1; omega) (by have := HL.out.2.1; omega) (by have := HL.out.2.2; omega) h1 h2
    refine wp_region_held_drew (S := fun X' => (X'.cell? ⟨sb, 0, none⟩ = some (.slice m1 L.length k1) ∧ X'.cell? ⟨sb, 1, none⟩ = some (.slice m2 M.length k2) ∧ X'.cell? ⟨sb, 2, none⟩ = some (.slice m3 T.length k3)) ∧ X'.cell? ⟨w.heap.size, 0, none⟩ = some (.slice a1 L.length c1) ∧ X'.cell? ⟨w.heap.size, 1, none⟩ = some (.slice a2 M.length c2) ∧ X'.cell? ⟨w.heap.size, 2, none⟩ = some (.slice a3 T.length c3)) (by kernel_rfl) (HS.out _ E17) (fun hHeld => ?_)
    refine wpAnyH_take (i := 0) (v := ?_) rfl (by kernel_rfl) (by kernel_rfl) (by kernel_rfl) (fun _ _ _ h => h) (Or.inl ⟨by rfl, ?_⟩) (by assumption) ?_
    rotate_left
    focus (intro w hSw; (try dsimp only at hSw); go_simp; first | done | with_reducible rfl)
    try go_simp
    refine wpAnyH_take (i := 1) (v := ?_) rfl (by kernel_rfl) (by kernel_rfl) (by kernel_rfl) (fun _ _ _ h => h) (Or.inl ⟨by rfl, ?_⟩) (by assumption) ?_
    rotate_left
    focus (intro w hSw; (try dsimp only at hSw); go_simp; first | done | with_reducible rfl)
    try go_simp
    refine wpAnyH_ready (rs := [2]) (by kernel_rfl) (by simp) ?_
    refine AllReadyH.cons rfl (fun K hK => ?_) AllReadyH.nil
    go_simp
    go_wp2_with (go_at_call 10; refine (HC.out _ (HQ.out _ (HZ.out _ E17).1).2.1).mono ?_; rintro e X18 ⟨e1, e2, e3, f1, f2, f3, rfl, t18, hb18⟩)
    have E18 := bstep E17 E17.size hb18
    refine hK.out _ _ (HS.out _ E18) (fun hHeld => ?_)
    clear hK K
    try go_simp
    refine wpAnyH_ready (rs := [3]) (by kernel_rfl) (by simp) ?_
    refine AllReadyH.cons rfl (fun K hK => ?_) AllReadyH.nil
    go_simp
    go_wp2_with (go_at_call 12; refine (HEQ3.out _ _ _ _ _ _ _ (HQ.out _ (HZ.out _ E18).1).2.2.2.1.row t18.row).mono ?_; rintro e X19 ⟨rfl, hb19⟩)
    have E19 := bstep E18 E18.size hb19
    refine hK.out _ _ (HS.out _ E19) (fun hHeld => ?_)
    clear hK K
    try go_simp
    refine wpAnyH_take (i := 4) (v := ?_) rfl (by kernel_rfl) (by kernel_rfl) (by kernel_rfl) (fun _ _ _ h => h) (Or.inl ⟨by rfl, ?_⟩) (by assumption) ?_
    rotate_left
    focus (intro w hSw; (try dsimp only at hSw); go_simp; first | done | with_reducible rfl)
    try go_simp
    refine wpAnyH_done (by kernel_rfl) ?_ _
    obtain ⟨D19, PG19, og, lg⟩ := HZ.out _ E19
    obtain ⟨P19, C19, _, o5, ow, o4, P8⟩ := HQ.out _ D19
    clear hHeld hb18 hb19 t18
    -- the marks
    go_wp2_with fail
    refine (markSteps_any wc.heap.size X9.heap.size _ y9 _ o4 (by rw [HY9.out.2]; exact HX.out.1) (by rw [HY9.out.1]; exact HX.out.2) HC4.out.1 HC4.out.2).mono ?_
    rintro e X20 ⟨y20, rfl, _, _, t20⟩
    have hz1 := HSZ9.out
    have hz2 := HSZ10.out
    have hz3 : X11.heap.size ≤ gb := HSZ12.out
    have hz4 := HL3.out
    have C20 : Below X0.heap.size X0 X20 := t20.below C19 hz1.1
    have P20 := P19.touch t20 (.inr hz2.1)
    have PG20 := PG19.touch t20 (.inr (by omega))
    have P8 := P8.touch t20 (.inl hz4.2.2.2)
    have o5 := o5.touch t20
    have og := og.touch' t20 (.inr (by omega))
    have ow : OwnSt X20 X0.heap.size (.slice z1 P.length q1) (.slice z2 Q.length q2) (.slice z3 R.length q3) P Q R := ⟨owns_touch ow.l t20 (fun k hk => .inl (hz4.1 k hk)), owns_touch ow.m t20 (fun k hk => .inl (hz4.2.1 k hk)), owns_touch ow.t t20 (fun k hk => .inl (hz4.2.2.1 k hk)), ow.lm, ow.lt, ow.mt⟩
    have hk20 : 0 ≤ (1 + 2 * (y9.length : Int) + (sumT (y9.map (·.1)) : Int)) ∧ (1 + 2 * (y9.length : Int) + (sumT (y9.map (·.1)) : Int)) ≤ 6000000 := by
      have q1 := HY9.out
      have q2 := HX.out
      rw [q1.1]
      omega
    generalize (1 + 2 * (y9.length : Int) + (sumT (y9.map (·.1)) : Int)) = K20 at hk20 ⊢
    have hsz20 : sb ≤ X20.heap.size := by have := D19.size; have := t20.size; omega
    have lg : gb < X20.heap.size := by have := t20.size; omega
    obtain ⟨p0, p1, p2⟩ := P20
    clear t20 o4 P19 PG19 hz1 hz2 hz3 hz4
    have HPG := hid (And.intro PG20 P8)
    clear PG20 P8
    go_wp2_with fail
    refine (markState_gen X9.heap.size sb K20 hk20.1 hk20.2 m1 m2 m3 k1 k2 k3 L M T _ HL.out.1 HL.out.2.1 HL.out.2.2 o5 hsz20 HC5.out.1 HC5.out.2.1 HC5.out.2.2).mono ?_
    rintro e X21 ⟨rfl, _, t21⟩
    have hz1 := HSZ9.out
    have hz2 := HSZ10.out
    have hz3 : X11.heap.size ≤ gb := HSZ12.out
    have hz4 := HL3.out
    have C21 : Below X0.heap.size X0 X21 := t21.below C20 (by omega)
    obtain ⟨PG, P8⟩ := HPG.out
    have PG := PG.touch t21 (.inr (by omega))
    have P8 := P8.touch t21 (.inl (by omega))
    have og := og.touch' t21 (.inr (by omega))
    have ow : OwnSt X21 X0.heap.size (.slice z1 P.length q1) (.slice z2 Q.length q2) (.slice z3 R.length q3) P Q R := ⟨owns_touch ow.l t21 (fun k hk => .inl (by have := hz4.1 k hk; omega)), owns_touch ow.m t21 (fun k hk => .inl (by have := hz4.2.1 k hk; omega)), owns_touch ow.t t21 (fun k hk => .inl (by have := hz4.2.2.1 k hk; omega)), ow.lm, ow.lt, ow.mt⟩
    have hk21 : ¬ (K20 + (L.length : Int) + (M.length : Int) + (T.length : Int)) < 0 := by omega
    generalize (K20 + (L.length : Int) + (M.length : Int) + (T.length : Int)) = K21 at hk21 ⊢
    have lg : gb < X21.heap.size := by have := t21.size; omega
    clear t21 hk20 hsz20 p0 p1 p2 hz1 hz2 hz3 hz4 o5 HPG
    have HPG := hid (And.intro PG P8)
    obtain ⟨p0, p1, p2⟩ := PG
    obtain ⟨r0, r1, r2⟩ := P8
    go_wp2_with fail
    refine (HES.out _ _ _ _ _ _ _ og.row ow.row).mono ?_
    rintro e X22 ⟨rfl, hb22⟩
    have C22 := bstep C21 C21.size hb22
    have og := og.below hb22
    have ow := ow.below hb22
    have HPG2 := hid (And.intro (HPG.out.1.below hb22) (HPG.out.2.below hb22))
    have lg : gb ≤ X22.heap.size := by have := hb22.size; omega
    clear p0 p1 p2 r0 r1 r2 hb22 HPG
    obtain ⟨p0, p1, p2⟩ := HPG2.out.1
    go_wp2_with fail
    refine (markState_any X11.heap.size gb g1 g2 g3 j1 j2 j3 P Q R _ (by omega) (by omega) (by omega) og lg HC6.out.1 HC6.out.2.1 HC6.out.2.2).mono ?_
    rintro e X23 ⟨rfl, rm, t23⟩
    have hz1 := HSZ9.out
    have hz2 := HSZ10.out
    have hz3 : X11.heap.size ≤ gb := HSZ12.out
    have hz4 := HL3.out
    have C23 : Below X0.heap.size X0 X23 := t23.below C22 (by omega)
    have PG := HPG2.out.1.touch t23 (.inr (Nat.le_refl _))
    have P8 := HPG2.out.2.touch t23 (.inl (by omega))
    have ow : OwnSt X23 X0.heap.size (.slice z1 P.length q1) (.slice z2 Q.length q2) (.slice z3 R.length q3) P Q R := ⟨owns_touch ow.l t23 (fun k hk => .inl (by have := hz4.1 k hk; omega)), owns_touch ow.m t23 (fun k hk => .inl (by have := hz4.2.1 k hk; omega)), owns_touch ow.t t23 (fun k hk => .inl (by have := hz4.2.2.1 k hk; omega)), ow.lm, ow.lt, ow.mt⟩
    clear t23 hz1 hz2 hz3 hz4 og p0 p1 p2 HPG2
    have HHD : Hid (∀ X, SRow X g1 g2 g3 (marks 1 P.length) (marks (1 + P.length) Q.length) (marks (1 + P.length + Q.length) R.length) → Calls Tryd.prog 16 #[.agg #[.slice g1 P.length j1, .slice g2 Q.length j2, .slice g3 R.length j3], .int .i64 1] X fun e w' => e = .returned (.int .i64 (1 + P.length + Q.length + R.length)) ∧ Below X.heap.size X w') := fun X h => heldState_any g1 g2 g3 j1 j2 j3 P.length Q.length R.length X (by omega) (by omega) (by omega) h
    have HPG := hid (And.intro PG P8)
    obtain ⟨p0, p1, p2⟩ := PG
    clear P8
    have hkm : ¬ (1 + (P.length : Int) + (Q.length : Int) + (R.length : Int)) < 0 := by omega
    generalize (1 + (P.length : Int) + (Q.length : Int) + (R.length : Int)) = KM at hkm HHD ⊢
    go_wp2_with fail
    refine (HHD.out _ rm).mono ?_
    rintro e X24 ⟨rfl, hb24⟩
    have C24 := bstep C23 C23.size hb24
    have rm := rm.below hb24
    have ow := ow.below hb24
    have HPG2 := hid (And.intro (HPG.out.1.below hb24) (HPG.out.2.below hb24))
    have tk : (KM != KM) = false := by simp
    clear p0 p1 p2 hb24 HPG
    go_wp2_with fail
    have HW := hid (And.intro rm (And.intro ow HPG2.out))
    clear rm ow HPG2
    go_cut [21, 22, 23, 24] from 128 (fun t8 t9 t10 t11 wc' => ∃ (wb : Nat) (z1 z2 z3 : Option Addr) (k1 k2 k3 : Nat), t8 = .pointer (some ⟨wb, 0, none⟩) ∧ t9 = .int .i64 hw ∧ t10 = .int .i64 cn ∧ t11 = .bool G ∧ X0.heap.size ≤ wb ∧ Box3 wc' wb (.slice z1 P.length k1) (.slice z2 Q.length k2) (.slice z3 R.length k3) ∧ OwnSt wc' X0.heap.size (.slice z1 P.length k1) (.slice z2 Q.length k2) (.slice z3 R.length k3) P Q R ∧ Below X0.heap.size X0 wc' ∧ Below X24.heap.size X24 wc')
    case first =>
      have C25 := C24.drew
      have D25 : Below X24.heap.size X24 X24.drew := (Below.refl _ _).drew
      refine wp_region_held_drew (S := fun X' => X'.cell? ⟨w.heap.size, 0, none⟩ = some (.slice a1 L.length c1) ∧ X'.cell? ⟨w.heap.size, 1, none⟩ = some (.slice a2 M.length c2) ∧ X'.cell? ⟨w.heap.size, 2, none⟩ = some (.slice a3 T.length c3)) (by kernel_rfl) (HP.out _ C25).1 (fun hHeld => ?_)
      obtain ⟨V0, hV0⟩ : ∃ V0, X24.drew = V0 := ⟨_, rfl⟩
      rw [hV0] at C25 D25 hHeld ⊢
      clear hV0
      refine wpAnyH_take (i := 0) (v := ?_) rfl (by kernel_rfl) (by kernel_rfl) (by kernel_rfl) (fun _ _ _ h => h) (Or.inl ⟨by rfl, ?_⟩) (by assumption) ?_
      rotate_left
      focus (intro w hSw; (try dsimp only at hSw); go_simp; first | done | with_reducible rfl)
      try go_simp
      refine wpAnyH_take (i := 2) (v := ?_) rfl (by kernel_rfl) (by kernel_rfl) (by kernel_rfl) (fun _ _ _ h => h) (Or.inl ⟨by rfl, ?_⟩) (by assumption) ?_
      rotate_left
      focus (intro w hSw; (try dsimp only at hSw); go_simp; first | done | with_reducible rfl)
      try go_simp
      refine wpAnyH_take (i := 4) (v := ?_) rfl (by kernel_rfl) (by kernel_rfl) (by kernel_rfl) (fun _ _ _ h => h) (Or.inl ⟨by rfl, ?_⟩) (by assumption) ?_
      rotate_left
      focus (intro w hSw; (try dsimp only at hSw); go_simp; first | done | with_reducible rfl)
      try go_simp
      refine wpAnyH_ready (rs := [1, 11]) (by kernel_rfl) (by simp) ?_
      refine AllReadyH.cons rfl (fun K hK => ?_) ?_
      · go_simp
        go_wp2_with (go_at_call 9; refine (HA.out _ C25).mono ?_; rintro e V1 ⟨⟨xa1, xd1, rfl, t1⟩, b1⟩)
        have C1 := bstep C25 C25.size b1
        have D1 := bstep D25 D25.size b1
        refine hK.out _ _ (HP.out _ C1).1 (fun hHeld => ?_)
        clear hK K
        try go_simp
        refine wpAnyH_ready (rs := [3, 11]) (by kernel_rfl) (by simp) ?_
        refine AllReadyH.cons rfl (fun K hK => ?_) ?_
        · go_simp
          go_wp2_with (go_at_call 10; refine (HC.out _ C1).mono ?_; rintro e V2 ⟨ya2, yb2, yc2, yd2, ye2, yf2, rfl, s2, b2⟩)
          have C2 := bstep C1 C1.size b2
          have D2 := bstep D1 D1.size b2
          have t2 := t1.below b2
          refine hK.out _ _ (HP.out _ C2).1 (fun hHeld => ?_)
          clear hK K
          try go_simp
          refine wpAnyH_ready (rs := [5, 11]) (by kernel_rfl) (by simp) ?_
          refine AllReadyH.cons rfl (fun K hK => ?_) ?_
          · go_simp
            go_wp2_with (go_at_call 11; refine (HIP.out _ _ _ _ _ _ _ _ _ (HP.out _ C2).2 t2 s2.row).mono ?_; rintro e V3 ⟨⟨z1, z2, z3, k1, k2, k3, rfl, a3⟩, b3⟩)
            have C3 := bstep C2 C2.size b3
            have D3 := bstep D2 D2.size b3
            have t3 := t2.below b3
            have s3 := s2.below b3
            refine hK.out _ _ (HP.out _ C3).1 (fun hHeld => ?_)
            clear hK K
            try go_simp
            refine wpAnyH_take (i := 6) (v := ?_) rfl (by kernel_rfl) (by kernel_rfl) (by kernel_rfl) (fun _ _ _ h => h) (Or.inl ⟨by rfl, ?_⟩) (by assumption) ?_
            rotate_left
            focus (intro w hSw; (try dsimp only at hSw); go_simp; first | done | with_reducible rfl)
            try go_simp
            refine wpAnyH_take (i := 7) (v := ?_) rfl (by kernel_rfl) (by kernel_rfl) (by kernel_rfl) (fun _ _ _ h => h) (Or.inl ⟨by rfl, ?_⟩) (by assumption) ?_
            rotate_left
            focus (intro w hSw; (try dsimp only at hSw); go_simp; first | done | with_reducible rfl)
            try go_simp
            refine wpAnyH_take (i := 8) (v := ?_) rfl (by kernel_rfl) (by kernel_rfl) (by kernel_rfl) (fun _ _ _ h => h) (Or.inl ⟨by rfl, ?_⟩) (by assumption) ?_
            rotate_left
            focus (intro w hSw; (try dsimp only at hSw); go_simp; first | done | with_reducible rfl)
            try go_simp
            refine wpAnyH_take (i := 9) (v := ?_) rfl (by kernel_rfl) (by kernel_rfl) (by kernel_rfl) (fun _ _ _ h => h) (Or.inl ⟨by rfl, ?_⟩) (by assumption) ?_
            rotate_left
            focus (intro w hSw; (try dsimp only at hSw); go_simp; first | done | with_reducible rfl)
            try go_simp
            refine wpAnyH_take (i := 10) (v := ?_) rfl (by kernel_rfl) (by kernel_rfl) (by kernel_rfl) (fun _ _ _ h => h) (Or.inl ⟨by rfl, ?_⟩) (by assumption) ?_
            rotate_left
            focus (intro w hSw; (try dsimp only at hSw); go_simp; first | done | with_reducible rfl)
            try go_simp
            refine wpAnyH_ready (rs := [11]) (by kernel_rfl) (by simp) ?_
            refine AllReadyH.cons rfl (fun K hK => ?_) AllReadyH.nil
            go_simp
            have b4 := below1 V3 (.cells #[.slice none 0 0, .slice none 0 0, .slice none 0 0] 28)
            have N4 := Bw.new V3 28
            obtain ⟨V4, e4⟩ : ∃ V4, World.alloc V3 (.cells #[.slice none 0 0, .slice none 0 0, .slice none 0 0] 28) = V4 := ⟨_, rfl⟩
            have hlo4 : X0.heap.size ≤ V3.heap.size := C3.size
            rw [e4] at b4 N4 ⊢
            have C4 := bstep C3 C3.size b4
            have hlD4 := D3.size
            have D4 := bstep D3 D3.size b4
            have t4 := t3.below b4
            have s4 := s3.below b4
            refine hK.out _ _ (HP.out _ C4).1 (fun hHeld => ?_)
            clear hK K
            try go_simp
            obtain ⟨n0, n1, n2, f0, f1, f2, nl⟩ := N4.all
            have hne : ¬ V3.heap.size = w.heap.size := by omega
            have hne' : ¬ w.heap.size = V3.heap.size := by omega
            refine wpAnyH_ready (rs := [12]) (by kernel_rfl) (by simp) ?_
            refine AllReadyH.cons rfl (fun K hK => ?_) AllReadyH.nil
            go_simp
            refine hK.out _ _ (by go_keep) (fun hHeld => ?_)
            clear hK K
            refine wpAnyH_take (i := 13) (v := ?_) rfl (by kernel_rfl) (by kernel_rfl) (by kernel_rfl) (fun _ _ _ h => h) (Or.inl ⟨by rfl, ?_⟩) (by assumption) ?_
            rotate_left
            focus (intro w hSw; (try dsimp only at hSw); go_simp; first | done | with_reducible rfl)
            try go_simp
            refine wpAnyH_take (i := 14) (v := ?_) rfl (by kernel_rfl) (by kernel_rfl) (by kernel_rfl) (fun _ _ _ h => h) (Or.inl ⟨by rfl, ?_⟩) (by assumption) ?_
            rotate_left
            focus (intro w hSw; (try dsimp only at hSw); go_simp; first | done | with_reducible rfl)
            try go_simp
            refine wpAnyH_take (i := 15) (v := ?_) rfl (by kernel_rfl) (by kernel_rfl) (by kernel_rfl) (fun _ _ _ h => h) (Or.inl ⟨by rfl, ?_⟩) (by assumption) ?_
            rotate_left
            focus (intro w hSw; (try dsimp only at hSw); go_simp; first | done | with_reducible rfl)
            try go_simp
            refine wpAnyH_done (by kernel_rfl) ?_ _
            clear hHeld
            go_wp2_with fail
            go_meet
            exact ⟨_, z1, z2, z3, k1, k2, k3, rfl, rfl, rfl, rfl, hlo4, N4.put3 _ _ _, (OwnSt.putB a3 b4 (Nat.le_refl _) C2.size _ _ _), low3' C4 hlo4 _ _ _, low3' D4 hlD4 _ _ _⟩
          refine AllReadyH.cons rfl (fun K hK => ?_) ?_
          · go_simp
            have b5 := below1 V2 (.cells #[.slice none 0 0, .slice none 0 0, .slice none 0 0] 28)
            have N5 := Bw.new V2 28
            obtain ⟨V5, e5⟩ : ∃ V5, World.alloc V2 (.cells #[.slice none 0 0, .slice none 0 0, .slice none 0 0] 28) = V5 := ⟨_, rfl⟩
            have hlo5 : X0.heap.size ≤ V2.heap.size := C2.size
            rw [e5] at b5 N5 ⊢
            have C5 := bstep C2 C2.size b5
            have hlD5 := D2.size
            have D5 := bstep D2 D2.size b5
            have t5 := t2.below b5
            have s5 := s2.below b5
            refine hK.out _ _ (HP.out _ C5).1 (fun hHeld => ?_)
            clear hK K
            try go_simp
            refine wpAnyH_ready (rs := [5]) (by kernel_rfl) (by simp) ?_
            refine AllReadyH.cons rfl (fun K hK => ?_) AllReadyH.nil
            go_simp
            go_wp2_with (go_at_call 11; refine (HIP.out _ _ _ _ _ _ _ _ _ (HP.out _ C5).2 t5 s5.row).mono ?_; rintro e V6 ⟨⟨z1, z2, z3, k1, k2, k3, rfl, a6⟩, b6⟩)
            have C6 := bstep C5 C5.size b6
            have D6 := bstep D5 D5.size b6
            have t6 := t5.below b6
            have s6 := s5.below b6
            have N6 := N5.below b6
            refine hK.out _ _ (HP.out _ C6).1 (fun hHeld => ?_)
            clear hK K
            try go_simp
            refine wpAnyH_take (i := 6) (v := ?_) rfl (by kernel_rfl) (by kernel_rfl) (by kernel_rfl) (fun _ _ _ h => h) (Or.inl ⟨by rfl, ?_⟩) (by assumption) ?_
            rotate_left
            focus (intro w hSw; (try dsimp only at hSw); go_simp; first | done | with_reducible rfl)
            try go_simp
            refine wpAnyH_take (i := 7) (v := ?_) rfl (by kernel_rfl) (by kernel_rfl) (by kernel_rfl) (fun _ _ _ h => h) (Or.inl ⟨by rfl, ?_⟩) (by assumption) ?_
            rotate_left
            focus (intro w hSw; (try dsimp only at hSw); go_simp; first | done | with_reducible rfl)
            try go_simp
            refine wpAnyH_take (i := 8) (v := ?_) rfl (by kernel_rfl) (by kernel_rfl) (by kernel_rfl) (fun _ _ _ h => h) (Or.inl ⟨by rfl, ?_⟩) (by assumption) ?_
            rotate_left
            focus (intro w hSw; (try dsimp only at hSw); go_simp; first | done | with_reducible rfl)
            try go_simp
            refine wpAnyH_take (i := 9) (v := ?_) rfl (by kernel_rfl) (by kernel_rfl) (by kernel_rfl) (fun _ _ _ h => h) (Or.inl ⟨by rfl, ?_⟩) (by assumption) ?_
            rotate_left
            focus (intro w hSw; (try dsimp only at hSw); go_simp; first | done | with_reducible rfl)
            try go_simp
            refine wpAnyH_take (i := 10) (v := ?_) rfl (by kernel_rfl) (by kernel_rfl) (by kernel_rfl) (fun _ _ _ h => h) (Or.inl ⟨by rfl, ?_⟩) (by assumption) ?_
            rotate_left
            focus (intro w hSw; (try dsimp only at hSw); go_simp; first | done | with_reducible rfl)
            try go_simp
            obtain ⟨n0, n1, n2, f0, f1, f2, nl⟩ := N6.all
            have hne : ¬ V2.heap.size = w.heap.size := by omega
            have hne' : ¬ w.heap.size = V2.heap.size := by omega
            refine wpAnyH_ready (rs := [12]) (by kernel_rfl) (by simp) ?_
            refine AllReadyH.cons rfl (fun K hK => ?_) AllReadyH.nil
            go_simp
            refine hK.out _ _ (by go_keep) (fun hHeld => ?_)
            clear hK K
            refine wpAnyH_take (i := 13) (v := ?_) rfl (by kernel_rfl) (by kernel_rfl) (by kernel_rfl) (fun _ _ _ h => h) (Or.inl ⟨by rfl, ?_⟩) (by assumption) ?_
            rotate_left
            focus (intro w hSw; (try dsimp only at hSw); go_simp; first | done | with_reducible rfl)
            try go_simp
            refine wpAnyH_take (i := 14) (v := ?_) rfl (by kernel_rfl) (by kernel_rfl) (by kernel_rfl) (fun _ _ _ h => h) (Or.inl ⟨by rfl, ?_⟩) (by assumption) ?_
            rotate_left
            focus (intro w hSw; (try dsimp only at hSw); go_simp; first | done | with_reducible rfl)
            try go_simp
            refine wpAnyH_take (i := 15) (v := ?_) rfl (by kernel_rfl) (by kernel_rfl) (by kernel_rfl) (fun _ _ _ h => h) (Or.inl ⟨by rfl, ?_⟩) (by assumption) ?_
            rotate_left
            focus (intro w hSw; (try dsimp only at hSw); go_simp; first | done | with_reducible rfl)
            try go_simp
            refine wpAnyH_done (by kernel_rfl) ?_ _
            clear hHeld
            go_wp2_with fail
            go_meet
            exact ⟨_, z1, z2, z3, k1, k2, k3, rfl, rfl, rfl, rfl, hlo5, N6.put3 _ _ _, (OwnSt.putA a6 N5.lt C5.size _ _ _), low3' C6 hlo5 _ _ _, low3' D6 hlD5 _ _ _⟩
          exact AllReadyH.nil
        refine AllReadyH.cons rfl (fun K hK => ?_) ?_
        · go_simp
          have b7 := below1 V1 (.cells #[.slice none 0 0, .slice none 0 0, .slice none 0 0] 28)
          have N7 := Bw.new V1 28
          obtain ⟨V7, e7⟩ : ∃ V7, World.alloc V1 (.cells #[.slice none 0 0, .slice none 0 0, .slice none 0 0] 28) = V7 := ⟨_, rfl⟩
          have hlo7 : X0.heap.size ≤ V1.heap.size := C1.size
          rw [e7] at b7 N7 ⊢
          have C7 := bstep C1 C1.size b7
          have hlD7 := D1.size
          have D7 := bstep D1 D1.size b7
          have t7 := t1.below b7
          refine hK.out _ _ (HP.out _ C7).1 (fun hHeld => ?_)
          clear hK K
          try go_simp
          refine wpAnyH_ready (rs := [3]) (by kernel_rfl) (by simp) ?_
          refine AllReadyH.cons rfl (fun K hK => ?_) AllReadyH.nil
          go_simp
          go_wp2_with (go_at_call 10; refine (HC.out _ C7).mono ?_; rintro e V8 ⟨ya8, yb8, yc8, yd8, ye8, yf8, rfl, s8, b8⟩)
          have C8 := bstep C7 C7.size b8
          have D8 := bstep D7 D7.size b8
          have t8 := t7.below b8
          have N8 := N7.below b8
          refine hK.out _ _ (HP.out _ C8).1 (fun hHeld => ?_)
          clear hK K
          try go_simp
          refine wpAnyH_ready (rs := [5]) (by kernel_rfl) (by simp) ?_
          refine AllReadyH.cons rfl (fun K hK => ?_) AllReadyH.nil
          go_simp
          go_wp2_with (go_at_call 11; refine (HIP.out _ _ _ _ _ _ _ _ _ (HP.out _ C8).2 t8 s8.row).mono ?_; rintro e V9 ⟨⟨z1, z2, z3, k1, k2, k3, rfl, a9⟩, b9⟩)
          have C9 := bstep C8 C8.size b9
          have D9 := bstep D8 D8.size b9
          have t9 := t8.below b9
          have s9 := s8.below b9
          have N9 := N8.below b9
          refine hK.out _ _ (HP.out _ C9).1 (fun hHeld => ?_)
          clear hK K
          try go_simp
          refine wpAnyH_take (i := 6) (v := ?_) rfl (by kernel_rfl) (by kernel_rfl) (by kernel_rfl) (fun _ _ _ h => h) (Or.inl ⟨by rfl, ?_⟩) (by assumption) ?_
          rotate_left
          focus (intro w hSw; (try dsimp only at hSw); go_simp; first | done | with_reducible rfl)
          try go_simp
          refine wpAnyH_take (i := 7) (v := ?_) rfl (by kernel_rfl) (by kernel_rfl) (by kernel_rfl) (fun _ _ _ h => h) (Or.inl ⟨by rfl, ?_⟩) (by assumption) ?_
          rotate_left
          focus (intro w hSw; (try dsimp only at hSw); go_simp; first | done | with_reducible rfl)
          try go_simp
          refine wpAnyH_take (i := 8) (v := ?_) rfl (by kernel_rfl) (by kernel_rfl) (by kernel_rfl) (fun _ _ _ h => h) (Or.inl ⟨by rfl, ?_⟩) (by assumption) ?_
          rotate_left
          focus (intro w hSw; (try dsimp only at hSw); go_simp; first | done | with_reducible rfl)
          try go_simp
          refine wpAnyH_take (i := 9) (v := ?_) rfl (by kernel_rfl) (by kernel_rfl) (by kernel_rfl) (fun _ _ _ h => h) (Or.inl ⟨by rfl, ?_⟩) (by assumption) ?_
          rotate_left
          focus (intro w hSw; (try dsimp only at hSw); go_simp; first | done | with_reducible rfl)
          try go_simp
          refine wpAnyH_take (i := 10) (v := ?_) rfl (by kernel_rfl) (by kernel_rfl) (by kernel_rfl) (fun _ _ _ h => h) (Or.inl ⟨by rfl, ?_⟩) (by assumption) ?_
          rotate_left
          focus (intro w hSw; (try dsimp only at hSw); go_simp; first | done | with_reducible rfl)
          try go_simp
          obtain ⟨n0, n1, n2, f0, f1, f2, nl⟩ := N9.all
          have hne : ¬ V1.heap.size = w.heap.size := by omega
          have hne' : ¬ w.heap.size = V1.heap.size := by omega
          refine wpAnyH_ready (rs := [12]) (by kernel_rfl) (by simp) ?_
          refine AllReadyH.cons rfl (fun K hK => ?_) AllReadyH.nil
          go_simp
          refine hK.out _ _ (by go_keep) (fun hHeld => ?_)
          clear hK K
          refine wpAnyH_take (i := 13) (v := ?_) rfl (by kernel_rfl) (by kernel_rfl) (by kernel_rfl) (fun _ _ _ h => h) (Or.inl ⟨by rfl, ?_⟩) (by assumption) ?_
          rotate_left
          focus (intro w hSw; (try dsimp only at hSw); go_simp; first | done | with_reducible rfl)
          try go_simp
          refine wpAnyH_take (i := 14) (v := ?_) rfl (by kernel_rfl) (by kernel_rfl) (by kernel_rfl) (fun _ _ _ h => h) (Or.inl ⟨by rfl, ?_⟩) (by assumption) ?_
          rotate_left
          focus (intro w hSw; (try dsimp only at hSw); go_simp; first | done | with_reducible rfl)
          try go_simp
          refine wpAnyH_take (i := 15) (v := ?_) rfl (by kernel_rfl) (by kernel_rfl) (by kernel_rfl) (fun _ _ _ h => h) (Or.inl ⟨by rfl, ?_⟩) (by assumption) ?_
          rotate_left
          focus (intro w hSw; (try dsimp only at hSw); go_simp; first | done | with_reducible rfl)
          try go_simp
          refine wpAnyH_done (by kernel_rfl) ?_ _
          clear hHeld
          go_wp2_with fail
          go_meet
          exact ⟨_, z1, z2, z3, k1, k2, k3, rfl, rfl, rfl, rfl, hlo7, N9.put3 _ _ _, (OwnSt.putA a9 N8.lt C8.size _ _ _), low3' C9 hlo7 _ _ _, low3' D9 hlD7 _ _ _⟩
        exact AllReadyH.nil
      refine AllReadyH.cons rfl (fun K hK => ?_) ?_
      · go_simp
        have b10 := below1 V0 (.cells #[.slice none 0 0, .slice none 0 0, .slice none 0 0] 28)
        have N10 := Bw.new V0 28
        obtain ⟨V10, e10⟩ : ∃ V10, World.alloc V0 (.cells #[.slice none 0 0, .slice none 0 0, .slice none 0 0] 28) = V10 := ⟨_, rfl⟩
        have hlo10 : X0.heap.size ≤ V0.heap.size := C25.size
        rw [e10] at b10 N10 ⊢
        have C10 := bstep C25 C25.size b10
        have hlD10 := D25.size
        have D10 := bstep D25 D25.size b10
        refine hK.out _ _ (HP.out _ C10).1 (fun hHeld => ?_)
        clear hK K
        try go_simp
        refine wpAnyH_ready (rs := [1]) (by kernel_rfl) (by simp) ?_
        refine AllReadyH.cons rfl (fun K hK => ?_) AllReadyH.nil
        go_simp
        go_wp2_with (go_at_call 9; refine (HA.out _ C10).mono ?_; rintro e V11 ⟨⟨xa11, xd11, rfl, t11⟩, b11⟩)
        have C11 := bstep C10 C10.size b11
        have D11 := bstep D10 D10.size b11
        have N11 := N10.below b11
        refine hK.out _ _ (HP.out _ C11).1 (fun hHeld => ?_)
        clear hK K
        try go_simp
        refine wpAnyH_ready (rs := [3]) (by kernel_rfl) (by simp) ?_
        refine AllReadyH.cons rfl (fun K hK => ?_) AllReadyH.nil
        go_simp
        go_wp2_with (go_at_call 10; refine (HC.out _ C11).mono ?_; rintro e V12 ⟨ya12, yb12, yc12, yd12, ye12, yf12, rfl, s12, b12⟩)
        have C12 := bstep C11 C11.size b12
        have D12 := bstep D11 D11.size b12
        have t12 := t11.below b12
        have N12 := N11.below b12
        refine hK.out _ _ (HP.out _ C12).1 (fun hHeld => ?_)
        clear hK K
        try go_simp
        refine wpAnyH_ready (rs := [5]) (by kernel_rfl) (by simp) ?_
        refine AllReadyH.cons rfl (fun K hK => ?_) AllReadyH.nil
        go_simp
        go_wp2_with (go_at_call 11; refine (HIP.out _ _ _ _ _ _ _ _ _ (HP.out _ C12).2 t12 s12.row).mono ?_; rintro e V13 ⟨⟨z1, z2, z3, k1, k2, k3, rfl, a13⟩, b13⟩)
        have C13 := bstep C12 C12.size b13
        have D13 := bstep D12 D12.size b13
        have t13 := t12.below b13
        have s13 := s12.below b13
        have N13 := N12.below b13
        refine hK.out _ _ (HP.out _ C13).1 (fun hHeld => ?_)
        clear hK K
        try go_simp
        refine wpAnyH_take (i := 6) (v := ?_) rfl (by kernel_rfl) (by kernel_rfl) (by kernel_rfl) (fun _ _ _ h => h) (Or.inl ⟨by rfl, ?_⟩) (by assumption) ?_
        rotate_left
        focus (intro w hSw; (try dsimp only at hSw); go_simp; first | done | with_reducible rfl)
        try go_simp
        refine wpAnyH_take (i := 7) (v := ?_) rfl (by kernel_rfl) (by kernel_rfl) (by kernel_rfl) (fun _ _ _ h => h) (Or.inl ⟨by rfl, ?_⟩) (by assumption) ?_
        rotate_left
        focus (intro w hSw; (try dsimp only at hSw); go_simp; first | done | with_reducible rfl)
        try go_simp
        refine wpAnyH_take (i := 8) (v := ?_) rfl (by kernel_rfl) (by kernel_rfl) (by kernel_rfl) (fun _ _ _ h => h) (Or.inl ⟨by rfl, ?_⟩) (by assumption) ?_
        rotate_left
        focus (intro w hSw; (try dsimp only at hSw); go_simp; first | done | with_reducible rfl)
        try go_simp
        refine wpAnyH_take (i := 9) (v := ?_) rfl (by kernel_rfl) (by kernel_rfl) (by kernel_rfl) (fun _ _ _ h => h) (Or.inl ⟨by rfl, ?_⟩) (by assumption) ?_
        rotate_left
        focus (intro w hSw; (try dsimp only at hSw); go_simp; first | done | with_reducible rfl)
        try go_simp
        refine wpAnyH_take (i := 10) (v := ?_) rfl (by kernel_rfl) (by kernel_rfl) (by kernel_rfl) (fun _ _ _ h => h) (Or.inl ⟨by rfl, ?_⟩) (by assumption) ?_
        rotate_left
        focus (intro w hSw; (try dsimp only at hSw); go_simp; first | done | with_reducible rfl)
        try go_simp
        obtain ⟨n0, n1, n2, f0, f1, f2, nl⟩ := N13.all
        have hne : ¬ V0.heap.size = w.heap.size := by omega
        have hne' : ¬ w.heap.size = V0.heap.size := by omega
        refine wpAnyH_ready (rs := [12]) (by kernel_rfl) (by simp) ?_
        refine AllReadyH.cons rfl (fun K hK => ?_) AllReadyH.nil
        go_simp
        refine hK.out _ _ (by go_keep) (fun hHeld => ?_)
        clear hK K
        refine wpAnyH_take (i := 13) (v := ?_) rfl (by kernel_rfl) (by kernel_rfl) (by kernel_rfl) (fun _ _ _ h => h) (Or.inl ⟨by rfl, ?_⟩) (by assumption) ?_
        rotate_left
        focus (intro w hSw; (try dsimp only at hSw); go_simp; first | done | with_reducible rfl)
        try go_simp
        refine wpAnyH_take (i := 14) (v := ?_) rfl (by kernel_rfl) (by kernel_rfl) (by kernel_rfl) (fun _ _ _ h => h) (Or.inl ⟨by rfl, ?_⟩) (by assumption) ?_
        rotate_left
        focus (intro w hSw; (try dsimp only at hSw); go_simp; first | done | with_reducible rfl)
        try go_simp
        refine wpAnyH_take (i := 15) (v := ?_) rfl (by kernel_rfl) (by kernel_rfl) (by kernel_rfl) (fun _ _ _ h => h) (Or.inl ⟨by rfl, ?_⟩) (by assumption) ?_
        rotate_left
        focus (intro w hSw; (try dsimp only at hSw); go_simp; first | done | with_reducible rfl)
        try go_simp
        refine wpAnyH_done (by kernel_rfl) ?_ _
        clear hHeld
        go_wp2_with fail
        go_meet
        exact ⟨_, z1, z2, z3, k1, k2, k3, rfl, rfl, rfl, rfl, hlo10, N13.put3 _ _ _, (OwnSt.putA a13 N12.lt C12.size _ _ _), low3' C13 hlo10 _ _ _, low3' D13 hlD10 _ _ _⟩
      exact AllReadyH.nil
    case rest =>
      obtain ⟨hb, y1, y2, y3, i1, i2, i3, rfl, rfl, rfl, rfl, _, PH, OH, C26, D26⟩ := hcut
      have rm := HW.out.1.below D26
      have ow := HW.out.2.1.below D26
      have PG := HW.out.2.2.1.below D26
      have P8 := HW.out.2.2.2.below D26
      have HPG := hid PG
      obtain ⟨p0, p1, p2⟩ := PH
      obtain ⟨r0, r1, r2⟩ := P8
      clear PG
      go_wp2_with fail
      refine (HES.out _ _ _ _ _ _ _ OH.row ow.row).mono ?_
      rintro e X27 ⟨rfl, hb27⟩
      have C27 := bstep C26 C26.size hb27
      have rm := rm.below hb27
      have PG := HPG.out.below hb27
      clear p0 p1 p2 r0 r1 r2 hb27
      obtain ⟨p0, p1, p2⟩ := PG
      go_wp2_with fail
      refine (HHD.out _ rm).mono ?_
      rintro e X28 ⟨rfl, hb28⟩
      have HBB := hid (HP.out _ (bstep C27 C27.size hb28)).2
      clear hb28
      go_wp2
      go_ret
      exact ⟨rfl, HBB.out⟩
end Go.Proofs.YthkkhinmdlmhkaaDoor
