/- The law on StepsDone is true at every argument. -/
import Derived.Test.YthkkhinmdlmhkaaDoorK5
namespace Go.Proofs.YthkkhinmdlmhkaaDoor
open Go.RowKit
set_option linter.unusedVariables false
set_option linter.unusedSimpArgs false
set_option maxRecDepth 100000

set_option maxHeartbeats 1000000 in
/-- marking a state that is owned, from any number on -/
theorem markState_gen (B C : Nat) (k0 : Int) (hk0 : 0 ≤ k0) (hk0' : k0 ≤ 6000000) (a1 a2 a3 : Option Addr) (c1 c2 c3 : Nat) (xs ys zs : List Int) (w : World) (hx : xs.length ≤ 1048576) (hy : ys.length ≤ 1048576) (hz : zs.length ≤ 1048576)
    (h : OwnSt w B (.slice a1 xs.length c1) (.slice a2 ys.length c2) (.slice a3 zs.length c3) xs ys zs) (hC : C ≤ w.heap.size)
    (hC1 : ∀ g, (Value.slice a1 xs.length c1).ownBlock = some g → g < C) (hC2 : ∀ g, (Value.slice a2 ys.length c2).ownBlock = some g → g < C) (hC3 : ∀ g, (Value.slice a3 zs.length c3).ownBlock = some g → g < C) :
    Calls Tryd.prog 15 #[.agg #[.slice a1 xs.length c1, .slice a2 ys.length c2, .slice a3 zs.length c3], .int .i64 k0] w fun e w' => e = .returned (.int .i64 (k0 + xs.length + ys.length + zs.length)) ∧ SRow w' a1 a2 a3 (marks k0 xs.length) (marks (k0 + xs.length) ys.length) (marks (k0 + xs.length + ys.length) zs.length) ∧ Touch B C w w' := by
  have HC1 : Hid (_) := hC1
  have HC2 : Hid (_) := hC2
  have HC3 : Hid (_) := hC3
  clear hC1 hC2 hC3
  have H : Hid (OwnSt w B (.slice a1 xs.length c1) (.slice a2 ys.length c2) (.slice a3 zs.length c3) xs ys zs) := h
  have H1 : Hid (∀ g, (Value.slice a1 xs.length c1).ownBlock = some g → g < w.heap.size) := fun g e => (h.l.lt g e).2
  have H2 : Hid (∀ g, (Value.slice a2 ys.length c2).ownBlock = some g → g < w.heap.size) := fun g e => (h.m.lt g e).2
  have H3 : Hid (∀ g, (Value.slice a3 zs.length c3).ownBlock = some g → g < w.heap.size) := fun g e => (h.t.lt g e).2
  have b1 := h.l.alloc (.cells #[.slice a1 xs.length c1, .slice a2 ys.length c2, .slice a3 zs.length c3] 28)
  have b2 := h.m.alloc (.cells #[.slice a1 xs.length c1, .slice a2 ys.length c2, .slice a3 zs.length c3] 28)
  have b3 := h.t.alloc (.cells #[.slice a1 xs.length c1, .slice a2 ys.length c2, .slice a3 zs.length c3] 28)
  have e2 : (w.alloc (.cells #[.slice a1 xs.length c1, .slice a2 ys.length c2, .slice a3 zs.length c3] 28)).cell? ⟨w.heap.size, 1, none⟩ = some (.slice a2 ys.length c2) := by simp [go_sem]
  have e3 : (w.alloc (.cells #[.slice a1 xs.length c1, .slice a2 ys.length c2, .slice a3 zs.length c3] 28)).cell? ⟨w.heap.size, 2, none⟩ = some (.slice a3 zs.length c3) := by simp [go_sem]
  have T0 : Touch B C w (w.alloc (.cells #[.slice a1 xs.length c1, .slice a2 ys.length c2, .slice a3 zs.length c3] 28)) := ⟨rfl, rfl, rfl, by simp, fun k hk _ => Below.heap_alloc _ _ _ hk⟩
  have HB : Hid (_ ∧ _ ∧ _ ∧ _ ∧ _ ∧ _) := ⟨b1, b2, b3, e2, e3, T0⟩
  clear h b1 b2 b3 e2 e3 T0
  go_enter Tryd.func15, Tryd.ntmps15
  go_wp2_with fail
  refine (markI_any B _ xs k0 _ (by omega) (by omega) hx HB.out.1).mono ?_
  rintro e w1 ⟨rfl, o1, g1⟩
  have f2 := grown_cell g1 HB.out.2.2.2.1 H1.out
  have f3 := grown_cell g1 HB.out.2.2.2.2.1 H1.out
  have p2 := own_kept HB.out.2.1 g1 (fun g e e' => H.out.lm g e' e)
  have p3 := own_kept HB.out.2.2.1 g1 (fun g e e' => H.out.lt g e' e)
  have t1 : Touch B C _ _ := HB.out.2.2.2.2.2.trans (Touch.of_grown g1 fun k e => ⟨(H.out.l.lt k e).1, HC1.out k e⟩)
  have HP : Hid (_ ∧ _ ∧ _ ∧ _ ∧ _) := ⟨p2, p3, f3, t1, o1⟩
  obtain ⟨k1, hk1, hk10, hk11⟩ : ∃ k1 : Int, k0 + (xs.length : Int) = k1 ∧ 0 ≤ k1 ∧ k1 ≤ 7048576 := ⟨_, rfl, by omega, by omega⟩
  rw [hk1]
  have HK1 : Hid (k0 + (xs.length : Int) = k1) := hk1
  clear hk1 p2 p3 t1 o1 g1 f3
  go_wp2_with fail
  refine (markI_any B _ ys k1 _ (by omega) (by omega) hy HP.out.1).mono ?_
  rintro e w2 ⟨rfl, o2, g2⟩
  have f3 := grown_cell g2 HP.out.2.2.1 H2.out
  have p3 := own_kept HP.out.2.1 g2 (fun g e e' => H.out.mt g e' e)
  have t2 := HP.out.2.2.2.1.trans (Touch.of_grown (B := B) (C := C) g2 fun k e => ⟨(H.out.m.lt k e).1, HC2.out k e⟩)
  have q1 := own_kept HP.out.2.2.2.2 g2 (fun g e => H.out.lm g e)
  have HQ : Hid (_ ∧ _ ∧ _ ∧ _) := ⟨p3, t2, q1, o2⟩
  obtain ⟨k2, hk2, hk20, hk21⟩ : ∃ k2 : Int, k1 + (ys.length : Int) = k2 ∧ 0 ≤ k2 ∧ k2 ≤ 8097152 := ⟨_, rfl, by omega, by omega⟩
  rw [hk2]
  have HK2 : Hid (k1 + (ys.length : Int) = k2) := hk2
  clear hk2 p3 t2 q1 o2 g2
  go_wp2_with fail
  refine (markI_any B _ zs k2 _ (by omega) (by omega) hz HQ.out.1).mono ?_
  rintro e w3 ⟨rfl, o3, g3⟩
  have t3 := HQ.out.2.1.trans (Touch.of_grown (B := B) (C := C) g3 fun k e => ⟨(H.out.t.lt k e).1, HC3.out k e⟩)
  have s1 := own_kept HQ.out.2.2.1 g3 (fun g e => H.out.lt g e)
  have s2 := own_kept HQ.out.2.2.2 g3 (fun g e => H.out.mt g e)
  have HS : Hid (_ ∧ _ ∧ _ ∧ _) := ⟨t3, row_marksK s1, row_marksK s2, row_marksK o3⟩
  clear t3 s1 s2 o3 g3
  obtain ⟨k3, hk3⟩ : ∃ k3 : Int, k2 + (zs.length : Int) = k3 := ⟨_, rfl⟩
  rw [hk3]
  have HK3 : Hid (k2 + (zs.length : Int) = k3) := hk3
  clear hk3
  go_wp2
  go_ret
  have z1 := HK1.out
  have z2 := HK2.out
  have z3 := HK3.out
  subst z1
  subst z2
  exact ⟨ret_int (by rw [← z3]), ⟨HS.out.2.1, HS.out.2.2.1, HS.out.2.2.2⟩, HS.out.1⟩

theorem OwnSt.touch {w w' : World} {B C : Nat} {v1 v2 v3 : Value} {xs ys zs : List Int} (h : OwnSt w C v1 v2 v3 xs ys zs) (t : Touch B C w w') : OwnSt w' C v1 v2 v3 xs ys zs :=
  ⟨owns_touch h.l t (fun k hk => .inr (h.l.lt k hk).1), owns_touch h.m t (fun k hk => .inr (h.m.lt k hk).1), owns_touch h.t t (fun k hk => .inr (h.t.lt k hk).1), h.lm, h.lt, h.mt⟩
/-- the places of the steps done -/
def doneL : Option (Cf × List Int × Int) → List Int
  | some r => r.2.1
  | none => []
theorem doneL_len {xs : List Stp} {L M T : List Int} {F : Int} : (doneL (runO xs L M T F)).length ≤ 2000 := by
  cases h : runO xs L M T F with
  | none => simp [doneL]
  | some r => exact (runO_fin h).D
theorem done_lay {w' : World} {B : Nat} {o : Option (Cf × List Int × Int)} {e : Ending} (h : DoneAns w' B o e) : ∃ z c, e = .returned (.tuple #[.slice z (doneL o).length c, .bool o.isSome]) ∧ w'.ownsRow B 3 1 (.slice z (doneL o).length c) (doneL o).length (ints (doneL o)) := by
  cases o with
  | none => exact ⟨none, 0, h, World.ownsRow_nil _ _ _ _⟩
  | some r =>
    obtain ⟨dv, rfl, ho⟩ := h
    obtain ⟨z, c, rfl⟩ := slice_of_owned ho
    exact ⟨z, c, rfl, ho⟩
set_option maxHeartbeats 4000000 in
theorem lawStepsDone (a : Option Addr) (ac : Nat) (xs : List Stp) (a1 a2 a3 : Option Addr) (c1 c2 c3 : Nat) (L M T : List Int) (F : Int) (S : Nat → Addr) (u : TypeId) (pv : Value) (w : World) (hl : xs.length ≤ 9223372036854775807) (h1 : L.length ≤ 9223372036854775807) (h2 : M.length ≤ 9223372036854775807) (h3 : T.length ≤ 9223372036854775807) (hT : TRow w a xs) (hS : SRow w a1 a2 a3 L M T) (hTb : Tab w) (hE : Errs w S) (h5 : 5 < w.heap.size) (he : w.cell? ⟨5, 0, none⟩ = some (.iface u pv)) :
    Calls Tryd.prog 4 #[.slice a xs.length ac, .agg #[.slice a1 L.length c1, .slice a2 M.length c2, .slice a3 T.length c3], .int .i64 F] w fun e w' => e = .returned (.bool true) ∧ Below w.heap.size w w' := by
  have HZ1 : Hid (∀ X r0, Below w.heap.size w X → 0 ≤ r0 → r0 ≤ 1048576 → Calls Tryd.prog 6 #[.slice a xs.length ac, .int .i64 r0] X fun e w' => (∃ r, e = .returned (.int .i64 r) ∧ (r < 0 ∨ (0 ≤ r ∧ r ≤ 1048576 ∧ xs.length ≤ 1048576 ∧ sumT xs ≤ 1048576))) ∧ Below X.heap.size X w') := fun X r0 hb q1 q2 => szSteps_gen a ac xs r0 X hl q1 q2 (hT.below hb)
  have HZ3 : Hid (∀ X r0, 0 ≤ r0 → r0 ≤ 1048576 → Calls Tryd.prog 7 #[.agg #[.slice a1 L.length c1, .slice a2 M.length c2, .slice a3 T.length c3], .int .i64 r0] X fun e w' => (∃ q, e = .returned (.int .i64 q) ∧ (q < 0 ∨ (q ≤ r0 ∧ L.length ≤ 1048576 ∧ M.length ≤ 1048576 ∧ T.length ≤ 1048576))) ∧ Below X.heap.size X w') := fun X r0 q1 q2 => szState_any a1 a2 a3 c1 c2 c3 L.length M.length T.length r0 X h1 h2 h3 q1 q2
  have HK : Hid (∀ X, Below w.heap.size w X → (TRow X a xs ∧ SRow X a1 a2 a3 L M T) ∧ Tab X ∧ Errs X S ∧ 5 < X.heap.size ∧ X.cell? ⟨5, 0, none⟩ = some (.iface u pv)) := fun X hb => ⟨⟨hT.below hb, hS.below hb⟩, hTb.below hb, hE.below hb, Nat.lt_of_lt_of_le h5 hb.size, (hb.cell (p := ⟨5, 0, none⟩) h5).trans he⟩
  clear hT hS hTb hE he hl h1 h2 h3
  have B0 := below1 w (.cells #[.slice a1 L.length c1, .slice a2 M.length c2, .slice a3 T.length c3] 25)
  have hX0s : w.heap.size < (w.alloc (.cells #[.slice a1 L.length c1, .slice a2 M.length c2, .slice a3 T.length c3] 25)).heap.size := by simp
  have HP : Hid (∀ X, Below (w.alloc (.cells #[.slice a1 L.length c1, .slice a2 M.length c2, .slice a3 T.length c3] 25)).heap.size (w.alloc (.cells #[.slice a1 L.length c1, .slice a2 M.length c2, .slice a3 T.length c3] 25)) X → Box3 X w.heap.size (.slice a1 L.length c1) (.slice a2 M.length c2) (.slice a3 T.length c3) ∧ Below w.heap.size w X) := fun X hb => ⟨(Box3.new w _ _ _ 25).below hb, bstep' B0 hb⟩
  go_enter Tryd.func4, Tryd.ntmps4
  go_wp2_with fail
  generalize (w.alloc (.cells #[.slice a1 L.length c1, .slice a2 M.length c2, .slice a3 T.length c3] 25)) = X0 at HP B0 hX0s ⊢
  refine (HZ1.out _ _ B0 (by decide) (by decide)).mono ?_
  rintro e X1 ⟨⟨r, rfl, hr⟩, hb1⟩
  have C1 := hb1
  by_cases hr0 : r < 0
  · have HB := hid (HP.out _ C1).2
    go_wp2
    go_ret
    exact ⟨rfl, HB.out⟩
  have HX : Hid (xs.length ≤ 1048576 ∧ sumT xs ≤ 1048576) := by show _ ∧ _; omega
  have hq : 0 ≤ r ∧ r ≤ 1048576 := by omega
  obtain ⟨⟨s0, s1, s2⟩, _⟩ := HP.out _ C1
  clear hr hb1
  go_wp2_with fail
  refine (HZ3.out _ _ hq.1 hq.2).mono ?_
  rintro e X3 ⟨⟨r3, rfl, hr3⟩, hb3⟩
  have C3 := bstep C1 C1.size hb3
  clear s0 s1 s2
  by_cases hr30 : r3 < 0
  · have HB := hid (HP.out _ C3).2
    go_wp2
    go_ret
    exact ⟨rfl, HB.out⟩
  have HL : Hid (L.length ≤ 1048576 ∧ M.length ≤ 1048576 ∧ T.length ≤ 1048576) := by show _ ∧ _ ∧ _; omega
  clear hr3 hb3
  have hs := fun (X : World) (p : Option Addr) (pc : Nat) (e1 e2 e3 : Option Addr) (f1 f2 f3 : Nat) t1 t3 => (sStepsDone_any p pc xs e1 e2 e3 f1 f2 f3 L M T F X HX.out.1 HL.out.1 HL.out.2.1 HL.out.2.2 t1 t3).mono fun e w' h => And.intro (done_lay h.1) h.2
  have hi := fun (X : World) (p : Option Addr) (pc : Nat) (e1 e2 e3 : Option Addr) (f1 f2 f3 : Nat) (hb : Below w.heap.size w X) t1 t3 => (iStepsDone_any p pc xs e1 e2 e3 f1 f2 f3 L M T F S u pv X HX.out.1 HL.out.1 HL.out.2.1 HL.out.2.2 t1 t3 (HK.out _ hb).2.1 (HK.out _ hb).2.2.1 (HK.out _ hb).2.2.2.1 (HK.out _ hb).2.2.2.2).mono fun e w' h => And.intro (done_lay h.1) h.2
  have hd : (doneL (runO xs L M T F)).length ≤ 2000 := doneL_len
  generalize doneL (runO xs L M T F) = D at hs hi hd
  generalize (runO xs L M T F).isSome = G at hs hi
  have HSP : Hid (∀ X (p : Option Addr) (pc : Nat) (e1 e2 e3 : Option Addr) (f1 f2 f3 : Nat), TRow X p xs → SRow X e1 e2 e3 L M T → Calls Tryd.prog 17 #[.slice p xs.length pc, .agg #[.slice e1 L.length f1, .slice e2 M.length f2, .slice e3 T.length f3], .int .i64 F] X fun e w' => (∃ z c, e = .returned (.tuple #[.slice z D.length c, .bool G]) ∧ w'.ownsRow X.heap.size 3 1 (.slice z D.length c) D.length (ints D)) ∧ Below X.heap.size X w') := hs
  have HIP : Hid (∀ X (p : Option Addr) (pc : Nat) (e1 e2 e3 : Option Addr) (f1 f2 f3 : Nat), Below w.heap.size w X → TRow X p xs → SRow X e1 e2 e3 L M T → Calls Tryd.prog 18 #[.slice p xs.length pc, .agg #[.slice e1 L.length f1, .slice e2 M.length f2, .slice e3 T.length f3], .int .i64 F] X fun e w' => (∃ z c, e = .returned (.tuple #[.slice z D.length c, .bool G]) ∧ w'.ownsRow X.heap.size 3 1 (.slice z D.length c) D.length (ints D)) ∧ Below X.heap.size X w') := hi
  clear hs hi
  have tg : (G != G) = false := by simp
  have HA : Hid (∀ X, Below X0.heap.size X0 X → Calls Tryd.prog 9 #[.slice a xs.length ac] X fun e w' => (∃ a' c', e = .returned (.slice a' xs.length c') ∧ TRow w' a' xs) ∧ Below X.heap.size X w') := fun X hb => toSteps_got a ac xs X HX.out.1 HX.out.2 (HK.out _ (HP.out _ hb).2).1.1
  have HC : Hid (∀ X, Below X0.heap.size X0 X → Calls Tryd.prog 10 #[.agg #[.slice a1 L.length c1, .slice a2 M.length c2, .slice a3 T.length c3]] X fun e w' => ∃ b1 b2 b3 d1 d2 d3, e = .returned (.agg #[.slice b1 L.length d1, .slice b2 M.length d2, .slice b3 T.length d3]) ∧ OwnSt w' X.heap.size (.slice b1 L.length d1) (.slice b2 M.length d2) (.slice b3 T.length d3) L M T ∧ Below X.heap.size X w') := fun X hb => toState_any a1 a2 a3 c1 c2 c3 L M T X HL.out.1 HL.out.2.1 HL.out.2.2 (HK.out _ (HP.out _ hb).2).1.2
  clear HZ1 HZ3
  go_wp2_with fail
  have C4 := C3.drew
  refine wp_region_held_drew (S := fun X' => X'.cell? ⟨w.heap.size, 0, none⟩ = some (.slice a1 L.length c1) ∧ X'.cell? ⟨w.heap.size, 1, none⟩ = some (.slice a2 M.length c2) ∧ X'.cell? ⟨w.heap.size, 2, none⟩ = some (.slice a3 T.length c3)) (by kernel_rfl) (HP.out _ C4).1 (fun hHeld => ?_)
  refine wpAnyH_take (i := 0) (v := ?_) rfl (by kernel_rfl) (by kernel_rfl) (by kernel_rfl) (fun _ _ _ h => h) (Or.inl ⟨by rfl, ?_⟩) (by assumption) ?_
  rotate_left
  focus (intro w hSw; (try dsimp only at hSw); go_simp; first | done | with_reducible rfl)
  try go_simp
  refine wpAnyH_take (i := 2) (v := ?_) rfl (by kernel_rfl) (by kernel_rfl) (by kernel_rfl) (fun _ _ _ h => h) (Or.inl ⟨by rfl, ?_⟩) (by assumption) ?_
  rotate_left
  focus (intro w hSw; (try dsimp only at hSw); go_simp; first | done | with_reducible rfl)
  try go_simp
  refine wpAnyH_take (i := 4) (v := ?_) rfl (by kernel_rfl) (by kernel_rfl) (by kernel_rfl) (fun _ _ _ h => h) (Or.inl ⟨by rfl, ?_⟩) (by assumption) ?_
  rotate_left
  focus (intro w hSw; (try dsimp only at hSw); go_simp; first | done | with_reducible rfl)
  try go_simp
  refine wpAnyH_ready (rs := [1]) (by kernel_rfl) (by simp) ?_
  refine AllReadyH.cons rfl (fun K hK => ?_) AllReadyH.nil
  go_simp
  go_wp2_with (go_at_call 9; refine (HA.out _ C4).mono ?_; rintro e X5 ⟨⟨x5, d5, rfl, t5⟩, hb5⟩)
  have C5 := bstep C4 C4.size hb5
  refine hK.out _ _ (HP.out _ C5).1 (fun hHeld => ?_)
  clear hK K
  try go_simp
  refine wpAnyH_ready (rs := [3]) (by kernel_rfl) (by simp) ?_
  refine AllReadyH.cons rfl (fun K hK => ?_) AllReadyH.nil
  go_simp
  go_wp2_with (go_at_call 10; refine (HC.out _ C5).mono ?_; rintro e X7 ⟨b1, b2, b3, g1, g2, g3, rfl, o7, hb7⟩)
  have C7 := bstep C5 C5.size hb7
  have HTT := hid (And.intro (t5.below hb7) o7.row)
  refine hK.out _ _ (HP.out _ C7).1 (fun hHeld => ?_)
  clear hK K
  try go_simp
  refine wpAnyH_ready (rs := [5]) (by kernel_rfl) (by simp) ?_
  refine AllReadyH.cons rfl (fun K hK => ?_) AllReadyH.nil
  go_simp
  go_wp2_with (go_at_call 17; refine (HSP.out _ _ _ _ _ _ _ _ _ HTT.out.1 HTT.out.2).mono ?_; rintro e X8 ⟨⟨z8, k8, rfl, O3⟩, hb8⟩)
  have C8 := bstep C7 C7.size hb8
  refine hK.out _ _ (HP.out _ C8).1 (fun hHeld => ?_)
  clear hK K
  try go_simp
  refine wpAnyH_take (i := 6) (v := ?_) rfl (by kernel_rfl) (by kernel_rfl) (by kernel_rfl) (fun _ _ _ h => h) (Or.inl ⟨by rfl, ?_⟩) (by assumption) ?_
  rotate_left
  focus (intro w hSw; (try dsimp only at hSw); go_simp; first | done | with_reducible rfl)
  try go_simp
  refine wpAnyH_take (i := 7) (v := ?_) rfl (by kernel_rfl) (by kernel_rfl) (by kernel_rfl) (fun _ _ _ h => h) (Or.inl ⟨by rfl, ?_⟩) (by assumption) ?_
  rotate_left
  focus (intro w hSw; (try dsimp only at hSw); go_simp; first | done | with_reducible rfl)
  try go_simp
  refine wpAnyH_take (i := 8) (v := ?_) rfl (by kernel_rfl) (by kernel_rfl) (by kernel_rfl) (fun _ _ _ h => h) (Or.inl ⟨by rfl, ?_⟩) (by assumption) ?_
  rotate_left
  focus (intro w hSw; (try dsimp only at hSw); go_simp; first | done | with_reducible rfl)
  try go_simp
  refine wpAnyH_take (i := 9) (v := ?_) rfl (by kernel_rfl) (by kernel_rfl) (by kernel_rfl) (fun _ _ _ h => h) (Or.inl ⟨by rfl, ?_⟩) (by assumption) ?_
  rotate_left
  focus (intro w hSw; (try dsimp only at hSw); go_simp; first | done | with_reducible rfl)
  try go_simp
  refine wpAnyH_take (i := 10) (v := ?_) rfl (by kernel_rfl) (by kernel_rfl) (by kernel_rfl) (fun _ _ _ h => h) (Or.inl ⟨by rfl, ?_⟩) (by assumption) ?_
  rotate_left
  focus (intro w hSw; (try dsimp only at hSw); go_simp; first | done | with_reducible rfl)
  try go_simp
  refine wpAnyH_done (by kernel_rfl) ?_ _
  have HL3 : Hid (∀ k, (Value.slice z8 D.length k8).ownBlock = some k → k < X8.heap.size) := fun k hk => (O3.lt k hk).2
  clear hHeld hb5 hb7 hb8 t5 o7 HTT
  go_wp2_with fail
  refine (toSteps_any a ac xs _ HX.out.1 HX.out.2 (HK.out _ (HP.out _ C8).2).1.1).mono ?_
  rintro e X9 ⟨v9, y9, rfl, O4, hy9, hb9⟩
  have C9 := bstep C8 C8.size hb9
  have HC4 : Hid ((∀ k, v9.ownBlock = some k → k < X9.heap.size) ∧ ∀ y ∈ y9, ∀ k, y.2.ownBlock = some k → k < X9.heap.size) := ⟨fun k hk => (O4.1.lt k hk).2, fun y hy k hk => ((O4.2.1 y hy).1.lt k hk).2⟩
  have O3 := owns_below O3 hb9
  obtain ⟨x9, d9, hv9, hs9⟩ := O4.row
  subst hv9
  rw [hy9] at hs9
  have hn9 : y9.length = xs.length := by rw [← hy9]; simp
  have HY9 := hid (And.intro hy9 hn9)
  rw [hy9]
  rw [hy9] at O4 HC4
  have HSZ9 : Hid (X0.heap.size ≤ X8.heap.size ∧ X8.heap.size ≤ X9.heap.size) := ⟨C8.size, hb9.size⟩
  obtain ⟨⟨s0, s1, s2⟩, _⟩ := HP.out _ C9
  clear hb9 hy9 hn9
  go_wp2_with fail
  refine (HC.out _ C9).mono ?_
  rintro e X10 ⟨m1, m2, m3, k1, k2, k3, rfl, O5, hb10⟩
  have b11 := below1 X10 (.cells #[.slice m1 L.length k1, .slice m2 M.length k2, .slice m3 T.length k3] 28)
  have C10 := bstep C9 C9.size hb10
  have C11 := bstep C10 C10.size b11
  have P11 := Box3.new X10 (.slice m1 L.length k1) (.slice m2 M.length k2) (.slice m3 T.length k3) 28
  have HC5 : Hid ((∀ g, (Value.slice m1 L.length k1).ownBlock = some g → g < X10.heap.size) ∧ (∀ g, (Value.slice m2 M.length k2).ownBlock = some g → g < X10.heap.size) ∧ (∀ g, (Value.slice m3 T.length k3).ownBlock = some g → g < X10.heap.size)) := ⟨fun g hg => (O5.l.lt g hg).2, fun g hg => (O5.m.lt g hg).2, fun g hg => (O5.t.lt g hg).2⟩
  have HSZ10 : Hid (X9.heap.size ≤ X10.heap.size ∧ X10.heap.size < (X10.alloc (.cells #[.slice m1 L.length k1, .slice m2 M.length k2, .slice m3 T.length k3] 28)).heap.size) := ⟨hb10.size, by simp⟩
  have HQ : Hid (∀ X, Below (X10.alloc (.cells #[.slice m1 L.length k1, .slice m2 M.length k2, .slice m3 T.length k3] 28)).heap.size (X10.alloc (.cells #[.slice m1 L.length k1, .slice m2 M.length k2, .slice m3 T.length k3] 28)) X → Box3 X X10.heap.size (.slice m1 L.length k1) (.slice m2 M.length k2) (.slice m3 T.length k3) ∧ Below X0.heap.size X0 X ∧ TRow X x9 xs ∧ OwnSt X X9.heap.size (.slice m1 L.length k1) (.slice m2 M.length k2) (.slice m3 T.length k3) L M T ∧ X.ownsRow X7.heap.size 3 1 (.slice z8 D.length k8) D.length (ints D) ∧ OwnS X X8.heap.size (.slice x9 xs.length d9) y9) := fun X hb => ⟨P11.below hb, bstep C11 C11.size hb, ((hs9.below hb10).below b11).below hb, (O5.below b11).below hb, owns_below (owns_below (owns_below O3 hb10) b11) hb, ((O4.below hb10).below b11).below hb⟩
  clear s0 s1 s2 hb10 b11 hs9 O5 O3 O4 P11 C11 C10
  go_wp2_with fail
  generalize (X10.alloc (.cells #[.slice m1 L.length k1, .slice m2 M.length k2, .slice m3 T.length k3] 28)) = X11 at HQ HSZ10 ⊢
  obtain ⟨⟨p0, p1, p2⟩, C11, t9, o5, _, _⟩ := HQ.out _ (Below.refl _ _)
  obtain ⟨sb, hsb⟩ : ∃ sb, X10.heap.size = sb := ⟨_, rfl⟩
  rw [hsb] at HQ HSZ10 HC5 p0 p1 p2 ⊢
  clear hsb
  refine (HIP.out X11 x9 d9 m1 m2 m3 k1 k2 k3 (HP.out _ C11).2 t9 o5.row).mono ?_
  rintro e X12 ⟨⟨z12, k12, rfl, O6⟩, hb12⟩
  have D12 := hb12
  obtain ⟨_, C12, t9, o5, o3, _⟩ := HQ.out _ D12
  have HL6 : Hid (∀ k, (Value.slice z12 D.length k12).ownBlock = some k → X11.heap.size ≤ k) := fun k hk => (O6.lt k hk).1
  clear p0 p1 p2 hb12
  go_wp2_with fail
  refine (eqIntS_same z12 z8 k12 k8 D _ (by omega) (own_row O6) (own_row o3)).mono ?_
  rintro e X13 ⟨rfl, q13, hw13⟩
  have hb13 : Below X12.heap.size X12 X13 := by rw [hw13]; exact below_same _ _
  have D13 := bstep D12 D12.size hb13
  have O6 := owns_below O6 hb13
  obtain ⟨_, C13, t9, o5, o3, _⟩ := HQ.out _ D13
  clear hw13 hb13
  go_wp2_with fail
  refine (HA.out _ C13).mono ?_
  rintro e X14 ⟨⟨x14, d14, rfl, t14⟩, hb14⟩
  have D14 := bstep D13 D13.size hb14
  have O6 := owns_below O6 hb14
  obtain ⟨_, C14, t9, o5, o3, _⟩ := HQ.out _ D14
  clear hb14
  go_wp2_with fail
  refine (eqSteps_same x9 x14 d9 d14 xs _ (by have := HX.out.1; omega) t9 t14).mono ?_
  rintro e X15 ⟨rfl, hb15⟩
  have D15 := bstep D14 D14.size hb15
  have O6 := owns_below O6 hb15
  have D16 := D15.drew
  clear hb15
  go_wp2_with fail
  have HS : Hid (∀ X', Below X11.heap.size X11 X' → (X'.cell? ⟨sb, 0, none⟩ = some (.slice m1 L.length k1) ∧ X'.cell? ⟨sb, 1, none⟩ = some (.slice m2 M.length k2) ∧ X'.cell? ⟨sb, 2, none⟩ = some (.slice m3 T.length k3)) ∧ X'.cell? ⟨w.heap.size, 0, none⟩ = some (.slice a1 L.length c1) ∧ X'.cell? ⟨w.heap.size, 1, none⟩ = some (.slice a2 M.length c2) ∧ X'.cell? ⟨w.heap.size, 2, none⟩ = some (.slice a3 T.length c3)) := fun X hb => ⟨(HQ.out _ hb).1, (HP.out _ (HQ.out _ hb).2.1).1⟩
  have HEQ3 : Hid (∀ X e1 e2 e3 f1 f2 f3, SRow X m1 m2 m3 L M T → SRow X e1 e2 e3 L M T → Calls Tryd.prog 12 #[.agg #[.slice m1 L.length k1, .slice m2 M.length k2, .slice m3 T.length k3], .agg #[.slice e1 L.length f1, .slice e2 M.length f2, .slice e3 T.length f3]] X fun e w' => e = .returned (.bool true) ∧ Below X.heap.size X w') := fun X e1 e2 e3 f1 f2 f3 h1 h2 => eqState_same m1 m2 m3 e1 e2 e3 k1 k2 k3 f1 f2 f3 L M T X (by have := HL.out.1; omega) (by have := HL.out.2.1; omega) (by have := HL.out.2.2; omega) h1 h2
  refine wp_region_held_drew (S := fun X' => (X'.cell? ⟨sb, 0, none⟩ = some (.slice m1 L.length k1) ∧ X'.cell? ⟨sb, 1, none⟩ = some (.slice m2 M.length k2) ∧ X'.cell? ⟨sb, 2, none⟩ = some (.slice m3 T.length k3)) ∧ X'.cell? ⟨w.heap.size, 0, none⟩ = some (.slice a1 L.length c1) ∧ X'.cell? ⟨w.heap.size, 1, none⟩ = some (.slice a2 M.length c2) ∧ X'.cell? ⟨w.heap.size, 2, none⟩ = some (.slice a3 T.length c3)) (by kernel_rfl) (HS.out _ D16) (fun hHeld => ?_)
  refine wpAnyH_take (i := 0) (v := ?_) rfl (by kernel_rfl) (by kernel_rfl) (by kernel_rfl) (fun _ _ _ h => h) (Or.inl ⟨by rfl, ?_⟩) (by assumption) ?_
  rotate_left
  focus (intro w hSw; (try dsimp only at hSw); go_simp; first | done | with_reducible rfl)
  try go_simp
  refine wpAnyH_take (i := 1) (v := ?_) rfl (by kernel_rfl) (by kernel_rfl) (by kernel_rfl) (fun _ _ _ h => h) (Or.inl ⟨by rfl, ?_⟩) (by assumption) ?_
  rotate_left
  focus (intro w hSw; (try dsimp only at hSw); go_simp; first | done | with_reducible rfl)
  try go_simp
  refine wpAnyH_ready (rs := [2]) (by kernel_rfl) (by simp) ?_
  refine AllReadyH.cons rfl (fun K hK => ?_) AllReadyH.nil
  go_simp
  go_wp2_with (go_at_call 10; refine (HC.out _ (HQ.out _ D16).2.1).mono ?_; rintro e X17 ⟨e1, e2, e3, f1, f2, f3, rfl, t17, hb17⟩)
  have D17 := bstep D16 D16.size hb17
  refine hK.out _ _ (HS.out _ D17) (fun hHeld => ?_)
  clear hK K
  try go_simp
  refine wpAnyH_ready (rs := [3]) (by kernel_rfl) (by simp) ?_
  refine AllReadyH.cons rfl (fun K hK => ?_) AllReadyH.nil
  go_simp
  go_wp2_with (go_at_call 12; refine (HEQ3.out _ _ _ _ _ _ _ (HQ.out _ D17).2.2.2.1.row t17.row).mono ?_; rintro e X18 ⟨rfl, hb18⟩)
  have D18 := bstep D17 D17.size hb18
  refine hK.out _ _ (HS.out _ D18) (fun hHeld => ?_)
  clear hK K
  try go_simp
  refine wpAnyH_take (i := 4) (v := ?_) rfl (by kernel_rfl) (by kernel_rfl) (by kernel_rfl) (fun _ _ _ h => h) (Or.inl ⟨by rfl, ?_⟩) (by assumption) ?_
  rotate_left
  focus (intro w hSw; (try dsimp only at hSw); go_simp; first | done | with_reducible rfl)
  try go_simp
  refine wpAnyH_done (by kernel_rfl) ?_ _
  have O6 := owns_below (owns_below (owns_below O6 (Below.refl _ _).drew) hb17) hb18
  obtain ⟨P18, C18, t9, o5, o3, o4⟩ := HQ.out _ D18
  clear hHeld hb17 hb18 t17
  -- the marks
  go_wp2_with fail
  refine (markSteps_any X8.heap.size X9.heap.size _ y9 _ o4 (by rw [HY9.out.2]; exact HX.out.1) (by rw [HY9.out.1]; exact HX.out.2) HC4.out.1 HC4.out.2).mono ?_
  rintro e X19 ⟨y19, rfl, _, _, t19⟩
  have C19 : Below X0.heap.size X0 X19 := t19.below C18 HSZ9.out.1
  have hz1 := HSZ9.out
  have hz2 := HSZ10.out
  have P19 := P18.touch t19 (.inr hz2.1)
  have o5 := o5.touch t19
  have o3 := owns_touch o3 t19 (fun k hk => .inl (HL3.out k hk))
  have O6 := owns_touch O6 t19 (fun k hk => .inr (by have := HL6.out k hk; omega))
  have hk19 : 0 ≤ (1 + 2 * (y9.length : Int) + (sumT (y9.map (·.1)) : Int)) ∧ (1 + 2 * (y9.length : Int) + (sumT (y9.map (·.1)) : Int)) ≤ 6000000 := by
    have q1 := HY9.out
    have q2 := HX.out
    rw [q1.1]
    omega
  generalize (1 + 2 * (y9.length : Int) + (sumT (y9.map (·.1)) : Int)) = K19 at hk19 ⊢
  have hsz19 : sb ≤ X19.heap.size := by have := D18.size; have := t19.size; omega
  obtain ⟨p0, p1, p2⟩ := P19
  clear t19 o4 P18 hz1 hz2
  go_wp2_with fail
  refine (markState_gen X9.heap.size sb K19 hk19.1 hk19.2 m1 m2 m3 k1 k2 k3 L M T _ HL.out.1 HL.out.2.1 HL.out.2.2 o5 hsz19 HC5.out.1 HC5.out.2.1 HC5.out.2.2).mono ?_
  rintro e X20 ⟨rfl, _, t20⟩
  have hz1 := HSZ9.out
  have hz2 := HSZ10.out
  have C20 : Below X0.heap.size X0 X20 := t20.below C19 (by omega)
  have o3 := owns_touch o3 t20 (fun k hk => .inl (by have := HL3.out k hk; omega))
  have O6 := owns_touch O6 t20 (fun k hk => .inr (by have := HL6.out k hk; omega))
  have hk20 : ¬ (K19 + (L.length : Int) + (M.length : Int) + (T.length : Int)) < 0 := by omega
  generalize (K19 + (L.length : Int) + (M.length : Int) + (T.length : Int)) = K20 at hk20 ⊢
  clear t20 hk19 hsz19 p0 p1 p2 hz1 hz2 o5
  go_wp2_with fail
  refine (eqIntS_same z12 z8 k12 k8 D _ (by omega) (own_row O6) (own_row o3)).mono ?_
  rintro e X21 ⟨rfl, q21, hw21⟩
  have hb21 : Below X20.heap.size X20 X21 := by rw [hw21]; exact below_same _ _
  have C21 := bstep C20 C20.size hb21
  have O6 := owns_below O6 hb21
  have o3 := owns_below o3 hb21
  clear hw21 hb21
  go_wp2_with fail
  refine (markI_any X11.heap.size _ D 1 _ (by omega) (by omega) (by omega) O6).mono ?_
  rintro e X22 ⟨rfl, O22, g22⟩
  have C22 : Below X0.heap.size X0 X22 := C21.grown g22 C21.size (fun k hk => by have := HL6.out k hk; have := HSZ9.out; have := HSZ10.out; omega)
  have o3 := own_kept o3 g22 (fun g e e' => by have := HL3.out g e; have := HL6.out g e'; have := HSZ9.out; have := HSZ10.out; omega)
  have r22 := row_marks O22
  clear O22 g22 O6
  go_wp2_with fail
  refine (heldI_any z12 k12 D.length 1 _ (by omega) (by omega) (by omega) r22).mono ?_
  rintro e X23 ⟨rfl, hw23⟩
  subst X23
  have hk12' : ¬ (1 + (D.length : Int)) < 0 := by omega
  go_wp2_with fail
  have C24 := C22.drew
  refine wp_region_held_drew (S := fun X' => X'.cell? ⟨w.heap.size, 0, none⟩ = some (.slice a1 L.length c1) ∧ X'.cell? ⟨w.heap.size, 1, none⟩ = some (.slice a2 M.length c2) ∧ X'.cell? ⟨w.heap.size, 2, none⟩ = some (.slice a3 T.length c3)) (by kernel_rfl) (HP.out _ C24).1 (fun hHeld => ?_)
  refine wpAnyH_take (i := 0) (v := ?_) rfl (by kernel_rfl) (by kernel_rfl) (by kernel_rfl) (fun _ _ _ h => h) (Or.inl ⟨by rfl, ?_⟩) (by assumption) ?_
  rotate_left
  focus (intro w hSw; (try dsimp only at hSw); go_simp; first | done | with_reducible rfl)
  try go_simp
  refine wpAnyH_take (i := 2) (v := ?_) rfl (by kernel_rfl) (by kernel_rfl) (by kernel_rfl) (fun _ _ _ h => h) (Or.inl ⟨by rfl, ?_⟩) (by assumption) ?_
  rotate_left
  focus (intro w hSw; (try dsimp only at hSw); go_simp; first | done | with_reducible rfl)
  try go_simp
  refine wpAnyH_take (i := 4) (v := ?_) rfl (by kernel_rfl) (by kernel_rfl) (by kernel_rfl) (fun _ _ _ h => h) (Or.inl ⟨by rfl, ?_⟩) (by assumption) ?_
  rotate_left
  focus (intro w hSw; (try dsimp only at hSw); go_simp; first | done | with_reducible rfl)
  try go_simp
  refine wpAnyH_ready (rs := [1]) (by kernel_rfl) (by simp) ?_
  refine AllReadyH.cons rfl (fun K hK => ?_) AllReadyH.nil
  go_simp
  go_wp2_with (go_at_call 9; refine (HA.out _ C24).mono ?_; rintro e X25 ⟨⟨x25, d25, rfl, t25⟩, hb25⟩)
  have C25 := bstep C24 C24.size hb25
  refine hK.out _ _ (HP.out _ C25).1 (fun hHeld => ?_)
  clear hK K
  try go_simp
  refine wpAnyH_ready (rs := [3]) (by kernel_rfl) (by simp) ?_
  refine AllReadyH.cons rfl (fun K hK => ?_) AllReadyH.nil
  go_simp
  go_wp2_with (go_at_call 10; refine (HC.out _ C25).mono ?_; rintro e X26 ⟨b1, b2, b3, g1, g2, g3, rfl, o26, hb26⟩)
  have C26 := bstep C25 C25.size hb26
  have HTT := hid (And.intro (t25.below hb26) o26.row)
  refine hK.out _ _ (HP.out _ C26).1 (fun hHeld => ?_)
  clear hK K
  try go_simp
  refine wpAnyH_ready (rs := [5]) (by kernel_rfl) (by simp) ?_
  refine AllReadyH.cons rfl (fun K hK => ?_) AllReadyH.nil
  go_simp
  go_wp2_with (go_at_call 18; refine (HIP.out _ _ _ _ _ _ _ _ _ (HP.out _ C26).2 HTT.out.1 HTT.out.2).mono ?_; rintro e X27 ⟨⟨z27, k27, rfl, O27⟩, hb27⟩)
  have C27 := bstep C26 C26.size hb27
  refine hK.out _ _ (HP.out _ C27).1 (fun hHeld => ?_)
  clear hK K
  try go_simp
  refine wpAnyH_take (i := 6) (v := ?_) rfl (by kernel_rfl) (by kernel_rfl) (by kernel_rfl) (fun _ _ _ h => h) (Or.inl ⟨by rfl, ?_⟩) (by assumption) ?_
  rotate_left
  focus (intro w hSw; (try dsimp only at hSw); go_simp; first | done | with_reducible rfl)
  try go_simp
  refine wpAnyH_take (i := 7) (v := ?_) rfl (by kernel_rfl) (by kernel_rfl) (by kernel_rfl) (fun _ _ _ h => h) (Or.inl ⟨by rfl, ?_⟩) (by assumption) ?_
  rotate_left
  focus (intro w hSw; (try dsimp only at hSw); go_simp; first | done | with_reducible rfl)
  try go_simp
  refine wpAnyH_take (i := 8) (v := ?_) rfl (by kernel_rfl) (by kernel_rfl) (by kernel_rfl) (fun _ _ _ h => h) (Or.inl ⟨by rfl, ?_⟩) (by assumption) ?_
  rotate_left
  focus (intro w hSw; (try dsimp only at hSw); go_simp; first | done | with_reducible rfl)
  try go_simp
  refine wpAnyH_take (i := 9) (v := ?_) rfl (by kernel_rfl) (by kernel_rfl) (by kernel_rfl) (fun _ _ _ h => h) (Or.inl ⟨by rfl, ?_⟩) (by assumption) ?_
  rotate_left
  focus (intro w hSw; (try dsimp only at hSw); go_simp; first | done | with_reducible rfl)
  try go_simp
  refine wpAnyH_take (i := 10) (v := ?_) rfl (by kernel_rfl) (by kernel_rfl) (by kernel_rfl) (fun _ _ _ h => h) (Or.inl ⟨by rfl, ?_⟩) (by assumption) ?_
  rotate_left
  focus (intro w hSw; (try dsimp only at hSw); go_simp; first | done | with_reducible rfl)
  try go_simp
  refine wpAnyH_done (by kernel_rfl) ?_ _
  have bb := bstep (bstep (bstep (Below.refl X22.heap.size X22).drew (Nat.le_refl _) hb25) (Nat.le_trans hb25.size (Nat.le_refl _)) hb26) (Nat.le_trans hb25.size hb26.size) hb27
  have o3 := owns_below o3 bb
  have r22 := r22.below bb
  clear hHeld hb25 hb26 hb27 t25 o26 HTT bb
  go_wp2_with fail
  refine (eqIntS_same z27 z8 k27 k8 D _ (by omega) (own_row O27) (own_row o3)).mono ?_
  rintro e X28 ⟨rfl, q28, hw28⟩
  have hb28 : Below X27.heap.size X27 X28 := by rw [hw28]; exact below_same _ _
  have C28 := bstep C27 C27.size hb28
  have r22 := r22.below hb28
  clear hw28 hb28 O27 o3
  go_wp2_with fail
  refine (heldI_any z12 k12 D.length 1 _ (by omega) (by omega) (by omega) r22).mono ?_
  rintro e X29 ⟨rfl, hw29⟩
  subst X29
  have HBB := hid (HP.out _ C28).2
  go_wp2
  go_ret
  exact ⟨rfl, HBB.out⟩
end Go.Proofs.YthkkhinmdlmhkaaDoor
