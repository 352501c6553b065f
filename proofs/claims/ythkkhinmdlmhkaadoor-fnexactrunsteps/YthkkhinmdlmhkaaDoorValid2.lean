/- What the model's ValidSteps answers at every code, and what it tells of valid code. -/
import Derived.Test.YthkkhinmdlmhkaaDoorL4a
import Derived.Test.YthkkhinmdlmhkaaDoorValid1
namespace Go.Proofs.YthkkhinmdlmhkaaDoor
open Go.RowKit
set_option linter.unusedVariables false
set_option linter.unusedSimpArgs false
set_option maxRecDepth 100000

theorem alloc_cells {W : World} {g : Nat} {cs : List Value} (o : Obj) (h : ∀ j v, cs[j]? = some v → W.cell? ⟨g, j, none⟩ = some v) : ∀ j v, cs[j]? = some v → (W.alloc o).drew.cell? ⟨g, j, none⟩ = some v := fun j v hj => below_cell o (h j v hj)
def heightsR : WR → List Int
  | .bad _ _ => []
  | .fine hs _ => hs
def reachR : WR → List Bool
  | .bad _ _ => []
  | .fine _ rs => rs
/-- what l4Valid answers -/
def l4vAns (B : Nat) (w' : World) (e : Ending) : WR → Prop
  | .bad _ _ => ∃ ha hn hc da dn dc k p, e = .returned (.tuple #[.agg #[.slice ha hn hc, .slice da dn dc, .int .i64 k, .int .i64 p], .bool false])
  | .fine hs rs => ∃ ha hc da dc k p ds, e = .returned (.tuple #[.agg #[.slice ha hs.length hc, .slice da ds.length dc, .int .i64 k, .int .i64 p], .bool true]) ∧ rs = nots ds ∧ w'.ownsRow B 3 1 (.slice ha hs.length hc) hs.length (ints hs) ∧ w'.ownsRow B 4 1 (.slice da ds.length dc) ds.length (bools ds) ∧ ((Value.slice ha hs.length hc).ownBlock = none ∨ (Value.slice ha hs.length hc).ownBlock ≠ (Value.slice da ds.length dc).ownBlock)

set_option maxHeartbeats 4000000 in
/-- the model's l4Valid -/
theorem l4Valid_any (a : Option Addr) (c : Nat) (xs : List Stp) (w : World) (hl : xs.length ≤ 1048576) (h : TRow w a xs) :
    Calls Tryd.prog 26 #[.slice a xs.length c] w fun e w' => l4vAns w.heap.size w' e (validR xs) ∧ Below w.heap.size w w' := by
  have hgd := sGoodS_any a c xs (w.alloc (.cells #[.slice none 0 0, .slice none 0 0, .int .i64 0, .int .i64 0] 51)) hl (h.below (below1 w _))
  have HX : Hid (∀ W, Below (w.alloc (.cells #[.slice none 0 0, .slice none 0 0, .int .i64 0, .int .i64 0] 51)).heap.size (w.alloc (.cells #[.slice none 0 0, .slice none 0 0, .int .i64 0, .int .i64 0] 51)) W → Below w.heap.size w W ∧ w.heap.size < W.heap.size ∧ (W.cell? ⟨w.heap.size, 0, none⟩ = some (.slice none 0 0) ∧ W.cell? ⟨w.heap.size, 1, none⟩ = some (.slice none 0 0) ∧ W.cell? ⟨w.heap.size, 2, none⟩ = some (.int .i64 0) ∧ W.cell? ⟨w.heap.size, 3, none⟩ = some (.int .i64 0)) ∧ (W.frozen? ⟨w.heap.size, 0, none⟩ = false ∧ W.frozen? ⟨w.heap.size, 1, none⟩ = false ∧ W.frozen? ⟨w.heap.size, 2, none⟩ = false ∧ W.frozen? ⟨w.heap.size, 3, none⟩ = false)) := by
    intro W hb
    have hs0 := size_alloc1 w (.cells #[.slice none 0 0, .slice none 0 0, .int .i64 0, .int .i64 0] 51)
    have hc : ∀ j, W.cell? ⟨w.heap.size, j, none⟩ = (w.alloc (.cells #[.slice none 0 0, .slice none 0 0, .int .i64 0, .int .i64 0] 51)).cell? ⟨w.heap.size, j, none⟩ := fun j => hb.cell (p := ⟨w.heap.size, j, none⟩) (by simp)
    have hf : ∀ j, W.frozen? ⟨w.heap.size, j, none⟩ = (w.alloc (.cells #[.slice none 0 0, .slice none 0 0, .int .i64 0, .int .i64 0] 51)).frozen? ⟨w.heap.size, j, none⟩ := fun j => hb.frozen (p := ⟨w.heap.size, j, none⟩) (by simp)
    refine ⟨bstep' (below1 w _) hb, by have := hb.size; rw [hs0] at this; omega, ⟨?_, ?_, ?_, ?_⟩, ?_, ?_, ?_, ?_⟩
    all_goals first | (rw [hc]; simp [go_sem]; done) | (rw [hf]; simp [go_sem]; done)
  cases hg : goodS xs with
  | false =>
    rw [hg] at hgd
    rw [validR_bad hg]
    have HG : Hid (Calls Tryd.prog 37 #[.slice a xs.length c] (w.alloc (.cells #[.slice none 0 0, .slice none 0 0, .int .i64 0, .int .i64 0] 51)) fun e w' => e = .returned (.bool false) ∧ Below (w.alloc (.cells #[.slice none 0 0, .slice none 0 0, .int .i64 0, .int .i64 0] 51)).heap.size (w.alloc (.cells #[.slice none 0 0, .slice none 0 0, .int .i64 0, .int .i64 0] 51)) w') := hgd
    clear hgd hg h
    go_enter Tryd.func26, Tryd.ntmps26
    go_wp2_with fail
    refine HG.out.mono ?_
    rintro e w1 ⟨rfl, hb1⟩
    obtain ⟨hb2, hlt, ⟨x0, x1, x2, x3⟩, z0, z1, z2, z3⟩ := HX.out w1 hb1
    have HB : Hid (_) := hb2
    clear hb1 hb2
    go_wp2
    exact bodyPost_ret (v := .tuple #[.agg #[.slice none 0 0, .slice none 0 0, .int .i64 0, .int .i64 0], .bool false]) (res_block_tmp (cs := [.slice none 0 0, .slice none 0 0, .int .i64 0, .int .i64 0]) Tryd.results26 _ _ w.heap.size _ rfl rfl (agg118 _) (size118 _) (set4_cells _ _ _ _ _ _ _ _ _ _ x0 x1 x2 x3)) rfl ⟨⟨_, _, _, _, _, _, _, _, rfl⟩, below_set4 HB.out _ (Nat.le_refl _) _ _ _ _⟩
  | true =>
    rw [hg] at hgd
    have HG : Hid (Calls Tryd.prog 37 #[.slice a xs.length c] (w.alloc (.cells #[.slice none 0 0, .slice none 0 0, .int .i64 0, .int .i64 0] 51)) fun e w' => e = .returned (.bool true) ∧ Below (w.alloc (.cells #[.slice none 0 0, .slice none 0 0, .int .i64 0, .int .i64 0] 51)).heap.size (w.alloc (.cells #[.slice none 0 0, .slice none 0 0, .int .i64 0, .int .i64 0] 51)) w') := hgd
    have HWK : Hid (∀ W, Below w.heap.size w W → Calls Tryd.prog 38 #[.slice a xs.length c] W fun e w' => l4Ans W.heap.size w' xs.length e (validR xs) ∧ Below W.heap.size W w') := fun W hb => l4Walk_good a c xs W (h.below hb) hg
    clear hgd hg h
    cases hr : validR xs with
    | bad k p =>
      rw [hr] at HWK
      clear hr
      go_enter Tryd.func26, Tryd.ntmps26
      go_wp2_with fail
      refine HG.out.mono ?_
      rintro e w1 ⟨rfl, hb1⟩
      go_wp2_with fail
      refine (HWK.out _ (HX.out w1 hb1).1).mono ?_
      rintro e w2 ⟨⟨ha, hn, hc, da, dn, dc, rfl, k1, k4⟩, hb2⟩
      have hb3 := bstep' hb1 hb2
      obtain ⟨hb4, hlt, ⟨x0, x1, x2, x3⟩, z0, z1, z2, z3⟩ := HX.out w2 hb3
      have HB : Hid (_) := hb4
      have k0 : ¬ (k : Int) = 0 := by omega
      have kk : ((k : Int) == 0) = false := beq_eq_false_iff_ne.2 k0
      have e7 : ¬ w.heap.size = w2.heap.size := by omega
      have e8 : ¬ w2.heap.size = w.heap.size := by omega
      clear hb1 hb2 hb3 hb4
      go_wp2
      go_region
      all_goals
        go_wp2
        exact bodyPost_ret (v := .tuple #[.agg #[.slice ha hn hc, .slice da dn dc, .int .i64 k, .int .i64 p], .bool false]) (res_block_tmp (cs := [.slice ha hn hc, .slice da dn dc, .int .i64 k, .int .i64 p]) Tryd.results26 _ _ w.heap.size _ rfl rfl (agg118 _) (size118 _) (alloc_cells _ (set4_cells _ _ _ _ _ _ _ _ _ _ x0 x1 x2 x3))) rfl ⟨⟨_, _, _, _, _, _, _, _, rfl⟩, ((below_set4 HB.out _ (Nat.le_refl _) _ _ _ _).alloc (by simp; omega) _).drew⟩
    | fine hs rs =>
      rw [hr] at HWK
      clear hr
      go_enter Tryd.func26, Tryd.ntmps26
      go_wp2_with fail
      refine HG.out.mono ?_
      rintro e w1 ⟨rfl, hb1⟩
      go_wp2_with fail
      refine (HWK.out _ (HX.out w1 hb1).1).mono ?_
      rintro e w2 ⟨⟨hv, dv, ds, rfl, hrs, o1, o2, hap⟩, hb2⟩
      obtain ⟨ha, hc, rfl⟩ := slice_of_owned o1
      obtain ⟨da, dc, rfl⟩ := slice_of_owned o2
      have hlt1 := (HX.out w1 hb1).2.1
      have hb3 := bstep' hb1 hb2
      obtain ⟨hb4, hlt, ⟨x0, x1, x2, x3⟩, z0, z1, z2, z3⟩ := HX.out w2 hb3
      have HB : Hid (_) := hb4
      have HO : Hid (rs = nots ds ∧ w2.ownsRow w1.heap.size 3 1 (.slice ha hs.length hc) hs.length (ints hs) ∧ w2.ownsRow w1.heap.size 4 1 (.slice da ds.length dc) ds.length (bools ds) ∧ ((Value.slice ha hs.length hc).ownBlock = none ∨ (Value.slice ha hs.length hc).ownBlock ≠ (Value.slice da ds.length dc).ownBlock)) := ⟨hrs, o1, o2, hap⟩
      have e7 : ¬ w.heap.size = w2.heap.size := by omega
      have e8 : ¬ w2.heap.size = w.heap.size := by omega
      clear hb1 hb2 hb3 hb4 hrs o1 o2 hap
      go_wp2
      go_region
      all_goals
        go_wp2
        exact bodyPost_ret (v := .tuple #[.agg #[.slice ha hs.length hc, .slice da ds.length dc, .int .i64 0, .int .i64 xs.length], .bool true]) (res_block_tmp (cs := [.slice ha hs.length hc, .slice da ds.length dc, .int .i64 0, .int .i64 xs.length]) Tryd.results26 _ _ w.heap.size _ rfl rfl (agg118 _) (size118 _) (alloc_cells _ (set4_cells _ _ _ _ _ _ _ _ _ _ x0 x1 x2 x3))) rfl ⟨⟨_, _, _, _, _, _, ds, rfl, HO.out.1, owns_mono (owns_below (own_set4 HO.out.2.1 hlt1 _ _ _ _) ((below1 _ _).drew)) (by omega), owns_mono (owns_below (own_set4 HO.out.2.2.1 hlt1 _ _ _ _) ((below1 _ _).drew)) (by omega), HO.out.2.2.2⟩, ((below_set4 HB.out _ (Nat.le_refl _) _ _ _ _).alloc (by simp; omega) _).drew⟩
end Go.Proofs.YthkkhinmdlmhkaaDoor
