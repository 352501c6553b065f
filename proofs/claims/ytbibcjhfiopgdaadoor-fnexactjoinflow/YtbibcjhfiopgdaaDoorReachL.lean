/- The law on ReachIn is true at every flow. -/
import Derived.Test.YtbibcjhfiopgdaaDoorReachI
import Derived.Test.YtbibcjhfiopgdaaDoorMarkB
import Derived.Test.YtbibcjhfiopgdaaDoorLawGood6
namespace Go.Proofs.YtbibcjhfiopgdaaDoor
open Go.RowKit
set_option linter.unusedVariables false
set_option linter.unusedSimpArgs false
set_option maxRecDepth 100000

theorem exists_rch {f : List Blk} (hg : goodFlow f = true) : ∃ l, IsRch f l ∧ l.length ≤ 64 := by
  classical
  refine ⟨(List.range f.length).filter (fun k => decide (Rch f k)), ⟨List.Pairwise.filter _ List.pairwise_lt_range, fun k => ?_⟩, ?_⟩
  · simp only [List.mem_filter, List.mem_range, decide_eq_true_eq]
    exact ⟨fun h => h.2, fun h => ⟨h.lt hg, h⟩⟩
  · have h1 := List.length_filter_le (fun k => decide (Rch f k)) (List.range f.length)
    have h2 := flow_pos hg
    simp at h1; omega
theorem IsRch.len {f : List Blk} {l : List Nat} (h : IsRch f l) (hg : goodFlow f = true) : l.length ≤ 64 := by
  obtain ⟨m, hm, hl⟩ := exists_rch hg
  rw [h.unique hm]; exact hl
/-- what ReachIn tells -/
def ReachY (f : List Blk) (ys : List Int) : Prop := (goodFlow f = true → ∃ l, IsRch f l ∧ ys = nats l) ∧ (goodFlow f = false → ys = [])
theorem exists_reachY (f : List Blk) : ∃ ys, ReachY f ys ∧ ys.length ≤ 64 := by
  cases hg : goodFlow f with
  | true =>
    obtain ⟨l, hl, h64⟩ := exists_rch hg
    exact ⟨nats l, ⟨fun _ => ⟨l, hl, rfl⟩, fun h => (by rw [hg] at h; cases h)⟩, by rw [nats_length]; exact h64⟩
  | false => exact ⟨[], ⟨fun h => (by rw [hg] at h; cases h), fun _ => rfl⟩, by simp⟩
theorem sReachIn_any (a : Option Addr) (c : Nat) (f : List Blk) (ys : List Int) (w : World) (hl : f.length ≤ 1048576) (h : BRow w a f) (hy : ReachY f ys) :
    Calls Tryd.prog 22 #[.slice a f.length c] w fun e w' => (∃ v, e = .returned (.tuple #[v, .bool (goodFlow f)]) ∧ w'.ownsRow w.heap.size 3 1 v ys.length (ints ys)) ∧ Below w.heap.size w w' := by
  have H := hid h
  have HY := hid hy
  clear h hy
  cases hg : goodFlow f with
  | false =>
    have HE := hid (HY.out.2 hg)
    have HG := hid (sGoodF_any a c f w (by omega) H.out)
    rw [hg] at HG
    clear hg
    go_enter Tryd.func22, Tryd.ntmps22
    go_wp2_with fail
    refine HG.out.mono ?_
    rintro e w1 ⟨rfl, hb1⟩
    go_wp2
    go_ret2
    refine ⟨⟨_, rfl, ?_⟩, hb1⟩
    rw [HE.out]; exact World.ownsRow_nil _ _ _ _
  | true =>
    have HE := hid (HY.out.1 hg)
    have HGD := hid hg
    have HG := hid (sGoodF_any a c f w (by omega) H.out)
    rw [hg] at HG
    clear hg
    go_enter Tryd.func22, Tryd.ntmps22
    go_wp2_with fail
    refine HG.out.mono ?_
    rintro e w1 ⟨rfl, hb1⟩
    go_wp2_with fail
    refine (sReach_any a c f _ HGD.out (H.out.below hb1)).mono ?_
    rintro e w2 ⟨va, vc, l, rfl, hr, ho, hb2⟩
    have HR := hid (And.intro hr ho)
    have HB := hid (And.intro hb1.size (bstep' hb1 hb2))
    clear hr ho hb1 hb2
    go_wp2
    go_ret2
    refine ⟨⟨_, rfl, ?_⟩, HB.out.2⟩
    obtain ⟨l', hl', hy⟩ := HE.out
    rw [hy, hl'.unique HR.out.1, nats_length]
    exact owns_mono HR.out.2 HB.out.1
theorem iReachIn_any (a : Option Addr) (c : Nat) (f : List Blk) (ys : List Int) (w : World) (hl : f.length ≤ 1048576) (h : BRow w a f) (hT : Tab w) (hy : ReachY f ys) :
    Calls Tryd.prog 23 #[.slice a f.length c] w fun e w' => (∃ v, e = .returned (.tuple #[v, .bool (goodFlow f)]) ∧ w'.ownsRow w.heap.size 3 1 v ys.length (ints ys)) ∧ Below w.heap.size w w' := by
  have H := hid h
  have HY := hid hy
  have HTT := hid hT
  clear h hy hT
  cases hg : goodFlow f with
  | false =>
    have HE := hid (HY.out.2 hg)
    have HG := hid (iGoodF_any a c f w (by omega) H.out HTT.out)
    rw [hg] at HG
    clear hg
    go_enter Tryd.func23, Tryd.ntmps23
    go_wp2_with fail
    refine HG.out.mono ?_
    rintro e w1 ⟨rfl, hb1⟩
    go_wp2
    go_ret2
    refine ⟨⟨_, rfl, ?_⟩, hb1⟩
    rw [HE.out]; exact World.ownsRow_nil _ _ _ _
  | true =>
    have HE := hid (HY.out.1 hg)
    have HGD := hid hg
    have HG := hid (iGoodF_any a c f w (by omega) H.out HTT.out)
    rw [hg] at HG
    clear hg
    go_enter Tryd.func23, Tryd.ntmps23
    go_wp2_with fail
    refine HG.out.mono ?_
    rintro e w1 ⟨rfl, hb1⟩
    go_wp2_with fail
    refine (iReach_any a c f _ HGD.out (H.out.below hb1)).mono ?_
    rintro e w2 ⟨va, vc, l, rfl, hr, ho, hb2⟩
    have HR := hid (And.intro hr ho)
    have HB := hid (And.intro hb1.size (bstep' hb1 hb2))
    clear hr ho hb1 hb2
    go_wp2
    go_ret2
    refine ⟨⟨_, rfl, ?_⟩, HB.out.2⟩
    obtain ⟨l', hl', hy⟩ := HE.out
    rw [hy, hl'.unique HR.out.1, nats_length]
    exact owns_mono HR.out.2 HB.out.1
end Go.Proofs.YtbibcjhfiopgdaaDoor
