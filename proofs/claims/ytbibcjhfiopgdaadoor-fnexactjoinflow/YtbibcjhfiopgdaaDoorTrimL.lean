/- What both TrimFlow tell. -/
import Derived.Test.YtbibcjhfiopgdaaDoorTrim7
import Derived.Test.YtbibcjhfiopgdaaDoorMarkC
import Derived.Test.YtbibcjhfiopgdaaDoorReachL
namespace Go.Proofs.YtbibcjhfiopgdaaDoor
open Go.RowKit
set_option linter.unusedVariables false
set_option linter.unusedSimpArgs false
set_option maxRecDepth 100000

theorem good_len {m : Nat} {b : Blk} (h : goodBlk m b = true) : b.code.length ≤ 60 ∧ b.next.length ≤ 6 := by
  simp only [goodBlk, Bool.and_eq_true, decide_eq_true_eq] at h
  refine ⟨h.2.2.1, ?_⟩
  have hw := h.2.2.2
  unfold waysB at hw
  split at hw
  · simp at hw; omega
  · split at hw
    · simp at hw; omega
    · split at hw
      · simp at hw; have := inB_yes hw.1; omega
      · split at hw
        · simp at hw; simp [hw.1]
        · cases hw
theorem trimB_len {f : List Blk} {l : List Nat} (hg : goodFlow f = true) (hl : l.length ≤ 64) : (trimB f l).length ≤ 64 ∧ sumB (trimB f l) ≤ 4224 := by
  have h1 : (trimB f l).length ≤ l.length := List.length_filterMap_le _ _
  have h2 : ∀ x ∈ trimB f l, x.code.length + x.next.length ≤ 66 := by
    intro x hx
    obtain ⟨k, _, hk⟩ := List.mem_filterMap.1 hx
    cases hb : f[k]? with
    | none => rw [hb] at hk; cases hk
    | some b =>
      rw [hb] at hk
      simp only [goodFlow, Bool.and_eq_true] at hg
      have h3 := good_len (all_at hg.1 hb)
      have := Option.some.inj hk
      subst this
      simp [newBlk, newNext_length]
      omega
  have h3 : ∀ (xs : List Blk), (∀ x ∈ xs, x.code.length + x.next.length ≤ 66) → sumB xs ≤ 66 * xs.length := by
    intro xs
    induction xs with
    | nil => intro _; simp [sumB]
    | cons x r ih =>
      intro hx
      have h4 := hx x (by simp)
      have h5 := ih (fun y hy => hx y (by simp [hy]))
      simp [sumB] at h5 ⊢
      omega
  have h4 := h3 _ h2
  omega
/-- what TrimFlow tells -/
def TrimY (f T : List Blk) (N : List Int) : Prop := (goodFlow f = true → ∃ l, IsRch f l ∧ T = trimB f l ∧ N = numsJ l f.length) ∧ (goodFlow f = false → T = [] ∧ N = [])
theorem exists_trimY (f : List Blk) : ∃ T N, TrimY f T N ∧ T.length ≤ 64 ∧ sumB T ≤ 4224 ∧ N.length ≤ 64 := by
  cases hg : goodFlow f with
  | true =>
    obtain ⟨l, hl, h64⟩ := exists_rch hg
    have h1 := trimB_len hg h64
    have h2 := flow_pos hg
    exact ⟨_, _, ⟨fun _ => ⟨l, hl, rfl, rfl⟩, fun h => (by rw [hg] at h; cases h)⟩, h1.1, h1.2, by rw [numsJ_length]; exact h2.2⟩
  | false => exact ⟨[], [], ⟨fun h => (by rw [hg] at h; cases h), fun _ => ⟨rfl, rfl⟩⟩, by simp, by simp [sumB], by simp⟩
theorem Sep.rot {w : World} {B : Nat} {x : OR} {l : List OR} (h : Sep w B (x :: l)) : Sep w B (l ++ [x]) := by
  have hp := List.pairwise_cons.1 h.2
  refine ⟨fun y hy => ?_, List.pairwise_append.2 ⟨hp.2, List.pairwise_singleton _ _, fun a ha b hb => ?_⟩⟩
  · rcases List.mem_append.1 hy with hy | hy
    · exact h.1 y (List.mem_cons_of_mem _ hy)
    · simp at hy; subst hy; exact h.1 y (by simp)
  · simp at hb; subst hb; exact (hp.1 a ha).symm
/-- blocks and numbers that are owned -/
def TrimO (w : World) (B : Nat) (v : Value) (na : Option Addr) (nc : Nat) (zs : List BV) (N : List Int) : Prop := OwnQ w B v zs [⟨3, 1, .slice na N.length nc, N.length, ints N⟩]
theorem sTrimFlow_any (a : Option Addr) (c : Nat) (f T : List Blk) (N : List Int) (w : World) (hl : f.length ≤ 1048576) (hs : sumB f ≤ 1048576) (h : BRow w a f) (hy : TrimY f T N) :
    Calls Tryd.prog 27 #[.slice a f.length c] w fun e w' => (∃ v na nc zs, e = .returned (.tuple #[v, .slice na N.length nc, .bool (goodFlow f)]) ∧ TrimO w' w.heap.size v na nc zs N ∧ blks zs = T) ∧ Below w.heap.size w w' := by
  have H := hid (And.intro h hs)
  have HY := hid hy
  skip
  clear h hy hs 
  cases hg : goodFlow f with
  | false =>
    have HE := hid (HY.out.2 hg)
    have HG := hid (sGoodF_any a c f w (by omega) H.out.1)
    rw [hg] at HG
    clear hg
    go_enter Tryd.func27, Tryd.ntmps27
    go_wp2_with fail
    refine HG.out.mono ?_
    rintro e w1 ⟨rfl, hb1⟩
    go_wp2
    go_ret3
    obtain ⟨rfl, rfl⟩ := HE.out
    refine ⟨⟨_, none, 0, [], rfl, ?_, rfl⟩, hb1⟩
    refine ⟨fun x hx => ?_, by simp [rowsB, apt, Value.ownBlock]⟩
    simp only [rowsB, List.flatMap_nil, List.cons_append, List.nil_append, List.mem_cons, List.not_mem_nil, or_false] at hx
    rcases hx with rfl | rfl
    · exact World.ownsRow_nil _ _ _ _
    · exact World.ownsRow_nil _ _ _ _
  | true =>
    have HE := hid (HY.out.1 hg)
    have HGD := hid hg
    have HG := hid (sGoodF_any a c f w (by omega) H.out.1)
    rw [hg] at HG
    clear hg
    go_enter Tryd.func27, Tryd.ntmps27
    go_wp2_with fail
    refine HG.out.mono ?_
    rintro e w1 ⟨rfl, hb1⟩
    go_wp2_with fail
    refine (sTrim_any a c f _ HGD.out H.out.2 (H.out.1.below hb1)).mono ?_
    rintro e w2 ⟨v, na, nc, zs, l, rfl, hr, ho, hz, hb2⟩
    have HR := hid (And.intro hr (And.intro ho hz))
    have HB := hid (And.intro hb1.size (bstep' hb1 hb2))
    clear hr ho hz hb1 hb2
    go_wp2
    go_ret3
    obtain ⟨l', hl', rfl, rfl⟩ := HE.out
    obtain rfl := hl'.unique HR.out.1
    refine ⟨⟨_, na, nc, zs, by rw [numsJ_length]; rfl, ?_, HR.out.2.2⟩, HB.out.2⟩
    have := Sep.rot (Sep.mono HR.out.2.1 HB.out.1)
    unfold TrimO OwnQ
    rw [numsJ_length]
    exact this
theorem iTrimFlow_any (a : Option Addr) (c : Nat) (f T : List Blk) (N : List Int) (w : World) (hl : f.length ≤ 1048576) (hs : sumB f ≤ 1048576) (h : BRow w a f) (hT : Tab w) (hy : TrimY f T N) :
    Calls Tryd.prog 28 #[.slice a f.length c] w fun e w' => (∃ v na nc zs, e = .returned (.tuple #[v, .slice na N.length nc, .bool (goodFlow f)]) ∧ TrimO w' w.heap.size v na nc zs N ∧ blks zs = T) ∧ Below w.heap.size w w' := by
  have H := hid (And.intro h hs)
  have HY := hid hy
  have HTT := hid hT
  clear h hy hs hT
  cases hg : goodFlow f with
  | false =>
    have HE := hid (HY.out.2 hg)
    have HG := hid (iGoodF_any a c f w (by omega) H.out.1 HTT.out)
    rw [hg] at HG
    clear hg
    go_enter Tryd.func28, Tryd.ntmps28
    go_wp2_with fail
    refine HG.out.mono ?_
    rintro e w1 ⟨rfl, hb1⟩
    go_wp2
    go_ret3
    obtain ⟨rfl, rfl⟩ := HE.out
    refine ⟨⟨_, none, 0, [], rfl, ?_, rfl⟩, hb1⟩
    refine ⟨fun x hx => ?_, by simp [rowsB, apt, Value.ownBlock]⟩
    simp only [rowsB, List.flatMap_nil, List.cons_append, List.nil_append, List.mem_cons, List.not_mem_nil, or_false] at hx
    rcases hx with rfl | rfl
    · exact World.ownsRow_nil _ _ _ _
    · exact World.ownsRow_nil _ _ _ _
  | true =>
    have HE := hid (HY.out.1 hg)
    have HGD := hid hg
    have HG := hid (iGoodF_any a c f w (by omega) H.out.1 HTT.out)
    rw [hg] at HG
    clear hg
    go_enter Tryd.func28, Tryd.ntmps28
    go_wp2_with fail
    refine HG.out.mono ?_
    rintro e w1 ⟨rfl, hb1⟩
    go_wp2_with fail
    refine (iTrim_any a c f _ HGD.out H.out.2 (H.out.1.below hb1)).mono ?_
    rintro e w2 ⟨v, na, nc, zs, l, rfl, hr, ho, hz, hb2⟩
    have HR := hid (And.intro hr (And.intro ho hz))
    have HB := hid (And.intro hb1.size (bstep' hb1 hb2))
    clear hr ho hz hb1 hb2
    go_wp2
    go_ret3
    obtain ⟨l', hl', rfl, rfl⟩ := HE.out
    obtain rfl := hl'.unique HR.out.1
    refine ⟨⟨_, na, nc, zs, by rw [numsJ_length]; rfl, ?_, HR.out.2.2⟩, HB.out.2⟩
    have := Sep.rot (Sep.mono HR.out.2.1 HB.out.1)
    unfold TrimO OwnQ
    rw [numsJ_length]
    exact this
end Go.Proofs.YtbibcjhfiopgdaaDoor
