/- The model's reader of choices: whatever bytes it is given it answers numbers in their bounds, and turns nothing but itself. -/
import Derived.Test.YtiadmmnnbnamjaaGreatRowy
import Derived.BigQuiet
import Derived.Deep.QuietTactic
import Derived.WalkSmall
import Derived.Test.YtiadmmnnbnamjaaGreatCopy7
import Derived.Test.YtiadmmnnbnamjaaGreatPost7
import Derived.Deep.RegionHeldLaw
import Derived.Test.YtiadmmnnbnamjaaGreatBackMath8
import Derived.Test.YtiadmmnnbnamjaaGreatScyc8
import Derived.Test.YtiadmmnnbnamjaaGreatLawBB
import Derived.Deep.RegionHeld
namespace Go.Proofs.YtiadmmnnbnamjaaGreat
section
open Go.RowKit
set_option linter.unusedVariables false

theorem and255u (x : Int) : 0 ≤ Go.bits .and .u64 x 255 ∧ Go.bits .and .u64 x 255 ≤ 255 := by
  have key : ((BitVec.ofInt 64 x) &&& (BitVec.ofInt 64 255)).toNat ≤ 255 := by
    rw [BitVec.toNat_and]
    have : (BitVec.ofInt 64 255).toNat = 255 := by decide
    rw [this]
    exact Nat.and_le_right
  have hb : Go.bits .and .u64 x 255 = IntKind.u64.wrap ((((BitVec.ofInt 64 x) &&& (BitVec.ofInt 64 255)).toNat : Nat) : Int) := rfl
  rw [hb, IntKind.wrap_u64]
  generalize ((BitVec.ofInt 64 x) &&& (BitVec.ofInt 64 255)).toNat = k at *
  omega
theorem wrap_small {y : Int} (h : 0 ≤ y ∧ y ≤ 255) : wrap64 y = y := by unfold wrap64; omega

set_option maxHeartbeats 400000 in
theorem next_core (B b off n cap : Nat) (t sd z : Int) (w : World) (hn : n ≤ 9223372036854775807) (h0 : 0 ≤ t) (ht : t < 1099511627776) (h1 : t < n) (hz : 0 ≤ z ∧ z ≤ 255)
    (c0 : w.cell? ⟨B, 0, none⟩ = some (.slice (some ⟨b, off, none⟩) n cap)) (c1 : w.cell? ⟨B, 1, none⟩ = some (.int .i64 t)) (c2 : w.cell? ⟨B, 2, none⟩ = some (.int .u64 sd))
    (f1 : w.frozen? ⟨B, 1, none⟩ = false) (f2 : w.frozen? ⟨B, 2, none⟩ = false) (hc : w.cell? ⟨b, off + t.toNat, none⟩ = some (.int .u8 z)) :
    Calls Tryz.prog 80 #[.pointer (some ⟨B, 0, none⟩)] w fun e w' => ∃ q q' s', e = .returned (.int .i64 z) ∧ w' = (((w.drewN q).setCell ⟨B, 1, none⟩ (.int .i64 (t + 1))).setCell ⟨B, 2, none⟩ (.int .u64 s')).drewN q' := by
  have hd : decide (t < (n : Int)) = true := by simpa using h1
  go_enter Tryz.func80, Tryz.ntmps80
  go_wp2
  go_quiet (fail)
  go_wp2
  go_quiet (fail)
  go_wp2
  go_quiet (fail)
  go_wp2
  go_ret
  exact ⟨_, _, _, rfl, rfl⟩

set_option maxHeartbeats 400000 in
theorem next_past (B n cap : Nat) (a : Option Addr) (t sd : Int) (w : World) (hn : n ≤ 9223372036854775807) (h0 : 0 ≤ t) (h1 : ¬ t < n) (ht : t < 1099511627776)
    (c0 : w.cell? ⟨B, 0, none⟩ = some (.slice a n cap)) (c1 : w.cell? ⟨B, 1, none⟩ = some (.int .i64 t)) (c2 : w.cell? ⟨B, 2, none⟩ = some (.int .u64 sd))
    (f1 : w.frozen? ⟨B, 1, none⟩ = false) (f2 : w.frozen? ⟨B, 2, none⟩ = false) :
    Calls Tryz.prog 80 #[.pointer (some ⟨B, 0, none⟩)] w fun e w' => ∃ q q' s' z, e = .returned (.int .i64 z) ∧ (0 ≤ z ∧ z ≤ 255) ∧ w' = (((w.drewN q).setCell ⟨B, 1, none⟩ (.int .i64 (t + 1))).setCell ⟨B, 2, none⟩ (.int .u64 s')).drewN q' := by
  have hd : decide (t < (n : Int)) = false := by simpa using h1
  go_enter Tryz.func80, Tryz.ntmps80
  go_wp2
  go_quiet (fail)
  go_wp2
  go_quiet (fail)
  go_wp2
  go_ret
  exact ⟨_, _, _, _, rfl, by rw [wrap_small (and255u _)]; exact and255u _, rfl⟩

/-- bytes that can be read, ahead of block n0 -/
def RowB (w : World) (n0 : Nat) (a : Option Addr) (zs : List Int) : Prop := zs = [] ∨ ∃ b off, a = some ⟨b, off, none⟩ ∧ b < n0 ∧ ∀ i, i < zs.length → w.cell? ⟨b, off + i, none⟩ = some (.int .u8 (zs[i]?.getD 0))

/-- a reader of choices in block B, behind at most K choices -/
def Cur (w : World) (n0 B K : Nat) : Prop := n0 ≤ B ∧ ∃ (a : Option Addr) (zs : List Int) (cap : Nat) (t sd : Int),
  w.heap[B]? = some (.cells #[.slice a zs.length cap, .int .i64 t, .int .u64 sd] 54 (0, 0)) ∧ 0 ≤ t ∧ t ≤ K ∧ zs.length ≤ 9223372036854775807 ∧ (∀ z ∈ zs, 0 ≤ z ∧ z ≤ 255) ∧ RowB w n0 a zs

theorem RowB.grown {w w' : World} {n0 : Nat} {row : Option Nat} {a : Option Addr} {zs : List Int} (h : RowB w n0 a zs) (hg : w.grownBy w' row) (hr : ∀ r, row = some r → n0 ≤ r) : RowB w' n0 a zs := by
  rcases h with h | ⟨b, off, ha, hb, hc⟩
  · exact .inl h
  · exact .inr ⟨b, off, ha, hb, fun i hi => hg.cell (hc i hi) (fun e => by have := hr b e.symm; omega)⟩

theorem Cur.grown {w w' : World} {n0 B K : Nat} {row : Option Nat} (h : Cur w n0 B K) (hg : w.grownBy w' row) (hr : ∀ r, row = some r → n0 ≤ r ∧ r ≠ B) : Cur w' n0 B K := by
  obtain ⟨hB, a, zs, cap, t, sd, hb, h0, h1, hl, hz, hrow⟩ := h
  refine ⟨hB, a, zs, cap, t, sd, ?_, h0, h1, hl, hz, hrow.grown hg (fun r e => (hr r e).1)⟩
  rw [hg.block B (Array.getElem?_eq_some_iff.1 hb).1 (fun e => (hr B e.symm).2 rfl)]
  exact hb

theorem Cur.lt {w : World} {n0 B K : Nat} (h : Cur w n0 B K) : B < w.heap.size := by
  obtain ⟨_, a, zs, cap, t, sd, hb, _⟩ := h
  exact (Array.getElem?_eq_some_iff.1 hb).1

theorem Cur.more {w : World} {n0 B K K' : Nat} (h : Cur w n0 B K) (hk : K ≤ K') : Cur w n0 B K' := by
  obtain ⟨hB, a, zs, cap, t, sd, hb, h0, h1, hl, hz, hrow⟩ := h
  exact ⟨hB, a, zs, cap, t, sd, hb, h0, by omega, hl, hz, hrow⟩

theorem grownBy_trans {a b c : World} {row : Option Nat} (h : a.grownBy b row) (k : b.grownBy c row) : a.grownBy c row :=
  ⟨k.os.trans h.os, k.tape.trans h.tape, k.output.trans h.output, Nat.le_trans h.size k.size, fun i hi hne => (k.block i (Nat.lt_of_lt_of_le hi h.size) hne).trans (h.block i hi hne)⟩

theorem grownBy_set (w : World) (B j : Nat) (v : Value) : w.grownBy (w.setCell ⟨B, j, none⟩ v) (some B) :=
  ⟨rfl, rfl, rfl, by simp, fun k _ hk => heap_setCell_other w ⟨B, j, none⟩ k v (fun e => hk (by simp [e]))⟩

theorem grownBy_drewN (w : World) (q : Nat) (row : Option Nat) : w.grownBy (w.drewN q) row := ⟨rfl, rfl, rfl, Nat.le_refl _, fun _ _ _ => rfl⟩

/-- one choice more -/
theorem next_any (n0 B K : Nat) (w : World) (h : Cur w n0 B K) (hK : K ≤ 1000000) :
    Calls Tryz.prog 80 #[.pointer (some ⟨B, 0, none⟩)] w fun e w' => ∃ z, e = .returned (.int .i64 z) ∧ (0 ≤ z ∧ z ≤ 255) ∧ Cur w' n0 B (K + 1) ∧ w.grownBy w' (some B) := by
  obtain ⟨hB, a, zs, cap, t, sd, hb, h0, h1, hl, hz, hrow⟩ := h
  have c0 : w.cell? ⟨B, 0, none⟩ = some (.slice a zs.length cap) := by rw [Lib.cell_of_heap hb]; rfl
  have c1 : w.cell? ⟨B, 1, none⟩ = some (.int .i64 t) := by rw [Lib.cell_of_heap hb]; rfl
  have c2 : w.cell? ⟨B, 2, none⟩ = some (.int .u64 sd) := by rw [Lib.cell_of_heap hb]; rfl
  have f1 : w.frozen? ⟨B, 1, none⟩ = false := Lib.frozen_of_heap hb 1
  have f2 : w.frozen? ⟨B, 2, none⟩ = false := Lib.frozen_of_heap hb 2
  have fin : ∀ (q q' : Nat) (s' : Int), Cur ((((w.drewN q).setCell ⟨B, 1, none⟩ (.int .i64 (t + 1))).setCell ⟨B, 2, none⟩ (.int .u64 s')).drewN q') n0 B (K + 1) ∧ w.grownBy ((((w.drewN q).setCell ⟨B, 1, none⟩ (.int .i64 (t + 1))).setCell ⟨B, 2, none⟩ (.int .u64 s')).drewN q') (some B) := by
    intro q q' s'
    have g : w.grownBy ((((w.drewN q).setCell ⟨B, 1, none⟩ (.int .i64 (t + 1))).setCell ⟨B, 2, none⟩ (.int .u64 s')).drewN q') (some B) :=
      grownBy_trans (grownBy_trans (grownBy_trans (grownBy_drewN w q _) (grownBy_set _ B 1 _)) (grownBy_set _ B 2 _)) (grownBy_drewN _ q' _)
    refine ⟨⟨hB, a, zs, cap, t + 1, s', ?_, by omega, by omega, hl, hz, hrow.grown g (fun r e => by cases e; exact hB)⟩, g⟩
    have e1 : ((w.drewN q).setCell ⟨B, 1, none⟩ (.int .i64 (t + 1))).heap[B]? = some (.cells #[.slice a zs.length cap, .int .i64 (t + 1), .int .u64 sd] 54 (0, 0)) := heap_setCell_same (w.drewN q) B 1 _ 54 _ hb
    exact heap_setCell_same _ B 2 _ 54 _ e1
  by_cases hlt : t < zs.length
  · rcases hrow with h | ⟨b, off, rfl, hbn, hc⟩
    · subst h; simp at hlt; omega
    · have hti : t.toNat < zs.length := by omega
      have hcz := hc t.toNat hti
      have hm := hz zs[t.toNat] (List.getElem_mem hti)
      have e : zs[t.toNat]?.getD 0 = zs[t.toNat] := by simp [hti]
      rw [e] at hcz
      refine (next_core B b off zs.length cap t sd _ w hl h0 (by omega) hlt hm c0 c1 c2 f1 f2 hcz).mono ?_
      rintro e w' ⟨q, q', s', rfl, rfl⟩
      exact ⟨_, rfl, hm, fin q q' s'⟩
  · refine (next_past B zs.length cap a t sd w hl h0 hlt (by omega) c0 c1 c2 f1 f2).mono ?_
    rintro e w' ⟨q, q', s', z, rfl, hz', rfl⟩
    exact ⟨z, rfl, hz', fin q q' s'⟩
end

section
open Go.RowKit
set_option linter.unusedVariables false

theorem pick_any (n0 B K : Nat) (n : Int) (w : World) (h : Cur w n0 B K) (hK : K ≤ 900000) (hn : 1 ≤ n) (hm : n ≤ 60000) :
    Calls Tryz.prog 41 #[.pointer (some ⟨B, 0, none⟩), .int .i64 n] w fun e w' => ∃ r, e = .returned (.int .i64 r) ∧ (0 ≤ r ∧ r < n) ∧ Cur w' n0 B (K + 2) ∧ w.grownBy w' (some B) := by
  by_cases h1 : n ≤ 1
  · go_enter Tryz.func41, Tryz.ntmps41
    go_wp2
    go_ret
    exact ⟨0, rfl, by omega, h.more (by omega), World.grownBy.refl _ _⟩
  · by_cases h2 : 200 < n
    · go_enter Tryz.func41, Tryz.ntmps41
      go_wp2_with fail
      refine (next_any n0 B K _ h (by omega)).mono ?_
      rintro e w1 ⟨x, rfl, hx, hc1, hg1⟩
      go_wp2_with fail
      refine (next_any n0 B (K + 1) _ hc1 (by omega)).mono ?_
      rintro e w2 ⟨y, rfl, hy, hc2, hg2⟩
      obtain ⟨hx0, hx1⟩ := hx
      obtain ⟨hy0, hy1⟩ := hy
      go_wp2
      go_ret
      exact ⟨_, rfl, ⟨Int.emod_nonneg _ (by omega), Int.emod_lt_of_pos _ (by omega)⟩, hc2, grownBy_trans hg1 hg2⟩
    · go_enter Tryz.func41, Tryz.ntmps41
      go_wp2_with fail
      refine (next_any n0 B K _ h (by omega)).mono ?_
      rintro e w1 ⟨x, rfl, hx, hc1, hg1⟩
      obtain ⟨hx0, hx1⟩ := hx
      go_wp2
      go_ret
      exact ⟨_, rfl, ⟨Int.emod_nonneg _ (by omega), Int.emod_lt_of_pos _ (by omega)⟩, hc1.more (by omega), hg1⟩

theorem one_any (n0 B K : Nat) (n : Int) (w : World) (h : Cur w n0 B K) (hK : K ≤ 900000) (hn : 1 ≤ n) (hm : n ≤ 60000) :
    Calls Tryz.prog 40 #[.pointer (some ⟨B, 0, none⟩), .int .i64 n] w fun e w' => ∃ r : Bool, e = .returned (.bool r) ∧ Cur w' n0 B (K + 2) ∧ w.grownBy w' (some B) := by
  go_enter Tryz.func40, Tryz.ntmps40
  go_wp2_with fail
  refine (pick_any n0 B K _ _ h hK hn hm).mono ?_
  rintro e w1 ⟨x, rfl, hx, hc1, hg1⟩
  go_wp2
  go_ret
  exact ⟨_, rfl, hc1, hg1⟩
end

section
open Go.RowKit
set_option linter.unusedVariables false
set_option linter.unusedSimpArgs false
set_option maxRecDepth 100000

theorem Sep.aside' {w w' : World} {n B : Nat} {l : List OR} (h : Sep w n l) (hg : w.grownBy w' (some B)) (hB : B < n) : Sep w' n l :=
  ⟨fun x hx => (h.1 x hx).kept hg (by
    have hlt := (h.1 x hx).lt
    by_cases e : x.v.ownBlock = none
    · exact .inl e
    · exact .inr (fun e' => by have := (hlt B e').1; omega)), h.2⟩
theorem cell_grown {w w' : World} {b o B : Nat} {v : Value} (h : w.cell? ⟨b, o, none⟩ = some v) (hg : w.grownBy w' (some B)) (hn : b ≠ B) : w'.cell? ⟨b, o, none⟩ = some v := hg.cell h (fun e => hn (by simpa using e))
theorem frozen_grown {w w' : World} {b o B : Nat} (hb : b < w.heap.size) (hg : w.grownBy w' (some B)) (hn : b ≠ B) : w'.frozen? ⟨b, o, none⟩ = w.frozen? ⟨b, o, none⟩ := by
  have := hg.block b hb (fun e => hn (by simpa using e))
  simp [World.frozen?, this]
/-- a graph that is being made, and the reader beside it -/
structure GSt (w wr : World) (n0 B K : Nat) (oa : Option Addr) (oc : Nat) (ys : List LV) : Prop where
  made : Made wr (w.heap.size + 1) [⟨25, 1, .slice (some ⟨w.heap.size + 1, 0, none⟩) 1 1, 1, [.slice oa ys.length oc]⟩] (.slice oa ys.length oc) ys
  few : ∀ y ∈ ys, y.r.length ≤ 3
  grown : w.grownBy wr (some B)
  cur : Cur wr n0 B K
  size : w.heap.size + 2 ≤ wr.heap.size
  box : wr.cell? ⟨w.heap.size, 0, none⟩ = some (.slice none 0 0)
  frz : wr.frozen? ⟨w.heap.size, 0, none⟩ = false
theorem GSt.on {w wr w' : World} {n0 B K K' : Nat} {oa : Option Addr} {oc : Nat} {ys : List LV} (h : GSt w wr n0 B K oa oc ys) (hB : B < w.heap.size) (hg : wr.grownBy w' (some B)) (hc : Cur w' n0 B K') : GSt w w' n0 B K' oa oc ys where
  made := Sep.aside' h.made hg (by omega)
  few := h.few
  grown := grownBy_trans h.grown hg
  cur := hc
  size := Nat.le_trans h.size hg.size
  box := cell_grown h.box hg (by omega)
  frz := by rw [frozen_grown (by have := h.size; omega) hg (by omega)]; exact h.frz
theorem made_start (w : World) (ob : Nat) (h : w.heap[ob]? = some (.cells #[.slice none 0 0] 25 (0, 0))) : Made w ob [⟨25, 1, .slice (some ⟨ob, 0, none⟩) 1 1, 1, [.slice none 0 0]⟩] (.slice none 0 0) [] := by
  refine ⟨fun y hy => ?_, by simp [apt, Value.ownBlock]⟩
  simp only [List.cons_append, List.nil_append, List.map_nil, List.mem_cons, List.not_mem_nil, or_false] at hy
  rcases hy with rfl | rfl
  · exact cell_own (cs := #[.slice none 0 0]) h rfl (Nat.le_refl _)
  · exact World.ownsRow_nil _ _ _ _
theorem cur_below {w w' : World} {n0 B K : Nat} (h : Cur w n0 B K) (hb : Below w.heap.size w w') : Cur w' n0 B K := h.grown (grownBy_of_below hb none) (fun r e => by cases e)
theorem GSt.start {w : World} {n0 B K : Nat} (h : Cur w n0 B K) : GSt w ((w.alloc (.cells #[.slice none 0 0] 25)).alloc (.cells #[.slice none 0 0] 25)) n0 B K none 0 [] where
  made := by
    refine made_start _ _ ?_
    have := heap_alloc_new (w.alloc (.cells #[.slice none 0 0] 25)) (.cells #[.slice none 0 0] 25)
    rwa [show (w.alloc (.cells #[.slice none 0 0] 25)).heap.size = w.heap.size + 1 by simp] at this
  few := by simp
  grown := grownBy_of_below (below2 w _ _) _
  cur := cur_below h (below2 w _ _)
  size := by simp
  box := by simp [go_sem]
  frz := by simp [go_sem]
theorem frozen_setCell (w : World) (b j : Nat) (u : Value) (a : Addr) : (w.setCell ⟨b, j, none⟩ u).frozen? a = w.frozen? a := by simp [go_sem]

theorem Sep.append' {w w' : World} {B : Nat} {l m : List OR} (h : Sep w B l) (h' : Sep w' B l) (hB : B ≤ w.heap.size) (hm : Sep w' w.heap.size m) : Sep w' B (l ++ m) := by
  refine ⟨fun x hx => ?_, List.pairwise_append.2 ⟨h'.2, hm.2, fun x hx y hy => ?_⟩⟩
  · rcases List.mem_append.1 hx with hx | hx
    · exact h'.1 x hx
    · exact owns_mono (hm.1 x hx) hB
  · by_cases e : x.v.ownBlock = none
    · exact .inl e
    · refine .inr (fun e' => ?_)
      obtain ⟨k, hk⟩ := Option.ne_none_iff_exists'.1 e
      have h1 := (h.1 x hx).lt k hk
      have h2 := (hm.1 y hy).lt k (e' ▸ hk)
      omega
theorem Made.with' {w w' : World} {B : Nat} {pre : List OR} {ov : Value} {ys : List LV} (h : Made w B pre ov ys) (h' : Made w' B pre ov ys) (hB : B ≤ w.heap.size) (y : LV) (hy : w'.ownsRow w.heap.size 3 1 y.v y.r.length (ints y.r)) : Sep w' B (pre ++ ⟨35, 1, ov, ys.length, vals ys⟩ :: (ys ++ [y]).map rowL) := by
  have := Sep.append' h h' hB (m := [rowL y]) ⟨by intro x hx; simp at hx; subst hx; exact hy, by simp⟩
  simpa using this
theorem grown_below {w w1 w2 : World} {B C : Nat} (h : w.grownBy w1 (some B)) (hb : Below C w1 w2) (hC : w.heap.size ≤ C) : w.grownBy w2 (some B) :=
  ⟨hb.os.trans h.os, hb.tape.trans h.tape, hb.output.trans h.output, Nat.le_trans h.size hb.size, fun k hk hn => (hb.block k (by omega)).trans (h.block k hk hn)⟩
theorem Cur.belowC {w w' : World} {n0 B K C : Nat} (h : Cur w n0 B K) (hb : Below C w w') (hC : B < C) : Cur w' n0 B K := by
  obtain ⟨hB, a, zs, cap, t, sd, hx, h0, h1, hl, hz, hrow⟩ := h
  refine ⟨hB, a, zs, cap, t, sd, by rw [hb.block B hC]; exact hx, h0, h1, hl, hz, ?_⟩
  rcases hrow with h | ⟨b, off, ha, hbn, hc⟩
  · exact .inl h
  · exact .inr ⟨b, off, ha, hbn, fun i hi => by rw [hb.cell (p := ⟨b, off + i, none⟩) (by show b < C; omega)]; exact hc i hi⟩

theorem own_addr {w : World} {B n c : Nat} {e : TypeId} {size : Nat} {a : Option Addr} {xs : List Value} (h : w.ownsRow B e size (.slice a n c) n xs) (hn : 0 < n) : ∃ g, a = some ⟨g, 0, none⟩ ∧ B ≤ g ∧ g < w.heap.size := by
  have hlt := h.lt
  obtain ⟨_, h | ⟨g, cap, cs, e1, hb, h2, _⟩⟩ := h
  · exfalso
    rcases h with ⟨h, h0⟩
    injection h with h1 h2 h3
    omega
  · injection e1 with h1 h2 h3
    subst h1
    exact ⟨g, rfl, hlt g rfl⟩

theorem fin18 {w w8 w10 w9 : World} {n0 B K K' g oc vc0 vc9 T : Nat} {r0 : List Int} {va0 va9 : Option Addr} {yt : List LV} {r : Int} (HG : GSt w w8 n0 B K (some ⟨g, 0, none⟩) oc (⟨r0, .slice va0 r0.length vc0⟩ :: yt)) (hT : (⟨r0, .slice va0 r0.length vc0⟩ :: yt : List LV).length = T) (hBl : B < w.heap.size) (hc10 : Cur w10 n0 B K') (hg10 : w8.drew.grownBy w10 (some B))
    (hs9 : Sep w9 (w.heap.size + 1) ([⟨25, 1, .slice (some ⟨w.heap.size + 1, 0, none⟩) 1 1, 1, [.slice (some ⟨g, 0, none⟩) T oc]⟩, ⟨35, 1, .slice (some ⟨g, 0, none⟩) T oc, T, vals (⟨r0, .slice va0 r0.length vc0⟩ :: yt)⟩] ++ ⟨3, 1, .slice va9 (r0.length + 1) vc9, r0.length + 1, ints r0 ++ [.int .i64 r]⟩ :: yt.map rowL)) (hb9 : Below (w.heap.size + 1) (w10.alloc (.cells #[.int .i64 r] 3)) w9) :
    (w9.setCell ⟨g, 0, none⟩ (.slice va9 (r0.length + 1) vc9)).cell? ⟨w.heap.size + 1, 0, none⟩ = some (.slice (some ⟨g, 0, none⟩) T oc) ∧
    (w9.setCell ⟨g, 0, none⟩ (.slice va9 (r0.length + 1) vc9)).cell? ⟨w.heap.size, 0, none⟩ = some (.slice none 0 0) ∧
    (w9.setCell ⟨g, 0, none⟩ (.slice va9 (r0.length + 1) vc9)).frozen? ⟨w.heap.size, 0, none⟩ = false ∧
    Hid (OwnL (w9.setCell ⟨g, 0, none⟩ (.slice va9 (r0.length + 1) vc9)) (w.heap.size + 1) (.slice (some ⟨g, 0, none⟩) T oc) (⟨r0 ++ [r], .slice va9 (r0.length + 1) vc9⟩ :: yt) ∧ Cur (w9.setCell ⟨g, 0, none⟩ (.slice va9 (r0.length + 1) vc9)) n0 B K' ∧ w.grownBy (w9.setCell ⟨g, 0, none⟩ (.slice va9 (r0.length + 1) vc9)) (some B)) := by
  have hsz := HG.size
  have z10 : w.heap.size + 2 ≤ w10.heap.size := Nat.le_trans hsz hg10.size
  have hout := hs9.1 ⟨35, 1, .slice (some ⟨g, 0, none⟩) T oc, T, vals (⟨r0, .slice va0 r0.length vc0⟩ :: yt)⟩ (by simp)
  have hgl := (hout.lt g rfl).1
  have hbx := hs9.1 ⟨25, 1, .slice (some ⟨w.heap.size + 1, 0, none⟩) 1 1, 1, [.slice (some ⟨g, 0, none⟩) T oc]⟩ (by simp)
  have hne : w.heap.size + 1 ≠ g := by
    have h2 := hs9.2
    simp only [List.cons_append, List.pairwise_cons] at h2
    have h3 := h2.1 ⟨35, 1, .slice (some ⟨g, 0, none⟩) T oc, T, vals (⟨r0, .slice va0 r0.length vc0⟩ :: yt)⟩ (by simp)
    rcases h3 with h3 | h3
    · simp [Value.ownBlock] at h3
    · intro e; apply h3; simp [Value.ownBlock, e]
  have B9 : Below (w.heap.size + 1) w10 w9 := ((below1 w10 _).mono (by omega)).trans hb9
  have B9' := B9.setCell (p := ⟨g, 0, none⟩) (by show w.heap.size + 1 ≤ g; exact hgl) (.slice va9 (r0.length + 1) vc9)
  have hx10 : w10.cell? ⟨w.heap.size, 0, none⟩ = some (.slice none 0 0) := cell_grown (w := w8.drew) HG.box hg10 (by omega)
  refine ⟨set_far (rowT_at hbx rfl rfl) (fun e => hne e.symm), ?_, ?_, ?_, ?_, ?_⟩
  · rw [B9'.cell (p := ⟨w.heap.size, 0, none⟩) (by show w.heap.size < _; omega)]; exact hx10
  · rw [B9'.frozen (p := ⟨w.heap.size, 0, none⟩) (by show w.heap.size < _; omega), frozen_grown (w := w8.drew) (by show w.heap.size < w8.heap.size; omega) hg10 (by omega)]; exact HG.frz
  · have h1 := Sep.store [_] hs9 0 (.slice va9 (r0.length + 1) vc9)
    have h2 := Sep.tail h1
    subst hT
    unfold OwnL rowsL
    simpa [vals, rowL, ints] using h2
  · exact hc10.belowC B9' (by omega)
  · exact grown_below (grownBy_trans (grownBy_trans HG.grown (grownBy_drewN w8 1 _)) hg10) B9' (by omega)

set_option maxHeartbeats 8000000 in
theorem graph7_any (n0 B K : Nat) (w : World) (h : Cur w n0 B K) (hK : K ≤ 100000) :
    Calls Tryz.prog 52 #[.pointer (some ⟨B, 0, none⟩)] w fun e w' => ∃ v ys, e = .returned (.agg #[v]) ∧ OwnL w' w.heap.size v ys ∧ ys.length ≤ 13 ∧ Cur w' n0 B (K + 1000) ∧ w.grownBy w' (some B) := by
  have hBl := h.lt
  have G0 := GSt.start h
  clear h
  go_enter Tryz.func52, Tryz.ntmps52
  go_wp2_with fail
  refine (pick_any n0 B K 7 _ G0.cur (by omega) (by omega) (by omega)).mono ?_
  rintro e w1 ⟨x1, rfl, hx1, hc1, hg1⟩
  have G1 := G0.on hBl hg1 hc1
  clear hc1 hg1 G0
  go_wp2_with fail
  refine (one_any n0 B (K + 2) 20 _ G1.cur (by omega) (by omega) (by omega)).mono ?_
  rintro e w2 ⟨r2, rfl, hc2, hg2⟩
  have G2 := G1.on hBl hg2 hc2
  clear hc2 hg2 G1
  obtain ⟨hx10, hx11⟩ := hx1
  obtain ⟨wn, hwn⟩ : ∃ wn : World, wn = w := ⟨_, rfl⟩
  have join : Hid (∀ x : Int, 0 ≤ x → x ≤ 1 → ∃ N : Nat, 12 + x = N ∧ 1 ≤ N ∧ N ≤ 13) := fun x h0 h1 => ⟨(12 + x).toNat, by omega, by omega, by omega⟩
  cases r2
  all_goals first
    | (go_wp2_with fail
       refine (pick_any n0 B (K + 4) 2 _ G2.cur (by omega) (by omega) (by omega)).mono ?_
       rintro e W ⟨x3, rfl, ⟨hx30, hx31⟩, hc3, hg3⟩
       have GW := G2.on hBl hg3 hc3
       obtain ⟨N, hN, hN1, hN2⟩ := join.out x3 hx30 (by omega)
       clear hc3 hg3 G2
       go_wp2
       clear hN hx30 hx31 join hx10 hx11)
    | (obtain ⟨N, hN, hN1, hN2⟩ : ∃ N : Nat, 1 + x1 = N ∧ 1 ≤ N ∧ N ≤ 13 := ⟨(1 + x1).toNat, by omega, by omega, by omega⟩
       have GW := G2.on hBl (World.grownBy.refl _ _) (G2.cur.more (show K + 2 + 2 ≤ K + 6 by omega))
       clear G2
       go_wp2
       clear hN hx10 hx11 join)
  all_goals
    go_loopw [5] (fun t5 wr => ∃ (k : Nat) (oa : Option Addr) (oc : Nat) (ys : List LV), t5 = .int .i64 k ∧ k ≤ N ∧ ys.length = k ∧ GSt w wr n0 B (K + 6 + 20 * k) oa oc ys) (fun t5 _ => N - (intOf t5).toNat)
    case atStart => exact ⟨0, none, 0, [], rfl, by omega, rfl, GW⟩
    case round =>
      obtain ⟨k, oa, oc, ys, rfl, hk, hyk, gs⟩ := hrel
      have HYK := hid hyk
      have hyl : ys.length ≤ 13 := by omega
      clear hyk GW
      have hh := gs.made.1 ⟨25, 1, .slice (some ⟨w.heap.size + 1, 0, none⟩) 1 1, 1, [.slice oa ys.length oc]⟩ (by simp)
      have co0 : wr.cell? ⟨w.heap.size + 1, 0, none⟩ = some (.slice oa ys.length oc) := rowT_at hh rfl rfl
      clear hh
      by_cases hkt : k < N
      · go_wp2_with fail
        refine (pick_any n0 B (K + 6 + 20 * k) 4 _ gs.cur (by omega) (by omega) (by omega)).mono ?_
        rintro e wi ⟨x4, rfl, ⟨hx40, hx41⟩, hc4, hg4⟩
        obtain ⟨M, rfl⟩ := Int.eq_ofNat_of_zero_le hx40
        have gi := gs.on hBl hg4 hc4
        have ci0 := cell_grown co0 hg4 (by omega)
        clear hc4 hg4 gs co0 hx40
        go_wp2
        go_loopw [6, 7] (fun t6 t7 wq => ∃ (m : Nat) (l : List Nat) (va : Option Addr) (vc : Nat), t7 = .int .i64 m ∧ m ≤ 3 ∧ t6 = .slice va l.length vc ∧ l.length + m ≤ 3 ∧ wq.ownsRow wi.heap.size 3 1 (.slice va l.length vc) l.length (ints (nats l)) ∧ wi.grownBy wq (some B) ∧ Cur wq n0 B (K + 6 + 20 * k + 2 + 4 * (3 - m))) (fun _ t7 _ => (intOf t7).toNat)
        case atStart => exact ⟨M, [], none, 0, rfl, by omega, rfl, by simp; omega, World.ownsRow_nil _ _ _ _, World.grownBy.refl _ _, gi.cur.more (by omega)⟩
        case round =>
          obtain ⟨m, l, va, vc, rfl, hm3, rfl, hlm, ho, hgq, hcq⟩ := hrel
          by_cases hm0 : 0 < m
          · go_wp2_with fail
            refine (pick_any n0 B _ N _ hcq (by omega) (by omega) (by omega)).mono ?_
            rintro e w5 ⟨x5, rfl, ⟨hx50, hx51⟩, hc5, hg5⟩
            obtain ⟨x, rfl⟩ := Int.eq_ofNat_of_zero_le hx50
            have H5 := hid (And.intro ho (And.intro hgq (And.intro hc5 hg5)))
            have hBi : B < wi.heap.size := gi.cur.lt
            clear ho hgq hcq hx50
            go_wp2_with fail
            refine (one_any n0 B _ 2 _ hc5 (by omega) (by omega) (by omega)).mono ?_
            rintro e w6 ⟨r6, rfl, hc6, hg6⟩
            have H6 := hid (And.intro hc6 hg6)
            clear hc5 hg5 hc6 hg6
            obtain ⟨y, hy, hyb⟩ : ∃ y : Nat, ((k : Int) + 1) % (N : Int) = y ∧ y ≤ 1000 := by
              have h0 := Int.emod_nonneg ((k : Int) + 1) (show (N : Int) ≠ 0 by omega)
              have h1 := Int.emod_lt_of_pos ((k : Int) + 1) (show (0 : Int) < N by omega)
              exact ⟨(((k : Int) + 1) % (N : Int)).toNat, by omega, by omega⟩
            have HP : Hid (∀ z : Nat, z ≤ 1000 → Calls Tryz.prog 51 #[.slice va l.length vc, .int .i64 z] w6 fun e w' => PutAns w6 w' wi.heap.size (.slice va l.length vc) l z e) := fun z hz => by
              have g6 := grownBy_trans H5.out.2.2.2 H6.out.2
              refine l1Put_any _ l z wi.heap.size w6 (by omega) (by omega) ?_ (Nat.le_trans H5.out.2.1.size g6.size)
              exact H5.out.1.kept g6 (by
                by_cases e : (Value.slice va l.length vc).ownBlock = none
                · exact .inl e
                · exact .inr (fun e' => by have := (H5.out.1.lt B e').1; omega))
            have hxb : x ≤ 1000 := by omega
            cases r6
            all_goals
              go_wp2_with fail
              refine (HP.out _ (by assumption)).mono ?_
              rintro e w7 ⟨va2, vc2, rfl, ho7, _, hb7⟩
              have HF : Hid (wi.grownBy w7 (some B) ∧ Cur w7 n0 B (K + 6 + 20 * k + 2 + 4 * (3 - m) + 4)) := ⟨grownBy_trans H5.out.2.1 (grownBy_trans (grownBy_trans H5.out.2.2.2 H6.out.2) (grownBy_of_below hb7 _)), cur_below H6.out.1 hb7⟩
              have HO7 := hid ho7
              clear ho7 hb7 HP
              go_wp2
              go_roundw
              case rel => exact ⟨m - 1, _, va2, vc2, by go_num, by omega, rfl, by have := putL_len l y; have := putL_len l x; omega, HO7.out, HF.out.1, HF.out.2.more (by omega)⟩
              case measure => simp [intOf]; omega
          · obtain rfl : m = 0 := by omega
            have gq := gi.on hBl hgq hcq
            have HOy : Hid (wr.ownsRow wi.heap.size 3 1 (.slice va l.length vc) (nats l).length (ints (nats l))) := by rw [nats_length]; exact ho
            have hzi := gi.size
            have HM1 := hid ((Made.with' gi.made gq.made (by omega) ⟨nats l, .slice va l.length vc⟩ HOy.out).below (below1 wr (.cells #[.slice va l.length vc] 35)))
            have HN1 := hid (News.one wr (.slice va l.length vc) 35 _ rfl rfl)
            have hzq := gq.size
            have HZ1 : Hid (w.heap.size + 1 ≤ (wr.alloc (.cells #[.slice va l.length vc] 35)).heap.size) := by show w.heap.size + 1 ≤ _; simp; omega
            have co := cell_grown ci0 hgq (by omega)
            have HGQ := hid gq
            have hl3 : l.length ≤ 3 := by omega
            clear ho hgq hcq HOy gq gi ci0 hlm hm0 hm3
            go_wp2_with (at_builtin; refine wpList_append_sep eltLists rfl _ _ rfl (w.heap.size + 1) [⟨25, 1, .slice (some ⟨w.heap.size + 1, 0, none⟩) 1 1, 1, [.slice oa ys.length oc]⟩] HM1.out rfl HN1.out rfl (by omega) HZ1.out ?_)
            intro va9 vc9 w9 hs9 hb9 hg9
            have hs9' : Sep w9 (w.heap.size + 1) ([⟨25, 1, .slice (some ⟨w.heap.size + 1, 0, none⟩) 1 1, 1, [.slice oa ys.length oc]⟩] ++ ⟨35, 1, .slice va9 (ys.length + 1) vc9, ys.length + 1, vals ys ++ [.slice va l.length vc]⟩ :: (ys ++ ([⟨nats l, .slice va l.length vc⟩] : List LV)).map rowL) := by simpa using hs9
            have hh9 := hs9'.1 ⟨25, 1, .slice (some ⟨w.heap.size + 1, 0, none⟩) 1 1, 1, [.slice oa ys.length oc]⟩ (by simp)
            have c9 : w9.cell? ⟨w.heap.size + 1, 0, none⟩ = some (.slice oa ys.length oc) := rowT_at hh9 rfl rfl
            have f9 : w9.frozen? ⟨w.heap.size + 1, 0, none⟩ = false := rowT_frz hh9 rfl 0
            have HB9 : Hid (Below (w.heap.size + 1) wr w9) := ((below1 wr _).mono (by omega)).trans hb9
            have HS9 := hid hs9'
            clear hs9 hs9' hb9 hg9 hh9 HM1 co
            go_wp2
            go_roundw
            case rel =>
              have hb9 := HB9.out
              have gq := HGQ.out
              refine ⟨k + 1, va9, vc9, ys ++ [⟨nats l, .slice va l.length vc⟩], by go_num, by omega, by rw [List.length_append, HYK.out]; rfl, ?_⟩
              refine ⟨?_, ?_, ?_, ?_, ?_, ?_, ?_⟩
              · have := Sep.store [] HS9.out 0 (.slice va9 (ys.length + 1) vc9)
                rw [List.length_append]
                exact Made.grown (n := 0) this
              · intro y hy
                rcases List.mem_append.1 hy with hy | hy
                · exact gq.few y hy
                · simp only [List.mem_singleton] at hy
                  subst hy
                  show (nats l).length ≤ 3
                  rw [nats_length]; exact hl3
              · exact grown_below gq.grown (hb9.setCell (by show w.heap.size + 1 ≤ w.heap.size + 1; omega) _) (by omega)
              · exact (gq.cur.belowC (hb9.setCell (by show w.heap.size + 1 ≤ w.heap.size + 1; omega) _) (by omega)).more (by omega)
              · have := hb9.size; simp [World.setCell]; omega
              · exact set_far (by rw [hb9.cell (p := ⟨w.heap.size, 0, none⟩) (by show w.heap.size < _; omega)]; exact gq.box) (by omega)
              · rw [frozen_setCell, hb9.frozen (p := ⟨w.heap.size, 0, none⟩) (by show w.heap.size < _; omega)]; exact gq.frz
            case measure => simp [intOf]; omega
      · obtain rfl : k = N := by omega
        go_wp2_with fail
        refine (one_any n0 B _ 30 _ gs.cur (by omega) (by omega) (by omega)).mono ?_
        rintro e w8 ⟨r8, rfl, hc8, hg8⟩
        have g8 := gs.on hBl hg8 hc8
        have c8 := cell_grown co0 hg8 (by omega)
        clear hc8 hg8 gs co0
        have hne1 : ¬ w.heap.size + 1 = w.heap.size := by omega
        cases r8
        · have HG := hid g8
          have x8 := g8.box
          have f8 := g8.frz
          clear g8
          go_wp2
          refine bodyPost_ret (v := .agg #[.slice oa ys.length oc]) (by simp [results, Tryz.results52, go_sem, *]) rfl ⟨_, ys, rfl, ?_, hyl, ?_, ?_⟩
          · have h1 : Sep w8 (w.heap.size + 1) (rowsL (.slice oa ys.length oc) ys) := Sep.tail HG.out.made
            exact Sep.mono (h1.aside (by omega) _) (by omega)
          · exact (HG.out.cur.belowC ((Below.refl _ _).setCell (Nat.le_refl _) _) hBl).more (by omega)
          · exact grown_below HG.out.grown ((Below.refl _ _).setCell (Nat.le_refl _) _) (Nat.le_refl _)
        · obtain ⟨y0, yt, rfl⟩ : ∃ y0 yt, ys = y0 :: yt := by
            cases ys with
            | nil => have := HYK.out; simp at this; omega
            | cons a b => exact ⟨a, b, rfl⟩
          have ho8 := g8.made.1 ⟨35, 1, .slice oa (y0 :: yt).length oc, (y0 :: yt).length, vals (y0 :: yt)⟩ (by simp)
          obtain ⟨g, rfl, hgl, hg8⟩ := own_addr ho8 (by simp)
          have hi8 := g8.made.1 (rowL y0) (by simp)
          obtain ⟨r0, v0⟩ := y0
          obtain ⟨va0, vc0, e0⟩ := slice_of_owned hi8
          have e0' : v0 = .slice va0 r0.length vc0 := e0
          subst e0'
          have cg : w8.cell? ⟨g, 0, none⟩ = some (.slice va0 r0.length vc0) := rowT_at ho8 rfl rfl
          have hr0 := g8.few ⟨r0, .slice va0 r0.length vc0⟩ (by simp)
          simp only [] at hr0
          obtain ⟨T, hT⟩ : ∃ T, (⟨r0, .slice va0 r0.length vc0⟩ :: yt : List LV).length = T := ⟨_, rfl⟩
          have hT1 : T = yt.length + 1 := by rw [← hT]; rfl
          have HG := hid g8
          have x8 := g8.box
          have f8 := g8.frz
          have hwk : IntKind.i64.wrap ((k : Int) + 1) = (k : Int) + 1 := by rw [IntKind.wrap_i64]; omega
          have hp0 := pick_any n0 B _ (IntKind.i64.wrap ((k : Int) + 1)) w8.drew (g8.cur.grown (grownBy_drewN w8 1 none) (fun r e => by cases e)) (by omega) (by omega) (by omega)
          have HP := hid hp0
          clear hp0 hwk
          rw [hT] at c8
          have HS8 : Hid (Sep w8 (w.heap.size + 1) ([⟨25, 1, .slice (some ⟨w.heap.size + 1, 0, none⟩) 1 1, 1, [.slice (some ⟨g, 0, none⟩) T oc]⟩, ⟨35, 1, .slice (some ⟨g, 0, none⟩) T oc, T, vals (⟨r0, .slice va0 r0.length vc0⟩ :: yt)⟩] ++ ⟨3, 1, .slice va0 r0.length vc0, r0.length, ints r0⟩ :: yt.map rowL)) := by
            have h1 := g8.made
            unfold Made at h1
            rw [hT] at h1
            exact h1
          have HT := hid (And.intro hT hT1)
          have hT0 : 0 < T := by omega
          have hT13 : T ≤ 13 := by omega
          clear ho8 hi8 e0 g8 hT hT1 hyl
          have hbw : w.heap.size + 2 ≤ w8.heap.size := HG.out.size
          go_wp2
          refine wp_region_held_drew (S := fun X => X.cell? ⟨w.heap.size + 1, 0, none⟩ = some (.slice (some ⟨g, 0, none⟩) T oc)) (by kernel_rfl) c8 (fun hHeld => ?_)
          refine wpAnyH_take (i := 0) (v := ?_) rfl (by kernel_rfl) (by kernel_rfl) (by kernel_rfl) (fun _ _ _ h => h) (Or.inl ⟨by rfl, ?_⟩) (by assumption) ?_
          rotate_left
          focus (intro w hSw; (try dsimp only at hSw); go_simp; first | done | with_reducible rfl)
          try go_simp
          refine wpAnyH_take (i := 1) (v := ?_) rfl (by kernel_rfl) (by kernel_rfl) (by kernel_rfl) (fun _ _ _ h => h) (Or.inl ⟨by rfl, ?_⟩) (by assumption) ?_
          rotate_left
          focus (intro w hSw; (try dsimp only at hSw); go_simp; first | done | with_reducible rfl)
          try go_simp
          refine wpAnyH_take (i := 2) (v := ?_) rfl (by kernel_rfl) (by kernel_rfl) (by kernel_rfl) (fun _ _ _ h => h) (Or.inl ⟨by rfl, ?_⟩) (by assumption) ?_
          rotate_left
          focus (intro w hSw; (try dsimp only at hSw); go_simp; first | done | with_reducible rfl)
          try go_simp
          refine wpAnyH_take (i := 3) (v := ?_) rfl (by kernel_rfl) (by kernel_rfl) (by kernel_rfl) (fun _ _ _ h => h) (Or.inl ⟨by rfl, ?_⟩) (by assumption) ?_
          rotate_left
          focus (intro w hSw; (try dsimp only at hSw); go_simp; first | done | with_reducible rfl)
          try go_simp
          refine wpAnyH_take (i := 4) (v := ?_) rfl (by kernel_rfl) (by kernel_rfl) (by kernel_rfl) (fun _ _ _ h => h) (Or.inl ⟨by rfl, ?_⟩) (by assumption) ?_
          rotate_left
          focus (intro w hSw; (try dsimp only at hSw); go_simp; first | done | with_reducible rfl)
          try go_simp
          refine wpAnyH_take (i := 6) (v := ?_) rfl (by kernel_rfl) (by kernel_rfl) (by kernel_rfl) (fun _ _ _ h => h) (Or.inl ⟨by rfl, ?_⟩) (by assumption) ?_
          rotate_left
          focus (intro w hSw; (try dsimp only at hSw); go_simp; first | done | with_reducible rfl)
          try go_simp
          refine wpAnyH_take (i := 7) (v := ?_) rfl (by kernel_rfl) (by kernel_rfl) (by kernel_rfl) (fun _ _ _ h => h) (Or.inl ⟨by rfl, ?_⟩) (by assumption) ?_
          rotate_left
          focus (intro w hSw; (try dsimp only at hSw); go_simp; first | done | with_reducible rfl)
          try go_simp
          refine wpAnyH_take (i := 8) (v := ?_) rfl (by kernel_rfl) (by kernel_rfl) (by kernel_rfl) (fun _ _ _ h => h) (Or.inl ⟨by rfl, ?_⟩) (by assumption) ?_
          rotate_left
          focus (intro w hSw; (try dsimp only at hSw); go_simp; first | done | with_reducible rfl)
          try go_simp
          refine wpAnyH_ready (rs := [5, 9]) (by kernel_rfl) (by simp) ?_
          refine AllReadyH.cons rfl (fun K hK => ?_) ?_
          · go_simp
            refine hK.out _ _ c8 (fun hHeld => ?_)
            clear hK K
            try go_simp
            refine wpAnyH_ready (rs := [9]) (by kernel_rfl) (by simp) ?_
            refine AllReadyH.cons rfl (fun K hK => ?_) AllReadyH.nil
            go_simp
            go_at_call 41
            refine HP.out.mono ?_
            rintro e w10 ⟨r, rfl, hr, hc10, hg10⟩
            have c10 := cell_grown (w := w8.drew) c8 hg10 (by omega)
            have d10 := cell_grown (w := w8.drew) cg hg10 (by omega)
            have z10 : w.heap.size + 2 ≤ w10.heap.size := Nat.le_trans hbw hg10.size
            refine hK.out _ _ c10 (fun hHeld => ?_)
            clear hK K
            try go_simp
            refine wpAnyH_ready (rs := [10]) (by kernel_rfl) (by simp) ?_
            refine AllReadyH.cons rfl (fun K hK => ?_) AllReadyH.nil
            go_simp
            refine hK.out _ _ (cell_below c10 (below1 _ _)) (fun hHeld => ?_)
            clear hK K
            try go_simp
            refine wpAnyH_ready (rs := [11]) (by kernel_rfl) (by simp) ?_
            refine AllReadyH.cons rfl (fun K hK => ?_) AllReadyH.nil
            refine step_append_sep eltInt (by rfl) _ _ (by rfl) (w.heap.size + 1) [⟨25, 1, .slice (some ⟨w.heap.size + 1, 0, none⟩) 1 1, 1, [.slice (some ⟨g, 0, none⟩) T oc]⟩, ⟨35, 1, .slice (some ⟨g, 0, none⟩) T oc, T, vals (⟨r0, .slice va0 r0.length vc0⟩ :: yt)⟩] ((Sep.aside' (w := w8.drew) HS8.out hg10 (by omega)).below (below1 w10 (.cells #[.int .i64 r] 3))) (by rfl) (News.one w10 (.int .i64 r) 3 _ rfl rfl) (by rfl) (by omega) (by simp; omega) ?_
            intro va9 vc9 w9 hs9 hb9 hg9
            have f9 : w9.frozen? ⟨g, 0, none⟩ = false := rowT_frz (hs9.1 ⟨35, 1, .slice (some ⟨g, 0, none⟩) T oc, T, vals (⟨r0, .slice va0 r0.length vc0⟩ :: yt)⟩ (by simp)) rfl 0
            have d9 : w9.cell? ⟨g, 0, none⟩ = some (.slice va0 r0.length vc0) := rowT_at (hs9.1 ⟨35, 1, .slice (some ⟨g, 0, none⟩) T oc, T, vals (⟨r0, .slice va0 r0.length vc0⟩ :: yt)⟩ (by simp)) rfl rfl
            have c9 : w9.cell? ⟨w.heap.size + 1, 0, none⟩ = some (.slice (some ⟨g, 0, none⟩) T oc) := rowT_at (hs9.1 ⟨25, 1, .slice (some ⟨w.heap.size + 1, 0, none⟩) 1 1, 1, [.slice (some ⟨g, 0, none⟩) T oc]⟩ (by simp)) rfl rfl
            obtain ⟨q1, q2, q3, q4⟩ := fin18 HG.out HT.out.1 hBl hc10 hg10 hs9 hb9
            clear hs9 hb9 hg9
            refine hK.out _ _ c9 (fun hHeld => ?_)
            clear hK K
            try go_simp
            refine wpAnyH_take (i := 12) (v := ?_) rfl (by kernel_rfl) (by kernel_rfl) (by kernel_rfl) (fun _ _ _ h => h) (Or.inl ⟨by rfl, ?_⟩) (by assumption) ?_
            rotate_left
            focus (intro w hSw; (try dsimp only at hSw); go_simp; first | done | with_reducible rfl)
            try go_simp
            refine wpAnyH_ready (rs := [13]) (by kernel_rfl) (by simp) ?_
            refine AllReadyH.cons rfl (fun K hK => ?_) AllReadyH.nil
            go_simp
            refine hK.out _ _ q1 (fun hHeld => ?_)
            clear hK K
            try go_simp
            refine wpAnyH_done (by kernel_rfl) ?_ _
            clear hHeld HS8 HP
            go_wp2
            refine bodyPost_ret (v := .agg #[.slice (some ⟨g, 0, none⟩) T oc]) (by simp [results, Tryz.results52, go_sem, *]) rfl ⟨_, ⟨r0 ++ [r], .slice va9 (r0.length + 1) vc9⟩ :: yt, rfl, ?_, by have := HT.out.2; simp; omega, ?_, ?_⟩
            · exact Sep.mono (Sep.aside q4.out.1 (by omega) _) (by omega)
            · exact (q4.out.2.1.belowC ((Below.refl _ _).setCell (Nat.le_refl _) _) hBl).more (by omega)
            · exact grown_below q4.out.2.2 ((Below.refl _ _).setCell (Nat.le_refl _) _) (Nat.le_refl _)
          refine AllReadyH.cons rfl (fun K hK => ?_) AllReadyH.nil
          go_simp
          go_at_call 41
          refine HP.out.mono ?_
          rintro e w10 ⟨r, rfl, hr, hc10, hg10⟩
          have c10 := cell_grown (w := w8.drew) c8 hg10 (by omega)
          have d10 := cell_grown (w := w8.drew) cg hg10 (by omega)
          have z10 : w.heap.size + 2 ≤ w10.heap.size := Nat.le_trans hbw hg10.size
          refine hK.out _ _ c10 (fun hHeld => ?_)
          clear hK K
          try go_simp
          refine wpAnyH_ready (rs := [5, 10]) (by kernel_rfl) (by simp) ?_
          refine AllReadyH.cons rfl (fun K hK => ?_) ?_
          · go_simp
            refine hK.out _ _ c10 (fun hHeld => ?_)
            clear hK K
            try go_simp
            refine wpAnyH_ready (rs := [10]) (by kernel_rfl) (by simp) ?_
            refine AllReadyH.cons rfl (fun K hK => ?_) AllReadyH.nil
            go_simp
            refine hK.out _ _ (cell_below c10 (below1 _ _)) (fun hHeld => ?_)
            clear hK K
            try go_simp
            refine wpAnyH_ready (rs := [11]) (by kernel_rfl) (by simp) ?_
            refine AllReadyH.cons rfl (fun K hK => ?_) AllReadyH.nil
            refine step_append_sep eltInt (by rfl) _ _ (by rfl) (w.heap.size + 1) [⟨25, 1, .slice (some ⟨w.heap.size + 1, 0, none⟩) 1 1, 1, [.slice (some ⟨g, 0, none⟩) T oc]⟩, ⟨35, 1, .slice (some ⟨g, 0, none⟩) T oc, T, vals (⟨r0, .slice va0 r0.length vc0⟩ :: yt)⟩] ((Sep.aside' (w := w8.drew) HS8.out hg10 (by omega)).below (below1 w10 (.cells #[.int .i64 r] 3))) (by rfl) (News.one w10 (.int .i64 r) 3 _ rfl rfl) (by rfl) (by omega) (by simp; omega) ?_
            intro va9 vc9 w9 hs9 hb9 hg9
            have f9 : w9.frozen? ⟨g, 0, none⟩ = false := rowT_frz (hs9.1 ⟨35, 1, .slice (some ⟨g, 0, none⟩) T oc, T, vals (⟨r0, .slice va0 r0.length vc0⟩ :: yt)⟩ (by simp)) rfl 0
            have d9 : w9.cell? ⟨g, 0, none⟩ = some (.slice va0 r0.length vc0) := rowT_at (hs9.1 ⟨35, 1, .slice (some ⟨g, 0, none⟩) T oc, T, vals (⟨r0, .slice va0 r0.length vc0⟩ :: yt)⟩ (by simp)) rfl rfl
            have c9 : w9.cell? ⟨w.heap.size + 1, 0, none⟩ = some (.slice (some ⟨g, 0, none⟩) T oc) := rowT_at (hs9.1 ⟨25, 1, .slice (some ⟨w.heap.size + 1, 0, none⟩) 1 1, 1, [.slice (some ⟨g, 0, none⟩) T oc]⟩ (by simp)) rfl rfl
            obtain ⟨q1, q2, q3, q4⟩ := fin18 HG.out HT.out.1 hBl hc10 hg10 hs9 hb9
            clear hs9 hb9 hg9
            refine hK.out _ _ c9 (fun hHeld => ?_)
            clear hK K
            try go_simp
            refine wpAnyH_take (i := 12) (v := ?_) rfl (by kernel_rfl) (by kernel_rfl) (by kernel_rfl) (fun _ _ _ h => h) (Or.inl ⟨by rfl, ?_⟩) (by assumption) ?_
            rotate_left
            focus (intro w hSw; (try dsimp only at hSw); go_simp; first | done | with_reducible rfl)
            try go_simp
            refine wpAnyH_ready (rs := [13]) (by kernel_rfl) (by simp) ?_
            refine AllReadyH.cons rfl (fun K hK => ?_) AllReadyH.nil
            go_simp
            refine hK.out _ _ q1 (fun hHeld => ?_)
            clear hK K
            try go_simp
            refine wpAnyH_done (by kernel_rfl) ?_ _
            clear hHeld HS8 HP
            go_wp2
            refine bodyPost_ret (v := .agg #[.slice (some ⟨g, 0, none⟩) T oc]) (by simp [results, Tryz.results52, go_sem, *]) rfl ⟨_, ⟨r0 ++ [r], .slice va9 (r0.length + 1) vc9⟩ :: yt, rfl, ?_, by have := HT.out.2; simp; omega, ?_, ?_⟩
            · exact Sep.mono (Sep.aside q4.out.1 (by omega) _) (by omega)
            · exact (q4.out.2.1.belowC ((Below.refl _ _).setCell (Nat.le_refl _) _) hBl).more (by omega)
            · exact grown_below q4.out.2.2 ((Below.refl _ _).setCell (Nat.le_refl _) _) (Nat.le_refl _)
          refine AllReadyH.cons rfl (fun K hK => ?_) AllReadyH.nil
          go_simp
          refine hK.out _ _ (cell_below c10 (below1 _ _)) (fun hHeld => ?_)
          clear hK K
          try go_simp
          have d11 : (w10.alloc (.cells #[.int .i64 r] 3)).cell? ⟨g, 0, none⟩ = some (.slice va0 r0.length vc0) := cell_below d10 (below1 _ _)
          refine wpAnyH_ready (rs := [5]) (by kernel_rfl) (by simp) ?_
          refine AllReadyH.cons rfl (fun K hK => ?_) AllReadyH.nil
          go_simp
          refine hK.out _ _ (cell_below c10 (below1 _ _)) (fun hHeld => ?_)
          clear hK K
          try go_simp
          refine wpAnyH_ready (rs := [11]) (by kernel_rfl) (by simp) ?_
          refine AllReadyH.cons rfl (fun K hK => ?_) AllReadyH.nil
          refine step_append_sep eltInt (by rfl) _ _ (by rfl) (w.heap.size + 1) [⟨25, 1, .slice (some ⟨w.heap.size + 1, 0, none⟩) 1 1, 1, [.slice (some ⟨g, 0, none⟩) T oc]⟩, ⟨35, 1, .slice (some ⟨g, 0, none⟩) T oc, T, vals (⟨r0, .slice va0 r0.length vc0⟩ :: yt)⟩] ((Sep.aside' (w := w8.drew) HS8.out hg10 (by omega)).below (below1 w10 (.cells #[.int .i64 r] 3))) (by rfl) (News.one w10 (.int .i64 r) 3 _ rfl rfl) (by rfl) (by omega) (by simp; omega) ?_
          intro va9 vc9 w9 hs9 hb9 hg9
          have f9 : w9.frozen? ⟨g, 0, none⟩ = false := rowT_frz (hs9.1 ⟨35, 1, .slice (some ⟨g, 0, none⟩) T oc, T, vals (⟨r0, .slice va0 r0.length vc0⟩ :: yt)⟩ (by simp)) rfl 0
          have d9 : w9.cell? ⟨g, 0, none⟩ = some (.slice va0 r0.length vc0) := rowT_at (hs9.1 ⟨35, 1, .slice (some ⟨g, 0, none⟩) T oc, T, vals (⟨r0, .slice va0 r0.length vc0⟩ :: yt)⟩ (by simp)) rfl rfl
          have c9 : w9.cell? ⟨w.heap.size + 1, 0, none⟩ = some (.slice (some ⟨g, 0, none⟩) T oc) := rowT_at (hs9.1 ⟨25, 1, .slice (some ⟨w.heap.size + 1, 0, none⟩) 1 1, 1, [.slice (some ⟨g, 0, none⟩) T oc]⟩ (by simp)) rfl rfl
          obtain ⟨q1, q2, q3, q4⟩ := fin18 HG.out HT.out.1 hBl hc10 hg10 hs9 hb9
          clear hs9 hb9 hg9
          refine hK.out _ _ c9 (fun hHeld => ?_)
          clear hK K
          try go_simp
          refine wpAnyH_take (i := 12) (v := ?_) rfl (by kernel_rfl) (by kernel_rfl) (by kernel_rfl) (fun _ _ _ h => h) (Or.inl ⟨by rfl, ?_⟩) (by assumption) ?_
          rotate_left
          focus (intro w hSw; (try dsimp only at hSw); go_simp; first | done | with_reducible rfl)
          try go_simp
          refine wpAnyH_ready (rs := [13]) (by kernel_rfl) (by simp) ?_
          refine AllReadyH.cons rfl (fun K hK => ?_) AllReadyH.nil
          go_simp
          refine hK.out _ _ q1 (fun hHeld => ?_)
          clear hK K
          try go_simp
          refine wpAnyH_done (by kernel_rfl) ?_ _
          clear hHeld HS8 HP
          go_wp2
          refine bodyPost_ret (v := .agg #[.slice (some ⟨g, 0, none⟩) T oc]) (by simp [results, Tryz.results52, go_sem, *]) rfl ⟨_, ⟨r0 ++ [r], .slice va9 (r0.length + 1) vc9⟩ :: yt, rfl, ?_, by have := HT.out.2; simp; omega, ?_, ?_⟩
          · exact Sep.mono (Sep.aside q4.out.1 (by omega) _) (by omega)
          · exact (q4.out.2.1.belowC ((Below.refl _ _).setCell (Nat.le_refl _) _) hBl).more (by omega)
          · exact grown_below q4.out.2.2 ((Below.refl _ _).setCell (Nat.le_refl _) _) (Nat.le_refl _)
end

section
open Go.RowKit
set_option linter.unusedVariables false
set_option linter.unusedSimpArgs false
set_option maxRecDepth 100000

theorem sameInts_same (a a' : Option Addr) (c c' : Nat) (xs : List Int) (w : World) (hl : xs.length ≤ 9223372036854775807) (h : Row w a xs) (h' : Row w a' xs) :
    Calls Tryz.prog 25 #[.slice a xs.length c, .slice a' xs.length c'] w fun e w' => e = .returned (.bool true) ∧ ∃ q, w' = w.drewN q := by
  by_cases hx : xs = []
  · subst hx
    clear h h'
    go_enter Tryz.func25, Tryz.ntmps25
    go_wp2
    go_loopw [13] (fun t wr => t = .int .i64 0 ∧ wr = w) (fun t _ => 0)
    case atStart => exact ⟨rfl, rfl⟩
    case round =>
      obtain ⟨rfl, rfl⟩ := hrel
      go_wp2
      go_ret
      exact ⟨rfl, 0, rfl⟩
  · rcases h with h | ⟨b, off, rfl, hc⟩
    · exact absurd h hx
    rcases h' with h' | ⟨b', off', rfl, hc'⟩
    · exact absurd h' hx
    have HC : Hid (∀ i, i < xs.length → w.cell? ⟨b, off + i, none⟩ = some (.int .i64 (xs[i]?.getD 0))) := hc
    have HC' : Hid (∀ i, i < xs.length → w.cell? ⟨b', off' + i, none⟩ = some (.int .i64 (xs[i]?.getD 0))) := hc'
    clear hc hc' hx
    go_enter Tryz.func25, Tryz.ntmps25
    go_wp2
    go_loopw [13] (fun t wr => ∃ (k q : Nat), t = .int .i64 k ∧ k ≤ xs.length ∧ wr = w.drewN q) (fun t _ => xs.length - (intOf t).toNat)
    case atStart => exact ⟨0, 0, rfl, by omega, rfl⟩
    case round =>
      obtain ⟨k, q, rfl, hk, rfl⟩ := hrel
      by_cases hlt : k < xs.length
      · have c1 : w.cell? ⟨b, off + k, none⟩ = some (.int .i64 (xs[k]?.getD 0)) := HC.out k hlt
        have c2 : w.cell? ⟨b', off' + k, none⟩ = some (.int .i64 (xs[k]?.getD 0)) := HC'.out k hlt
        go_wp2
        go_quiet (fail)
        go_wp2
        go_roundw
        case rel => exact ⟨k + 1, q + nq, by go_num, by omega, by simp⟩
        case measure => simp [intOf]; omega
      · go_wp2
        go_ret
        exact ⟨rfl, q, rfl⟩

set_option maxHeartbeats 2000000 in
theorem sameLists_same (a a' : Option Addr) (c c' : Nat) (xs : List (List Int)) (w : World) (hl : xs.length ≤ 9223372036854775807) (h : LRow w a xs) (h' : LRow w a' xs) :
    Calls Tryz.prog 24 #[.slice a xs.length c, .slice a' xs.length c'] w fun e w' => e = .returned (.bool true) ∧ Below w.heap.size w w' := by
  by_cases hx : xs = []
  · subst hx
    clear h h'
    go_enter Tryz.func24, Tryz.ntmps24
    go_wp2
    go_loopw [13] (fun t wr => t = .int .i64 0 ∧ wr = w) (fun t _ => 0)
    case atStart => exact ⟨rfl, rfl⟩
    case round =>
      obtain ⟨rfl, rfl⟩ := hrel
      go_wp2
      go_ret
      exact ⟨rfl, Below.refl _ _⟩
  · obtain ⟨b, off, rfl, hbw, hat⟩ := h.at hx
    have HA := hid hat
    obtain ⟨b', off', rfl, hbw', hat'⟩ := h'.at hx
    have HA' := hid hat'
    clear hat hat' hx h h'
    go_enter Tryz.func24, Tryz.ntmps24
    go_wp2
    go_loopw [13] (fun t wr => ∃ (k : Nat), t = .int .i64 k ∧ k ≤ xs.length ∧ Below w.heap.size w wr) (fun t _ => xs.length - (intOf t).toNat)
    case atStart => exact ⟨0, rfl, by omega, Below.refl _ _⟩
    case round =>
      obtain ⟨k, rfl, hk, hB⟩ := hrel
      by_cases hlt : k < xs.length
      · obtain ⟨t, ta, tc, c0, l1, HR, HX⟩ := HA.out wr hB k hlt
        obtain ⟨t', ta', tc', d0, l1', HR', HX'⟩ := HA'.out wr hB k hlt
        obtain rfl : t = t' := by
          have := HX.out.symm.trans HX'.out
          simpa using this
        have HE : Hid (∀ W, Below wr.heap.size wr W → Calls Tryz.prog 25 #[.slice ta t.length tc, .slice ta' t.length tc'] W fun e w' => e = .returned (.bool true) ∧ Below W.heap.size W w') := fun W hW => by
          refine (sameInts_same ta ta' tc tc' t W l1 (HR.out.below (bstep' hB hW)) (HR'.out.below (bstep' hB hW))).mono ?_
          rintro e w' ⟨rfl, q, rfl⟩
          exact ⟨rfl, below_drewN (Below.refl _ _) _⟩
        clear l1'
        go_wp2
        go_region_with (go_at_call 25; refine (HE.out _ ((Below.refl _ _).drew)).mono ?_; rintro e w1 ⟨rfl, hb1⟩)
        all_goals
          go_wp2
          go_roundw
          case rel => exact ⟨k + 1, by go_num, by omega, bstep' hB (below_of_drew hb1)⟩
          case measure => simp [intOf]; omega
      · go_wp2
        go_ret
        exact ⟨rfl, hB⟩
theorem has_law (a : Option Addr) (c : Nat) (xs : List Int) (n : Int) (w : World) (hl : xs.length ≤ 9223372036854775807) (h : Row w a xs) :
    Calls Tryz.prog 11 #[.slice a xs.length c, .int .i64 n] w fun e w' => e = .returned (.bool (hasB xs n)) ∧ w' = w := by
  obtain ⟨G, hG⟩ : ∃ G, hasB xs n = G := ⟨_, rfl⟩
  rw [hG]
  have HG := hid hG
  have H := hid h
  clear h hG
  go_enter Tryz.func11, Tryz.ntmps11
  go_wp2
  go_loop [9] (fun t9 => ∃ (k : Nat), t9 = .int .i64 k ∧ k ≤ xs.length ∧ (∀ (j : Nat) v, j < k → xs[j]? = some v → ¬ v = n)) (fun t9 => xs.length - (intOf t9).toNat)
  case atStart => exact ⟨0, rfl, by omega, by intro j v hj; omega⟩
  case round =>
    obtain ⟨k, rfl, hk, hf⟩ := hrel
    have HF := hid hf
    clear hf
    by_cases hlt : k < xs.length
    · have hx : xs ≠ [] := by intro e; subst e; simp at hlt
      obtain ⟨b, off, rfl, hbw, hat⟩ := H.out.at hx
      obtain ⟨v, c1, HX⟩ := hat w (Below.refl _ _) k hlt
      clear hat hx
      by_cases hv : v = n
      · subst hv
        have HI := hid (HG.out.symm.trans (hasB_yes HX.out))
        go_wp2
        go_ret
        exact ⟨ret_bool HI.out.symm, rfl⟩
      · go_wp2
        go_round
        case rel =>
          refine ⟨k + 1, by go_num, by omega, fun j u hj hu => ?_⟩
          by_cases e : j = k
          · subst e; rw [HX.out] at hu; cases hu; exact hv
          · exact HF.out j u (by omega) hu
        case measure => simp [intOf]; omega
    · obtain rfl : k = xs.length := by omega
      have HI := hid (HG.out.symm.trans (hasB_no (fun j v hv => HF.out j v (List.getElem?_eq_some_iff.1 hv).1 hv)))
      go_wp2
      go_ret
      exact ⟨ret_bool HI.out.symm, rfl⟩


theorem hasL_any (a : Option Addr) (c : Nat) (S : List Nat) (x : Nat) (w : World) (hl : S.length ≤ 1000) (h : Row w a (nats S)) :
    Calls Tryz.prog 11 #[.slice a S.length c, .int .i64 (x : Int)] w fun e w' => e = .returned (.bool (decide (x ∈ S))) ∧ w' = w := by
  have := has_law a c (nats S) x w (by rw [nats_length]; omega) h
  rw [nats_length] at this
  have e : hasB (nats S) x = decide (x ∈ S) := by rw [Bool.eq_iff_iff]; simp [hasB, nats_mem]
  rw [e] at this
  exact this
/-- bytes that can be drawn from -/
def Code (w : World) (a : Option Addr) (zs : List Int) : Prop := zs.length ≤ 9223372036854775807 ∧ (∀ z ∈ zs, 0 ≤ z ∧ z ≤ 255) ∧ RowB w w.heap.size a zs
theorem Code.later {w w' : World} {a : Option Addr} {zs : List Int} (h : Code w a zs) (hb : Below w.heap.size w w') : Code w' a zs := by
  refine ⟨h.1, h.2.1, ?_⟩
  rcases h.2.2 with h | ⟨b, off, ha, hbn, hc⟩
  · exact .inl h
  · exact .inr ⟨b, off, ha, Nat.lt_of_lt_of_le hbn hb.size, fun i hi => by rw [hb.cell (p := ⟨b, off + i, none⟩) hbn]; exact hc i hi⟩
theorem Code.cur {w : World} {a : Option Addr} {zs : List Int} (h : Code w a zs) (cap : Nat) : Cur (w.alloc (.cells #[.slice a zs.length cap, .int .i64 0, .int .u64 0] 54)) w.heap.size w.heap.size 0 := by
  refine ⟨Nat.le_refl _, a, zs, cap, 0, 0, heap_alloc_new w _, by omega, by omega, h.1, h.2.1, ?_⟩
  exact h.2.2.grown (World.grownBy_alloc w _ none) (fun r e => by cases e)
theorem below_of_alloc {w w' : World} {o : Obj} (h : (w.alloc o).grownBy w' (some w.heap.size)) : Below w.heap.size w w' :=
  ((Below.refl w.heap.size w).alloc (Nat.le_refl _) o).grown h (by simp) (fun k e => by cases e; exact Nat.le_refl _)
end

section
open Go.RowKit
set_option linter.unusedVariables false
set_option linter.unusedSimpArgs false
set_option maxRecDepth 100000

set_option maxHeartbeats 1000000 in
theorem sIsReducible_bad (a : Option Addr) (c : Nat) (xs : List (List Int)) (w : World) (hl : xs.length ≤ 9223372036854775807) (h : LRow w a xs) (hG : ¬ GoodG xs) :
    Calls Tryz.prog 53 #[.agg #[.slice a xs.length c]] w fun e w' => e = .returned (.tuple #[.bool false, .bool false]) ∧ Below w.heap.size w w' := by
  have HC := hid (fun W hb => sGood_any a c xs false W hl (h.below hb) (by simp [hG]))
  clear h
  go_enter Tryz.func53, Tryz.ntmps53
  go_wp2_with fail
  refine (HC.out _ (below1 w _)).mono ?_
  rintro e w1 ⟨rfl, hb1⟩
  have HB := hid (bstep' (below1 w _) hb1)
  clear hb1
  go_wp2
  go_ret2
  exact ⟨rfl, HB.out⟩
set_option maxHeartbeats 2000000 in
theorem sIsReducible_good {g D : List (List Nat)} (G : Gr g) (hD : IsDoms g D) (a : Option Addr) (c : Nat) (w : World) (h : GRow w a g) (hG : GoodG (g.map nats)) :
    Calls Tryz.prog 53 #[.agg #[.slice a g.length c]] w fun e w' => (∃ b : Bool, e = .returned (.tuple #[.bool (!b), .bool true]) ∧ (b = true ↔ Cyc2 g D)) ∧ Below w.heap.size w w' := by
  have hgm := G.most
  have HC : Hid (∀ W, Below w.heap.size w W → Calls Tryz.prog 61 #[.agg #[.slice a g.length c]] W fun e w' => e = .returned (.bool true) ∧ Below W.heap.size W w') := fun W hb => by
    have := sGood_any a c (g.map nats) true W (by simp; omega) (LRow.below h hb) (by simp [hG])
    rwa [List.length_map] at this
  have HO : Hid (∀ W, Below w.heap.size w W → Calls Tryz.prog 62 #[.agg #[.slice a g.length c]] W fun e w' => ∃ va vc, e = .returned (.slice va g.length vc) ∧ LRow w' va (natsL D) ∧ Below W.heap.size W w') := fun W hb => by
    refine (sDoms_any G a c W (LRow.below h hb)).mono ?_
    rintro e w' ⟨va, vc, ys, P, rfl, ho, hy, hP, hb'⟩
    exact ⟨va, vc, rfl, own_lrow ho (by rw [hy, hP.unique hD]), hb'⟩
  have HA := hid (fun W va vc (hb : Below w.heap.size w W) (hv : LRow W va (natsL D)) => sCyclic_any G hD a va c vc W (LRow.below h hb) hv)
  clear h
  go_enter Tryz.func53, Tryz.ntmps53
  go_wp2_with fail
  refine (HC.out _ (below1 w _)).mono ?_
  rintro e w1 ⟨rfl, hb1⟩
  have d1 : w1.cell? ⟨w.heap.size, 0, none⟩ = some (.slice a g.length c) := cell_below (by simp [go_sem]) hb1
  have B1 := bstep' (below1 w _) hb1
  have HK := hid (fun W (hW : Below w1.heap.size w1 W) => cell_below d1 hW)
  clear hb1
  go_wp2
  go_region_held (fun W => W.cell? ⟨w.heap.size, 0, none⟩ = some (.slice a g.length c)) ((first | exact HK.out _ hb9 | exact HK.out _ hb8 | go_keep)) ((first | (go_at_call 62; refine (HO.out _ (bdr B1)).mono ?_; rintro e w8 ⟨va, vc, rfl, h8, hb8'⟩; have hb8 := below_of_drew hb8') | (go_at_call 63; refine (HA.out _ _ _ (bstep' B1 hb8) h8).mono ?_; rintro e w9 ⟨⟨b, rfl, hbc⟩, hb9'⟩; have hb9 := bstep' hb8 hb9')))
  have HF := hid (And.intro hbc (bstep' B1 hb9))
  clear hb9 hb9' hb8 hb8' h8 hbc
  go_wp2
  go_ret2
  exact ⟨⟨b, rfl, HF.out.1⟩, HF.out.2⟩

/-- the model's IsReducible tells two Booleans -/
theorem sRed_some (a : Option Addr) (c : Nat) (xs : List (List Int)) (w : World) (hl : xs.length ≤ 9223372036854775807) (h : LRow w a xs) :
    Calls Tryz.prog 53 #[.agg #[.slice a xs.length c]] w fun e w' => (∃ b1 b2 : Bool, e = .returned (.tuple #[.bool b1, .bool b2])) ∧ Below w.heap.size w w' := by
  by_cases hG : GoodG xs
  · obtain ⟨g, rfl, Gg⟩ := hG.graph
    obtain ⟨D, hD⟩ := doms_are Gg
    rw [List.length_map]
    refine (sIsReducible_good Gg hD a c w h hG).mono ?_
    rintro e w' ⟨⟨b, rfl, _⟩, hb⟩
    exact ⟨⟨_, _, rfl⟩, hb⟩
  · refine (sIsReducible_bad a c xs w hl h hG).mono ?_
    rintro e w' ⟨rfl, hb⟩
    exact ⟨⟨_, _, rfl⟩, hb⟩
/-- the reader and the box of the answer -/
structure LSt (w wr : World) (n0 B K : Nat) : Prop where
  grown : w.grownBy wr (some B)
  cur : Cur wr n0 B K
  size : w.heap.size + 1 ≤ wr.heap.size
  box : wr.cell? ⟨w.heap.size, 0, none⟩ = some (.slice none 0 0)
  frz : wr.frozen? ⟨w.heap.size, 0, none⟩ = false
theorem LSt.start {w : World} {n0 B K : Nat} (h : Cur w n0 B K) : LSt w (w.alloc (.cells #[.slice none 0 0] 25)) n0 B K where
  grown := grownBy_of_below (below1 w _) _
  cur := cur_below h (below1 w _)
  size := by simp
  box := by simp [go_sem]
  frz := by simp [go_sem]
theorem LSt.on {w wr w' : World} {n0 B K K' : Nat} (h : LSt w wr n0 B K) (hB : B < w.heap.size) (hg : wr.grownBy w' (some B)) (hc : Cur w' n0 B K') : LSt w w' n0 B K' where
  grown := grownBy_trans h.grown hg
  cur := hc
  size := Nat.le_trans h.size hg.size
  box := cell_grown h.box hg (by omega)
  frz := by rw [frozen_grown (by have := h.size; omega) hg (by omega)]; exact h.frz
theorem LSt.below {w wr w' : World} {n0 B K : Nat} (h : LSt w wr n0 B K) (hB : B < w.heap.size) (hb : Below wr.heap.size wr w') : LSt w w' n0 B K := h.on hB (grownBy_of_below hb _) (cur_below h.cur hb)
set_option maxHeartbeats 4000000 in
theorem looped_any (n0 B K : Nat) (w : World) (h : Cur w n0 B K) (hK : K ≤ 1000) :
    Calls Tryz.prog 26 #[.pointer (some ⟨B, 0, none⟩)] w fun e w' => ∃ v ys, e = .returned (.agg #[v]) ∧ OwnL w' w.heap.size v ys ∧ ys.length ≤ 13 ∧ Cur w' n0 B (K + 5000) ∧ w.grownBy w' (some B) := by
  have hBl := h.lt
  have L0 := LSt.start h
  clear h
  go_enter Tryz.func26, Tryz.ntmps26
  go_wp2
  go_loopw [3] (fun t3 wr => ∃ k : Nat, t3 = .int .i64 k ∧ k ≤ 3 ∧ LSt w wr n0 B (K + 1000 * k)) (fun t3 _ => 3 - (intOf t3).toNat)
  case atStart => exact ⟨0, rfl, by omega, L0⟩
  case round =>
    obtain ⟨k, rfl, hk, ls⟩ := hrel
    clear L0
    by_cases hk3 : k < 3
    · go_wp2_with fail
      refine (graph7_any n0 B (K + 1000 * k) _ ls.cur (by omega)).mono ?_
      rintro e w1 ⟨v, ys, rfl, ho, hy, hc, hg⟩
      obtain ⟨va, vc, rfl, hr⟩ := OwnL.row ho
      have hx13 : (lists ys).length ≤ 13 := by rw [lists_length]; exact hy
      have l1 := ls.on hBl hg hc
      have b2 := below1 w1 (.cells #[.slice va (lists ys).length vc] 25)
      have HR2 := hid (hr.below b2)
      have L2 := hid (l1.below hBl b2)
      have HO2 := hid (Sep.mono (OwnL.below ho b2) ls.size)
      have x2 : (w1.alloc (.cells #[.slice va (lists ys).length vc] 25)).cell? ⟨w1.heap.size, 0, none⟩ = some (.slice va (lists ys).length vc) := by simp [go_sem]
      have h1sz : w.heap.size + 1 ≤ w1.heap.size := l1.size
      clear ho hc hg hr l1 b2 ls
      go_wp2_with fail
      refine (sRed_some va vc (lists ys) _ (by omega) HR2.out).mono ?_
      rintro e w3 ⟨⟨b1, b2, rfl⟩, hb3⟩
      have x3 := cell_below x2 hb3
      have l3 := L2.out.below hBl hb3
      have HO3 := hid (OwnL.below HO2.out hb3)
      have HL3 := hid l3
      have xb := l3.box
      have xf := l3.frz
      have hne : ¬ w1.heap.size = w.heap.size := by omega
      clear hb3 x2 HR2 L2 HO2 l3
      cases b1
      · go_wp2
        go_roundw
        case rel => exact ⟨k + 1, by go_num, by omega, HL3.out.on hBl (World.grownBy.refl _ _) (HL3.out.cur.more (by omega))⟩
        case measure => simp [intOf]; omega
      · cases b2
        · go_wp2
          go_roundw
          case rel => exact ⟨k + 1, by go_num, by omega, HL3.out.on hBl (World.grownBy.refl _ _) (HL3.out.cur.more (by omega))⟩
          case measure => simp [intOf]; omega
        · go_wp2
          refine bodyPost_ret (v := .agg #[.slice va (lists ys).length vc]) (by simp [results, Tryz.results26, go_sem, *]) rfl ⟨_, ys, rfl, ?_, hy, ?_, ?_⟩
          · exact Sep.mono (Sep.aside HO3.out (by omega) _) (by omega)
          · exact (HL3.out.cur.belowC ((Below.refl _ _).setCell (Nat.le_refl _) _) hBl).more (by omega)
          · exact grown_below HL3.out.grown ((Below.refl _ _).setCell (Nat.le_refl _) _) (Nat.le_refl _)
    · go_wp2_with fail
      refine (graph7_any n0 B (K + 1000 * k) _ ls.cur (by omega)).mono ?_
      rintro e w1 ⟨v, ys, rfl, ho, hy, hc, hg⟩
      obtain ⟨va, vc, rfl, hr⟩ := OwnL.row ho
      have l1 := ls.on hBl hg hc
      have HO1 := hid (Sep.mono ho ls.size)
      have HL1 := hid l1
      have xb := l1.box
      have xf := l1.frz
      clear ho hc hg hr ls l1
      go_wp2
      refine bodyPost_ret (v := .agg #[.slice va (lists ys).length vc]) (by simp [results, Tryz.results26, go_sem, *]) rfl ⟨_, ys, rfl, ?_, hy, ?_, ?_⟩
      · exact Sep.mono (Sep.aside HO1.out (by omega) _) (by omega)
      · exact (HL1.out.cur.belowC ((Below.refl _ _).setCell (Nat.le_refl _) _) hBl).more (by omega)
      · exact grown_below HL1.out.grown ((Below.refl _ _).setCell (Nat.le_refl _) _) (Nat.le_refl _)
end

section
open Go.RowKit
set_option linter.unusedVariables false
set_option linter.unusedSimpArgs false
set_option maxRecDepth 100000

set_option maxHeartbeats 2000000 in
theorem drawDeep_any (a : Option Addr) (c : Nat) (zs : List Int) (w : World) (h : Code w a zs) :
    Calls Tryz.prog 16 #[.slice a zs.length c] w fun e w' => ∃ v ys i, e = .returned (.tuple #[.agg #[v], .int .i64 i]) ∧ OwnL w' w.heap.size v ys ∧ ys.length ≤ 13 ∧ Below w.heap.size w w' := by
  have b0 := below1 w (.cells #[.slice none 0 0] 25)
  have HG := hid (looped_any _ _ 0 _ ((h.later b0).cur c) (by omega))
  have x0 : ((w.alloc (.cells #[.slice none 0 0] 25)).alloc (.cells #[.slice a zs.length c, .int .i64 0, .int .u64 0] 54)).cell? ⟨w.heap.size, 0, none⟩ = some (.slice none 0 0) := by simp [go_sem]
  have z0 : (w.alloc (.cells #[.slice none 0 0] 25)).heap.size = w.heap.size + 1 := by simp
  have hl := h.1
  have f0 : ((w.alloc (.cells #[.slice none 0 0] 25)).alloc (.cells #[.slice a zs.length c, .int .i64 0, .int .u64 0] 54)).frozen? ⟨w.heap.size, 0, none⟩ = false := by simp [go_sem]
  rw [z0] at HG
  have HB0 := hid b0
  clear h b0
  go_enter Tryz.func16, Tryz.ntmps16
  go_wp2_with fail
  refine HG.out.mono ?_
  rintro e w1 ⟨v, ys, rfl, ho, hy, hc, hg⟩
  have x1 := cell_grown x0 hg (by omega)
  have f1 : w1.frozen? ⟨w.heap.size, 0, none⟩ = false := by rw [frozen_grown (by simp; omega) hg (by omega)]; exact f0
  have HB1 : Hid (Below w.heap.size w w1) := by
    have h1 : Below (w.heap.size + 1) (w.alloc (.cells #[.slice none 0 0] 25)) w1 := by
      have := below_of_alloc (w := w.alloc (.cells #[.slice none 0 0] 25)) (w' := w1) (o := .cells #[.slice a zs.length c, .int .i64 0, .int .u64 0] 54) (by rw [z0]; exact hg)
      rwa [z0] at this
    exact HB0.out.trans (h1.mono (by omega))
  have hsz : w.heap.size + 2 ≤ w1.heap.size := by have := hg.size; simp at this; omega
  have HO := hid (Sep.mono ho (show w.heap.size + 2 ≤ _ by simp))
  obtain ⟨va, vc, rfl, _⟩ := OwnL.row ho
  have hx13 : (lists ys).length ≤ 13 := by rw [lists_length]; exact hy
  generalize hN : (lists ys).length = N at hx13 HO ⊢
  have b2 := below1 w1 (.cells #[.slice va N vc] 25)
  have c2 : (w1.alloc (.cells #[.slice va N vc] 25)).cell? ⟨w1.heap.size, 0, none⟩ = some (.slice va N vc) := by simp [go_sem]
  have x2 := cell_below x1 b2
  have f2 : (w1.alloc (.cells #[.slice va N vc] 25)).frozen? ⟨w.heap.size, 0, none⟩ = false := by rw [b2.frozen (p := ⟨w.heap.size, 0, none⟩) (by show w.heap.size < _; omega)]; exact f1
  have hwk : IntKind.i64.wrap ((N : Int) + 2) = (N : Int) + 2 := by rw [IntKind.wrap_i64]; omega
  have hp0 := pick_any _ _ _ (IntKind.i64.wrap ((N : Int) + 2)) (w1.alloc (.cells #[.slice va N vc] 25)).drew ((cur_below hc b2).grown (grownBy_drewN _ 1 none) (fun r e => by cases e)) (by omega) (by omega) (by omega)
  have HP := hid hp0
  have HO2 := hid (OwnL.below HO.out b2)
  have HB2 := hid (bstep' HB1.out b2)
  have hne : ¬ w1.heap.size = w.heap.size := by omega
  clear ho hc hg x0 f0 hp0 hwk HO HB1 x1 f1 b2
  go_wp2
  go_region_with (go_at_call 41; refine HP.out.mono ?_; rintro e w3 ⟨r, rfl, hr, hc3, hg3⟩; have x3 := cell_grown (w := (w1.alloc (.cells #[.slice va N vc] 25)).drew) x2 hg3 (by omega); have c3 := cell_grown (w := (w1.alloc (.cells #[.slice va N vc] 25)).drew) c2 hg3 (by omega); have f3 : w3.frozen? ⟨w.heap.size, 0, none⟩ = false := (by rw [frozen_grown (w := (w1.alloc (.cells #[.slice va N vc] 25)).drew) (by show w.heap.size < (w1.alloc (.cells #[.slice va N vc] 25)).heap.size; simp; omega) hg3 (by omega)]; exact f2))
  all_goals
    go_wp2
    refine bodyPost_ret (v := .tuple #[.agg #[.slice va N vc], .int .i64 _]) (by simp [results, Tryz.results16, go_sem, *]; rfl) rfl ⟨_, ys, _, rfl, ?_, hy, ?_⟩
    · exact Sep.mono (Sep.aside (Sep.aside' (w := (w1.alloc (.cells #[.slice va N vc] 25)).drew) HO2.out hg3 (by omega)) (by omega) _) (by omega)
    · have h3 : Below w.heap.size (w1.alloc (.cells #[.slice va N vc] 25)).drew w3 := ⟨hg3.os, hg3.tape, hg3.output, hg3.size, fun k hk => by
        by_cases hkw : k < (w1.alloc (.cells #[.slice va N vc] 25)).drew.heap.size
        · exact hg3.block k hkw (fun e => by simp at e; omega)
        · exfalso; apply hkw; show k < (w1.alloc (.cells #[.slice va N vc] 25)).heap.size; simp; omega⟩
      exact ((HB2.out.drew).trans h3).setCell (Nat.le_refl _) _
set_option maxHeartbeats 2000000 in
theorem drawExits_any (a : Option Addr) (c : Nat) (zs : List Int) (w : World) (h : Code w a zs) :
    Calls Tryz.prog 21 #[.slice a zs.length c] w fun e w' => ∃ v ys i, e = .returned (.tuple #[.agg #[v], .int .i64 i]) ∧ OwnL w' w.heap.size v ys ∧ ys.length ≤ 13 ∧ Below w.heap.size w w' := by
  have b0 := below1 w (.cells #[.slice none 0 0] 25)
  have HG := hid (looped_any _ _ 0 _ ((h.later b0).cur c) (by omega))
  have x0 : ((w.alloc (.cells #[.slice none 0 0] 25)).alloc (.cells #[.slice a zs.length c, .int .i64 0, .int .u64 0] 54)).cell? ⟨w.heap.size, 0, none⟩ = some (.slice none 0 0) := by simp [go_sem]
  have z0 : (w.alloc (.cells #[.slice none 0 0] 25)).heap.size = w.heap.size + 1 := by simp
  have hl := h.1
  have f0 : ((w.alloc (.cells #[.slice none 0 0] 25)).alloc (.cells #[.slice a zs.length c, .int .i64 0, .int .u64 0] 54)).frozen? ⟨w.heap.size, 0, none⟩ = false := by simp [go_sem]
  rw [z0] at HG
  have HB0 := hid b0
  clear h b0
  go_enter Tryz.func21, Tryz.ntmps21
  go_wp2_with fail
  refine HG.out.mono ?_
  rintro e w1 ⟨v, ys, rfl, ho, hy, hc, hg⟩
  have x1 := cell_grown x0 hg (by omega)
  have f1 : w1.frozen? ⟨w.heap.size, 0, none⟩ = false := by rw [frozen_grown (by simp; omega) hg (by omega)]; exact f0
  have HB1 : Hid (Below w.heap.size w w1) := by
    have h1 : Below (w.heap.size + 1) (w.alloc (.cells #[.slice none 0 0] 25)) w1 := by
      have := below_of_alloc (w := w.alloc (.cells #[.slice none 0 0] 25)) (w' := w1) (o := .cells #[.slice a zs.length c, .int .i64 0, .int .u64 0] 54) (by rw [z0]; exact hg)
      rwa [z0] at this
    exact HB0.out.trans (h1.mono (by omega))
  have hsz : w.heap.size + 2 ≤ w1.heap.size := by have := hg.size; simp at this; omega
  have HO := hid (Sep.mono ho (show w.heap.size + 2 ≤ _ by simp))
  obtain ⟨va, vc, rfl, _⟩ := OwnL.row ho
  generalize hN : (lists ys).length = N at HO ⊢
  clear ho hg x0 f0
  go_wp2_with fail
  refine (pick_any _ _ _ 4 _ hc (by omega) (by omega) (by omega)).mono ?_
  rintro e w2 ⟨r2, rfl, ⟨p20, p21⟩, hc2, hg2⟩
  go_wp2_with fail
  refine (pick_any _ _ _ 2 _ hc2 (by omega) (by omega) (by omega)).mono ?_
  rintro e w3 ⟨r3, rfl, ⟨p30, p31⟩, hc3, hg3⟩
  go_wp2_with fail
  refine (pick_any _ _ _ 2 _ hc3 (by omega) (by omega) (by omega)).mono ?_
  rintro e w4 ⟨r4, rfl, ⟨p40, p41⟩, hc4, hg4⟩
  have hg := grownBy_trans hg2 (grownBy_trans hg3 hg4)
  have x4 := cell_grown x1 hg (by omega)
  have f4 : w4.frozen? ⟨w.heap.size, 0, none⟩ = false := by rw [frozen_grown (by omega) hg (by omega)]; exact f1
  have HG4 := hid hg
  clear hg hg2 hg3 hg4 hc hc2 hc3 hc4 x1 f1
  go_wp2
  refine bodyPost_ret (v := .tuple #[.agg #[.slice va N vc], .int .i64 _]) (by simp [results, Tryz.results21, go_sem, *]; rfl) rfl ⟨_, ys, _, rfl, ?_, hy, ?_⟩
  · exact Sep.mono (Sep.aside (Sep.aside' HO.out HG4.out (by omega)) (by omega) _) (by omega)
  · have h3 : Below w.heap.size w1 w4 := ⟨HG4.out.os, HG4.out.tape, HG4.out.output, HG4.out.size, fun k hk => HG4.out.block k (by omega) (fun e => by simp at e; omega)⟩
    exact (HB1.out.trans h3).setCell (Nat.le_refl _) _
end
end Go.Proofs.YtiadmmnnbnamjaaGreat
