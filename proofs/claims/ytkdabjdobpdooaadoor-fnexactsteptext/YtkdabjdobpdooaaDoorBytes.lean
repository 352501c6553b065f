/- The program's iterator over bytes of seven bits, and the string that it makes of them. -/
import Derived.RangeFuncNested
import Derived.RangeFuncBound
import Derived.RangeFuncCalls
import Derived.RangeFuncLeaves
import Derived.Shelf.Abstract
import Derived.Shelf.RegionOpen
import Derived.WalkKit
import Derived.OwnWalkIn
import Derived.TacticsInMore
import Derived.LoopNIn
import Derived.LoopIn
import Derived.Test.YtkdabjdobpdooaaDoorShelf
import Derived.Test.YtkdabjdobpdooaaDoorMath
namespace Go.Proofs.YtkdabjdobpdooaaDoor
open Go.RowKit Go.Shelf
attribute [local go_sem] Oper.semAt_some
set_option linter.unusedVariables false

theorem cell_new1 (W : World) (v : Value) (t : TypeId) : (W.alloc (.cells #[v] t)).cell? ⟨W.heap.size, 0, none⟩ = some v := by simp
theorem cell_before (W : World) (o : Obj) (p : Addr) (h : p.block < W.heap.size) : (W.alloc o).cell? p = W.cell? p := ((Below.refl W.heap.size W).alloc (Nat.le_refl _) o).cell h

theorem sev_step (k : Nat) (q : Int) (h : 1 ≤ k) : ∃ b : UInt8, sev k q = b :: sev (k - 1) (q / 128) ∧ (b.toNat : Int) = (if 1 < k then q % 128 + 128 else q % 128) := by
  obtain ⟨j, rfl⟩ : ∃ j, k = j + 1 := ⟨k - 1, by omega⟩
  cases j with
  | zero => exact ⟨by8 (q % 128), rfl, by rw [by8_toNat _ (by omega) (by omega)]; rfl⟩
  | succ j => exact ⟨by8 (q % 128 + 128), rfl, by rw [by8_toNat _ (by omega) (by omega)]; simp⟩

set_option maxHeartbeats 1000000 in
theorem sevens_stops (F : Fence) (n : Nat) (h71 : F.fn 109) (hro : F.round = none) (hn : 1 ≤ n) (Bn Bm : Nat) (nn : Int) (m : Nat) (w : World) (hm : m ≤ 10)
    (hBn : Bn < w.heap.size) (hBm : Bm < w.heap.size) (hcn : w.cell? ⟨Bn, 0, none⟩ = some (.int .i64 nn)) (hcm : w.cell? ⟨Bm, 0, none⟩ = some (.int .i64 m)) :
    SeqStopsK F n Tryd.prog 109 #[.pointer (some ⟨Bn, 0, none⟩), .pointer (some ⟨Bm, 0, none⟩)] (fun x : UInt8 => #[.int .u8 x.toNat]) (fun _ _ => True) (fun xs => xs = sev m nn) (fun _ => True) m w := fun l J Jx W hW hJ hJx hY h0 => by
  have c1 : W.cell? ⟨Bn, 0, none⟩ = some (.int .i64 nn) := (hW.cell (p := ⟨Bn, 0, none⟩) hBn).trans hcn
  have c2 : W.cell? ⟨Bm, 0, none⟩ = some (.int .i64 m) := (hW.cell (p := ⟨Bm, 0, none⟩) hBm).trans hcm
  refine callsIn_of_wp Tryd.func109 rfl h71 ?_ hro
  simp only [Tryd.ntmps109, List.size_toArray, List.length_cons, List.length_nil, Nat.reduceAdd, Nat.reduceSub, Array.replicate_succ, Array.replicate_zero, List.push_toArray, List.append_toArray, List.nil_append, List.cons_append]
  gi_wp2
  gi_loopw [4, 5] (fun r lft wr => ∃ (pre : List UInt8) (k : Nat) (q : Int), r = .int .i64 q ∧ lft = .int .i64 k ∧ sev m nn = pre ++ sev k q ∧ pre.length + k = m ∧ J pre wr) (fun _ lft _ => (intOf lft).toNat)
  case atStart => exact ⟨[], m, nn, rfl, rfl, rfl, by simp, h0⟩
  case round =>
    obtain ⟨pre, k, q, rfl, rfl, hs, hl, hJp⟩ := hrel
    have HS : Hid (sev m nn = pre ++ sev k q) := hs
    have HL : Hid (pre.length + k = m) := hl
    have hk10 : k ≤ 10 := by omega
    clear hs
    by_cases hk0 : k = 0
    · subst hk0
      clear hl
      gi_wp2
      go_end0
      exact ⟨⟨_, rfl⟩, .inl ⟨pre, by rw [HS.out]; simp [sev], hJp⟩⟩
    · obtain ⟨b, hb, hbn⟩ := sev_step k q (by omega)
      obtain ⟨fn, tmps, assign, body, hy, hR⟩ := hY pre b wr hJp (by omega)
      have HB : Hid (sev k q = b :: sev (k - 1) (q / 128)) := hb
      have ha := and127 q
      have hm2 : q % 128 % 256 = q % 128 := by omega
      clear hb hl
      by_cases hk1 : 1 < k
      · rw [if_pos hk1] at hbn
        rw [hbn] at hy
        have ho := or128_u8 (q % 128) (by omega) (by omega)
        clear hbn
        gi_wp2
        refine hR.mono ?_
        rintro e W3 (⟨rfl, hJ3, hk3⟩ | ⟨rfl, hJx3⟩)
        · gi_wp2
          go_roundw
          case rel => exact ⟨pre ++ [b], k - 1, q / 128, by go_num, by go_num, by rw [HS.out, HB.out]; simp, by have := HL.out; simp; omega, hJ3⟩
          case measure => simp [intOf]; omega
        · gi_wp2
          refine bodyPost_ret (results_none rfl _ _ _) rfl ?_
          exact ⟨⟨_, rfl⟩, .inr ⟨pre ++ [b], trivial, hJx3⟩⟩
      · rw [if_neg hk1] at hbn
        rw [hbn] at hy
        clear hbn
        gi_wp2
        refine hR.mono ?_
        rintro e W3 (⟨rfl, hJ3, hk3⟩ | ⟨rfl, hJx3⟩)
        · gi_wp2
          go_roundw
          case rel => exact ⟨pre ++ [b], k - 1, q / 128, by go_num, by go_num, by rw [HS.out, HB.out]; simp, by have := HL.out; simp; omega, hJ3⟩
          case measure => simp [intOf]; omega
        · gi_wp2
          refine bodyPost_ret (results_none rfl _ _ _) rfl ?_
          exact ⟨⟨_, rfl⟩, .inr ⟨pre ++ [b], trivial, hJx3⟩⟩

theorem sevens_any (nn mm : Int) (w : World) : Calls Tryd.prog 100 #[.int .i64 nn, .int .i64 mm] w fun e w' =>
    e = .returned (.func (.func 109) #[] #[.pointer (some ⟨w.heap.size, 0, none⟩), .pointer (some ⟨w.heap.size + 1, 0, none⟩)]) ∧ w' = (w.alloc (.cells #[.int .i64 nn] 3)).alloc (.cells #[.int .i64 mm] 3) := by
  go_enter Tryd.func100, Tryd.ntmps100
  go_wp2
  go_ret
  exact ⟨rfl, rfl⟩

/-- a builder abides the turn of what is no cells -/
theorem builder_own (B b : Nat) : Own (fun (pre : List UInt8) W => Lib.IsBuilderF 60 5 B b (Lib.byteCells pre) W) := by
  have key : ∀ (p : Value) (bs : List Value) (W W' : World) (row : Option Nat), Lib.BuilderAtF 60 5 B b p bs W → W.grownBy W' row → (∀ r, row = some r → ∃ o : Obj, W.heap[r]? = some o ∧ o.isCells = false) → Lib.BuilderAtF 60 5 B b p bs W' := by
    intro p bs W W' row ⟨hB, v, hbk, hown, hne⟩ hg hr
    refine ⟨hB, v, (grownBy_keeps_cells hg hr hbk rfl).trans hbk, hown.kept hg ?_, hne⟩
    cases hv : v.ownBlock with
    | none => exact .inl rfl
    | some g =>
      refine .inr fun e => ?_
      obtain ⟨c, fz, hc⟩ := Lib.ownsRowF_kind hown g hv
      obtain ⟨o, ho, hno⟩ := hr g e.symm
      rw [hc] at ho
      cases ho
      simp [Obj.isCells] at hno
  rintro pre W W' row (h | h) hg hr
  · exact .inl (key _ _ _ _ _ h hg hr)
  · exact .inr (key _ _ _ _ _ h hg hr)

theorem keeps_of_others {b : Nat} {W W' : World} (h : Lib.OthersKept 5 (some b) W W') (hb : ∃ c fz, W.heap[b]? = some (.cells c 60 fz)) (hs : W.heap.size ≤ W'.heap.size) : KeepsOthers W W' := by
  refine ⟨hs, fun k o hk ho => h k o hk ?_ ?_⟩
  · intro e
    cases e
    obtain ⟨c, fz, hc⟩ := hb
    rw [hc] at hk
    cases hk
    simp [Obj.isCells] at ho
  · intro c fz e
    subst e
    simp [Obj.isCells] at ho

theorem builder_block {B b : Nat} {bs : List Value} {W : World} (h : Lib.IsBuilderF 60 5 B b bs W) : ∃ c fz, W.heap[b]? = some (.cells c 60 fz) := by
  rcases h with ⟨_, v, hb, _⟩ | ⟨_, v, hb, _⟩
  · exact ⟨_, _, hb⟩
  · exact ⟨_, _, hb⟩

set_option maxRecDepth 100000 in
set_option maxHeartbeats 2000000 in
theorem bytesOf_any (nn : Int) (m : Nat) (w : World) (hm : m ≤ 10) : Calls Tryd.prog 77 #[.int .i64 nn, .int .i64 m] w fun e w' => e = .returned (.string ⟨(sev m nn).toArray⟩) ∧ Below w.heap.size w w' := by
  refine (callsIn_wide (n := 3)).1 ?_
  refine callsIn_of_wp_marks Tryd.func77 rfl trivial ?_ rfl
  simp only [Tryd.ntmps77, List.size_toArray, List.length_cons, List.length_nil, Nat.reduceAdd, Nat.reduceSub, Array.replicate_succ, Array.replicate_zero, List.push_toArray, List.append_toArray, List.nil_append, List.cons_append]
  gi_wp2_with (refine ⟨trivial, ?_⟩; gi_at_call 100; refine (callsIn_wide.2 (sevens_any _ _ _)).mono ?_; rintro e w' ⟨rfl, rfl⟩)
  have hcn : (((w.alloc (.cells #[.pointer none, .slice none 0 0] 60)).alloc (.cells #[.int .i64 nn] 3)).alloc (.cells #[.int .i64 (m : Int)] 3)).cell? ⟨w.heap.size + 1, 0, none⟩ = some (.int .i64 nn) := by
    rw [cell_before _ _ _ (by simp)]
    have := cell_new1 (w.alloc (.cells #[.pointer none, .slice none 0 0] 60)) (.int .i64 nn) 3
    rwa [World.size_alloc] at this
  have hcm : (((w.alloc (.cells #[.pointer none, .slice none 0 0] 60)).alloc (.cells #[.int .i64 nn] 3)).alloc (.cells #[.int .i64 (m : Int)] 3)).cell? ⟨w.heap.size + 1 + 1, 0, none⟩ = some (.int .i64 m) := by
    have := cell_new1 ((w.alloc (.cells #[.pointer none, .slice none 0 0] 60)).alloc (.cells #[.int .i64 nn] 3)) (.int .i64 m) 3
    rwa [World.size_alloc, World.size_alloc] at this
  refine wpIn_rangeFunc_ownF rfl (by omega) (gf := 109) (lb := #[.pointer (some ⟨w.heap.size + 1, 0, none⟩), .pointer (some ⟨w.heap.size + 1 + 1, 0, none⟩)]) rfl trivial (enters_of Tryd.func109 (by kernel_rfl) rfl)
    (sevens_stops Fence.wide _ trivial rfl (by omega) (w.heap.size + 1) (w.heap.size + 1 + 1) nn m _ hm (by simp) (by simp) hcn hcm) (fun _ _ => trivial) (fun _ _ _ _ _ _ _ _ => trivial) (Below.refl _ _) (fun _ => rfl)
    (fun pre W => Lib.IsBuilderF 60 5 w.heap.size w.heap.size (Lib.byteCells pre) W ∧ Below w.heap.size w W)
    (fun _ _ _ => False)
    (OwnFrom.and (Own.from (builder_own _ _) _) (ownFrom_below (Nat.le_refl _) (by simp; omega)))
    (fun _ _ _ _ _ hs _ _ => hs)
    ⟨((Lib.IsBuilderF.of (Lib.fresh_isBuilder 60 5 w)).alloc _).alloc _, (((Below.refl _ w).alloc (Nat.le_refl _) _).alloc (by simp) _).alloc (by simp; omega) _⟩
    (fun x => { tmps := #[.int .i64 nn, .int .i64 m, undef, undef, .string ⟨#[]⟩, .pointer (some ⟨w.heap.size, 0, none⟩), .int .u8 x.toNat, .int .i64 nn, .int .i64 m, .func (.func 109) #[] #[.pointer (some ⟨w.heap.size + 1, 0, none⟩), .pointer (some ⟨w.heap.size + 1 + 1, 0, none⟩)], .int .u8 x.toNat, undef, undef, undef], defers := [] }) ?assign ?body ?done ?stop
  case assign =>
    intro l x W K hK
    gi_wp2
    exact hK
  case body =>
    rintro l pre x W ⟨hbu, hB⟩ hlen
    have hsz := hB.size
    gi_wp2_with (refine ⟨trivial, ?_⟩; gi_at_call 45; refine (CallsIn.inRound l (callsIn_wide.2 (writeByte_any w.heap.size w.heap.size (Lib.byteCells pre) _ _ hbu (by rw [Lib.byteCells_length]; omega) hsz))).mono ?_; rintro e w' ⟨rfl, h1, b1, k1⟩)
    refine ⟨keeps_of_others k1 (builder_block hbu) b1.size, trivial, .inr ?_, hB.trans b1⟩
    rw [Lib.byteCells_append]
    exact h1
  case done =>
    rintro D ys W hD rfl ⟨hbu, hB⟩ hK
    have hsz := hB.size
    gi_wp2_with (refine ⟨trivial, ?_⟩; gi_at_call 50; refine (callsIn_wide.2 (string_any w.heap.size w.heap.size (sev m nn) _ hbu hsz)).mono ?_; rintro e w' ⟨rfl, h1, b1, k1⟩)
    have hK' : w'.heap[D]? = some (.deferred (some [])) := k1 D _ hK (by intro e; cases e; simp at hD; omega) (by intro c fz e; cases e)
    refine ⟨by simp, .inl ⟨_, _, rfl, run_takeDeferred hK', ?_⟩⟩
    refine ⟨_, results_tmp rfl _ _ _, rfl, (hB.trans b1).trans (belowK_b (w := w) (Nat.le_refl _) _ D _ _ (by simp at hD; omega) hK' rfl rfl)⟩
  case stop =>
    rintro D c pre W _ _ h _
    exact h.elim
end Go.Proofs.YtkdabjdobpdooaaDoor
