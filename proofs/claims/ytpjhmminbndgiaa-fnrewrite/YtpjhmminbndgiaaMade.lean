/- What comes of a text by one rule at one place, as the program goes through it. -/
import Derived.Test.YtpjhmminbndgiaaRw
import Derived.RangeFuncNested
import Derived.RangeFuncBound
import Derived.RangeFuncCalls
import Derived.RangeFuncLeaves
import Derived.RangeFuncBox
import Derived.RangeFuncFrom
import Derived.Shelf.Abstract
import Derived.Shelf.RegionOpen
import Derived.OwnWalkIn
import Derived.TacticsInMore
import Derived.LoopNIn
import Derived.LoopIn
import Derived.Lib.RowBridge
import Derived.Stop.RegionWithIn
import Derived.Sort.QuietIn
import Derived.Sort.CutIn
namespace Go.Proofs.Ytpjhmminbndgiaa
open Go Go.RowKit
attribute [local go_sem] Oper.semAt_some
set_option linter.unusedVariables false
set_option linter.unusedSimpArgs false
set_option maxRecDepth 100000

/-- what a round that goes on keeps: what lay ahead, every block that holds a rule's function, and two blocks besides -/
def KpW (n b1 b2 : Nat) (W W' : World) : Prop := Below n W W' ∧ W.heap.size ≤ W'.heap.size ∧ (∀ (k : Nat) cs z, W.heap[k]? = some (Obj.cells cs 92 z) → W'.heap[k]? = some (Obj.cells cs 92 z)) ∧ ∀ k : Nat, (k = b1 ∨ k = b2) → k < W.heap.size → W'.heap[k]? = W.heap[k]?
theorem KpW.refl (n b1 b2 : Nat) (W : World) : KpW n b1 b2 W W := ⟨Below.refl _ _, Nat.le_refl _, fun _ _ _ h => h, fun _ _ _ => rfl⟩
theorem KpW.trans {n b1 b2 : Nat} {A B C : World} (h : KpW n b1 b2 A B) (k : KpW n b1 b2 B C) : KpW n b1 b2 A C := ⟨h.1.trans k.1, Nat.le_trans h.2.1 k.2.1, fun j cs z hj => k.2.2.1 j cs z (h.2.2.1 j cs z hj), fun j hj hl => (k.2.2.2 j hj (Nat.lt_of_lt_of_le hl h.2.1)).trans (h.2.2.2 j hj hl)⟩
theorem KpW.of_below {n b1 b2 : Nat} {W W' : World} (hn : n ≤ W.heap.size) (h : Below W.heap.size W W') : KpW n b1 b2 W W' := ⟨h.mono hn, h.size, fun k cs z hk => (h.block k (Array.getElem?_eq_some_iff.1 hk).1).trans hk, fun k _ hl => h.block k hl⟩
theorem KpW.of_grown {n b1 b2 : Nat} {W W' : World} {row : Option Nat} (hn : n ≤ W.heap.size) (h : W.grownBy W' row) (hr : ∀ r, row = some r → n ≤ r ∧ r ≠ b1 ∧ r ≠ b2 ∧ ∀ cs z, W.heap[r]? ≠ some (Obj.cells cs 92 z)) : KpW n b1 b2 W W' :=
  ⟨(Below.refl n W).grown h hn (fun k e => (hr k e).1), h.size, fun k cs z hk => by
    rw [h.block k (Array.getElem?_eq_some_iff.1 hk).1 (fun e => (hr k e.symm).2.2.2 cs z hk)]; exact hk, fun k hk hl => h.block k hl (fun e => by
      have := hr k e.symm
      rcases hk with rfl | rfl
      · exact this.2.1 rfl
      · exact this.2.2.1 rfl)⟩
theorem KpW.b {n b1 b2 : Nat} {w : World} (hn : n ≤ w.heap.size) (h1 : b1 < w.heap.size) (h2 : b2 < w.heap.size) (W : World) (l : Nat) (o o' : Obj) (hl : w.heap.size ≤ l) (h : W.heap[l]? = some o) (hc : o.isCells = false) (hw : o.isWalk = false) : KpW n b1 b2 W (W.putObj l o') :=
  KpW.of_grown (by have := (Array.getElem?_eq_some_iff.1 h).1; omega) (grownBy_putObj' W l o') (fun r e => by
    cases e
    refine ⟨by omega, by omega, by omega, fun cs z h2 => ?_⟩
    rw [h] at h2
    cases h2
    simp [Obj.isCells] at hc)
theorem keeps_below {W W' : World} (h : Below W.heap.size W W') : KeepsOthers W W' := ⟨h.size, fun k o hk _ => by rw [← hk]; exact h.block k (Array.getElem?_eq_some_iff.1 hk).1⟩
set_option maxHeartbeats 1000000 in
theorem madeOf_any (a : Option Addr) (len cap : Nat) (s : ByteArray) (w : World) :
    Calls Try.prog 54 #[.slice a len cap, .string s] w fun e w' => e = .returned (.func (.func 72) #[] #[.pointer (some ⟨w.heap.size, 0, none⟩), .pointer (some ⟨w.heap.size + 1, 0, none⟩)]) ∧ w' = (w.alloc (.cells #[.slice a len cap] 60)).alloc (.cells #[.string s] 9) := by
  go_enter Try.func54, Try.ntmps54
  go_wp2
  go_ret
  exact ⟨by simp, rfl⟩
theorem once_prefix {l : List Rl} {s : Tx} {q m : Nat} {r : Rl} (h : l[q]? = some r) (hm : m ≤ s.length) : onceAt l s q m r <+: once l s := by
  have h1 : onceAt l s q m r <+: onceAt l s q s.length r := by
    clear h
    obtain ⟨d, hd⟩ := Nat.exists_eq_add_of_le hm
    rw [hd]
    clear hd hm
    induction d with
    | zero => exact List.prefix_rfl
    | succ d ih => exact ih.trans (by rw [← Nat.add_assoc, onceAt_succ]; exact List.prefix_append _ _)
  rw [← onceTo_succ h] at h1
  refine h1.trans ?_
  have : once l s = onceTo l s (q + 1) ++ once (l.drop (q + 1)) s := by
    unfold onceTo once
    rw [← List.flatMap_append, List.take_append_drop]
  rw [this]
  exact List.prefix_append _ _
theorem rbox_below {w0 W : World} {bx : Nat} {f t : ByteArray} (h : RBox w0 bx f t) (hb : Below w0.heap.size w0 W) : RBox W bx f t := h.below hb
set_option maxHeartbeats 8000000 in
theorem made_in (n : Nat) (hn : 1 ≤ n) (l b1 b2 : Nat) (xs : List RB) (a : Option Addr) (c : Nat) (s : ByteArray) (w0 : World) (hg : rulesB (Rs xs) = true) (hss : s.size ≤ 1000) (hX : WRow w0 a xs)
    (J Jx : List Tx → World → Prop) (W : World) (k1 : W.cell? ⟨b1, 0, none⟩ = some (.slice a xs.length c)) (k2 : W.cell? ⟨b2, 0, none⟩ = some (.string s)) (hbW : Below w0.heap.size w0 W) (hJ : AbidesFrom W.heap.size J)
    (hY : ∀ pre x W, J pre W → pre.length < (once (Rs xs) (Bt s)).length → YieldAt Fence.wide (n - 1) Try.prog l #[.string (Sb x)] W fun e W' =>
      (e = .returned (.bool true) ∧ J (pre ++ [x]) W' ∧ KpW w0.heap.size b1 b2 W W') ∨ (e = .returned (.bool false) ∧ Jx (pre ++ [x]) W'))
    (h0 : J [] W) :
    CallsIn Fence.wide n Try.prog 72 #[.func (.yield l) #[] #[], .pointer (some ⟨b1, 0, none⟩), .pointer (some ⟨b2, 0, none⟩)] W fun e W' => (∃ v, e = .returned v) ∧
      ((∃ ys, ys = once (Rs xs) (Bt s) ∧ J ys W') ∨ (∃ pre, pre <+: once (Rs xs) (Bt s) ∧ Jx pre W')) := by
  have hx8 := good_len hg
  have HX := hid hX
  have HG := hid hg
  have HJA := hid hJ
  have HY := hid hY
  have HBW := hid hbW
  have HKC := hid (fun (V : World) (h : KpW w0.heap.size b1 b2 W V) => And.intro ((World.cell?_of_block (w := W) (a := ⟨b1, 0, none⟩) (h.2.2.2 b1 (.inl rfl) (World.block_lt_of_cell? W _ k1))).trans k1) ((World.cell?_of_block (w := W) (a := ⟨b2, 0, none⟩) (h.2.2.2 b2 (.inr rfl) (World.block_lt_of_cell? W _ k2))).trans k2))
  have r1 := (HKC.out W (KpW.refl _ _ _ _)).1
  clear hX hg hJ hY hbW k1 k2
  refine callsIn_of_wp Try.func72 rfl trivial ?_ rfl
  simp only [Try.ntmps72, List.size_toArray, List.length_cons, List.length_nil, Nat.reduceAdd, Nat.reduceSub, Array.replicate_succ, Array.replicate_zero, List.push_toArray, List.append_toArray, List.nil_append, List.cons_append]
  gi_wp2
  clear r1
  gi_loopw [11] (fun t11 wr => ∃ q : Nat, q ≤ xs.length ∧ t11 = .int .i64 q ∧ Hid (J (onceTo (Rs xs) (Bt s) q) wr) ∧ Hid (KpW w0.heap.size b1 b2 W wr)) (fun t11 _ => xs.length - (intOf t11).toNat)
  case atStart => exact ⟨0, Nat.zero_le _, rfl, (by show J _ _; simpa [onceTo, once] using h0), KpW.refl _ _ _ _⟩
  case round =>
    obtain ⟨V0, rfl⟩ : ∃ V0, V0 = wr := ⟨_, rfl⟩
    obtain ⟨q, hq, rfl, HJ1, HK1⟩ := hrel
    clear h0
    by_cases hqx : q < xs.length
    · obtain ⟨b, off, rfl, hbw, hat⟩ := HX.out.at (by intro e; subst e; simp at hqx)
      obtain ⟨f, t, bu, c0, c1, HB, hbu, HXK⟩ := hat V0 (HBW.out.trans HK1.out.1) q hqx
      obtain ⟨hf6, ht6, hr⟩ := good_at HG.out HXK.out
      obtain ⟨r1, r2⟩ := HKC.out V0 HK1.out
      have hsz := HBW.out.size
      have hsz2 := HK1.out.1.size
      have hWr : W.heap.size ≤ V0.heap.size := HK1.out.2.1
      have bF := below1 V0 (.cells #[.string f, useV bu] 92)
      obtain ⟨W2, hW2⟩ : ∃ W, W = V0.alloc (.cells #[.string f, useV bu] 92) := ⟨_, rfl⟩
      have r2' : W2.cell? ⟨b2, 0, none⟩ = some (.string s) := by rw [hW2]; exact cell_below r2 bF
      obtain ⟨bx, hbx⟩ : ∃ bx, V0.heap.size = bx := ⟨_, rfl⟩
      have HBOX : Hid (W2.heap[bx]? = some (.cells #[.string f, useV bu] 92 (0, 0))) := by show _ = _; rw [hW2, ← hbx]; exact heap_alloc_new _ _
      have HJ2 : Hid (J (onceTo (Rs xs) (Bt s) q) W2) := by
        show J _ _
        rw [hW2]
        exact HJA.out _ _ _ none HJ1.out (World.grownBy_alloc _ _ _) (fun r e => by cases e)
      have HKW : Hid (KpW w0.heap.size b1 b2 V0 W2) := by
        show KpW _ _ _ _ _
        rw [hW2]
        exact KpW.of_below (by omega) bF
      gi_upto_region 3 with fail
      rw [← hW2]
      try rw [hbx]
      have h2sz : bx + 1 ≤ W2.heap.size := by rw [hW2]; simp [hbx]
      clear hW2 hbx hat c0 c1 bF HJ1 r1 r2
      gi_wp2
      clear r2'
      gi_loopw [17] (fun t17 wr => ∃ m : Nat, m ≤ s.size ∧ t17 = .int .i64 m ∧ Hid (J (onceAt (Rs xs) (Bt s) q m (Bt f, Bt t)) wr) ∧ Hid (KpW w0.heap.size b1 b2 W2 wr)) (fun t17 _ => s.size - (intOf t17).toNat)
      case atStart => exact ⟨0, Nat.zero_le _, rfl, (by show J _ _; rw [onceAt_zero]; exact HJ2.out), KpW.refl _ _ _ _⟩
      case round =>
        obtain ⟨m, hm, rfl, HJM, HKM⟩ := hrel
        have HKR := hid (HK1.out.trans (HKW.out.trans HKM.out))
        have hB := HBW.out.trans HKR.out.1
        by_cases hmt : m < s.size
        · have hbox := HKM.out.2.2.1 bx _ _ HBOX.out
          have rb1 : wr.cell? ⟨bx, 1, none⟩ = some (useV bu) := by rw [Lib.cell_of_heap hbox]; rfl
          have r2 := (HKC.out wr HKR.out).2
          have cU := use_any bu f t s m wr (HB.out.below hB) hss (by omega) (by omega) hm
          have hon := onceAt_succ (Rs xs) (Bt s) q m (Bt f, Bt t)
          have hpx := once_prefix (rs_at HXK.out) (m := m + 1) (s := Bt s) (by rw [← Bt_size]; omega)
          cases hu : usedB f t s m with
          | none =>
            rw [hu] at cU
            rw [show useAt (Bt f, Bt t) (Bt s) m = none from hu] at hon
            simp only [Option.toList_none, List.append_nil] at hon
            have HON := hid hon
            have HCU := hid cU
            clear hbox cU hon hpx hu
            gi_wp2_with fail
            refine ⟨trivial, ?_⟩
            refine (callsIn_wide.2 HCU.out).mono ?_
            rintro e w3 ⟨rfl, hb3⟩
            have HJ3 : Hid (J (onceAt (Rs xs) (Bt s) q (m + 1) (Bt f, Bt t)) w3) := by
              show J _ _
              rw [HON.out]
              exact HJA.out _ _ _ none HJM.out (grownBy_of_below hb3 none) (fun r e => by cases e)
            have hsk := HKM.out.2.1
            have HK3 : Hid (KpW w0.heap.size b1 b2 W2 w3) := HKM.out.trans (KpW.of_below (by have := HKR.out.2.1; omega) hb3)
            simp only [oStr, Option.getD_none, Option.isSome_none]
            gi_upto_region 7 with fail
            refine wpIn_wide.2 ?_
            go_wp2
            gi_wp2
            go_roundw
            case rel => exact ⟨m + 1, by omega, by simp, HJ3, HK3⟩
            case measure => simp [intOf]; omega
          | some y =>
            rw [hu] at cU
            rw [show useAt (Bt f, Bt t) (Bt s) m = some y from hu] at hon
            simp only [Option.toList_some] at hon
            simp only [oStr, Option.getD_some, Option.isSome_some] at cU
            have hlen : (onceAt (Rs xs) (Bt s) q m (Bt f, Bt t)).length < (once (Rs xs) (Bt s)).length := by
              have := hpx.length_le
              rw [hon, List.length_append] at this
              simp at this
              omega
            have HON := hid hon
            have HPX := hid hpx
            have HCU := hid cU
            clear hbox cU hon hpx hu
            gi_wp2_with fail
            refine ⟨trivial, ?_⟩
            refine (callsIn_wide.2 HCU.out).mono ?_
            rintro e w3 ⟨rfl, hb3⟩
            have hJ3 : J (onceAt (Rs xs) (Bt s) q m (Bt f, Bt t)) w3 := HJA.out _ _ _ none HJM.out (grownBy_of_below hb3 none) (fun r e => by cases e)
            have HK3 : Hid (KpW w0.heap.size b1 b2 W2 w3) := HKM.out.trans (KpW.of_below (by have := HKR.out.2.1; omega) hb3)
            obtain ⟨fn, tmps, assign, body, hy, hR⟩ := HY.out _ y w3 hJ3 hlen
            clear hJ3 hlen
            gi_wp2
            refine hR.mono ?_
            rintro e W4 (⟨rfl, hJ4, hk4⟩ | ⟨rfl, hJx4⟩)
            · have HJ4 := hid hJ4
              have HK4 := hid (HK3.out.trans hk4)
              clear hJ4 hk4
              gi_wp2
              go_roundw
              case rel => exact ⟨m + 1, by omega, by simp, by rw [HON.out]; exact HJ4, HK4⟩
              case measure => simp [intOf]; omega
            · have HJ4 := hid hJx4
              clear hJx4
              gi_wp2
              refine bodyPost_ret (results_none rfl _ _ _) rfl ?_
              exact ⟨⟨_, rfl⟩, .inr ⟨_, by rw [← HON.out]; exact HPX.out, HJ4.out⟩⟩
        · obtain rfl : m = s.size := by omega
          have e := onceTo_succ (s := Bt s) (rs_at HXK.out)
          rw [← Bt_size] at e
          have HJ3 : Hid (J (onceTo (Rs xs) (Bt s) (q + 1)) wr) := by show J _ _; rw [e]; exact HJM.out
          gi_wp2
          go_roundw
          case rel => exact ⟨q + 1, by omega, by simp, HJ3, HKR⟩
          case measure => simp [intOf]; omega
    · obtain rfl : q = xs.length := by omega
      have e : onceTo (Rs xs) (Bt s) xs.length = once (Rs xs) (Bt s) := by unfold onceTo; rw [List.take_of_length_le (by rw [Rs_length]; exact Nat.le_refl _)]
      have HJ3 : Hid (J (once (Rs xs) (Bt s)) V0) := by show J _ _; rw [← e]; exact HJ1.out
      gi_wp2
      go_end0
      exact ⟨⟨_, rfl⟩, .inl ⟨_, rfl, HJ3.out⟩⟩
end Go.Proofs.Ytpjhmminbndgiaa
