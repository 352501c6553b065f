/- The library's iterator over a list, and the program's over a set. -/
import Derived.RangeFuncNested
import Derived.RangeFuncBound
import Derived.RangeFuncCalls
import Derived.RangeFuncLeaves
import Derived.RangeFuncBox
import Derived.Maps.AppendAt
import Derived.Shelf.Abstract
import Derived.Shelf.RegionOpen
import Derived.WalkKit
import Derived.OwnWalkIn
import Derived.TacticsInMore
import Derived.LoopNIn
import Derived.LoopIn
import Derived.Test.YtiadmmnnbnamjaaGreatSet7
namespace Go.Proofs.YtiadmmnnbnamjaaGreat
open Go.RowKit Go.Shelf
attribute [local go_sem] Oper.semAt_some
set_option linter.unusedVariables false
set_option linter.unusedSimpArgs false
set_option maxRecDepth 100000

/-- slices.Values: its closure, for each body that keeps what lay below -/
theorem values1_in {α : Type} (f : α → Int) (n : Nat) (hn : 1 ≤ n) (l Bs : Nat) (sa : Option Addr) (sc : Nat) (L : List α) (hL : L.length ≤ 1000) (Kp : World → World → Prop) (hKp : ∀ W W', Row W sa (L.map f) → Kp W W' → Row W' sa (L.map f)) (J Jx : List α → World → Prop)
    (hY : ∀ pre x W, J pre W → pre.length < L.length → YieldAt Fence.wide (n - 1) Tryz.prog l #[.int .i64 (f x)] W fun e W' =>
      (e = .returned (.bool true) ∧ J (pre ++ [x]) W' ∧ Kp W W') ∨ (e = .returned (.bool false) ∧ Jx (pre ++ [x]) W'))
    (W : World) (hr : Row W sa (L.map f)) (hBs : W.cell? ⟨Bs, 0, none⟩ = some (.slice sa L.length sc)) (h0 : J [] W) :
    CallsIn Fence.wide n Tryz.prog 94 #[.func (.yield l) #[] #[], .pointer (some ⟨Bs, 0, none⟩)] W fun e W' => (∃ v, e = .returned v) ∧
      ((∃ ys, ys = L ∧ J ys W') ∨ (∃ pre, pre <+: L ∧ Jx pre W')) := by
  refine callsIn_of_wp Tryz.func94 rfl trivial ?_ rfl
  simp only [Tryz.ntmps94, List.size_toArray, List.length_cons, List.length_nil, Nat.reduceAdd, Nat.reduceSub, Array.replicate_succ, Array.replicate_zero, List.push_toArray, List.append_toArray, List.nil_append, List.cons_append]
  have HR := hid hr
  have HKP := hid hKp
  clear hr hKp
  gi_wp2
  gi_loopw [7] (fun i wr => ∃ k : Nat, k ≤ L.length ∧ i = .int .i64 k ∧ J (L.take k) wr ∧ Row wr sa (L.map f))
    (fun i _ => L.length - (intOf i).toNat)
  case atStart => exact ⟨0, Nat.zero_le _, rfl, h0, HR.out⟩
  case round =>
    obtain ⟨k, hk, rfl, hJs, hnx'⟩ := hrel
    have hnx := hid hnx'
    clear hnx'
    by_cases hlt : k < L.length
    · obtain ⟨x, hx⟩ : ∃ x, L[k]? = some x := ⟨_, List.getElem?_eq_getElem hlt⟩
      have hne : L.map f ≠ [] := by intro e; have := congrArg List.length e; simp at this; subst this; simp at hlt
      obtain ⟨b, off, rfl, hb, hcs⟩ := hnx.out.at hne
      obtain ⟨v, hcx, hv⟩ := hcs wr (Below.refl _ _) k (by simpa using hlt)
      obtain rfl : v = f x := by have := hv.out; simp [hx] at this; exact this.symm
      obtain ⟨fn, tmps, assign, body, hy, hR⟩ := hY (L.take k) x wr hJs (by simp; omega)
      have e1 : L.take (k + 1) = L.take k ++ [x] := by rw [List.take_add_one, hx]; rfl
      have HE := hid e1
      clear hv hcs e1 hx hne
      gi_wp2
      refine hR.mono ?_
      rintro e W3 (⟨rfl, hJ3, hk3⟩ | ⟨rfl, hJx3⟩)
      · gi_wp2
        go_roundw
        case rel => exact ⟨k + 1, by omega, by simp, by rw [HE.out]; exact hJ3, HKP.out _ _ hnx.out hk3⟩
        case measure => simp [intOf]; omega
      · gi_wp2
        refine bodyPost_ret (results_none rfl _ _ _) rfl ?_
        exact ⟨⟨_, rfl⟩, .inr ⟨_, by rw [← HE.out]; exact List.take_prefix _ _, hJx3⟩⟩
    · obtain rfl : k = L.length := by omega
      gi_wp2
      go_end0
      exact ⟨⟨_, rfl⟩, .inl ⟨_, by simp, hJs⟩⟩
theorem values_keep {α : Type} (f : α → Int) (n : Nat) (hn : 1 ≤ n) (Bs : Nat) (sa : Option Addr) (sc : Nat) (L : List α) (hL : L.length ≤ 1000) (Kp : World → World → Prop) (hKp : ∀ W W', Row W sa (L.map f) → Kp W W' → Row W' sa (L.map f)) (w : World) (hr : Row w sa (L.map f)) (hBs : Bs < w.heap.size) (hc : w.cell? ⟨Bs, 0, none⟩ = some (.slice sa L.length sc)) :
    SeqStopsK Fence.wide n Tryz.prog 94 #[.pointer (some ⟨Bs, 0, none⟩)] (fun x : α => #[Value.int .i64 (f x)]) Kp (fun ys => ys = L) (fun pre => pre <+: L) L.length w := fun l J Jx W hW _ _ hY h0 =>
  values1_in f n hn l Bs sa sc L hL Kp hKp J Jx hY W (hr.below hW) ((hW.cell (p := ⟨Bs, 0, none⟩) hBs).trans hc) h0
theorem row_in {w0 W W' : World} {sa : Option Addr} {xs : List Int} (h0 : Row w0 sa xs) (h : Row W sa xs) (hb : Below w0.heap.size W W') : Row W' sa xs := by
  by_cases hne : xs = []
  · exact .inl hne
  · obtain ⟨b, off, rfl, hb0, _⟩ := h0.at hne
    rcases h with h | ⟨b', off', e, hc⟩
    · exact .inl h
    · cases e
      exact .inr ⟨b, off, rfl, fun i hi => by rw [hb.cell (p := ⟨b, off + i, none⟩) hb0]; exact hc i hi⟩
theorem values_stops {α : Type} (f : α → Int) (n : Nat) (hn : 1 ≤ n) (Bs : Nat) (sa : Option Addr) (sc : Nat) (L : List α) (hL : L.length ≤ 1000) (w0 w : World) (hb0 : Below w0.heap.size w0 w) (hr : Row w0 sa (L.map f)) (hBs : Bs < w.heap.size) (hc : w.cell? ⟨Bs, 0, none⟩ = some (.slice sa L.length sc)) :
    SeqStopsK Fence.wide n Tryz.prog 94 #[.pointer (some ⟨Bs, 0, none⟩)] (fun x : α => #[Value.int .i64 (f x)]) (Below w0.heap.size) (fun ys => ys = L) (fun pre => pre <+: L) L.length w :=
  values_keep f n hn Bs sa sc L hL _ (fun W W' h hk => row_in hr h hk) w (hr.below hb0) hBs hc
set_option maxHeartbeats 1000000 in
theorem values_any (a : Option Addr) (len cap : Nat) (w : World) :
    Calls Tryz.prog 76 #[.slice a len cap] w fun e w' => e = .returned (.func (.func 94) #[] #[.pointer (some ⟨w.heap.size, 0, none⟩)]) ∧ w' = w.alloc (.cells #[.slice a len cap] 35) := by
  refine (callsIn_wide (n := 3)).1 ?_
  refine callsIn_of_wp Tryz.func76 rfl trivial ?_ rfl
  simp only [Tryz.ntmps76, List.size_toArray, List.length_cons, List.length_nil, Nat.reduceAdd, Nat.reduceSub, Array.replicate_succ, Array.replicate_zero, List.push_toArray, List.append_toArray, List.nil_append, List.cons_append]
  gi_wp2
  go_ret
  exact ⟨rfl, rfl⟩
set_option maxHeartbeats 1000000 in
/-- the program's iterator over a set -/
theorem all_any (a : Option Addr) (len cap : Nat) (w : World) :
    Calls Tryz.prog 37 #[.agg #[.slice a len cap]] w fun e w' => e = .returned (.func (.func 94) #[] #[.pointer (some ⟨w.heap.size + 1, 0, none⟩)]) ∧ w' = (w.alloc (.cells #[.slice a len cap] 60)).alloc (.cells #[.slice a len cap] 35) := by
  have H := hid (values_any a len cap)
  go_enter Tryz.func37, Tryz.ntmps37
  go_wp2_with fail
  refine (H.out _).mono ?_
  rintro e w1 ⟨rfl, rfl⟩
  go_wp2
  go_ret
  exact ⟨by simp, rfl⟩
theorem keeps_below {W W' : World} (h : Below W.heap.size W W') : KeepsOthers W W' := ⟨h.size, fun k o hk _ => by rw [← hk]; exact h.block k (Array.getElem?_eq_some_iff.1 hk).1⟩
end Go.Proofs.YtiadmmnnbnamjaaGreat
