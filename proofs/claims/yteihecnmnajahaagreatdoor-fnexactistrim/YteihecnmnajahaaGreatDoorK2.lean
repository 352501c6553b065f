/- The library's iterator over a list, and the program's over a set. -/
import Derived.RangeFuncNested
import Derived.RangeFuncBound
import Derived.RangeFuncCalls
import Derived.RangeFuncLeaves
import Derived.RangeFuncBox
import Derived.Maps.AppendAt
import Derived.Shelf.Abstract
import Derived.Shelf.RegionOpen
import Derived.WalkKit
import Derived.OwnWalkIn
import Derived.TacticsInMore
import Derived.LoopNIn
import Derived.LoopIn
import Derived.Test.YteihecnmnajahaaGreatDoorSet7
import Derived.Test.YteihecnmnajahaaGreatDoorJ1
import Derived.Deep.RegionHeldLaw
import Derived.Deep.RegionLaw
import Derived.Test.YteihecnmnajahaaGreatDoorShelf2
import Derived.Lib.RowBridge
namespace Go.Proofs.YteihecnmnajahaaGreatDoor
section
open Go.RowKit Go.Shelf
attribute [local go_sem] Oper.semAt_some
set_option linter.unusedVariables false
set_option linter.unusedSimpArgs false
set_option maxRecDepth 100000

/-- slices.Values: its closure, for each body that keeps what lay below -/
theorem values1_in {α : Type} (f : α → Int) (n : Nat) (hn : 1 ≤ n) (l Bs : Nat) (sa : Option Addr) (sc : Nat) (L : List α) (hL : L.length ≤ 1000) (Kp : World → World → Prop) (hKp : ∀ W W', Row W sa (L.map f) → Kp W W' → Row W' sa (L.map f)) (J Jx : List α → World → Prop)
    (hY : ∀ pre x W, J pre W → pre.length < L.length → YieldAt Fence.wide (n - 1) Tryz.prog l #[.int .i64 (f x)] W fun e W' =>
      (e = .returned (.bool true) ∧ J (pre ++ [x]) W' ∧ Kp W W') ∨ (e = .returned (.bool false) ∧ Jx (pre ++ [x]) W'))
    (W : World) (hr : Row W sa (L.map f)) (hBs : W.cell? ⟨Bs, 0, none⟩ = some (.slice sa L.length sc)) (h0 : J [] W) :
    CallsIn Fence.wide n Tryz.prog 145 #[.func (.yield l) #[] #[], .pointer (some ⟨Bs, 0, none⟩)] W fun e W' => (∃ v, e = .returned v) ∧
      ((∃ ys, ys = L ∧ J ys W') ∨ (∃ pre, pre <+: L ∧ Jx pre W')) := by
  refine callsIn_of_wp Tryz.func145 rfl trivial ?_ rfl
  simp only [Tryz.ntmps145, List.size_toArray, List.length_cons, List.length_nil, Nat.reduceAdd, Nat.reduceSub, Array.replicate_succ, Array.replicate_zero, List.push_toArray, List.append_toArray, List.nil_append, List.cons_append]
  have HR := hid hr
  have HKP := hid hKp
  clear hr hKp
  gi_wp2
  gi_loopw [7] (fun i wr => ∃ k : Nat, k ≤ L.length ∧ i = .int .i64 k ∧ J (L.take k) wr ∧ Row wr sa (L.map f))
    (fun i _ => L.length - (intOf i).toNat)
  case atStart => exact ⟨0, Nat.zero_le _, rfl, h0, HR.out⟩
  case round =>
    obtain ⟨k, hk, rfl, hJs, hnx'⟩ := hrel
    have hnx := hid hnx'
    clear hnx'
    by_cases hlt : k < L.length
    · obtain ⟨x, hx⟩ : ∃ x, L[k]? = some x := ⟨_, List.getElem?_eq_getElem hlt⟩
      have hne : L.map f ≠ [] := by intro e; have := congrArg List.length e; simp at this; subst this; simp at hlt
      obtain ⟨b, off, rfl, hb, hcs⟩ := hnx.out.at hne
      obtain ⟨v, hcx, hv⟩ := hcs wr (Below.refl _ _) k (by simpa using hlt)
      obtain rfl : v = f x := by have := hv.out; simp [hx] at this; exact this.symm
      obtain ⟨fn, tmps, assign, body, hy, hR⟩ := hY (L.take k) x wr hJs (by simp; omega)
      have e1 : L.take (k + 1) = L.take k ++ [x] := by rw [List.take_add_one, hx]; rfl
      have HE := hid e1
      clear hv hcs e1 hx hne
      gi_wp2
      refine hR.mono ?_
      rintro e W3 (⟨rfl, hJ3, hk3⟩ | ⟨rfl, hJx3⟩)
      · gi_wp2
        go_roundw
        case rel => exact ⟨k + 1, by omega, by simp, by rw [HE.out]; exact hJ3, HKP.out _ _ hnx.out hk3⟩
        case measure => simp [intOf]; omega
      · gi_wp2
        refine bodyPost_ret (results_none rfl _ _ _) rfl ?_
        exact ⟨⟨_, rfl⟩, .inr ⟨_, by rw [← HE.out]; exact List.take_prefix _ _, hJx3⟩⟩
    · obtain rfl : k = L.length := by omega
      gi_wp2
      go_end0
      exact ⟨⟨_, rfl⟩, .inl ⟨_, by simp, hJs⟩⟩
theorem values_keep {α : Type} (f : α → Int) (n : Nat) (hn : 1 ≤ n) (Bs : Nat) (sa : Option Addr) (sc : Nat) (L : List α) (hL : L.length ≤ 1000) (Kp : World → World → Prop) (hKp : ∀ W W', Row W sa (L.map f) → Kp W W' → Row W' sa (L.map f)) (w : World) (hr : Row w sa (L.map f)) (hBs : Bs < w.heap.size) (hc : w.cell? ⟨Bs, 0, none⟩ = some (.slice sa L.length sc)) :
    SeqStopsK Fence.wide n Tryz.prog 145 #[.pointer (some ⟨Bs, 0, none⟩)] (fun x : α => #[Value.int .i64 (f x)]) Kp (fun ys => ys = L) (fun pre => pre <+: L) L.length w := fun l J Jx W hW _ _ hY h0 =>
  values1_in f n hn l Bs sa sc L hL Kp hKp J Jx hY W (hr.below hW) ((hW.cell (p := ⟨Bs, 0, none⟩) hBs).trans hc) h0
theorem row_in {w0 W W' : World} {sa : Option Addr} {xs : List Int} (h0 : Row w0 sa xs) (h : Row W sa xs) (hb : Below w0.heap.size W W') : Row W' sa xs := by
  by_cases hne : xs = []
  · exact .inl hne
  · obtain ⟨b, off, rfl, hb0, _⟩ := h0.at hne
    rcases h with h | ⟨b', off', e, hc⟩
    · exact .inl h
    · cases e
      exact .inr ⟨b, off, rfl, fun i hi => by rw [hb.cell (p := ⟨b, off + i, none⟩) hb0]; exact hc i hi⟩
theorem values_stops {α : Type} (f : α → Int) (n : Nat) (hn : 1 ≤ n) (Bs : Nat) (sa : Option Addr) (sc : Nat) (L : List α) (hL : L.length ≤ 1000) (w0 w : World) (hb0 : Below w0.heap.size w0 w) (hr : Row w0 sa (L.map f)) (hBs : Bs < w.heap.size) (hc : w.cell? ⟨Bs, 0, none⟩ = some (.slice sa L.length sc)) :
    SeqStopsK Fence.wide n Tryz.prog 145 #[.pointer (some ⟨Bs, 0, none⟩)] (fun x : α => #[Value.int .i64 (f x)]) (Below w0.heap.size) (fun ys => ys = L) (fun pre => pre <+: L) L.length w :=
  values_keep f n hn Bs sa sc L hL _ (fun W W' h hk => row_in hr h hk) w (hr.below hb0) hBs hc
set_option maxHeartbeats 1000000 in
theorem values_any (a : Option Addr) (len cap : Nat) (w : World) :
    Calls Tryz.prog 134 #[.slice a len cap] w fun e w' => e = .returned (.func (.func 145) #[] #[.pointer (some ⟨w.heap.size, 0, none⟩)]) ∧ w' = w.alloc (.cells #[.slice a len cap] 35) := by
  refine (callsIn_wide (n := 3)).1 ?_
  refine callsIn_of_wp Tryz.func134 rfl trivial ?_ rfl
  simp only [Tryz.ntmps134, List.size_toArray, List.length_cons, List.length_nil, Nat.reduceAdd, Nat.reduceSub, Array.replicate_succ, Array.replicate_zero, List.push_toArray, List.append_toArray, List.nil_append, List.cons_append]
  gi_wp2
  go_ret
  exact ⟨rfl, rfl⟩
set_option maxHeartbeats 1000000 in
/-- the program's iterator over a set -/
theorem all_any (a : Option Addr) (len cap : Nat) (w : World) :
    Calls Tryz.prog 114 #[.agg #[.slice a len cap]] w fun e w' => e = .returned (.func (.func 145) #[] #[.pointer (some ⟨w.heap.size + 1, 0, none⟩)]) ∧ w' = (w.alloc (.cells #[.slice a len cap] 112)).alloc (.cells #[.slice a len cap] 35) := by
  have H := hid (values_any a len cap)
  go_enter Tryz.func114, Tryz.ntmps114
  go_wp2_with fail
  refine (H.out _).mono ?_
  rintro e w1 ⟨rfl, rfl⟩
  go_wp2
  go_ret
  exact ⟨by simp, rfl⟩
theorem keeps_below {W W' : World} (h : Below W.heap.size W W') : KeepsOthers W W' := ⟨h.size, fun k o hk _ => by rw [← hk]; exact h.block k (Array.getElem?_eq_some_iff.1 hk).1⟩
end

section
open Go.RowKit
set_option linter.unusedVariables false
set_option linter.unusedSimpArgs false
set_option maxRecDepth 100000

set_option maxHeartbeats 8000000 in
theorem sWithout_any {g : List (List Nat)} (G : Gr g) (a : Option Addr) (c : Nat) (d : Int) (w : World) (h : GRow w a g) :
    Calls Tryz.prog 69 #[.agg #[.slice a g.length c], .int .i64 d] w fun e w' => ∃ va vc L, e = .returned (.slice va L.length vc) ∧ IsW g d L ∧ w'.ownsRow w.heap.size 3 1 (.slice va L.length vc) L.length (ints (nats L)) ∧ Below w.heap.size w w' := by
  have hgm := G.most
  have H := hid h
  clear h
  by_cases hd0 : d = 0
  · subst hd0
    go_enter Tryz.func69, Tryz.ntmps69
    go_wp2
    go_ret
    exact ⟨none, 0, [], rfl, isW_none g, World.ownsRow_nil _ _ _ _, below1 w _⟩
  · have b0 := below2 w (.cells #[.slice a g.length c] 43) (.cells #[.int .i64 0] 3)
    have z0 : (w.alloc (.cells #[.slice a g.length c] 43)).heap.size = w.heap.size + 1 := by simp
    have HO0 : Hid (((w.alloc (.cells #[.slice a g.length c] 43)).alloc (.cells #[.int .i64 0] 3)).ownsRow (w.heap.size + 1) 3 1 (.slice (some ⟨w.heap.size + 1, 0, none⟩) 1 1) 1 [.int .i64 0]) := own_new1 (w.alloc (.cells #[.slice a g.length c] 43)) 0 _ z0
    have x0 : ((w.alloc (.cells #[.slice a g.length c] 43)).alloc (.cells #[.int .i64 0] 3)).cell? ⟨w.heap.size, 0, none⟩ = some (.slice a g.length c) := by simp [go_sem]
    have zz0 : ((w.alloc (.cells #[.slice a g.length c] 43)).alloc (.cells #[.int .i64 0] 3)).heap.size = w.heap.size + 2 := by simp
    have HW0 := hid (WS.begin g hd0)
    go_enter Tryz.func69, Tryz.ntmps69
    go_wp2
    generalize (d == 0) = zd
    go_loopw [5, 6] (fun t5 t6 wr => ∃ (i : Nat) (sg sc : Nat) (S : List Nat), t6 = .int .i64 i ∧ i ≤ S.length ∧ t5 = .slice (some ⟨sg, 0, none⟩) S.length sc ∧ WS g d S i 0 ∧ wr.ownsRow (w.heap.size + 1) 3 1 (.slice (some ⟨sg, 0, none⟩) S.length sc) S.length (ints (nats S)) ∧ Below w.heap.size w wr ∧ w.heap.size + 1 ≤ wr.heap.size ∧ wr.cell? ⟨w.heap.size, 0, none⟩ = some (.slice a g.length c)) (fun _ t6 _ => g.length + 1 - (intOf t6).toNat)
    case atStart => exact ⟨0, w.heap.size + 1, 1, [0], rfl, by simp, rfl, HW0.out, HO0.out, b0, by omega, x0⟩
    case round =>
      obtain ⟨i, sg, sc, S, rfl, hi, rfl, hws, ho, hB, hz, xr⟩ := hrel
      have hSl := hws.len G
      have HWS := hid hws
      have HO := hid ho
      clear HO0 x0 b0 HW0 hws
      by_cases hlt : i < S.length
      · obtain ⟨u, hu⟩ : ∃ u, S[i]? = some u := ⟨_, List.getElem?_eq_getElem hlt⟩
        have hug : u < g.length := (HWS.out.come u (List.mem_of_getElem? hu)).lt G
        obtain ⟨l, hl⟩ : ∃ l, g[u]? = some l := ⟨_, List.getElem?_eq_getElem hug⟩
        have hll : l.length ≤ 12 := by have := Seen.len (N := g.length) ⟨G.rising u l hl, G.below u l hl⟩; omega
        obtain ⟨b, off, ta, tc, rfl, gc, hr, hbw⟩ := H.out.at' hB hl
        have cS : wr.cell? ⟨sg, i, none⟩ = some (.int .i64 (u : Int)) := rowT_at ho rfl (by simp [ints, nats, hu])
        have HU := hid (And.intro hu (And.intro hl (G.below u l hl)))
        have HRow := hid hr
        have HBR := hid (And.intro hB hz)
        clear hu hl hr ho
        go_wp2
        go_region
        all_goals
          go_wp2
          go_loopw [5, 27] (fun t5 t27 wq => ∃ (q : Nat) (sg sc : Nat) (S' : List Nat), t27 = .int .i64 q ∧ q ≤ l.length ∧ t5 = .slice (some ⟨sg, 0, none⟩) S'.length sc ∧ WS g d S' i q ∧ i < S'.length ∧ S'[i]? = some u ∧ wq.ownsRow (w.heap.size + 1) 3 1 (.slice (some ⟨sg, 0, none⟩) S'.length sc) S'.length (ints (nats S')) ∧ Below w.heap.size w wq ∧ w.heap.size + 1 ≤ wq.heap.size ∧ wq.cell? ⟨w.heap.size, 0, none⟩ = some (.slice (some ⟨b, off, none⟩) g.length c)) (fun _ t27 _ => l.length - (intOf t27).toNat)
          case atStart => exact ⟨0, sg, sc, S, rfl, by omega, rfl, HWS.out, hlt, HU.out.1, HO.out, HBR.out.1.drew, HBR.out.2, xr⟩
          case round =>
            obtain ⟨q, sg, sc, S', rfl, hq, rfl, hws, hil, hui, ho, hB', hz', xq⟩ := hrel
            have hSl' := hws.len G
            have HWS' := hid (And.intro hws (And.intro hil hui))
            clear hws hil hui
            by_cases hqt : q < l.length
            · have hxn : nats l ≠ [] := by intro e; have := congrArg List.length e; rw [nats_length] at this; simp at this; subst this; simp at hqt
              obtain ⟨tb, toff, rfl, htb, hat⟩ := HRow.out.at hxn
              obtain ⟨v, cv, HV⟩ := hat wr hB' q (by rw [nats_length]; exact hqt)
              obtain ⟨x, rfl, hx⟩ := nats_get HV.out
              have HX := hid hx
              have hro : Row wr (some ⟨sg, 0, none⟩) (nats S') := own_row (c := sc) (B := w.heap.size + 1) (by rw [nats_length]; exact ho)
              have HH : Hid (Calls Tryz.prog 70 #[.slice (some ⟨sg, 0, none⟩) S'.length sc, .int .i64 (x : Int)] wr fun e w' => e = .returned (.bool (decide (x ∈ S'))) ∧ w' = wr) := by
                have := l1Has_any (some ⟨sg, 0, none⟩) sc (nats S') x wr (by rw [nats_length]; omega) hro
                rw [nats_length] at this
                have e : hasB (nats S') x = decide (x ∈ S') := by rw [Bool.eq_iff_iff]; simp [hasB, nats_mem]
                rw [e] at this
                exact this
              clear hat hxn hx hro
              by_cases hxd : (x : Int) = d
              · have HS := hid (HWS'.out.1.same HWS'.out.2.2 HU.out.2.1 HX.out (.inl hxd))
                have HK := hid (And.intro ho (And.intro hB' (And.intro hz' xq)))
                clear ho
                go_wp2
                go_roundw
                case rel => exact ⟨q + 1, sg, sc, S', by go_num, by omega, rfl, HS.out, HWS'.out.2.1, HWS'.out.2.2, HK.out.1, HK.out.2.1, HK.out.2.2.1, HK.out.2.2.2⟩
                case measure => simp [intOf]; omega
              · by_cases hxS : x ∈ S'
                · have HS := hid (HWS'.out.1.same HWS'.out.2.2 HU.out.2.1 HX.out (.inr hxS))
                  have HK := hid (And.intro ho (And.intro hB' (And.intro hz' xq)))
                  have hm : decide (x ∈ S') = true := decide_eq_true hxS
                  rw [hm] at HH
                  clear ho hm hxS
                  go_wp2_with fail
                  refine HH.out.mono ?_
                  rintro e w2 ⟨rfl, hw2⟩
                  subst w2
                  go_wp2
                  go_roundw
                  case rel => exact ⟨q + 1, sg, sc, S', by go_num, by omega, rfl, HS.out, HWS'.out.2.1, HWS'.out.2.2, HK.out.1, HK.out.2.1, HK.out.2.2.1, HK.out.2.2.2⟩
                  case measure => simp [intOf]; omega
                · have HS := hid (HWS'.out.1.grow HWS'.out.2.1 HWS'.out.2.2 HU.out.2.1 HX.out hxd hxS)
                  have hm : decide (x ∈ S') = false := decide_eq_false hxS
                  rw [hm] at HH
                  have HSP : Hid (Sep (wr.alloc (.cells #[.int .i64 (x : Int)] 3)) (w.heap.size + 1) ([] ++ ⟨3, 1, .slice (some ⟨sg, 0, none⟩) S'.length sc, S'.length, ints (nats S')⟩ :: [])) := sep_one (owns_below ho (below1 _ _))
                  have HNW := hid (News.one wr (.int .i64 (x : Int)) 3 _ rfl rfl)
                  have HZ : Hid (w.heap.size + 1 ≤ (wr.alloc (.cells #[.int .i64 (x : Int)] 3)).heap.size) := by show w.heap.size + 1 ≤ _; simp; omega
                  have HBB := hid (hB'.alloc hB'.size (.cells #[.int .i64 (x : Int)] 3))
                  have HXQ := hid (cell_below xq (below1 wr (.cells #[.int .i64 (x : Int)] 3)))
                  clear ho hm hxS
                  go_wp2_with fail
                  refine HH.out.mono ?_
                  rintro e w2 ⟨rfl, hw2⟩
                  subst w2
                  go_wp2_with (at_builtin; refine wpList_append_sep eltInt rfl _ _ rfl (w.heap.size + 1) [] HSP.out rfl HNW.out rfl (by omega) HZ.out ?_)
                  intro va2 vc2 w3 hs3 hb3 hg3
                  have ho3 := one_sep hs3
                  obtain ⟨sg2, hsg2⟩ : ∃ sg2, va2 = some ⟨sg2, 0, none⟩ := by
                    rcases ho3.2 with ⟨h0, h1⟩ | ⟨g', cap', cur', hv', _⟩
                    · omega
                    · injection hv' with h1 h2 h3; exact ⟨g', h1⟩
                  subst hsg2
                  have HK : Hid (w3.ownsRow (w.heap.size + 1) 3 1 (.slice (some ⟨sg2, 0, none⟩) (S' ++ [x]).length vc2) (S' ++ [x]).length (ints (nats (S' ++ [x]))) ∧ Below w.heap.size w w3 ∧ w.heap.size + 1 ≤ w3.heap.size ∧ w3.cell? ⟨w.heap.size, 0, none⟩ = some (.slice (some ⟨b, off, none⟩) g.length c)) := by
                    refine ⟨by rw [List.length_append, nats_append, ints_append]; exact ho3, HBB.out.trans (hb3.mono (by omega)), Nat.le_trans HZ.out hb3.size, ?_⟩
                    rw [hb3.cell (p := ⟨w.heap.size, 0, none⟩) (by show w.heap.size < _; omega)]; exact HXQ.out
                  have HL : Hid (i < (S' ++ [x]).length ∧ (S' ++ [x])[i]? = some u) := ⟨by rw [List.length_append]; have := HWS'.out.2.1; omega, by rw [List.getElem?_append_left HWS'.out.2.1]; exact HWS'.out.2.2⟩
                  clear hs3 hb3 hg3 ho3
                  go_wp2
                  go_roundw
                  case rel => exact ⟨q + 1, sg2, vc2, S' ++ [x], by go_num, by omega, by rw [List.length_append]; rfl, HS.out, HL.out.1, HL.out.2, HK.out.1, HK.out.2.1, HK.out.2.2.1, HK.out.2.2.2⟩
                  case measure => simp [intOf]; omega
            · obtain rfl : q = l.length := by omega
              have HS := hid (HWS'.out.1.next HWS'.out.2.2 HU.out.2.1)
              have HK := hid (And.intro ho (And.intro hB' (And.intro hz' xq)))
              have hil := HWS'.out.2.1
              clear ho
              go_wp2
              go_roundw
              case rel => exact ⟨i + 1, sg, sc, S', by go_num, by omega, rfl, HS.out, HK.out.1, HK.out.2.1, HK.out.2.2.1, HK.out.2.2.2⟩
              case measure => simp [intOf]; omega
      · obtain rfl : i = S.length := by omega
        have HF := hid (And.intro (owns_mono HO.out (show w.heap.size ≤ w.heap.size + 1 by omega)) hB)
        clear ho
        go_wp2
        go_ret
        exact ⟨_, sc, S, rfl, HWS.out.end, HF.out.1, HF.out.2⟩
end

section
open Go.RowKit
set_option linter.unusedVariables false
set_option linter.unusedSimpArgs false
set_option maxRecDepth 100000

/-- lists that are owned, beside rows that stay -/
def OwnR (w : World) (B : Nat) (v : Value) (ys : List LV) (R : List OR) : Prop := Sep w B (rowsL v ys ++ R)
theorem Sep.left {w : World} {B : Nat} {l m : List OR} (h : Sep w B (l ++ m)) : Sep w B l := ⟨fun x hx => h.1 x (List.mem_append_left _ hx), (List.pairwise_append.1 h.2).1⟩
theorem OwnR.plain {w : World} {B : Nat} {v : Value} {ys : List LV} {R : List OR} (h : OwnR w B v ys R) : OwnL w B v ys := Sep.left h
theorem OwnR.below {w w' : World} {B : Nat} {v : Value} {ys : List LV} {R : List OR} (h : OwnR w B v ys R) (hb : Below w.heap.size w w') : OwnR w' B v ys R := Sep.below h hb
theorem OwnR.rest {w : World} {B : Nat} {v : Value} {ys : List LV} {R : List OR} (h : OwnR w B v ys R) {x : OR} (hx : x ∈ R) : w.ownsRow B x.e x.size x.v x.n x.xs := h.1 x (List.mem_append_right _ hx)
theorem OwnR.split {w : World} {B : Nat} {v : Value} {ys : List LV} {R : List OR} (h : OwnR w B v ys R) {j : Nat} {y : LV} (hy : ys[j]? = some y) : Sep w B ((⟨35, 1, v, ys.length, vals ys⟩ :: (ys.take j).map rowL) ++ ⟨3, 1, y.v, y.r.length, ints y.r⟩ :: ((ys.drop (j + 1)).map rowL ++ R)) := by
  have e : rowsL v ys ++ R = (⟨35, 1, v, ys.length, vals ys⟩ :: (ys.take j).map rowL) ++ ⟨3, 1, y.v, y.r.length, ints y.r⟩ :: ((ys.drop (j + 1)).map rowL ++ R) := by
    conv => lhs; arg 1; rw [rowsL]
    conv => lhs; arg 1; arg 2; rw [splitL hy]
    simp [rowL]
  unfold OwnR at h
  rw [e] at h
  exact h
theorem OwnR.join {w : World} {B g cap : Nat} {ys : List LV} {R : List OR} {j : Nat} {y y' : LV} (hy : ys[j]? = some y) (h : Sep w B ((⟨35, 1, .slice (some ⟨g, 0, none⟩) ys.length cap, ys.length, vals ys⟩ :: (ys.take j).map rowL) ++ ⟨3, 1, y'.v, y'.r.length, ints y'.r⟩ :: ((ys.drop (j + 1)).map rowL ++ R))) :
    OwnR (w.setCell ⟨g, j, none⟩ y'.v) B (.slice (some ⟨g, 0, none⟩) ys.length cap) (ys.set j y') R := by
  have hj := (List.getElem?_eq_some_iff.1 hy).1
  have h2 := Sep.store [] h j y'.v
  have e : rowsL (.slice (some ⟨g, 0, none⟩) ys.length cap) (ys.set j y') ++ R = [] ++ ⟨35, 1, .slice (some ⟨g, 0, none⟩) ys.length cap, ys.length, (vals ys).set j y'.v⟩ :: ((ys.take j).map rowL ++ ⟨3, 1, y'.v, y'.r.length, ints y'.r⟩ :: ((ys.drop (j + 1)).map rowL ++ R)) := by
    rw [rowsL, List.length_set, show vals (ys.set j y') = (vals ys).set j y'.v by simp [vals, List.map_set], List.set_eq_take_append_cons_drop (l := ys), if_pos hj]
    simp [rowL]
  unfold OwnR
  rw [e]
  exact h2
def noLists (n : Nat) : List LV := List.replicate n ⟨[], .slice none 0 0⟩
theorem made_lists (n : Nat) : (madeCells #[Value.slice none 0 0] n).toList = vals (noLists n) := by
  rw [toList_madeCells_one]
  simp [vals, noLists]
theorem own_start {w : World} {B n g cap : Nat} (h : w.ownsRow B 35 1 (.slice (some ⟨g, 0, none⟩) n cap) n (vals (noLists n))) : OwnL w B (.slice (some ⟨g, 0, none⟩) n cap) (noLists n) := by
  refine ⟨fun x hx => ?_, List.pairwise_cons.2 ⟨fun x hx => ?_, ?_⟩⟩
  · rcases List.mem_cons.1 hx with rfl | hx
    · show World.ownsRow _ _ _ _ _ _ _
      rw [show (noLists n).length = n by simp [noLists]]
      exact h
    · obtain ⟨y, hy, rfl⟩ := List.mem_map.1 hx
      obtain rfl : y = ⟨[], .slice none 0 0⟩ := List.eq_of_mem_replicate hy
      exact World.ownsRow_nil _ _ _ _
  · obtain ⟨y, hy, rfl⟩ := List.mem_map.1 hx
    obtain rfl : y = ⟨[], .slice none 0 0⟩ := List.eq_of_mem_replicate hy
    right; intro he; cases he
  · rw [List.pairwise_map]
    refine List.Pairwise.imp_of_mem (R := fun _ _ => True) (fun {a b} ha hb _ => ?_) (List.pairwise_of_forall (fun _ _ => trivial))
    obtain rfl : a = ⟨[], .slice none 0 0⟩ := List.eq_of_mem_replicate ha
    exact .inl rfl
def natsL (P : List (List Nat)) : List (List Int) := P.map nats
theorem natsL_at {P : List (List Nat)} {x : Nat} {r : List Nat} (h : P[x]? = some r) : (natsL P)[x]? = some (nats r) := by simp [natsL, h]
theorem natsL_set (P : List (List Nat)) (x : Nat) (r : List Nat) : (natsL P).set x (nats r) = natsL (P.set x r) := by simp [natsL, List.map_set]
theorem lists_set (ys : List LV) (x : Nat) (y : LV) : lists (ys.set x y) = (lists ys).set x y.r := by simp [lists, List.map_set]
theorem lists_noLists (n : Nat) : lists (noLists n) = natsL (List.replicate n []) := by simp [lists, noLists, natsL, nats]
theorem own_of_lists {ys : List LV} {P : List (List Nat)} (h : lists ys = natsL P) {x : Nat} {r : List Nat} (hr : P[x]? = some r) : ∃ v, ys[x]? = some ⟨nats r, v⟩ := by
  have h1 := congrArg (·[x]?) h
  simp only [natsL_at hr] at h1
  simp only [lists, List.getElem?_map] at h1
  cases hy : ys[x]? with
  | none => rw [hy] at h1; cases h1
  | some y =>
    rw [hy] at h1
    have := Option.some.inj h1
    exact ⟨y.v, by rw [← this]⟩

theorem OwnR.kept {w w' : World} {B : Nat} {v : Value} {ys : List LV} {R : List OR} (h : OwnR w B v ys R) (hb : Below w.heap.size w w') (hB : B ≤ w.heap.size) (x : OR) (hx : x.own w' w.heap.size) : OwnR w' B v ys (R ++ [x]) := by
  have := Sep.append h hb hB (m := [x]) ⟨by intro y hy; simp at hy; subst hy; exact hx, by simp⟩
  unfold OwnR
  rw [← List.append_assoc]
  exact this
theorem OwnR.less {w : World} {B : Nat} {v : Value} {ys : List LV} {R S : List OR} (h : OwnR w B v ys (R ++ S)) : OwnR w B v ys R := by
  unfold OwnR at h ⊢
  rw [← List.append_assoc] at h
  exact Sep.left h
theorem dom_iff {g : List (List Nat)} {L M : List Nat} {d k : Nat} (hL : IsW g (-1) L) (hM : IsW g d M) (hk : k ∈ L) : Dom g d k ↔ (d ∈ L ∧ k ∉ M) := by
  unfold Dom Come
  rw [← hL.2, ← hL.2, ← hM.2]
  exact ⟨fun h => ⟨h.2.1, h.2.2⟩, fun h => ⟨hk, h.1, h.2⟩⟩
/-- the answer: rows of dominators -/
def DomAns (w w' : World) (g : List (List Nat)) (e : Ending) : Prop := ∃ va vc ys P, e = .returned (.slice va g.length vc) ∧ OwnL w' w.heap.size (.slice va g.length vc) ys ∧ lists ys = natsL P ∧ IsDoms g P ∧ Below w.heap.size w w'
theorem hasN_any (a : Option Addr) (c : Nat) (S : List Nat) (x : Nat) (w : World) (hl : S.length ≤ 1000) (B : Nat) (ho : w.ownsRow B 3 1 (.slice a S.length c) S.length (ints (nats S))) :
    Calls Tryz.prog 70 #[.slice a S.length c, .int .i64 (x : Int)] w fun e w' => e = .returned (.bool (decide (x ∈ S))) ∧ w' = w := by
  have := l1Has_any a c (nats S) x w (by rw [nats_length]; omega) (own_row (c := c) (B := B) (by rw [nats_length]; exact ho))
  rw [nats_length] at this
  have e : hasB (nats S) x = decide (x ∈ S) := by rw [Bool.eq_iff_iff]; simp [hasB, nats_mem]
  rw [e] at this
  exact this
set_option maxHeartbeats 8000000 in
theorem sDoms_any {g : List (List Nat)} (G : Gr g) (a : Option Addr) (c : Nat) (w : World) (h : GRow w a g) :
    Calls Tryz.prog 41 #[.agg #[.slice a g.length c]] w fun e w' => DomAns w w' g e := by
  have hgm := G.most
  have H := hid h
  clear h
  obtain ⟨i0, hi0, hz0, hz1, hz2⟩ := info_parts info40
  have b0 := below1 w (.cells #[.slice a g.length c] 43)
  have d0 : (w.alloc (.cells #[.slice a g.length c] 43)).cell? ⟨w.heap.size, 0, none⟩ = some (.slice a g.length c) := by simp [go_sem]
  have z0 : (w.alloc (.cells #[.slice a g.length c] 43)).heap.size = w.heap.size + 1 := by simp
  go_enter Tryz.func41, Tryz.ntmps41
  go_wp2_with (at_make; refine wpList_make_full _ rfl _ _ 41 rfl (w.heap.size + 1) 35 i0 (.slice none 0 0) 1 Tryz.underlying41 hi0 hz0 hz1 .i64 .i64 _ _ g.length rfl rfl rfl rfl ?c1 ?c2 ?c3 ?_)
  case c1 => rw [hz2]; omega
  case c2 => unfold maxLen; omega
  case c3 => omega
  intro w1 hown0 hgrow0
  rw [made_lists] at hown0
  have hB1 : Below (w.heap.size + 1) (w.alloc (.cells #[.slice a g.length c] 43)) w1 := (Below.refl _ _).grown hgrow0 (by omega) (fun k hk => by cases hk)
  have B1 : Below w.heap.size w w1 := b0.trans (hB1.mono (by omega))
  have d1 : w1.cell? ⟨w.heap.size, 0, none⟩ = some (.slice a g.length c) := by rw [hB1.cell (p := ⟨w.heap.size, 0, none⟩) (by show w.heap.size < _; omega)]; exact d0
  have HO1 := hid (own_start hown0)
  have z1 : w.heap.size + 1 ≤ w1.heap.size := by have := hB1.size; omega
  clear hown0 hgrow0 b0 d0 hB1
  go_wp2_with fail
  refine (sWithout_any G a c (-1) _ (LRow.below H.out B1)).mono ?_
  rintro e w2 ⟨la, lc, L, rfl, hL, hol, hb2⟩
  have B2 := bstep' B1 hb2
  have d2 := cell_below d1 hb2
  have hLl := hL.len G
  have HL := hid hL
  have HS2 : Hid (OwnR w2 (w.heap.size + 1) (.slice (some ⟨w.heap.size + 1, 0, none⟩) g.length g.length) (noLists g.length) [⟨3, 1, .slice la L.length lc, L.length, ints (nats L)⟩]) := Sep.append HO1.out hb2 z1 (sep_one hol)
  have z2 : w.heap.size + 1 ≤ w2.heap.size := Nat.le_trans z1 hb2.size
  clear hL hol hb2 B1 d1 HO1
  go_wp2
  go_loopw [18] (fun t18 wr => ∃ (d : Nat) (ys : List LV) (P : List (List Nat)), t18 = .int .i64 d ∧ d ≤ g.length ∧ OwnR wr (w.heap.size + 1) (.slice (some ⟨w.heap.size + 1, 0, none⟩) g.length g.length) ys [⟨3, 1, .slice la L.length lc, L.length, ints (nats L)⟩] ∧ lists ys = natsL P ∧ DS g d [] P ∧ Below w.heap.size w wr ∧ w.heap.size + 1 ≤ wr.heap.size ∧ wr.cell? ⟨w.heap.size, 0, none⟩ = some (.slice a g.length c)) (fun t18 _ => g.length - (intOf t18).toNat)
  case atStart => exact ⟨0, _, _, rfl, by omega, HS2.out, lists_noLists _, DS.begin g, B2, z2, d2⟩
  case round =>
    obtain ⟨d, ys, P, rfl, hd, hown, hys, hds, hB, hz, dr⟩ := hrel
    have HO := hid hown
    have HP := hid (And.intro hys hds)
    clear hown hys hds HS2 d2 B2
    by_cases hlt : d < g.length
    · have HWI := hid (sWithout_any G a c (d : Int) wr (LRow.below H.out hB))
      go_wp2_with fail
      refine HWI.out.mono ?_
      rintro e w3 ⟨ma, mc, M, rfl, hM, hom, hb3⟩
      have hMl := hM.len G
      have HO3 := hid (HO.out.kept hb3 hz ⟨3, 1, .slice ma M.length mc, M.length, ints (nats M)⟩ hom)
      have HM := hid hM
      have HB3 := hid (And.intro (bstep' hB hb3) (And.intro (Nat.le_trans hz hb3.size) (cell_below dr hb3)))
      clear hM hom hb3 HWI HO
      go_wp2
      go_loopw [26] (fun t26 wq => ∃ (p : Nat) (ys : List LV) (P : List (List Nat)), t26 = .int .i64 p ∧ p ≤ L.length ∧ OwnR wq (w.heap.size + 1) (.slice (some ⟨w.heap.size + 1, 0, none⟩) g.length g.length) ys ([⟨3, 1, .slice la L.length lc, L.length, ints (nats L)⟩] ++ [⟨3, 1, .slice ma M.length mc, M.length, ints (nats M)⟩]) ∧ lists ys = natsL P ∧ DS g d (L.take p) P ∧ Below w.heap.size w wq ∧ w.heap.size + 1 ≤ wq.heap.size ∧ wq.cell? ⟨w.heap.size, 0, none⟩ = some (.slice a g.length c)) (fun t26 _ => L.length - (intOf t26).toNat)
      case atStart => exact ⟨0, ys, P, rfl, by omega, HO3.out, HP.out.1, HP.out.2, HB3.out.1, HB3.out.2.1, HB3.out.2.2⟩
      case round =>
        obtain ⟨p, ys, P, rfl, hp, hown, hys, hds, hB', hz', dq⟩ := hrel
        have HO := hid hown
        have HP := hid (And.intro hys hds)
        have hol := hown.rest (x := ⟨3, 1, .slice la L.length lc, L.length, ints (nats L)⟩) (by simp)
        have hom := hown.rest (x := ⟨3, 1, .slice ma M.length mc, M.length, ints (nats M)⟩) (by simp)
        simp only [] at hol hom
        clear hown hys hds
        by_cases hpl : p < L.length
        · obtain ⟨k0, hk0⟩ : ∃ k, L[p]? = some k := ⟨_, List.getElem?_eq_getElem hpl⟩
          have hkg : k0 < g.length := ((HL.out.2 k0).1 (List.mem_of_getElem? hk0)).lt G
          obtain ⟨lg, rfl⟩ : ∃ g, la = some ⟨g, 0, none⟩ := by
            rcases hol.2 with ⟨h0, h1⟩ | ⟨g', cap, cur, he, _⟩
            · omega
            · injection he with e1 _ _; exact ⟨g', e1⟩
          have c1 : wr.cell? ⟨lg, p, none⟩ = some (.int .i64 (k0 : Int)) := rowT_at hol rfl (by simp [ints, nats, hk0])
          have e1 : L.take (p + 1) = L.take p ++ [k0] := by rw [List.take_add_one, hk0]; rfl
          have HD := hid (dom_iff HL.out HM.out (List.mem_of_getElem? hk0))
          have HH1 := hid (hasN_any (some ⟨lg, 0, none⟩) lc L d wr (by omega) _ hol)
          have HH2 := hid (hasN_any ma mc M k0 wr (by omega) _ hom)
          have HE1 := hid e1
          clear hol hom e1 hk0
          by_cases hdl : d ∈ L
          · have t1 : decide (d ∈ L) = true := decide_eq_true hdl
            rw [t1] at HH1
            by_cases hkm : k0 ∈ M
            · have t2 : decide (k0 ∈ M) = true := decide_eq_true hkm
              rw [t2] at HH2
              have HN := hid (HP.out.2.skip (k0 := k0) (fun h => (HD.out.1 h).2 hkm))
              clear t1 t2 hdl hkm
              go_wp2_with fail
              refine HH1.out.mono ?_
              rintro e w4 ⟨rfl, hw4⟩
              subst w4
              go_wp2_with fail
              refine HH2.out.mono ?_
              rintro e w5 ⟨rfl, hw5⟩
              subst w5
              go_wp2
              go_roundw
              case rel => exact ⟨p + 1, ys, P, by go_num, by omega, HO.out, HP.out.1, by rw [HE1.out]; exact HN.out, hB', hz', dq⟩
              case measure => simp [intOf]; omega
            · have t2 : decide (k0 ∈ M) = false := decide_eq_false hkm
              rw [t2] at HH2
              have HDD := hid (HD.out.2 ⟨hdl, hkm⟩)
              obtain ⟨r, hr⟩ : ∃ r, P[k0]? = some r := ⟨_, List.getElem?_eq_getElem (by rw [HP.out.2.1]; exact hkg)⟩
              obtain ⟨rv, hrv⟩ := own_of_lists HP.out.1 hr
              have hylen : ys.length = g.length := by have := congrArg List.length HP.out.1; rw [lists_length] at this; simp [natsL, HP.out.2.1] at this; exact this
              have c2 : wr.cell? ⟨w.heap.size + 1, k0, none⟩ = some rv := rowT_at HO.out.plain.outer rfl (show (vals ys)[k0]? = some rv by simp [vals, hrv])
              have hrb := HP.out.2.few G hr
              have hio := HO.out.plain.inner (List.mem_of_getElem? hrv)
              simp only [] at hio
              rw [nats_length] at hio
              have HQ := hid (l1Put_any rv r d (w.heap.size + 1) wr (by omega) (by omega) hio hz')
              have HH := hid (And.intro hr (And.intro hrv hylen))
              clear t1 t2 hdl hkm hr hrv hylen hio hrb
              go_wp2_with fail
              refine HH1.out.mono ?_
              rintro e w4 ⟨rfl, hw4⟩
              subst w4
              go_wp2_with fail
              refine HH2.out.mono ?_
              rintro e w5 ⟨rfl, hw5⟩
              subst w5
              go_wp2_with fail
              refine HQ.out.mono ?_
              rintro e w6 ⟨va, vc, rfl, ho6, hg6, hb6⟩
              have hs6 := (HO.out.split HH.out.2.1).turn _ hb6 (World.grownBy.refl _ _) ⟨3, 1, .slice va (putL r d).length vc, (nats (putL r d)).length, ints (nats (putL r d))⟩ (by show World.ownsRow _ _ _ _ _ _ _; rw [nats_length]; exact ho6) hg6
              have e0 : (Value.slice (some ⟨w.heap.size + 1, 0, none⟩) g.length g.length) = (Value.slice (some ⟨w.heap.size + 1, 0, none⟩) ys.length g.length) := by rw [HH.out.2.2]
              rw [e0] at hs6
              have HJ := hid (OwnR.join (y' := ⟨nats (putL r d), .slice va (putL r d).length vc⟩) HH.out.2.1 hs6)
              have HB6 := hid (And.intro (bstep' hB' hb6) (And.intro (Nat.le_trans hz' hb6.size) (cell_below dq hb6)))
              have c6 := rowT_at (owns_below HO.out.plain.outer hb6) rfl (show (vals ys)[k0]? = some rv by simp [vals, HH.out.2.1])
              have f6 := rowT_frz (owns_below HO.out.plain.outer hb6) rfl k0
              clear ho6 hg6 hb6 hs6 e0
              go_wp2
              go_roundw
              case rel =>
                refine ⟨p + 1, ys.set k0 ⟨nats (putL r d), .slice va (putL r d).length vc⟩, P.set k0 (putL r d), by go_num, by omega, ?_, ?_, ?_, HB6.out.1.setCell (p := ⟨w.heap.size + 1, k0, none⟩) (by show w.heap.size ≤ w.heap.size + 1; omega) _, by simp [World.setCell]; exact HB6.out.2.1, set_far HB6.out.2.2 (by omega)⟩
                · have := HJ.out
                  rw [HH.out.2.2] at this
                  exact this
                · rw [lists_set, HP.out.1, natsL_set]
                · rw [HE1.out]; exact HP.out.2.put HDD.out HH.out.1
              case measure => simp [intOf]; omega
          · have t1 : decide (d ∈ L) = false := decide_eq_false hdl
            rw [t1] at HH1
            have HN := hid (HP.out.2.skip (k0 := k0) (fun h => hdl (HD.out.1 h).1))
            clear t1 hdl
            go_wp2_with fail
            refine HH1.out.mono ?_
            rintro e w4 ⟨rfl, hw4⟩
            subst w4
            go_wp2
            go_roundw
            case rel => exact ⟨p + 1, ys, P, by go_num, by omega, HO.out, HP.out.1, by rw [HE1.out]; exact HN.out, hB', hz', dq⟩
            case measure => simp [intOf]; omega
        · obtain rfl : p = L.length := by omega
          have hds := HP.out.2
          rw [List.take_of_length_le (Nat.le_refl _)] at hds
          have HN := hid (hds.next (fun k hk => (HL.out.2 k).2 hk.1))
          have HK := hid (And.intro HO.out.less HP.out.1)
          clear hol hom hds
          go_wp2
          go_roundw
          case rel => exact ⟨d + 1, ys, P, by go_num, by omega, HK.out.1, HK.out.2, HN.out, hB', hz', dq⟩
          case measure => simp [intOf]; omega
    · obtain rfl : d = g.length := by omega
      have HF := hid (And.intro HO.out.plain (And.intro HP.out.1 (And.intro (HP.out.2.end G) hB)))
      go_wp2
      go_ret
      exact ⟨_, g.length, ys, P, rfl, Sep.mono HF.out.1 (by omega), HF.out.2.1, HF.out.2.2.1, HF.out.2.2.2⟩
end

section
open Go.RowKit
set_option linter.unusedVariables false
set_option linter.unusedSimpArgs false
set_option maxRecDepth 100000
end

section
open Go.RowKit Go.Shelf
attribute [local go_sem] Oper.semAt_some
set_option linter.unusedVariables false
set_option linter.unusedSimpArgs false
set_option maxRecDepth 100000

theorem boxed_below {W W' : World} {B : Nat} {t : TypeId} {v : Value} (h : Boxed W B t v) (hb : Below W.heap.size W W') : Boxed W' B t v := (hb.block B h.lt).trans h
def meetL (s t : List Nat) : List Nat := s.filter (fun x => decide (x ∈ t))
theorem meetL_in {s t : List Nat} {x : Nat} (h : x ∈ t) : meetL (s ++ [x]) t = meetL s t ++ [x] := by simp [meetL, h]
theorem meetL_out {s t : List Nat} {x : Nat} (h : x ∉ t) : meetL (s ++ [x]) t = meetL s t := by simp [meetL, h]
theorem meetL_len (s t : List Nat) : (meetL s t).length ≤ s.length := List.length_filter_le _ _
theorem meetL_rising {s t : List Nat} (h : s.Pairwise (· < ·)) : (meetL s t).Pairwise (· < ·) := h.filter _
theorem mem_meetL {s t : List Nat} {x : Nat} : x ∈ meetL s t ↔ x ∈ s ∧ x ∈ t := by simp [meetL]
set_option maxHeartbeats 4000000 in
theorem meet_any (a a2 : Option Addr) (c c2 : Nat) (s t : List Nat) (w : World) (hs : s.length ≤ 1000) (ht : t.length ≤ 1000) (h1 : Row w a (nats s)) (h2 : Row w a2 (nats t)) (hr : t.Pairwise (· < ·)) :
    Calls Tryz.prog 115 #[.agg #[.slice a s.length c], .agg #[.slice a2 t.length c2]] w fun e w' => ∃ va vc, e = .returned (.agg #[.slice va (meetL s t).length vc]) ∧ w'.ownsRow w.heap.size 3 1 (.slice va (meetL s t).length vc) (meetL s t).length (ints (nats (meetL s t))) ∧ Below w.heap.size w w' := by
  obtain ⟨i0, hi, hz0, hz1, hz2⟩ := info_parts info3
  have HH := hid (fun W (hb : Below w.heap.size w W) x => has_any a2 c2 t x W ht (h2.below hb) hr)
  have H1 := hid h1
  clear h1 h2 hr
  refine (callsIn_wide (n := 5)).1 ?_
  refine callsIn_of_wp_marks Tryz.func115 rfl trivial ?_ rfl
  simp only [Tryz.ntmps115, List.size_toArray, List.length_cons, List.length_nil, Nat.reduceAdd, Nat.reduceSub, Array.replicate_succ, Array.replicate_zero, List.push_toArray, List.append_toArray, List.nil_append, List.cons_append]
  gi_wp2_with (refine ⟨trivial, ?_⟩; gi_at_call 114; refine (callsIn_wide.2 (all_any _ _ _ _)).mono ?_; rintro e w' ⟨rfl, rfl⟩)
  obtain ⟨W0, hW0⟩ : ∃ W0, ((((((w.alloc (Obj.cells #[Value.slice a s.length c] 112)).alloc (Obj.cells #[Value.slice a2 t.length c2] 112)).alloc (Obj.cells #[Value.slice none 0 0] 112)).alloc (Obj.cells #[Value.slice none 0 0] 112)).alloc (Obj.cells #[Value.slice a s.length c] 112)).alloc (Obj.cells #[Value.slice a s.length c] 35)) = W0 := ⟨_, rfl⟩
  have hsz : W0.heap.size = w.heap.size + 6 := by rw [← hW0]; simp
  have B0 : Below w.heap.size w W0 := by
    rw [← hW0]
    exact (((((below1 w _).alloc (by simp) _).alloc (by simp; omega) _).alloc (by simp; omega) _).alloc (by simp; omega) _).alloc (by simp; omega) _
  have x3 : Boxed W0 (w.heap.size + 1) 112 (.slice a2 t.length c2) := by
    rw [← hW0]
    have := Boxed.new (w.alloc (Obj.cells #[Value.slice a s.length c] 112)) 112 (.slice a2 t.length c2)
    rw [World.size_alloc] at this
    exact (((this.alloc _).alloc _).alloc _).alloc _
  have x4 : Boxed W0 (w.heap.size + 1 + 1) 112 (.slice none 0 0) := by
    rw [← hW0]
    have := Boxed.new ((w.alloc (Obj.cells #[Value.slice a s.length c] 112)).alloc (Obj.cells #[Value.slice a2 t.length c2] 112)) 112 (.slice none 0 0)
    rw [World.size_alloc, World.size_alloc] at this
    exact ((this.alloc _).alloc _).alloc _
  have x5 : Boxed W0 (w.heap.size + 1 + 1 + 1) 112 (.slice none 0 0) := by
    rw [← hW0]
    have := Boxed.new (((w.alloc (Obj.cells #[Value.slice a s.length c] 112)).alloc (Obj.cells #[Value.slice a2 t.length c2] 112)).alloc (Obj.cells #[Value.slice none 0 0] 112)) 112 (.slice none 0 0)
    rw [World.size_alloc, World.size_alloc, World.size_alloc] at this
    exact (this.alloc _).alloc _
  have x7 : W0.cell? ⟨w.heap.size + 1 + 1 + 1 + 1 + 1, 0, none⟩ = some (.slice a s.length c) := by
    rw [← hW0]
    have := Boxed.new (((((w.alloc (Obj.cells #[Value.slice a s.length c] 112)).alloc (Obj.cells #[Value.slice a2 t.length c2] 112)).alloc (Obj.cells #[Value.slice none 0 0] 112)).alloc (Obj.cells #[Value.slice none 0 0] 112)).alloc (Obj.cells #[Value.slice a s.length c] 112)) 35 (.slice a s.length c)
    simp only [World.size_alloc] at this
    exact this.cell
  rw [hW0]
  clear hW0
  refine wpIn_rangeFunc_ownF rfl (by omega) (gf := 145) (lb := #[.pointer (some ⟨w.heap.size + 1 + 1 + 1 + 1 + 1, 0, none⟩)]) rfl trivial (enters_of Tryz.func145 (by kernel_rfl) rfl)
    (values_stops (fun x : Nat => (x : Int)) _ (by omega) (w.heap.size + 1 + 1 + 1 + 1 + 1) a c s hs w W0 B0 H1.out (by omega) x7) (fun {_ _ _} h k => Below.trans h k) (belowK_b (w := W0) (n₀ := w.heap.size) (by omega)) (Below.refl _ _) (fun _ => rfl)
    (fun pre W => (∃ v, Boxed W (w.heap.size + 1 + 1 + 1) 112 v ∧ W.ownsRow w.heap.size 3 1 v (meetL pre t).length (ints (nats (meetL pre t))) ∧ True) ∧ Boxed W (w.heap.size + 1) 112 (.slice a2 t.length c2) ∧ Boxed W (w.heap.size + 1 + 1) 112 (.slice none 0 0) ∧ Below w.heap.size w W)
    (fun _ _ _ => False)
    (OwnFrom.and (Own.from (holdsRow_own w.heap.size (w.heap.size + 1 + 1 + 1) 112 3 1 (fun pre => (meetL pre t).length) (fun pre => ints (nats (meetL pre t))) (fun _ _ => True)) _) (OwnFrom.and (Own.from (boxed_own _ _ _) _) (OwnFrom.and (Own.from (boxed_own _ _ _) _) (ownFrom_below (Nat.le_refl _) (by omega)))))
    (fun _ _ _ _ _ hs _ _ => hs)
    ⟨⟨_, x5, World.ownsRow_nil _ _ _ _, trivial⟩, x3, x4, B0⟩
    (fun x => { tmps := #[Value.agg #[Value.slice a s.length c], Value.agg #[Value.slice a2 t.length c2], Value.pointer (some { block := w.heap.size, off := 0 }), Value.pointer (some { block := w.heap.size + 1, off := 0 }), Value.pointer (some { block := w.heap.size + 1 + 1, off := 0 }), Value.pointer (some { block := w.heap.size + 1 + 1 + 1, off := 0 }), .int .i64 (x : Int), Value.agg #[Value.slice a s.length c], Value.func (Fn.func 145) #[] #[Value.pointer (some { block := w.heap.size + 1 + 1 + 1 + 1 + 1, off := 0 })], .int .i64 (x : Int), undef, undef, undef, undef, undef, undef, undef, undef, undef, undef], defers := [] }) ?assign ?body ?done ?stop
  case assign =>
    intro l x W K hK
    gi_wp2
    exact hK
  case body =>
    rintro l pre x W ⟨⟨v, hv, hrow, _⟩, y3, y4, hB⟩ hlen
    have hWs := hB.size
    have hpl := meetL_len pre t
    have y3c := y3.cell
    have HHx := HH.out W hB x
    have HI := hid (And.intro hv (And.intro hrow (And.intro y3 (And.intro y4 hB))))
    clear hv hrow y3 y4 hB
    by_cases hx : x ∈ t
    · have tx : decide (x ∈ t) = true := decide_eq_true hx
      rw [tx] at HHx
      have HH2 := hid HHx
      clear HHx tx
      gi_wp2_with (first | (refine ⟨trivial, ?_⟩; gi_at_call 121; refine (CallsIn.inRound l (callsIn_wide.2 HH2.out)).mono ?_; rintro e w1 ⟨rfl, hb1⟩; have hv := boxed_below HI.out.1 hb1; have hvc := hv.cell; have hrow := owns_below HI.out.2.1 hb1; have hB1 : Below w.heap.size w w1 := HI.out.2.2.2.2.trans (hb1.mono hWs)) | (gi_at_builtin; refine wpListIn_append_own _ rfl _ _ 35 rfl w.heap.size 3 i0 (.int .i64 0) 1 8 Tryz.underlying35 hi hz0 hz1 hz2 rfl (by decide) _ _ _ rfl (hrow.alloc _) ⟨w1.heap.size, 0, none⟩ 1 1 [.int .i64 (x : Int)] rfl rfl (cell_one_new _ _ _) (by simp [Value.oneCell']) (by unfold maxLen; omega) (by omega) (by have := hB1.size; simp; omega) ?_; intro v' w2 hown' hgrow _; obtain ⟨g', cap', rfl⟩ := ownsRow_succ hown'; obtain ⟨hv1, hv2, hr2, hk2, hb2⟩ := hv.appended (by decide) hrow hB1.size (by omega) hown' hgrow; have hc1 := hv1.cell; have hf1 := hv1.frozen))
      have e1 : meetL (pre ++ [x]) t = meetL pre t ++ [x] := meetL_in hx
      have z3 := boxed_below HI.out.2.2.1 hb1
      have z4 := boxed_below HI.out.2.2.2.1 hb1
      refine ⟨(keeps_below hb1).trans hk2, (hb1.mono hWs).trans hb2, ?_⟩
      simp only [e1]
      refine ⟨⟨_, hv2, ?_, trivial⟩, ((z3.alloc _).kept hgrow (z3.not_row (by decide) hrow)).other (by omega) _, ((z4.alloc _).kept hgrow (z4.not_row (by decide) hrow)).other (by omega) _, hB1.trans hb2⟩
      have e2 : ints (nats (meetL pre t ++ [x])) = ints (nats (meetL pre t)) ++ [.int .i64 (x : Int)] := by simp [ints, nats]
      rw [e2, List.length_append]
      exact hr2
    · have tx : decide (x ∈ t) = false := decide_eq_false hx
      rw [tx] at HHx
      have HH2 := hid HHx
      clear HHx tx
      gi_wp2_with (refine ⟨trivial, ?_⟩; gi_at_call 121; refine (CallsIn.inRound l (callsIn_wide.2 HH2.out)).mono ?_; rintro e w1 ⟨rfl, hb1⟩)
      have e1 : meetL (pre ++ [x]) t = meetL pre t := meetL_out hx
      refine ⟨keeps_below hb1, hb1.mono hWs, ?_⟩
      simp only [e1]
      exact ⟨⟨v, boxed_below HI.out.1 hb1, owns_below HI.out.2.1 hb1, trivial⟩, boxed_below HI.out.2.2.1 hb1, boxed_below HI.out.2.2.2.1 hb1, HI.out.2.2.2.2.trans (hb1.mono hWs)⟩
  case done =>
    rintro D ys W hD rfl ⟨⟨v, hv, hrow, _⟩, y3, y4, hB⟩ hK
    have hvc := hv.cell
    have y4c := y4.cell
    have y4f := y4.frozen
    obtain ⟨va, vc, rfl⟩ : ∃ va vc, v = .slice va (meetL ys t).length vc := by
      rcases hrow.2 with ⟨h0, h1⟩ | ⟨g', cap, cur, he, _⟩
      · exact ⟨none, 0, by rw [h0, h1]⟩
      · exact ⟨_, _, he⟩
    gi_wp2
    have hK' : (W.setCell ⟨w.heap.size + 1 + 1, 0, none⟩ (Value.slice va (meetL ys t).length vc)).heap[D]? = some (.deferred (some [])) := (KeepsOthers.setCell _ _ _).same D _ hK rfl
    have q4 := (y4.set (Value.slice va (meetL ys t).length vc)).cell
    have qr := hrow.kept (grownBy_setCell' W (w.heap.size + 1 + 1) (Value.slice va (meetL ys t).length vc)) (.inr (y4.not_row (by decide) hrow).symm)
    have qB := hB.setCell (p := ⟨w.heap.size + 1 + 1, 0, none⟩) (by show w.heap.size ≤ w.heap.size + 1 + 1; omega) (Value.slice va (meetL ys t).length vc)
    refine ⟨by simp, .inl ⟨_, _, rfl, run_takeDeferred hK', ?_⟩⟩
    have q5 := cell_kept q4 (grownBy_putObj' _ D (.deferred none)) (fun r e => by cases e; exact ⟨_, hK', rfl⟩)
    exact ⟨.agg #[.slice va (meetL ys t).length vc], by simp [results, Tryz.results115, go_sem, q5], va, vc, rfl, ownsRow_putObj qr _ hK' rfl, qB.trans (belowK_b (w := w) (Nat.le_refl _) _ D _ _ (by omega) hK' rfl rfl)⟩
  case stop =>
    rintro D c pre W _ _ h _
    exact h.elim
end

section
open Go.RowKit
set_option linter.unusedVariables false
set_option linter.unusedSimpArgs false
set_option maxRecDepth 100000

theorem eltLists : Elt 41 35 1 24 := by
  obtain ⟨i0, hi, hz0, hz1, hz2⟩ := info_parts info40
  exact ⟨i0, .slice none 0 0, Tryz.underlying41, hi, hz0, hz1, hz2, by simp [Value.cells], by omega, by omega⟩
theorem step_append_sep {T e : TypeId} {size bytes : Nat} (E : Elt T e size bytes) {w : World} {ops : Array Oper} {o : Oper} {a : Act} {K : Act → World → Prop} {Q : Exit → Act → World → Prop} {F : Prop} (hgd : o.guard = none) (s x : Operand)
    (ho : o.op = .call { callee := .builtin .append, args := #[s, x], argTypes := #[T, T] })
    (B : Nat) (l1 : List OR) {v : Value} {n : Nat} {xs : List Value} {l2 : List OR} (h : Sep w B (l1 ++ ⟨e, size, v, n, xs⟩ :: l2)) (hs : a.eval s = v) {ad : Option Addr} {m c : Nat} {news : List Value} (hn : News w ad m size news) (hx : a.eval x = .slice ad m c) (hb : n + m ≤ 4000000) (hB : B ≤ w.heap.size)
    (k : ∀ va vc w', Sep w' B (l1 ++ ⟨e, size, .slice va (n + m) vc, n + m, xs ++ news⟩ :: l2) → Below B w w' → w.grownBy w' v.ownBlock → K (a.put o.dst (.slice va (n + m) vc)) w') :
    if Region.wanted o (yielded ops a.tmps) = true then Oper.wp Tryz.prog o a w K Q else F := by
  have hw : Region.wanted o (yielded ops a.tmps) = true := by simp [Region.wanted, hgd]
  rw [if_pos hw]
  exact wp_append_sep E s x ho B l1 h hs hn hx hb hB k
theorem own_new0 (w : World) (nb : Nat) (hnb : w.heap.size = nb) : (w.alloc (.cells #[] 3)).ownsRow nb 3 1 (.slice (some ⟨nb, 0, none⟩) 0 0) 0 [] := by
  subst hnb
  exact ⟨rfl, .inr ⟨w.heap.size, 0, #[], rfl, Nat.le_refl _, heap_alloc_new _ _, by omega, by unfold maxLen; omega, by simp, by simp⟩⟩
/-- lists that were made so far, behind other rows -/
def Made (w : World) (B : Nat) (pre : List OR) (ov : Value) (ys : List LV) : Prop := Sep w B (pre ++ ⟨35, 1, ov, ys.length, vals ys⟩ :: ys.map rowL)
theorem Made.below {w w' : World} {B : Nat} {pre : List OR} {ov : Value} {ys : List LV} (h : Made w B pre ov ys) (hb : Below w.heap.size w w') : Made w' B pre ov ys := Sep.below h hb
/-- a new list lies there -/
theorem Made.with {w w' : World} {B : Nat} {pre : List OR} {ov : Value} {ys : List LV} (h : Made w B pre ov ys) (hb : Below w.heap.size w w') (hB : B ≤ w.heap.size) (y : LV) (hy : w'.ownsRow w.heap.size 3 1 y.v y.r.length (ints y.r)) : Sep w' B (pre ++ ⟨35, 1, ov, ys.length, vals ys⟩ :: (ys ++ [y]).map rowL) := by
  have := Sep.append h hb hB (m := [rowL y]) ⟨by intro x hx; simp at hx; subst hx; exact hy, by simp⟩
  simpa using this
theorem Made.grown {w : World} {B n : Nat} {pre : List OR} {va : Option Addr} {vc : Nat} {ys : List LV} {y : LV} (h : Sep w B (pre ++ ⟨35, 1, .slice va (ys.length + 1) vc, ys.length + 1, vals ys ++ [y.v]⟩ :: (ys ++ [y]).map rowL)) : Made w B pre (.slice va (ys.length + 1) vc) (ys ++ [y]) := by
  unfold Made
  have e : vals (ys ++ [y]) = vals ys ++ [y.v] := by simp [vals]
  rw [e, List.length_append]
  exact h
/-- a list without a number -/
def dropL (l : List Int) (k : Int) : List Int := l.filter fun x => !decide (x = k)
theorem dropL_snoc (l : List Int) (x k : Int) : dropL (l ++ [x]) k = if x = k then dropL l k else dropL l k ++ [x] := by
  unfold dropL
  rw [List.filter_append]
  by_cases h : x = k <;> simp [h]
theorem dropL_len (l : List Int) (k : Int) : (dropL l k).length ≤ l.length := List.length_filter_le _ _
/-- what a list without a number is, in a set -/
theorem dropL_pos {s : List Nat} (h : s.Pairwise (· < ·)) {k : Nat} (hk : k ∈ s) : dropL (nats s) k = (nats s).take (posL s k) ++ (nats s).drop (posL s k + 1) ∧ posL s k < s.length := by
  induction s with
  | nil => simp at hk
  | cons y r ih =>
    have hy := List.pairwise_cons.1 h
    by_cases hyk : y < k
    · have e : posL (y :: r) k = posL r k + 1 := by simp [posL, hyk]
      have hk' : k ∈ r := by rcases List.mem_cons.1 hk with e | e; · omega
                             · exact e
      obtain ⟨h1, h2⟩ := ih hy.2 hk'
      rw [e]
      refine ⟨?_, by simp; omega⟩
      have hne : ¬ ((y : Int) = (k : Int)) := by omega
      simp only [nats, List.map_cons, dropL, List.filter_cons, hne, decide_false, Bool.not_false, if_true, List.take_succ_cons, List.drop_succ_cons, List.cons_append]
      congr 1
    · have e0 : y = k := by rcases List.mem_cons.1 hk with e | e; · exact e.symm
                            · have := hy.1 k e; omega
      subst e0
      have e : posL (y :: r) y = 0 := by
        simp only [posL, List.countP_eq_zero]
        intro x hx
        rcases List.mem_cons.1 hx with e | e
        · simp; omega
        · have := hy.1 x e; simp; omega
      rw [e]
      refine ⟨?_, by simp⟩
      simp only [nats, List.map_cons, dropL, List.filter_cons, decide_true, Bool.not_true, Bool.false_eq_true, if_false, List.take_zero, List.nil_append, Nat.zero_add, List.drop_succ_cons, List.drop_zero]
      rw [List.filter_eq_self]
      intro x hx
      obtain ⟨z, hz, rfl⟩ := List.mem_map.1 hx
      have := hy.1 z hz
      simp; omega
end

section
open Go.RowKit
set_option linter.unusedVariables false
set_option linter.unusedSimpArgs false
set_option maxRecDepth 100000

/-- the model's way: each number is put to its place -/
def setL (s : List Nat) : List Nat := s.foldl putL []
theorem setL_snoc (s : List Nat) (x : Nat) : setL (s ++ [x]) = putL (setL s) x := by unfold setL; rw [List.foldl_append]; rfl
theorem foldl_put (s t : List Nat) (ht : t.Pairwise (· < ·)) : (s.foldl putL t).Pairwise (· < ·) ∧ ∀ x, x ∈ s.foldl putL t ↔ x ∈ t ∨ x ∈ s := by
  induction s generalizing t with
  | nil => exact ⟨ht, by simp⟩
  | cons y r ih =>
    obtain ⟨h1, h2⟩ := ih (putL t y) (putL_rising ht y)
    refine ⟨h1, fun x => ?_⟩
    rw [List.foldl_cons, h2, putL_mem, List.mem_cons]
    constructor
    · rintro ((h | h) | h)
      · exact .inr (.inl h)
      · exact .inl h
      · exact .inr (.inr h)
    · rintro (h | h | h)
      · exact .inl (.inr h)
      · exact .inl (.inl h)
      · exact .inr h
theorem setL_rising (s : List Nat) : (setL s).Pairwise (· < ·) := (foldl_put s [] List.Pairwise.nil).1
theorem setL_mem (s : List Nat) (x : Nat) : x ∈ setL s ↔ x ∈ s := by
  have := (foldl_put s [] List.Pairwise.nil).2 x
  simpa [setL] using this
theorem setL_len (s : List Nat) : (setL s).length ≤ s.length := by
  have : ∀ t : List Nat, (s.foldl putL t).length ≤ t.length + s.length := by
    induction s with
    | nil => intro t; simp
    | cons y r ih =>
      intro t
      have h1 := ih (putL t y)
      have h2 := putL_len t y
      simp only [List.foldl_cons, List.length_cons]
      omega
  simpa [setL] using this []
theorem rising_int {l m : List Int} (hl : l.Pairwise (· < ·)) (hm : m.Pairwise (· < ·)) (h : ∀ k, k ∈ l ↔ k ∈ m) : l = m := by
  induction l generalizing m with
  | nil =>
    cases m with
    | nil => rfl
    | cons y r => exact absurd ((h y).2 (by simp)) (by simp)
  | cons x l ih =>
    cases m with
    | nil => exact absurd ((h x).1 (by simp)) (by simp)
    | cons y m =>
      have hx := List.pairwise_cons.1 hl
      have hy := List.pairwise_cons.1 hm
      have hxy : x = y := by
        rcases List.mem_cons.1 ((h x).1 (by simp)) with e | e
        · exact e
        · rcases List.mem_cons.1 ((h y).2 (by simp)) with e' | e'
          · exact e'.symm
          · have := hy.1 x e; have := hx.1 y e'; omega
      subst hxy
      rw [ih hx.2 hy.2 (fun k => ?_)]
      constructor
      · intro hk
        rcases List.mem_cons.1 ((h k).1 (by simp [hk])) with e | e
        · have := hx.1 k hk; omega
        · exact e
      · intro hk
        rcases List.mem_cons.1 ((h k).2 (by simp [hk])) with e | e
        · have := hy.1 k hk; omega
        · exact e
theorem compact_upto (zs : List Int) (hs : zs.Pairwise (· ≤ ·)) (m : Nat) (hm : m ≤ zs.length) : (Lib.compactUpTo zs.toArray m).Pairwise (· < ·) ∧ ∀ x, x ∈ Lib.compactUpTo zs.toArray m ↔ ∃ j, j < m ∧ zs[j]? = some x := by
  have hle : ∀ i j (hi : i < zs.length) (hj : j < zs.length), i ≤ j → zs[i] ≤ zs[j] := fun i j hi hj hij => by
    rcases Nat.lt_or_ge i j with h | h
    · exact List.pairwise_iff_getElem.1 hs i j hi hj h
    · obtain rfl : i = j := by omega
      exact Int.le_refl _
  induction m with
  | zero => exact ⟨by simp [Lib.compactUpTo], by simp [Lib.compactUpTo]⟩
  | succ m ih =>
    obtain ⟨h1, h2⟩ := ih (by omega)
    have hd : zs.toArray[m]! = zs[m] := by rw [getElem!_pos _ m (by simp; omega)]; simp
    rw [Lib.compactUpTo_succ, hd]
    by_cases hk : Lib.keeps zs.toArray m = true
    · rw [if_pos hk]
      refine ⟨List.pairwise_append.2 ⟨h1, by simp, fun a ha b hb => ?_⟩, fun x => ?_⟩
      · simp at hb; subst hb
        obtain ⟨j, hj, hja⟩ := (h2 a).1 ha
        obtain ⟨hjl, rfl⟩ := List.getElem?_eq_some_iff.1 hja
        have hne : zs[m] ≠ zs[m - 1] := by
          intro e
          have := Lib.keeps_neg (d := zs.toArray) (m := m) (by omega) (by rw [hd, getElem!_pos _ (m - 1) (by simp; omega)]; simpa using e)
          rw [this] at hk; cases hk
        have a1 := hle j (m - 1) hjl (by omega) (by omega)
        have a2 := hle (m - 1) m (by omega) (by omega) (by omega)
        omega
      · rw [List.mem_append, h2]
        constructor
        · rintro (⟨j, hj, hx⟩ | hx)
          · exact ⟨j, by omega, hx⟩
          · simp at hx; subst hx; exact ⟨m, by omega, List.getElem?_eq_getElem (by omega)⟩
        · rintro ⟨j, hj, hx⟩
          rcases Nat.lt_or_ge j m with h | h
          · exact .inl ⟨j, h, hx⟩
          · obtain rfl : j = m := by omega
            right
            rw [List.getElem?_eq_getElem (by omega)] at hx
            simpa using (Option.some.inj hx).symm
    · rw [if_neg hk, List.append_nil]
      refine ⟨h1, fun x => ?_⟩
      rw [h2]
      constructor
      · rintro ⟨j, hj, hx⟩; exact ⟨j, by omega, hx⟩
      · rintro ⟨j, hj, hx⟩
        rcases Nat.lt_or_ge j m with h | h
        · exact ⟨j, h, hx⟩
        · obtain rfl : j = m := by omega
          have hm0 : 0 < j := by
            rcases Nat.eq_zero_or_pos j with h0 | h0
            · subst h0; exact absurd (Lib.keeps_lt_one zs.toArray 0 (by omega)) hk
            · exact h0
          have he : zs[j] = zs[j - 1] := Classical.byContradiction fun hne => hk (Lib.keeps_pos (by rw [hd, getElem!_pos _ (j - 1) (by simp; omega)]; simpa using hne))
          refine ⟨j - 1, by omega, ?_⟩
          rw [List.getElem?_eq_getElem (by omega)] at hx ⊢
          rw [← he]; exact hx
theorem compact_rising (zs : List Int) (hs : zs.Pairwise (· ≤ ·)) : (Lib.compact zs).Pairwise (· < ·) ∧ ∀ x, x ∈ Lib.compact zs ↔ x ∈ zs := by
  obtain ⟨h1, h2⟩ := compact_upto zs hs zs.length (Nat.le_refl _)
  refine ⟨h1, fun x => ?_⟩
  rw [show Lib.compact zs = Lib.compactUpTo zs.toArray zs.length from rfl, h2, List.mem_iff_getElem?]
  constructor
  · rintro ⟨j, _, hx⟩; exact ⟨j, hx⟩
  · rintro ⟨j, hx⟩; exact ⟨j, (List.getElem?_eq_some_iff.1 hx).1, hx⟩
def sortI (zs : List Int) : List Int := zs.mergeSort fun x y => decide (x ≤ y)
theorem sortI_sorted (zs : List Int) : (sortI zs).Pairwise (· ≤ ·) := by
  have := List.pairwise_mergeSort (le := fun (x y : Int) => decide (x ≤ y)) (fun a b c h1 h2 => by simp at *; omega) (fun a b => by simp; omega) zs
  exact this.imp fun h => by simpa using h
theorem sortI_mem (zs : List Int) (x : Int) : x ∈ sortI zs ↔ x ∈ zs := by unfold sortI; exact List.mem_mergeSort
theorem sortI_len (zs : List Int) : (sortI zs).length = zs.length := by unfold sortI; exact List.length_mergeSort _
theorem nats_lt {s : List Nat} (h : s.Pairwise (· < ·)) : (nats s).Pairwise (· < ·) := by
  rw [nats, List.pairwise_map]
  exact h.imp fun h => by omega
/-- both ways come to one list -/
theorem set_eq (s : List Nat) : Lib.compact (sortI (nats s)) = nats (setL s) := by
  obtain ⟨h1, h2⟩ := compact_rising _ (sortI_sorted (nats s))
  refine rising_int h1 (nats_lt (setL_rising s)) fun x => ?_
  rw [h2, sortI_mem]
  constructor
  · intro h
    obtain ⟨n, rfl, hn⟩ := nats_mem' h
    exact nats_mem.2 ((setL_mem s n).2 hn)
  · intro h
    obtain ⟨n, rfl, hn⟩ := nats_mem' h
    exact nats_mem.2 ((setL_mem s n).1 hn)
/-- a row is sorted -/
theorem sort_own (B : Nat) (v : Value) (zs : List Int) (w : World) (hl : zs.length ≤ 1000) (h : w.ownsRow B 3 1 v zs.length (ints zs)) :
    Calls Tryz.prog 123 #[v] w fun e w' => e = .returned (.tuple #[]) ∧ w'.ownsRow B 3 1 v zs.length (ints (sortI zs)) ∧ w.grownBy w' v.ownBlock := by
  rcases h.2 with ⟨rfl, h0⟩ | ⟨g, cap, cur, rfl, hBg, hg, hn, hm, hsz, htk⟩
  · have : zs = [] := List.eq_nil_of_length_eq_zero h0
    subst this
    refine (Tryz.slices_Sort_int_none none 0 w).mono ?_
    rintro e w' ⟨rfl, rfl⟩
    exact ⟨rfl, by simpa [sortI] using h, World.grownBy.refl _ _⟩
  · have hH := Lib.holds_of_ints (w := w) (b := g) (off := 0) (zs := zs) (n := zs.length) (Nat.le_refl _) (fun j hj => by rw [Nat.zero_add]; exact rowT_at h rfl (by simp [ints, hj, List.getD])) (fun j hj => by rw [Nat.zero_add]; exact h.frozenAt j)
    rw [List.take_of_length_le (Nat.le_refl _)] at hH
    refine (Tryz.slices_Sort_int g 0 cap zs w hH (h.lt g rfl).2 (by omega)).mono ?_
    rintro e w' ⟨rfl, q, os, rfl⟩
    have hp := Lib.putRow_eq_setCells (Value.int .i64) w g 0 zs.toArray (sortI zs) q hH (by simp [sortI_len])
    obtain ⟨h1, h2⟩ := own_setCells (ints (sortI zs)) (w.drewN q) 0 (ints zs) h (by simp [ints, sortI_len])
    have e1 : (ints zs).drop (0 + (ints (sortI zs)).length) = [] := List.drop_of_length_le (by simp [ints, sortI_len])
    rw [e1, List.take_zero, List.nil_append, List.append_nil] at h1
    have hb : Below ((w.drewN q).setCells g 0 (ints (sortI zs))).heap.size ((w.drewN q).setCells g 0 (ints (sortI zs))) (Go.Sort.grow ((w.drewN q).setCells g 0 (ints (sortI zs))) os) :=
      ⟨rfl, rfl, rfl, by simp [Go.Sort.grow], fun k hk => by simp only [Go.Sort.grow]; rw [Array.getElem?_append_left hk]⟩
    have hp' : Go.Sort.putRow (Value.int .i64) (Go.Sort.ahead w q) g 0 (zs.mergeSort fun x y => decide (x ≤ y)).toArray = (w.drewN q).setCells g 0 (ints (sortI zs)) := hp
    rw [hp']
    exact ⟨rfl, owns_below h1 hb, ((show w.grownBy (w.drewN q) (some g) from grownBy_of_below (below_drewN (Below.refl _ _) q) _).trans h2).trans (grownBy_of_below hb _)⟩
/-- a row is made to have each number once -/
theorem compact_own (B : Nat) (v : Value) (zs : List Int) (w : World) (hl : zs.length ≤ 1000) (h : w.ownsRow B 3 1 v zs.length (ints zs)) :
    Calls Tryz.prog 124 #[v] w fun e w' => ∃ va vc, e = .returned (.slice va (Lib.compact zs).length vc) ∧ w'.ownsRow B 3 1 (.slice va (Lib.compact zs).length vc) (Lib.compact zs).length (ints (Lib.compact zs)) ∧ w.grownBy w' v.ownBlock := by
  rcases h.2 with ⟨rfl, h0⟩ | ⟨g, cap, cur, rfl, hBg, hg, hn, hm, hsz, htk⟩
  · have : zs = [] := List.eq_nil_of_length_eq_zero h0
    subst this
    refine (Tryz.slices_Compact_int_empty none 0 w).mono ?_
    rintro e w' ⟨rfl, rfl⟩
    exact ⟨none, 0, by simp [Lib.compact, Lib.compactUpTo], by simpa [Lib.compact, Lib.compactUpTo] using h, World.grownBy.refl _ _⟩
  · refine (Tryz.slices_Compact_int_cells g 0 zs.length cap zs w (Nat.le_refl _) (by omega) hn (fun j hj => by rw [Nat.zero_add]; exact rowT_at h rfl (by simp [ints, hj, List.getD])) (fun j hj => by rw [Nat.zero_add]; exact h.frozenAt j)).mono ?_
    rintro e w' ⟨rfl, q, rfl⟩
    rw [List.take_of_length_le (Nat.le_refl _)]
    have hle := Lib.compact_length_le zs
    obtain ⟨L, hL⟩ : ∃ L, L = Lib.compact zs := ⟨_, rfl⟩
    rw [← hL] at hle ⊢
    have e0 : ((L ++ List.replicate (zs.length - L.length) 0).map (Value.int .i64)) = ints L ++ ints (List.replicate (zs.length - L.length) 0) := by simp [ints]
    rw [e0]
    have hl2 : (ints L ++ ints (List.replicate (zs.length - L.length) 0)).length = zs.length := by simp [ints]; omega
    obtain ⟨h1, h2⟩ := own_setCells (ints L ++ ints (List.replicate (zs.length - L.length) 0)) (w.drewN q) 0 (ints zs) h (by omega)
    have e1 : (ints zs).drop (0 + (ints L ++ ints (List.replicate (zs.length - L.length) 0)).length) = [] := List.drop_of_length_le (by rw [hl2]; simp [ints])
    rw [e1, List.take_zero, List.nil_append, List.append_nil] at h1
    refine ⟨_, _, rfl, ?_, (show w.grownBy (w.drewN q) (some g) from grownBy_of_below (below_drewN (Below.refl _ _) q) _).trans h2⟩
    have h3 := own_cut h1 (m := L.length) hle
    have e3 : (ints L ++ ints (List.replicate (zs.length - L.length) 0)).take L.length = ints L := by
      rw [List.take_append_of_le_length (by simp [ints]), List.take_of_length_le (by simp [ints])]
    first
      | (rw [e3] at h3; exact h3)
      | (rw [Nat.mul_one, e3] at h3; exact h3)
set_option maxHeartbeats 1000000 in
/-- the program's set of a list -/
theorem setOf_any (a : Option Addr) (c : Nat) (s : List Nat) (w : World) (hl : s.length ≤ 1000) (h : Row w a (nats s)) :
    Calls Tryz.prog 87 #[.slice a s.length c] w fun e w' => ∃ va vc, e = .returned (.agg #[.slice va (setL s).length vc]) ∧ w'.ownsRow w.heap.size 3 1 (.slice va (setL s).length vc) (setL s).length (ints (nats (setL s))) ∧ Below w.heap.size w w' := by
  have b0 := below1 w (.cells #[.slice none 0 0] 112)
  have z0 : (w.alloc (.cells #[.slice none 0 0] 112)).heap.size = w.heap.size + 1 := by simp
  have x0 : (w.alloc (.cells #[.slice none 0 0] 112)).cell? ⟨w.heap.size, 0, none⟩ = some (.slice none 0 0) := by simp [go_sem]
  have f0 : (w.alloc (.cells #[.slice none 0 0] 112)).frozen? ⟨w.heap.size, 0, none⟩ = false := by simp [go_sem]
  have HS0 : Hid (Sep (w.alloc (.cells #[.slice none 0 0] 112)) (w.alloc (.cells #[.slice none 0 0] 112)).heap.size ([] ++ ⟨3, 1, .slice none 0 0, 0, []⟩ :: [])) := sep_one (World.ownsRow_nil _ _ _ _)
  have HN0 := hid (News.ints (h.below b0))
  rw [nats_length] at HN0
  clear h
  go_enter Tryz.func87, Tryz.ntmps87
  go_wp2_with (at_builtin; refine wpList_append_sep eltInt rfl _ _ rfl (w.alloc (.cells #[.slice none 0 0] 112)).heap.size [] HS0.out rfl HN0.out rfl (by omega) (Nat.le_refl _) ?_)
  intro va vc w1 hs1 hb1' hg1
  have hb1 : Below (w.heap.size + 1) (w.alloc (.cells #[.slice none 0 0] 112)) w1 := by first | exact hb1' | (rw [← z0]; exact hb1')
  have ho1 : w1.ownsRow (w.heap.size + 1) 3 1 (.slice va s.length vc) s.length (ints (nats s)) := by have := one_sep (l2 := []) (by simpa using hs1); first | exact this | (rw [← z0]; exact this)
  have x1 : w1.cell? ⟨w.heap.size, 0, none⟩ = some (.slice none 0 0) := by rw [hb1.cell (p := ⟨w.heap.size, 0, none⟩) (by show w.heap.size < _; omega)]; exact x0
  have f1 : w1.frozen? ⟨w.heap.size, 0, none⟩ = false := by rw [hb1.frozen (p := ⟨w.heap.size, 0, none⟩) (by show w.heap.size < _; omega)]; exact f0
  have HB1 := hid (b0.trans (hb1.mono (by omega)))
  have z1 : w.heap.size + 1 ≤ w1.heap.size := by have := hb1.size; omega
  have HSO := hid (sort_own (w.heap.size + 1) (.slice va s.length vc) (nats s) w1 (by rw [nats_length]; exact hl) (by rw [nats_length]; exact ho1))
  have HGE : Hid (∀ j, (Value.slice va s.length vc).ownBlock = some j → w.heap.size + 1 ≤ j) := fun j hj => (ho1.lt j hj).1
  clear hs1 hb1 hb1' hg1 ho1 x0 f0 b0 HS0 HN0
  go_wp2_with fail
  refine HSO.out.mono ?_
  rintro e w2 ⟨rfl, ho2, hg2⟩
  have hbw : Below (w.heap.size + 1) w1 w2 := (Below.refl _ w1).grown hg2 z1 (fun j hj => HGE.out j hj)
  have x2 : w2.cell? ⟨w.heap.size, 0, none⟩ = some (.slice none 0 0) := by rw [hbw.cell (p := ⟨w.heap.size, 0, none⟩) (by show w.heap.size < _; omega)]; exact x1
  have f2 : w2.frozen? ⟨w.heap.size, 0, none⟩ = false := by rw [hbw.frozen (p := ⟨w.heap.size, 0, none⟩) (by show w.heap.size < _; omega)]; exact f1
  have z2 : w.heap.size + 1 ≤ w2.heap.size := Nat.le_trans z1 hbw.size
  have HB2 := hid (HB1.out.trans (hbw.mono (by omega)))
  have HCO : Hid (Calls Tryz.prog 124 #[.slice va s.length vc] w2 fun e w' => ∃ va vc', e = .returned (.slice va (setL s).length vc') ∧ w'.ownsRow (w.heap.size + 1) 3 1 (.slice va (setL s).length vc') (setL s).length (ints (nats (setL s))) ∧ Below (w.heap.size + 1) w2 w') := by
    have h1 : w2.ownsRow (w.heap.size + 1) 3 1 (.slice va s.length vc) (sortI (nats s)).length (ints (sortI (nats s))) := by rw [sortI_len]; exact ho2
    refine (compact_own (w.heap.size + 1) (.slice va s.length vc) (sortI (nats s)) w2 (by rw [sortI_len, nats_length]; exact hl) h1).mono ?_
    rintro e w' ⟨va', vc', rfl, h2, h3⟩
    rw [set_eq, nats_length] at h2 ⊢
    exact ⟨va', vc', rfl, h2, (Below.refl _ w2).grown h3 z2 (fun j hj => HGE.out j hj)⟩
  clear ho2 hg2 hbw x1 f1 HSO
  go_wp2_with fail
  refine HCO.out.mono ?_
  rintro e w3 ⟨va3, vc3, rfl, ho3, hb3⟩
  have x3 : w3.cell? ⟨w.heap.size, 0, none⟩ = some (.slice none 0 0) := by rw [hb3.cell (p := ⟨w.heap.size, 0, none⟩) (by show w.heap.size < _; omega)]; exact x2
  have f3 : w3.frozen? ⟨w.heap.size, 0, none⟩ = false := by rw [hb3.frozen (p := ⟨w.heap.size, 0, none⟩) (by show w.heap.size < _; omega)]; exact f2
  have H3 := hid (And.intro ho3 (HB2.out.trans (hb3.mono (by omega))))
  clear ho3 hb3 x2 f2 HCO
  go_wp2
  refine bodyPost_ret (v := .agg #[.slice va3 (setL s).length vc3]) (by simp [results, Tryz.results87, go_sem, *]) rfl ⟨va3, vc3, rfl, ?_, ?_⟩
  · exact owns_mono (ownsRow_setCell_below H3.out.1 (by show w.heap.size < w.heap.size + 1; omega) _) (by omega)
  · exact H3.out.2.setCell (Nat.le_refl _) _
set_option maxHeartbeats 1000000 in
/-- the program's list of a set -/
theorem list_any (a : Option Addr) (c : Nat) (s : List Nat) (w : World) (hl : s.length ≤ 1000) (h : Row w a (nats s)) :
    Calls Tryz.prog 88 #[.agg #[.slice a s.length c]] w fun e w' => ∃ va vc, e = .returned (.slice va s.length vc) ∧ w'.ownsRow w.heap.size 3 1 (.slice va s.length vc) s.length (ints (nats s)) ∧ Below w.heap.size w w' := by
  have b0 := below1 w (.cells #[.slice a s.length c] 112)
  have z0 : (w.alloc (.cells #[.slice a s.length c] 112)).heap.size = w.heap.size + 1 := by simp
  have HS0 : Hid (Sep (w.alloc (.cells #[.slice a s.length c] 112)) (w.alloc (.cells #[.slice a s.length c] 112)).heap.size ([] ++ ⟨3, 1, .slice none 0 0, 0, []⟩ :: [])) := sep_one (World.ownsRow_nil _ _ _ _)
  have HN0 := hid (News.ints (h.below b0))
  rw [nats_length] at HN0
  have HB0 := hid b0
  clear h b0
  go_enter Tryz.func88, Tryz.ntmps88
  go_wp2_with (at_builtin; refine wpList_append_sep eltInt rfl _ _ rfl (w.alloc (.cells #[.slice a s.length c] 112)).heap.size [] HS0.out rfl HN0.out rfl (by omega) (Nat.le_refl _) ?_)
  intro va vc w1 hs1 hb1' hg1
  have hb1 : Below (w.heap.size + 1) (w.alloc (.cells #[.slice a s.length c] 112)) w1 := by first | exact hb1' | (rw [← z0]; exact hb1')
  have ho1 : w1.ownsRow (w.heap.size + 1) 3 1 (.slice va s.length vc) s.length (ints (nats s)) := by have := one_sep (l2 := []) (by simpa using hs1); first | exact this | (rw [← z0]; exact this)
  have H1 := hid (And.intro ho1 (HB0.out.trans (hb1.mono (by omega))))
  clear hs1 hb1 hb1' hg1 ho1 HS0 HN0
  go_wp2
  go_ret
  exact ⟨va, vc, rfl, owns_mono H1.out.1 (by omega), H1.out.2⟩
end
end Go.Proofs.YteihecnmnajahaaGreatDoor
