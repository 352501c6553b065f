/- Whether the ways between parts are good: the program. -/
import Derived.Test.YteihecnmnajahaaGreatDoorIshape9
import Derived.Test.YteihecnmnajahaaGreatDoorK9
import Derived.Test.YteihecnmnajahaaGreatDoorK4
import Derived.Test.YteihecnmnajahaaGreatDoorVisit7
import Derived.Test.YteihecnmnajahaaGreatDoorDoms8
namespace Go.Proofs.YteihecnmnajahaaGreatDoor
open Go.RowKit
set_option linter.unusedVariables false
set_option linter.unusedSimpArgs false
set_option maxRecDepth 100000

/-- each part's ways lead to parts -/
def NextOk (xs : List Prt) : Prop := ∀ p ∈ xs, p.next.length ≤ 6 ∧ ∀ x ∈ p.next, 0 ≤ x ∧ x < (xs.length : Int)
theorem NextOk.gr {xs : List Prt} (h : NextOk xs) (h1 : 1 ≤ xs.length) (h2 : xs.length ≤ 11) : Gr (shapeL xs) := gr_shape h1 h2 (fun p hp => (h p hp).2)
theorem shapeRow_any (xs : List Prt) (a : Option Addr) (c : Nat) (w : World) (hp2 : xs.length ≤ 11) (hpn : NextOk xs) (h : CRow w a xs) :
    Calls Tryz.prog 53 #[.slice a xs.length c] w fun e w' => ∃ sa sc, e = .returned (.agg #[.slice sa (shapeL xs).length sc]) ∧ GRow w' sa (shapeL xs) ∧ Below w.heap.size w w' :=
  (shapeIn_any xs a c w hp2 hpn h).mono fun e w' ⟨v, ys, he, ho, hy, hb⟩ => by
    obtain ⟨sa, sc, hv, hr⟩ := ho.row
    rw [hy] at hr hv
    subst hv
    rw [graphP_len, ← shapeL_len] at he
    exact ⟨sa, sc, he, hr, hb⟩
theorem OwnS.row9 {w : World} {B : Nat} {v : Value} {ys : List LV} (h : OwnS w B v ys) : ∃ a cap, v = .slice a (lists ys).length cap ∧ LRow w a (lists ys) := by
  have ho : w.ownsRow B 112 1 v ys.length (vals ys) := h.1 ⟨112, 1, v, ys.length, vals ys⟩ (by simp)
  rcases ho.2 with ⟨rfl, h0⟩ | ⟨g, cap, cur, rfl, hB, hg, hn, hm, hsz, htk⟩
  · obtain rfl : ys = [] := List.eq_nil_of_length_eq_zero h0
    exact ⟨none, 0, rfl, .inl rfl⟩
  · refine ⟨_, cap, by rw [lists_length], .inr ⟨g, 0, rfl, fun k t ht => ?_⟩⟩
    obtain ⟨y, hy, rfl⟩ : ∃ y, ys[k]? = some y ∧ y.r = t := by simp [lists] at ht; exact ht
    have i1 : w.ownsRow B 3 1 y.v y.r.length (ints y.r) := h.1 (rowL y) (List.mem_cons_of_mem _ (List.mem_map.2 ⟨y, List.mem_of_getElem? hy, rfl⟩))
    obtain ⟨ta, tc, e1, r1⟩ := Row.of_owned i1
    refine ⟨ta, tc, own_len i1, ?_, r1⟩
    rw [Nat.zero_add, rowT_at ho rfl (show (vals ys)[k]? = some y.v by simp [vals, hy]), e1]
theorem domsRow_any {g : List (List Nat)} (G : Gr g) (a : Option Addr) (c : Nat) (w : World) (h : GRow w a g) :
    Calls Tryz.prog 82 #[.agg #[.slice a g.length c]] w fun e w' => ∃ va vc P, e = .returned (.slice va g.length vc) ∧ LRow w' va (natsL P) ∧ IsDoms g P ∧ Below w.heap.size w w' :=
  (doms_any G a c w h).mono fun e w' ⟨va, vc, ys, P, he, ho, hy, hd, hb⟩ => by
    obtain ⟨sa, sc, hv, hr⟩ := OwnS.row9 ho
    rw [hy] at hr hv
    injection hv with e1 e2 e3
    subst e1
    exact ⟨va, vc, P, he, hr, hd, hb⟩
def shapeB (xs : List Prt) : Bool := !backB xs && decide ((order7 (shapeL xs)).length = xs.length)
set_option maxHeartbeats 2000000 in
theorem goodShape_any (xs : List Prt) (a : Option Addr) (c : Nat) (w : World) (h1 : 1 ≤ xs.length) (h2 : xs.length ≤ 11) (hN : NextOk xs) (h : CRow w a xs) :
    Calls Tryz.prog 47 #[.slice a xs.length c] w fun e w' => e = .returned (.bool (shapeB xs)) ∧ Below w.heap.size w w' := by
  have HC := hid (containsP_any a c xs w (by omega) h)
  have HS := hid (fun (W : World) (hb : Below w.heap.size w W) => shapeRow_any xs a c W h2 hN (h.below hb))
  have HO := hid (fun (W : World) sa sc (hr : GRow W sa (shapeL xs)) => iOrder_any (hN.gr h1 h2) sa sc W hr)
  obtain ⟨R, hR⟩ : ∃ R, shapeB xs = R := ⟨_, rfl⟩
  obtain ⟨n, hn⟩ : ∃ n, (order7 (shapeL xs)).length = n := ⟨_, rfl⟩
  obtain ⟨g, hg⟩ : ∃ g, backB xs = g := ⟨_, rfl⟩
  have HR : Hid (R = (!g && decide (n = xs.length))) := by show _ = _; rw [← hR, ← hg, ← hn]; rfl
  rw [hR]
  rw [hg] at HC
  have hn12 : n ≤ 12 := by rw [← hn]; exact (dfs_len (hN.gr h1 h2)).1
  have HO2 : Hid (∀ (W : World) sa sc, GRow W sa (shapeL xs) → Calls Tryz.prog 79 #[.agg #[.slice sa (shapeL xs).length sc]] W fun e w' => ∃ va vc, e = .returned (.slice va n vc) ∧ Below W.heap.size W w') := fun W sa sc hr => (HO.out W sa sc hr).mono fun e w' ⟨va, vc, he, _, hb⟩ => ⟨va, vc, by rw [he, hn], hb⟩
  clear hR hn hg h HO hN
  go_enter Tryz.func47, Tryz.ntmps47
  go_wp2_with fail
  refine HC.out.mono ?_
  rintro e w1 ⟨rfl, hb1⟩
  have HB1 := hid hb1
  clear hb1
  cases g with
  | true =>
    have HR2 : Hid (R = false) := HR.out
    go_wp2
    go_ret
    exact ⟨by rw [HR2.out] <;> rfl, HB1.out⟩
  | false =>
    by_cases hnx : n = xs.length
    · have HR2 : Hid (R = true) := by show _ = _; rw [HR.out, decide_eq_true hnx]; rfl
      subst hnx
      go_wp2_with (first | (go_at_call 53; refine (HS.out _ HB1.out).mono ?_; rintro e w2 ⟨sa, sc, rfl, hr2, hb2⟩) | (go_at_call 79; refine (HO2.out _ _ _ hr2).mono ?_; rintro e w3 ⟨va, vc, rfl, hb3⟩))
      have HB3 := hid (bstep' (bstep' HB1.out hb2) hb3)
      clear hb2 hb3 hr2
      go_ret
      exact ⟨by rw [HR2.out] <;> rfl, HB3.out⟩
    · have HR2 : Hid (R = false) := by show _ = _; rw [HR.out, decide_eq_false hnx]; rfl
      have hbq : ((n : Int) == (xs.length : Int)) = false := by simp <;> omega
      go_wp2_with (first | (go_at_call 53; refine (HS.out _ HB1.out).mono ?_; rintro e w2 ⟨sa, sc, rfl, hr2, hb2⟩) | (go_at_call 79; refine (HO2.out _ _ _ hr2).mono ?_; rintro e w3 ⟨va, vc, rfl, hb3⟩))
      have HB3 := hid (bstep' (bstep' HB1.out hb2) hb3)
      clear hb2 hb3 hr2
      go_ret
      exact ⟨by rw [HR2.out] <;> rfl, HB3.out⟩
end Go.Proofs.YteihecnmnajahaaGreatDoor
