/- What MostHigh of the program and of the model answers, at every code. -/
import Derived.Test.YtnhdhpibdimkbaaDoorReach
namespace Go.Proofs.YtnhdhpibdimkbaaDoor
open Go.RowKit
set_option linter.unusedVariables false
set_option linter.unusedSimpArgs false
set_option maxRecDepth 100000

def mx (a b : Int) : Int := if a < b then b else a
def maxL (m : Int) (l : List Int) : Int := l.foldl mx m
theorem maxL_snoc (m : Int) (l : List Int) (z : Int) : maxL m (l ++ [z]) = mx (maxL m l) z := by simp [maxL]
theorem walkV_first {r : List Stp} {o : List Frm} {h : Int} {d : Bool} {hs hs' : List Int} {rs rs' : List Bool} (he : walkV r o h d hs rs = .fine hs' rs') : ∃ t, hs' = hs ++ h :: t := by
  induction r generalizing o h d hs rs with
  | nil =>
    simp only [walkV] at he
    split at he
    · cases he; exact ⟨[], rfl⟩
    · cases he
  | cons x r ih =>
    cases hv : vstp x.1 o h d with
    | bad c => rw [walkV_bad hv] at he; cases he
    | go o' h' d' =>
      rw [walkV_go hv] at he
      obtain ⟨t, ht⟩ := ih he
      exact ⟨h' :: t, by rw [ht]; simp⟩
theorem validR_first {xs : List Stp} {hs : List Int} {rs : List Bool} (h : validR xs = .fine hs rs) : ∃ t, hs = 0 :: t := by
  have hg := (validR_length h).2.2.2
  rw [validR_good hg] at h
  simpa using walkV_first h
def mostR : WR → Int
  | .bad _ _ => 0
  | .fine hs _ => maxL 0 hs

/-- Go's own slices.Max of a list that begins with a number -/
theorem max_any (a : Option Addr) (c : Nat) (x : Int) (r : List Int) (w : World) (hl : r.length ≤ 1000) (h : Row w a (x :: r)) :
    Calls Tryd.prog 97 #[.slice a (x :: r).length c] w fun e w' => e = .returned (.int .i64 (maxL x r)) ∧ w' = w := by
  rcases h with h | ⟨b, off, rfl, hc⟩
  · cases h
  · have h0 : w.cell? ⟨b, off, none⟩ = some (.int .i64 x) := by simpa using hc 0 (by simp)
    have HC : Hid (∀ i, i < r.length → w.cell? ⟨b, off + (i + 1), none⟩ = some (.int .i64 (r[i]?.getD 0))) := fun i hi => by simpa using hc (i + 1) (by simp; omega)
    clear hc
    obtain ⟨L, hL⟩ : ∃ L, (x :: r).length = L := ⟨_, rfl⟩
    have HL : Hid (r.length + 1 = L) := by show _ = _; rw [← hL]; simp
    rw [hL]
    have h1 : ¬ (L : Int) < 1 := by have := HL.out; omega
    clear hL
    go_enter Tryd.func97, Tryd.ntmps97
    go_wp2
    go_loop [3, 4] (fun t3 t4 => ∃ (j : Nat), t3 = .int .i64 (maxL x (r.take j)) ∧ t4 = .int .i64 ((j + 1 : Nat) : Int) ∧ j ≤ r.length) (fun _ t4 => L - (intOf t4).toNat)
    case atStart => exact ⟨0, by simp [maxL], rfl, by omega⟩
    case round =>
      obtain ⟨j, rfl, rfl, hj⟩ := hrel
      by_cases hlt : j < r.length
      · have c1 := HC.out j hlt
        have HTK : Hid (maxL x (r.take (j + 1)) = mx (maxL x (r.take j)) (r[j]?.getD 0)) := by
          show _ = _
          rw [← maxL_snoc, List.take_add_one]
          congr 2
          rw [List.getElem?_eq_getElem hlt]; rfl
        generalize r[j]?.getD 0 = z at c1 HTK
        generalize maxL x (r.take j) = m at HTK ⊢
        have hjl : ((j + 1 : Nat) : Int) < L := by have := HL.out; omega
        have hjl' : j + 1 < L := by have := HL.out; omega
        have HLR : Hid (r.length + 1 = L ∧ j < r.length) := ⟨HL.out, hlt⟩
        by_cases hm : m < z
        · have HN : Hid (maxL x (r.take (j + 1)) = z) := by show _ = _; rw [HTK.out, mx, if_pos hm]
          clear HTK
          go_wp2
          go_round
          case rel => exact ⟨j + 1, by rw [HN.out], by go_num, by omega⟩
          case measure => simp [intOf]; omega
        · have HN : Hid (maxL x (r.take (j + 1)) = m) := by show _ = _; rw [HTK.out, mx, if_neg hm]
          clear HTK
          go_wp2
          go_round
          case rel => exact ⟨j + 1, by rw [HN.out], by go_num, by omega⟩
          case measure => simp [intOf]; omega
      · obtain rfl : j = r.length := by omega
        have hjl : ¬ ((r.length + 1 : Nat) : Int) < L := by have := HL.out; omega
        rw [List.take_of_length_le (Nat.le_refl _)]
        go_wp2
        go_ret
        exact ⟨rfl, rfl⟩

/-- the program's MostHigh -/
theorem iMost_any (a : Option Addr) (c : Nat) (xs : List Stp) (S : Nat → Addr) (w : World) (hl : xs.length ≤ 1048576) (h : TRow w a xs) (hT : Tab w) (hE : Errs w S) :
    Calls Tryd.prog 37 #[.slice a xs.length c] w fun e w' => e = .returned (.tuple #[.int .i64 (mostR (validR xs)), .bool (fineR (validR xs))]) ∧ Below w.heap.size w w' := by
  have hw := walk_all a c xs S w hl h hT hE
  clear h hT hE
  cases hr : validR xs with
  | bad k p =>
    rw [hr] at hw
    have HW : Hid (Calls Tryd.prog 92 #[.slice a xs.length c] w fun e w' => (e = .returned (.tuple #[noWalk, faultV S k p]) ∧ 1 ≤ k ∧ k ≤ 4) ∧ Below w.heap.size w w') := hw
    clear hw hr
    simp only [mostR, fineR]
    go_enter Tryd.func37, Tryd.ntmps37
    go_wp2_with fail
    refine HW.out.mono ?_
    rintro e w1 ⟨⟨rfl, k1, k4⟩, hb1⟩
    go_wp2
    go_ret2
    exact ⟨rfl, bstep' hb1 (below1 w1 _)⟩
  | fine hs rs =>
    rw [hr] at hw
    obtain ⟨t, ht⟩ := validR_first hr
    have hlen := validR_length hr
    have HW : Hid (Calls Tryd.prog 92 #[.slice a xs.length c] w fun e w' => walkAns w.heap.size w' S e (.fine hs rs) ∧ Below w.heap.size w w') := hw
    have HTL : Hid (t.length ≤ 60) := by show _ ≤ _; rw [ht] at hlen; simp at hlen; omega
    clear hw hr hlen
    subst ht
    have HM : Hid (maxL 0 (0 :: t) = maxL 0 t) := rfl
    simp only [mostR, fineR]
    go_enter Tryd.func37, Tryd.ntmps37
    go_wp2_with fail
    refine HW.out.mono ?_
    rintro e w1 ⟨⟨ov, h, d, hv, rv, rfl, o1, o2, hap, oa, on, oc, rfl⟩, hb1⟩
    obtain ⟨ha, hc, rfl⟩ := slice_of_owned o1
    obtain ⟨ra, rc, rfl⟩ := slice_of_owned o2
    have HMX : Hid (∀ W, Below w1.heap.size w1 W → Calls Tryd.prog 97 #[.slice ha (0 :: t).length hc] W fun e w' => e = .returned (.int .i64 (maxL 0 t)) ∧ w' = W) := fun W hb => max_any ha hc 0 t W (by have := HTL.out; omega) ((own_row o1).below hb)
    have HB : Hid (Below w.heap.size w w1) := hb1
    clear o1 o2 hap hb1
    go_wp2_with (go_at_call 97; refine (HMX.out _ (below1 w1 _)).mono ?_; rintro e w' ⟨rfl, hw'⟩; subst w')
    go_ret2
    exact ⟨by rw [HM.out]; rfl, bstep' HB.out (below1 w1 _)⟩

set_option maxHeartbeats 2000000 in
/-- the model's MostHigh -/
theorem sMost_any (a : Option Addr) (c : Nat) (xs : List Stp) (w : World) (hl : xs.length ≤ 1048576) (h : TRow w a xs) :
    Calls Tryd.prog 38 #[.slice a xs.length c] w fun e w' => e = .returned (.tuple #[.int .i64 (mostR (validR xs)), .bool (fineR (validR xs))]) ∧ Below w.heap.size w w' := by
  have hw := l4Valid_any a c xs w hl h
  clear h
  cases hr : validR xs with
  | bad k p =>
    rw [hr] at hw
    have HW : Hid (Calls Tryd.prog 96 #[.slice a xs.length c] w fun e w' => l4vAns w.heap.size w' e (.bad k p) ∧ Below w.heap.size w w') := hw
    clear hw hr
    simp only [mostR, fineR]
    go_enter Tryd.func38, Tryd.ntmps38
    go_wp2_with fail
    refine HW.out.mono ?_
    rintro e w1 ⟨⟨ha, hn, hc, da, dn, dc, k, p, rfl⟩, hb1⟩
    go_wp2
    go_ret2
    exact ⟨rfl, bstep' hb1 (below1 w1 _)⟩
  | fine hs rs =>
    rw [hr] at hw
    have hlen := validR_length hr
    have HW : Hid (Calls Tryd.prog 96 #[.slice a xs.length c] w fun e w' => l4vAns w.heap.size w' e (.fine hs rs) ∧ Below w.heap.size w w') := hw
    have h61 : hs.length ≤ 61 := by omega
    have h1 : 1 ≤ hs.length := by omega
    clear hw hr hlen
    simp only [mostR, fineR]
    go_enter Tryd.func38, Tryd.ntmps38
    go_wp2_with fail
    refine HW.out.mono ?_
    rintro e w1 ⟨⟨ha, hc, da, dc, k, p, ds, rfl, hrs, o1, o2, hap⟩, hb1⟩
    have hrow1 := (own_row o1).below (below1 w1 (.cells #[.slice ha hs.length hc, .slice da ds.length dc, .int .i64 k, .int .i64 p] 118))
    have HB : Hid (Below w.heap.size w (w1.alloc (.cells #[.slice ha hs.length hc, .slice da ds.length dc, .int .i64 k, .int .i64 p] 118))) := bstep' hb1 (below1 w1 _)
    clear o1 o2 hap hrs hb1
    rcases hrow1 with hx | ⟨b, off, rfl, hcell⟩
    · subst hx; simp at h1
    · have HCL : Hid (_) := hcell
      clear hcell
      go_wp2
      go_loop [6, 19] (fun t6 t19 => ∃ (j : Nat), t6 = .int .i64 (maxL 0 (hs.take j)) ∧ t19 = .int .i64 j ∧ j ≤ hs.length) (fun _ t19 => hs.length - (intOf t19).toNat)
      case atStart => exact ⟨0, by simp [maxL], rfl, by omega⟩
      case round =>
        obtain ⟨j, rfl, rfl, hj⟩ := hrel
        by_cases hlt : j < hs.length
        · have c1 := HCL.out j hlt
          have HTK : Hid (maxL 0 (hs.take (j + 1)) = mx (maxL 0 (hs.take j)) (hs[j]?.getD 0)) := by
            show _ = _
            rw [← maxL_snoc, List.take_add_one]
            congr 2
            rw [List.getElem?_eq_getElem hlt]; rfl
          generalize hs[j]?.getD 0 = z at c1 HTK
          generalize maxL 0 (hs.take j) = m at HTK ⊢
          by_cases hm : m < z
          · have HN : Hid (maxL 0 (hs.take (j + 1)) = z) := by show _ = _; rw [HTK.out, mx, if_pos hm]
            clear HTK
            go_wp2
            go_round
            case rel => exact ⟨j + 1, by rw [HN.out], by go_num, by omega⟩
            case measure => simp [intOf]; omega
          · have HN : Hid (maxL 0 (hs.take (j + 1)) = m) := by show _ = _; rw [HTK.out, mx, if_neg hm]
            clear HTK
            go_wp2
            go_round
            case rel => exact ⟨j + 1, by rw [HN.out], by go_num, by omega⟩
            case measure => simp [intOf]; omega
        · obtain rfl : j = hs.length := by omega
          rw [List.take_of_length_le (Nat.le_refl _)]
          go_wp2
          go_ret2
          exact ⟨rfl, HB.out⟩
end Go.Proofs.YtnhdhpibdimkbaaDoor
