/- What DropCustom of the program and of the model answer, at every list of sections. -/
import Derived.Test.YtjbmkkoggocemaaSect3
namespace Go.Proofs.Ytjbmkkoggocemaa
open Go.RowKit
set_option linter.unusedVariables false
set_option linter.unusedSimpArgs false

/-- the sections that are not custom -/
def dropC (xs : List Sec) : List Sec := xs.filter fun x => x.1 != 0
theorem dropC_len (xs : List Sec) : (dropC xs).length ≤ xs.length := List.length_filter_le _ _
theorem dropC_zero {xs : List Sec} {k : Nat} {s : ByteArray} (h : xs[k]? = some (0, s)) : dropC (xs.take (k + 1)) = dropC (xs.take k) := by
  rw [List.take_add_one, h]; simp [dropC]
theorem dropC_next {xs : List Sec} {k : Nat} {i : Int} {s : ByteArray} (h : xs[k]? = some (i, s)) (hi : i ≠ 0) : dropC (xs.take (k + 1)) = dropC (xs.take k) ++ [(i, s)] := by
  rw [List.take_add_one, h]; simp [dropC, hi]
def dropP (xs : List Sec) : List Sec := if goodB xs then dropC xs else []

set_option maxHeartbeats 2000000 in
set_option maxRecDepth 100000 in
/-- the program's DropCustom -/
theorem iDrop_any (a : Option Addr) (c : Nat) (xs : List Sec) (w : World) (hl : xs.length ≤ 9223372036854775807) (h : SRow w a xs) :
    Calls Try.prog 13 #[.slice a xs.length c] w fun e w' => ∃ v, e = .returned (.tuple #[v, .bool (goodB xs)]) ∧ w'.ownsRow w.heap.size 31 2 v (dropP xs).length (flat (dropP xs)) ∧ Below w.heap.size w w' := by
  obtain ⟨i0, hi, hz0, hz1, hz2⟩ := info_parts info31
  have hgd := fun w h => iGood_any a c xs w hl h
  cases hg : goodB xs with
  | false =>
    rw [hg] at hgd
    have hv : dropP xs = [] := by unfold dropP; rw [hg]; rfl
    rw [hv]
    go_enter Try.func13, Try.ntmps13
    go_wp2_with (go_at_call 26; refine (hgd _ h).mono ?_; rintro e w1 ⟨rfl, hb1⟩)
    go_ret2
    exact ⟨_, rfl, World.ownsRow_nil _ _ _ _, hb1⟩
  | true =>
    rw [hg] at hgd
    have hv : dropP xs = dropC xs := by unfold dropP; rw [hg]; rfl
    rw [hv]
    have hl8 : xs.length ≤ 8 := by unfold goodB at hg; simp at hg; exact hg.1
    have HGD : Hid (∀ w, SRow w a xs → Calls Try.prog 26 #[.slice a xs.length c] w fun e w' => e = .returned (.bool true) ∧ Below w.heap.size w w') := hgd
    clear hgd hv hg
    by_cases hx : xs = []
    · subst hx
      go_enter Try.func13, Try.ntmps13
      go_wp2_with (go_at_call 26; refine (HGD.out _ h).mono ?_; rintro e w1 ⟨rfl, hb1⟩)
      go_loopw [4, 12] (fun t4 t wr => t4 = .slice none 0 0 ∧ t = .int .i64 0 ∧ wr = w1) (fun _ t _ => 0)
      case atStart => exact ⟨rfl, rfl, rfl⟩
      case round =>
        obtain ⟨rfl, rfl, rfl⟩ := hrel
        go_wp2
        go_ret2
        exact ⟨_, rfl, World.ownsRow_nil _ _ _ _, hb1⟩
    · obtain ⟨b, off, rfl, hat⟩ := h.at hx
      have HA : Hid (_) := hat
      clear hat hx
      go_enter Try.func13, Try.ntmps13
      go_wp2_with (go_at_call 26; refine (HGD.out _ h).mono ?_; rintro e w1 ⟨rfl, hb1⟩)
      go_loopw [4, 12] (fun t4 t wr => ∃ (k : Nat) (v : Value) (ys : List Sec), t4 = v ∧ t = .int .i64 k ∧ k ≤ xs.length ∧ ys = dropC (xs.take k) ∧ ys.length ≤ k ∧ wr.ownsRow w.heap.size 31 2 v ys.length (flat ys) ∧ Below w.heap.size w wr) (fun _ t _ => xs.length - (intOf t).toNat)
      case atStart => exact ⟨0, _, [], rfl, rfl, by omega, by simp [dropC], by simp, World.ownsRow_nil _ _ _ _, hb1⟩
      case round =>
        obtain ⟨k, v, ys, rfl, rfl, hk, hys, hyl, hown, hB⟩ := hrel
        have HY : Hid (ys = dropC (xs.take k)) := hys
        clear hys hb1
        by_cases hlt : k < xs.length
        · obtain ⟨i, s, c1, c2, hs, hbw, HX⟩ := HA.out wr hB k hlt
          have hbr : b < wr.heap.size := Nat.lt_of_lt_of_le hbw hB.size
          have hBa : Below w.heap.size w (wr.alloc (.cells #[.int .i64 i, .string s] 31)) := hB.alloc hB.size _
          by_cases h0 : i = 0
          · subst h0
            have HN : Hid (dropC (xs.take (k + 1)) = ys) := by show _ = _; rw [dropC_zero HX.out, HY.out]
            go_wp2
            go_roundw
            case rel => exact ⟨k + 1, _, ys, rfl, by go_num, by omega, HN.out.symm, by omega, hown.alloc _, hBa⟩
            case measure => simp [intOf]; omega
          · have HN : Hid (dropC (xs.take (k + 1)) = ys ++ [(i, s)]) := by show _ = _; rw [dropC_next HX.out h0, HY.out]
            go_wp2_with (first
              | (at_builtin; refine wpList_append_own _ rfl _ _ 23 rfl w.heap.size 31 i0 (.agg #[.int .i64 0, .string ⟨#[]⟩]) 2 24 Try.underlying23 hi hz0 hz1 hz2 rfl (by decide) _ _ _ rfl ((hown.alloc _).alloc _) ⟨wr.heap.size + 1, 0, none⟩ 1 1 [.int .i64 i, .string s] rfl rfl ?c1 ?c2 ?c3 ?c4 ?c5 ?_)
              | go_in)
            case c1 =>
              intro j u hj
              match j, hj with
              | 0, hj => simp at hj; subst hj; simp [Addr.add]
              | 1, hj => simp at hj; subst hj; simp [Addr.add]
            case c2 => intro u hu; simp at hu; rcases hu with rfl | rfl <;> rfl
            case c3 => unfold maxLen; omega
            case c4 => omega
            case c5 => have := hB.size; simp; omega
            intro v' w2 hown' hgrow _
            have hB2 : Below w.heap.size w w2 := (hBa.alloc hBa.size _).grown hgrow (by have := hB.size; simp; omega) (fun k hk => (hown.lt k hk).1)
            go_wp2
            go_roundw
            case rel =>
              refine ⟨k + 1, v', ys ++ [(i, s)], rfl, by go_num, by omega, HN.out.symm, by simp; omega, ?_, hB2⟩
              rw [flat_append, List.length_append]
              exact hown'
            case measure => simp [intOf]; omega
        · obtain rfl : k = xs.length := by omega
          go_wp2
          go_ret2
          refine ⟨_, rfl, ?_, hB⟩
          have h1 := HY.out
          rw [List.take_of_length_le (Nat.le_refl _)] at h1
          rw [← h1]
          exact hown

set_option maxHeartbeats 2000000 in
set_option maxRecDepth 100000 in
/-- the model's DropCustom -/
theorem sDrop_any (a : Option Addr) (c : Nat) (xs : List Sec) (w : World) (hl : xs.length ≤ 9223372036854775807) (h : SRow w a xs) :
    Calls Try.prog 14 #[.slice a xs.length c] w fun e w' => ∃ v, e = .returned (.tuple #[v, .bool (goodB xs)]) ∧ w'.ownsRow w.heap.size 31 2 v (dropP xs).length (flat (dropP xs)) ∧ Below w.heap.size w w' := by
  obtain ⟨i0, hi, hz0, hz1, hz2⟩ := info_parts info31
  have hgd := fun w h => sGood_any a c xs w hl h
  cases hg : goodB xs with
  | false =>
    rw [hg] at hgd
    have hv : dropP xs = [] := by unfold dropP; rw [hg]; rfl
    rw [hv]
    go_enter Try.func14, Try.ntmps14
    go_wp2_with (go_at_call 24; refine (hgd _ h).mono ?_; rintro e w1 ⟨rfl, hb1⟩)
    go_ret2
    exact ⟨_, rfl, World.ownsRow_nil _ _ _ _, hb1⟩
  | true =>
    rw [hg] at hgd
    have hv : dropP xs = dropC xs := by unfold dropP; rw [hg]; rfl
    rw [hv]
    have hl8 : xs.length ≤ 8 := by unfold goodB at hg; simp at hg; exact hg.1
    have HGD : Hid (∀ w, SRow w a xs → Calls Try.prog 24 #[.slice a xs.length c] w fun e w' => e = .returned (.bool true) ∧ Below w.heap.size w w') := hgd
    clear hgd hv hg
    by_cases hx : xs = []
    · subst hx
      go_enter Try.func14, Try.ntmps14
      go_wp2_with (go_at_call 24; refine (HGD.out _ h).mono ?_; rintro e w1 ⟨rfl, hb1⟩)
      go_loopw [4, 12] (fun t4 t wr => t4 = .slice none 0 0 ∧ t = .int .i64 0 ∧ wr = w1) (fun _ t _ => 0)
      case atStart => exact ⟨rfl, rfl, rfl⟩
      case round =>
        obtain ⟨rfl, rfl, rfl⟩ := hrel
        go_wp2
        go_ret2
        exact ⟨_, rfl, World.ownsRow_nil _ _ _ _, hb1⟩
    · obtain ⟨b, off, rfl, hat⟩ := h.at hx
      have HA : Hid (_) := hat
      clear hat hx
      go_enter Try.func14, Try.ntmps14
      go_wp2_with (go_at_call 24; refine (HGD.out _ h).mono ?_; rintro e w1 ⟨rfl, hb1⟩)
      go_loopw [4, 12] (fun t4 t wr => ∃ (k : Nat) (v : Value) (ys : List Sec), t4 = v ∧ t = .int .i64 k ∧ k ≤ xs.length ∧ ys = dropC (xs.take k) ∧ ys.length ≤ k ∧ wr.ownsRow w.heap.size 31 2 v ys.length (flat ys) ∧ Below w.heap.size w wr) (fun _ t _ => xs.length - (intOf t).toNat)
      case atStart => exact ⟨0, _, [], rfl, rfl, by omega, by simp [dropC], by simp, World.ownsRow_nil _ _ _ _, hb1⟩
      case round =>
        obtain ⟨k, v, ys, rfl, rfl, hk, hys, hyl, hown, hB⟩ := hrel
        have HY : Hid (ys = dropC (xs.take k)) := hys
        clear hys hb1
        by_cases hlt : k < xs.length
        · obtain ⟨i, s, c1, c2, hs, hbw, HX⟩ := HA.out wr hB k hlt
          have hbr : b < wr.heap.size := Nat.lt_of_lt_of_le hbw hB.size
          have hBa : Below w.heap.size w (wr.alloc (.cells #[.int .i64 i, .string s] 31)) := hB.alloc hB.size _
          by_cases h0 : i = 0
          · subst h0
            have HN : Hid (dropC (xs.take (k + 1)) = ys) := by show _ = _; rw [dropC_zero HX.out, HY.out]
            go_wp2
            go_roundw
            case rel => exact ⟨k + 1, _, ys, rfl, by go_num, by omega, HN.out.symm, by omega, hown.alloc _, hBa⟩
            case measure => simp [intOf]; omega
          · have HN : Hid (dropC (xs.take (k + 1)) = ys ++ [(i, s)]) := by show _ = _; rw [dropC_next HX.out h0, HY.out]
            go_wp2_with (first
              | (at_builtin; refine wpList_append_own _ rfl _ _ 23 rfl w.heap.size 31 i0 (.agg #[.int .i64 0, .string ⟨#[]⟩]) 2 24 Try.underlying23 hi hz0 hz1 hz2 rfl (by decide) _ _ _ rfl ((hown.alloc _).alloc _) ⟨wr.heap.size + 1, 0, none⟩ 1 1 [.int .i64 i, .string s] rfl rfl ?c1 ?c2 ?c3 ?c4 ?c5 ?_)
              | go_in)
            case c1 =>
              intro j u hj
              match j, hj with
              | 0, hj => simp at hj; subst hj; simp [Addr.add]
              | 1, hj => simp at hj; subst hj; simp [Addr.add]
            case c2 => intro u hu; simp at hu; rcases hu with rfl | rfl <;> rfl
            case c3 => unfold maxLen; omega
            case c4 => omega
            case c5 => have := hB.size; simp; omega
            intro v' w2 hown' hgrow _
            have hB2 : Below w.heap.size w w2 := (hBa.alloc hBa.size _).grown hgrow (by have := hB.size; simp; omega) (fun k hk => (hown.lt k hk).1)
            go_wp2
            go_roundw
            case rel =>
              refine ⟨k + 1, v', ys ++ [(i, s)], rfl, by go_num, by omega, HN.out.symm, by simp; omega, ?_, hB2⟩
              rw [flat_append, List.length_append]
              exact hown'
            case measure => simp [intOf]; omega
        · obtain rfl : k = xs.length := by omega
          go_wp2
          go_ret2
          refine ⟨_, rfl, ?_, hB⟩
          have h1 := HY.out
          rw [List.take_of_length_le (Nat.le_refl _)] at h1
          rw [← h1]
          exact hown
end Go.Proofs.Ytjbmkkoggocemaa
