/- What PutVec of the program and of the model answers, at every list, and that the law on it is true. -/
import Derived.Test.YtgfoepioldhnhaaRowy
import Derived.Test.YtgfoepioldhnhaaTakeVecLaw
import Derived.Test.YtgfoepioldhnhaaPut
namespace Go.Proofs.Ytgfoepioldhnhaa
open Go.RowKit
set_option linter.unusedVariables false

def allU (xs : List Int) : Bool := xs.all (inB 0 4294967295)
theorem allU_at {xs : List Int} (h : allU xs = true) (i : Nat) (hi : i < xs.length) : inB 0 4294967295 xs[i] = true := by
  unfold allU at h
  rw [List.all_eq_true] at h
  exact h _ (List.getElem_mem hi)
theorem allU_no {xs : List Int} (i : Nat) (hi : i < xs.length) (h : inB 0 4294967295 xs[i] = false) : allU xs = false := by
  cases ha : allU xs with
  | false => rfl
  | true => rw [allU_at ha i hi] at h; cases h
/-- the bytes of the first numbers of a list -/
def bytesTo (xs : List Int) (j : Nat) : List UInt8 := encU 4 xs.length ++ (xs.take j).flatMap (encU 4)
theorem bytesTo_succ (xs : List Int) (j : Nat) (h : j < xs.length) : bytesTo xs (j + 1) = bytesTo xs j ++ encU 4 xs[j] := by
  unfold bytesTo
  rw [List.take_succ_eq_append_getElem h, List.flatMap_append]
  simp only [List.flatMap_cons, List.flatMap_nil, List.append_nil, List.append_assoc]
theorem bytesTo_length (xs : List Int) (j : Nat) (h : j ≤ xs.length) : (bytesTo xs j).length ≤ 5 + 5 * j := by
  induction j with
  | zero => have := encU_len_le 4 xs.length; simp [bytesTo]; omega
  | succ j ih =>
    rw [bytesTo_succ xs j (by omega)]
    have := encU_len_le 4 xs[j]
    have := ih (by omega)
    simp; omega
/-- the bytes of a list -/
def putV (xs : List Int) : Option (List UInt8) := if allU xs = true ∧ xs.length ≤ 50 then some (bytesTo xs xs.length) else none
def putAns : Option (List UInt8) → Value
  | none => .tuple #[.string ⟨#[]⟩, .bool false]
  | some l => .tuple #[.string ⟨l.toArray⟩, .bool true]

/-- a row's cells abide in a later world -/
theorem cell_later_row {w wr : World} {b off : Nat} {xs : List Int} (hc : ∀ i, i < xs.length → w.cell? ⟨b, off + i, none⟩ = some (.int .i64 (xs[i]?.getD 0))) (hB : Below w.heap.size w wr) (k : Nat) (hk : k < xs.length) :
    wr.cell? ⟨b, off + k, none⟩ = some (.int .i64 xs[k]) := by
  rw [hB.cell (p := ⟨b, off + k, none⟩) (World.block_lt_of_cell? w _ (hc k hk)), hc k hk]
  simp [hk]

/-- the laws' copy of a slice of numbers -/
theorem toIntS_any (a : Option Addr) (c : Nat) (xs : List Int) (w : World) (hl : xs.length ≤ 1048576) (h : Row w a xs) :
    Calls Try.prog 43 #[.slice a xs.length c] w fun e w' => ∃ v, e = .returned v ∧ w'.ownsRow w.heap.size 3 1 v xs.length (ints xs) ∧ Below w.heap.size w w' := by
  obtain ⟨i0, hi, hz0, hz1, hz2⟩ := info_parts info3
  by_cases hx : xs = []
  · subst hx
    clear h
    go_enter Try.func43, Try.ntmps43
    go_wp2_with (at_make; refine wpList_make_full _ rfl _ _ 37 rfl w.heap.size 3 i0 (.int .i64 0) 1 Try.underlying37 hi hz0 hz1 .i64 .i64 _ _ 0 rfl rfl rfl rfl ?c1 ?c2 ?c3 ?_)
    case c1 => omega
    case c2 => unfold maxLen; omega
    case c3 => omega
    intro w1 hown0 hgrow0
    have hB0 : Below w.heap.size w w1 := (Below.refl _ w).grown hgrow0 (Nat.le_refl _) (fun k hk => by cases hk)
    go_wp2
    go_loopw [4] (fun t wr => t = .int .i64 0 ∧ wr = w1) (fun t _ => 0)
    case atStart => exact ⟨rfl, rfl⟩
    case round =>
      obtain ⟨rfl, rfl⟩ := hrel
      go_wp2
      go_ret
      refine ⟨_, rfl, ?_, hB0⟩
      simpa [ints, madeCells] using hown0
  · rcases h with h | ⟨b, off, rfl, hc⟩
    · exact absurd h hx
    have HC : Hid (∀ i, i < xs.length → w.cell? ⟨b, off + i, none⟩ = some (.int .i64 (xs[i]?.getD 0))) := hc
    clear hc hx
    go_enter Try.func43, Try.ntmps43
    go_wp2_with (at_make; refine wpList_make_full _ rfl _ _ 37 rfl w.heap.size 3 i0 (.int .i64 0) 1 Try.underlying37 hi hz0 hz1 .i64 .i64 _ _ xs.length rfl rfl rfl rfl ?c1 ?c2 ?c3 ?_)
    case c1 => rw [hz2]; omega
    case c2 => unfold maxLen; omega
    case c3 => omega
    intro w1 hown0 hgrow0
    rw [made_ints] at hown0
    have hB0 : Below w.heap.size w w1 := (Below.refl _ w).grown hgrow0 (Nat.le_refl _) (fun k hk => by cases hk)
    go_wp2
    go_loopw [4] (fun t wr => ∃ j : Nat, t = .int .i64 j ∧ j ≤ xs.length ∧ wr.ownsRow w.heap.size 3 1 (.slice (some ⟨w.heap.size, 0, none⟩) xs.length xs.length) xs.length (ints (xs.take j ++ (List.replicate xs.length 0).drop j)) ∧ Below w.heap.size w wr) (fun t _ => xs.length - (intOf t).toNat)
    case atStart => exact ⟨0, rfl, by omega, by simpa using hown0, hB0⟩
    case round =>
      obtain ⟨j, rfl, hj, hown, hB⟩ := hrel
      clear hown0 hgrow0 hB0
      by_cases hlt : j < xs.length
      · have hcl := hown.cellAt j (by omega)
        have hfz := hown.frozenAt j
        have htl : (xs.take j).length = j := by simp; omega
        rw [mid_at _ _ _ htl (by simpa using hlt)] at hcl
        have hsrc := cell_later_row HC.out hB j hlt
        have HT : Hid ((xs.take j).length = j) := htl
        clear htl
        go_wp2
        go_roundw
        case rel =>
          have hst := hown.stored j (.int .i64 xs[j])
          rw [mid_set _ _ _ HT.out (by simpa using hlt), ← List.take_succ_eq_append_getElem hlt] at hst
          exact ⟨j + 1, by go_num, by omega, hst.1, hB.setCell (p := ⟨w.heap.size, j, none⟩) (Nat.le_refl _) _⟩
        case measure => simp [intOf]; omega
      · obtain rfl : j = xs.length := by omega
        go_wp2
        go_ret
        refine ⟨_, rfl, ?_, hB⟩
        simpa using hown

/-- the model's bytes of a list whose numbers fit -/
theorem l1PutVec_any (a : Option Addr) (c : Nat) (xs : List Int) (w : World) (hl : xs.length ≤ 50) (hu : allU xs = true) (h : Row w a xs) :
    Calls Try.prog 63 #[.slice a xs.length c] w fun e w' => e = .returned (.string ⟨(bytesTo xs xs.length).toArray⟩) ∧ Below w.heap.size w w' := by
  by_cases hx : xs = []
  · subst hx
    clear h hu hl
    go_enter Try.func63, Try.ntmps63
    go_wp2_with (go_at_call 50; refine (l1PutU_any _ _ (by omega) (by omega)).mono ?_; rintro e w1 ⟨rfl, hb⟩)
    go_loopw [3, 11] (fun t3 t wr => t3 = .string ⟨(bytesTo [] 0).toArray⟩ ∧ t = .int .i64 0 ∧ wr = w1) (fun _ t _ => 0)
    case atStart => exact ⟨by simp [bytesTo], rfl, rfl⟩
    case round =>
      obtain ⟨rfl, rfl, rfl⟩ := hrel
      go_wp2
      go_ret
      exact ⟨rfl, hb⟩
  · rcases h with h | ⟨b, off, rfl, hc⟩
    · exact absurd h hx
    have HC : Hid (∀ i, i < xs.length → w.cell? ⟨b, off + i, none⟩ = some (.int .i64 (xs[i]?.getD 0))) := hc
    have HU : Hid (allU xs = true) := hu
    clear hc hx hu
    go_enter Try.func63, Try.ntmps63
    go_wp2_with (go_at_call 50; refine (l1PutU_any _ _ (by omega) (by omega)).mono ?_; rintro e w1 ⟨rfl, hb⟩)
    go_loopw [3, 11] (fun t3 t wr => ∃ j : Nat, t3 = .string ⟨(bytesTo xs j).toArray⟩ ∧ t = .int .i64 j ∧ j ≤ xs.length ∧ Below w.heap.size w wr) (fun _ t _ => xs.length - (intOf t).toNat)
    case atStart => exact ⟨0, by simp [bytesTo], rfl, by omega, hb⟩
    case round =>
      obtain ⟨j, rfl, rfl, hj, hB⟩ := hrel
      clear hb
      by_cases hlt : j < xs.length
      · obtain ⟨x, bj, bs, hsrc, hin, hbl, hel, HS, HJ⟩ : ∃ (x : Int) (bj bs : List UInt8), wr.cell? ⟨b, off + j, none⟩ = some (.int .i64 x) ∧ (0 ≤ x ∧ x ≤ 4294967295) ∧ bj.length ≤ 300 ∧ (encU 4 x).length ≤ 300 ∧ Hid (bytesTo xs (j + 1) = bj ++ encU 4 x) ∧ bytesTo xs j = bj :=
          ⟨xs[j], bytesTo xs j, [], cell_later_row HC.out hB j hlt, inB_yes (allU_at HU.out j hlt), Nat.le_trans (bytesTo_length xs j hj) (by omega), Nat.le_trans (encU_len_le 4 _) (by omega), bytesTo_succ xs j hlt, rfl⟩
        rw [HJ]
        clear HJ
        go_wp2_with (go_at_call 50; refine (l1PutU_any _ _ hin.1 hin.2).mono ?_; rintro e w2 ⟨rfl, hb2⟩)
        go_roundw
        case rel => exact ⟨j + 1, by rw [HS.out, ByteArray.mk_append_mk], by go_num, by omega, hB.trans (hb2.mono hB.size)⟩
        case measure => simp [intOf]; omega
      · obtain rfl : j = xs.length := by omega
        go_wp2
        go_ret
        exact ⟨rfl, hB⟩

theorem putV_yes {xs : List Int} (hu : allU xs = true) (hl : xs.length ≤ 50) : putV xs = some (bytesTo xs xs.length) := by unfold putV; rw [if_pos ⟨hu, hl⟩]
theorem putV_no {xs : List Int} (hu : allU xs = false) : putV xs = none := by unfold putV; simp [hu]
theorem putV_long {xs : List Int} (hl : ¬ xs.length ≤ 50) : putV xs = none := by unfold putV; simp [hl]
theorem allU_of {xs : List Int} (h : ∀ i (hi : i < xs.length), inB 0 4294967295 xs[i] = true) : allU xs = true := by
  unfold allU
  rw [List.all_eq_true]
  intro x hx
  obtain ⟨i, hi, rfl⟩ := List.mem_iff_getElem.1 hx
  exact h i hi

/-- the model's PutVec -/
theorem sPutVec_any (a : Option Addr) (c : Nat) (xs : List Int) (w : World) (hm : xs.length ≤ 1048576) (h : Row w a xs) :
    Calls Try.prog 34 #[.slice a xs.length c] w fun e w' => e = .returned (putAns (putV xs)) ∧ Below w.heap.size w w' := by
  have hR := h
  by_cases hx : xs = []
  · subst hx
    have hp : putV [] = some (bytesTo [] 0) := putV_yes rfl (by simp)
    have hw := fun w => l1PutVec_any a c [] w (by simp) rfl (.inl rfl)
    have HW : Hid (∀ w, Calls Try.prog 63 #[.slice a 0 c] w fun e w' => e = .returned (.string ⟨(bytesTo [] 0).toArray⟩) ∧ Below w.heap.size w w') := hw
    rw [hp]
    clear h hR hp hw hm
    go_enter Try.func34, Try.ntmps34
    go_wp2
    go_loopw [8] (fun t wr => t = .int .i64 0 ∧ wr = w) (fun t _ => 0)
    case atStart => exact ⟨rfl, rfl⟩
    case round =>
      obtain ⟨rfl, rfl⟩ := hrel
      go_wp2_with (go_at_call 63; refine (HW.out _).mono ?_; rintro e w2 ⟨rfl, hb2⟩)
      go_ret2
      exact ⟨rfl, hb2⟩
  · rcases h with h | ⟨b, off, rfl, hc⟩
    · exact absurd h hx
    have HC : Hid (∀ i, i < xs.length → w.cell? ⟨b, off + i, none⟩ = some (.int .i64 (xs[i]?.getD 0))) := hc
    clear hc hx
    go_enter Try.func34, Try.ntmps34
    go_wp2
    go_loopw [8] (fun t wr => ∃ j : Nat, t = .int .i64 j ∧ j ≤ xs.length ∧ (∀ i (hi : i < xs.length), i < j → inB 0 4294967295 xs[i] = true) ∧ wr = w) (fun t _ => xs.length - (intOf t).toNat)
    case atStart => exact ⟨0, rfl, by omega, by intro i _ h; omega, rfl⟩
    case round =>
      obtain ⟨j, rfl, hj, hin, rfl⟩ := hrel
      have HI : Hid (∀ i (hi : i < xs.length), i < j → inB 0 4294967295 xs[i] = true) := hin
      clear hin
      by_cases hlt : j < xs.length
      · obtain ⟨x, hsrc, HX⟩ : ∃ x : Int, wr.cell? ⟨b, off + j, none⟩ = some (.int .i64 x) ∧ Hid (xs[j] = x) := ⟨xs[j], cell_later_row HC.out (Below.refl _ _) j hlt, rfl⟩
        cases hu : inB 0 4294967295 x with
        | false =>
          have HP : Hid (putV xs = none) := putV_no (allU_no j hlt (by rw [HX.out]; exact hu))
          go_wp2_with (go_at_call 49; refine (l1U32_any _ _).mono ?_; rintro e w' ⟨rfl, hw⟩; subst w')
          go_ret2
          exact ⟨by rw [HP.out]; rfl, Below.refl _ _⟩
        | true =>
          have HX2 : Hid (inB 0 4294967295 xs[j] = true) := by rw [HX.out]; exact hu
          go_wp2_with (go_at_call 49; refine (l1U32_any _ _).mono ?_; rintro e w' ⟨rfl, hw⟩; subst w')
          go_roundw
          case rel =>
            refine ⟨j + 1, by go_num, by omega, fun i hi hij => ?_, trivial⟩
            by_cases e : i = j
            · subst e; exact HX2.out
            · exact HI.out i hi (by omega)
          case measure => simp [intOf]; omega
      · have HA : Hid (allU xs = true) := allU_of fun i hi => HI.out i hi (by omega)
        by_cases h50 : xs.length ≤ 50
        · have HP : Hid (putV xs = some (bytesTo xs xs.length)) := putV_yes HA.out h50
          go_wp2_with (go_at_call 63; refine (l1PutVec_any _ _ xs _ h50 HA.out hR).mono ?_; rintro e w2 ⟨rfl, hb2⟩)
          go_ret2
          exact ⟨by rw [HP.out]; rfl, hb2⟩
        · have HP : Hid (putV xs = none) := putV_long h50
          go_wp2
          go_ret2
          exact ⟨by rw [HP.out]; rfl, Below.refl _ _⟩

/-- the program's PutVec -/
theorem iPutVec_any (a : Option Addr) (c : Nat) (xs : List Int) (w : World) (hm : xs.length ≤ 1048576) (h : Row w a xs) :
    Calls Try.prog 33 #[.slice a xs.length c] w fun e w' => e = .returned (putAns (putV xs)) ∧ Below w.heap.size w w' := by
  by_cases h50 : xs.length ≤ 50
  · have hyl : inB 0 4294967295 (xs.length : Int) = true := by unfold inB; simp; omega
    by_cases hx : xs = []
    · subst hx
      have hp : putV [] = some (bytesTo [] 0) := putV_yes rfl (by simp)
      rw [hp]
      clear h hp hm h50
      go_enter Try.func33, Try.ntmps33
      go_wp2_with (go_at_call 16; refine (iPutU_yes _ _ hyl).mono ?_; rintro e w1 ⟨rfl, hb1⟩)
      go_loopw [4, 21] (fun t4 t wr => t4 = .string ⟨(bytesTo [] 0).toArray⟩ ∧ t = .int .i64 0 ∧ wr = w1) (fun _ t _ => 0)
      case atStart => exact ⟨by simp [bytesTo], rfl, rfl⟩
      case round =>
        obtain ⟨rfl, rfl, rfl⟩ := hrel
        go_wp2
        go_ret2
        exact ⟨rfl, hb1⟩
    · rcases h with h | ⟨b, off, rfl, hc⟩
      · exact absurd h hx
      have HC : Hid (∀ i, i < xs.length → w.cell? ⟨b, off + i, none⟩ = some (.int .i64 (xs[i]?.getD 0))) := hc
      have HY : Hid (inB 0 4294967295 (xs.length : Int) = true) := hyl
      clear hc hx hyl
      go_enter Try.func33, Try.ntmps33
      go_wp2_with (go_at_call 16; refine (iPutU_yes _ _ HY.out).mono ?_; rintro e w1 ⟨rfl, hb1⟩)
      go_loopw [4, 21] (fun t4 t wr => ∃ j : Nat, t4 = .string ⟨(bytesTo xs j).toArray⟩ ∧ t = .int .i64 j ∧ j ≤ xs.length ∧ (∀ i (hi : i < xs.length), i < j → inB 0 4294967295 xs[i] = true) ∧ Below w.heap.size w wr) (fun _ t _ => xs.length - (intOf t).toNat)
      case atStart => exact ⟨0, by simp [bytesTo], rfl, by omega, by intro i _ h; omega, hb1⟩
      case round =>
        obtain ⟨j, rfl, rfl, hj, hin, hB⟩ := hrel
        have HI : Hid (∀ i (hi : i < xs.length), i < j → inB 0 4294967295 xs[i] = true) := hin
        clear hin hb1
        by_cases hlt : j < xs.length
        · obtain ⟨x, bj, hsrc, HX, hbl, hel, HS, HJ⟩ : ∃ (x : Int) (bj : List UInt8), wr.cell? ⟨b, off + j, none⟩ = some (.int .i64 x) ∧ Hid (xs[j] = x) ∧ bj.length ≤ 300 ∧ (encU 4 x).length ≤ 300 ∧ Hid (bytesTo xs (j + 1) = bj ++ encU 4 x) ∧ bytesTo xs j = bj :=
            ⟨xs[j], bytesTo xs j, cell_later_row HC.out hB j hlt, rfl, Nat.le_trans (bytesTo_length xs j hj) (by omega), Nat.le_trans (encU_len_le 4 _) (by omega), bytesTo_succ xs j hlt, rfl⟩
          rw [HJ]
          clear HJ
          cases hu : inB 0 4294967295 x with
          | false =>
            have HP : Hid (putV xs = none) := putV_no (allU_no j hlt (by rw [HX.out]; exact hu))
            go_wp2_with (go_at_call 16; refine (iPutU_no _ _ hu).mono ?_; rintro e w' ⟨rfl, hw⟩; subst w')
            go_ret2
            exact ⟨by rw [HP.out]; rfl, hB⟩
          | true =>
            have HX2 : Hid (inB 0 4294967295 xs[j] = true) := by rw [HX.out]; exact hu
            go_wp2_with (go_at_call 16; refine (iPutU_yes _ _ hu).mono ?_; rintro e w2 ⟨rfl, hb2⟩)
            go_roundw
            case rel =>
              refine ⟨j + 1, by rw [HS.out, ByteArray.mk_append_mk], by go_num, by omega, fun i hi hij => ?_, hB.trans (hb2.mono hB.size)⟩
              by_cases e : i = j
              · subst e; exact HX2.out
              · exact HI.out i hi (by omega)
            case measure => simp [intOf]; omega
        · have HA : Hid (allU xs = true) := allU_of fun i hi => HI.out i hi (by omega)
          have HP : Hid (putV xs = some (bytesTo xs xs.length)) := putV_yes HA.out h50
          obtain rfl : j = xs.length := by omega
          go_wp2
          go_ret2
          exact ⟨by rw [HP.out]; rfl, hB⟩
  · have HP : Hid (putV xs = none) := putV_long h50
    clear h
    go_enter Try.func33, Try.ntmps33
    go_wp2
    go_ret2
    exact ⟨by rw [HP.out]; rfl, Below.refl _ _⟩

/-- the law on PutVec: true at every list -/
theorem lawPutVec (a : Option Addr) (c : Nat) (xs : List Int) (w : World) (hm : xs.length ≤ 9223372036854775807) (h : Row w a xs) :
    Calls Try.prog 13 #[.slice a xs.length c] w fun e w' => e = .returned (.bool true) ∧ Below w.heap.size w w' := by
  by_cases hl : (1048576 : Int) < xs.length
  · go_enter Try.func13, Try.ntmps13
    go_wp2
    go_ret
    exact ⟨rfl, Below.refl _ _⟩
  · have hx : xs.length ≤ 1048576 := by omega
    obtain ⟨pa, hpa⟩ : ∃ pa, putV xs = pa := ⟨_, rfl⟩
    have HP : Hid (putV xs = pa) := hpa
    clear hpa
    go_enter Try.func13, Try.ntmps13
    go_wp2_with fail
    refine (toIntS_any a c xs _ hx h).mono ?_
    rintro e w1 ⟨v1, rfl, ho1, hb1⟩
    obtain ⟨a1, c1, rfl, r1⟩ := Row.of_owned ho1
    go_wp2_with fail
    refine (sPutVec_any a1 c1 xs _ hx r1).mono ?_
    rintro e w2 ⟨rfl, hb2⟩
    rw [HP.out]
    have hB2 : Below w.heap.size w w2 := hb1.trans (hb2.mono hb1.size)
    clear hb1 hb2 ho1 r1
    cases pa with
    | none =>
      unfold putAns
      go_wp2_with fail
      refine (toIntS_any a c xs _ hx (h.below hB2)).mono ?_
      rintro e w3 ⟨v3, rfl, ho3, hb3⟩
      obtain ⟨a3, c3, rfl, r3⟩ := Row.of_owned ho3
      have hB3 : Below w.heap.size w w3 := hB2.trans (hb3.mono hB2.size)
      clear ho3 hb3 hB2
      go_wp2_with fail
      refine (iPutVec_any a3 c3 xs _ hx r3).mono ?_
      rintro e w4 ⟨rfl, hb4⟩
      rw [HP.out]
      unfold putAns
      have hB4 : Below w.heap.size w w4 := hB3.trans (hb4.mono hB3.size)
      have r4 := r3.below hb4
      clear hb4 hB3 r3
      go_wp2_with fail
      refine (toIntS_any a c xs _ hx (h.below hB4)).mono ?_
      rintro e w5 ⟨v5, rfl, ho5, hb5⟩
      obtain ⟨a5, c5, rfl, r5⟩ := Row.of_owned ho5
      have hB5 : Below w.heap.size w w5 := hB4.trans (hb5.mono hB4.size)
      have r45 := r4.below hb5
      clear ho5 hb5 r4 hB4
      go_wp2_with fail
      refine (eqIntS_same a3 a5 c3 c5 xs _ hm r45 r5).mono ?_
      rintro e w6 ⟨rfl, q6, rfl⟩
      go_wp2
      go_ret
      exact ⟨rfl, below_drewN hB5 q6⟩
    | some l =>
      unfold putAns
      go_wp2_with fail
      refine (toIntS_any a c xs _ hx (h.below hB2)).mono ?_
      rintro e w3 ⟨v3, rfl, ho3, hb3⟩
      obtain ⟨a3, c3, rfl, r3⟩ := Row.of_owned ho3
      have hB3 : Below w.heap.size w w3 := hB2.trans (hb3.mono hB2.size)
      clear ho3 hb3 hB2
      go_wp2_with fail
      refine (iPutVec_any a3 c3 xs _ hx r3).mono ?_
      rintro e w4 ⟨rfl, hb4⟩
      rw [HP.out]
      unfold putAns
      have hB4 : Below w.heap.size w w4 := hB3.trans (hb4.mono hB3.size)
      have r4 := r3.below hb4
      clear hb4 hB3 r3
      go_wp2_with fail
      refine (toIntS_any a c xs _ hx (h.below hB4)).mono ?_
      rintro e w5 ⟨v5, rfl, ho5, hb5⟩
      obtain ⟨a5, c5, rfl, r5⟩ := Row.of_owned ho5
      have hB5 : Below w.heap.size w w5 := hB4.trans (hb5.mono hB4.size)
      have r45 := r4.below hb5
      clear ho5 hb5 r4 hB4
      go_wp2_with fail
      refine (eqIntS_same a3 a5 c3 c5 xs _ hm r45 r5).mono ?_
      rintro e w6 ⟨rfl, q6, rfl⟩
      go_wp2
      go_ret
      exact ⟨rfl, below_drewN hB5 q6⟩

/-- a slice of numbers that came in can be read -/
theorem row_of_add {w : World} (x : Addr) (zs : List Int) (n : Nat) (hn : n ≤ zs.length) (hc : ∀ i, i < zs.length → w.cell? (x.add i) = some (.int .i64 (zs.getD i 0))) : Row w (some x) (zs.take n) := by
  by_cases h0 : n = 0
  · subst h0; exact .inl (by simp)
  · obtain ⟨b, off, spot⟩ := x
    have hc0 := hc 0 (by omega)
    have hspot : spot = none := by simpa [Addr.add] using World.cell?_spot hc0
    subst hspot
    refine .inr ⟨b, off, rfl, fun i hi => ?_⟩
    have hin : i < n := by simp at hi; omega
    have := hc i (by omega)
    have hplain : (⟨b, off, none⟩ : Addr).add i = ⟨b, off + i, none⟩ := by unfold Addr.add; split <;> simp_all
    rw [hplain] at this
    simpa [List.getElem?_take, hin] using this
end Go.Proofs.Ytgfoepioldhnhaa
