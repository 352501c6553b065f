/- What PutVec of the program and of the model answers, at every list, and that the law on it is true. -/
import Derived.Test.YtkdabjdobpdooaaDoorRowy
import Derived.Test.YtkdabjdobpdooaaDoorIntS
import Derived.Test.YtkdabjdobpdooaaDoorPut
namespace Go.Proofs.YtkdabjdobpdooaaDoor
open Go.RowKit
set_option linter.unusedVariables false

def allU (xs : List Int) : Bool := xs.all (inB 0 4294967295)
theorem allU_at {xs : List Int} (h : allU xs = true) (i : Nat) (hi : i < xs.length) : inB 0 4294967295 xs[i] = true := by
  unfold allU at h
  rw [List.all_eq_true] at h
  exact h _ (List.getElem_mem hi)
theorem allU_no {xs : List Int} (i : Nat) (hi : i < xs.length) (h : inB 0 4294967295 xs[i] = false) : allU xs = false := by
  cases ha : allU xs with
  | false => rfl
  | true => rw [allU_at ha i hi] at h; cases h
/-- the bytes of the first numbers of a list -/
def bytesTo (xs : List Int) (j : Nat) : List UInt8 := encU 4 xs.length ++ (xs.take j).flatMap (encU 4)
theorem bytesTo_succ (xs : List Int) (j : Nat) (h : j < xs.length) : bytesTo xs (j + 1) = bytesTo xs j ++ encU 4 xs[j] := by
  unfold bytesTo
  rw [List.take_succ_eq_append_getElem h, List.flatMap_append]
  simp only [List.flatMap_cons, List.flatMap_nil, List.append_nil, List.append_assoc]
theorem bytesTo_length (xs : List Int) (j : Nat) (h : j ≤ xs.length) : (bytesTo xs j).length ≤ 5 + 5 * j := by
  induction j with
  | zero => have := encU_len_le 4 xs.length; simp [bytesTo]; omega
  | succ j ih =>
    rw [bytesTo_succ xs j (by omega)]
    have := encU_len_le 4 xs[j]
    have := ih (by omega)
    simp; omega
/-- the bytes of a list -/
def putV (xs : List Int) : Option (List UInt8) := if allU xs = true ∧ xs.length ≤ 50 then some (bytesTo xs xs.length) else none
def putAns : Option (List UInt8) → Value
  | none => .tuple #[.string ⟨#[]⟩, .bool false]
  | some l => .tuple #[.string ⟨l.toArray⟩, .bool true]

/-- the model's bytes of a list whose numbers fit -/
theorem l1PutVec_any (a : Option Addr) (c : Nat) (xs : List Int) (w : World) (hl : xs.length ≤ 50) (hu : allU xs = true) (h : Row w a xs) :
    Calls Tryd.prog 78 #[.slice a xs.length c] w fun e w' => e = .returned (.string ⟨(bytesTo xs xs.length).toArray⟩) ∧ Below w.heap.size w w' := by
  by_cases hx : xs = []
  · subst hx
    clear h hu hl
    go_enter Tryd.func78, Tryd.ntmps78
    go_wp2_with (go_at_call 79; refine (l1PutU_any _ _ (by omega) (by omega)).mono ?_; rintro e w1 ⟨rfl, hb⟩)
    go_loopw [3, 11] (fun t3 t wr => t3 = .string ⟨(bytesTo [] 0).toArray⟩ ∧ t = .int .i64 0 ∧ wr = w1) (fun _ t _ => 0)
    case atStart => exact ⟨by simp [bytesTo], rfl, rfl⟩
    case round =>
      obtain ⟨rfl, rfl, rfl⟩ := hrel
      go_wp2
      go_ret
      exact ⟨rfl, hb⟩
  · rcases h with h | ⟨b, off, rfl, hc⟩
    · exact absurd h hx
    have HC : Hid (∀ i, i < xs.length → w.cell? ⟨b, off + i, none⟩ = some (.int .i64 (xs[i]?.getD 0))) := hc
    have HU : Hid (allU xs = true) := hu
    clear hc hx hu
    go_enter Tryd.func78, Tryd.ntmps78
    go_wp2_with (go_at_call 79; refine (l1PutU_any _ _ (by omega) (by omega)).mono ?_; rintro e w1 ⟨rfl, hb⟩)
    go_loopw [3, 11] (fun t3 t wr => ∃ j : Nat, t3 = .string ⟨(bytesTo xs j).toArray⟩ ∧ t = .int .i64 j ∧ j ≤ xs.length ∧ Below w.heap.size w wr) (fun _ t _ => xs.length - (intOf t).toNat)
    case atStart => exact ⟨0, by simp [bytesTo], rfl, by omega, hb⟩
    case round =>
      obtain ⟨j, rfl, rfl, hj, hB⟩ := hrel
      clear hb
      by_cases hlt : j < xs.length
      · obtain ⟨x, bj, bs, hsrc, hin, hbl, hel, HS, HJ⟩ : ∃ (x : Int) (bj bs : List UInt8), wr.cell? ⟨b, off + j, none⟩ = some (.int .i64 x) ∧ (0 ≤ x ∧ x ≤ 4294967295) ∧ bj.length ≤ 300 ∧ (encU 4 x).length ≤ 300 ∧ Hid (bytesTo xs (j + 1) = bj ++ encU 4 x) ∧ bytesTo xs j = bj :=
          ⟨xs[j], bytesTo xs j, [], cell_later_row HC.out hB j hlt, inB_yes (allU_at HU.out j hlt), Nat.le_trans (bytesTo_length xs j hj) (by omega), Nat.le_trans (encU_len_le 4 _) (by omega), bytesTo_succ xs j hlt, rfl⟩
        rw [HJ]
        clear HJ
        go_wp2_with (go_at_call 79; refine (l1PutU_any _ _ hin.1 hin.2).mono ?_; rintro e w2 ⟨rfl, hb2⟩)
        go_roundw
        case rel => exact ⟨j + 1, by rw [HS.out, ByteArray.mk_append_mk], by go_num, by omega, hB.trans (hb2.mono hB.size)⟩
        case measure => simp [intOf]; omega
      · obtain rfl : j = xs.length := by omega
        go_wp2
        go_ret
        exact ⟨rfl, hB⟩

theorem putV_yes {xs : List Int} (hu : allU xs = true) (hl : xs.length ≤ 50) : putV xs = some (bytesTo xs xs.length) := by unfold putV; rw [if_pos ⟨hu, hl⟩]
theorem putV_no {xs : List Int} (hu : allU xs = false) : putV xs = none := by unfold putV; simp [hu]
theorem putV_long {xs : List Int} (hl : ¬ xs.length ≤ 50) : putV xs = none := by unfold putV; simp [hl]
theorem allU_of {xs : List Int} (h : ∀ i (hi : i < xs.length), inB 0 4294967295 xs[i] = true) : allU xs = true := by
  unfold allU
  rw [List.all_eq_true]
  intro x hx
  obtain ⟨i, hi, rfl⟩ := List.mem_iff_getElem.1 hx
  exact h i hi

/-- the program's PutVec -/
theorem iPutVec_any (a : Option Addr) (c : Nat) (xs : List Int) (w : World) (hm : xs.length ≤ 1048576) (h : Row w a xs) :
    Calls Tryd.prog 46 #[.slice a xs.length c] w fun e w' => e = .returned (putAns (putV xs)) ∧ Below w.heap.size w w' := by
  by_cases h50 : xs.length ≤ 50
  · have hyl : inB 0 4294967295 (xs.length : Int) = true := by unfold inB; simp; omega
    by_cases hx : xs = []
    · subst hx
      have hp : putV [] = some (bytesTo [] 0) := putV_yes rfl (by simp)
      rw [hp]
      clear h hp hm h50
      go_enter Tryd.func46, Tryd.ntmps46
      go_wp2_with (go_at_call 49; refine (iPutU_yes _ _ hyl).mono ?_; rintro e w1 ⟨rfl, hb1⟩)
      go_loopw [4, 21] (fun t4 t wr => t4 = .string ⟨(bytesTo [] 0).toArray⟩ ∧ t = .int .i64 0 ∧ wr = w1) (fun _ t _ => 0)
      case atStart => exact ⟨by simp [bytesTo], rfl, rfl⟩
      case round =>
        obtain ⟨rfl, rfl, rfl⟩ := hrel
        go_wp2
        go_ret2
        exact ⟨rfl, hb1⟩
    · rcases h with h | ⟨b, off, rfl, hc⟩
      · exact absurd h hx
      have HC : Hid (∀ i, i < xs.length → w.cell? ⟨b, off + i, none⟩ = some (.int .i64 (xs[i]?.getD 0))) := hc
      have HY : Hid (inB 0 4294967295 (xs.length : Int) = true) := hyl
      clear hc hx hyl
      go_enter Tryd.func46, Tryd.ntmps46
      go_wp2_with (go_at_call 49; refine (iPutU_yes _ _ HY.out).mono ?_; rintro e w1 ⟨rfl, hb1⟩)
      go_loopw [4, 21] (fun t4 t wr => ∃ j : Nat, t4 = .string ⟨(bytesTo xs j).toArray⟩ ∧ t = .int .i64 j ∧ j ≤ xs.length ∧ (∀ i (hi : i < xs.length), i < j → inB 0 4294967295 xs[i] = true) ∧ Below w.heap.size w wr) (fun _ t _ => xs.length - (intOf t).toNat)
      case atStart => exact ⟨0, by simp [bytesTo], rfl, by omega, by intro i _ h; omega, hb1⟩
      case round =>
        obtain ⟨j, rfl, rfl, hj, hin, hB⟩ := hrel
        have HI : Hid (∀ i (hi : i < xs.length), i < j → inB 0 4294967295 xs[i] = true) := hin
        clear hin hb1
        by_cases hlt : j < xs.length
        · obtain ⟨x, bj, hsrc, HX, hbl, hel, HS, HJ⟩ : ∃ (x : Int) (bj : List UInt8), wr.cell? ⟨b, off + j, none⟩ = some (.int .i64 x) ∧ Hid (xs[j] = x) ∧ bj.length ≤ 300 ∧ (encU 4 x).length ≤ 300 ∧ Hid (bytesTo xs (j + 1) = bj ++ encU 4 x) ∧ bytesTo xs j = bj :=
            ⟨xs[j], bytesTo xs j, cell_later_row HC.out hB j hlt, rfl, Nat.le_trans (bytesTo_length xs j hj) (by omega), Nat.le_trans (encU_len_le 4 _) (by omega), bytesTo_succ xs j hlt, rfl⟩
          rw [HJ]
          clear HJ
          cases hu : inB 0 4294967295 x with
          | false =>
            have HP : Hid (putV xs = none) := putV_no (allU_no j hlt (by rw [HX.out]; exact hu))
            go_wp2_with (go_at_call 49; refine (iPutU_no _ _ hu).mono ?_; rintro e w' ⟨rfl, hw⟩; subst w')
            go_ret2
            exact ⟨by rw [HP.out]; rfl, hB⟩
          | true =>
            have HX2 : Hid (inB 0 4294967295 xs[j] = true) := by rw [HX.out]; exact hu
            go_wp2_with (go_at_call 49; refine (iPutU_yes _ _ hu).mono ?_; rintro e w2 ⟨rfl, hb2⟩)
            go_roundw
            case rel =>
              refine ⟨j + 1, by rw [HS.out, ByteArray.mk_append_mk], by go_num, by omega, fun i hi hij => ?_, hB.trans (hb2.mono hB.size)⟩
              by_cases e : i = j
              · subst e; exact HX2.out
              · exact HI.out i hi (by omega)
            case measure => simp [intOf]; omega
        · have HA : Hid (allU xs = true) := allU_of fun i hi => HI.out i hi (by omega)
          have HP : Hid (putV xs = some (bytesTo xs xs.length)) := putV_yes HA.out h50
          obtain rfl : j = xs.length := by omega
          go_wp2
          go_ret2
          exact ⟨by rw [HP.out]; rfl, hB⟩
  · have HP : Hid (putV xs = none) := putV_long h50
    clear h
    go_enter Tryd.func46, Tryd.ntmps46
    go_wp2
    go_ret2
    exact ⟨by rw [HP.out]; rfl, Below.refl _ _⟩

end Go.Proofs.YtkdabjdobpdooaaDoor
