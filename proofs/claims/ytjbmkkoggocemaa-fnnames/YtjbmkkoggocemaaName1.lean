/- What the program's and the model's NameOf answer, at every section. -/
import Derived.Test.YtjbmkkoggocemaaUtf2
namespace Go.Proofs.Ytjbmkkoggocemaa
open Go.RowKit
set_option linter.unusedVariables false
set_option linter.unusedSimpArgs false

theorem resU_bounds {s : ByteArray} {n : Int} {e : Nat} (h : resU s 0 = some (n, e)) : 0 ≤ n ∧ n ≤ 4294967295 ∧ 1 ≤ e ∧ e ≤ s.size ∧ s.size ≤ 1000 := by
  unfold resU at h
  by_cases ht : txB s 0 = true
  · rw [if_pos ht] at h
    have hb := txB_yes ht
    cases h5 : tk5 s (0 : Int).toNat with
    | none => rw [h5] at h; cases h
    | some x =>
      obtain ⟨m, j⟩ := x
      rw [h5] at h
      unfold inU at h
      by_cases hi : inB 0 4294967295 m = true
      · simp only [hi, if_true] at h
        injection h with h
        injection h with h1 h2
        subst h1 h2
        have := inB_yes hi
        have := tk5_bounds s _ _ _ h5
        simp at this ⊢
        omega
      · simp [hi] at h
  · rw [if_neg ht] at h; cases h

/-- the name with which bytes begin -/
def nameP (s : ByteArray) : Option ByteArray :=
  match resU s 0 with
  | none => none
  | some (n, e) => if n ≤ (s.size : Int) - e then (if utf (s.extract e (e + n.toNat)) then some (s.extract e (e + n.toNat)) else none) else none
def nameV : Option ByteArray → Value
  | none => .tuple #[.string ⟨#[]⟩, .bool false]
  | some t => .tuple #[.string t, .bool true]
theorem nameP_no {s : ByteArray} (h : resU s 0 = none) : nameP s = none := by unfold nameP; rw [h]
theorem nameP_long {s : ByteArray} {n : Int} {e : Nat} (h : resU s 0 = some (n, e)) (hl : ¬ n ≤ (s.size : Int) - e) : nameP s = none := by unfold nameP; rw [h]; simp only [hl, if_false]
theorem nameP_bad {s : ByteArray} {n : Int} {e : Nat} (h : resU s 0 = some (n, e)) (hl : n ≤ (s.size : Int) - e) (hu : utf (s.extract e (e + n.toNat)) = false) : nameP s = none := by unfold nameP; rw [h]; simp [hl, hu]
theorem nameP_yes {s : ByteArray} {n : Int} {e : Nat} (h : resU s 0 = some (n, e)) (hl : n ≤ (s.size : Int) - e) (hu : utf (s.extract e (e + n.toNat)) = true) : nameP s = some (s.extract e (e + n.toNat)) := by unfold nameP; rw [h]; simp [hl, hu]

/-- the model's l2Name -/
theorem sName_any (s : ByteArray) (w : World) (hm : s.size ≤ 9223372036854775807) :
    Calls Try.prog 46 #[.string s] w fun e w' => e = .returned (nameV (nameP s)) ∧ w' = w := by
  have ht := fun w => sTakeU_any s 0 w hm
  cases hr : resU s 0 with
  | none =>
    rw [hr] at ht
    rw [nameP_no hr]
    have HT : Hid (∀ w, Calls Try.prog 69 #[.string s, .int .i64 0] w fun e w' => e = .returned (takeV none) ∧ w' = w) := ht
    clear ht hr
    go_enter Try.func46, Try.ntmps46
    go_wp2_with (go_at_call 69; refine (HT.out _).mono ?_; rintro e w' ⟨rfl, hw⟩; subst w'; simp only [takeV])
    go_ret2
    exact ⟨rfl, rfl⟩
  | some x =>
    obtain ⟨n, e⟩ := x
    rw [hr] at ht
    have HT : Hid (∀ w, Calls Try.prog 69 #[.string s, .int .i64 0] w fun e' w' => e' = .returned (takeV (some (n, e))) ∧ w' = w) := ht
    obtain ⟨b0, b1, b2, b3, b4⟩ := resU_bounds hr
    by_cases hl : n ≤ (s.size : Int) - e
    · obtain ⟨m, rfl⟩ := Int.eq_ofNat_of_zero_le b0
      have hu2 := fun w => sUtf_any (s.extract e (e + m)) w (by simp; omega)
      cases hu : utf (s.extract e (e + m)) with
      | false =>
        rw [nameP_bad hr hl (by simpa using hu)]
        rw [hu] at hu2
        have HU : Hid (∀ w, Calls Try.prog 22 #[.string (s.extract e (e + m))] w fun e w' => e = .returned (.bool false) ∧ w' = w) := hu2
        clear ht hr hu2 hu
        go_enter Try.func46, Try.ntmps46
        go_wp2_with (first | (go_at_call 69; refine (HT.out _).mono ?_; rintro e w' ⟨rfl, hw⟩; subst w'; simp only [takeV]) | (go_at_call 22; refine (HU.out _).mono ?_; rintro e w' ⟨rfl, hw⟩; subst w'))
        go_ret2
        exact ⟨rfl, rfl⟩
      | true =>
        rw [nameP_yes hr hl (by simpa using hu)]
        rw [hu] at hu2
        have HU : Hid (∀ w, Calls Try.prog 22 #[.string (s.extract e (e + m))] w fun e w' => e = .returned (.bool true) ∧ w' = w) := hu2
        clear ht hr hu2 hu
        go_enter Try.func46, Try.ntmps46
        go_wp2_with (first | (go_at_call 69; refine (HT.out _).mono ?_; rintro e w' ⟨rfl, hw⟩; subst w'; simp only [takeV]) | (go_at_call 22; refine (HU.out _).mono ?_; rintro e w' ⟨rfl, hw⟩; subst w'))
        go_ret2
        exact ⟨rfl, rfl⟩
    · rw [nameP_long hr hl]
      clear ht hr
      go_enter Try.func46, Try.ntmps46
      go_wp2_with (go_at_call 69; refine (HT.out _).mono ?_; rintro e w' ⟨rfl, hw⟩; subst w'; simp only [takeV])
      go_ret2
      exact ⟨rfl, rfl⟩
end Go.Proofs.Ytjbmkkoggocemaa
