/- What IsLeast of the program and of the model answers, at every text, and that the law on it is true. -/
import Derived.Test.YtgfoepioldhnhaaTakeLaw
import Derived.Test.YtgfoepioldhnhaaLeastMath
namespace Go.Proofs.Ytgfoepioldhnhaa
open Go.RowKit
set_option linter.unusedVariables false

/-- whether a text is the bytes of some number -/
def leastB (s : ByteArray) : Bool := match resU s 0 with
  | none => false
  | some (n, e) => decide (e = s.size ∧ (encU 4 n).length = e)

theorem resU_some {s : ByteArray} {a : Nat} {n : Int} {e : Nat} (h : resU s a = some (n, e)) : ∃ j, tk5 s a = some (n, j) ∧ e = a + j ∧ inB 0 4294967295 n = true ∧ s.size ≤ 1000 ∧ a < s.size := by
  unfold resU at h
  cases ht : txB s a with
  | false => simp [ht] at h
  | true =>
    have hy := txB_yes ht
    simp [ht] at h
    cases hk : tk5 s a with
    | none => rw [hk] at h; simp [inU] at h
    | some nj =>
      obtain ⟨n', j⟩ := nj
      rw [hk] at h
      cases hu : inB 0 4294967295 n' with
      | false => simp [inU, hu] at h
      | true =>
        simp [inU, hu] at h
        obtain ⟨rfl, rfl⟩ := h
        exact ⟨j, rfl, rfl, hu, by omega, by omega⟩

theorem ret_bool {a b : Bool} (h : a = b) : Ending.returned (.bool a) = .returned (.bool b) := by rw [h]

theorem sLeast_any (s : ByteArray) (w : World) (hm : s.size ≤ 9223372036854775807) :
    Calls Try.prog 30 #[.string s] w fun e w' => e = .returned (.bool (leastB s)) ∧ Below w.heap.size w w' := by
  have ht := fun w => sTakeU_any s 0 w hm
  unfold leastB
  cases hr : resU s 0 with
  | none =>
    rw [hr] at ht
    have HT : Hid (∀ w, Calls Try.prog 27 #[.string s, .int .i64 0] w fun e w' => e = .returned (takeV none) ∧ w' = w) := ht
    clear ht hr
    go_enter Try.func30, Try.ntmps30
    go_wp2_with (first
      | (go_at_call 27; refine (HT.out _).mono ?_; rintro e w' ⟨rfl, rfl⟩; unfold takeV))
    go_ret
    exact ⟨rfl, Below.refl _ _⟩
  | some ne =>
    obtain ⟨n, e⟩ := ne
    obtain ⟨j, hk, hej, hu, hs, ha⟩ := resU_some (a := 0) hr
    have hyes := inB_yes hu
    rw [hr] at ht
    have HT : Hid (∀ w, Calls Try.prog 27 #[.string s, .int .i64 0] w fun e' w' => e' = .returned (takeV (some (n, e))) ∧ w' = w) := ht
    have HK : Hid (tk5 s 0 = some (n, j)) := hk
    have HJ : Hid (e = 0 + j) := hej
    have HR : Hid (resU s 0 = some (n, e)) := hr
    clear ht hr hk hej
    by_cases he : e = s.size
    · have hq : ((e : Int) == (s.size : Int)) = true := by simp; omega
      have HE : Hid (e = s.size) := he
      clear he
      go_enter Try.func30, Try.ntmps30
      go_wp2_with (first
        | (go_at_call 27; refine (HT.out _).mono ?_; rintro e w' ⟨rfl, rfl⟩; unfold takeV)
        | (go_at_call 50; refine (l1PutU_any _ _ hyes.1 hyes.2).mono ?_; rintro e w1 ⟨rfl, hb⟩))
      go_ret
      refine ⟨?_, hb⟩
      refine ret_bool ?_
      have hi := least_iff s n j HK.out (by have := HJ.out; have := HE.out; omega) hyes.1
      have hej : j = e := by have := HJ.out; omega
      rw [ByteArray.toList_eq]
      by_cases hl : (encU 4 n).length = e
      · rw [hi.2 (by omega)] ; simp [HE.out] 
      · have : ¬ encU 4 n = s.data.toList := fun h => hl (by have := hi.1 h; omega)
        simp [hl, this]
    · have hq : ((e : Int) == (s.size : Int)) = false := by simp; omega
      have HE : Hid (¬ e = s.size) := he
      clear he
      go_enter Try.func30, Try.ntmps30
      go_wp2_with (first
        | (go_at_call 27; refine (HT.out _).mono ?_; rintro e w' ⟨rfl, rfl⟩; unfold takeV)
        | (go_at_call 50; refine (l1PutU_any _ _ hyes.1 hyes.2).mono ?_; rintro e w1 ⟨rfl, hb⟩))
      go_ret
      exact ⟨by simp [HE.out], Below.refl _ _⟩

theorem iLeast_any (s : ByteArray) (w : World) (hm : s.size ≤ 9223372036854775807) :
    Calls Try.prog 20 #[.string s] w fun e w' => e = .returned (.bool (leastB s)) ∧ w' = w := by
  have ht := fun w => iTakeU_any s 0 w hm
  unfold leastB
  cases hr : resU s 0 with
  | none =>
    rw [hr] at ht
    have HT : Hid (∀ w, Calls Try.prog 19 #[.string s, .int .i64 0] w fun e w' => e = .returned (takeV none) ∧ w' = w) := ht
    clear ht hr
    go_enter Try.func20, Try.ntmps20
    go_wp2_with (first
      | (go_at_call 19; refine (HT.out _).mono ?_; rintro e w' ⟨rfl, rfl⟩; unfold takeV))
    go_ret
    exact ⟨rfl, rfl⟩
  | some ne =>
    obtain ⟨n, e⟩ := ne
    obtain ⟨j, hk, hej, hu, hs, ha⟩ := resU_some (a := 0) hr
    have hyes := inB_yes hu
    rw [hr] at ht
    have HT : Hid (∀ w, Calls Try.prog 19 #[.string s, .int .i64 0] w fun e' w' => e' = .returned (takeV (some (n, e))) ∧ w' = w) := ht
    clear ht hr hk hej
    by_cases he : e = s.size
    · have hq : ((e : Int) != (s.size : Int)) = false := by simp; omega
      have HE : Hid (e = s.size) := he
      clear he
      go_enter Try.func20, Try.ntmps20
      go_wp2_with (first
        | (go_at_call 19; refine (HT.out _).mono ?_; rintro e w' ⟨rfl, rfl⟩; unfold takeV)
        | (go_at_call 18; refine (iLenU_yes _ _ hu).mono ?_; rintro e w' ⟨rfl, rfl⟩))
      go_ret
      refine ⟨ret_bool ?_, rfl⟩
      by_cases hl : (encU 4 n).length = e
      · simp [hl, HE.out]
      · simp [hl]; omega
    · have hq : ((e : Int) != (s.size : Int)) = true := by simp; omega
      have HE : Hid (¬ e = s.size) := he
      clear he
      go_enter Try.func20, Try.ntmps20
      go_wp2_with (first
        | (go_at_call 19; refine (HT.out _).mono ?_; rintro e w' ⟨rfl, rfl⟩; unfold takeV)
        | (go_at_call 18; refine (iLenU_yes _ _ hu).mono ?_; rintro e w' ⟨rfl, rfl⟩))
      go_ret
      exact ⟨by simp [HE.out], rfl⟩

/-- the law on IsLeast: true at every text -/
theorem lawLeast (s : ByteArray) (w : World) (hm : s.size ≤ 9223372036854775807) : Calls Try.prog 12 #[.string s] w fun e w' => e = .returned (.bool true) ∧ Below w.heap.size w w' := by
  by_cases hl : (1048576 : Int) < s.size
  · go_enter Try.func12, Try.ntmps12
    go_wp2
    go_ret
    exact ⟨rfl, Below.refl _ _⟩
  · cases hb : leastB s with
    | true =>
      go_enter Try.func12, Try.ntmps12
      go_wp2_with (first
        | (go_at_call 30; refine (sLeast_any _ _ hm).mono ?_; rintro e w1 ⟨rfl, hb1⟩)
        | (go_at_call 20; refine (iLeast_any _ _ hm).mono ?_; rintro e w' ⟨rfl, rfl⟩))
      go_ret
      exact ⟨rfl, hb1⟩
    | false =>
      go_enter Try.func12, Try.ntmps12
      go_wp2_with (first
        | (go_at_call 30; refine (sLeast_any _ _ hm).mono ?_; rintro e w1 ⟨rfl, hb1⟩)
        | (go_at_call 20; refine (iLeast_any _ _ hm).mono ?_; rintro e w' ⟨rfl, rfl⟩))
      go_ret
      exact ⟨rfl, hb1⟩
end Go.Proofs.Ytgfoepioldhnhaa
