/- What PutU32, PutS32 and PadU32 of the program and of the model answer, at every number, and that the laws on them are true. -/
import Derived.Test.YtgfoepioldhnhaaLen
import Derived.Test.YtgfoepioldhnhaaBytes
namespace Go.Proofs.Ytgfoepioldhnhaa
open Go.RowKit
set_option linter.unusedVariables false

theorem ret_sb {a b : ByteArray} {c : Bool} (h : a = b) : Ending.returned (.tuple #[.string a, .bool c]) = .returned (.tuple #[.string b, .bool c]) := by rw [h]

/-- the program's PutU32 -/
theorem iPutU_no (n : Int) (w : World) (h : inB 0 4294967295 n = false) : Calls Try.prog 16 #[.int .i64 n] w fun e w' => e = .returned (.tuple #[.string ⟨#[]⟩, .bool false]) ∧ w' = w := by
  go_enter Try.func16, Try.ntmps16
  go_wp2_with (first
    | (go_at_call 18; refine (iLenU_no _ _ h).mono ?_; rintro e w' ⟨rfl, rfl⟩))
  go_ret2
  exact ⟨rfl, rfl⟩

theorem iPutU_yes (n : Int) (w : World) (h : inB 0 4294967295 n = true) : Calls Try.prog 16 #[.int .i64 n] w fun e w' => e = .returned (.tuple #[.string ⟨(encU 4 n).toArray⟩, .bool true]) ∧ Below w.heap.size w w' := by
  have hyes := inB_yes h
  have hle := encU_len_le 4 n
  have HS : Hid (encU 4 n = sev (encU 4 n).length n) := encU_sev 4 n hyes.1
  go_enter Try.func16, Try.ntmps16
  go_wp2_with (first
    | (go_at_call 18; refine (iLenU_yes _ _ h).mono ?_; rintro e w' ⟨rfl, rfl⟩)
    | (go_at_call 48; refine (bytesOf_any _ _ _ (by omega)).mono ?_; rintro e w1 ⟨rfl, hb⟩))
  go_ret2
  refine ⟨ret_sb ?_, hb⟩
  rw [← HS.out]

/-- the model's PutU32 -/
theorem sPutU_no (n : Int) (w : World) (h : inB 0 4294967295 n = false) : Calls Try.prog 17 #[.int .i64 n] w fun e w' => e = .returned (.tuple #[.string ⟨#[]⟩, .bool false]) ∧ w' = w := by
  go_enter Try.func17, Try.ntmps17
  go_wp2_with (first
    | (go_at_call 49; refine (l1U32_any _ _).mono ?_; rintro e w' ⟨rfl, rfl⟩))
  go_ret2
  exact ⟨rfl, rfl⟩

theorem sPutU_yes (n : Int) (w : World) (h : inB 0 4294967295 n = true) : Calls Try.prog 17 #[.int .i64 n] w fun e w' => e = .returned (.tuple #[.string ⟨(encU 4 n).toArray⟩, .bool true]) ∧ Below w.heap.size w w' := by
  have hyes := inB_yes h
  go_enter Try.func17, Try.ntmps17
  go_wp2_with (first
    | (go_at_call 49; refine (l1U32_any _ _).mono ?_; rintro e w' ⟨rfl, rfl⟩)
    | (go_at_call 50; refine (l1PutU_any _ _ hyes.1 hyes.2).mono ?_; rintro e w1 ⟨rfl, hb⟩))
  go_ret2
  exact ⟨rfl, hb⟩

/-- the law on PutU32: true at every number -/
theorem lawPutU (n : Int) (w : World) : Calls Try.prog 5 #[.int .i64 n] w fun e w' => e = .returned (.bool true) ∧ Below w.heap.size w w' := by
  cases h : inB 0 4294967295 n with
  | false =>
    go_enter Try.func5, Try.ntmps5
    go_wp2_with (first
      | (go_at_call 17; refine (sPutU_no _ _ h).mono ?_; rintro e w' ⟨rfl, rfl⟩)
      | (go_at_call 16; refine (iPutU_no _ _ h).mono ?_; rintro e w' ⟨rfl, rfl⟩))
    go_ret
    exact ⟨rfl, Below.refl _ _⟩
  | true =>
    go_enter Try.func5, Try.ntmps5
    go_wp2_with (first
      | (go_at_call 17; refine (sPutU_yes _ _ h).mono ?_; rintro e w1 ⟨rfl, hb1⟩)
      | (go_at_call 16; refine (iPutU_yes _ _ h).mono ?_; rintro e w2 ⟨rfl, hb2⟩))
    go_ret
    exact ⟨rfl, hb1.trans (hb2.mono hb1.size)⟩

/-- the program's PutS32 -/
theorem iPutS_no (n : Int) (w : World) (h : inB (-2147483648) 2147483647 n = false) : Calls Try.prog 22 #[.int .i64 n] w fun e w' => e = .returned (.tuple #[.string ⟨#[]⟩, .bool false]) ∧ w' = w := by
  go_enter Try.func22, Try.ntmps22
  go_wp2_with (first
    | (go_at_call 24; refine (iLenS_no _ _ h).mono ?_; rintro e w' ⟨rfl, rfl⟩))
  go_ret2
  exact ⟨rfl, rfl⟩

theorem iPutS_yes (n : Int) (w : World) (h : inB (-2147483648) 2147483647 n = true) : Calls Try.prog 22 #[.int .i64 n] w fun e w' => e = .returned (.tuple #[.string ⟨(encS 4 n).toArray⟩, .bool true]) ∧ Below w.heap.size w w' := by
  have hyes := inB_yes h
  have hle := encS_len_le 4 n
  have HS : Hid (encS 4 n = sev (encS 4 n).length n) := encS_sev 4 n
  go_enter Try.func22, Try.ntmps22
  go_wp2_with (first
    | (go_at_call 24; refine (iLenS_yes _ _ h).mono ?_; rintro e w' ⟨rfl, rfl⟩)
    | (go_at_call 48; refine (bytesOf_any _ _ _ (by omega)).mono ?_; rintro e w1 ⟨rfl, hb⟩))
  go_ret2
  refine ⟨ret_sb ?_, hb⟩
  rw [← HS.out]

/-- the model's PutS32 -/
theorem sPutS_no (n : Int) (w : World) (h : inB (-2147483648) 2147483647 n = false) : Calls Try.prog 23 #[.int .i64 n] w fun e w' => e = .returned (.tuple #[.string ⟨#[]⟩, .bool false]) ∧ w' = w := by
  go_enter Try.func23, Try.ntmps23
  go_wp2_with (first
    | (go_at_call 54; refine (l1S32_any _ _).mono ?_; rintro e w' ⟨rfl, rfl⟩))
  go_ret2
  exact ⟨rfl, rfl⟩

theorem sPutS_yes (n : Int) (w : World) (h : inB (-2147483648) 2147483647 n = true) : Calls Try.prog 23 #[.int .i64 n] w fun e w' => e = .returned (.tuple #[.string ⟨(encS 4 n).toArray⟩, .bool true]) ∧ Below w.heap.size w w' := by
  have hyes := inB_yes h
  go_enter Try.func23, Try.ntmps23
  go_wp2_with (first
    | (go_at_call 54; refine (l1S32_any _ _).mono ?_; rintro e w' ⟨rfl, rfl⟩)
    | (go_at_call 55; refine (l1PutS_any _ _ hyes.1 hyes.2).mono ?_; rintro e w1 ⟨rfl, hb⟩))
  go_ret2
  exact ⟨rfl, hb⟩

/-- the law on PutS32: true at every number -/
theorem lawPutS (n : Int) (w : World) : Calls Try.prog 7 #[.int .i64 n] w fun e w' => e = .returned (.bool true) ∧ Below w.heap.size w w' := by
  cases h : inB (-2147483648) 2147483647 n with
  | false =>
    go_enter Try.func7, Try.ntmps7
    go_wp2_with (first
      | (go_at_call 23; refine (sPutS_no _ _ h).mono ?_; rintro e w' ⟨rfl, rfl⟩)
      | (go_at_call 22; refine (iPutS_no _ _ h).mono ?_; rintro e w' ⟨rfl, rfl⟩))
    go_ret
    exact ⟨rfl, Below.refl _ _⟩
  | true =>
    go_enter Try.func7, Try.ntmps7
    go_wp2_with (first
      | (go_at_call 23; refine (sPutS_yes _ _ h).mono ?_; rintro e w1 ⟨rfl, hb1⟩)
      | (go_at_call 22; refine (iPutS_yes _ _ h).mono ?_; rintro e w2 ⟨rfl, hb2⟩))
    go_ret
    exact ⟨rfl, hb1.trans (hb2.mono hb1.size)⟩
end Go.Proofs.Ytgfoepioldhnhaa
