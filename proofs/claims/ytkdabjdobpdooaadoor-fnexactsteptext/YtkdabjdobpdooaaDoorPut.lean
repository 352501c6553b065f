/- What PutU32, PutS32 and PadU32 of the program and of the model answer, at every number, and that the laws on them are true. -/
import Derived.Test.YtkdabjdobpdooaaDoorLen
import Derived.Test.YtkdabjdobpdooaaDoorBytes
namespace Go.Proofs.YtkdabjdobpdooaaDoor
open Go.RowKit
set_option linter.unusedVariables false

theorem ret_sb {a b : ByteArray} {c : Bool} (h : a = b) : Ending.returned (.tuple #[.string a, .bool c]) = .returned (.tuple #[.string b, .bool c]) := by rw [h]

/-- the program's PutU32 -/
theorem iPutU_no (n : Int) (w : World) (h : inB 0 4294967295 n = false) : Calls Tryd.prog 49 #[.int .i64 n] w fun e w' => e = .returned (.tuple #[.string ⟨#[]⟩, .bool false]) ∧ w' = w := by
  go_enter Tryd.func49, Tryd.ntmps49
  go_wp2_with (first
    | (go_at_call 76; refine (iLenU_no _ _ h).mono ?_; rintro e w' ⟨rfl, rfl⟩))
  go_ret2
  exact ⟨rfl, rfl⟩

theorem iPutU_yes (n : Int) (w : World) (h : inB 0 4294967295 n = true) : Calls Tryd.prog 49 #[.int .i64 n] w fun e w' => e = .returned (.tuple #[.string ⟨(encU 4 n).toArray⟩, .bool true]) ∧ Below w.heap.size w w' := by
  have hyes := inB_yes h
  have hle := encU_len_le 4 n
  have HS : Hid (encU 4 n = sev (encU 4 n).length n) := encU_sev 4 n hyes.1
  go_enter Tryd.func49, Tryd.ntmps49
  go_wp2_with (first
    | (go_at_call 76; refine (iLenU_yes _ _ h).mono ?_; rintro e w' ⟨rfl, rfl⟩)
    | (go_at_call 77; refine (bytesOf_any _ _ _ (by omega)).mono ?_; rintro e w1 ⟨rfl, hb⟩))
  go_ret2
  refine ⟨ret_sb ?_, hb⟩
  rw [← HS.out]

end Go.Proofs.YtkdabjdobpdooaaDoor
