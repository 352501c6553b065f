/- Texts: what the program and the model tell of two texts, of a text's letters, and of a text at a place of another one. -/
import Derived.Test.YtpjhmminbndgiaaApp
import Derived.Lib.Strings
import Derived.Lib.Slices
import Derived.Lib.Walk
import Derived.Lib.IndexBytes
import Derived.Lib.TrimU
import Derived.Laws.RangeAny
import Derived.BigQuiet
import Derived.Deep.QuietTactic
import Derived.WalkSmall
namespace Go.Proofs.Ytpjhmminbndgiaa
open Go.RowKit
set_option linter.unusedVariables false
set_option linter.unusedSimpArgs false
set_option maxHeartbeats 1000000

/-- a text's bytes -/
def Bt (s : ByteArray) : Tx := s.data.toList
def Sb (x : Tx) : ByteArray := ⟨x.toArray⟩
theorem Bt_Sb (x : Tx) : Bt (Sb x) = x := by simp [Bt, Sb]
theorem Sb_Bt (s : ByteArray) : Sb (Bt s) = s := by simp [Bt, Sb]
theorem Bt_inj {a b : ByteArray} (h : Bt a = Bt b) : a = b := by rw [← Sb_Bt a, h, Sb_Bt]
theorem Bt_size (s : ByteArray) : s.size = (Bt s).length := Lib.size_eq s
theorem Bt_toList (s : ByteArray) : s.toList = Bt s := Lib.toList_data s
theorem Bt_append (a b : ByteArray) : Bt (a ++ b) = Bt a ++ Bt b := by simp [Bt]
theorem Bt_extract (s : ByteArray) (i j : Nat) : Bt (s.extract i j) = ((Bt s).drop i).take (j - i) := Lib.extract_data s i j
theorem Bt_to (s : ByteArray) (k : Nat) : Bt (s.extract 0 k) = (Bt s).take k := by rw [Bt_extract]; simp
theorem Bt_from (s : ByteArray) (k : Nat) : Bt (s.extract k s.size) = (Bt s).drop k := by
  rw [Bt_extract, List.take_of_length_le]
  rw [List.length_drop, Bt_size]
  exact Nat.le_refl _
theorem eq_text (a b : ByteArray) : (a.toList == b.toList) = decide (Bt a = Bt b) := by
  rw [Bt_toList, Bt_toList, Bool.eq_iff_iff]; simp

theorem slB_eq (a b : ByteArray) : slB (Bt a) (Bt b) = (decide (a.size < b.size) || (decide (a.size = b.size) && Op.bytesLess a.toList b.toList)) := by
  rw [Bt_toList, Bt_toList, Bt_size, Bt_size]; rfl
set_option maxRecDepth 100000 in
theorem iShort_any (a b : ByteArray) (w : World) (ha : a.size ≤ 9223372036854775807) (hb : b.size ≤ 9223372036854775807) : Calls Try.prog 21 #[.string a, .string b] w fun e w' => e = .returned (.bool (slB (Bt a) (Bt b))) ∧ w' = w := by
  rw [slB_eq]
  go_enter Try.func21, Try.ntmps21
  go_wp2
  all_goals
    go_ret
    refine ⟨?_, rfl⟩
    by_cases h1 : a.size < b.size <;> by_cases h2 : a.size = b.size <;> first | omega | (simp [h1, h2]; done) | simp_all
set_option maxRecDepth 100000 in
theorem sShort_any (a b : ByteArray) (w : World) (ha : a.size ≤ 9223372036854775807) (hb : b.size ≤ 9223372036854775807) : Calls Try.prog 33 #[.string a, .string b] w fun e w' => e = .returned (.bool (slB (Bt a) (Bt b))) ∧ w' = w := by
  rw [slB_eq]
  go_enter Try.func33, Try.ntmps33
  go_wp2
  all_goals
    go_ret
    refine ⟨?_, rfl⟩
    by_cases h1 : a.size < b.size <;> by_cases h2 : a.size = b.size <;> first | omega | (simp [h1, h2]; done) | simp_all

theorem all_bad' {α : Type} {p : α → Bool} {t : List α} {k : Nat} {v : α} (h : t[k]? = some v) (hv : p v = false) : t.all p = false := by
  rw [Bool.eq_false_iff]
  intro h2
  have := List.all_eq_true.1 h2 v (List.mem_of_getElem? h)
  rw [hv] at this
  exact absurd this (by simp)
/-- letters as they may be -/
def abB (b : UInt8) : Bool := decide (97 ≤ b.toNat ∧ b.toNat ≤ 100)
theorem okB_eq (n : Nat) (x : Tx) : okB n x = (decide (x.length ≤ n) && x.all abB) := rfl
theorem Bt_get (s : ByteArray) (i : Nat) (h : i < s.size) : (Bt s)[i]? = some (s[i]'h) := Lib.data_getElem? s i h
theorem ok_bad (s : ByteArray) (n i : Nat) (h : i < s.size) (hb : abB (s[i]'h) = false) : okB n (Bt s) = false := by
  rw [okB_eq, all_bad' (Bt_get s i h) hb, Bool.and_false]
theorem all_more (s : ByteArray) (i : Nat) (h : i < s.size) (ha : ((Bt s).take i).all abB = true) (hb : abB (s[i]'h) = true) : ((Bt s).take (i + 1)).all abB = true := by
  have htk : (Bt s).take (i + 1) = (Bt s).take i ++ [s[i]'h] := by rw [List.take_add_one, Bt_get s i h]; rfl
  rw [htk, List.all_append, ha]; simp [hb]
theorem ok_end (s : ByteArray) (n i : Nat) (h : ¬ i < s.size) (ha : ((Bt s).take i).all abB = true) : okB n (Bt s) = decide (s.size ≤ n) := by
  rw [List.take_of_length_le (by rw [← Bt_size]; omega)] at ha
  rw [okB_eq, ha, Bool.and_true, Bt_size]
theorem ab_low {b : UInt8} (h : b.toNat < 97) : abB b = false := by simp [abB]; omega
theorem ab_high {b : UInt8} (h : ¬ b.toNat ≤ 100) : abB b = false := by simp [abB]; omega
theorem ab_ok {b : UInt8} (h : ¬ b.toNat < 97) (h2 : b.toNat ≤ 100) : abB b = true := by simp [abB]; omega
set_option maxRecDepth 100000 in
theorem sText_any (s : ByteArray) (n : Nat) (w : World) (hs : s.size ≤ 9223372036854775807) (hn : n ≤ 1000) : Calls Try.prog 48 #[.string s, .int .i64 n] w fun e w' => e = .returned (.bool (okB n (Bt s))) ∧ w' = w := by
  go_enter Try.func48, Try.ntmps48
  go_wp2
  go_loopw [5] (fun u5 wr => ∃ i : Nat, u5 = .int .i64 i ∧ i ≤ s.size ∧ wr = w ∧ ((Bt s).take i).all abB = true) (fun u5 _ => s.size - (match u5 with | .int _ k => k.toNat | _ => 0))
  case atStart => exact ⟨0, rfl, Nat.zero_le _, rfl, by simp⟩
  case round =>
    obtain ⟨i, rfl, hi, rfl, hall⟩ := hrel
    by_cases hlt : i < s.size
    · by_cases h1 : (s[i]'hlt).toNat < 97
      · go_wp2
        go_ret
        exact ⟨by rw [ok_bad s n i hlt (ab_low h1)] <;> rfl, rfl⟩
      · by_cases h2 : (s[i]'hlt).toNat ≤ 100
        · go_wp2
          go_roundw
          case rel => exact ⟨i + 1, by go_num, hlt, by simp, all_more s i hlt hall (ab_ok h1 h2)⟩
          case measure => simp; omega
        · go_wp2
          go_ret
          exact ⟨by rw [ok_bad s n i hlt (ab_high h2)] <;> rfl, rfl⟩
    · go_wp2
      go_ret
      refine ⟨?_, rfl⟩
      rw [ok_end s n i hlt hall]
      simp
/-- other letters, as runes -/
def offB (r : Nat) : Bool := decide (r < 97) || decide (100 < r)
theorem iOff_any (r : Nat) (w : World) (hr : r ≤ 1114111) : Calls Try.prog 76 #[.int .i32 r] w fun e w' => e = .returned (.bool (offB r)) ∧ w' = w := by
  by_cases h1 : r < 97
  · go_enter Try.func76, Try.ntmps76
    go_wp2
    go_ret
    refine ⟨?_, rfl⟩
    simp [offB, h1]
  · by_cases h2 : 100 < r
    · go_enter Try.func76, Try.ntmps76
      go_wp2
      go_ret
      refine ⟨?_, rfl⟩
      simp [offB, h1, h2] <;> omega
    · go_enter Try.func76, Try.ntmps76
      go_wp2
      go_ret
      refine ⟨?_, rfl⟩
      simp [offB, h1, h2] <;> omega
theorem off_of {b : UInt8} : offB b.toNat = !abB b := by
  unfold offB abB
  rw [Bool.eq_iff_iff]
  simp
set_option maxRecDepth 100000 in
/-- strings.indexFunc of the other letters: a place, or -1 where there is none -/
theorem indexOff_any (s : ByteArray) (w : World) (hs : s.size ≤ 9223372036854775807) : Calls Try.prog 83 #[.string s, .func (.func 76) #[] #[], .bool true] w fun e w' => ∃ r : Int, e = .returned (.int .i64 r) ∧ decide (0 ≤ r) = !((Bt s).all abB) ∧ Below w.heap.size w w' := by
  go_enter Try.func83, Try.ntmps83
  go_wp2
  go_loopw [7, 8] (fun _ _ wr => ∃ pos : Nat, wr = w.iter s pos ∧ pos ≤ s.size ∧ ((Bt s).take pos).all abB = true) (fun _ _ wr => s.size - wr.iterPos w.heap.size)
  case atStart => exact ⟨0, rfl, Nat.zero_le _, by simp⟩
  case round =>
    obtain ⟨pos, rfl, hle, hall⟩ := hrel
    by_cases hp : pos < s.size
    · have hnx : ∀ ty, (Instr.next (.pointer (some ⟨w.heap.size, 0, none⟩)) true ty).run Try.prog (w.iter s pos) = _ := fun ty => run_next_any w s pos ty hp
      have HR : Hid ((Utf8.decode s pos).1 ≤ 1114111) := Lib.rune_le s pos
      cases hb : abB (s[pos]'hp) with
      | true =>
        have hd : Utf8.decode s pos = ((s[pos]'hp).toNat, 1) := decode_ascii s pos hp (by simp [abB] at hb; omega)
        rw [hd] at hnx
        have ho : offB (s[pos]'hp).toNat = false := by rw [off_of, hb]; rfl
        have cS := fun w => iOff_any (s[pos]'hp).toNat w (by simp [abB] at hb; omega)
        rw [ho] at cS
        have HS : Hid (∀ w, Calls Try.prog 76 #[.int .i32 (s[pos]'hp).toNat] w fun e w' => e = .returned (.bool false) ∧ w' = w) := cS
        clear cS
        go_wp2_with (go_at_call 76; refine (HS.out _).mono ?_; rintro e w' ⟨rfl, hw⟩; subst w')
        go_roundw
        case rel => exact ⟨pos + 1, rfl, hp, all_more s pos hp hall hb⟩
        case measure => simp; omega
      | false =>
        have hd : offB (Utf8.decode s pos).1 = true := by
          by_cases ha : (s[pos]'hp).toNat < 128
          · rw [decode_ascii s pos hp ha, off_of, hb]; rfl
          · have := (decode_high s pos hp (by omega)).1
            simp [offB]; omega
        obtain ⟨R, hR⟩ : ∃ R, (Utf8.decode s pos).1 = R := ⟨_, rfl⟩
        rw [hR] at hnx hd HR
        have cS := fun w => iOff_any R w HR.out
        rw [hd] at cS
        have HS : Hid (∀ w, Calls Try.prog 76 #[.int .i32 R] w fun e w' => e = .returned (.bool true) ∧ w' = w) := cS
        clear cS
        go_wp2_with (go_at_call 76; refine (HS.out _).mono ?_; rintro e w' ⟨rfl, hw⟩; subst w')
        go_ret
        refine ⟨_, rfl, ?_, (Below.refl _ w).alloc (Nat.le_refl _) _⟩
        rw [all_bad' (Bt_get s pos hp) hb]
        simp
    · have hnx : ∀ ty, (Instr.next (.pointer (some ⟨w.heap.size, 0, none⟩)) true ty).run Try.prog (w.iter s pos) = _ := fun ty => run_next_end w s pos ty hp
      go_wp2
      go_ret
      refine ⟨_, rfl, ?_, (Below.refl _ w).alloc (Nat.le_refl _) _⟩
      rw [List.take_of_length_le (by rw [← Bt_size]; omega)] at hall
      rw [hall]; rfl
theorem iContains_any (s : ByteArray) (w : World) (hs : s.size ≤ 9223372036854775807) : Calls Try.prog 77 #[.string s, .func (.func 76) #[] #[]] w fun e w' => e = .returned (.bool (!((Bt s).all abB))) ∧ Below w.heap.size w w' := by
  have h81 : Calls Try.prog 81 #[.string s, .func (.func 76) #[] #[]] w fun e w' => ∃ r : Int, e = .returned (.int .i64 r) ∧ decide (0 ≤ r) = !((Bt s).all abB) ∧ Below w.heap.size w w' := by
    go_enter Try.func81, Try.ntmps81
    go_wp2_with (go_at_call 83; refine (indexOff_any s _ hs).mono ?_; rintro e w1 ⟨r, rfl, hr, hb⟩)
    go_ret
    exact ⟨r, rfl, hr, hb⟩
  go_enter Try.func77, Try.ntmps77
  go_wp2_with (go_at_call 81; refine h81.mono ?_; rintro e w1 ⟨r, rfl, hr, hb⟩)
  go_ret
  exact ⟨by rw [← hr] <;> rfl, hb⟩
theorem iText_any (s : ByteArray) (n : Nat) (w : World) (hs : s.size ≤ 9223372036854775807) (hn : n ≤ 1000) : Calls Try.prog 67 #[.string s, .int .i64 n] w fun e w' => e = .returned (.bool (okB n (Bt s))) ∧ Below w.heap.size w w' := by
  by_cases h : s.size ≤ n
  · go_enter Try.func67, Try.ntmps67
    go_wp2_with (go_at_call 77; refine (iContains_any s _ hs).mono ?_; rintro e w1 ⟨rfl, hb⟩)
    go_ret
    refine ⟨?_, hb⟩
    rw [okB_eq, ← Bt_size]
    simp [h]
  · go_enter Try.func67, Try.ntmps67
    go_wp2
    go_ret
    refine ⟨?_, Below.refl _ _⟩
    rw [okB_eq, ← Bt_size]
    simp [h]

/-! a text at a place -/
theorem pre_eq (s p : ByteArray) : (decide (p.size ≤ s.size) && ((s.extract 0 p.size).toList == p.toList)) = (Bt p).isPrefixOf (Bt s) := Lib.hasPrefix_raw s p
theorem iHasPrefix_any (s p : ByteArray) (w : World) (hs : s.size ≤ 9223372036854775807) (hp : p.size ≤ 9223372036854775807) : Calls Try.prog 84 #[.string s, .string p] w fun e w' => e = .returned (.bool ((Bt p).isPrefixOf (Bt s))) ∧ w' = w := by
  by_cases h : p.size ≤ s.size
  · go_enter Try.func84, Try.ntmps84
    go_wp2
    go_ret
    refine ⟨?_, rfl⟩
    rw [← pre_eq]
    simp [h]
  · go_enter Try.func84, Try.ntmps84
    go_wp2
    go_ret
    refine ⟨?_, rfl⟩
    rw [← pre_eq]
    simp [h]
theorem pre_len {s p : ByteArray} (h : (Bt p).isPrefixOf (Bt s) = true) : p.size ≤ s.size := by
  rw [Bt_size, Bt_size]
  exact (List.isPrefixOf_iff_prefix.1 h).length_le
theorem iCut_any (s p : ByteArray) (w : World) (hs : s.size ≤ 9223372036854775807) (hp : p.size ≤ 9223372036854775807) : Calls Try.prog 79 #[.string s, .string p] w fun e w' => e = .returned (.tuple #[.string (if (Bt p).isPrefixOf (Bt s) then s.extract p.size s.size else s), .bool ((Bt p).isPrefixOf (Bt s))]) ∧ w' = w := by
  have h82 : Calls Try.prog 82 #[.string s, .string p] w fun e w' => e = .returned (.tuple #[.string (if (Bt p).isPrefixOf (Bt s) then s.extract p.size s.size else s), .bool ((Bt p).isPrefixOf (Bt s))]) ∧ w' = w := by
    have cP := iHasPrefix_any s p w hs hp
    cases h : (Bt p).isPrefixOf (Bt s) with
    | true =>
      have hl := pre_len h
      rw [h] at cP
      go_enter Try.func82, Try.ntmps82
      go_wp2_with (go_at_call 84; refine cP.mono ?_; rintro e w1 ⟨rfl, hw⟩; subst w1)
      go_ret2
      exact ⟨rfl, rfl⟩
    | false =>
      rw [h] at cP
      go_enter Try.func82, Try.ntmps82
      go_wp2_with (go_at_call 84; refine cP.mono ?_; rintro e w1 ⟨rfl, hw⟩; subst w1)
      go_ret2
      exact ⟨rfl, rfl⟩
  generalize (if (Bt p).isPrefixOf (Bt s) then s.extract p.size s.size else s) = U at h82 ⊢
  generalize (Bt p).isPrefixOf (Bt s) = Q at h82 ⊢
  go_enter Try.func79, Try.ntmps79
  go_wp2_with (go_at_call 82; refine h82.mono ?_; rintro e w1 ⟨rfl, hw⟩; subst w1)
  go_ret2
  exact ⟨rfl, rfl⟩
/-- what a rule makes of a text at a place, as the walks tell it -/
def usedB (f t s : ByteArray) (k : Nat) : Option Tx := useAt (Bt f, Bt t) (Bt s) k
theorem used_yes {f t s : ByteArray} {k : Nat} (h : (Bt f).isPrefixOf ((Bt s).drop k) = true) : usedB f t s k = some (Bt (s.extract 0 k ++ t ++ s.extract (k + f.size) s.size)) := by
  unfold usedB useAt
  rw [if_pos h, Bt_append, Bt_append, Bt_to, Bt_from, Bt_size f]
theorem used_no {f t s : ByteArray} {k : Nat} (h : (Bt f).isPrefixOf ((Bt s).drop k) = false) : usedB f t s k = none := by
  unfold usedB useAt
  rw [if_neg (by rw [h]; simp)]
end Go.Proofs.Ytpjhmminbndgiaa
