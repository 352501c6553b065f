/- What the program's and the model's IsUtf8 answer, at every text. -/
import Derived.Test.YtjbmkkoggocemaaUtf
import Derived.Test.YtjbmkkoggocemaaTakeLaw
import Derived.Laws.Strings
import Derived.WalkSmall
namespace Go.Proofs.Ytjbmkkoggocemaa
open Go.RowKit
set_option linter.unusedVariables false
set_option linter.unusedSimpArgs false

theorem pre_eq (s : ByteArray) (p : Nat) (h : 3 ≤ s.size - p) : (((s.extract p s.size).extract 0 3).toList == [239, 191, 189]) = (goesOn s (p + 2) && bt s p == 239 && bt s (p + 1) == 191 && bt s (p + 2) == 189) := by
  have hl : ((s.extract p s.size).extract 0 3).toList = [s[p], s[p + 1], s[p + 2]] := by
    rw [ByteArray.toList_eq]
    apply List.ext_getElem
    · simp; omega
    · intro i h1 h2
      simp at h2
      have : i = 0 ∨ i = 1 ∨ i = 2 := by omega
      rcases this with rfl | rfl | rfl <;> simp [ByteArray.getElem_eq_getElem_data]
  rw [hl, ← bt_eq s p (by omega), ← bt_eq s (p + 1) (by omega), ← bt_eq s (p + 2) (by omega)]
  have e : ∀ (a : UInt8) (n : Nat) (hn : n < 256), (a == UInt8.ofNat n) = (a.toNat == n) := by
    intro a n hn
    rw [Bool.eq_iff_iff]
    simp only [beq_iff_eq]
    constructor
    · rintro rfl; simp [UInt8.toNat_ofNat']; omega
    · intro h; apply UInt8.toNat_inj.1; rw [h]; simp [UInt8.toNat_ofNat']; omega
  have e1 := e s[p] 239 (by decide)
  have e2 := e s[p + 1] 191 (by decide)
  have e3 := e s[p + 2] 189 (by decide)
  have hg : (s[p + 2].toNat == 189) = true → goesOn s (p + 2) = true := by
    intro h; simp at h; rw [bt_eq s (p + 2) (by omega)] at h; simp [goesOn, h]; omega
  show ((s[p] == UInt8.ofNat 239) && ((s[p + 1] == UInt8.ofNat 191) && ((s[p + 2] == UInt8.ofNat 189) && true))) = _
  rw [e1, e2, e3]
  cases h3 : (s[p + 2].toNat == 189) with
  | false => simp
  | true => rw [hg h3]; simp

/-- the program's standsAt, at the rune that a range tells -/
theorem standsAt_any (s : ByteArray) (p : Nat) (w : World) (hm : s.size ≤ 9223372036854775807) (hp : p < s.size) :
   Calls Try.prog 47 #[.string s, .int .i64 p, .int .i32 (Utf8.decode s p).1] w fun e w' => e = .returned (.bool (!badAt s p)) ∧ w' = w := by
  by_cases hr : (Utf8.decode s p).1 = 65533
  · have hst := stands s p hr
    rw [hr]
    obtain ⟨bad, hbad⟩ : ∃ b, badAt s p = b := ⟨_, rfl⟩
    rw [hbad] at hst ⊢
    have HS : Hid (bad = !(goesOn s (p + 2) && bt s p == 239 && bt s (p + 1) == 191 && bt s (p + 2) == 189)) := hst
    clear hst hr hbad
    go_enter Try.func47, Try.ntmps47
    go_wp2
    · rename_i hge
      have := pre_eq s p (by omega)
      go_ret
      rw [HS.out, ← this, Bool.not_not]
      exact ⟨rfl, rfl⟩
    · rename_i hlt
      have hbt : bad = true := by
        have : goesOn s (p + 2) = false := by simp [goesOn]; omega
        rw [HS.out, this]; rfl
      go_ret
      rw [hbt]
      exact ⟨rfl, rfl⟩
  · have hb : badAt s p = false := by
      unfold badAt
      cases h : (Utf8.decode s p == (65533, 1)) with
      | false => rfl
      | true => simp at h; rw [h] at hr; exact absurd rfl hr
    rw [hb]
    have hle := decode_le s p
    obtain ⟨r, hrr⟩ : ∃ r, (Utf8.decode s p).1 = r := ⟨_, rfl⟩
    rw [hrr] at hr hle ⊢
    clear hrr hb
    have hr' : (r : Int) ≠ 65533 := by omega
    clear hr
    go_enter Try.func47, Try.ntmps47
    go_wp2
    go_ret
    exact ⟨rfl, rfl⟩

set_option maxRecDepth 100000 in
/-- the program's IsUtf8 -/
theorem iUtf_any (s : ByteArray) (w : World) (hm : s.size ≤ 9223372036854775807) :
    Calls Try.prog 20 #[.string s] w fun e w' => e = .returned (.bool (utf s)) ∧ Below w.heap.size w w' := by
  go_enter Try.func20, Try.ntmps20
  go_wp2
  go_loopw [3, 4] (fun _ _ wr => ∃ (pos fuel : Nat), wr = w.iter s pos ∧ utf s = utfFrom s fuel pos ∧ s.size ≤ pos + fuel) (fun _ _ wr => s.size - wr.iterPos w.heap.size)
  case atStart => exact ⟨0, s.size, rfl, rfl, by omega⟩
  case round =>
    obtain ⟨pos, fuel, rfl, hu, hf⟩ := hrel
    have HU : Hid (utf s = utfFrom s fuel pos) := hu
    clear hu
    by_cases hp : pos < s.size
    · have hnx : ∀ ty, (Instr.next (.pointer (some ⟨w.heap.size, 0, none⟩)) true ty).run Try.prog (w.iter s pos) = _ := fun ty => run_next_any w s pos ty hp
      have HW : Hid (1 ≤ wide s pos) := wide_pos s pos hp
      obtain ⟨f, rfl⟩ : ∃ f, fuel = f + 1 := ⟨fuel - 1, by omega⟩
      cases hb : badAt s pos with
      | true =>
        have HS := fun w => standsAt_any s pos w hm hp
        rw [hb] at HS
        have HS' : Hid (∀ w, Calls Try.prog 47 #[.string s, .int .i64 pos, .int .i32 (Utf8.decode s pos).1] w fun e w' => e = .returned (.bool false) ∧ w' = w) := HS
        clear HS
        go_wp2_with (go_at_call 47; refine (HS'.out _).mono ?_; rintro e w' ⟨rfl, hw⟩; subst w')
        go_ret
        refine ⟨by rw [HU.out, utfFrom_bad s f pos hp hb]; rfl, ?_⟩
        exact (Below.refl _ w).alloc (Nat.le_refl _) _
      | false =>
        have HS := fun w => standsAt_any s pos w hm hp
        rw [hb] at HS
        have HS' : Hid (∀ w, Calls Try.prog 47 #[.string s, .int .i64 pos, .int .i32 (Utf8.decode s pos).1] w fun e w' => e = .returned (.bool true) ∧ w' = w) := HS
        clear HS
        go_wp2_with (go_at_call 47; refine (HS'.out _).mono ?_; rintro e w' ⟨rfl, hw⟩; subst w')
        go_roundw
        case rel => exact ⟨pos + wide s pos, f, rfl, by rw [HU.out, utfFrom_good s f pos hp hb], by have := HW.out; omega⟩
        case measure => have := HW.out; unfold wide at this; simp; omega
    · have hnx : ∀ ty, (Instr.next (.pointer (some ⟨w.heap.size, 0, none⟩)) true ty).run Try.prog (w.iter s pos) = _ := fun ty => run_next_end w s pos ty hp
      go_wp2
      go_ret
      exact ⟨by rw [HU.out, utfFrom_end _ _ _ hp]; rfl, (Below.refl _ w).alloc (Nat.le_refl _) _⟩
end Go.Proofs.Ytjbmkkoggocemaa
