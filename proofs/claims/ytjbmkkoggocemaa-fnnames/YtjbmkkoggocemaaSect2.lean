/- What the model's GoodSections answers, at every list of sections. -/
import Derived.Test.YtjbmkkoggocemaaSect1
namespace Go.Proofs.Ytjbmkkoggocemaa
open Go.RowKit
set_option linter.unusedVariables false
set_option linter.unusedSimpArgs false

theorem one_zero_id {s : ByteArray} {i : Int} (h : oneB i s = true) : 0 ≤ i := by
  unfold oneB at h
  simp at h
  have := inB_yes h.1.1
  omega

set_option maxHeartbeats 1000000 in
set_option maxRecDepth 100000 in
/-- the model's GoodSections -/
theorem sGood_any (a : Option Addr) (c : Nat) (xs : List Sec) (w : World) (hl : xs.length ≤ 9223372036854775807) (h : SRow w a xs) :
    Calls Try.prog 24 #[.slice a xs.length c] w fun e w' => e = .returned (.bool (goodB xs)) ∧ Below w.heap.size w w' := by
  by_cases hx : xs = []
  · subst hx
    clear h
    go_enter Try.func24, Try.ntmps24
    go_wp2
    go_loopw [3, 8] (fun t3 t wr => t3 = .int .i64 0 ∧ t = .int .i64 0 ∧ wr = w) (fun _ t _ => 0)
    case atStart => exact ⟨rfl, rfl, rfl⟩
    case round =>
      obtain ⟨rfl, rfl, rfl⟩ := hrel
      go_wp2
      go_ret
      exact ⟨rfl, Below.refl _ _⟩
  · obtain ⟨b, off, rfl, hat⟩ := h.at hx
    have HA : Hid (_) := hat
    clear hat hx h
    go_enter Try.func24, Try.ntmps24
    go_wp2
    go_loopw [3, 8] (fun t3 t wr => ∃ (last : Int) (k : Nat), t3 = .int .i64 last ∧ t = .int .i64 k ∧ 0 ≤ last ∧ k ≤ xs.length ∧ goodFrom 0 xs = goodFrom last (xs.drop k) ∧ Below w.heap.size w wr) (fun _ t _ => xs.length - (intOf t).toNat)
    case atStart => exact ⟨0, 0, rfl, rfl, by omega, by omega, rfl, Below.refl _ _⟩
    case round =>
      obtain ⟨last, k, rfl, rfl, hl0, hk, hg, hB⟩ := hrel
      have HG : Hid (goodFrom 0 xs = goodFrom last (xs.drop k)) := hg
      clear hg
      by_cases hlt : k < xs.length
      · obtain ⟨i, s, c1, c2, hs, hbw, HX⟩ := HA.out wr hB k hlt
        have HD : Hid (goodFrom 0 xs = goodFrom last ((i, s) :: xs.drop (k + 1))) := by show _ = _; rw [HG.out, drop_at HX.out]
        have hbr : b < wr.heap.size := Nat.lt_of_lt_of_le hbw hB.size
        have hBa : Below w.heap.size w (wr.alloc (.cells #[.int .i64 i, .string s] 31)) := hB.alloc hB.size _
        have ho := fun w => sOne_any i s w (by omega)
        cases h1 : oneB i s with
        | false =>
          have HF : Hid (goodFrom 0 xs = false) := by show _ = _; rw [HD.out, gf_bad h1]
          rw [h1] at ho
          have HO : Hid (∀ w, Calls Try.prog 45 #[.agg #[.int .i64 i, .string s]] w fun e w' => e = .returned (.bool false) ∧ Below w.heap.size w w') := ho
          clear ho h1
          go_wp2_with (go_at_call 45; refine (HO.out _).mono ?_; rintro e w1 ⟨rfl, hb1⟩)
          go_ret
          refine ⟨?_, bstep hBa (Nat.le_refl _) hb1⟩
          unfold goodB
          rw [HF.out, Bool.and_false]; rfl
        | true =>
          rw [h1] at ho
          have HI : Hid (0 ≤ i) := one_zero_id h1
          have HO : Hid (∀ w, Calls Try.prog 45 #[.agg #[.int .i64 i, .string s]] w fun e w' => e = .returned (.bool true) ∧ Below w.heap.size w w') := ho
          have H1 : Hid (oneB i s = true) := h1
          have hcell : ∀ w1, Below (wr.alloc (.cells #[.int .i64 i, .string s] 31)).heap.size (wr.alloc (.cells #[.int .i64 i, .string s] 31)) w1 → w1.cell? ⟨wr.heap.size, 0, none⟩ = some (.int .i64 i) := by
            intro w1 hb; rw [hb.cell (by simp)]; simp
          have HC : Hid (_) := hcell
          clear ho h1 hcell
          by_cases hi : i = 0
          · subst hi
            have HF : Hid (goodFrom 0 xs = goodFrom last (xs.drop (k + 1))) := by show _ = _; rw [HD.out, gf_custom H1.out]
            go_wp2_with fail
            refine (HO.out _).mono ?_
            rintro e w1 ⟨rfl, hb1⟩
            have hc0 := HC.out w1 hb1
            go_wp2
            go_roundw
            case rel => exact ⟨last, k + 1, rfl, by go_num, hl0, by omega, HF.out, bstep hBa (Nat.le_refl _) hb1⟩
            case measure => simp [intOf]; omega
          · by_cases hlo : i ≤ last
            · have HF : Hid (goodFrom 0 xs = false) := by show _ = _; rw [HD.out, gf_low hi hlo]
              go_wp2_with fail
              refine (HO.out _).mono ?_
              rintro e w1 ⟨rfl, hb1⟩
              have hc0 := HC.out w1 hb1
              go_wp2
              go_ret
              refine ⟨?_, bstep hBa (Nat.le_refl _) hb1⟩
              unfold goodB
              rw [HF.out, Bool.and_false]; rfl
            · have HF : Hid (goodFrom 0 xs = goodFrom i (xs.drop (k + 1))) := by show _ = _; rw [HD.out, gf_next H1.out hi (by omega)]
              go_wp2_with fail
              refine (HO.out _).mono ?_
              rintro e w1 ⟨rfl, hb1⟩
              have hc0 := HC.out w1 hb1
              go_wp2
              go_roundw
              case rel => exact ⟨i, k + 1, rfl, by go_num, HI.out, by omega, HF.out, bstep hBa (Nat.le_refl _) hb1⟩
              case measure => simp [intOf]; omega
      · obtain rfl : k = xs.length := by omega
        have HF : Hid (goodFrom 0 xs = true) := by show _ = _; rw [HG.out]; simp [goodFrom]
        by_cases h8 : xs.length ≤ 8
        all_goals
          go_wp2
          go_ret
          refine ⟨?_, hB⟩
          unfold goodB
          rw [HF.out]
          simp [h8]
          try omega

theorem eqSection_same (i : Int) (s : ByteArray) (w : World) (hs : s.size ≤ 9223372036854775807) :
    Calls Try.prog 52 #[.agg #[.int .i64 i, .string s], .agg #[.int .i64 i, .string s]] w fun e w' => e = .returned (.bool true) ∧ Below w.heap.size w w' := by
  go_enter Try.func52, Try.ntmps52
  go_wp2
  go_ret
  exact ⟨rfl, ((Below.refl _ w).alloc (Nat.le_refl _) _).alloc (by simp) _⟩
end Go.Proofs.Ytjbmkkoggocemaa
