/- What the model's ModuleBytes answers, at every list of sections. -/
import Derived.Test.YtjbmkkoggocemaaMod1
import Derived.Deep.RegionHeld
namespace Go.Proofs.Ytjbmkkoggocemaa
open Go.RowKit
set_option linter.unusedVariables false
set_option linter.unusedSimpArgs false

theorem conv_at (W : World) (g : Nat) (x : Int) (h : W.cell? ⟨g, 0, none⟩ = some (.int .u8 x)) : (convert 22 9 (.slice (some ⟨g, 0, none⟩) 1 1)).run Try.prog W = .ok (.string ⟨#[by8 x]⟩) W := by
  have := run_convert_bytes_arg (P := Try.prog) W 22 5 Try.underlying22 Try.underlying5 g 0 1 1 [x] rfl (by
    intro i hi
    obtain rfl : i = 0 := by omega
    simpa using h) 9 Try.underlying9
  rw [this]
  simp [strOfNums, by8]

set_option maxHeartbeats 4000000 in
set_option maxRecDepth 100000 in
/-- the model's ModuleBytes -/
theorem sMod_any (a : Option Addr) (c : Nat) (xs : List Sec) (w : World) (hl : xs.length ≤ 9223372036854775807) (h : SRow w a xs) :
    Calls Try.prog 28 #[.slice a xs.length c] w fun e w' => e = .returned (nameV (modP xs)) ∧ Below w.heap.size w w' := by
  have hgd := fun w h => sGood_any a c xs w hl h
  cases hg : goodB xs with
  | false =>
    rw [hg] at hgd
    have hv : modP xs = none := by unfold modP; rw [hg]; rfl
    rw [hv]
    go_enter Try.func28, Try.ntmps28
    go_wp2_with (go_at_call 24; refine (hgd _ h).mono ?_; rintro e w1 ⟨rfl, hb1⟩)
    go_ret2
    exact ⟨rfl, hb1⟩
  | true =>
    rw [hg] at hgd
    have hv : modP xs = some ⟨(modTo xs xs.length).toArray⟩ := by unfold modP; rw [hg]; rfl
    rw [hv]
    have hgf : goodFrom 0 xs = true ∧ xs.length ≤ 8 := by unfold goodB at hg; simp at hg; exact ⟨hg.2, hg.1⟩
    have HGF : Hid (goodFrom 0 xs = true) := hgf.1
    have hl8 := hgf.2
    have HGD : Hid (∀ w, SRow w a xs → Calls Try.prog 24 #[.slice a xs.length c] w fun e w' => e = .returned (.bool true) ∧ Below w.heap.size w w') := hgd
    have HML : Hid (∀ k, k ≤ xs.length → (modTo xs k).length ≤ 8 + 206 * k) := fun k hk => modTo_len hgf.1 k hk
    clear hgd hv hg hgf
    have H0 : Hid (modTo xs 0 = front) := by show _ = _; simp [modTo]
    by_cases hx : xs = []
    · subst hx
      go_enter Try.func28, Try.ntmps28
      go_wp2_with (go_at_call 24; refine (HGD.out _ h).mono ?_; rintro e w1 ⟨rfl, B1⟩)
      go_loopw [4, 12] (fun t4 t wr => t4 = .string ⟨#[0, 97, 115, 109, 1, 0, 0, 0]⟩ ∧ t = .int .i64 0 ∧ wr = w1) (fun _ t _ => 0)
      case atStart => exact ⟨rfl, rfl, rfl⟩
      case round =>
        obtain ⟨rfl, rfl, rfl⟩ := hrel
        go_wp2
        go_ret2
        exact ⟨by show _ = Ending.returned (nameV (some ⟨(modTo [] 0).toArray⟩)); rw [H0.out]; rfl, B1⟩
    · obtain ⟨b, off, rfl, hat⟩ := h.at hx
      have HA : Hid (_) := hat
      clear hx hat
      go_enter Try.func28, Try.ntmps28
      go_wp2_with (go_at_call 24; refine (HGD.out _ h).mono ?_; rintro e w1 ⟨rfl, B1⟩)
      go_loopw [4, 12] (fun t4 t wr => ∃ (k : Nat) (acc : ByteArray), t4 = .string acc ∧ t = .int .i64 k ∧ k ≤ xs.length ∧ acc = ⟨(modTo xs k).toArray⟩ ∧ acc.size ≤ 8 + 206 * k ∧ Below w.heap.size w wr) (fun _ t _ => xs.length - (intOf t).toNat)
      case atStart => exact ⟨0, _, rfl, rfl, by omega, by rw [H0.out]; rfl, by decide, B1⟩
      case round =>
        obtain ⟨k, acc, rfl, rfl, hk, hacc, hal, hB⟩ := hrel
        have HAC : Hid (acc = ⟨(modTo xs k).toArray⟩) := hacc
        clear hacc
        by_cases hlt : k < xs.length
        · obtain ⟨i, s, c1, c2, hs, hbw, HX⟩ := HA.out wr hB k hlt
          have hbr : b < wr.heap.size := Nat.lt_of_lt_of_le hbw hB.size
          obtain ⟨hi0, hi11, hs200⟩ := good_one HGF.out HX.out
          have hmod : i % 256 = i := by omega
          have hBa : Below w.heap.size w (wr.alloc (.cells #[.int .i64 i, .string s] 31)) := hB.alloc hB.size _
          obtain ⟨en, hen, hel⟩ : ∃ en : ByteArray, (⟨(encU 4 (s.size : Int)).toArray⟩ : ByteArray) = en ∧ en.size ≤ 5 := ⟨_, rfl, by show (encU 4 (s.size : Int)).toArray.size ≤ 5; simpa using encU_len_le 4 (s.size : Int)⟩
          have hpu := fun w => l1PutU_any (s.size : Int) w (by omega) (by omega)
          rw [hen] at hpu
          have HPU : Hid (∀ w, Calls Try.prog 53 #[.int .i64 (s.size : Int)] w fun e w' => e = .returned (.string en) ∧ Below w.heap.size w w') := hpu
          have HEN : Hid ((⟨(encU 4 (s.size : Int)).toArray⟩ : ByteArray) = en) := hen
          have hcv := fun W g h => conv_at W g i h
          have hu8 : IntKind.u8.wrap i = i := by rw [IntKind.wrap_u8]; omega
          have QA : Hid (∀ w2, Below (((wr.alloc (.cells #[.int .i64 i, .string s] 31)).alloc (.cells #[.int .u8 i] 5)).drew).heap.size (((wr.alloc (.cells #[.int .i64 i, .string s] 31)).alloc (.cells #[.int .u8 i] 5)).drew) w2 → w2.cell? ⟨wr.heap.size, 0, none⟩ = some (.int .i64 i) ∧ w2.cell? ⟨wr.heap.size, 1, none⟩ = some (.string s) ∧ w2.cell? ⟨wr.heap.size + 1, 0, none⟩ = some (.int .u8 i) ∧ wr.heap.size < w2.heap.size) := by
            intro w2 hb
            refine ⟨Eq.trans (hb.cell (by simp; omega)) (by simp), Eq.trans (hb.cell (by simp; omega)) (by simp), Eq.trans (hb.cell (by simp)) ?_, ?_⟩
            · simp
            · have := hb.size; simp at this; omega
          have QA' : Hid (∀ w2, Below (((wr.alloc (.cells #[.int .i64 i, .string s] 31)).alloc (.cells #[.int .u8 i] 5)).drew).heap.size (((wr.alloc (.cells #[.int .i64 i, .string s] 31)).alloc (.cells #[.int .u8 i] 5)).drew) w2 → Below w.heap.size w w2) := by
            intro w2 hb
            exact bstep (hBa.alloc hBa.size _) (Nat.le_refl _) (below_of_drew hb)
          have QB : Hid (∀ w2, Below ((wr.alloc (.cells #[.int .i64 i, .string s] 31)).drew).heap.size ((wr.alloc (.cells #[.int .i64 i, .string s] 31)).drew) w2 → w2.cell? ⟨wr.heap.size, 0, none⟩ = some (.int .i64 i) ∧ w2.cell? ⟨wr.heap.size, 1, none⟩ = some (.string s) ∧ wr.heap.size < w2.heap.size) := by
            intro w2 hb
            refine ⟨Eq.trans (hb.cell (by simp)) (by simp), Eq.trans (hb.cell (by simp)) (by simp), ?_⟩
            have := hb.size; simp at this; omega
          have QB' : Hid (∀ w2, Below ((wr.alloc (.cells #[.int .i64 i, .string s] 31)).drew).heap.size ((wr.alloc (.cells #[.int .i64 i, .string s] 31)).drew) w2 → Below w.heap.size w w2) := by
            intro w2 hb
            exact bstep hBa (Nat.le_refl _) (below_of_drew hb)
          clear hpu hen
          go_wp2
          go_region_held (fun w' => w'.cell? ⟨wr.heap.size, 0, none⟩ = some (.int .i64 i) ∧ w'.cell? ⟨wr.heap.size, 1, none⟩ = some (.string s)) (go_keep) (first
            | (go_at_call 53; refine (HPU.out (((wr.alloc (.cells #[.int .i64 i, .string s] 31)).alloc (.cells #[.int .u8 i] 5)).drew)).mono ?_; rintro e w2 ⟨rfl, hb2⟩; obtain ⟨q0, q1, q2, q3⟩ := QA.out w2 hb2; have hb3 := QA'.out w2 hb2; clear hb2)
            | (go_at_call 53; refine (HPU.out ((wr.alloc (.cells #[.int .i64 i, .string s] 31)).drew)).mono ?_; rintro e w2 ⟨rfl, hb2⟩; obtain ⟨q0, q1, q3⟩ := QB.out w2 hb2; have hb3 := QB'.out w2 hb2; clear hb2))
          all_goals
            go_wp2
            go_roundw
            case rel =>
              have hsz : (acc ++ (⟨#[by8 i]⟩ ++ en ++ s)).size = acc.size + (1 + en.size + s.size) := by rw [ByteArray.size_append, ByteArray.size_append, ByteArray.size_append]; rfl
              refine ⟨k + 1, _, rfl, by go_num, by omega, ?_, ?_, ?_⟩
              · rw [modTo_succ HX.out, HAC.out, ← HEN.out]
                have hsl : s = ⟨s.data.toList.toArray⟩ := by cases s; simp
                rw [hsl, ByteArray.mk_append_mk [by8 i], ByteArray.mk_append_mk, ByteArray.mk_append_mk]
              · rw [hsz]; omega
              · first
                  | exact hb3
                  | exact hb3.alloc hb3.size _
            case measure => simp [intOf]; omega
        · obtain rfl : k = xs.length := by omega
          go_wp2
          go_ret2
          exact ⟨by rw [HAC.out]; rfl, hB⟩
end Go.Proofs.Ytjbmkkoggocemaa
