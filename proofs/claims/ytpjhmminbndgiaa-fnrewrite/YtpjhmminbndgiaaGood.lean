/- Rows of rules, and what GoodRules of the program and of the model tell of them. -/
import Derived.Test.YtpjhmminbndgiaaUse
namespace Go.Proofs.Ytpjhmminbndgiaa
open Go.RowKit
set_option linter.unusedVariables false
set_option linter.unusedSimpArgs false
set_option maxHeartbeats 1000000
set_option maxRecDepth 100000

abbrev RB := ByteArray × ByteArray
def Rs (xs : List RB) : List Rl := xs.map fun x => (Bt x.1, Bt x.2)
theorem Rs_length (xs : List RB) : (Rs xs).length = xs.length := by simp [Rs]
def intOf : Value → Int
  | .int _ k => k
  | _ => 0
def Short (x : RB) : Prop := x.1.size ≤ 9223372036854775807 ∧ x.2.size ≤ 9223372036854775807
/-- a slice of rules that can be read -/
def RRow (w : World) (a : Option Addr) (xs : List RB) : Prop := xs = [] ∨ ∃ b off, a = some ⟨b, off, none⟩ ∧ ∀ i, i < xs.length → ∃ x, xs[i]? = some x ∧ w.cell? ⟨b, off + i * 2, none⟩ = some (.string x.1) ∧ w.cell? ⟨b, off + i * 2 + 1, none⟩ = some (.string x.2)
theorem RRow.below {w w' : World} {a : Option Addr} {xs : List RB} (h : RRow w a xs) (hb : Below w.heap.size w w') : RRow w' a xs := by
  rcases h with h | ⟨b, off, rfl, hc⟩
  · exact .inl h
  · refine .inr ⟨b, off, rfl, fun i hi => ?_⟩
    obtain ⟨x, h1, h3, h4⟩ := hc i hi
    exact ⟨x, h1, by rw [hb.cell (World.block_lt_of_cell? w _ h3)]; exact h3, by rw [hb.cell (World.block_lt_of_cell? w _ h4)]; exact h4⟩
theorem RRow.at {w : World} {a : Option Addr} {xs : List RB} (h : RRow w a xs) (hx : xs ≠ []) : ∃ b off, a = some ⟨b, off, none⟩ ∧ b < w.heap.size ∧ ∀ w', Below w.heap.size w w' → ∀ k, k < xs.length → ∃ f t, w'.cell? ⟨b, off + k * 2, none⟩ = some (.string f) ∧ w'.cell? ⟨b, off + k * 2 + 1, none⟩ = some (.string t) ∧ Hid (xs[k]? = some (f, t)) := by
  rcases h with h | ⟨b, off, rfl, hc⟩
  · exact absurd h hx
  · refine ⟨b, off, rfl, ?_, fun w' hb k hk => ?_⟩
    · obtain ⟨x, _, h3, _⟩ := hc 0 (by cases xs with | nil => exact absurd rfl hx | cons => simp)
      exact World.block_lt_of_cell? w _ h3
    · obtain ⟨⟨f, t⟩, h1, h3, h4⟩ := hc k hk
      exact ⟨f, t, by rw [hb.cell (World.block_lt_of_cell? w _ h3)]; exact h3, by rw [hb.cell (World.block_lt_of_cell? w _ h4)]; exact h4, h1⟩

theorem iRule_any (f t : ByteArray) (w : World) (hf : f.size ≤ 9223372036854775807) (ht : t.size ≤ 9223372036854775807) : Calls Try.prog 60 #[.agg #[.string f, .string t]] w fun e w' => e = .returned (.bool (ruleB (Bt f, Bt t))) ∧ Below w.heap.size w w' := by
  have c1 : Hid (∀ w, Calls Try.prog 67 #[.string f, .int .i64 6] w fun e w' => e = .returned (.bool (okB 6 (Bt f))) ∧ Below w.heap.size w w') := fun w => iText_any f 6 w hf (by omega)
  have c2 : Hid (∀ w, Calls Try.prog 67 #[.string t, .int .i64 6] w fun e w' => e = .returned (.bool (okB 6 (Bt t))) ∧ Below w.heap.size w w') := fun w => iText_any t 6 w ht (by omega)
  have c3 : Hid (∀ w, Calls Try.prog 21 #[.string t, .string f] w fun e w' => e = .returned (.bool (slB (Bt t) (Bt f))) ∧ w' = w) := fun w => iShort_any t f w ht hf
  unfold ruleB
  simp only []
  generalize okB 6 (Bt f) = p1 at *
  generalize okB 6 (Bt t) = p2 at *
  generalize slB (Bt t) (Bt f) = p3 at *
  go_enter Try.func60, Try.ntmps60
  go_wp2_with fail
  refine (c1.out _).mono ?_
  rintro e w1 ⟨rfl, hb1⟩
  have hB1 : Below w.heap.size w w1 := (below1 w _).trans (hb1.mono (by simp))
  have hbb := bcell hb1
  have d0 : w1.cell? ⟨w.heap.size, 0, none⟩ = some (.string f) := by rw [hbb.1 _ _ (by simp)]; simp [go_sem]
  have d1 : w1.cell? ⟨w.heap.size, 1, none⟩ = some (.string t) := by rw [hbb.1 _ _ (by simp)]; simp [go_sem]
  have hz1 : w.heap.size < w1.heap.size := by have := hb1.size; simp at this; omega
  cases p1 with
  | false =>
    go_wp2
    go_ret
    exact ⟨rfl, hB1⟩
  | true =>
    go_wp2_with fail
    refine (c2.out _).mono ?_
    rintro e w2 ⟨rfl, hb2⟩
    have hB2 := bstep' hB1 hb2
    have d0' : w2.cell? ⟨w.heap.size, 0, none⟩ = some (.string f) := by rw [(bcell hb2).1 _ _ hz1]; exact d0
    have d1' : w2.cell? ⟨w.heap.size, 1, none⟩ = some (.string t) := by rw [(bcell hb2).1 _ _ hz1]; exact d1
    cases p2 with
    | false =>
      go_wp2
      go_ret
      exact ⟨rfl, hB2⟩
    | true =>
      go_wp2_with fail
      refine (c3.out _).mono ?_
      rintro e w3 ⟨rfl, rfl⟩
      go_wp2
      go_ret
      exact ⟨rfl, hB2⟩

theorem rs_at {xs : List RB} {k : Nat} {f t : ByteArray} (h : xs[k]? = some (f, t)) : (Rs xs)[k]? = some (Bt f, Bt t) := by simp [Rs, h]
theorem all_step {xs : List RB} {k : Nat} {f t : ByteArray} (h : xs[k]? = some (f, t)) (ha : ((Rs xs).take k).all ruleB = true) (hr : ruleB (Bt f, Bt t) = true) : ((Rs xs).take (k + 1)).all ruleB = true := by
  rw [List.take_add_one, rs_at h, List.all_append, ha]
  simp [hr]
theorem all_done {xs : List RB} {k : Nat} (hk : ¬ k < xs.length) (ha : ((Rs xs).take k).all ruleB = true) : rulesB (Rs xs) = decide (xs.length ≤ 8) := by
  rw [List.take_of_length_le (by rw [Rs_length]; omega)] at ha
  rw [rulesB, ha, Bool.and_true, Rs_length]
theorem all_fail {xs : List RB} {k : Nat} {f t : ByteArray} (h : xs[k]? = some (f, t)) (hr : ruleB (Bt f, Bt t) = false) : rulesB (Rs xs) = false := by
  rw [rulesB, all_bad' (rs_at h) hr, Bool.and_false]
theorem short_at {xs : List RB} {k : Nat} {f t : ByteArray} (hs : ∀ x ∈ xs, Short x) (h : xs[k]? = some (f, t)) : f.size ≤ 9223372036854775807 ∧ t.size ≤ 9223372036854775807 := hs (f, t) (List.mem_of_getElem? h)
/-- the program's GoodRules -/
theorem iGood_any (a : Option Addr) (c : Nat) (xs : List RB) (w : World) (hl : xs.length ≤ 9223372036854775807) (hs : ∀ x ∈ xs, Short x) (h : RRow w a xs) :
    Calls Try.prog 29 #[.slice a xs.length c] w fun e w' => e = .returned (.bool (rulesB (Rs xs))) ∧ Below w.heap.size w w' := by
  by_cases h8 : xs.length ≤ 8
  · by_cases hx : xs = []
    · subst hx
      clear h
      go_enter Try.func29, Try.ntmps29
      go_wp2
      go_loopw [10] (fun t10 wr => t10 = .int .i64 0 ∧ wr = w) (fun _ _ => 0)
      case atStart => exact ⟨rfl, rfl⟩
      case round =>
        obtain ⟨rfl, rfl⟩ := hrel
        go_wp2
        go_ret
        exact ⟨rfl, Below.refl _ _⟩
    · obtain ⟨b, off, rfl, hbw, hat⟩ := h.at hx
      have HA : Hid (_) := hat
      clear hat hx h
      go_enter Try.func29, Try.ntmps29
      go_wp2
      go_loopw [10] (fun t10 wr => ∃ k : Nat, t10 = .int .i64 k ∧ k ≤ xs.length ∧ ((Rs xs).take k).all ruleB = true ∧ Below w.heap.size w wr) (fun t10 _ => xs.length - (intOf t10).toNat)
      case atStart => exact ⟨0, rfl, by omega, by simp, Below.refl _ _⟩
      case round =>
        obtain ⟨k, rfl, hk, hg, hB⟩ := hrel
        by_cases hlt : k < xs.length
        · obtain ⟨f, t, c1, c2, HX⟩ := HA.out wr hB k hlt
          have hft := short_at hs HX.out
          have hbr : b < wr.heap.size := Nat.lt_of_lt_of_le hbw hB.size
          have hBa : Below w.heap.size w (wr.alloc (.cells #[.string f, .string t] 82)) := hB.alloc hB.size _
          have cR : ∀ w, _ := fun w => iRule_any f t w hft.1 hft.2
          cases hr : ruleB (Bt f, Bt t) with
          | true =>
            rw [hr] at cR
            have HR : Hid (∀ w, Calls Try.prog 60 #[.agg #[.string f, .string t]] w fun e w' => e = .returned (.bool true) ∧ Below w.heap.size w w') := cR
            clear cR
            go_wp2_with (go_at_call 60; refine (HR.out _).mono ?_; rintro e w1 ⟨rfl, hb1⟩)
            go_roundw
            case rel => exact ⟨k + 1, by go_num, hlt, all_step HX.out hg hr, bstep hBa (by simp; have := hB.size; omega) hb1⟩
            case measure => simp [intOf]; omega
          | false =>
            rw [hr] at cR
            have HR : Hid (∀ w, Calls Try.prog 60 #[.agg #[.string f, .string t]] w fun e w' => e = .returned (.bool false) ∧ Below w.heap.size w w') := cR
            clear cR
            go_wp2_with (go_at_call 60; refine (HR.out _).mono ?_; rintro e w1 ⟨rfl, hb1⟩)
            go_ret
            exact ⟨by rw [all_fail HX.out hr] <;> rfl, bstep hBa (by simp; have := hB.size; omega) hb1⟩
        · go_wp2
          go_ret
          refine ⟨?_, hB⟩
          rw [all_done hlt hg]
          simp [h8]
  · go_enter Try.func29, Try.ntmps29
    go_wp2
    go_ret
    refine ⟨?_, Below.refl _ _⟩
    have : rulesB (Rs xs) = false := by simp [rulesB, Rs_length, h8]
    rw [this] <;> rfl
/-- the model's GoodRules -/
theorem sGood_any (a : Option Addr) (c : Nat) (xs : List RB) (w : World) (hl : xs.length ≤ 9223372036854775807) (hs : ∀ x ∈ xs, Short x) (h : RRow w a xs) :
    Calls Try.prog 35 #[.slice a xs.length c] w fun e w' => e = .returned (.bool (rulesB (Rs xs))) ∧ Below w.heap.size w w' := by
  by_cases hx : xs = []
  · subst hx
    clear h
    go_enter Try.func35, Try.ntmps35
    go_wp2
    go_loopw [7] (fun t10 wr => t10 = .int .i64 0 ∧ wr = w) (fun _ _ => 0)
    case atStart => exact ⟨rfl, rfl⟩
    case round =>
      obtain ⟨rfl, rfl⟩ := hrel
      go_wp2
      go_ret
      exact ⟨rfl, Below.refl _ _⟩
  · obtain ⟨b, off, rfl, hbw, hat⟩ := h.at hx
    have HA : Hid (_) := hat
    clear hat hx h
    go_enter Try.func35, Try.ntmps35
    go_wp2
    go_loopw [7] (fun t10 wr => ∃ k : Nat, t10 = .int .i64 k ∧ k ≤ xs.length ∧ ((Rs xs).take k).all ruleB = true ∧ Below w.heap.size w wr) (fun t10 _ => xs.length - (intOf t10).toNat)
    case atStart => exact ⟨0, rfl, by omega, by simp, Below.refl _ _⟩
    case round =>
      obtain ⟨k, rfl, hk, hg, hB⟩ := hrel
      by_cases hlt : k < xs.length
      · obtain ⟨f, t, c1, c2, HX⟩ := HA.out wr hB k hlt
        have hft := short_at hs HX.out
        have hbr : b < wr.heap.size := Nat.lt_of_lt_of_le hbw hB.size
        have hBa : Below w.heap.size w (wr.alloc (.cells #[.string f, .string t] 82)) := hB.alloc hB.size _
        have k1 : Hid (∀ w, Calls Try.prog 48 #[.string f, .int .i64 6] w fun e w' => e = .returned (.bool (okB 6 (Bt f))) ∧ w' = w) := fun w => sText_any f 6 w hft.1 (by omega)
        have k2 : Hid (∀ w, Calls Try.prog 48 #[.string t, .int .i64 6] w fun e w' => e = .returned (.bool (okB 6 (Bt t))) ∧ w' = w) := fun w => sText_any t 6 w hft.2 (by omega)
        have k3 : Hid (∀ w, Calls Try.prog 33 #[.string t, .string f] w fun e w' => e = .returned (.bool (slB (Bt t) (Bt f))) ∧ w' = w) := fun w => sShort_any t f w hft.2 hft.1
        have hne : f.toList = [] → ruleB (Bt f, Bt t) = false := by
          intro h0
          have h1 : Bt f = [] := by rw [← Bt_toList]; exact h0
          cases h2 : ruleB (Bt f, Bt t)
          · rfl
          · simp only [ruleB, Bool.and_eq_true] at h2
            rw [h1] at h2
            cases h3 : Bt t <;> simp [slB, h3, Op.bytesLess] at h2
        by_cases h0 : f.toList = []
        · have HF : Hid (rulesB (Rs xs) = false) := all_fail HX.out (hne h0)
          go_wp2
          go_ret
          exact ⟨by rw [HF.out] <;> rfl, hBa⟩
        clear hne
        have hem : f.toList.isEmpty = false := by cases hf0 : f.toList with | nil => exact absurd hf0 h0 | cons => rfl
        cases e1 : okB 6 (Bt f) with
        | false =>
          rw [e1] at k1
          have HF : Hid (rulesB (Rs xs) = false) := all_fail HX.out (by simp [ruleB, e1])
          go_wp2_with (first | (go_at_call_of 48 (Value.string f); refine (k1.out _).mono ?_; rintro e w1 ⟨rfl, hw⟩; subst w1))
          go_ret
          exact ⟨by rw [HF.out] <;> rfl, hBa⟩
        | true =>
          rw [e1] at k1
          cases e2 : okB 6 (Bt t) with
          | false =>
            rw [e2] at k2
            have HF : Hid (rulesB (Rs xs) = false) := all_fail HX.out (by simp [ruleB, e2])
            go_wp2_with fail
            refine (k1.out _).mono ?_
            rintro e w1 ⟨rfl, rfl⟩
            go_wp2_with fail
            refine (k2.out _).mono ?_
            rintro e w1 ⟨rfl, rfl⟩
            go_wp2
            go_ret
            exact ⟨by rw [HF.out] <;> rfl, hBa⟩
          | true =>
            rw [e2] at k2
            cases e3 : slB (Bt t) (Bt f) with
            | false =>
              rw [e3] at k3
              have HF : Hid (rulesB (Rs xs) = false) := all_fail HX.out (by simp [ruleB, e3])
              go_wp2_with fail
              refine (k1.out _).mono ?_
              rintro e w1 ⟨rfl, rfl⟩
              go_wp2_with fail
              refine (k2.out _).mono ?_
              rintro e w1 ⟨rfl, rfl⟩
              go_wp2_with fail
              refine (k3.out _).mono ?_
              rintro e w1 ⟨rfl, rfl⟩
              go_wp2
              go_ret
              exact ⟨by rw [HF.out] <;> rfl, hBa⟩
            | true =>
              rw [e3] at k3
              have HF : Hid (((Rs xs).take (k + 1)).all ruleB = true) := all_step HX.out hg (by simp [ruleB, e1, e2, e3])
              go_wp2_with fail
              refine (k1.out _).mono ?_
              rintro e w1 ⟨rfl, rfl⟩
              go_wp2_with fail
              refine (k2.out _).mono ?_
              rintro e w1 ⟨rfl, rfl⟩
              go_wp2_with fail
              refine (k3.out _).mono ?_
              rintro e w1 ⟨rfl, rfl⟩
              go_wp2
              refine ⟨⟨k + 1, by go_num, hlt, HF.out, hBa⟩, ?_⟩
              simp [intOf]; omega
      · go_wp2
        go_ret
        refine ⟨?_, hB⟩
        rw [all_done hlt hg]
        simp
        omega
end Go.Proofs.Ytpjhmminbndgiaa
