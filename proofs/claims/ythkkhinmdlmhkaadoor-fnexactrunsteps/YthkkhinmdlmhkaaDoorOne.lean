/- What tells whether a step may stand somewhere: the program's table and tests, and the model's. -/
import Derived.Test.YthkkhinmdlmhkaaDoorSteps3
namespace Go.Proofs.YthkkhinmdlmhkaaDoor
open Go.RowKit
set_option linter.unusedVariables false
set_option linter.unusedSimpArgs false
set_option maxRecDepth 100000

/-- the words of the Ops -/
def wordL : Nat → List UInt8
  | 1 => [99, 111, 110, 115, 116]
  | 2 => [103, 101, 116]
  | 3 => [115, 101, 116]
  | 4 => [97, 100, 100]
  | 5 => [115, 117, 98]
  | 6 => [109, 117, 108]
  | 7 => [100, 105, 118]
  | 8 => [108, 101, 115, 115]
  | 9 => [101, 113]
  | 10 => [108, 111, 97, 100]
  | 11 => [115, 116, 111, 114, 101]
  | 12 => [111, 117, 116]
  | 13 => [100, 114, 111, 112]
  | 14 => [116, 114, 97, 112]
  | 15 => [98, 108, 111, 99, 107]
  | 16 => [108, 111, 111, 112]
  | 17 => [105, 102]
  | 18 => [101, 108, 115, 101]
  | 19 => [101, 110, 100]
  | 20 => [98, 114]
  | 21 => [98, 114, 105, 102]
  | 22 => [116, 97, 98, 108, 101]
  | _ => []
/-- the program's table lies in a world -/
def Tab (w : World) : Prop := ∀ k : Nat, k < 23 → w.cell? ⟨4, k * 2, none⟩ = some (.string ⟨(wordL k).toArray⟩) ∧ w.cell? ⟨4, k * 2 + 1, none⟩ = some (.int .i64 (mostN k))
theorem Tab.below {w w' : World} (h : Tab w) (hb : Below w.heap.size w w') : Tab w' := fun k hk => by
  obtain ⟨h1, h2⟩ := h k hk
  exact ⟨by rw [hb.cell (World.block_lt_of_cell? w _ h1)]; exact h1, by rw [hb.cell (World.block_lt_of_cell? w _ h2)]; exact h2⟩

theorem ret_bool {a b : Bool} (h : a = b) : Ending.returned (.bool a) = .returned (.bool b) := by rw [h]

theorem isOp_any (op : Int) (w : World) : Calls Tryd.prog 95 #[.int .i64 op] w fun e w' => e = .returned (.bool (isOpB op)) ∧ w' = w := by
  by_cases h1 : 1 ≤ op
  · go_enter Tryd.func95, Tryd.ntmps95
    go_wp2
    go_ret
    exact ⟨ret_bool (by simp [isOpB, h1]), rfl⟩
  · go_enter Tryd.func95, Tryd.ntmps95
    go_wp2
    go_ret
    exact ⟨ret_bool (by simp [isOpB]; omega), rfl⟩

theorem fitsOp_any (op n : Int) (w : World) (h : isOpB op = true) (hT : Tab w) : Calls Tryd.prog 96 #[.int .i64 op, .int .i64 n] w fun e w' => e = .returned (.bool (fitsB op n)) ∧ w' = w := by
  have hb : 1 ≤ op ∧ op ≤ 22 := by simpa [isOpB] using h
  obtain ⟨k, rfl⟩ := Int.eq_ofNat_of_zero_le (show 0 ≤ op by omega)
  obtain ⟨_, hc⟩ := hT k (by omega)
  obtain ⟨m, hm⟩ : ∃ m : Int, mostN k = m := ⟨_, rfl⟩
  rw [hm] at hc
  have hk : k ≤ 22 := by omega
  clear h hT hb
  by_cases h0 : 0 ≤ n
  · go_enter Tryd.func96, Tryd.ntmps96
    go_wp2
    go_ret
    exact ⟨ret_bool (by simp [fitsB, h0, hm]), rfl⟩
  · go_enter Tryd.func96, Tryd.ntmps96
    go_wp2
    go_ret
    exact ⟨ret_bool (by simp [fitsB]; omega), rfl⟩

theorem closure_any (bx : Nat) (n : Int) (w : World) (hT : Tab w) (hc : w.cell? ⟨bx, 0, none⟩ = some (.int .i64 22)) :
    Calls Tryd.prog 97 #[.int .i64 n, .pointer (some ⟨bx, 0, none⟩)] w fun e w' => e = .returned (.bool (!fitsB 22 n)) ∧ w' = w := by
  go_enter Tryd.func97, Tryd.ntmps97
  go_wp2_with (go_at_call 96; refine (fitsOp_any 22 n _ (by decide) hT).mono ?_; rintro e w' ⟨rfl, rfl⟩)
  go_ret
  exact ⟨rfl, rfl⟩

theorem Row.at {w : World} {a : Option Addr} {t : List Int} (h : Row w a t) (hx : t ≠ []) : ∃ b off, a = some ⟨b, off, none⟩ ∧ b < w.heap.size ∧ ∀ w', Below w.heap.size w w' → ∀ k, k < t.length → ∃ v, w'.cell? ⟨b, off + k, none⟩ = some (.int .i64 v) ∧ Hid (t[k]? = some v) := by
  rcases h with h | ⟨b, off, rfl, hc⟩
  · exact absurd h hx
  · refine ⟨b, off, rfl, World.block_lt_of_cell? w _ (hc 0 (by cases t with | nil => exact absurd rfl hx | cons => simp)), fun w' hb k hk => ⟨t[k], ?_, ?_⟩⟩
    · rw [hb.cell (World.block_lt_of_cell? w _ (hc k hk)), hc k hk]; simp [hk]
    · show t[k]? = some t[k]; simp [hk]

theorem allFit_bad {t : List Int} {k : Nat} {v : Int} (h : t[k]? = some v) (hv : fitsB 22 v = false) : allFit t = false := by
  cases ha : allFit t with
  | false => rfl
  | true =>
    unfold allFit at ha
    rw [List.all_eq_true] at ha
    rw [ha v (List.mem_of_getElem? h)] at hv
    cases hv
theorem allFit_of {t : List Int} (h : ∀ (j : Nat) v, t[j]? = some v → fitsB 22 v = true) : allFit t = true := by
  unfold allFit
  rw [List.all_eq_true]
  intro x hx
  obtain ⟨i, hi, rfl⟩ := List.mem_iff_getElem.1 hx
  exact h i _ (by simp)

/-- the library's IndexFunc, with that closure -/
theorem index_any (a : Option Addr) (c : Nat) (t : List Int) (bx : Nat) (w : World) (hl : t.length ≤ 9223372036854775807) (h : Row w a t) (hT : Tab w) (hc : w.cell? ⟨bx, 0, none⟩ = some (.int .i64 22)) :
    Calls Tryd.prog 94 #[.slice a t.length c, .func (.func 97) #[] #[.pointer (some ⟨bx, 0, none⟩)]] w fun e w' => (∃ r : Int, e = .returned (.int .i64 r) ∧ decide (0 ≤ r) = !allFit t) ∧ w' = w := by
  by_cases hx : t = []
  · subst hx
    clear h hT
    go_enter Tryd.func94, Tryd.ntmps94
    go_wp2
    go_loop [8] (fun t => t = .int .i64 0) (fun t => 0)
    case atStart => exact rfl
    case round =>
      obtain rfl := hrel
      go_wp2
      go_ret
      exact ⟨⟨_, rfl, rfl⟩, rfl⟩
  · obtain ⟨b, off, rfl, hbw, hat⟩ := h.at hx
    have HA : Hid (_) := hat
    have HT : Hid (Tab w) := hT
    clear hat hx h hT
    go_enter Tryd.func94, Tryd.ntmps94
    go_wp2
    go_loop [8] (fun t8 => ∃ (k : Nat), t8 = .int .i64 k ∧ k ≤ t.length ∧ (∀ j v, j < k → t[j]? = some v → fitsB 22 v = true)) (fun t8 => t.length - (intOf t8).toNat)
    case atStart => exact ⟨0, rfl, by omega, by intro j x hj; omega⟩
    case round =>
      obtain ⟨k, rfl, hk, hbf⟩ := hrel
      have HF : Hid (∀ j v, j < k → t[j]? = some v → fitsB 22 v = true) := hbf
      clear hbf
      by_cases hlt : k < t.length
      · obtain ⟨v, c1, HX⟩ := HA.out w (Below.refl _ _) k hlt
        have hcl := closure_any bx v w HT.out hc
        cases hv : fitsB 22 v with
        | false =>
          rw [hv] at hcl
          have HC : Hid (Calls Tryd.prog 97 #[.int .i64 v, .pointer (some ⟨bx, 0, none⟩)] w fun e w' => e = .returned (.bool true) ∧ w' = w) := hcl
          have HI : Hid (allFit t = false) := allFit_bad HX.out hv
          clear hcl hv
          go_wp2_with (go_at_call 97; refine HC.out.mono ?_; rintro e w1 ⟨rfl, hw⟩; subst w1)
          go_ret
          exact ⟨⟨_, rfl, by rw [HI.out]; simp⟩, rfl⟩
        | true =>
          rw [hv] at hcl
          have HC : Hid (Calls Tryd.prog 97 #[.int .i64 v, .pointer (some ⟨bx, 0, none⟩)] w fun e w' => e = .returned (.bool false) ∧ w' = w) := hcl
          have HI : Hid (∀ j v, j < k + 1 → t[j]? = some v → fitsB 22 v = true) := by
            intro j u hj hu
            by_cases e : j = k
            · subst e; rw [HX.out] at hu; cases hu; exact hv
            · exact HF.out j u (by omega) hu
          clear hcl hv
          go_wp2_with (go_at_call 97; refine HC.out.mono ?_; rintro e w1 ⟨rfl, hw⟩; subst w1)
          go_round
          case rel => exact ⟨k + 1, by go_num, by omega, HI.out⟩
          case measure => simp [intOf]; omega
      · obtain rfl : k = t.length := by omega
        have HI : Hid (allFit t = true) := allFit_of (fun j v hv => HF.out j v (List.getElem?_eq_some_iff.1 hv).1 hv)
        go_wp2
        go_ret
        exact ⟨⟨_, rfl, by rw [HI.out]; rfl⟩, rfl⟩
theorem contains_any (a : Option Addr) (c : Nat) (t : List Int) (bx : Nat) (w : World) (hl : t.length ≤ 9223372036854775807) (h : Row w a t) (hT : Tab w) (hc : w.cell? ⟨bx, 0, none⟩ = some (.int .i64 22)) :
    Calls Tryd.prog 69 #[.slice a t.length c, .func (.func 97) #[] #[.pointer (some ⟨bx, 0, none⟩)]] w fun e w' => e = .returned (.bool (!allFit t)) ∧ w' = w := by
  have H : Hid (Row w a t ∧ Tab w ∧ w.cell? ⟨bx, 0, none⟩ = some (.int .i64 22)) := ⟨h, hT, hc⟩
  clear h hT hc
  go_enter Tryd.func69, Tryd.ntmps69
  go_wp2_with fail
  refine (index_any a c t bx w hl H.out.1 H.out.2.1 H.out.2.2).mono ?_
  rintro e w1 ⟨⟨r, rfl, hr⟩, hw⟩
  subst w1
  have HR : Hid (_) := hr
  clear hr
  go_wp2
  go_ret
  exact ⟨ret_bool HR.out, rfl⟩

theorem one_noop {op n : Int} {t : List Int} (h : isOpB op = false) : oneS (op, n, t) = false := by simp [oneS, h]
theorem one_nofit {op n : Int} {t : List Int} (h : fitsB op n = false) : oneS (op, n, t) = false := by simp [oneS, h]
theorem one_plain {op n : Int} {t : List Int} (h : isOpB op = true) (h1 : fitsB op n = true) (h2 : op ≠ 22) : oneS (op, n, t) = decide (t.length = 0) := by simp [oneS, h, h1, h2]
theorem one_table {n : Int} {t : List Int} (h1 : fitsB 22 n = true) : oneS (22, n, t) = (decide (1 ≤ t.length) && decide (t.length ≤ 4) && allFit t) := by
  have h : isOpB 22 = true := by decide
  simp [oneS, h, h1]

set_option maxHeartbeats 1000000 in
/-- the program's mayStand -/
theorem mayStand_any (op n : Int) (t : List Int) (ta : Option Addr) (tc : Nat) (w : World) (hl : t.length ≤ 9223372036854775807) (hR : Row w ta t) (hT : Tab w) :
    Calls Tryd.prog 72 #[.agg #[.int .i64 op, .int .i64 n, .slice ta t.length tc]] w fun e w' => e = .returned (.bool (oneS (op, n, t))) ∧ Below w.heap.size w w' := by
  have HT : Hid (∀ w', Below w.heap.size w w' → Tab w') := fun w' hb => hT.below hb
  have HR : Hid (Row w ta t) := hR
  clear hT hR
  have hop := fun w => isOp_any op w
  cases h1 : isOpB op with
  | false =>
    rw [h1] at hop
    rw [one_noop h1]
    go_enter Tryd.func72, Tryd.ntmps72
    go_wp2_with (go_at_call 95; refine (hop _).mono ?_; rintro e w' ⟨rfl, rfl⟩)
    go_ret
    exact ⟨rfl, below1 w _⟩
  | true =>
    rw [h1] at hop
    have hft := fun w' hb => fitsOp_any op n w' h1 (HT.out w' hb)
    cases h2 : fitsB op n with
    | false =>
      rw [h2] at hft
      rw [one_nofit h2]
      have HF : Hid (_) := hft
      clear hft h1 h2
      go_enter Tryd.func72, Tryd.ntmps72
      go_wp2_with (first | (go_at_call 95; refine (hop _).mono ?_; rintro e w' ⟨rfl, rfl⟩) | (go_at_call 96; refine (HF.out _ (below1 w _)).mono ?_; rintro e w' ⟨rfl, rfl⟩))
      go_ret
      exact ⟨rfl, below1 w _⟩
    | true =>
      rw [h2] at hft
      have HF : Hid (_) := hft
      clear hft
      by_cases h22 : op = 22
      · subst h22
        rw [one_table h2]
        clear h1 h2
        by_cases h0 : t.length = 0
        · have he : (decide (1 ≤ t.length) && decide (t.length ≤ 4) && allFit t) = false := by simp [h0]
          rw [he]
          clear he
          go_enter Tryd.func72, Tryd.ntmps72
          go_wp2_with (first | (go_at_call 95; refine (hop _).mono ?_; rintro e w' ⟨rfl, rfl⟩) | (go_at_call 96; refine (HF.out _ (below1 w _)).mono ?_; rintro e w' ⟨rfl, rfl⟩))
          go_ret
          exact ⟨rfl, below1 w _⟩
        · by_cases h4 : t.length ≤ 4
          · have he : (decide (1 ≤ t.length) && decide (t.length ≤ 4) && allFit t) = allFit t := by
              have : decide (1 ≤ t.length) = true := by simp; omega
              simp [h4, this]
            rw [he]
            clear he
            have hz : ((t.length : Int) == 0) = false := beq_eq_false_iff_ne.2 (by omega)
            have HC : Hid (Calls Tryd.prog 69 #[.slice ta t.length tc, .func (.func 97) #[] #[.pointer (some ⟨w.heap.size, 0, none⟩)]] (w.alloc (.cells #[.int .i64 22, .int .i64 n, .slice ta t.length tc] 59)) fun e w' => e = .returned (.bool (!allFit t)) ∧ w' = (w.alloc (.cells #[.int .i64 22, .int .i64 n, .slice ta t.length tc] 59))) :=
              contains_any ta tc t w.heap.size _ hl (HR.out.below (below1 w _)) (HT.out _ (below1 w _)) (by simp [go_sem])
            go_enter Tryd.func72, Tryd.ntmps72
            go_wp2_with (first | (go_at_call 95; refine (hop _).mono ?_; rintro e w' ⟨rfl, rfl⟩) | (go_at_call 96; refine (HF.out _ (below1 w _)).mono ?_; rintro e w' ⟨rfl, rfl⟩) | (go_at_call 69; refine HC.out.mono ?_; rintro e w' ⟨rfl, rfl⟩))
            go_ret
            exact ⟨ret_bool (by simp), below1 w _⟩
          · have he : (decide (1 ≤ t.length) && decide (t.length ≤ 4) && allFit t) = false := by simp [h4]
            have hz : ((t.length : Int) == 0) = false := beq_eq_false_iff_ne.2 (by omega)
            rw [he]
            clear he
            go_enter Tryd.func72, Tryd.ntmps72
            go_wp2_with (first | (go_at_call 95; refine (hop _).mono ?_; rintro e w' ⟨rfl, rfl⟩) | (go_at_call 96; refine (HF.out _ (below1 w _)).mono ?_; rintro e w' ⟨rfl, rfl⟩))
            go_ret
            exact ⟨rfl, below1 w _⟩
      · rw [one_plain h1 h2 h22]
        clear h1 h2
        by_cases h0 : t.length = 0
        all_goals
          go_enter Tryd.func72, Tryd.ntmps72
          go_wp2_with (first | (go_at_call 95; refine (hop _).mono ?_; rintro e w' ⟨rfl, rfl⟩) | (go_at_call 96; refine (HF.out _ (below1 w _)).mono ?_; rintro e w' ⟨rfl, rfl⟩))
          go_ret
          exact ⟨ret_bool (by simp [h0]), below1 w _⟩
end Go.Proofs.YthkkhinmdlmhkaaDoor
