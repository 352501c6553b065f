/- How far a step goes out, by the program; and the model's tests on a step. -/
import Derived.Test.YthkkhinmdlmhkaaDoorOne
namespace Go.Proofs.YthkkhinmdlmhkaaDoor
open Go.RowKit
set_option linter.unusedVariables false
set_option linter.unusedSimpArgs false
set_option maxRecDepth 100000

theorem below_cell {W : World} (o : Obj) {b off : Nat} {v : Value} (h : W.cell? ⟨b, off, none⟩ = some v) : (W.alloc o).cell? ⟨b, off, none⟩ = some v := by
  rw [(below1 W o).cell (World.block_lt_of_cell? W _ h)]; exact h

/-- the program's farthest -/
theorem farthest_any (op n : Int) (t : List Int) (ta : Option Addr) (tc : Nat) (w : World) (hl : t.length ≤ 9223372036854775807) (hR : Row w ta t) :
    Calls Tryd.prog 100 #[.agg #[.int .i64 op, .int .i64 n, .slice ta t.length tc]] w fun e w' => (∃ r : Int, e = .returned (.int .i64 r) ∧ ∀ m : Int, r ≤ m ↔ (n ≤ m ∧ ∀ v ∈ t, v ≤ m)) ∧ Below w.heap.size w w' := by
  by_cases hx : t = []
  · subst hx
    clear hR
    go_enter Tryd.func100, Tryd.ntmps100
    go_wp2
    go_loop [3, 11] (fun t3 t11 => t3 = .int .i64 n ∧ t11 = .int .i64 0) (fun _ _ => 0)
    case atStart => exact ⟨rfl, rfl⟩
    case round =>
      obtain ⟨rfl, rfl⟩ := hrel
      go_wp2
      go_ret
      exact ⟨⟨_, rfl, by simp⟩, below1 w _⟩
  · obtain ⟨b, off, rfl, hbw, hat⟩ := hR.at hx
    have HA : Hid (_) := hat
    clear hat hx hR
    go_enter Tryd.func100, Tryd.ntmps100
    go_wp2
    go_loop [3, 11] (fun t3 t11 => ∃ (r : Int) (k : Nat), t3 = .int .i64 r ∧ t11 = .int .i64 k ∧ k ≤ t.length ∧ ∀ m : Int, r ≤ m ↔ (n ≤ m ∧ ∀ v ∈ t.take k, v ≤ m)) (fun _ t11 => t.length - (intOf t11).toNat)
    case atStart => exact ⟨n, 0, rfl, rfl, by omega, by simp⟩
    case round =>
      obtain ⟨r, k, rfl, rfl, hk, hm⟩ := hrel
      have HM : Hid (∀ m : Int, r ≤ m ↔ (n ≤ m ∧ ∀ v ∈ t.take k, v ≤ m)) := hm
      clear hm
      by_cases hlt : k < t.length
      · obtain ⟨v, c1, HX⟩ := HA.out _ (below1 w (.cells #[.int .i64 op, .int .i64 n, .slice (some ⟨b, off, none⟩) t.length tc] 59)) k hlt
        go_wp2
        go_round
        case rel =>
          refine ⟨_, k + 1, rfl, by go_num, by omega, fun m => ?_⟩
          have h1 := HM.out m
          rw [List.take_add_one, HX.out]
          simp only [List.mem_append, Option.toList_some, List.mem_singleton]
          constructor
          · intro h
            have hr : r ≤ m := by split at h <;> omega
            have hv : v ≤ m := by split at h <;> omega
            refine ⟨(h1.1 hr).1, fun u hu => ?_⟩
            rcases hu with hu | rfl
            · exact (h1.1 hr).2 u hu
            · exact hv
          · rintro ⟨h2, h3⟩
            have hr := h1.2 ⟨h2, fun u hu => h3 u (.inl hu)⟩
            have hv := h3 v (.inr rfl)
            split <;> omega
        case measure => simp [intOf]; omega
      · obtain rfl : k = t.length := by omega
        go_wp2
        go_ret
        refine ⟨⟨_, rfl, ?_⟩, below1 w _⟩
        have := HM.out
        rwa [List.take_of_length_le (Nat.le_refl _)] at this

theorem fits_in (n : Int) : fitsB 22 n = inB 0 8 n := by
  rw [← inB_and]; rfl
theorem l3Depth_any (n : Int) (w : World) : Calls Tryd.prog 63 #[.int .i64 n] w fun e w' => e = .returned (.bool (inB 0 8 n)) ∧ w' = w := by
  go_enter Tryd.func63, Tryd.ntmps63
  go_wp2_with (go_at_call 40; refine (l1In_any _ _ _ _).mono ?_; rintro e w' ⟨rfl, rfl⟩)
  go_ret
  exact ⟨rfl, rfl⟩
theorem l3Opens_any (op : Int) (w : World) : Calls Tryd.prog 51 #[.int .i64 op] w fun e w' => e = .returned (.bool (opensB op)) ∧ w' = w := by
  have he : opensB op = inB 15 17 op := by rw [← inB_and]; rfl
  rw [he]
  go_enter Tryd.func51, Tryd.ntmps51
  go_wp2_with (go_at_call 40; refine (l1In_any _ _ _ _).mono ?_; rintro e w' ⟨rfl, rfl⟩)
  go_ret
  exact ⟨rfl, rfl⟩

theorem most_one : mostN 1 = 65535 := by decide
theorem one_const {n : Int} {t : List Int} (ht : t.length = 0) : oneS (1, n, t) = inB 0 65535 n := by
  rw [← inB_and]; simp [oneS, isOpB, fitsB, mostN, ht]
theorem one_local {op n : Int} {t : List Int} (ht : t.length = 0) (h : op = 2 ∨ op = 3) : oneS (op, n, t) = inB 0 7 n := by
  rw [← inB_and]; rcases h with rfl | rfl <;> simp [oneS, isOpB, fitsB, mostN, ht]
theorem one_br {op n : Int} {t : List Int} (ht : t.length = 0) (h : op = 20 ∨ op = 21) : oneS (op, n, t) = inB 0 8 n := by
  rw [← inB_and]; rcases h with rfl | rfl <;> simp [oneS, isOpB, fitsB, mostN, ht]
theorem one_full {op n : Int} {t : List Int} (ht : ¬ t.length = 0) (h : op ≠ 22) : oneS (op, n, t) = false := by
  have h2 : decide (t.length = 0) = false := by simp only [decide_eq_false_iff_not]; exact ht
  simp only [oneS, if_neg h, h2, Bool.and_false]
theorem one_rest {op n : Int} {t : List Int} (ht : t.length = 0) (h1 : op ≠ 1) (h2 : op ≠ 2) (h3 : op ≠ 3) (h20 : op ≠ 20) (h21 : op ≠ 21) (h22 : op ≠ 22) : oneS (op, n, t) = (inB 4 19 op && n == 0) := by
  have hm : mostN op = 0 ∨ ¬ (1 ≤ op ∧ op ≤ 22) := by
    unfold mostN
    by_cases h : 1 ≤ op ∧ op ≤ 22
    · left; rw [if_neg h1, if_neg (by omega), if_neg (by omega)]
    · exact .inr h
  rw [Bool.eq_iff_iff]
  simp only [oneS, isOpB, fitsB, inB, Bool.and_eq_true, decide_eq_true_eq, beq_iff_eq, if_neg h22]
  rcases hm with hm | hm
  · rw [hm]; omega
  · omega

set_option maxHeartbeats 1000000 in
/-- the model's loop over a Table -/
theorem l3One_table (n : Int) (t : List Int) (ta : Option Addr) (tc : Nat) (w : World) (hl : t.length ≤ 9223372036854775807) (hR : Row w ta t) :
    Calls Tryd.prog 52 #[.agg #[.int .i64 22, .int .i64 n, .slice ta t.length tc]] w fun e w' => e = .returned (.bool (oneS (22, n, t))) ∧ Below w.heap.size w w' := by
  obtain ⟨u, hu⟩ : ∃ u, inB 0 8 n = u := ⟨_, rfl⟩
  have hdn := fun w => l3Depth_any n w
  rw [hu] at hdn
  have HN : Hid (fitsB 22 n = u) := by show _ = _; rw [fits_in]; exact hu
  clear hu
  by_cases hx : t = []
  · subst hx
    clear hR
    cases u
    all_goals
      go_enter Tryd.func52, Tryd.ntmps52
      go_wp2
      go_loop [11] (fun t11 => t11 = .int .i64 0) (fun _ => 0)
      case atStart => exact rfl
      case round =>
        obtain rfl := hrel
        go_wp2_with (first | (go_at_call 63; refine (hdn _).mono ?_; rintro e w' ⟨rfl, rfl⟩) | (go_at_call 40; refine (l1In_any _ _ _ _).mono ?_; rintro e w' ⟨rfl, rfl⟩))
        go_ret
        refine ⟨ret_bool ?_, below1 w _⟩
        first | (rw [one_nofit HN.out]) | (rw [one_table HN.out]; decide)
  · obtain ⟨b, off, rfl, hbw, hat⟩ := hR.at hx
    have HA : Hid (_) := hat
    have HX0 : Hid (t ≠ []) := hx
    clear hat hx hR
    cases u
    all_goals
      go_enter Tryd.func52, Tryd.ntmps52
      go_wp2
      go_loop [11] (fun t11 => ∃ (k : Nat), t11 = .int .i64 k ∧ k ≤ t.length ∧ (∀ (j : Nat) v, j < k → t[j]? = some v → fitsB 22 v = true)) (fun t11 => t.length - (intOf t11).toNat)
      case atStart => exact ⟨0, rfl, by omega, by intro j v hj; omega⟩
      case round =>
        obtain ⟨k, rfl, hk, hf⟩ := hrel
        have HF : Hid (∀ (j : Nat) v, j < k → t[j]? = some v → fitsB 22 v = true) := hf
        clear hf
        by_cases hlt : k < t.length
        · obtain ⟨v, c1, HX⟩ := HA.out _ (below1 w (.cells #[.int .i64 22, .int .i64 n, .slice (some ⟨b, off, none⟩) t.length tc] 59)) k hlt
          have hd := fun w => l3Depth_any v w
          obtain ⟨u, hu⟩ : ∃ u, inB 0 8 v = u := ⟨_, rfl⟩
          rw [hu] at hd
          have HV : Hid (fitsB 22 v = u) := by show _ = _; rw [fits_in]; exact hu
          clear hu
          cases u
          · go_wp2_with (go_at_call 63; refine (hd _).mono ?_; rintro e w' ⟨rfl, rfl⟩)
            go_ret
            refine ⟨ret_bool ?_, below1 w _⟩
            have := allFit_bad HX.out HV.out
            simp [oneS, this]
          · go_wp2_with (go_at_call 63; refine (hd _).mono ?_; rintro e w' ⟨rfl, rfl⟩)
            go_round
            case rel =>
              refine ⟨k + 1, by go_num, by omega, fun j u hj hu => ?_⟩
              by_cases e : j = k
              · subst e; rw [HX.out] at hu; cases hu; exact HV.out
              · exact HF.out j u (by omega) hu
            case measure => simp [intOf]; omega
        · obtain rfl : k = t.length := by omega
          have HI : Hid (allFit t = true) := allFit_of (fun j v hv => HF.out j v (List.getElem?_eq_some_iff.1 hv).1 hv)
          go_wp2_with (first | (go_at_call 63; refine (hdn _).mono ?_; rintro e w' ⟨rfl, rfl⟩) | (go_at_call 40; refine (l1In_any _ _ _ _).mono ?_; rintro e w' ⟨rfl, rfl⟩))
          go_ret
          refine ⟨ret_bool ?_, below1 w _⟩
          first
            | (rw [one_nofit HN.out])
            | (rw [one_table HN.out, HI.out, Bool.and_true, ← inB_and, Bool.eq_iff_iff]; simp only [Bool.and_eq_true, decide_eq_true_eq]; omega)

set_option maxHeartbeats 1000000 in
/-- the model's test on a step -/
theorem l3One_any (op n : Int) (t : List Int) (ta : Option Addr) (tc : Nat) (w : World) (hl : t.length ≤ 9223372036854775807) (hR : Row w ta t) :
    Calls Tryd.prog 52 #[.agg #[.int .i64 op, .int .i64 n, .slice ta t.length tc]] w fun e w' => e = .returned (.bool (oneS (op, n, t))) ∧ Below w.heap.size w w' := by
  by_cases h22 : op = 22
  · subst h22
    exact l3One_table n t ta tc w hl hR
  · clear hR
    by_cases h0 : t.length = 0
    · have h0' : ¬ (0 : Int) < t.length := by omega
      by_cases h1 : op = 1
      · subst h1
        rw [one_const h0]
        go_enter Tryd.func52, Tryd.ntmps52
        go_wp2_with (first | (go_at_call 40; refine (l1In_any _ _ _ _).mono ?_; rintro e w' ⟨rfl, rfl⟩))
        go_ret
        exact ⟨rfl, below1 w _⟩
      · by_cases h2 : op = 2
        · subst h2
          rw [one_local h0 (.inl rfl)]
          go_enter Tryd.func52, Tryd.ntmps52
          go_wp2_with (first | (go_at_call 40; refine (l1In_any _ _ _ _).mono ?_; rintro e w' ⟨rfl, rfl⟩))
          go_ret
          exact ⟨rfl, below1 w _⟩
        · by_cases h3 : op = 3
          · subst h3
            rw [one_local h0 (.inr rfl)]
            go_enter Tryd.func52, Tryd.ntmps52
            go_wp2_with (first | (go_at_call 40; refine (l1In_any _ _ _ _).mono ?_; rintro e w' ⟨rfl, rfl⟩))
            go_ret
            exact ⟨rfl, below1 w _⟩
          · by_cases h20 : op = 20
            · subst h20
              rw [one_br h0 (.inl rfl)]
              go_enter Tryd.func52, Tryd.ntmps52
              go_wp2_with (first | (go_at_call 63; refine (l3Depth_any _ _).mono ?_; rintro e w' ⟨rfl, rfl⟩))
              go_ret
              exact ⟨rfl, below1 w _⟩
            · by_cases h21 : op = 21
              · subst h21
                rw [one_br h0 (.inr rfl)]
                go_enter Tryd.func52, Tryd.ntmps52
                go_wp2_with (first | (go_at_call 63; refine (l3Depth_any _ _).mono ?_; rintro e w' ⟨rfl, rfl⟩))
                go_ret
                exact ⟨rfl, below1 w _⟩
              · rw [one_rest h0 h1 h2 h3 h20 h21 h22]
                have hin := fun w => l1In_any op 4 19 w
                obtain ⟨u, hu⟩ : ∃ u, inB 4 19 op = u := ⟨_, rfl⟩
                rw [hu] at hin ⊢
                clear hu
                cases u
                all_goals
                  go_enter Tryd.func52, Tryd.ntmps52
                  go_wp2_with (first | (go_at_call 40; refine (hin _).mono ?_; rintro e w' ⟨rfl, rfl⟩))
                  go_ret
                  exact ⟨ret_bool (by first | rfl | simp), below1 w _⟩
    · rw [one_full h0 h22]
      have h0' : (0 : Int) < t.length := by omega
      go_enter Tryd.func52, Tryd.ntmps52
      go_wp2
      go_ret
      exact ⟨rfl, below1 w _⟩

theorem within_bad {op n : Int} {t : List Int} {m k : Nat} {v : Int} (h : t[k]? = some v) (hv : ¬ v ≤ m) : withinB (op, n, t) m = false := by
  have : t.all (leB m) = false := by
    cases ha : t.all (leB m) with
    | false => rfl
    | true =>
      rw [List.all_eq_true] at ha
      have := ha v (List.mem_of_getElem? h)
      simp [leB] at this
      omega
  simp only [withinB, this, Bool.false_and]
theorem within_all {op n : Int} {t : List Int} {m : Nat} (h : ∀ (j : Nat) v, t[j]? = some v → v ≤ m) : withinB (op, n, t) m = (decide (op < 20) || decide (n ≤ m)) := by
  have : t.all (leB m) = true := by
    rw [List.all_eq_true]
    intro x hx
    obtain ⟨i, hi, rfl⟩ := List.mem_iff_getElem.1 hx
    have := h i t[i] (List.getElem?_eq_getElem hi)
    simp [leB, this]
  simp only [withinB, this, Bool.true_and]; rfl
theorem within_far {op n r : Int} {t : List Int} {m : Nat} (h20 : ¬ op < 20) (hr : ∀ m : Int, r ≤ m ↔ (n ≤ m ∧ ∀ v ∈ t, v ≤ m)) : withinB (op, n, t) m = decide (r ≤ m) := by
  rw [Bool.eq_iff_iff, decide_eq_true_eq, hr m]
  simp only [withinB, leB, Bool.and_eq_true, List.all_eq_true, decide_eq_true_eq, Bool.or_eq_true]
  constructor
  · rintro ⟨h1, h2⟩; exact ⟨by omega, fun v hv => h1 v hv⟩
  · rintro ⟨h1, h2⟩; exact ⟨h2, .inr h1⟩
theorem within_plain {op n : Int} {t : List Int} {m : Nat} (h20 : op < 20) (ht : t.length = 0) : withinB (op, n, t) m = true := by
  obtain rfl : t = [] := List.eq_nil_of_length_eq_zero ht
  simp [withinB, h20]

set_option maxHeartbeats 1000000 in
/-- the model's test on how far a step goes out -/
theorem l3Within_any (op n : Int) (t : List Int) (ta : Option Addr) (tc m : Nat) (w : World) (hl : t.length ≤ 9223372036854775807) (hR : Row w ta t) :
    Calls Tryd.prog 53 #[.agg #[.int .i64 op, .int .i64 n, .slice ta t.length tc], .int .i64 m] w fun e w' => e = .returned (.bool (withinB (op, n, t) m)) ∧ Below w.heap.size w w' := by
  by_cases hx : t = []
  · subst hx
    clear hR
    have HW : Hid (withinB (op, n, []) m = (decide (op < 20) || decide (n ≤ m))) := within_all (by simp)
    by_cases h20 : op < 20
    all_goals
      go_enter Tryd.func53, Tryd.ntmps53
      go_wp2
      go_loop [10] (fun t10 => t10 = .int .i64 0) (fun _ => 0)
      case atStart => exact rfl
      case round =>
        obtain rfl := hrel
        go_wp2
        go_ret
        exact ⟨ret_bool (by simp [HW.out, h20]), below1 w _⟩
  · obtain ⟨b, off, rfl, hbw, hat⟩ := hR.at hx
    have HA : Hid (_) := hat
    clear hat hx hR
    by_cases h20 : op < 20
    all_goals
      go_enter Tryd.func53, Tryd.ntmps53
      go_wp2
      go_loop [10] (fun t10 => ∃ (k : Nat), t10 = .int .i64 k ∧ k ≤ t.length ∧ (∀ (j : Nat) v, j < k → t[j]? = some v → v ≤ m)) (fun t10 => t.length - (intOf t10).toNat)
      case atStart => exact ⟨0, rfl, by omega, by intro j v hj; omega⟩
      case round =>
        obtain ⟨k, rfl, hk, hf⟩ := hrel
        have HF : Hid (∀ (j : Nat) v, j < k → t[j]? = some v → v ≤ m) := hf
        clear hf
        by_cases hlt : k < t.length
        · obtain ⟨v, c1, HX⟩ := HA.out _ (below1 w (.cells #[.int .i64 op, .int .i64 n, .slice (some ⟨b, off, none⟩) t.length tc] 59)) k hlt
          by_cases hv : v ≤ m
          · go_wp2
            go_round
            case rel =>
              refine ⟨k + 1, by go_num, by omega, fun j u hj hu => ?_⟩
              by_cases e : j = k
              · subst e; rw [HX.out] at hu; cases hu; exact hv
              · exact HF.out j u (by omega) hu
            case measure => simp [intOf]; omega
          · go_wp2
            go_ret
            exact ⟨ret_bool (within_bad HX.out (by omega)).symm, below1 w _⟩
        · obtain rfl : k = t.length := by omega
          have HI : Hid (withinB (op, n, t) m = (decide (op < 20) || decide (n ≤ m))) := within_all (fun j v hv => HF.out j v (List.getElem?_eq_some_iff.1 hv).1 hv)
          go_wp2
          go_ret
          exact ⟨ret_bool (by simp [HI.out, h20]), below1 w _⟩
end Go.Proofs.YthkkhinmdlmhkaaDoor
