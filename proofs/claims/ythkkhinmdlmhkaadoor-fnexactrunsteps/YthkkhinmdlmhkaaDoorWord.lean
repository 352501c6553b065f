/- What two words come to: DoWord of the program and of the model, at every op and every two numbers. -/
import Derived.Test.YthkkhinmdlmhkaaDoorOne
namespace Go.Proofs.YthkkhinmdlmhkaaDoor
open Go.RowKit
set_option linter.unusedVariables false
set_option linter.unusedSimpArgs false
set_option maxRecDepth 100000

theorem and65535 (x : Int) : bits .and .i64 x 65535 = x % 65536 := by
  have e : (65535 : Int) = ((65535 : Nat) : Int) := rfl
  have hx : (BitVec.ofInt 64 x).toNat = (x % 18446744073709551616).toNat := by simp [BitVec.toNat_ofInt]
  have key : ((BitVec.ofInt 64 x) &&& (BitVec.ofInt 64 65535)).toNat = (x % 65536).toNat := by
    rw [e, BitVec.ofInt_natCast, BitVec.toNat_and, hx]
    have : (BitVec.ofNat 64 65535).toNat = 2 ^ 16 - 1 := by decide
    rw [this, Nat.and_two_pow_sub_one_eq_mod]
    omega
  have hb : bits .and .i64 x 65535 = IntKind.i64.wrap ((((BitVec.ofInt 64 x) &&& (BitVec.ofInt 64 65535)).toNat : Nat) : Int) := rfl
  rw [hb, key, IntKind.wrap_i64]; omega

theorem isWord_any (n : Int) (w : World) : Calls Tryd.prog 71 #[.int .i64 n] w fun e w' => e = .returned (.bool (inB 0 65535 n)) ∧ w' = w := by
  rw [← inB_and]
  by_cases h0 : 0 ≤ n <;> by_cases h1 : n ≤ 65535
  all_goals
    go_enter Tryd.func71, Tryd.ntmps71
    go_wp2
    go_ret
    refine ⟨?_, rfl⟩
    simp [h0, h1]

/-- 1 for yes, 0 for no -/
def bit (b : Bool) : Int := if b then 1 else 0
theorem bit_true : bit true = 1 := rfl
theorem bit_false : bit false = 0 := rfl

theorem oneIf_any (b : Bool) (w : World) : Calls Tryd.prog 108 #[.bool b] w fun e w' => e = .returned (.int .i64 (bit b)) ∧ w' = w := by
  cases b
  all_goals
    go_enter Tryd.func108, Tryd.ntmps108
    go_wp2
    go_ret
    exact ⟨rfl, rfl⟩
theorem l5Bit_any (b : Bool) (w : World) : Calls Tryd.prog 65 #[.bool b] w fun e w' => e = .returned (.int .i64 (bit b)) ∧ w' = w := by
  cases b
  all_goals
    go_enter Tryd.func65, Tryd.ntmps65
    go_wp2
    go_ret
    exact ⟨rfl, rfl⟩

/-- what an op tells of two words; whether it does -/
def doN (op a b : Int) : Int := if op = 4 then (a + b) % 65536 else if op = 5 then (a - b) % 65536 else if op = 6 then a * b % 65536 else if op = 7 then (if b = 0 then 0 else a / b) else if op = 8 then bit (decide (a < b)) else bit (a == b)
def doB (op b : Int) : Bool := !(decide (op = 7) && decide (b = 0))

theorem ret_ib {a b : Int} {c d : Bool} (h : a = b) (h2 : c = d) : Ending.returned (.tuple #[.int .i64 a, .bool c]) = .returned (.tuple #[.int .i64 b, .bool d]) := by rw [h, h2]
theorem ret_ibb {a b : Int} {c d x y : Bool} (h : a = b) (h2 : c = d) (h3 : x = y) : Ending.returned (.tuple #[.int .i64 a, .bool c, .bool x]) = .returned (.tuple #[.int .i64 b, .bool d, .bool y]) := by rw [h, h2, h3]

theorem mul_fits {a b : Int} (h0 : 0 ≤ a) (h1 : a ≤ 65535) (k0 : 0 ≤ b) (k1 : b ≤ 65535) : 0 ≤ a * b ∧ a * b ≤ 4294836225 := by
  refine ⟨Int.mul_nonneg h0 k0, ?_⟩
  have := Int.mul_le_mul h1 k1 k0 (by omega)
  omega
theorem wrap_mul {a b : Int} (h0 : 0 ≤ a) (h1 : a ≤ 65535) (k0 : 0 ≤ b) (k1 : b ≤ 65535) : wrap64 (a * b) = a * b := by
  have := mul_fits h0 h1 k0 k1
  unfold wrap64
  omega

set_option maxHeartbeats 1000000 in
/-- the model's l5Do -/
theorem l5Do_any (op a b : Int) (w : World) (ha : 0 ≤ a ∧ a ≤ 65535) (hb : 0 ≤ b ∧ b ≤ 65535) :
    Calls Tryd.prog 57 #[.int .i64 op, .int .i64 a, .int .i64 b] w fun e w' => e = .returned (.tuple #[.int .i64 (doN op a b), .bool (doB op b)]) ∧ w' = w := by
  obtain ⟨ha0, ha1⟩ := ha
  obtain ⟨hb0, hb1⟩ := hb
  have hand := and65535
  by_cases h4 : op = 4
  · subst h4
    go_enter Tryd.func57, Tryd.ntmps57
    go_wp2
    go_ret2
    exact ⟨ret_ib (by simp [doN]) (by simp [doB]), rfl⟩
  by_cases h5 : op = 5
  · subst h5
    go_enter Tryd.func57, Tryd.ntmps57
    go_wp2
    go_ret2
    exact ⟨ret_ib (by simp [doN]) (by simp [doB]), rfl⟩
  by_cases h6 : op = 6
  · subst h6
    have hm := wrap_mul ha0 ha1 hb0 hb1
    go_enter Tryd.func57, Tryd.ntmps57
    go_wp2
    go_ret2
    exact ⟨ret_ib (by simp [doN]) (by simp [doB]), rfl⟩
  by_cases h7 : op = 7
  · subst h7
    by_cases h0 : b = 0
    · subst h0
      go_enter Tryd.func57, Tryd.ntmps57
      go_wp2
      go_ret2
      exact ⟨ret_ib (by simp [doN]) (by simp [doB]), rfl⟩
    · go_enter Tryd.func57, Tryd.ntmps57
      go_wp2
      go_ret2
      exact ⟨ret_ib (by simp [doN, h0]) (by simp [doB, h0]), rfl⟩
  by_cases h8 : op = 8
  · subst h8
    go_enter Tryd.func57, Tryd.ntmps57
    go_wp2_with (go_at_call 65; refine (l5Bit_any _ _).mono ?_; rintro e w' ⟨rfl, rfl⟩)
    go_ret2
    exact ⟨ret_ib (by simp [doN]) (by simp [doB]), rfl⟩
  · go_enter Tryd.func57, Tryd.ntmps57
    go_wp2_with (go_at_call 65; refine (l5Bit_any _ _).mono ?_; rintro e w' ⟨rfl, rfl⟩)
    go_ret2
    exact ⟨ret_ib (by simp [doN, h4, h5, h6, h7, h8]) (by simp [doB, h7]), rfl⟩

/-- all are words -/
def wordsB (xs : List Int) : Bool := xs.all fun n => inB 0 65535 n
theorem wordsB_take {xs : List Int} {k : Nat} {n : Int} (h : xs[k]? = some n) : wordsB (xs.take (k + 1)) = (wordsB (xs.take k) && inB 0 65535 n) := by
  rw [List.take_add_one, h]; simp [wordsB]
theorem wordsB_no {xs : List Int} {k : Nat} {n : Int} (h : xs[k]? = some n) (hn : inB 0 65535 n = false) : wordsB xs = false := by
  unfold wordsB
  rw [List.all_eq_false]
  exact ⟨n, List.mem_of_getElem? h, by simp [hn]⟩
theorem wordsB_at {xs : List Int} {k : Nat} {n : Int} (hx : wordsB xs = true) (h : xs[k]? = some n) : 0 ≤ n ∧ n ≤ 65535 := by
  unfold wordsB at hx
  rw [List.all_eq_true] at hx
  exact inB_yes (hx n (List.mem_of_getElem? h))

/-- the model's l5Words -/
theorem l5Words_any (a : Option Addr) (c : Nat) (xs : List Int) (m : Int) (w : World) (hl : xs.length ≤ 9223372036854775807) (h : Row w a xs) :
    Calls Tryd.prog 39 #[.slice a xs.length c, .int .i64 m] w fun e w' => e = .returned (.bool (wordsB xs && ((xs.length : Int) == m))) ∧ w' = w := by
  by_cases hx : xs = []
  · subst hx
    clear h
    go_enter Tryd.func39, Tryd.ntmps39
    go_wp2
    go_loop [9] (fun t => t = .int .i64 0) (fun t => 0)
    case atStart => rfl
    case round =>
      subst hrel
      go_wp2
      go_ret
      exact ⟨ret_bool (by simp [wordsB]), rfl⟩
  · rcases h with h | ⟨b, off, rfl, hc⟩
    · exact absurd h hx
    have HC : Hid (∀ i, i < xs.length → w.cell? ⟨b, off + i, none⟩ = some (.int .i64 (xs[i]?.getD 0))) := hc
    clear hc hx
    go_enter Tryd.func39, Tryd.ntmps39
    go_wp2
    go_loop [9] (fun t => ∃ (k : Nat), t = .int .i64 k ∧ k ≤ xs.length ∧ wordsB (xs.take k) = true) (fun t => xs.length - (intOf t).toNat)
    case atStart => exact ⟨0, rfl, by omega, by simp [wordsB]⟩
    case round =>
      obtain ⟨k, rfl, hk, hw⟩ := hrel
      have HW : Hid (wordsB (xs.take k) = true) := hw
      clear hw
      by_cases hlt : k < xs.length
      · obtain ⟨n, hn, hn2⟩ : ∃ n, xs[k]? = some n ∧ xs[k]?.getD 0 = n := ⟨xs[k], by simp [hlt], by simp [hlt]⟩
        have c1 := HC.out k hlt
        rw [hn2] at c1
        have HN : Hid (xs[k]? = some n) := hn
        clear hn hn2
        cases hu : inB 0 65535 n with
        | true =>
          have hin : ∀ w, Calls Tryd.prog 40 #[.int .i64 n, .int .i64 0, .int .i64 65535] w fun e w' => e = .returned (.bool true) ∧ w' = w := fun w => by rw [← hu]; exact l1In_any n 0 65535 w
          have HU : Hid (inB 0 65535 n = true) := hu
          clear hu
          go_wp2_with (go_at_call 40; refine (hin _).mono ?_; rintro e w' ⟨rfl, rfl⟩)
          go_round
          case rel => exact ⟨k + 1, by go_num, by omega, by rw [wordsB_take HN.out, HW.out, HU.out]; rfl⟩
          case measure => simp [intOf]; omega
        | false =>
          have hin : ∀ w, Calls Tryd.prog 40 #[.int .i64 n, .int .i64 0, .int .i64 65535] w fun e w' => e = .returned (.bool false) ∧ w' = w := fun w => by rw [← hu]; exact l1In_any n 0 65535 w
          have HU : Hid (inB 0 65535 n = false) := hu
          clear hu
          go_wp2_with (go_at_call 40; refine (hin _).mono ?_; rintro e w' ⟨rfl, rfl⟩)
          go_ret
          exact ⟨ret_bool (by rw [wordsB_no HN.out HU.out]; rfl), rfl⟩
      · obtain rfl : k = xs.length := by omega
        have e1 : Hid (wordsB xs = true) := by have := HW.out; rw [List.take_of_length_le (Nat.le_refl _)] at this; exact this
        clear HW
        go_wp2
        go_ret
        exact ⟨ret_bool (by rw [e1.out, Bool.true_and]), rfl⟩

/-- what DoWord tells: the word, whether it does, whether it is asked as said -/
def okW (op a b : Int) : Bool := inB 4 9 op && (inB 0 65535 a && inB 0 65535 b)
def wN (op a b : Int) : Int := if okW op a b = true then doN op a b else 0
def wB (op a b : Int) : Bool := okW op a b && doB op b
theorem lit2_row (w : World) (a b : Int) : Row (w.alloc (.cells #[.int .i64 a, .int .i64 b] 3)) (some ⟨w.heap.size, 0, none⟩) [a, b] := by
  refine .inr ⟨_, 0, rfl, fun i hi => ?_⟩
  have hb : (w.alloc (.cells #[.int .i64 a, .int .i64 b] 3)).heap[w.heap.size]? = some (.cells #[.int .i64 a, .int .i64 b] 3) := heap_alloc_new w _
  rw [Lib.cell_of_heap hb]
  have : i = 0 ∨ i = 1 := by simp at hi; omega
  rcases this with rfl | rfl <;> rfl
theorem two_words (a b : Int) : (wordsB [a, b] && ((([a, b] : List Int).length : Int) == 2)) = (inB 0 65535 a && inB 0 65535 b) := by simp [wordsB]

theorem ops6 {op : Int} (h : inB 4 9 op = true) : op = 4 ∨ op = 5 ∨ op = 6 ∨ op = 7 ∨ op = 8 ∨ op = 9 := by
  have := inB_yes h; omega
theorem not6 {op : Int} (h : inB 4 9 op = false) : ¬ op = 4 ∧ ¬ op = 5 ∧ ¬ op = 6 ∧ ¬ op = 7 ∧ ¬ op = 8 ∧ ¬ op = 9 := by
  have := inB_no h; omega

set_option maxHeartbeats 2000000 in
/-- the program's DoWord -/
theorem iDoWord_any (op a b : Int) (w : World) :
    Calls Tryd.prog 103 #[.int .i64 op, .int .i64 a, .int .i64 b] w fun e w' => e = .returned (.tuple #[.int .i64 (wN op a b), .bool (wB op a b), .bool (okW op a b)]) ∧ w' = w := by
  have hia := fun w => isWord_any a w
  have hib := fun w => isWord_any b w
  cases hva : inB 0 65535 a with
  | false =>
    rw [hva] at hia
    go_enter Tryd.func103, Tryd.ntmps103
    go_wp2_with (go_at_call 71; refine (hia _).mono ?_; rintro e w' ⟨rfl, rfl⟩)
    go_ret3
    exact ⟨ret_ibb (by simp [wN, okW, hva]) (by simp [wB, okW, hva]) (by simp [okW, hva]), rfl⟩
  | true =>
    rw [hva] at hia
    cases hvb : inB 0 65535 b with
    | false =>
      rw [hvb] at hib
      go_enter Tryd.func103, Tryd.ntmps103
      go_wp2_with fail
      refine (hia _).mono ?_
      rintro e w' ⟨rfl, rfl⟩
      go_wp2_with (go_at_call 71; refine (hib _).mono ?_; rintro e w' ⟨rfl, rfl⟩)
      go_ret3
      exact ⟨ret_ibb (by simp [wN, okW, hvb]) (by simp [wB, okW, hvb]) (by simp [okW, hvb]), rfl⟩
    | true =>
      rw [hvb] at hib
      obtain ⟨ha0, ha1⟩ := inB_yes hva
      obtain ⟨hb0, hb1⟩ := inB_yes hvb
      have hand := and65535
      cases ho : inB 4 9 op with
      | false =>
        have e1 : okW op a b = false := by simp [okW, ho]
        have e2 : wN op a b = 0 := by simp [wN, e1]
        have e3 : wB op a b = false := by simp [wB, e1]
        rw [e1, e2, e3]
        obtain ⟨o4, o5, o6, o7, o8, o9⟩ := not6 ho
        clear e1 e2 e3 ho
        go_enter Tryd.func103, Tryd.ntmps103
        go_wp2_with fail
        refine (hia _).mono ?_
        rintro e w' ⟨rfl, rfl⟩
        go_wp2_with fail
        refine (hib _).mono ?_
        rintro e w' ⟨rfl, rfl⟩
        go_wp2
        go_ret3
        exact ⟨rfl, rfl⟩
      | true =>
        have e1 : okW op a b = true := by simp [okW, ho, hva, hvb]
        have e2 : wN op a b = doN op a b := by simp [wN, e1]
        have e3 : wB op a b = doB op b := by simp [wB, e1]
        rw [e1, e2, e3]
        clear e1 e2 e3
        have hm := wrap_mul ha0 ha1 hb0 hb1
        rcases ops6 ho with rfl | rfl | rfl | rfl | rfl | rfl
        case inr.inr.inr.inl =>
          clear hm
          by_cases h0 : b = 0
          · subst h0
            go_enter Tryd.func103, Tryd.ntmps103
            go_wp2_with fail
            refine (hia _).mono ?_
            rintro e w' ⟨rfl, rfl⟩
            go_wp2_with fail
            refine (hib _).mono ?_
            rintro e w' ⟨rfl, rfl⟩
            go_wp2
            go_ret3
            exact ⟨ret_ibb (by simp [doN]) (by simp [doB]) rfl, rfl⟩
          · go_enter Tryd.func103, Tryd.ntmps103
            go_wp2_with fail
            refine (hia _).mono ?_
            rintro e w' ⟨rfl, rfl⟩
            go_wp2_with fail
            refine (hib _).mono ?_
            rintro e w' ⟨rfl, rfl⟩
            go_wp2
            go_ret3
            exact ⟨ret_ibb (by simp [doN, h0]) (by simp [doB, h0]) rfl, rfl⟩
        all_goals
          go_enter Tryd.func103, Tryd.ntmps103
          go_wp2_with fail
          refine (hia _).mono ?_
          rintro e w' ⟨rfl, rfl⟩
          go_wp2_with fail
          refine (hib _).mono ?_
          rintro e w' ⟨rfl, rfl⟩
          go_wp2_with (go_at_call 108; refine (oneIf_any _ _).mono ?_; rintro e w' ⟨rfl, rfl⟩)
          go_ret3
          exact ⟨ret_ibb (by simp [doN]) (by simp [doB]) rfl, rfl⟩

end Go.Proofs.YthkkhinmdlmhkaaDoor
