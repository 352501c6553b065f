/- GoodState of the program and of the model, at every three lists. -/
import Derived.Test.YtjgedckjkhoflaaState2
namespace Go.Proofs.Ytjgedckjkhoflaa
open Go.RowKit
set_option linter.unusedVariables false
set_option linter.unusedSimpArgs false
set_option maxRecDepth 100000

theorem areWords1_any (n : Int) (w : World) : Calls Try.prog 38 #[.int .i64 n] w fun e w' => e = .returned (.bool (!inB 0 65535 n)) ∧ w' = w := by
  go_enter Try.func38, Try.ntmps38
  go_wp2_with (go_at_call 23; refine (isWord_any _ _).mono ?_; rintro e w' ⟨rfl, rfl⟩)
  go_ret
  exact ⟨rfl, rfl⟩

theorem indexW_any (a : Option Addr) (c : Nat) (xs : List Int) (w : World) (hl : xs.length ≤ 9223372036854775807) (h : Row w a xs) :
    Calls Try.prog 39 #[.slice a xs.length c, .func (.func 38) #[] #[]] w fun e w' => (∃ r : Int, e = .returned (.int .i64 r) ∧ decide (0 ≤ r) = !wordsB xs) ∧ w' = w := by
  by_cases hx : xs = []
  · subst hx
    clear h
    go_enter Try.func39, Try.ntmps39
    go_wp2
    go_loop [8] (fun t => t = .int .i64 0) (fun t => 0)
    case atStart => rfl
    case round =>
      subst hrel
      go_wp2
      go_ret
      exact ⟨⟨_, rfl, by simp [wordsB]⟩, rfl⟩
  · rcases h with h | ⟨b, off, rfl, hc⟩
    · exact absurd h hx
    have HC : Hid (∀ i, i < xs.length → w.cell? ⟨b, off + i, none⟩ = some (.int .i64 (xs[i]?.getD 0))) := hc
    clear hc hx
    go_enter Try.func39, Try.ntmps39
    go_wp2
    go_loop [8] (fun t => ∃ (k : Nat), t = .int .i64 k ∧ k ≤ xs.length ∧ wordsB (xs.take k) = true) (fun t => xs.length - (intOf t).toNat)
    case atStart => exact ⟨0, rfl, by omega, by simp [wordsB]⟩
    case round =>
      obtain ⟨k, rfl, hk, hw⟩ := hrel
      have HW : Hid (wordsB (xs.take k) = true) := hw
      clear hw
      by_cases hlt : k < xs.length
      · obtain ⟨n, hn, hn2⟩ : ∃ n, xs[k]? = some n ∧ xs[k]?.getD 0 = n := ⟨xs[k], by simp [hlt], by simp [hlt]⟩
        have c1 := HC.out k hlt
        rw [hn2] at c1
        have HN : Hid (xs[k]? = some n) := hn
        clear hn hn2
        cases hu : inB 0 65535 n with
        | true =>
          have hin : ∀ w, Calls Try.prog 38 #[.int .i64 n] w fun e w' => e = .returned (.bool false) ∧ w' = w := fun w => by have := areWords1_any n w; rwa [hu] at this
          have HU : Hid (inB 0 65535 n = true) := hu
          clear hu
          go_wp2_with (go_at_call 38; refine (hin _).mono ?_; rintro e w1 ⟨rfl, hw⟩; subst w1)
          go_round
          case rel => exact ⟨k + 1, by go_num, by omega, by rw [wordsB_take HN.out, HW.out, HU.out]; rfl⟩
          case measure => simp [intOf]; omega
        | false =>
          have hin : ∀ w, Calls Try.prog 38 #[.int .i64 n] w fun e w' => e = .returned (.bool true) ∧ w' = w := fun w => by have := areWords1_any n w; rwa [hu] at this
          have HU : Hid (inB 0 65535 n = false) := hu
          clear hu
          go_wp2_with (go_at_call 38; refine (hin _).mono ?_; rintro e w1 ⟨rfl, hw⟩; subst w1)
          go_ret
          exact ⟨⟨_, rfl, by rw [wordsB_no HN.out HU.out]; simp⟩, rfl⟩
      · obtain rfl : k = xs.length := by omega
        have e1 : Hid (wordsB xs = true) := by have := HW.out; rw [List.take_of_length_le (Nat.le_refl _)] at this; exact this
        clear HW
        go_wp2
        go_ret
        exact ⟨⟨_, rfl, by rw [e1.out]; decide⟩, rfl⟩

theorem containsW_any (a : Option Addr) (c : Nat) (xs : List Int) (w : World) (hl : xs.length ≤ 9223372036854775807) (h : Row w a xs) :
    Calls Try.prog 37 #[.slice a xs.length c, .func (.func 38) #[] #[]] w fun e w' => e = .returned (.bool (!wordsB xs)) ∧ w' = w := by
  have H := hid (indexW_any a c xs w hl h)
  clear h
  go_enter Try.func37, Try.ntmps37
  go_wp2_with fail
  refine Calls.mono H.out ?_
  rintro e w1 ⟨⟨r, rfl, hr⟩, hw⟩
  subst w1
  have HR := hid hr
  clear hr
  go_wp2
  go_ret
  exact ⟨ret_bool HR.out, rfl⟩

theorem areWords_any (a : Option Addr) (c : Nat) (xs : List Int) (w : World) (hl : xs.length ≤ 9223372036854775807) (h : Row w a xs) :
    Calls Try.prog 29 #[.slice a xs.length c] w fun e w' => e = .returned (.bool (wordsB xs)) ∧ w' = w := by
  have H := hid (containsW_any a c xs w hl h)
  clear h
  go_enter Try.func29, Try.ntmps29
  go_wp2_with fail
  refine Calls.mono H.out ?_
  rintro e w1 ⟨rfl, hw⟩
  subst w1
  go_wp2
  go_ret
  exact ⟨ret_bool (by simp), rfl⟩

/-- a good state -/
def goodSt (xs ys zs : List Int) : Bool := decide (xs.length = 8) && decide (ys.length = 16) && decide (zs.length ≤ 100) && wordsB xs && wordsB ys && wordsB zs

set_option maxHeartbeats 1000000 in
/-- the program's GoodState -/
theorem iGood_any (a1 a2 a3 : Option Addr) (c1 c2 c3 : Nat) (xs ys zs : List Int) (w : World) (hx : xs.length ≤ 9223372036854775807) (hy : ys.length ≤ 9223372036854775807) (hz : zs.length ≤ 9223372036854775807) (h : SRow w a1 a2 a3 xs ys zs) :
    Calls Try.prog 14 #[.agg #[.slice a1 xs.length c1, .slice a2 ys.length c2, .slice a3 zs.length c3]] w fun e w' => e = .returned (.bool (goodSt xs ys zs)) ∧ Below w.heap.size w w' := by
  by_cases h8 : xs.length = 8
  · by_cases h16 : ys.length = 16
    · by_cases h100 : zs.length ≤ 100
      · have hb := h.below (below1 w (.cells #[.slice a1 xs.length c1, .slice a2 ys.length c2, .slice a3 zs.length c3] 31))
        have w1 := areWords_any a1 c1 xs _ hx hb.1
        have w2 := areWords_any a2 c2 ys _ hy hb.2.1
        have w3 := areWords_any a3 c3 zs _ hz hb.2.2
        have e : goodSt xs ys zs = (wordsB xs && wordsB ys && wordsB zs) := by simp [goodSt, h8, h16, h100]
        rw [e]
        clear e hb h
        rw [h8, h16] at w1 w2 w3 ⊢
        obtain ⟨n3, hn3, h3⟩ : ∃ n3, zs.length = n3 ∧ n3 ≤ 100 := ⟨_, rfl, h100⟩
        rw [hn3] at w3 w2 w1 ⊢
        clear hn3 h100 h8 h16 hx hy hz
        have g3 : ¬ (100 : Int) < (n3 : Int) := by omega
        cases k1 : wordsB xs with
        | false =>
          rw [k1] at w1
          have W := hid w1
          clear w1 w2 w3 k1
          go_enter Try.func14, Try.ntmps14
          go_wp2_with fail
          refine Calls.mono W.out ?_
          rintro e W1 ⟨rfl, rfl⟩
          go_wp2
          go_ret
          exact ⟨ret_bool (by simp), below1 _ _⟩
        | true =>
          rw [k1] at w1
          cases k2 : wordsB ys with
          | false =>
            rw [k2] at w2
            have W := hid (And.intro w1 w2)
            clear w1 w2 w3 k1 k2
            go_enter Try.func14, Try.ntmps14
            go_wp2_with fail
            refine Calls.mono W.out.1 ?_
            rintro e W1 ⟨rfl, rfl⟩
            go_wp2_with fail
            refine Calls.mono W.out.2 ?_
            rintro e W1 ⟨rfl, rfl⟩
            go_wp2
            go_ret
            exact ⟨ret_bool (by simp), below1 _ _⟩
          | true =>
            rw [k2] at w2
            generalize wordsB zs = B at w3 ⊢
            have W := hid (And.intro w1 (And.intro w2 w3))
            clear w1 w2 w3 k1 k2
            go_enter Try.func14, Try.ntmps14
            go_wp2_with fail
            refine Calls.mono W.out.1 ?_
            rintro e W1 ⟨rfl, rfl⟩
            go_wp2_with fail
            refine Calls.mono W.out.2.1 ?_
            rintro e W1 ⟨rfl, rfl⟩
            go_wp2_with fail
            refine Calls.mono W.out.2.2 ?_
            rintro e W1 ⟨rfl, rfl⟩
            go_wp2
            go_ret
            exact ⟨ret_bool (by simp), below1 _ _⟩
      · have e : goodSt xs ys zs = false := by simp [goodSt, h100]
        rw [e, h8, h16]
        obtain ⟨n3, hn3, h3⟩ : ∃ n3, zs.length = n3 ∧ (100 : Int) < (n3 : Int) := ⟨_, rfl, by omega⟩
        rw [hn3] at hz ⊢
        clear e h hn3 h100 h8 h16 hx hy
        go_enter Try.func14, Try.ntmps14
        go_wp2
        go_ret
        exact ⟨rfl, below1 _ _⟩
    · have e : goodSt xs ys zs = false := by simp [goodSt, h16]
      have g : ¬ (ys.length : Int) = 16 := by omega
      rw [e, h8]
      clear e h h8 h16 hx
      go_enter Try.func14, Try.ntmps14
      go_wp2
      go_ret
      exact ⟨rfl, below1 _ _⟩
  · have e : goodSt xs ys zs = false := by simp [goodSt, h8]
    have g : ¬ (xs.length : Int) = 8 := by omega
    rw [e]
    clear e h h8
    go_enter Try.func14, Try.ntmps14
    go_wp2
    go_ret
    exact ⟨rfl, below1 _ _⟩

theorem ret_b {a b : Bool} (h : a = b) : Ending.returned (.bool a) = .returned (.bool b) := by rw [h]
set_option maxHeartbeats 1000000 in
/-- the model's GoodState -/
theorem sGood_any (a1 a2 a3 : Option Addr) (c1 c2 c3 : Nat) (xs ys zs : List Int) (w : World) (hx : xs.length ≤ 9223372036854775807) (hy : ys.length ≤ 9223372036854775807) (hz : zs.length ≤ 9223372036854775807) (h : SRow w a1 a2 a3 xs ys zs) :
    Calls Try.prog 19 #[.agg #[.slice a1 xs.length c1, .slice a2 ys.length c2, .slice a3 zs.length c3]] w fun e w' => e = .returned (.bool (goodSt xs ys zs)) ∧ Below w.heap.size w w' := by
  have hb := h.below (below1 w (.cells #[.slice a1 xs.length c1, .slice a2 ys.length c2, .slice a3 zs.length c3] 31))
  have w1 := l5Words_any a1 c1 xs 8 _ hx hb.1
  have w2 := l5Words_any a2 c2 ys 16 _ hy hb.2.1
  have w3 := l5Words_any a3 c3 zs zs.length _ hz hb.2.2
  have e : goodSt xs ys zs = ((wordsB xs && ((xs.length : Int) == 8)) && (wordsB ys && ((ys.length : Int) == 16)) && decide ((zs.length : Int) ≤ 100) && (wordsB zs && ((zs.length : Int) == (zs.length : Int)))) := by
    have g1 : ((xs.length : Int) == 8) = decide (xs.length = 8) := by rw [Bool.eq_iff_iff]; simp; omega
    have g2 : ((ys.length : Int) == 16) = decide (ys.length = 16) := by rw [Bool.eq_iff_iff]; simp; omega
    have g3 : decide ((zs.length : Int) ≤ 100) = decide (zs.length ≤ 100) := by rw [Bool.eq_iff_iff]; simp; omega
    rw [g1, g2, g3]
    simp only [goodSt, BEq.rfl, Bool.and_true]
    cases wordsB xs <;> cases wordsB ys <;> cases wordsB zs <;> simp
  rw [e]
  generalize (wordsB xs && ((xs.length : Int) == 8)) = A at w1 ⊢
  generalize (wordsB ys && ((ys.length : Int) == 16)) = B at w2 ⊢
  generalize (wordsB zs && ((zs.length : Int) == (zs.length : Int))) = C at w3 ⊢
  clear e hb h
  have W := hid (And.intro w1 (And.intro w2 w3))
  clear w1 w2 w3
  cases A with
  | false =>
    go_enter Try.func19, Try.ntmps19
    go_wp2_with fail
    refine Calls.mono W.out.1 ?_
    rintro e W1 ⟨rfl, rfl⟩
    go_wp2
    go_ret
    exact ⟨ret_b (by simp), below1 _ _⟩
  | true =>
    cases B with
    | false =>
      go_enter Try.func19, Try.ntmps19
      go_wp2_with fail
      refine Calls.mono W.out.1 ?_
      rintro e W1 ⟨rfl, rfl⟩
      go_wp2_with fail
      refine Calls.mono W.out.2.1 ?_
      rintro e W1 ⟨rfl, rfl⟩
      go_wp2
      go_ret
      exact ⟨ret_b (by simp), below1 _ _⟩
    | true =>
      by_cases h100 : (zs.length : Int) ≤ 100
      · go_enter Try.func19, Try.ntmps19
        go_wp2_with fail
        refine Calls.mono W.out.1 ?_
        rintro e W1 ⟨rfl, rfl⟩
        go_wp2_with fail
        refine Calls.mono W.out.2.1 ?_
        rintro e W1 ⟨rfl, rfl⟩
        go_wp2_with fail
        refine Calls.mono W.out.2.2 ?_
        rintro e W1 ⟨rfl, rfl⟩
        go_wp2
        go_ret
        exact ⟨ret_b (by simp [h100]), below1 _ _⟩
      · go_enter Try.func19, Try.ntmps19
        go_wp2_with fail
        refine Calls.mono W.out.1 ?_
        rintro e W1 ⟨rfl, rfl⟩
        go_wp2_with fail
        refine Calls.mono W.out.2.1 ?_
        rintro e W1 ⟨rfl, rfl⟩
        go_wp2
        go_ret
        exact ⟨ret_b (by simp; intro h; omega), below1 _ _⟩
end Go.Proofs.Ytjgedckjkhoflaa
