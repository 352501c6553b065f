/- Two lists, and two states, alike or not: the model and the program. -/
import Derived.Test.YthkkhinmdlmhkaaDoorK4
import Derived.Deep.QuietTactic
import Derived.BigQuiet
import Derived.Test.YthkkhinmdlmhkaaDoorK1
import Derived.Test.YthkkhinmdlmhkaaDoorArgs
import Derived.LaidHandle
import Derived.ChangeVars
import Derived.Lay
import Derived.Deep.Slices
import Derived.OpenShut
namespace Go.Proofs.YthkkhinmdlmhkaaDoor
section
open Go Go.RowKit
set_option linter.unusedVariables false
set_option linter.unusedSimpArgs false
set_option maxRecDepth 100000

theorem Row.val {w : World} {a : Option Addr} {xs : List Int} (h : Row w a xs) (hx : xs ≠ []) : ∃ b off, a = some ⟨b, off, none⟩ ∧ ∀ i x, xs[i]? = some x → w.cell? ⟨b, off + i, none⟩ = some (.int .i64 x) := by
  rcases h with h | ⟨b, off, rfl, hc⟩
  · exact absurd h hx
  · refine ⟨b, off, rfl, fun i x hi => ?_⟩
    rw [hc i (List.getElem?_eq_some_iff.1 hi).1, hi]; rfl
theorem take_eq_succ {α : Type} {xs ys : List α} {k : Nat} {x : α} (h : xs.take k = ys.take k) (hx : xs[k]? = some x) (hy : ys[k]? = some x) : xs.take (k + 1) = ys.take (k + 1) := by
  rw [List.take_add_one, List.take_add_one, h, hx, hy]
theorem ne_at {α : Type} {xs ys : List α} {k : Nat} {x y : α} (hx : xs[k]? = some x) (hy : ys[k]? = some y) (h : x ≠ y) : xs ≠ ys := fun e => by
  subst e
  rw [hx] at hy
  exact h (Option.some.inj hy)
set_option maxHeartbeats 1000000 in
theorem same48_any (a b : Option Addr) (c d : Nat) (xs ys : List Int) (w : World) (hl : xs.length ≤ 9223372036854775807) (hl' : ys.length ≤ 9223372036854775807) (h : Row w a xs) (h' : Row w b ys) :
    Calls Tryd.prog 48 #[.slice a xs.length c, .slice b ys.length d] w fun e w' => e = .returned (.bool (decide (xs = ys))) ∧ ∃ q, w' = w.drewN q := by
  by_cases hln : xs.length = ys.length
  · by_cases hx : xs = []
    · subst hx
      obtain rfl : ys = [] := List.eq_nil_of_length_eq_zero hln.symm
      clear h h'
      go_enter Tryd.func48, Tryd.ntmps48
      go_wp2
      go_loopw [13] (fun t wr => t = .int .i64 0 ∧ wr = w) (fun t _ => 0)
      case atStart => exact ⟨rfl, rfl⟩
      case round =>
        obtain ⟨rfl, rfl⟩ := hrel
        go_wp2
        go_ret
        exact ⟨by simp, 0, rfl⟩
    · have hy : ys ≠ [] := fun e => hx (List.eq_nil_of_length_eq_zero (by rw [hln, e]; rfl))
      obtain ⟨b1, o1, rfl, hc⟩ := h.val hx
      obtain ⟨b2, o2, rfl, hc'⟩ := h'.val hy
      have HC := hid hc
      have HC' := hid hc'
      have HLN := hid hln
      rw [← hln]
      clear hc hc' hx hy h h' hln hl'
      go_enter Tryd.func48, Tryd.ntmps48
      go_wp2
      go_loopw [13] (fun t wr => ∃ (k q : Nat), t = .int .i64 k ∧ k ≤ xs.length ∧ Hid (xs.take k = ys.take k) ∧ wr = w.drewN q) (fun t _ => xs.length - (intOf t).toNat)
      case atStart => exact ⟨0, 0, rfl, by omega, hid (by simp), rfl⟩
      case round =>
        obtain ⟨k, q, rfl, hk, HT, rfl⟩ := hrel
        by_cases hlt : k < xs.length
        · obtain ⟨x, hx⟩ : ∃ x, xs[k]? = some x := ⟨_, List.getElem?_eq_getElem hlt⟩
          obtain ⟨y, hy⟩ : ∃ y, ys[k]? = some y := ⟨_, List.getElem?_eq_getElem (by have := HLN.out; omega)⟩
          have c1 : w.cell? ⟨b1, o1 + k, none⟩ = some (.int .i64 x) := HC.out k x hx
          have c2 : w.cell? ⟨b2, o2 + k, none⟩ = some (.int .i64 y) := HC'.out k y hy
          have HX := hid (And.intro hx hy)
          clear hx hy
          by_cases e : x = y
          · subst e
            go_wp2
            go_quiet (fail)
            go_wp2
            go_roundw
            case rel => exact ⟨k + 1, q + nq, by go_num, by omega, hid (take_eq_succ HT.out HX.out.1 HX.out.2), by simp⟩
            case measure => simp [intOf]; omega
          · go_wp2
            go_quiet (fail)
            go_wp2
            go_ret
            exact ⟨ret_bool (decide_eq_false (ne_at HX.out.1 HX.out.2 e)).symm, q + nq, by simp⟩
        · obtain rfl : k = xs.length := by omega
          go_wp2
          go_ret
          exact ⟨ret_bool (decide_eq_true (by have := HT.out; rw [List.take_of_length_le (Nat.le_refl _), HLN.out, List.take_of_length_le (Nat.le_refl _)] at this; exact this)).symm, q, rfl⟩
  · have hne : ¬ (xs.length : Int) = (ys.length : Int) := by omega
    have HF : Hid (decide (xs = ys) = false) := decide_eq_false fun e => hln (by rw [e])
    clear h h'
    go_enter Tryd.func48, Tryd.ntmps48
    go_wp2
    go_ret
    exact ⟨ret_bool HF.out.symm, 0, rfl⟩
set_option maxHeartbeats 1000000 in
theorem same49_any (a b : Option Addr) (c d : Nat) (xs ys : List Int) (w : World) (hl : xs.length ≤ 9223372036854775807) (hl' : ys.length ≤ 9223372036854775807) (h : Row w a xs) (h' : Row w b ys) :
    Calls Tryd.prog 49 #[.slice a xs.length c, .slice b ys.length d] w fun e w' => e = .returned (.bool (decide (xs = ys))) ∧ ∃ q, w' = w.drewN q := by
  by_cases hln : xs.length = ys.length
  · by_cases hx : xs = []
    · subst hx
      obtain rfl : ys = [] := List.eq_nil_of_length_eq_zero hln.symm
      clear h h'
      go_enter Tryd.func49, Tryd.ntmps49
      go_wp2
      go_loopw [13] (fun t wr => t = .int .i64 0 ∧ wr = w) (fun t _ => 0)
      case atStart => exact ⟨rfl, rfl⟩
      case round =>
        obtain ⟨rfl, rfl⟩ := hrel
        go_wp2
        go_ret
        exact ⟨by simp, 0, rfl⟩
    · have hy : ys ≠ [] := fun e => hx (List.eq_nil_of_length_eq_zero (by rw [hln, e]; rfl))
      obtain ⟨b1, o1, rfl, hc⟩ := h.val hx
      obtain ⟨b2, o2, rfl, hc'⟩ := h'.val hy
      have HC := hid hc
      have HC' := hid hc'
      have HLN := hid hln
      rw [← hln]
      clear hc hc' hx hy h h' hln hl'
      go_enter Tryd.func49, Tryd.ntmps49
      go_wp2
      go_loopw [13] (fun t wr => ∃ (k q : Nat), t = .int .i64 k ∧ k ≤ xs.length ∧ Hid (xs.take k = ys.take k) ∧ wr = w.drewN q) (fun t _ => xs.length - (intOf t).toNat)
      case atStart => exact ⟨0, 0, rfl, by omega, hid (by simp), rfl⟩
      case round =>
        obtain ⟨k, q, rfl, hk, HT, rfl⟩ := hrel
        by_cases hlt : k < xs.length
        · obtain ⟨x, hx⟩ : ∃ x, xs[k]? = some x := ⟨_, List.getElem?_eq_getElem hlt⟩
          obtain ⟨y, hy⟩ : ∃ y, ys[k]? = some y := ⟨_, List.getElem?_eq_getElem (by have := HLN.out; omega)⟩
          have c1 : w.cell? ⟨b1, o1 + k, none⟩ = some (.int .i64 x) := HC.out k x hx
          have c2 : w.cell? ⟨b2, o2 + k, none⟩ = some (.int .i64 y) := HC'.out k y hy
          have HX := hid (And.intro hx hy)
          clear hx hy
          by_cases e : x = y
          · subst e
            go_wp2
            go_quiet (fail)
            go_wp2
            go_roundw
            case rel => exact ⟨k + 1, q + nq, by go_num, by omega, hid (take_eq_succ HT.out HX.out.1 HX.out.2), by simp⟩
            case measure => simp [intOf]; omega
          · go_wp2
            go_quiet (fail)
            go_wp2
            go_ret
            exact ⟨ret_bool (decide_eq_false (ne_at HX.out.1 HX.out.2 e)).symm, q + nq, by simp⟩
        · obtain rfl : k = xs.length := by omega
          go_wp2
          go_ret
          exact ⟨ret_bool (decide_eq_true (by have := HT.out; rw [List.take_of_length_le (Nat.le_refl _), HLN.out, List.take_of_length_le (Nat.le_refl _)] at this; exact this)).symm, q, rfl⟩
  · have hne : ¬ (xs.length : Int) = (ys.length : Int) := by omega
    have HF : Hid (decide (xs = ys) = false) := decide_eq_false fun e => hln (by rw [e])
    clear h h'
    go_enter Tryd.func49, Tryd.ntmps49
    go_wp2
    go_ret
    exact ⟨ret_bool HF.out.symm, 0, rfl⟩

/-- whether two states are alike -/
def sameSt (L M T L' M' T' : List Int) : Bool := decide (L = L') && decide (M = M') && decide (T = T')
set_option maxHeartbeats 2000000 in
theorem same35_any (a1 a2 a3 b1 b2 b3 : Option Addr) (c1 c2 c3 d1 d2 d3 : Nat) (L M T L' M' T' : List Int) (w : World) (h1 : L.length ≤ 1048576) (h2 : M.length ≤ 1048576) (h3 : T.length ≤ 1048576) (h1' : L'.length ≤ 1048576) (h2' : M'.length ≤ 1048576) (h3' : T'.length ≤ 1048576) (h : SRow w a1 a2 a3 L M T) (h' : SRow w b1 b2 b3 L' M' T') :
    Calls Tryd.prog 35 #[.agg #[.slice a1 L.length c1, .slice a2 M.length c2, .slice a3 T.length c3], .agg #[.slice b1 L'.length d1, .slice b2 M'.length d2, .slice b3 T'.length d3]] w fun e w' => e = .returned (.bool (sameSt L M T L' M' T')) ∧ Below w.heap.size w w' := by
  have hl : ∀ {n : Nat}, n ≤ 1048576 → n ≤ 9223372036854775807 := fun h => by omega
  have B2 := below2 w (.cells #[.slice a1 L.length c1, .slice a2 M.length c2, .slice a3 T.length c3] 28) (.cells #[.slice b1 L'.length d1, .slice b2 M'.length d2, .slice b3 T'.length d3] 28)
  have P0 := (Box3.new w (.slice a1 L.length c1) (.slice a2 M.length c2) (.slice a3 T.length c3) 28).below (below1 _ (.cells #[.slice b1 L'.length d1, .slice b2 M'.length d2, .slice b3 T'.length d3] 28))
  have P1 := Box3.new (w.alloc (.cells #[.slice a1 L.length c1, .slice a2 M.length c2, .slice a3 T.length c3] 28)) (.slice b1 L'.length d1) (.slice b2 M'.length d2) (.slice b3 T'.length d3) 28
  rw [size_alloc1] at P1
  have HS1 : Hid (∀ X, Below w.heap.size w X → Calls Tryd.prog 48 #[.slice a1 L.length c1, .slice b1 L'.length d1] X fun e w' => e = .returned (.bool (decide (L = L'))) ∧ ∃ q, w' = X.drewN q) := fun X hb => same48_any a1 b1 c1 d1 L L' X (hl h1) (hl h1') (h.1.below hb) (h'.1.below hb)
  have HS2 : Hid (∀ X, Below w.heap.size w X → Calls Tryd.prog 48 #[.slice a2 M.length c2, .slice b2 M'.length d2] X fun e w' => e = .returned (.bool (decide (M = M'))) ∧ ∃ q, w' = X.drewN q) := fun X hb => same48_any a2 b2 c2 d2 M M' X (hl h2) (hl h2') (h.2.1.below hb) (h'.2.1.below hb)
  have HS3 : Hid (∀ X, Below w.heap.size w X → Calls Tryd.prog 48 #[.slice a3 T.length c3, .slice b3 T'.length d3] X fun e w' => e = .returned (.bool (decide (T = T'))) ∧ ∃ q, w' = X.drewN q) := fun X hb => same48_any a3 b3 c3 d3 T T' X (hl h3) (hl h3') (h.2.2.below hb) (h'.2.2.below hb)
  clear h h' h1 h2 h3 h1' h2' h3' hl
  unfold sameSt
  generalize decide (L = L') = x1 at HS1 ⊢
  generalize decide (M = M') = x2 at HS2 ⊢
  generalize decide (T = T') = x3 at HS3 ⊢
  have HP := hid (And.intro P0 P1)
  clear P0 P1
  go_enter Tryd.func35, Tryd.ntmps35
  go_wp2_with fail
  generalize ((w.alloc (.cells #[.slice a1 L.length c1, .slice a2 M.length c2, .slice a3 T.length c3] 28)).alloc (.cells #[.slice b1 L'.length d1, .slice b2 M'.length d2, .slice b3 T'.length d3] 28)) = X2 at B2 HP ⊢
  obtain ⟨⟨p0, p1, p2⟩, ⟨r0, r1, r2⟩⟩ := HP.out
  clear HP
  refine (HS1.out _ B2).mono ?_
  rintro e w1 ⟨rfl, q, rfl⟩
  have B3 := below_drewN B2 q
  cases x1 with
  | false =>
    go_wp2
    go_ret
    exact ⟨by simp, B3⟩
  | true =>
    go_wp2_with fail
    refine (HS2.out _ B3).mono ?_
    rintro e w2 ⟨rfl, q2, rfl⟩
    have B4 := below_drewN B2 (q + q2)
    cases x2 with
    | false =>
      go_wp2
      go_ret
      exact ⟨by simp, B4⟩
    | true =>
      go_wp2_with fail
      refine (HS3.out _ B4).mono ?_
      rintro e w3 ⟨rfl, q3, rfl⟩
      have B5 := below_drewN B2 (q + q2 + q3)
      go_wp2
      go_ret
      exact ⟨by simp, B5⟩
set_option maxHeartbeats 2000000 in
theorem same36_any (a1 a2 a3 b1 b2 b3 : Option Addr) (c1 c2 c3 d1 d2 d3 : Nat) (L M T L' M' T' : List Int) (w : World) (h1 : L.length ≤ 1048576) (h2 : M.length ≤ 1048576) (h3 : T.length ≤ 1048576) (h1' : L'.length ≤ 1048576) (h2' : M'.length ≤ 1048576) (h3' : T'.length ≤ 1048576) (h : SRow w a1 a2 a3 L M T) (h' : SRow w b1 b2 b3 L' M' T') :
    Calls Tryd.prog 36 #[.agg #[.slice a1 L.length c1, .slice a2 M.length c2, .slice a3 T.length c3], .agg #[.slice b1 L'.length d1, .slice b2 M'.length d2, .slice b3 T'.length d3]] w fun e w' => e = .returned (.bool (sameSt L M T L' M' T')) ∧ Below w.heap.size w w' := by
  have hl : ∀ {n : Nat}, n ≤ 1048576 → n ≤ 9223372036854775807 := fun h => by omega
  have B2 := below2 w (.cells #[.slice a1 L.length c1, .slice a2 M.length c2, .slice a3 T.length c3] 28) (.cells #[.slice b1 L'.length d1, .slice b2 M'.length d2, .slice b3 T'.length d3] 28)
  have P0 := (Box3.new w (.slice a1 L.length c1) (.slice a2 M.length c2) (.slice a3 T.length c3) 28).below (below1 _ (.cells #[.slice b1 L'.length d1, .slice b2 M'.length d2, .slice b3 T'.length d3] 28))
  have P1 := Box3.new (w.alloc (.cells #[.slice a1 L.length c1, .slice a2 M.length c2, .slice a3 T.length c3] 28)) (.slice b1 L'.length d1) (.slice b2 M'.length d2) (.slice b3 T'.length d3) 28
  rw [size_alloc1] at P1
  have HS1 : Hid (∀ X, Below w.heap.size w X → Calls Tryd.prog 49 #[.slice a1 L.length c1, .slice b1 L'.length d1] X fun e w' => e = .returned (.bool (decide (L = L'))) ∧ ∃ q, w' = X.drewN q) := fun X hb => same49_any a1 b1 c1 d1 L L' X (hl h1) (hl h1') (h.1.below hb) (h'.1.below hb)
  have HS2 : Hid (∀ X, Below w.heap.size w X → Calls Tryd.prog 49 #[.slice a2 M.length c2, .slice b2 M'.length d2] X fun e w' => e = .returned (.bool (decide (M = M'))) ∧ ∃ q, w' = X.drewN q) := fun X hb => same49_any a2 b2 c2 d2 M M' X (hl h2) (hl h2') (h.2.1.below hb) (h'.2.1.below hb)
  have HS3 : Hid (∀ X, Below w.heap.size w X → Calls Tryd.prog 49 #[.slice a3 T.length c3, .slice b3 T'.length d3] X fun e w' => e = .returned (.bool (decide (T = T'))) ∧ ∃ q, w' = X.drewN q) := fun X hb => same49_any a3 b3 c3 d3 T T' X (hl h3) (hl h3') (h.2.2.below hb) (h'.2.2.below hb)
  clear h h' h1 h2 h3 h1' h2' h3' hl
  unfold sameSt
  generalize decide (L = L') = x1 at HS1 ⊢
  generalize decide (M = M') = x2 at HS2 ⊢
  generalize decide (T = T') = x3 at HS3 ⊢
  have HP := hid (And.intro P0 P1)
  clear P0 P1
  go_enter Tryd.func36, Tryd.ntmps36
  go_wp2_with fail
  generalize ((w.alloc (.cells #[.slice a1 L.length c1, .slice a2 M.length c2, .slice a3 T.length c3] 28)).alloc (.cells #[.slice b1 L'.length d1, .slice b2 M'.length d2, .slice b3 T'.length d3] 28)) = X2 at B2 HP ⊢
  obtain ⟨⟨p0, p1, p2⟩, ⟨r0, r1, r2⟩⟩ := HP.out
  clear HP
  refine (HS1.out _ B2).mono ?_
  rintro e w1 ⟨rfl, q, rfl⟩
  have B3 := below_drewN B2 q
  cases x1 with
  | false =>
    go_wp2
    go_ret
    exact ⟨by simp, B3⟩
  | true =>
    go_wp2_with fail
    refine (HS2.out _ B3).mono ?_
    rintro e w2 ⟨rfl, q2, rfl⟩
    have B4 := below_drewN B2 (q + q2)
    cases x2 with
    | false =>
      go_wp2
      go_ret
      exact ⟨by simp, B4⟩
    | true =>
      go_wp2_with fail
      refine (HS3.out _ B4).mono ?_
      rintro e w3 ⟨rfl, q3, rfl⟩
      have B5 := below_drewN B2 (q + q2 + q3)
      go_wp2
      go_ret
      exact ⟨by simp, B5⟩
end

section
open Go.RowKit
set_option linter.unusedVariables false
set_option linter.unusedSimpArgs false
set_option maxRecDepth 100000

theorem areWords1_any (n : Int) (w : World) : Calls Tryd.prog 70 #[.int .i64 n] w fun e w' => e = .returned (.bool (!inB 0 65535 n)) ∧ w' = w := by
  go_enter Tryd.func70, Tryd.ntmps70
  go_wp2_with (go_at_call 71; refine (isWord_any _ _).mono ?_; rintro e w' ⟨rfl, rfl⟩)
  go_ret
  exact ⟨rfl, rfl⟩

theorem indexW_any (a : Option Addr) (c : Nat) (xs : List Int) (w : World) (hl : xs.length ≤ 9223372036854775807) (h : Row w a xs) :
    Calls Tryd.prog 94 #[.slice a xs.length c, .func (.func 70) #[] #[]] w fun e w' => (∃ r : Int, e = .returned (.int .i64 r) ∧ decide (0 ≤ r) = !wordsB xs) ∧ w' = w := by
  by_cases hx : xs = []
  · subst hx
    clear h
    go_enter Tryd.func94, Tryd.ntmps94
    go_wp2
    go_loop [8] (fun t => t = .int .i64 0) (fun t => 0)
    case atStart => rfl
    case round =>
      subst hrel
      go_wp2
      go_ret
      exact ⟨⟨_, rfl, by simp [wordsB]⟩, rfl⟩
  · rcases h with h | ⟨b, off, rfl, hc⟩
    · exact absurd h hx
    have HC : Hid (∀ i, i < xs.length → w.cell? ⟨b, off + i, none⟩ = some (.int .i64 (xs[i]?.getD 0))) := hc
    clear hc hx
    go_enter Tryd.func94, Tryd.ntmps94
    go_wp2
    go_loop [8] (fun t => ∃ (k : Nat), t = .int .i64 k ∧ k ≤ xs.length ∧ wordsB (xs.take k) = true) (fun t => xs.length - (intOf t).toNat)
    case atStart => exact ⟨0, rfl, by omega, by simp [wordsB]⟩
    case round =>
      obtain ⟨k, rfl, hk, hw⟩ := hrel
      have HW : Hid (wordsB (xs.take k) = true) := hw
      clear hw
      by_cases hlt : k < xs.length
      · obtain ⟨n, hn, hn2⟩ : ∃ n, xs[k]? = some n ∧ xs[k]?.getD 0 = n := ⟨xs[k], by simp [hlt], by simp [hlt]⟩
        have c1 := HC.out k hlt
        rw [hn2] at c1
        have HN : Hid (xs[k]? = some n) := hn
        clear hn hn2
        cases hu : inB 0 65535 n with
        | true =>
          have hin : ∀ w, Calls Tryd.prog 70 #[.int .i64 n] w fun e w' => e = .returned (.bool false) ∧ w' = w := fun w => by have := areWords1_any n w; rwa [hu] at this
          have HU : Hid (inB 0 65535 n = true) := hu
          clear hu
          go_wp2_with (go_at_call 70; refine (hin _).mono ?_; rintro e w1 ⟨rfl, hw⟩; subst w1)
          go_round
          case rel => exact ⟨k + 1, by go_num, by omega, by rw [wordsB_take HN.out, HW.out, HU.out]; rfl⟩
          case measure => simp [intOf]; omega
        | false =>
          have hin : ∀ w, Calls Tryd.prog 70 #[.int .i64 n] w fun e w' => e = .returned (.bool true) ∧ w' = w := fun w => by have := areWords1_any n w; rwa [hu] at this
          have HU : Hid (inB 0 65535 n = false) := hu
          clear hu
          go_wp2_with (go_at_call 70; refine (hin _).mono ?_; rintro e w1 ⟨rfl, hw⟩; subst w1)
          go_ret
          exact ⟨⟨_, rfl, by rw [wordsB_no HN.out HU.out]; simp⟩, rfl⟩
      · obtain rfl : k = xs.length := by omega
        have e1 : Hid (wordsB xs = true) := by have := HW.out; rw [List.take_of_length_le (Nat.le_refl _)] at this; exact this
        clear HW
        go_wp2
        go_ret
        exact ⟨⟨_, rfl, by rw [e1.out]; decide⟩, rfl⟩

theorem containsW_any (a : Option Addr) (c : Nat) (xs : List Int) (w : World) (hl : xs.length ≤ 9223372036854775807) (h : Row w a xs) :
    Calls Tryd.prog 69 #[.slice a xs.length c, .func (.func 70) #[] #[]] w fun e w' => e = .returned (.bool (!wordsB xs)) ∧ w' = w := by
  have H := hid (indexW_any a c xs w hl h)
  clear h
  go_enter Tryd.func69, Tryd.ntmps69
  go_wp2_with fail
  refine Calls.mono H.out ?_
  rintro e w1 ⟨⟨r, rfl, hr⟩, hw⟩
  subst w1
  have HR := hid hr
  clear hr
  go_wp2
  go_ret
  exact ⟨ret_bool HR.out, rfl⟩

theorem areWords_any (a : Option Addr) (c : Nat) (xs : List Int) (w : World) (hl : xs.length ≤ 9223372036854775807) (h : Row w a xs) :
    Calls Tryd.prog 59 #[.slice a xs.length c] w fun e w' => e = .returned (.bool (wordsB xs)) ∧ w' = w := by
  have H := hid (containsW_any a c xs w hl h)
  clear h
  go_enter Tryd.func59, Tryd.ntmps59
  go_wp2_with fail
  refine Calls.mono H.out ?_
  rintro e w1 ⟨rfl, hw⟩
  subst w1
  go_wp2
  go_ret
  exact ⟨ret_bool (by simp), rfl⟩

/-- a good state -/
def goodSt (xs ys zs : List Int) : Bool := decide (xs.length = 8) && decide (ys.length = 16) && decide (zs.length ≤ 100) && wordsB xs && wordsB ys && wordsB zs

set_option maxHeartbeats 1000000 in
/-- the program's GoodState -/
theorem iGood_any (a1 a2 a3 : Option Addr) (c1 c2 c3 : Nat) (xs ys zs : List Int) (w : World) (hx : xs.length ≤ 9223372036854775807) (hy : ys.length ≤ 9223372036854775807) (hz : zs.length ≤ 9223372036854775807) (h : SRow w a1 a2 a3 xs ys zs) :
    Calls Tryd.prog 44 #[.agg #[.slice a1 xs.length c1, .slice a2 ys.length c2, .slice a3 zs.length c3]] w fun e w' => e = .returned (.bool (goodSt xs ys zs)) ∧ Below w.heap.size w w' := by
  by_cases h8 : xs.length = 8
  · by_cases h16 : ys.length = 16
    · by_cases h100 : zs.length ≤ 100
      · have hb := h.below (below1 w (.cells #[.slice a1 xs.length c1, .slice a2 ys.length c2, .slice a3 zs.length c3] 28))
        have w1 := areWords_any a1 c1 xs _ hx hb.1
        have w2 := areWords_any a2 c2 ys _ hy hb.2.1
        have w3 := areWords_any a3 c3 zs _ hz hb.2.2
        have e : goodSt xs ys zs = (wordsB xs && wordsB ys && wordsB zs) := by simp [goodSt, h8, h16, h100]
        rw [e]
        clear e hb h
        rw [h8, h16] at w1 w2 w3 ⊢
        obtain ⟨n3, hn3, h3⟩ : ∃ n3, zs.length = n3 ∧ n3 ≤ 100 := ⟨_, rfl, h100⟩
        rw [hn3] at w3 w2 w1 ⊢
        clear hn3 h100 h8 h16 hx hy hz
        have g3 : ¬ (100 : Int) < (n3 : Int) := by omega
        cases k1 : wordsB xs with
        | false =>
          rw [k1] at w1
          have W := hid w1
          clear w1 w2 w3 k1
          go_enter Tryd.func44, Tryd.ntmps44
          go_wp2_with fail
          refine Calls.mono W.out ?_
          rintro e W1 ⟨rfl, rfl⟩
          go_wp2
          go_ret
          exact ⟨ret_bool (by simp), below1 _ _⟩
        | true =>
          rw [k1] at w1
          cases k2 : wordsB ys with
          | false =>
            rw [k2] at w2
            have W := hid (And.intro w1 w2)
            clear w1 w2 w3 k1 k2
            go_enter Tryd.func44, Tryd.ntmps44
            go_wp2_with fail
            refine Calls.mono W.out.1 ?_
            rintro e W1 ⟨rfl, rfl⟩
            go_wp2_with fail
            refine Calls.mono W.out.2 ?_
            rintro e W1 ⟨rfl, rfl⟩
            go_wp2
            go_ret
            exact ⟨ret_bool (by simp), below1 _ _⟩
          | true =>
            rw [k2] at w2
            generalize wordsB zs = B at w3 ⊢
            have W := hid (And.intro w1 (And.intro w2 w3))
            clear w1 w2 w3 k1 k2
            go_enter Tryd.func44, Tryd.ntmps44
            go_wp2_with fail
            refine Calls.mono W.out.1 ?_
            rintro e W1 ⟨rfl, rfl⟩
            go_wp2_with fail
            refine Calls.mono W.out.2.1 ?_
            rintro e W1 ⟨rfl, rfl⟩
            go_wp2_with fail
            refine Calls.mono W.out.2.2 ?_
            rintro e W1 ⟨rfl, rfl⟩
            go_wp2
            go_ret
            exact ⟨ret_bool (by simp), below1 _ _⟩
      · have e : goodSt xs ys zs = false := by simp [goodSt, h100]
        rw [e, h8, h16]
        obtain ⟨n3, hn3, h3⟩ : ∃ n3, zs.length = n3 ∧ (100 : Int) < (n3 : Int) := ⟨_, rfl, by omega⟩
        rw [hn3] at hz ⊢
        clear e h hn3 h100 h8 h16 hx hy
        go_enter Tryd.func44, Tryd.ntmps44
        go_wp2
        go_ret
        exact ⟨rfl, below1 _ _⟩
    · have e : goodSt xs ys zs = false := by simp [goodSt, h16]
      have g : ¬ (ys.length : Int) = 16 := by omega
      rw [e, h8]
      clear e h h8 h16 hx
      go_enter Tryd.func44, Tryd.ntmps44
      go_wp2
      go_ret
      exact ⟨rfl, below1 _ _⟩
  · have e : goodSt xs ys zs = false := by simp [goodSt, h8]
    have g : ¬ (xs.length : Int) = 8 := by omega
    rw [e]
    clear e h h8
    go_enter Tryd.func44, Tryd.ntmps44
    go_wp2
    go_ret
    exact ⟨rfl, below1 _ _⟩

theorem ret_b {a b : Bool} (h : a = b) : Ending.returned (.bool a) = .returned (.bool b) := by rw [h]
set_option maxHeartbeats 1000000 in
/-- the model's GoodState -/
theorem sGood_any (a1 a2 a3 : Option Addr) (c1 c2 c3 : Nat) (xs ys zs : List Int) (w : World) (hx : xs.length ≤ 9223372036854775807) (hy : ys.length ≤ 9223372036854775807) (hz : zs.length ≤ 9223372036854775807) (h : SRow w a1 a2 a3 xs ys zs) :
    Calls Tryd.prog 27 #[.agg #[.slice a1 xs.length c1, .slice a2 ys.length c2, .slice a3 zs.length c3]] w fun e w' => e = .returned (.bool (goodSt xs ys zs)) ∧ Below w.heap.size w w' := by
  have hb := h.below (below1 w (.cells #[.slice a1 xs.length c1, .slice a2 ys.length c2, .slice a3 zs.length c3] 28))
  have w1 := l5Words_any a1 c1 xs 8 _ hx hb.1
  have w2 := l5Words_any a2 c2 ys 16 _ hy hb.2.1
  have w3 := l5Words_any a3 c3 zs zs.length _ hz hb.2.2
  have e : goodSt xs ys zs = ((wordsB xs && ((xs.length : Int) == 8)) && (wordsB ys && ((ys.length : Int) == 16)) && decide ((zs.length : Int) ≤ 100) && (wordsB zs && ((zs.length : Int) == (zs.length : Int)))) := by
    have g1 : ((xs.length : Int) == 8) = decide (xs.length = 8) := by rw [Bool.eq_iff_iff]; simp; omega
    have g2 : ((ys.length : Int) == 16) = decide (ys.length = 16) := by rw [Bool.eq_iff_iff]; simp; omega
    have g3 : decide ((zs.length : Int) ≤ 100) = decide (zs.length ≤ 100) := by rw [Bool.eq_iff_iff]; simp; omega
    rw [g1, g2, g3]
    simp only [goodSt, BEq.rfl, Bool.and_true]
    cases wordsB xs <;> cases wordsB ys <;> cases wordsB zs <;> simp
  rw [e]
  generalize (wordsB xs && ((xs.length : Int) == 8)) = A at w1 ⊢
  generalize (wordsB ys && ((ys.length : Int) == 16)) = B at w2 ⊢
  generalize (wordsB zs && ((zs.length : Int) == (zs.length : Int))) = C at w3 ⊢
  clear e hb h
  have W := hid (And.intro w1 (And.intro w2 w3))
  clear w1 w2 w3
  cases A with
  | false =>
    go_enter Tryd.func27, Tryd.ntmps27
    go_wp2_with fail
    refine Calls.mono W.out.1 ?_
    rintro e W1 ⟨rfl, rfl⟩
    go_wp2
    go_ret
    exact ⟨ret_b (by simp), below1 _ _⟩
  | true =>
    cases B with
    | false =>
      go_enter Tryd.func27, Tryd.ntmps27
      go_wp2_with fail
      refine Calls.mono W.out.1 ?_
      rintro e W1 ⟨rfl, rfl⟩
      go_wp2_with fail
      refine Calls.mono W.out.2.1 ?_
      rintro e W1 ⟨rfl, rfl⟩
      go_wp2
      go_ret
      exact ⟨ret_b (by simp), below1 _ _⟩
    | true =>
      by_cases h100 : (zs.length : Int) ≤ 100
      · go_enter Tryd.func27, Tryd.ntmps27
        go_wp2_with fail
        refine Calls.mono W.out.1 ?_
        rintro e W1 ⟨rfl, rfl⟩
        go_wp2_with fail
        refine Calls.mono W.out.2.1 ?_
        rintro e W1 ⟨rfl, rfl⟩
        go_wp2_with fail
        refine Calls.mono W.out.2.2 ?_
        rintro e W1 ⟨rfl, rfl⟩
        go_wp2
        go_ret
        exact ⟨ret_b (by simp [h100]), below1 _ _⟩
      · go_enter Tryd.func27, Tryd.ntmps27
        go_wp2_with fail
        refine Calls.mono W.out.1 ?_
        rintro e W1 ⟨rfl, rfl⟩
        go_wp2_with fail
        refine Calls.mono W.out.2.1 ?_
        rintro e W1 ⟨rfl, rfl⟩
        go_wp2
        go_ret
        exact ⟨ret_b (by simp; intro h; omega), below1 _ _⟩
end

section
open Go.RowKit
set_option linter.unusedVariables false
set_option linter.unusedSimpArgs false
set_option maxRecDepth 100000

/-- how a run comes out, if its arguments are as said -/
def runO (xs : List Stp) (L M T : List Int) (F : Int) : Option (Cf × List Int × Int) := match validR xs, nestO xs with
  | .fine hs _, some (en, _) => if (goodSt L M T && decide (0 ≤ F ∧ F ≤ 2000)) = true then some (runC xs en hs F.toNat (cf0 L M T)) else none
  | _, _ => none
theorem words_of {l : List Int} (h : wordsB l = true) : wds l := by
  intro v hv
  have := List.all_eq_true.1 h v hv
  simpa [inB] using this
theorem Vld.start {xs : List Stp} {en d hs : List Int} {rs : List Bool} (v : Vld xs en d hs rs) {L M T : List Int} (g : goodSt L M T = true) : Okc xs hs rs (cf0 L M T) := by
  obtain ⟨o, h, f, t, q1, q2, _⟩ := v.at 0 (Nat.zero_le _)
  obtain ⟨_, rfl, rfl⟩ := t.one (Tr.zero xs)
  unfold goodSt at g
  simp only [Bool.and_eq_true, decide_eq_true_eq] at g
  exact ⟨Nat.zero_le _, q1, fun h => by simpa [cf0] using q2 h, (fun u hu => by cases hu), g.1.1.1.1.1, g.1.1.1.1.2, g.1.1.1.2, words_of g.1.1.2, words_of g.1.2, words_of g.2⟩
theorem fine_nest {xs : List Stp} {hs : List Int} {rs : List Bool} (h : validR xs = .fine hs rs) : ∃ en d, nestO xs = some (en, d) ∧ Vld xs en d hs rs := by
  cases hn : nestO xs with
  | none => unfold validR at h; rw [hn] at h; simp at h
  | some p => exact ⟨p.1, p.2, rfl, ⟨hn, h⟩⟩
/-- what RunSteps answers -/
def RunAns (w' : World) (B : Nat) : Option (Cf × List Int × Int) → Ending → Prop
  | some r, e => ∃ lv mv tv, e = .returned (.tuple #[.agg #[lv, mv, tv], .int .i64 r.2.2, .int .i64 r.2.1.length, .bool true]) ∧ OwnSt w' B lv mv tv r.1.L r.1.M r.1.T
  | none, e => e = .returned (.tuple #[.agg #[.slice none 0 0, .slice none 0 0, .slice none 0 0], .int .i64 0, .int .i64 0, .bool false])
/-- what StepsDone answers -/
def DoneAns (w' : World) (B : Nat) : Option (Cf × List Int × Int) → Ending → Prop
  | some r, e => ∃ dv, e = .returned (.tuple #[dv, .bool true]) ∧ w'.ownsRow B 3 1 dv r.2.1.length (ints r.2.1)
  | none, e => e = .returned (.tuple #[.slice none 0 0, .bool false])
/-- the model's fuel -/
theorem l5Fuel_any (F : Int) (w : World) : Calls Tryd.prog 28 #[.int .i64 F] w fun e w' => e = .returned (.bool (decide (0 ≤ F ∧ F ≤ 2000))) ∧ w' = w := by
  have h := l1In_any F 0 2000 w
  go_enter Tryd.func28, Tryd.ntmps28
  go_wp2_with (go_at_call 40; refine h.mono ?_; rintro e w' ⟨rfl, rfl⟩)
  go_ret
  exact ⟨ret_bool (by simp [inB]), rfl⟩
theorem runC_ok {xs : List Stp} {en d hs : List Int} {rs : List Bool} (v : Vld xs en d hs rs) (f : Nat) (c : Cf) (k : Okc xs hs rs c) : Okc xs hs rs (runC xs en hs f c).1 := by
  induction f generalizing c with
  | zero => unfold runC; split <;> exact k
  | succ f ih =>
    by_cases hl : c.pc < xs.length
    · obtain ⟨x, hx⟩ : ∃ x, xs[c.pc]? = some x := ⟨_, List.getElem?_eq_getElem hl⟩
      cases he : eff xs en hs c x with
      | none => rw [runC_trap hx he]; exact k
      | some c' => rw [runC_go hx he]; exact ih c' (eff_ok v k hx he)
    · rw [runC_end hl]; exact k
/-- what is known of a run's end -/
structure Fin (r : Cf × List Int × Int) : Prop where
  L8 : r.1.L.length = 8
  M16 : r.1.M.length = 16
  T100 : r.1.T.length ≤ 100
  D : r.2.1.length ≤ 2000
theorem run_fin {xs : List Stp} {en d hs : List Int} {rs : List Bool} (v : Vld xs en d hs rs) {L M T : List Int} (g : goodSt L M T = true) (m : Nat) (hm : m ≤ 2000) : Fin (runC xs en hs m (cf0 L M T)) := by
  have k := runC_ok v m _ (v.start g)
  exact ⟨k.L8, k.M16, k.T100, Nat.le_trans (runC_len xs en hs m _) hm⟩
theorem OwnSt.put3 {V : World} {B B' b : Nat} {v1 v2 v3 : Value} {xs ys zs : List Int} (h : OwnSt V B v1 v2 v3 xs ys zs) (hb : b < B) (hB : B' ≤ B) (u1 u2 u3 : Value) : OwnSt (((V.setCell ⟨b, 0, none⟩ u1).setCell ⟨b, 1, none⟩ u2).setCell ⟨b, 2, none⟩ u3) B' v1 v2 v3 xs ys zs :=
  ⟨owns_mono (ownsRow_set3 h.l hb _ _ _) hB, owns_mono (ownsRow_set3 h.m hb _ _ _) hB, owns_mono (ownsRow_set3 h.t hb _ _ _) hB, h.lm, h.lt, h.mt⟩
theorem RunEnd.rows {w' : World} {B : Nat} {r : Cf × List Int × Int} {lv mv tv dv : Value} (h : RunEnd w' B r lv mv tv dv) : OwnSt w' B lv mv tv r.1.L r.1.M r.1.T ∧ w'.ownsRow B 3 1 dv r.2.1.length (ints r.2.1) := by
  have hs : List.Sublist [(⟨3, 1, lv, r.1.L.length, ints r.1.L⟩ : OR), ⟨3, 1, mv, r.1.M.length, ints r.1.M⟩, ⟨3, 1, tv, r.1.T.length, ints r.1.T⟩] [⟨3, 1, lv, r.1.L.length, ints r.1.L⟩, ⟨3, 1, mv, r.1.M.length, ints r.1.M⟩, ⟨3, 1, tv, r.1.T.length, ints r.1.T⟩, ⟨3, 1, dv, r.2.1.length, ints r.2.1⟩] := List.sublist_append_left [_, _, _] [_]
  exact ⟨OwnSt.of_sep ⟨fun x hx => h.1 x (hs.subset hx), List.Pairwise.sublist hs h.2⟩, h.1 ⟨3, 1, dv, r.2.1.length, ints r.2.1⟩ (by simp)⟩
/-- three boxes of the model's callers: the state handed in, the answer's, the walk's -/
structure Bx (w X : World) (s1 s2 s3 : Value) (wb : Nat) (q1 q2 q3 q4 : Value) : Prop where
  st : Box3 X w.heap.size s1 s2 s3
  an : ∀ j, j < 3 → X.cell? ⟨w.heap.size + 1, j, none⟩ = some (.slice none 0 0) ∧ X.frozen? ⟨w.heap.size + 1, j, none⟩ = false
  wk : X.cell? ⟨wb, 0, none⟩ = some q1 ∧ X.cell? ⟨wb, 1, none⟩ = some q2 ∧ X.cell? ⟨wb, 2, none⟩ = some q3 ∧ X.cell? ⟨wb, 3, none⟩ = some q4
  lt : w.heap.size + 1 < X.heap.size
  lw : wb < X.heap.size
  bel : Below w.heap.size w X
theorem Bx.below {w X X' : World} {s1 s2 s3 : Value} {wb : Nat} {q1 q2 q3 q4 : Value} (h : Bx w X s1 s2 s3 wb q1 q2 q3 q4) (hb : Below X.heap.size X X') : Bx w X' s1 s2 s3 wb q1 q2 q3 q4 := by
  have hc : ∀ b j, b < X.heap.size → X'.cell? ⟨b, j, none⟩ = X.cell? ⟨b, j, none⟩ := fun b j hl => hb.cell (p := ⟨b, j, none⟩) hl
  have hf : ∀ b j, b < X.heap.size → X'.frozen? ⟨b, j, none⟩ = X.frozen? ⟨b, j, none⟩ := fun b j hl => hb.frozen (p := ⟨b, j, none⟩) hl
  exact ⟨h.st.below hb, fun j hj => by rw [hc _ _ h.lt, hf _ _ h.lt]; exact h.an j hj, by rw [hc _ _ h.lw, hc _ _ h.lw, hc _ _ h.lw, hc _ _ h.lw]; exact h.wk, Nat.lt_of_lt_of_le h.lt hb.size, Nat.lt_of_lt_of_le h.lw hb.size, bstep' h.bel hb⟩
theorem Bx.new {w w1 : World} {s1 s2 s3 : Value} {q1 q2 q3 q4 : Value} {t : TypeId} (hb : Below ((w.alloc (.cells #[s1, s2, s3] 28)).alloc (.cells #[.slice none 0 0, .slice none 0 0, .slice none 0 0] 28)).heap.size ((w.alloc (.cells #[s1, s2, s3] 28)).alloc (.cells #[.slice none 0 0, .slice none 0 0, .slice none 0 0] 28)) w1) : Bx w (w1.alloc (.cells #[q1, q2, q3, q4] t)) s1 s2 s3 w1.heap.size q1 q2 q3 q4 := by
  have hz : ((w.alloc (.cells #[s1, s2, s3] 28)).alloc (.cells #[.slice none 0 0, .slice none 0 0, .slice none 0 0] 28)).heap.size = w.heap.size + 1 + 1 := by simp
  have hsz := hb.size
  have b1 := bstep hb hb.size (below1 w1 (.cells #[q1, q2, q3, q4] t))
  have hc : ∀ b j, b < w.heap.size + 1 + 1 → (w1.alloc (.cells #[q1, q2, q3, q4] t)).cell? ⟨b, j, none⟩ = ((w.alloc (.cells #[s1, s2, s3] 28)).alloc (.cells #[.slice none 0 0, .slice none 0 0, .slice none 0 0] 28)).cell? ⟨b, j, none⟩ := fun b j hl => b1.cell (p := ⟨b, j, none⟩) (by rw [hz]; exact hl)
  have hf : ∀ b j, b < w.heap.size + 1 + 1 → (w1.alloc (.cells #[q1, q2, q3, q4] t)).frozen? ⟨b, j, none⟩ = ((w.alloc (.cells #[s1, s2, s3] 28)).alloc (.cells #[.slice none 0 0, .slice none 0 0, .slice none 0 0] 28)).frozen? ⟨b, j, none⟩ := fun b j hl => b1.frozen (p := ⟨b, j, none⟩) (by rw [hz]; exact hl)
  refine ⟨⟨?_, ?_, ?_⟩, fun j hj => ?_, ⟨by simp [go_sem], by simp [go_sem], by simp [go_sem], by simp [go_sem]⟩, by simp; omega, by simp, bstep' (below2 w _ _) b1⟩
  · rw [hc _ _ (by omega)]; simp [go_sem]
  · rw [hc _ _ (by omega)]; simp [go_sem]
  · rw [hc _ _ (by omega)]; simp [go_sem]
  · rw [hc _ _ (by omega), hf _ _ (by omega)]
    obtain rfl | rfl | rfl : j = 0 ∨ j = 1 ∨ j = 2 := by omega
    all_goals simp [go_sem]
set_option maxHeartbeats 4000000 in
/-- the model's RunSteps -/
theorem sRunSteps_any (a : Option Addr) (ac : Nat) (xs : List Stp) (a1 a2 a3 : Option Addr) (c1 c2 c3 : Nat) (L M T : List Int) (F : Int) (w : World) (hl : xs.length ≤ 1048576) (h1 : L.length ≤ 1048576) (h2 : M.length ≤ 1048576) (h3 : T.length ≤ 1048576) (hT : TRow w a xs) (hS : SRow w a1 a2 a3 L M T) :
    Calls Tryd.prog 8 #[.slice a xs.length ac, .agg #[.slice a1 L.length c1, .slice a2 M.length c2, .slice a3 T.length c3], .int .i64 F] w fun e w' => RunAns w' w.heap.size (runO xs L M T F) e ∧ Below w.heap.size w w' := by
  have HV : Hid (∀ X, Below w.heap.size w X → Calls Tryd.prog 26 #[.slice a xs.length ac] X fun e w' => l4vAns X.heap.size w' e (validR xs) ∧ Below X.heap.size X w') := fun X hb => l4Valid_any a ac xs X hl (hT.below hb)
  have HG : Hid (∀ X, Below w.heap.size w X → Calls Tryd.prog 27 #[.agg #[.slice a1 L.length c1, .slice a2 M.length c2, .slice a3 T.length c3]] X fun e w' => e = .returned (.bool (goodSt L M T)) ∧ Below X.heap.size X w') := fun X hb => sGood_any a1 a2 a3 c1 c2 c3 L M T X (by omega) (by omega) (by omega) (hS.below hb)
  have HT := hid (And.intro hT hS)
  clear hT hS
  have B0 := below2 w (.cells #[.slice a1 L.length c1, .slice a2 M.length c2, .slice a3 T.length c3] 28) (.cells #[.slice none 0 0, .slice none 0 0, .slice none 0 0] 28)
  cases hv : validR xs with
  | bad k p =>
    have HO : Hid (runO xs L M T F = none) := by show _ = _; unfold runO; rw [hv]
    have HV2 : Hid (∀ X, Below w.heap.size w X → Calls Tryd.prog 26 #[.slice a xs.length ac] X fun e w' => (∃ ha hn hc da dn dc k p, e = .returned (.tuple #[.agg #[.slice ha hn hc, .slice da dn dc, .int .i64 k, .int .i64 p], .bool false])) ∧ Below X.heap.size X w') := by
      have h9 := HV.out
      rw [hv] at h9
      exact h9
    clear HV hv
    go_enter Tryd.func8, Tryd.ntmps8
    go_wp2_with fail
    refine (HV2.out _ B0).mono ?_
    rintro e w1 ⟨⟨ha, hn, hc, da, dn, dc, k, p, rfl⟩, hb1⟩
    have BX := Bx.new (q1 := .slice ha hn hc) (q2 := .slice da dn dc) (q3 := .int .i64 k) (q4 := .int .i64 p) (t := 51) hb1
    obtain ⟨⟨n0, f0⟩, ⟨n1, f1⟩, ⟨n2, f2⟩⟩ : _ ∧ _ ∧ _ := ⟨BX.an 0 (by omega), BX.an 1 (by omega), BX.an 2 (by omega)⟩
    have lt := BX.lt
    have HB := hid BX
    clear BX hb1
    go_wp2
    refine bodyPost_ret (v := .tuple #[.agg #[.slice none 0 0, .slice none 0 0, .slice none 0 0], .int .i64 0, .int .i64 0, .bool false]) (by simp [results, Tryd.results8, go_sem, *]) rfl ⟨by rw [HO.out]; rfl, ?_⟩
    exact ((HB.out.bel.setCell (p := ⟨w.heap.size + 1, 0, none⟩) (by simp) _).setCell (p := ⟨w.heap.size + 1, 1, none⟩) (by simp) _).setCell (p := ⟨w.heap.size + 1, 2, none⟩) (by simp) _
  | fine hs rs =>
    obtain ⟨en, d, hn, vv⟩ := fine_nest hv
    have HV2 : Hid (∀ X, Below w.heap.size w X → Calls Tryd.prog 26 #[.slice a xs.length ac] X fun e w' => (∃ ha hc da dn dc k p, e = .returned (.tuple #[.agg #[.slice ha hs.length hc, .slice da dn dc, .int .i64 k, .int .i64 p], .bool true]) ∧ Row w' ha hs) ∧ Below X.heap.size X w') := by
      intro X hb
      have h9 := HV.out X hb
      rw [hv] at h9
      refine h9.mono ?_
      rintro e w' ⟨⟨ha, hc, da, dc, k, p, ds, rfl, _, ho, _⟩, hb'⟩
      exact ⟨⟨ha, hc, da, _, dc, k, p, rfl, own_row ho⟩, hb'⟩
    have HR : Hid (runO xs L M T F = if (goodSt L M T && decide (0 ≤ F ∧ F ≤ 2000)) = true then some (runC xs en hs F.toNat (cf0 L M T)) else none) := by show _ = _; unfold runO; rw [hv, hn]
    have HVV := hid vv
    clear HV hv hn vv
    generalize hg : goodSt L M T = gd at HG HR
    generalize hf : decide (0 ≤ F ∧ F ≤ 2000) = fd at HR
    have HGF := hid (And.intro hg hf)
    have HFU : Hid (∀ X, Calls Tryd.prog 28 #[.int .i64 F] X fun e w' => e = .returned (.bool fd) ∧ w' = X) := fun X => by rw [← hf]; exact l5Fuel_any F X
    clear hg hf
    go_enter Tryd.func8, Tryd.ntmps8
    go_wp2_with fail
    refine (HV2.out _ B0).mono ?_
    rintro e w1 ⟨⟨ha, hc, da, dn, dc, k, p, rfl, hHs⟩, hb1⟩
    have BX := Bx.new (q1 := .slice ha hs.length hc) (q2 := .slice da dn dc) (q3 := .int .i64 k) (q4 := .int .i64 p) (t := 51) hb1
    have HRow := hid (hHs.below (below1 w1 (.cells #[.slice ha hs.length hc, .slice da dn dc, .int .i64 k, .int .i64 p] 51)))
    obtain ⟨⟨n0, f0⟩, ⟨n1, f1⟩, ⟨n2, f2⟩⟩ : _ ∧ _ ∧ _ := ⟨BX.an 0 (by omega), BX.an 1 (by omega), BX.an 2 (by omega)⟩
    obtain ⟨s0, s1, s2⟩ := BX.st
    have lt := BX.lt
    have HB := hid BX
    clear BX hb1 hHs
    go_wp2_with fail
    generalize (w1.alloc (.cells #[.slice ha hs.length hc, .slice da dn dc, .int .i64 k, .int .i64 p] 51)) = X1 at *
    generalize w1.heap.size = wb at *
    refine (HG.out _ HB.out.bel).mono ?_
    rintro e X2 ⟨rfl, hb2⟩
    have HB2 := hid (HB.out.below hb2)
    have HRow2 := hid (HRow.out.below hb2)
    clear s0 s1 s2 n0 f0 n1 f1 n2 f2 lt HB HRow hb2
    obtain ⟨⟨n0, f0⟩, ⟨n1, f1⟩, ⟨n2, f2⟩⟩ : _ ∧ _ ∧ _ := ⟨HB2.out.an 0 (by omega), HB2.out.an 1 (by omega), HB2.out.an 2 (by omega)⟩
    obtain ⟨s0, s1, s2⟩ := HB2.out.st
    obtain ⟨k0, k1, k2, k3⟩ := HB2.out.wk
    have lt := HB2.out.lt
    cases gd with
    | false =>
      have HO : Hid (runO xs L M T F = none) := by show _ = _; rw [HR.out]; simp
      go_wp2
      refine bodyPost_ret (v := .tuple #[.agg #[.slice none 0 0, .slice none 0 0, .slice none 0 0], .int .i64 0, .int .i64 0, .bool false]) (by simp [results, Tryd.results8, go_sem, *]) rfl ⟨by rw [HO.out]; rfl, ?_⟩
      exact ((HB2.out.bel.setCell (p := ⟨w.heap.size + 1, 0, none⟩) (by simp) _).setCell (p := ⟨w.heap.size + 1, 1, none⟩) (by simp) _).setCell (p := ⟨w.heap.size + 1, 2, none⟩) (by simp) _
    | true =>
      cases fd with
      | false =>
        have HO : Hid (runO xs L M T F = none) := by show _ = _; rw [HR.out]; simp
        go_wp2_with fail
        refine (HFU.out _).mono ?_
        rintro e X3 ⟨rfl, rfl⟩
        go_wp2
        refine bodyPost_ret (v := .tuple #[.agg #[.slice none 0 0, .slice none 0 0, .slice none 0 0], .int .i64 0, .int .i64 0, .bool false]) (by simp [results, Tryd.results8, go_sem, *]) rfl ⟨by rw [HO.out]; rfl, ?_⟩
        exact ((HB2.out.bel.setCell (p := ⟨w.heap.size + 1, 0, none⟩) (by simp) _).setCell (p := ⟨w.heap.size + 1, 1, none⟩) (by simp) _).setCell (p := ⟨w.heap.size + 1, 2, none⟩) (by simp) _
      | true =>
        have HO : Hid (runO xs L M T F = some (runC xs en hs F.toNat (cf0 L M T))) := by show _ = _; rw [HR.out]; simp
        obtain ⟨m, hm⟩ : ∃ m : Nat, F = m := Int.eq_ofNat_of_zero_le (by have := HGF.out.2; simp at this; exact this.1)
        have hm2 : m ≤ 2000 := by have := HGF.out.2; simp at this; omega
        subst hm
        rw [Int.toNat_natCast] at HO
        have HRN : Hid (Calls Tryd.prog 29 #[.slice a xs.length ac, .agg #[.slice ha hs.length hc, .slice da dn dc, .int .i64 k, .int .i64 p], .agg #[.slice a1 L.length c1, .slice a2 M.length c2, .slice a3 T.length c3], .int .i64 m] X2 fun e w' => ∃ lv mv tv dv, e = .returned (.tuple #[.agg #[lv, mv, tv], .int .i64 (runC xs en hs m (cf0 L M T)).2.2, dv]) ∧ RunEnd w' X2.heap.size (runC xs en hs m (cf0 L M T)) lv mv tv dv ∧ Below X2.heap.size X2 w') := hid (l5Run_any xs en d hs rs a ha ac hc da dn dc k p L M T a1 a2 a3 c1 c2 c3 X2 m hm2 HVV.out (HT.out.1.below HB2.out.bel) HRow2.out (HT.out.2.below HB2.out.bel) (HVV.out.start HGF.out.1))
        have HFN := run_fin HVV.out HGF.out.1 m hm2
        generalize runC xs en hs m (cf0 L M T) = r at HRN HO HFN
        go_wp2_with fail
        refine (HFU.out _).mono ?_
        rintro e X3 ⟨rfl, rfl⟩
        go_wp2_with fail
        refine HRN.out.mono ?_
        rintro e X4 ⟨lv, mv, tv, dv, rfl, hE, hb4⟩
        obtain ⟨hOS, hDn⟩ := hE.rows
        obtain ⟨la, lc, rfl⟩ := slice_of_owned hOS.l
        obtain ⟨ma, mc, rfl⟩ := slice_of_owned hOS.m
        obtain ⟨ta, tc, rfl⟩ := slice_of_owned hOS.t
        obtain ⟨oa, oc, rfl⟩ := slice_of_owned hDn
        have b5 := below1 X4 (.cells #[.slice la r.1.L.length lc, .slice ma r.1.M.length mc, .slice ta r.1.T.length tc] 28)
        have HB4 := hid ((HB2.out.below hb4).below b5)
        have HOW := hid (l5Own_any la ma ta lc mc tc r.1.L r.1.M r.1.T (X4.alloc (.cells #[.slice la r.1.L.length lc, .slice ma r.1.M.length mc, .slice ta r.1.T.length tc] 28)) (by have := HFN.L8; omega) (by have := HFN.M16; omega) (by have := HFN.T100; omega) (hOS.row.below b5))
        have hDl : r.2.1.length ≤ 2000 := HFN.D
        have HFN' := hid HFN
        clear s0 s1 s2 n0 f0 n1 f1 n2 f2 k0 k1 k2 k3 lt hb4 hE hOS hDn b5 HFN HRow2 HB2
        go_wp2_with fail
        generalize (X4.alloc (.cells #[.slice la r.1.L.length lc, .slice ma r.1.M.length mc, .slice ta r.1.T.length tc] 28)) = X5 at *
        refine HOW.out.mono ?_
        rintro e X6 ⟨e1, e2, e3, g1, g2, g3, rfl, hO6, hb6⟩
        have HB6 := hid (HB4.out.below hb6)
        obtain ⟨⟨n0, f0⟩, ⟨n1, f1⟩, ⟨n2, f2⟩⟩ : _ ∧ _ ∧ _ := ⟨HB6.out.an 0 (by omega), HB6.out.an 1 (by omega), HB6.out.an 2 (by omega)⟩
        have lt := HB6.out.lt
        have HF := hid (And.intro (hO6.put3 (b := w.heap.size + 1) (B' := w.heap.size) HB4.out.lt (by have := HB4.out.lt; omega) (.slice e1 r.1.L.length g1) (.slice e2 r.1.M.length g2) (.slice e3 r.1.T.length g3)) (((HB6.out.bel.setCell (p := ⟨w.heap.size + 1, 0, none⟩) (by simp) (.slice e1 r.1.L.length g1)).setCell (p := ⟨w.heap.size + 1, 1, none⟩) (by simp) (.slice e2 r.1.M.length g2)).setCell (p := ⟨w.heap.size + 1, 2, none⟩) (by simp) (.slice e3 r.1.T.length g3)))
        clear hO6 hb6
        go_wp2
        refine bodyPost_ret (v := .tuple #[.agg #[.slice e1 r.1.L.length g1, .slice e2 r.1.M.length g2, .slice e3 r.1.T.length g3], .int .i64 r.2.2, .int .i64 r.2.1.length, .bool true]) (by simp [results, Tryd.results8, go_sem, *]) rfl ⟨?_, HF.out.2⟩
        rw [HO.out]
        exact ⟨_, _, _, rfl, HF.out.1⟩
end

section
open Go.RowKit
set_option linter.unusedVariables false
set_option linter.unusedSimpArgs false
set_option maxRecDepth 100000

/-- two boxes of the model's StepsDone: the state handed in, the walk's -/
structure Bz (w X : World) (s1 s2 s3 : Value) (wb : Nat) (q1 q2 q3 q4 : Value) : Prop where
  st : Box3 X w.heap.size s1 s2 s3
  wk : X.cell? ⟨wb, 0, none⟩ = some q1 ∧ X.cell? ⟨wb, 1, none⟩ = some q2 ∧ X.cell? ⟨wb, 2, none⟩ = some q3 ∧ X.cell? ⟨wb, 3, none⟩ = some q4
  lt : w.heap.size < X.heap.size
  lw : wb < X.heap.size
  bel : Below w.heap.size w X
theorem Bz.below {w X X' : World} {s1 s2 s3 : Value} {wb : Nat} {q1 q2 q3 q4 : Value} (h : Bz w X s1 s2 s3 wb q1 q2 q3 q4) (hb : Below X.heap.size X X') : Bz w X' s1 s2 s3 wb q1 q2 q3 q4 := by
  have hc : ∀ b j, b < X.heap.size → X'.cell? ⟨b, j, none⟩ = X.cell? ⟨b, j, none⟩ := fun b j hl => hb.cell (p := ⟨b, j, none⟩) hl
  exact ⟨h.st.below hb, by rw [hc _ _ h.lw, hc _ _ h.lw, hc _ _ h.lw, hc _ _ h.lw]; exact h.wk, Nat.lt_of_lt_of_le h.lt hb.size, Nat.lt_of_lt_of_le h.lw hb.size, bstep' h.bel hb⟩
theorem Bz.new {w w1 : World} {s1 s2 s3 : Value} {q1 q2 q3 q4 : Value} {t : TypeId} (hb : Below (w.alloc (.cells #[s1, s2, s3] 28)).heap.size (w.alloc (.cells #[s1, s2, s3] 28)) w1) : Bz w (w1.alloc (.cells #[q1, q2, q3, q4] t)) s1 s2 s3 w1.heap.size q1 q2 q3 q4 := by
  have b1 := bstep hb hb.size (below1 w1 (.cells #[q1, q2, q3, q4] t))
  have hp := (Box3.new w s1 s2 s3 28).below b1
  exact ⟨hp, ⟨by simp [go_sem], by simp [go_sem], by simp [go_sem], by simp [go_sem]⟩, hp.lt, by simp, bstep' (below1 w _) b1⟩
set_option maxHeartbeats 4000000 in
/-- the model's StepsDone -/
theorem sStepsDone_any (a : Option Addr) (ac : Nat) (xs : List Stp) (a1 a2 a3 : Option Addr) (c1 c2 c3 : Nat) (L M T : List Int) (F : Int) (w : World) (hl : xs.length ≤ 1048576) (h1 : L.length ≤ 1048576) (h2 : M.length ≤ 1048576) (h3 : T.length ≤ 1048576) (hT : TRow w a xs) (hS : SRow w a1 a2 a3 L M T) :
    Calls Tryd.prog 17 #[.slice a xs.length ac, .agg #[.slice a1 L.length c1, .slice a2 M.length c2, .slice a3 T.length c3], .int .i64 F] w fun e w' => DoneAns w' w.heap.size (runO xs L M T F) e ∧ Below w.heap.size w w' := by
  have HV : Hid (∀ X, Below w.heap.size w X → Calls Tryd.prog 26 #[.slice a xs.length ac] X fun e w' => l4vAns X.heap.size w' e (validR xs) ∧ Below X.heap.size X w') := fun X hb => l4Valid_any a ac xs X hl (hT.below hb)
  have HG : Hid (∀ X, Below w.heap.size w X → Calls Tryd.prog 27 #[.agg #[.slice a1 L.length c1, .slice a2 M.length c2, .slice a3 T.length c3]] X fun e w' => e = .returned (.bool (goodSt L M T)) ∧ Below X.heap.size X w') := fun X hb => sGood_any a1 a2 a3 c1 c2 c3 L M T X (by omega) (by omega) (by omega) (hS.below hb)
  have HT := hid (And.intro hT hS)
  clear hT hS
  have B0 := below1 w (.cells #[.slice a1 L.length c1, .slice a2 M.length c2, .slice a3 T.length c3] 28)
  cases hv : validR xs with
  | bad k p =>
    have HO : Hid (runO xs L M T F = none) := by show _ = _; unfold runO; rw [hv]
    have HV2 : Hid (∀ X, Below w.heap.size w X → Calls Tryd.prog 26 #[.slice a xs.length ac] X fun e w' => (∃ ha hn hc da dn dc k p, e = .returned (.tuple #[.agg #[.slice ha hn hc, .slice da dn dc, .int .i64 k, .int .i64 p], .bool false])) ∧ Below X.heap.size X w') := by
      have h9 := HV.out
      rw [hv] at h9
      exact h9
    clear HV hv
    go_enter Tryd.func17, Tryd.ntmps17
    go_wp2_with fail
    refine (HV2.out _ B0).mono ?_
    rintro e w1 ⟨⟨ha, hn, hc, da, dn, dc, k, p, rfl⟩, hb1⟩
    have BX := Bz.new (q1 := .slice ha hn hc) (q2 := .slice da dn dc) (q3 := .int .i64 k) (q4 := .int .i64 p) (t := 51) hb1
    have lt := BX.lt
    have HB := hid BX
    clear BX hb1
    go_wp2
    refine bodyPost_ret (v := .tuple #[.slice none 0 0, .bool false]) (by simp [results, Tryd.results17, go_sem, *]) rfl ⟨by rw [HO.out]; rfl, ?_⟩
    exact HB.out.bel
  | fine hs rs =>
    obtain ⟨en, d, hn, vv⟩ := fine_nest hv
    have HV2 : Hid (∀ X, Below w.heap.size w X → Calls Tryd.prog 26 #[.slice a xs.length ac] X fun e w' => (∃ ha hc da dn dc k p, e = .returned (.tuple #[.agg #[.slice ha hs.length hc, .slice da dn dc, .int .i64 k, .int .i64 p], .bool true]) ∧ Row w' ha hs) ∧ Below X.heap.size X w') := by
      intro X hb
      have h9 := HV.out X hb
      rw [hv] at h9
      refine h9.mono ?_
      rintro e w' ⟨⟨ha, hc, da, dc, k, p, ds, rfl, _, ho, _⟩, hb'⟩
      exact ⟨⟨ha, hc, da, _, dc, k, p, rfl, own_row ho⟩, hb'⟩
    have HR : Hid (runO xs L M T F = if (goodSt L M T && decide (0 ≤ F ∧ F ≤ 2000)) = true then some (runC xs en hs F.toNat (cf0 L M T)) else none) := by show _ = _; unfold runO; rw [hv, hn]
    have HVV := hid vv
    clear HV hv hn vv
    generalize hg : goodSt L M T = gd at HG HR
    generalize hf : decide (0 ≤ F ∧ F ≤ 2000) = fd at HR
    have HGF := hid (And.intro hg hf)
    have HFU : Hid (∀ X, Calls Tryd.prog 28 #[.int .i64 F] X fun e w' => e = .returned (.bool fd) ∧ w' = X) := fun X => by rw [← hf]; exact l5Fuel_any F X
    clear hg hf
    go_enter Tryd.func17, Tryd.ntmps17
    go_wp2_with fail
    refine (HV2.out _ B0).mono ?_
    rintro e w1 ⟨⟨ha, hc, da, dn, dc, k, p, rfl, hHs⟩, hb1⟩
    have BX := Bz.new (q1 := .slice ha hs.length hc) (q2 := .slice da dn dc) (q3 := .int .i64 k) (q4 := .int .i64 p) (t := 51) hb1
    have HRow := hid (hHs.below (below1 w1 (.cells #[.slice ha hs.length hc, .slice da dn dc, .int .i64 k, .int .i64 p] 51)))
    obtain ⟨s0, s1, s2⟩ := BX.st
    have lt := BX.lt
    have HB := hid BX
    clear BX hb1 hHs
    go_wp2_with fail
    generalize (w1.alloc (.cells #[.slice ha hs.length hc, .slice da dn dc, .int .i64 k, .int .i64 p] 51)) = X1 at *
    generalize w1.heap.size = wb at *
    refine (HG.out _ HB.out.bel).mono ?_
    rintro e X2 ⟨rfl, hb2⟩
    have HB2 := hid (HB.out.below hb2)
    have HRow2 := hid (HRow.out.below hb2)
    clear s0 s1 s2 lt HB HRow hb2
    obtain ⟨s0, s1, s2⟩ := HB2.out.st
    obtain ⟨k0, k1, k2, k3⟩ := HB2.out.wk
    have lt := HB2.out.lt
    cases gd with
    | false =>
      have HO : Hid (runO xs L M T F = none) := by show _ = _; rw [HR.out]; simp
      go_wp2
      refine bodyPost_ret (v := .tuple #[.slice none 0 0, .bool false]) (by simp [results, Tryd.results17, go_sem, *]) rfl ⟨by rw [HO.out]; rfl, ?_⟩
      exact HB2.out.bel
    | true =>
      cases fd with
      | false =>
        have HO : Hid (runO xs L M T F = none) := by show _ = _; rw [HR.out]; simp
        go_wp2_with fail
        refine (HFU.out _).mono ?_
        rintro e X3 ⟨rfl, rfl⟩
        go_wp2
        refine bodyPost_ret (v := .tuple #[.slice none 0 0, .bool false]) (by simp [results, Tryd.results17, go_sem, *]) rfl ⟨by rw [HO.out]; rfl, ?_⟩
        exact HB2.out.bel
      | true =>
        have HO : Hid (runO xs L M T F = some (runC xs en hs F.toNat (cf0 L M T))) := by show _ = _; rw [HR.out]; simp
        obtain ⟨m, hm⟩ : ∃ m : Nat, F = m := Int.eq_ofNat_of_zero_le (by have := HGF.out.2; simp at this; exact this.1)
        have hm2 : m ≤ 2000 := by have := HGF.out.2; simp at this; omega
        subst hm
        rw [Int.toNat_natCast] at HO
        have HRN : Hid (Calls Tryd.prog 29 #[.slice a xs.length ac, .agg #[.slice ha hs.length hc, .slice da dn dc, .int .i64 k, .int .i64 p], .agg #[.slice a1 L.length c1, .slice a2 M.length c2, .slice a3 T.length c3], .int .i64 m] X2 fun e w' => ∃ lv mv tv dv, e = .returned (.tuple #[.agg #[lv, mv, tv], .int .i64 (runC xs en hs m (cf0 L M T)).2.2, dv]) ∧ RunEnd w' X2.heap.size (runC xs en hs m (cf0 L M T)) lv mv tv dv ∧ Below X2.heap.size X2 w') := hid (l5Run_any xs en d hs rs a ha ac hc da dn dc k p L M T a1 a2 a3 c1 c2 c3 X2 m hm2 HVV.out (HT.out.1.below HB2.out.bel) HRow2.out (HT.out.2.below HB2.out.bel) (HVV.out.start HGF.out.1))
        have HFN := run_fin HVV.out HGF.out.1 m hm2
        generalize runC xs en hs m (cf0 L M T) = r at HRN HO HFN
        go_wp2_with fail
        refine (HFU.out _).mono ?_
        rintro e X3 ⟨rfl, rfl⟩
        go_wp2_with fail
        refine HRN.out.mono ?_
        rintro e X4 ⟨lv, mv, tv, dv, rfl, hE, hb4⟩
        obtain ⟨hOS, hDn⟩ := hE.rows
        obtain ⟨la, lc, rfl⟩ := slice_of_owned hOS.l
        obtain ⟨ma, mc, rfl⟩ := slice_of_owned hOS.m
        obtain ⟨ta, tc, rfl⟩ := slice_of_owned hOS.t
        obtain ⟨oa, oc, rfl⟩ := slice_of_owned hDn
        have HF := hid (And.intro (owns_below (owns_mono hDn HB2.out.bel.size) (below1 X4 (.cells #[.slice la r.1.L.length lc, .slice ma r.1.M.length mc, .slice ta r.1.T.length tc] 28))) (bstep' (bstep' HB2.out.bel hb4) (below1 X4 (.cells #[.slice la r.1.L.length lc, .slice ma r.1.M.length mc, .slice ta r.1.T.length tc] 28))))
        clear s0 s1 s2 k0 k1 k2 k3 lt hb4 hE hOS hDn HFN HRow2 HB2
        go_wp2
        refine bodyPost_ret (v := .tuple #[.slice oa r.2.1.length oc, .bool true]) (by simp [results, Tryd.results17, go_sem, *]) rfl ⟨?_, HF.out.2⟩
        rw [HO.out]
        exact ⟨_, rfl, HF.out.1⟩
/-- whether two runs come out alike, and whether it is told -/
def sameR : Option (Cf × List Int × Int) → Option (Cf × List Int × Int) → Bool × Bool
  | some r, some q => if r.2.2 = 3 ∨ q.2.2 = 3 then (false, false) else (decide (r.2.2 = q.2.2) && sameSt r.1.L r.1.M r.1.T q.1.L q.1.M q.1.T, true)
  | _, _ => (false, false)
theorem runO_fin {xs : List Stp} {L M T : List Int} {F : Int} {r : Cf × List Int × Int} (h : runO xs L M T F = some r) : Fin r := by
  unfold runO at h
  cases hv : validR xs with
  | bad k p => rw [hv] at h; cases h
  | fine hs rs =>
    obtain ⟨en, d, hn, vv⟩ := fine_nest hv
    rw [hv, hn] at h
    simp only [Bool.and_eq_true, decide_eq_true_eq] at h
    split at h
    · rename_i hg
      cases h
      exact run_fin vv hg.1 _ (by omega)
    · cases h
/-- what the two parts of SameRuns tell -/
theorem sameR_none1 (q : Option (Cf × List Int × Int)) : sameR none q = (false, false) := rfl
theorem sameR_none2 (r : Option (Cf × List Int × Int)) : sameR r none = (false, false) := by cases r <;> rfl
theorem below_box {w X : World} {v1 v2 v3 : Value} (h : Below (w.alloc (.cells #[v1, v2, v3] 28)).heap.size (w.alloc (.cells #[v1, v2, v3] 28)) X) : Below w.heap.size w X ∧ Box3 X w.heap.size v1 v2 v3 := ⟨bstep' (below1 w _) h, (Box3.new w v1 v2 v3 28).below h⟩
set_option maxHeartbeats 4000000 in
/-- the model's SameRuns -/
theorem sSameRuns_any (a b : Option Addr) (ac bc : Nat) (xs ys : List Stp) (a1 a2 a3 : Option Addr) (c1 c2 c3 : Nat) (L M T : List Int) (F : Int) (w : World) (hl : xs.length ≤ 1048576) (hl' : ys.length ≤ 1048576) (h1 : L.length ≤ 1048576) (h2 : M.length ≤ 1048576) (h3 : T.length ≤ 1048576) (hT : TRow w a xs) (hT' : TRow w b ys) (hS : SRow w a1 a2 a3 L M T) :
    Calls Tryd.prog 22 #[.slice a xs.length ac, .slice b ys.length bc, .agg #[.slice a1 L.length c1, .slice a2 M.length c2, .slice a3 T.length c3], .int .i64 F] w fun e w' => e = .returned (.tuple #[.bool (sameR (runO xs L M T F) (runO ys L M T F)).1, .bool (sameR (runO xs L M T F) (runO ys L M T F)).2]) ∧ Below w.heap.size w w' := by
  have HA : Hid (∀ X, Below w.heap.size w X → Calls Tryd.prog 8 #[.slice a xs.length ac, .agg #[.slice a1 L.length c1, .slice a2 M.length c2, .slice a3 T.length c3], .int .i64 F] X fun e w' => RunAns w' X.heap.size (runO xs L M T F) e ∧ Below X.heap.size X w') := fun X hb => sRunSteps_any a ac xs a1 a2 a3 c1 c2 c3 L M T F X hl h1 h2 h3 (hT.below hb) (hS.below hb)
  have HB : Hid (∀ X, Below w.heap.size w X → Calls Tryd.prog 8 #[.slice b ys.length bc, .agg #[.slice a1 L.length c1, .slice a2 M.length c2, .slice a3 T.length c3], .int .i64 F] X fun e w' => RunAns w' X.heap.size (runO ys L M T F) e ∧ Below X.heap.size X w') := fun X hb => sRunSteps_any b bc ys a1 a2 a3 c1 c2 c3 L M T F X hl' h1 h2 h3 (hT'.below hb) (hS.below hb)
  have F1 : ∀ r, runO xs L M T F = some r → Fin r := fun r h => runO_fin h
  have F2 : ∀ r, runO ys L M T F = some r → Fin r := fun r h => runO_fin h
  generalize runO xs L M T F = r1 at HA F1 ⊢
  generalize runO ys L M T F = r2 at HB F2 ⊢
  have HF1 := hid F1
  have HF2 := hid F2
  clear F1 F2 hT hT' hS hl hl' h1 h2 h3
  have B0 := below1 w (.cells #[.slice a1 L.length c1, .slice a2 M.length c2, .slice a3 T.length c3] 28)
  -- the first run, whatever it tells
  have HA2 : Hid (∀ X, Below w.heap.size w X → Calls Tryd.prog 8 #[.slice a xs.length ac, .agg #[.slice a1 L.length c1, .slice a2 M.length c2, .slice a3 T.length c3], .int .i64 F] X fun e w' => ∃ (la ma ta : Option Addr) (ln mn tn lc mc tc : Nat) (k : Int) (n : Int), e = .returned (.tuple #[.agg #[.slice la ln lc, .slice ma mn mc, .slice ta tn tc], .int .i64 k, .int .i64 n, .bool r1.isSome]) ∧ (∀ r, r1 = some r → k = r.2.2 ∧ ln = r.1.L.length ∧ mn = r.1.M.length ∧ tn = r.1.T.length ∧ SRow w' la ma ta r.1.L r.1.M r.1.T) ∧ Below X.heap.size X w') := by
    intro X hb
    refine (HA.out X hb).mono ?_
    rintro e w' ⟨hA, hb'⟩
    cases r1 with
    | none => exact ⟨_, _, _, _, _, _, _, _, _, _, _, hA, (fun r h => by cases h), hb'⟩
    | some r =>
      obtain ⟨lv, mv, tv, rfl, ho⟩ := hA
      obtain ⟨la, lc, rfl⟩ := slice_of_owned ho.l
      obtain ⟨ma, mc, rfl⟩ := slice_of_owned ho.m
      obtain ⟨ta, tc, rfl⟩ := slice_of_owned ho.t
      exact ⟨_, _, _, _, _, _, _, _, _, _, _, rfl, (fun r' h => by cases h; exact ⟨rfl, rfl, rfl, rfl, ho.row⟩), hb'⟩
  have HB2 : Hid (∀ X, Below w.heap.size w X → Calls Tryd.prog 8 #[.slice b ys.length bc, .agg #[.slice a1 L.length c1, .slice a2 M.length c2, .slice a3 T.length c3], .int .i64 F] X fun e w' => ∃ (la ma ta : Option Addr) (ln mn tn lc mc tc : Nat) (k : Int) (n : Int), e = .returned (.tuple #[.agg #[.slice la ln lc, .slice ma mn mc, .slice ta tn tc], .int .i64 k, .int .i64 n, .bool r2.isSome]) ∧ (∀ r, r2 = some r → k = r.2.2 ∧ ln = r.1.L.length ∧ mn = r.1.M.length ∧ tn = r.1.T.length ∧ SRow w' la ma ta r.1.L r.1.M r.1.T) ∧ Below X.heap.size X w') := by
    intro X hb
    refine (HB.out X hb).mono ?_
    rintro e w' ⟨hA, hb'⟩
    cases r2 with
    | none => exact ⟨_, _, _, _, _, _, _, _, _, _, _, hA, (fun r h => by cases h), hb'⟩
    | some r =>
      obtain ⟨lv, mv, tv, rfl, ho⟩ := hA
      obtain ⟨la, lc, rfl⟩ := slice_of_owned ho.l
      obtain ⟨ma, mc, rfl⟩ := slice_of_owned ho.m
      obtain ⟨ta, tc, rfl⟩ := slice_of_owned ho.t
      exact ⟨_, _, _, _, _, _, _, _, _, _, _, rfl, (fun r' h => by cases h; exact ⟨rfl, rfl, rfl, rfl, ho.row⟩), hb'⟩
  clear HA HB
  go_enter Tryd.func22, Tryd.ntmps22
  go_wp2_with fail
  refine (HA2.out _ B0).mono ?_
  rintro e w1 ⟨la, ma, ta, ln, mn, tn, lc, mc, tc, k, n, rfl, hr1, hb1⟩
  have b2 := below1 w1 (.cells #[.slice la ln lc, .slice ma mn mc, .slice ta tn tc] 28)
  obtain ⟨s0, s1, s2⟩ := (below_box (bstep hb1 hb1.size b2)).2
  have BX2 := (below_box (bstep hb1 hb1.size b2)).1
  have P2 := Box3.new w1 (.slice la ln lc) (.slice ma mn mc) (.slice ta tn tc) 28
  have HR1 : Hid (∀ r, r1 = some r → k = r.2.2 ∧ ln = r.1.L.length ∧ mn = r.1.M.length ∧ tn = r.1.T.length ∧ SRow (w1.alloc (.cells #[.slice la ln lc, .slice ma mn mc, .slice ta tn tc] 28)) la ma ta r.1.L r.1.M r.1.T) := fun r h => ⟨(hr1 r h).1, (hr1 r h).2.1, (hr1 r h).2.2.1, (hr1 r h).2.2.2.1, (hr1 r h).2.2.2.2.below b2⟩
  have HP2 := hid P2
  clear hr1 hb1 b2 P2
  go_wp2_with fail
  generalize (w1.alloc (.cells #[.slice la ln lc, .slice ma mn mc, .slice ta tn tc] 28)) = X2 at *
  generalize w1.heap.size = p1 at *
  refine (HB2.out _ BX2).mono ?_
  rintro e w3 ⟨la', ma', ta', ln', mn', tn', lc', mc', tc', k', n', rfl, hr2, hb3⟩
  have b4 := below1 w3 (.cells #[.slice la' ln' lc', .slice ma' mn' mc', .slice ta' tn' tc'] 28)
  have P4 := Box3.new w3 (.slice la' ln' lc') (.slice ma' mn' mc') (.slice ta' tn' tc') 28
  have P2 := (HP2.out.below hb3).below b4
  have BX4 := bstep' (bstep' BX2 hb3) b4
  have HR2 : Hid (∀ r, r2 = some r → k' = r.2.2 ∧ ln' = r.1.L.length ∧ mn' = r.1.M.length ∧ tn' = r.1.T.length ∧ SRow (w3.alloc (.cells #[.slice la' ln' lc', .slice ma' mn' mc', .slice ta' tn' tc'] 28)) la' ma' ta' r.1.L r.1.M r.1.T) := fun r h => ⟨(hr2 r h).1, (hr2 r h).2.1, (hr2 r h).2.2.1, (hr2 r h).2.2.2.1, (hr2 r h).2.2.2.2.below b4⟩
  have HR1' : Hid (∀ r, r1 = some r → SRow (w3.alloc (.cells #[.slice la' ln' lc', .slice ma' mn' mc', .slice ta' tn' tc'] 28)) la ma ta r.1.L r.1.M r.1.T) := fun r h => ((HR1.out r h).2.2.2.2.below hb3).below b4
  obtain ⟨p10, p11, p12⟩ := P2
  obtain ⟨p20, p21, p22⟩ := P4
  have HBX := hid BX4
  clear s0 s1 s2 hr2 hb3 b4 BX2 BX4 HP2
  cases r1 with
  | none =>
    go_wp2
    go_ret2
    exact ⟨rfl, HBX.out⟩
  | some r =>
    cases r2 with
    | none =>
      go_wp2
      go_ret2
      exact ⟨rfl, HBX.out⟩
    | some q =>
      obtain ⟨rfl, rfl, rfl, rfl, _⟩ := HR1.out r rfl
      obtain ⟨rfl, rfl, rfl, rfl, hq⟩ := HR2.out q rfl
      have fr := HF1.out r rfl
      have fq := HF2.out q rfl
      have HSM : Hid (Calls Tryd.prog 35 #[.agg #[.slice la r.1.L.length lc, .slice ma r.1.M.length mc, .slice ta r.1.T.length tc], .agg #[.slice la' q.1.L.length lc', .slice ma' q.1.M.length mc', .slice ta' q.1.T.length tc']] _ fun e w' => e = .returned (.bool (sameSt r.1.L r.1.M r.1.T q.1.L q.1.M q.1.T)) ∧ Below _ _ w') := hid (same35_any la ma ta la' ma' ta' lc mc tc lc' mc' tc' r.1.L r.1.M r.1.T q.1.L q.1.M q.1.T _ (by have := fr.L8; omega) (by have := fr.M16; omega) (by have := fr.T100; omega) (by have := fq.L8; omega) (by have := fq.M16; omega) (by have := fq.T100; omega) (HR1'.out r rfl) hq)
      clear fr fq HR1 HR2 HR1' hq HF1 HF2
      by_cases e1 : r.2.2 = 3
      · have HS : Hid (sameR (some r) (some q) = (false, false)) := by show _ = _; simp [sameR, e1]
        have t1 : (r.2.2 == 3) = true := by simp [e1]
        clear e1
        go_wp2
        go_ret2
        exact ⟨by rw [HS.out]; rfl, HBX.out⟩
      · have t1 : (r.2.2 == 3) = false := by simp [e1]
        by_cases e2 : q.2.2 = 3
        · have HS : Hid (sameR (some r) (some q) = (false, false)) := by show _ = _; simp [sameR, e2]
          have t2 : (q.2.2 == 3) = true := by simp [e2]
          clear e1 e2
          go_wp2
          go_ret2
          exact ⟨by rw [HS.out]; rfl, HBX.out⟩
        · have HS : Hid (sameR (some r) (some q) = (decide (r.2.2 = q.2.2) && sameSt r.1.L r.1.M r.1.T q.1.L q.1.M q.1.T, true)) := by show _ = _; simp [sameR, e1, e2]
          have t2 : (q.2.2 == 3) = false := by simp [e2]
          clear e1 e2
          by_cases e3 : r.2.2 = q.2.2
          · have t3 : (r.2.2 == q.2.2) = true := by simp [e3]
            have E3 := hid e3
            clear e3
            go_wp2_with fail
            refine HSM.out.mono ?_
            rintro e X5 ⟨rfl, hb5⟩
            go_wp2
            go_ret2
            exact ⟨by rw [HS.out, decide_eq_true E3.out]; simp, bstep' HBX.out hb5⟩
          · have t3 : (r.2.2 == q.2.2) = false := by simp [e3]
            have E3 := hid e3
            clear e3
            go_wp2
            go_ret2
            exact ⟨by rw [HS.out, decide_eq_false E3.out]; simp, HBX.out⟩
end

section
open Go.RowKit
set_option linter.unusedVariables false
set_option linter.unusedSimpArgs false
set_option maxRecDepth 100000

theorem Imp.start {xs : List Stp} {en hs : List Int} {a ea ha : Option Addr} {ac ec hc : Nat} {w0 w2 : World} {L M T : List Int} {v1 v2 v3 : Value} (h : OwnSt w2 w0.heap.size v1 v2 v3 L M T) (hb : Below w0.heap.size w0 w2) :
    Imp [] xs en hs a ea ha ac ec hc w0 w2.heap.size (w2.alloc (.cells #[.slice a xs.length ac, .slice ea en.length ec, .slice ha hs.length hc, v1, v2, v3, .slice none 0 0, .int .i64 0, .int .i64 0, .slice none 0 0, .int .i64 0] 63)) (cf0 L M T) [] 0 0 v1 v2 v3 (.slice none 0 0) (.slice none 0 0) := by
  refine ⟨?_, bal hb _⟩
  exact h.sep5.add (below1 w2 _) (cellOR 63 11 w2.heap.size [.slice a xs.length ac, .slice ea en.length ec, .slice ha hs.length hc, v1, v2, v3, .slice none 0 0, .int .i64 0, .int .i64 0, .slice none 0 0, .int .i64 0]) (cell_own (cs := #[.slice a xs.length ac, .slice ea en.length ec, .slice ha hs.length hc, v1, v2, v3, .slice none 0 0, .int .i64 0, .int .i64 0, .slice none 0 0, .int .i64 0]) (heap_alloc_new w2 _) rfl hb.size) (fun k hk => by have h9 : some w2.heap.size = some k := hk; injection h9 with h9; omega)
theorem Imp.four {xs : List Stp} {en hs : List Int} {a ea ha : Option Addr} {ac ec hc : Nat} {w0 : World} {mb : Nat} {W : World} {c : Cf} {st : List Int} {pc : Nat} {D : List Int} {here how : Int} {lv mv tv sv dv : Value} (h : Imp [] xs en hs a ea ha ac ec hc w0 mb W { c with st := st, pc := pc } D here how lv mv tv sv dv) (k : Int) :
    RunEnd W w0.heap.size (c, D, k) lv mv tv dv := by
  have : List.Sublist [(⟨3, 1, lv, c.L.length, ints c.L⟩ : OR), ⟨3, 1, mv, c.M.length, ints c.M⟩, ⟨3, 1, tv, c.T.length, ints c.T⟩, ⟨3, 1, dv, D.length, ints D⟩] (cellOR 63 11 mb [.slice a xs.length ac, .slice ea en.length ec, .slice ha hs.length hc, lv, mv, tv, sv, .int .i64 here, .int .i64 pc, dv, .int .i64 how] :: ⟨3, 1, lv, c.L.length, ints c.L⟩ :: ⟨3, 1, mv, c.M.length, ints c.M⟩ :: ⟨3, 1, tv, c.T.length, ints c.T⟩ :: ⟨3, 1, sv, st.length, ints st⟩ :: ⟨3, 1, dv, D.length, ints D⟩ :: []) :=
    List.Sublist.cons _ (List.Sublist.cons_cons _ (List.Sublist.cons_cons _ (List.Sublist.cons_cons _ (List.Sublist.cons _ (List.Sublist.refl _)))))
  exact ⟨fun x hx => h.sep.1 x (this.subset hx), List.Pairwise.sublist this h.sep.2⟩
abbrev zeroM : Array Value := #[.slice none 0 0, .slice none 0 0, .slice none 0 0, .slice none 0 0, .slice none 0 0, .slice none 0 0, .slice none 0 0, .int .i64 0, .int .i64 0, .slice none 0 0, .int .i64 0]
/-- what runOf answers -/
def RofAns (w' : World) (B : Nat) : Option (Cf × List Int × Int) → Ending → Prop
  | some r, e => ∃ (z0 z1 z2 zl zm zt zs zd : Option Addr) (n0 n1 n2 ns k0 k1 k2 kl km kt ks kd : Nat) (here pc : Int), e = .returned (.tuple #[.agg #[.slice z0 n0 k0, .slice z1 n1 k1, .slice z2 n2 k2, .slice zl r.1.L.length kl, .slice zm r.1.M.length km, .slice zt r.1.T.length kt, .slice zs ns ks, .int .i64 here, .int .i64 pc, .slice zd r.2.1.length kd, .int .i64 r.2.2], .bool true]) ∧ RunEnd w' B r (.slice zl r.1.L.length kl) (.slice zm r.1.M.length km) (.slice zt r.1.T.length kt) (.slice zd r.2.1.length kd)
  | none, e => e = .returned (.tuple #[.agg zeroM, .bool false])
/-- the boxes of runOf: the state handed in, and the answer's -/
structure By (w X : World) (s1 s2 s3 : Value) : Prop where
  st : Box3 X w.heap.size s1 s2 s3
  an : ∀ j, j < 11 → (∃ v, X.cell? ⟨w.heap.size + 1, j, none⟩ = some v) ∧ X.frozen? ⟨w.heap.size + 1, j, none⟩ = false
  lt : w.heap.size + 1 < X.heap.size
  bel : Below w.heap.size w X
theorem By.below {w X X' : World} {s1 s2 s3 : Value} (h : By w X s1 s2 s3) (hb : Below X.heap.size X X') : By w X' s1 s2 s3 := by
  have hc : ∀ b j, b < X.heap.size → X'.cell? ⟨b, j, none⟩ = X.cell? ⟨b, j, none⟩ := fun b j hl => hb.cell (p := ⟨b, j, none⟩) hl
  have hf : ∀ b j, b < X.heap.size → X'.frozen? ⟨b, j, none⟩ = X.frozen? ⟨b, j, none⟩ := fun b j hl => hb.frozen (p := ⟨b, j, none⟩) hl
  exact ⟨h.st.below hb, fun j hj => by rw [hc _ _ h.lt, hf _ _ h.lt]; exact h.an j hj, Nat.lt_of_lt_of_le h.lt hb.size, bstep' h.bel hb⟩
theorem By.new (w : World) (s1 s2 s3 : Value) : By w ((w.alloc (.cells #[s1, s2, s3] 28)).alloc (.cells zeroM 63)) s1 s2 s3 := by
  refine ⟨(Box3.new w s1 s2 s3 28).below (below1 _ _), fun j hj => ?_, by simp, below2 w _ _⟩
  have h11 : j = 0 ∨ j = 1 ∨ j = 2 ∨ j = 3 ∨ j = 4 ∨ j = 5 ∨ j = 6 ∨ j = 7 ∨ j = 8 ∨ j = 9 ∨ j = 10 := by omega
  rcases h11 with rfl | rfl | rfl | rfl | rfl | rfl | rfl | rfl | rfl | rfl | rfl <;> simp [go_sem, zeroM]
theorem By.all {w X : World} {s1 s2 s3 : Value} (h : By w X s1 s2 s3) : ∃ v0 v1 v2 v3 v4 v5 v6 v7 v8 v9 v10, X.cell? ⟨w.heap.size + 1, 0, none⟩ = some v0 ∧ X.cell? ⟨w.heap.size + 1, 1, none⟩ = some v1 ∧ X.cell? ⟨w.heap.size + 1, 2, none⟩ = some v2 ∧ X.cell? ⟨w.heap.size + 1, 3, none⟩ = some v3 ∧ X.cell? ⟨w.heap.size + 1, 4, none⟩ = some v4 ∧ X.cell? ⟨w.heap.size + 1, 5, none⟩ = some v5 ∧ X.cell? ⟨w.heap.size + 1, 6, none⟩ = some v6 ∧ X.cell? ⟨w.heap.size + 1, 7, none⟩ = some v7 ∧ X.cell? ⟨w.heap.size + 1, 8, none⟩ = some v8 ∧ X.cell? ⟨w.heap.size + 1, 9, none⟩ = some v9 ∧ X.cell? ⟨w.heap.size + 1, 10, none⟩ = some v10 ∧ X.frozen? ⟨w.heap.size + 1, 0, none⟩ = false ∧ X.frozen? ⟨w.heap.size + 1, 1, none⟩ = false ∧ X.frozen? ⟨w.heap.size + 1, 2, none⟩ = false ∧ X.frozen? ⟨w.heap.size + 1, 3, none⟩ = false ∧ X.frozen? ⟨w.heap.size + 1, 4, none⟩ = false ∧ X.frozen? ⟨w.heap.size + 1, 5, none⟩ = false ∧ X.frozen? ⟨w.heap.size + 1, 6, none⟩ = false ∧ X.frozen? ⟨w.heap.size + 1, 7, none⟩ = false ∧ X.frozen? ⟨w.heap.size + 1, 8, none⟩ = false ∧ X.frozen? ⟨w.heap.size + 1, 9, none⟩ = false ∧ X.frozen? ⟨w.heap.size + 1, 10, none⟩ = false := by
  obtain ⟨⟨v0, e0⟩, f0⟩ := h.an 0 (by omega)
  obtain ⟨⟨v1, e1⟩, f1⟩ := h.an 1 (by omega)
  obtain ⟨⟨v2, e2⟩, f2⟩ := h.an 2 (by omega)
  obtain ⟨⟨v3, e3⟩, f3⟩ := h.an 3 (by omega)
  obtain ⟨⟨v4, e4⟩, f4⟩ := h.an 4 (by omega)
  obtain ⟨⟨v5, e5⟩, f5⟩ := h.an 5 (by omega)
  obtain ⟨⟨v6, e6⟩, f6⟩ := h.an 6 (by omega)
  obtain ⟨⟨v7, e7⟩, f7⟩ := h.an 7 (by omega)
  obtain ⟨⟨v8, e8⟩, f8⟩ := h.an 8 (by omega)
  obtain ⟨⟨v9, e9⟩, f9⟩ := h.an 9 (by omega)
  obtain ⟨⟨v10, e10⟩, f10⟩ := h.an 10 (by omega)
  exact ⟨v0, v1, v2, v3, v4, v5, v6, v7, v8, v9, v10, e0, e1, e2, e3, e4, e5, e6, e7, e8, e9, e10, f0, f1, f2, f3, f4, f5, f6, f7, f8, f9, f10⟩
/-- the answer's box is written -/
theorem low11 {w X : World} (h : Below w.heap.size w X) (u0 u1 u2 u3 u4 u5 u6 u7 u8 u9 u10 : Value) : Below w.heap.size w (((((((((((X.setCell ⟨w.heap.size + 1, 0, none⟩ u0).setCell ⟨w.heap.size + 1, 1, none⟩ u1).setCell ⟨w.heap.size + 1, 2, none⟩ u2).setCell ⟨w.heap.size + 1, 3, none⟩ u3).setCell ⟨w.heap.size + 1, 4, none⟩ u4).setCell ⟨w.heap.size + 1, 5, none⟩ u5).setCell ⟨w.heap.size + 1, 6, none⟩ u6).setCell ⟨w.heap.size + 1, 7, none⟩ u7).setCell ⟨w.heap.size + 1, 8, none⟩ u8).setCell ⟨w.heap.size + 1, 9, none⟩ u9).setCell ⟨w.heap.size + 1, 10, none⟩ u10) :=
  ((((((((((h.setCell (p := ⟨w.heap.size + 1, 0, none⟩) (by simp) u0).setCell (p := ⟨w.heap.size + 1, 1, none⟩) (by simp) u1).setCell (p := ⟨w.heap.size + 1, 2, none⟩) (by simp) u2).setCell (p := ⟨w.heap.size + 1, 3, none⟩) (by simp) u3).setCell (p := ⟨w.heap.size + 1, 4, none⟩) (by simp) u4).setCell (p := ⟨w.heap.size + 1, 5, none⟩) (by simp) u5).setCell (p := ⟨w.heap.size + 1, 6, none⟩) (by simp) u6).setCell (p := ⟨w.heap.size + 1, 7, none⟩) (by simp) u7).setCell (p := ⟨w.heap.size + 1, 8, none⟩) (by simp) u8).setCell (p := ⟨w.heap.size + 1, 9, none⟩) (by simp) u9).setCell (p := ⟨w.heap.size + 1, 10, none⟩) (by simp) u10
theorem RunEnd.low11 {X : World} {B b : Nat} {r : Cf × List Int × Int} {lv mv tv dv : Value} (h : RunEnd X B r lv mv tv dv) (hb : b < B) (u0 u1 u2 u3 u4 u5 u6 u7 u8 u9 u10 : Value) : RunEnd (((((((((((X.setCell ⟨b, 0, none⟩ u0).setCell ⟨b, 1, none⟩ u1).setCell ⟨b, 2, none⟩ u2).setCell ⟨b, 3, none⟩ u3).setCell ⟨b, 4, none⟩ u4).setCell ⟨b, 5, none⟩ u5).setCell ⟨b, 6, none⟩ u6).setCell ⟨b, 7, none⟩ u7).setCell ⟨b, 8, none⟩ u8).setCell ⟨b, 9, none⟩ u9).setCell ⟨b, 10, none⟩ u10) B r lv mv tv dv := by
  refine ⟨fun x hx => ?_, h.2⟩
  have h1 := h.1 x hx
  simp only [List.mem_cons, List.not_mem_nil, or_false] at hx
  rcases hx with rfl | rfl | rfl | rfl <;> exact ownsRow_setCell_below (a := ⟨b, 10, none⟩) (ownsRow_setCell_below (a := ⟨b, 9, none⟩) (ownsRow_setCell_below (a := ⟨b, 8, none⟩) (ownsRow_setCell_below (a := ⟨b, 7, none⟩) (ownsRow_setCell_below (a := ⟨b, 6, none⟩) (ownsRow_setCell_below (a := ⟨b, 5, none⟩) (ownsRow_setCell_below (a := ⟨b, 4, none⟩) (ownsRow_setCell_below (a := ⟨b, 3, none⟩) (ownsRow_setCell_below (a := ⟨b, 2, none⟩) (ownsRow_setCell_below (a := ⟨b, 1, none⟩) (ownsRow_setCell_below (a := ⟨b, 0, none⟩) h1 hb u0) hb u1) hb u2) hb u3) hb u4) hb u5) hb u6) hb u7) hb u8) hb u9) hb u10
set_option maxHeartbeats 4000000 in
/-- the program's runOf -/
theorem runOf_any (a : Option Addr) (ac : Nat) (xs : List Stp) (a1 a2 a3 : Option Addr) (c1 c2 c3 : Nat) (L M T : List Int) (F : Int) (S : Nat → Addr) (u : TypeId) (pv : Value) (w : World) (hl : xs.length ≤ 1048576) (h1 : L.length ≤ 1048576) (h2 : M.length ≤ 1048576) (h3 : T.length ≤ 1048576) (hT : TRow w a xs) (hS : SRow w a1 a2 a3 L M T) (hTb : Tab w) (hE : Errs w S) (h5 : 5 < w.heap.size) (he : w.cell? ⟨5, 0, none⟩ = some (.iface u pv)) :
    Calls Tryd.prog 33 #[.slice a xs.length ac, .agg #[.slice a1 L.length c1, .slice a2 M.length c2, .slice a3 T.length c3], .int .i64 F] w fun e w' => RofAns w' w.heap.size (runO xs L M T F) e ∧ Below w.heap.size w w' := by
  have HH : Hid (∀ X, Below w.heap.size w X → Calls Tryd.prog 43 #[.slice a xs.length ac] X fun e w' => (∃ v, e = .returned (.tuple #[v, .bool (fineR (validR xs))]) ∧ w'.ownsRow X.heap.size 3 1 v (heightsR (validR xs)).length (ints (heightsR (validR xs)))) ∧ Below X.heap.size X w') := fun X hb => iHeights_any a ac xs S X hl (hT.below hb) (hTb.below hb) (hE.below hb)
  have HG : Hid (∀ X, Below w.heap.size w X → Calls Tryd.prog 44 #[.agg #[.slice a1 L.length c1, .slice a2 M.length c2, .slice a3 T.length c3]] X fun e w' => e = .returned (.bool (goodSt L M T)) ∧ Below X.heap.size X w') := fun X hb => iGood_any a1 a2 a3 c1 c2 c3 L M T X (by omega) (by omega) (by omega) (hS.below hb)
  have HEN : Hid (∀ X, Below w.heap.size w X → Calls Tryd.prog 45 #[.slice a xs.length ac] X fun e w' => (∃ v, e = .returned (.tuple #[v, .bool (goodS xs)]) ∧ w'.ownsRow X.heap.size 3 1 v (endsL xs).length (ints (endsL xs))) ∧ Below X.heap.size X w') := fun X hb => iEnds_any a ac xs X hl (hT.below hb) (hTb.below hb)
  have HCP : Hid (∀ X, Below w.heap.size w X → Calls Tryd.prog 46 #[.agg #[.slice a1 L.length c1, .slice a2 M.length c2, .slice a3 T.length c3]] X fun e w' => ∃ b1 b2 b3 d1 d2 d3, e = .returned (.agg #[.slice b1 L.length d1, .slice b2 M.length d2, .slice b3 T.length d3]) ∧ OwnSt w' X.heap.size (.slice b1 L.length d1) (.slice b2 M.length d2) (.slice b3 T.length d3) L M T ∧ Below X.heap.size X w') := fun X hb => copyState_any a1 a2 a3 c1 c2 c3 L M T X h1 h2 h3 (hS.below hb)
  have HT := hid (And.intro hT (And.intro hTb he))
  have h5' := h5
  clear hT hS hTb hE he h1 h2 h3
  have HB0 := hid (By.new w (.slice a1 L.length c1) (.slice a2 M.length c2) (.slice a3 T.length c3))
  cases hv : validR xs with
  | bad kk pp =>
    have HO : Hid (runO xs L M T F = none) := by show _ = _; unfold runO; rw [hv]
    have HH2 : Hid (∀ X, Below w.heap.size w X → Calls Tryd.prog 43 #[.slice a xs.length ac] X fun e w' => (∃ va vc, e = .returned (.tuple #[.slice va 0 vc, .bool false])) ∧ Below X.heap.size X w') := by
      intro X hb
      have h9 := HH.out X hb
      rw [hv] at h9
      refine h9.mono ?_
      rintro e w' ⟨⟨v, rfl, ho⟩, hb'⟩
      obtain ⟨va, vc, rfl⟩ := slice_of_owned ho
      exact ⟨⟨va, vc, rfl⟩, hb'⟩
    clear HH hv
    go_enter Tryd.func33, Tryd.ntmps33
    go_wp2_with fail
    refine (HH2.out _ HB0.out.bel).mono ?_
    rintro e w1 ⟨⟨va, vc, rfl⟩, hb1⟩
    have HB1 := hid (HB0.out.below hb1)
    obtain ⟨v0, v1, v2, v3, v4, v5, v6, v7, v8, v9, v10, e0, e1, e2, e3, e4, e5, e6, e7, e8, e9, e10, f0, f1, f2, f3, f4, f5, f6, f7, f8, f9, f10⟩ := HB1.out.all
    have lt := HB1.out.lt
    clear hb1
    go_wp2
    refine bodyPost_ret (v := .tuple #[.agg zeroM, .bool false]) (by simp [results, Tryd.results33, go_sem, zeroM, *]) rfl ⟨by rw [HO.out]; rfl, low11 HB1.out.bel _ _ _ _ _ _ _ _ _ _ _⟩
  | fine hs rs =>
    obtain ⟨en, d, hn, vv⟩ := fine_nest hv
    have HH2 : Hid (∀ X, Below w.heap.size w X → Calls Tryd.prog 43 #[.slice a xs.length ac] X fun e w' => (∃ ha hc, e = .returned (.tuple #[.slice ha hs.length hc, .bool true]) ∧ Row w' ha hs) ∧ Below X.heap.size X w') := by
      intro X hb
      have h9 := HH.out X hb
      rw [hv] at h9
      refine h9.mono ?_
      rintro e w' ⟨⟨v, rfl, ho⟩, hb'⟩
      have ho' : w'.ownsRow X.heap.size 3 1 v hs.length (ints hs) := ho
      obtain ⟨va, vc, rfl⟩ := slice_of_owned ho'
      exact ⟨⟨va, vc, rfl, own_row ho'⟩, hb'⟩
    have HEN2 : Hid (∀ X, Below w.heap.size w X → Calls Tryd.prog 45 #[.slice a xs.length ac] X fun e w' => (∃ ea ec, e = .returned (.tuple #[.slice ea en.length ec, .bool (goodS xs)]) ∧ Row w' ea en) ∧ Below X.heap.size X w') := by
      intro X hb
      refine (HEN.out X hb).mono ?_
      rintro e w' ⟨⟨v, rfl, ho⟩, hb'⟩
      have ee : endsL xs = en := by simp [endsL, hn]
      rw [ee] at ho
      obtain ⟨va, vc, rfl⟩ := slice_of_owned ho
      exact ⟨⟨va, vc, rfl, own_row ho⟩, hb'⟩
    have HR : Hid (runO xs L M T F = if (goodSt L M T && decide (0 ≤ F ∧ F ≤ 2000)) = true then some (runC xs en hs F.toNat (cf0 L M T)) else none) := by show _ = _; unfold runO; rw [hv, hn]
    have HVV := hid vv
    clear HH HEN hv hn vv
    generalize goodS xs = gs at HEN2
    generalize hg : goodSt L M T = gd at HG HR
    have HGF := hid hg
    clear hg
    go_enter Tryd.func33, Tryd.ntmps33
    go_wp2_with fail
    refine (HH2.out _ HB0.out.bel).mono ?_
    rintro e w1 ⟨⟨ha, hc, rfl, hHs⟩, hb1⟩
    have HB1 := hid (HB0.out.below hb1)
    have HRow1 := hid hHs
    obtain ⟨s0, s1, s2⟩ := HB1.out.st
    clear hb1 hHs HB0 HH2
    go_wp2_with fail
    refine (HG.out _ HB1.out.bel).mono ?_
    rintro e X2 ⟨rfl, hb2⟩
    have HB2 := hid (HB1.out.below hb2)
    have HRow2 := hid (HRow1.out.below hb2)
    clear s0 s1 s2 HB1 HRow1 hb2
    obtain ⟨v0, v1, v2, v3, v4, v5, v6, v7, v8, v9, v10, e0, e1, e2, e3, e4, e5, e6, e7, e8, e9, e10, f0, f1, f2, f3, f4, f5, f6, f7, f8, f9, f10⟩ := HB2.out.all
    have lt := HB2.out.lt
    obtain ⟨s0, s1, s2⟩ := HB2.out.st
    cases gd with
    | false =>
      have HO : Hid (runO xs L M T F = none) := by show _ = _; rw [HR.out]; simp
      go_wp2
      refine bodyPost_ret (v := .tuple #[.agg zeroM, .bool false]) (by simp [results, Tryd.results33, go_sem, zeroM, *]) rfl ⟨by rw [HO.out]; rfl, low11 HB2.out.bel _ _ _ _ _ _ _ _ _ _ _⟩
    | true =>
      by_cases hF0 : F < 0
      · have HO : Hid (runO xs L M T F = none) := by show _ = _; rw [HR.out, if_neg (by simp; omega)]
        go_wp2
        refine bodyPost_ret (v := .tuple #[.agg zeroM, .bool false]) (by simp [results, Tryd.results33, go_sem, zeroM, *]) rfl ⟨by rw [HO.out]; rfl, low11 HB2.out.bel _ _ _ _ _ _ _ _ _ _ _⟩
      · by_cases hF1 : 2000 < F
        · have HO : Hid (runO xs L M T F = none) := by show _ = _; rw [HR.out, if_neg (by simp; omega)]
          go_wp2
          refine bodyPost_ret (v := .tuple #[.agg zeroM, .bool false]) (by simp [results, Tryd.results33, go_sem, zeroM, *]) rfl ⟨by rw [HO.out]; rfl, low11 HB2.out.bel _ _ _ _ _ _ _ _ _ _ _⟩
        · obtain ⟨m, rfl⟩ : ∃ m : Nat, F = m := Int.eq_ofNat_of_zero_le (by omega)
          have hm2 : m ≤ 2000 := by omega
          have HO : Hid (runO xs L M T m = some (runC xs en hs m (cf0 L M T))) := by show _ = _; rw [HR.out, if_pos (by simp; omega), Int.toNat_natCast]
          clear e0 e1 e2 e3 e4 e5 e6 e7 e8 e9 e10 f0 f1 f2 f3 f4 f5 f6 f7 f8 f9 f10 lt
          go_wp2_with fail
          refine (HEN2.out _ HB2.out.bel).mono ?_
          rintro e X3 ⟨⟨ea, ec, rfl, hEn⟩, hb3⟩
          have HB3 := hid (HB2.out.below hb3)
          have HRow3 := hid (And.intro (HRow2.out.below hb3) hEn)
          clear s0 s1 s2 HB2 HRow2 hb3 hEn
          obtain ⟨s0, s1, s2⟩ := HB3.out.st
          go_wp2_with fail
          refine (HCP.out _ HB3.out.bel).mono ?_
          rintro e X4 ⟨b1, b2, b3, d1, d2, d3, rfl, hO4, hb4⟩
          have I0 := Imp.start (xs := xs) (en := en) (hs := hs) (a := a) (ea := ea) (ha := ha) (ac := ac) (ec := ec) (hc := hc) (w0 := X3) hO4 hb4
          have bw3 := HB3.out.bel
          have hsz3 := bw3.size
          have HRN := hid (iRun_any xs en d hs rs a ea ha ac ec hc X3 X4.heap.size _ (cf0 L M T) 0 0 _ _ _ _ _ I0 HVV.out (HVV.out.start HGF.out) (HT.out.1.below bw3) HRow3.out.2 HRow3.out.1 (HT.out.2.1.below bw3) u pv (by omega) ((bw3.cell (p := ⟨5, 0, none⟩) h5).trans HT.out.2.2) m hm2)
          have HB4 := hid (HB3.out.below (bal hb4 (.cells #[.slice a xs.length ac, .slice ea en.length ec, .slice ha hs.length hc, .slice b1 L.length d1, .slice b2 M.length d2, .slice b3 T.length d3, .slice none 0 0, .int .i64 0, .int .i64 0, .slice none 0 0, .int .i64 0] 63)))
          clear s0 s1 s2 I0 hO4 bw3
          generalize runC xs en hs m (cf0 L M T) = r at HO HRN
          go_wp2_with fail
          refine HRN.out.mono ?_
          rintro e X5 ⟨rfl, st, pc, here, lv, mv, tv, sv, dv, hI⟩
          have HB5 := hid (HB3.out.below hI.bel)
          obtain ⟨la, lc, rfl⟩ := slice_of_owned hI.rows.1
          obtain ⟨ma, mc, rfl⟩ := slice_of_owned hI.rows.2.1
          obtain ⟨ta, tc, rfl⟩ := slice_of_owned hI.rows.2.2.1
          obtain ⟨sa, sc, rfl⟩ := slice_of_owned hI.rows.2.2.2.1
          obtain ⟨oa, oc, rfl⟩ := slice_of_owned hI.rows.2.2.2.2
          obtain ⟨k0, k1, k2, k3, k4, k5, k6, k7, k8, k9, k10⟩ := hI.cells
          have HF := hid (hI.four r.2.2)
          have hmb := hI.lt
          obtain ⟨v0, v1, v2, v3, v4, v5, v6, v7, v8, v9, v10, e0, e1, e2, e3, e4, e5, e6, e7, e8, e9, e10, f0, f1, f2, f3, f4, f5, f6, f7, f8, f9, f10⟩ := HB5.out.all
          have lt := HB5.out.lt
          have lt3 := HB3.out.lt
          obtain ⟨mb, hmb'⟩ : ∃ mb, X4.heap.size = mb := ⟨_, rfl⟩
          rw [hmb'] at k0 k1 k2 k3 k4 k5 k6 k7 k8 k9 k10 hmb ⊢
          have hne : ¬ mb = w.heap.size + 1 := by omega
          have hne' : ¬ w.heap.size + 1 = mb := by omega
          clear hI HRN hb4 HB4
          go_wp2
          refine bodyPost_ret (v := .tuple #[.agg #[.slice a xs.length ac, .slice ea en.length ec, .slice ha hs.length hc, .slice la r.1.L.length lc, .slice ma r.1.M.length mc, .slice ta r.1.T.length tc, .slice sa st.length sc, .int .i64 here, .int .i64 pc, .slice oa r.2.1.length oc, .int .i64 r.2.2], .bool true]) (by simp [results, Tryd.results33, go_sem, *]) rfl ⟨?_, low11 HB5.out.bel _ _ _ _ _ _ _ _ _ _ _⟩
          rw [HO.out]
          have h9 : RunEnd X5 X3.heap.size r (.slice la r.1.L.length lc) (.slice ma r.1.M.length mc) (.slice ta r.1.T.length tc) (.slice oa r.2.1.length oc) := HF.out
          exact ⟨_, _, _, _, _, _, _, _, _, _, _, _, _, _, _, _, _, _, _, _, _, _, rfl, Sep.mono (h9.low11 lt3 _ _ _ _ _ _ _ _ _ _ _) hsz3⟩
end

section
open Go.RowKit
set_option linter.unusedVariables false
set_option linter.unusedSimpArgs false
set_option maxRecDepth 100000

/-- the boxes of RunSteps: the state handed in, and the answer's -/
structure Bq (w X : World) (s1 s2 s3 : Value) : Prop where
  st : Box3 X w.heap.size s1 s2 s3
  an : ∀ j, j < 3 → X.cell? ⟨w.heap.size + 1, j, none⟩ = some (.slice none 0 0) ∧ X.frozen? ⟨w.heap.size + 1, j, none⟩ = false
  lt : w.heap.size + 1 < X.heap.size
  bel : Below w.heap.size w X
theorem Bq.below {w X X' : World} {s1 s2 s3 : Value} (h : Bq w X s1 s2 s3) (hb : Below X.heap.size X X') : Bq w X' s1 s2 s3 := by
  have hc : ∀ b j, b < X.heap.size → X'.cell? ⟨b, j, none⟩ = X.cell? ⟨b, j, none⟩ := fun b j hl => hb.cell (p := ⟨b, j, none⟩) hl
  have hf : ∀ b j, b < X.heap.size → X'.frozen? ⟨b, j, none⟩ = X.frozen? ⟨b, j, none⟩ := fun b j hl => hb.frozen (p := ⟨b, j, none⟩) hl
  exact ⟨h.st.below hb, fun j hj => by rw [hc _ _ h.lt, hf _ _ h.lt]; exact h.an j hj, Nat.lt_of_lt_of_le h.lt hb.size, bstep' h.bel hb⟩
theorem Bq.new (w : World) (s1 s2 s3 : Value) : Bq w ((w.alloc (.cells #[s1, s2, s3] 28)).alloc (.cells #[.slice none 0 0, .slice none 0 0, .slice none 0 0] 28)) s1 s2 s3 := by
  refine ⟨(Box3.new w s1 s2 s3 28).below (below1 _ _), fun j hj => ?_, by simp, below2 w _ _⟩
  obtain rfl | rfl | rfl : j = 0 ∨ j = 1 ∨ j = 2 := by omega
  all_goals simp [go_sem]
theorem low3 {w X : World} (h : Below w.heap.size w X) (u0 u1 u2 : Value) : Below w.heap.size w (((X.setCell ⟨w.heap.size + 1, 0, none⟩ u0).setCell ⟨w.heap.size + 1, 1, none⟩ u1).setCell ⟨w.heap.size + 1, 2, none⟩ u2) :=
  ((h.setCell (p := ⟨w.heap.size + 1, 0, none⟩) (by simp) u0).setCell (p := ⟨w.heap.size + 1, 1, none⟩) (by simp) u1).setCell (p := ⟨w.heap.size + 1, 2, none⟩) (by simp) u2
/-- a machine's block -/
theorem mach_at (X : World) (c0 c1 c2 c3 c4 c5 c6 c7 c8 c9 c10 : Value) : let Y := X.alloc (.cells #[c0, c1, c2, c3, c4, c5, c6, c7, c8, c9, c10] 63); Y.cell? ⟨X.heap.size, 3, none⟩ = some c3 ∧ Y.cell? ⟨X.heap.size, 4, none⟩ = some c4 ∧ Y.cell? ⟨X.heap.size, 5, none⟩ = some c5 ∧ Y.cell? ⟨X.heap.size, 9, none⟩ = some c9 ∧ Y.cell? ⟨X.heap.size, 10, none⟩ = some c10 := by
  refine ⟨?_, ?_, ?_, ?_, ?_⟩ <;> simp [go_sem]
/-- what runOf tells, laid out for its callers -/
def RofLay (w' : World) (B : Nat) (o : Option (Cf × List Int × Int)) (e : Ending) : Prop := ∃ (z0 z1 z2 zl zm zt zs zd : Option Addr) (n0 n1 n2 nl nm nt ns nd k0 k1 k2 kl km kt ks kd : Nat) (here pc how : Int), e = .returned (.tuple #[.agg #[.slice z0 n0 k0, .slice z1 n1 k1, .slice z2 n2 k2, .slice zl nl kl, .slice zm nm km, .slice zt nt kt, .slice zs ns ks, .int .i64 here, .int .i64 pc, .slice zd nd kd, .int .i64 how], .bool o.isSome]) ∧ ∀ r, o = some r → how = r.2.2 ∧ nl = r.1.L.length ∧ nm = r.1.M.length ∧ nt = r.1.T.length ∧ nd = r.2.1.length ∧ RunEnd w' B r (.slice zl nl kl) (.slice zm nm km) (.slice zt nt kt) (.slice zd nd kd)
theorem rof_lay {w' : World} {B : Nat} {o : Option (Cf × List Int × Int)} {e : Ending} (h : RofAns w' B o e) : RofLay w' B o e := by
  cases o with
  | none => exact ⟨_, _, _, _, _, _, _, _, _, _, _, _, _, _, _, _, _, _, _, _, _, _, _, _, _, _, _, h, fun r hr => by cases hr⟩
  | some r =>
    obtain ⟨z0, z1, z2, zl, zm, zt, zs, zd, n0, n1, n2, ns, k0, k1, k2, kl, km, kt, ks, kd, here, pc, rfl, h⟩ := h
    exact ⟨_, _, _, _, _, _, _, _, _, _, _, _, _, _, _, _, _, _, _, _, _, _, _, _, _, _, _, rfl, fun r' hr => by cases hr; exact ⟨rfl, rfl, rfl, rfl, rfl, h⟩⟩
set_option maxHeartbeats 4000000 in
/-- the program's RunSteps -/
theorem iRunSteps_any (a : Option Addr) (ac : Nat) (xs : List Stp) (a1 a2 a3 : Option Addr) (c1 c2 c3 : Nat) (L M T : List Int) (F : Int) (S : Nat → Addr) (u : TypeId) (pv : Value) (w : World) (hl : xs.length ≤ 1048576) (h1 : L.length ≤ 1048576) (h2 : M.length ≤ 1048576) (h3 : T.length ≤ 1048576) (hT : TRow w a xs) (hS : SRow w a1 a2 a3 L M T) (hTb : Tab w) (hE : Errs w S) (h5 : 5 < w.heap.size) (he : w.cell? ⟨5, 0, none⟩ = some (.iface u pv)) :
    Calls Tryd.prog 11 #[.slice a xs.length ac, .agg #[.slice a1 L.length c1, .slice a2 M.length c2, .slice a3 T.length c3], .int .i64 F] w fun e w' => RunAns w' w.heap.size (runO xs L M T F) e ∧ Below w.heap.size w w' := by
  have HR : Hid (∀ X, Below w.heap.size w X → Calls Tryd.prog 33 #[.slice a xs.length ac, .agg #[.slice a1 L.length c1, .slice a2 M.length c2, .slice a3 T.length c3], .int .i64 F] X fun e w' => RofLay w' X.heap.size (runO xs L M T F) e ∧ Below X.heap.size X w') := fun X hb => (runOf_any a ac xs a1 a2 a3 c1 c2 c3 L M T F S u pv X hl h1 h2 h3 (hT.below hb) (hS.below hb) (hTb.below hb) (hE.below hb) (Nat.lt_of_lt_of_le h5 hb.size) ((hb.cell (p := ⟨5, 0, none⟩) h5).trans he)).mono fun e w' h => ⟨rof_lay h.1, h.2⟩
  have HF : Hid (∀ r, runO xs L M T F = some r → Fin r) := fun r h => runO_fin h
  generalize runO xs L M T F = o at HR HF ⊢
  clear hT hS hTb hE he h1 h2 h3
  have HB0 := hid (Bq.new w (.slice a1 L.length c1) (.slice a2 M.length c2) (.slice a3 T.length c3))
  go_enter Tryd.func11, Tryd.ntmps11
  go_wp2_with fail
  refine (HR.out _ HB0.out.bel).mono ?_
  rintro e w1 ⟨⟨z0, z1, z2, zl, zm, zt, zs, zd, n0, n1, n2, nl, nm, nt, ns, nd, k0, k1, k2, kl, km, kt, ks, kd, here, pc, how, rfl, hr⟩, hb1⟩
  have HB1 := hid ((HB0.out.below hb1).below (below1 w1 (.cells #[.slice z0 n0 k0, .slice z1 n1 k1, .slice z2 n2 k2, .slice zl nl kl, .slice zm nm km, .slice zt nt kt, .slice zs ns ks, .int .i64 here, .int .i64 pc, .slice zd nd kd, .int .i64 how] 63)))
  have hsz1 : w.heap.size ≤ w1.heap.size := (bstep' HB0.out.bel hb1).size
  have hszX := HB0.out.lt
  have hsz2 := hb1.size
  have HW1 : Hid (w.heap.size ≤ w1.heap.size ∧ w.heap.size + 1 < w1.heap.size) := ⟨hsz1, Nat.lt_of_lt_of_le hszX hsz2⟩
  clear hsz1 hszX hsz2
  have HMA := mach_at w1 (.slice z0 n0 k0) (.slice z1 n1 k1) (.slice z2 n2 k2) (.slice zl nl kl) (.slice zm nm km) (.slice zt nt kt) (.slice zs ns ks) (.int .i64 here) (.int .i64 pc) (.slice zd nd kd) (.int .i64 how)
  obtain ⟨m3, m4, m5, m9, m10⟩ := HMA
  obtain ⟨⟨n0', f0⟩, ⟨n1', f1⟩, ⟨n2', f2⟩⟩ : _ ∧ _ ∧ _ := ⟨HB1.out.an 0 (by omega), HB1.out.an 1 (by omega), HB1.out.an 2 (by omega)⟩
  have lt := HB1.out.lt
  have HRR := hid hr
  cases o with
  | none =>
    clear hr hb1 HB0
    go_wp2
    refine bodyPost_ret (v := .tuple #[.agg #[.slice none 0 0, .slice none 0 0, .slice none 0 0], .int .i64 0, .int .i64 0, .bool false]) (by simp [results, Tryd.results11, go_sem, *]) rfl ⟨rfl, low3 HB1.out.bel _ _ _⟩
  | some r =>
    obtain ⟨rfl, rfl, rfl, rfl, rfl, hE⟩ := hr r rfl
    have hE' := hE.rows.1
    have hD := (HF.out r rfl).D
    have HE := hid (And.intro hE' hb1.size)
    clear hr hb1 HB0 HRR hE hE'
    go_wp2_with fail
    generalize hY : (w1.alloc (.cells #[.slice z0 n0 k0, .slice z1 n1 k1, .slice z2 n2 k2, .slice zl r.1.L.length kl, .slice zm r.1.M.length km, .slice zt r.1.T.length kt, .slice zs ns ks, .int .i64 here, .int .i64 pc, .slice zd r.2.1.length kd, .int .i64 r.2.2] 63)) = Y at m3 m4 m5 m9 m10 n0' f0 n1' f1 n2' f2 lt HB1 ⊢
    have HOS : Hid (OwnSt Y (w.heap.size + 1 + 1) (.slice zl r.1.L.length kl) (.slice zm r.1.M.length km) (.slice zt r.1.T.length kt) r.1.L r.1.M r.1.T) := by
      have h9 := HE.out.1.below (below1 w1 (.cells #[.slice z0 n0 k0, .slice z1 n1 k1, .slice z2 n2 k2, .slice zl r.1.L.length kl, .slice zm r.1.M.length km, .slice zt r.1.T.length kt, .slice zs ns ks, .int .i64 here, .int .i64 pc, .slice zd r.2.1.length kd, .int .i64 r.2.2] 63))
      rw [hY] at h9
      have hz : ((w.alloc (.cells #[.slice a1 L.length c1, .slice a2 M.length c2, .slice a3 T.length c3] 28)).alloc (.cells #[.slice none 0 0, .slice none 0 0, .slice none 0 0] 28)).heap.size = w.heap.size + 1 + 1 := by simp
      rw [hz] at h9
      exact h9
    obtain ⟨mb, hmb⟩ : ∃ mb, w1.heap.size = mb := ⟨_, rfl⟩
    have hne : ¬ w.heap.size + 1 = mb := by have := HW1.out.2; omega
    have hne' : ¬ mb = w.heap.size + 1 := by omega
    rw [hmb] at m3 m4 m5 m9 m10 ⊢
    clear hY hmb HE HW1
    go_region_held (fun X' => X'.cell? ⟨mb, 3, none⟩ = some (.slice zl r.1.L.length kl) ∧ X'.cell? ⟨mb, 4, none⟩ = some (.slice zm r.1.M.length km) ∧ X'.cell? ⟨mb, 5, none⟩ = some (.slice zt r.1.T.length kt) ∧ X'.cell? ⟨mb, 9, none⟩ = some (.slice zd r.2.1.length kd) ∧ X'.cell? ⟨mb, 10, none⟩ = some (.int .i64 r.2.2)) ((first | exact ⟨m3, m4, m5, m9, m10⟩ | go_keep)) (fail)
    go_wp2
    refine bodyPost_ret (v := .tuple #[.agg #[.slice zl r.1.L.length kl, .slice zm r.1.M.length km, .slice zt r.1.T.length kt], .int .i64 r.2.2, .int .i64 r.2.1.length, .bool true]) (by simp [results, Tryd.results11, go_sem, *]) rfl ⟨?_, (low3 HB1.out.bel _ _ _).drew⟩
    have h9 := HOS.out.put3 (b := w.heap.size + 1) (B' := w.heap.size) (by omega) (by omega) (.slice zl r.1.L.length kl) (.slice zm r.1.M.length km) (.slice zt r.1.T.length kt)
    exact ⟨_, _, _, rfl, h9.below (Below.refl _ _).drew⟩
set_option maxHeartbeats 4000000 in
/-- the program's StepsDone -/
theorem iStepsDone_any (a : Option Addr) (ac : Nat) (xs : List Stp) (a1 a2 a3 : Option Addr) (c1 c2 c3 : Nat) (L M T : List Int) (F : Int) (S : Nat → Addr) (u : TypeId) (pv : Value) (w : World) (hl : xs.length ≤ 1048576) (h1 : L.length ≤ 1048576) (h2 : M.length ≤ 1048576) (h3 : T.length ≤ 1048576) (hT : TRow w a xs) (hS : SRow w a1 a2 a3 L M T) (hTb : Tab w) (hE : Errs w S) (h5 : 5 < w.heap.size) (he : w.cell? ⟨5, 0, none⟩ = some (.iface u pv)) :
    Calls Tryd.prog 18 #[.slice a xs.length ac, .agg #[.slice a1 L.length c1, .slice a2 M.length c2, .slice a3 T.length c3], .int .i64 F] w fun e w' => DoneAns w' w.heap.size (runO xs L M T F) e ∧ Below w.heap.size w w' := by
  have HR : Hid (∀ X, Below w.heap.size w X → Calls Tryd.prog 33 #[.slice a xs.length ac, .agg #[.slice a1 L.length c1, .slice a2 M.length c2, .slice a3 T.length c3], .int .i64 F] X fun e w' => RofLay w' X.heap.size (runO xs L M T F) e ∧ Below X.heap.size X w') := fun X hb => (runOf_any a ac xs a1 a2 a3 c1 c2 c3 L M T F S u pv X hl h1 h2 h3 (hT.below hb) (hS.below hb) (hTb.below hb) (hE.below hb) (Nat.lt_of_lt_of_le h5 hb.size) ((hb.cell (p := ⟨5, 0, none⟩) h5).trans he)).mono fun e w' h => ⟨rof_lay h.1, h.2⟩
  generalize runO xs L M T F = o at HR ⊢
  clear hT hS hTb hE he h1 h2 h3
  have B0 := below1 w (.cells #[.slice a1 L.length c1, .slice a2 M.length c2, .slice a3 T.length c3] 28)
  go_enter Tryd.func18, Tryd.ntmps18
  go_wp2_with fail
  refine (HR.out _ B0).mono ?_
  rintro e w1 ⟨⟨z0, z1, z2, zl, zm, zt, zs, zd, n0, n1, n2, nl, nm, nt, ns, nd, k0, k1, k2, kl, km, kt, ks, kd, here, pc, how, rfl, hr⟩, hb1⟩
  have HB := hid (bstep' (bstep' B0 hb1) (below1 w1 (.cells #[.slice z0 n0 k0, .slice z1 n1 k1, .slice z2 n2 k2, .slice zl nl kl, .slice zm nm km, .slice zt nt kt, .slice zs ns ks, .int .i64 here, .int .i64 pc, .slice zd nd kd, .int .i64 how] 63)))
  obtain ⟨m3, m4, m5, m9, m10⟩ := mach_at w1 (.slice z0 n0 k0) (.slice z1 n1 k1) (.slice z2 n2 k2) (.slice zl nl kl) (.slice zm nm km) (.slice zt nt kt) (.slice zs ns ks) (.int .i64 here) (.int .i64 pc) (.slice zd nd kd) (.int .i64 how)
  cases o with
  | none =>
    clear hr hb1
    go_wp2
    go_ret2
    exact ⟨rfl, HB.out⟩
  | some r =>
    obtain ⟨rfl, rfl, rfl, rfl, rfl, hE⟩ := hr r rfl
    have HD := hid (owns_mono (owns_below hE.rows.2 (below1 w1 (.cells #[.slice z0 n0 k0, .slice z1 n1 k1, .slice z2 n2 k2, .slice zl r.1.L.length kl, .slice zm r.1.M.length km, .slice zt r.1.T.length kt, .slice zs ns ks, .int .i64 here, .int .i64 pc, .slice zd r.2.1.length kd, .int .i64 r.2.2] 63))) B0.size)
    clear hr hb1 hE
    go_wp2
    go_ret2
    exact ⟨⟨_, rfl, HD.out⟩, HB.out⟩
set_option maxHeartbeats 4000000 in
/-- the program's SameRuns -/
theorem iSameRuns_any (a b : Option Addr) (ac bc : Nat) (xs ys : List Stp) (a1 a2 a3 : Option Addr) (c1 c2 c3 : Nat) (L M T : List Int) (F : Int) (S : Nat → Addr) (u : TypeId) (pv : Value) (w : World) (hl : xs.length ≤ 1048576) (hl' : ys.length ≤ 1048576) (h1 : L.length ≤ 1048576) (h2 : M.length ≤ 1048576) (h3 : T.length ≤ 1048576) (hT : TRow w a xs) (hT' : TRow w b ys) (hS : SRow w a1 a2 a3 L M T) (hTb : Tab w) (hE : Errs w S) (h5 : 5 < w.heap.size) (he : w.cell? ⟨5, 0, none⟩ = some (.iface u pv)) :
    Calls Tryd.prog 23 #[.slice a xs.length ac, .slice b ys.length bc, .agg #[.slice a1 L.length c1, .slice a2 M.length c2, .slice a3 T.length c3], .int .i64 F] w fun e w' => e = .returned (.tuple #[.bool (sameR (runO xs L M T F) (runO ys L M T F)).1, .bool (sameR (runO xs L M T F) (runO ys L M T F)).2]) ∧ Below w.heap.size w w' := by
  have HA : Hid (∀ X, Below w.heap.size w X → Calls Tryd.prog 33 #[.slice a xs.length ac, .agg #[.slice a1 L.length c1, .slice a2 M.length c2, .slice a3 T.length c3], .int .i64 F] X fun e w' => RofLay w' X.heap.size (runO xs L M T F) e ∧ Below X.heap.size X w') := fun X hb => (runOf_any a ac xs a1 a2 a3 c1 c2 c3 L M T F S u pv X hl h1 h2 h3 (hT.below hb) (hS.below hb) (hTb.below hb) (hE.below hb) (Nat.lt_of_lt_of_le h5 hb.size) ((hb.cell (p := ⟨5, 0, none⟩) h5).trans he)).mono fun e w' h => ⟨rof_lay h.1, h.2⟩
  have HB : Hid (∀ X, Below w.heap.size w X → Calls Tryd.prog 33 #[.slice b ys.length bc, .agg #[.slice a1 L.length c1, .slice a2 M.length c2, .slice a3 T.length c3], .int .i64 F] X fun e w' => RofLay w' X.heap.size (runO ys L M T F) e ∧ Below X.heap.size X w') := fun X hb => (runOf_any b bc ys a1 a2 a3 c1 c2 c3 L M T F S u pv X hl' h1 h2 h3 (hT'.below hb) (hS.below hb) (hTb.below hb) (hE.below hb) (Nat.lt_of_lt_of_le h5 hb.size) ((hb.cell (p := ⟨5, 0, none⟩) h5).trans he)).mono fun e w' h => ⟨rof_lay h.1, h.2⟩
  have HF1 : Hid (∀ r, runO xs L M T F = some r → Fin r) := fun r h => runO_fin h
  have HF2 : Hid (∀ r, runO ys L M T F = some r → Fin r) := fun r h => runO_fin h
  generalize runO xs L M T F = o1 at HA HF1 ⊢
  generalize runO ys L M T F = o2 at HB HF2 ⊢
  clear hT hT' hS hTb hE he h1 h2 h3 hl hl'
  have B0 := below1 w (.cells #[.slice a1 L.length c1, .slice a2 M.length c2, .slice a3 T.length c3] 28)
  go_enter Tryd.func23, Tryd.ntmps23
  go_wp2_with fail
  refine (HA.out _ B0).mono ?_
  rintro e w1 ⟨⟨z0, z1, z2, zl, zm, zt, zs, zd, n0, n1, n2, nl, nm, nt, ns, nd, k0, k1, k2, kl, km, kt, ks, kd, here, pc, how, rfl, hr⟩, hb1⟩
  have b2 := below1 w1 (.cells #[.slice z0 n0 k0, .slice z1 n1 k1, .slice z2 n2 k2, .slice zl nl kl, .slice zm nm km, .slice zt nt kt, .slice zs ns ks, .int .i64 here, .int .i64 pc, .slice zd nd kd, .int .i64 how] 63)
  obtain ⟨s0, s1, s2⟩ := (below_box (bstep hb1 hb1.size b2)).2
  have BX2 := (below_box (bstep hb1 hb1.size b2)).1
  have HM1 := hid (mach_at w1 (.slice z0 n0 k0) (.slice z1 n1 k1) (.slice z2 n2 k2) (.slice zl nl kl) (.slice zm nm km) (.slice zt nt kt) (.slice zs ns ks) (.int .i64 here) (.int .i64 pc) (.slice zd nd kd) (.int .i64 how))
  have HL1 : Hid (w1.heap.size < (w1.alloc (.cells #[.slice z0 n0 k0, .slice z1 n1 k1, .slice z2 n2 k2, .slice zl nl kl, .slice zm nm km, .slice zt nt kt, .slice zs ns ks, .int .i64 here, .int .i64 pc, .slice zd nd kd, .int .i64 how] 63)).heap.size) := by show _ < _; simp
  have HR1 : Hid (∀ r, o1 = some r → how = r.2.2 ∧ nl = r.1.L.length ∧ nm = r.1.M.length ∧ nt = r.1.T.length ∧ SRow (w1.alloc (.cells #[.slice z0 n0 k0, .slice z1 n1 k1, .slice z2 n2 k2, .slice zl nl kl, .slice zm nm km, .slice zt nt kt, .slice zs ns ks, .int .i64 here, .int .i64 pc, .slice zd nd kd, .int .i64 how] 63)) zl zm zt r.1.L r.1.M r.1.T) := by
    intro r h
    obtain ⟨rfl, rfl, rfl, rfl, rfl, hE⟩ := hr r h
    exact ⟨rfl, rfl, rfl, rfl, hE.rows.1.row.below b2⟩
  clear hr hb1 b2
  go_wp2_with fail
  generalize (w1.alloc (.cells #[.slice z0 n0 k0, .slice z1 n1 k1, .slice z2 n2 k2, .slice zl nl kl, .slice zm nm km, .slice zt nt kt, .slice zs ns ks, .int .i64 here, .int .i64 pc, .slice zd nd kd, .int .i64 how] 63)) = X2 at *
  generalize w1.heap.size = p1 at *
  refine (HB.out _ BX2).mono ?_
  rintro e w3 ⟨⟨y0, y1, y2, yl, ym, yt, ys', yd, i0, i1, i2, il, im, it, is, id', j0, j1, j2, jl, jm, jt, js, jd, here', pc', how', rfl, hr⟩, hb3⟩
  have b4 := below1 w3 (.cells #[.slice y0 i0 j0, .slice y1 i1 j1, .slice y2 i2 j2, .slice yl il jl, .slice ym im jm, .slice yt it jt, .slice ys' is js, .int .i64 here', .int .i64 pc', .slice yd id' jd, .int .i64 how'] 63)
  have b34 := bstep hb3 hb3.size b4
  have BX4 := bstep' BX2 b34
  obtain ⟨p3, p4, p5, _, p10⟩ := mach_at w3 (.slice y0 i0 j0) (.slice y1 i1 j1) (.slice y2 i2 j2) (.slice yl il jl) (.slice ym im jm) (.slice yt it jt) (.slice ys' is js) (.int .i64 here') (.int .i64 pc') (.slice yd id' jd) (.int .i64 how')
  have hc1 : ∀ j, (w3.alloc (.cells #[.slice y0 i0 j0, .slice y1 i1 j1, .slice y2 i2 j2, .slice yl il jl, .slice ym im jm, .slice yt it jt, .slice ys' is js, .int .i64 here', .int .i64 pc', .slice yd id' jd, .int .i64 how'] 63)).cell? ⟨p1, j, none⟩ = X2.cell? ⟨p1, j, none⟩ := fun j => b34.cell (p := ⟨p1, j, none⟩) HL1.out
  have q3 := (hc1 3).trans HM1.out.1
  have q4 := (hc1 4).trans HM1.out.2.1
  have q5 := (hc1 5).trans HM1.out.2.2.1
  have q10 := (hc1 10).trans HM1.out.2.2.2.2
  have HR2 : Hid (∀ r, o2 = some r → how' = r.2.2 ∧ il = r.1.L.length ∧ im = r.1.M.length ∧ it = r.1.T.length ∧ SRow (w3.alloc (.cells #[.slice y0 i0 j0, .slice y1 i1 j1, .slice y2 i2 j2, .slice yl il jl, .slice ym im jm, .slice yt it jt, .slice ys' is js, .int .i64 here', .int .i64 pc', .slice yd id' jd, .int .i64 how'] 63)) yl ym yt r.1.L r.1.M r.1.T) := by
    intro r h
    obtain ⟨rfl, rfl, rfl, rfl, rfl, hE⟩ := hr r h
    exact ⟨rfl, rfl, rfl, rfl, hE.rows.1.row.below b4⟩
  have HR1' : Hid (∀ r, o1 = some r → SRow (w3.alloc (.cells #[.slice y0 i0 j0, .slice y1 i1 j1, .slice y2 i2 j2, .slice yl il jl, .slice ym im jm, .slice yt it jt, .slice ys' is js, .int .i64 here', .int .i64 pc', .slice yd id' jd, .int .i64 how'] 63)) zl zm zt r.1.L r.1.M r.1.T) := fun r h => (HR1.out r h).2.2.2.2.below b34
  have HBX := hid BX4
  clear s0 s1 s2 hr hb3 b4 b34 BX2 BX4 HM1 hc1
  cases o1 with
  | none =>
    go_wp2
    go_ret2
    exact ⟨rfl, HBX.out⟩
  | some r =>
    cases o2 with
    | none =>
      go_wp2
      go_ret2
      exact ⟨rfl, HBX.out⟩
    | some q =>
      obtain ⟨rfl, rfl, rfl, rfl, _⟩ := HR1.out r rfl
      obtain ⟨rfl, rfl, rfl, rfl, hq⟩ := HR2.out q rfl
      have fr := HF1.out r rfl
      have fq := HF2.out q rfl
      have HSM : Hid (Calls Tryd.prog 36 #[.agg #[.slice zl r.1.L.length kl, .slice zm r.1.M.length km, .slice zt r.1.T.length kt], .agg #[.slice yl q.1.L.length jl, .slice ym q.1.M.length jm, .slice yt q.1.T.length jt]] _ fun e w' => e = .returned (.bool (sameSt r.1.L r.1.M r.1.T q.1.L q.1.M q.1.T)) ∧ Below _ _ w') := hid (same36_any zl zm zt yl ym yt kl km kt jl jm jt r.1.L r.1.M r.1.T q.1.L q.1.M q.1.T _ (by have := fr.L8; omega) (by have := fr.M16; omega) (by have := fr.T100; omega) (by have := fq.L8; omega) (by have := fq.M16; omega) (by have := fq.T100; omega) (HR1'.out r rfl) hq)
      clear fr fq HR1 HR2 HR1' hq HF1 HF2
      by_cases e1 : r.2.2 = 3
      · have HS : Hid (sameR (some r) (some q) = (false, false)) := by show _ = _; simp [sameR, e1]
        have t1 : (r.2.2 == 3) = true := by simp [e1]
        clear e1
        go_wp2
        go_ret2
        exact ⟨by rw [HS.out]; rfl, HBX.out⟩
      · have t1 : (r.2.2 == 3) = false := by simp [e1]
        by_cases e2 : q.2.2 = 3
        · have HS : Hid (sameR (some r) (some q) = (false, false)) := by show _ = _; simp [sameR, e2]
          have t2 : (q.2.2 == 3) = true := by simp [e2]
          clear e1 e2
          go_wp2
          go_ret2
          exact ⟨by rw [HS.out]; rfl, HBX.out⟩
        · have HS : Hid (sameR (some r) (some q) = (decide (r.2.2 = q.2.2) && sameSt r.1.L r.1.M r.1.T q.1.L q.1.M q.1.T, true)) := by show _ = _; simp [sameR, e1, e2]
          have t2 : (q.2.2 == 3) = false := by simp [e2]
          clear e1 e2
          by_cases e3 : r.2.2 = q.2.2
          · have t3 : (r.2.2 == q.2.2) = true := by simp [e3]
            have E3 := hid e3
            clear e3
            go_wp2_with fail
            refine HSM.out.mono ?_
            rintro e X5 ⟨rfl, hb5⟩
            go_wp2
            go_ret2
            exact ⟨by rw [HS.out, decide_eq_true E3.out]; simp, bstep' HBX.out hb5⟩
          · have t3 : (r.2.2 == q.2.2) = false := by simp [e3]
            have E3 := hid e3
            clear e3
            go_wp2
            go_ret2
            exact ⟨by rw [HS.out, decide_eq_false E3.out]; simp, HBX.out⟩
end

section
open Go.RowKit
set_option linter.unusedVariables false
set_option linter.unusedSimpArgs false
set_option maxRecDepth 100000

set_option maxHeartbeats 1000000 in
/-- the laws' measure of steps: told, or too great -/
theorem szSteps_gen (a : Option Addr) (c : Nat) (xs : List Stp) (r0 : Int) (w : World) (hl : xs.length ≤ 9223372036854775807) (h00 : 0 ≤ r0) (h01 : r0 ≤ 1048576) (h : TRow w a xs) :
    Calls Tryd.prog 6 #[.slice a xs.length c, .int .i64 r0] w fun e w' => (∃ r, e = .returned (.int .i64 r) ∧ (r < 0 ∨ (0 ≤ r ∧ r ≤ 1048576 ∧ xs.length ≤ 1048576 ∧ sumT xs ≤ 1048576))) ∧ Below w.heap.size w w' := by
  by_cases h20 : (xs.length : Int) ≤ r0
  · by_cases hx : xs = []
    · subst hx
      clear h
      go_enter Tryd.func6, Tryd.ntmps6
      go_wp2
      go_loopw [1, 5] (fun t1 t wr => t1 = .int .i64 r0 ∧ t = .int .i64 0 ∧ wr = w) (fun _ t _ => 0)
      case atStart => exact ⟨rfl, rfl, rfl⟩
      case round =>
        obtain ⟨rfl, rfl, rfl⟩ := hrel
        go_wp2
        go_ret
        exact ⟨⟨_, rfl, .inr (by simp [sumT]; omega)⟩, Below.refl _ _⟩
    · obtain ⟨b, off, rfl, hat⟩ := h.at hx
      have HA : Hid (_) := hat
      clear hat hx h
      go_enter Tryd.func6, Tryd.ntmps6
      go_wp2
      go_loopw [1, 5] (fun t1 t wr => ∃ (r : Int) (k : Nat), t1 = .int .i64 r ∧ t = .int .i64 k ∧ 0 ≤ r ∧ r + sumT (xs.take k) ≤ 1048576 ∧ k ≤ xs.length ∧ Below w.heap.size w wr) (fun _ t _ => xs.length - (intOf t).toNat)
      case atStart => exact ⟨_, 0, rfl, rfl, by omega, by simp [sumT]; omega, by omega, Below.refl _ _⟩
      case round =>
        obtain ⟨r, k, rfl, rfl, hr0, hr1, hk, hB⟩ := hrel
        by_cases hlt : k < xs.length
        · obtain ⟨p, n, t, ta, tc, c1, c2, c3, hbw, hs, HR, HX⟩ := HA.out wr hB k hlt
          have hz := fun w => szStep_any p n ta tc t.length r w (by omega) hr0 (by omega)
          have HS := sumT_at HX.out
          simp only [] at HS
          by_cases hrs : r < t.length
          · rw [if_pos hrs] at hz
            have HZ : Hid (∀ w, Calls Tryd.prog 24 #[.agg #[.int .i64 p, .int .i64 n, .slice ta t.length tc], .int .i64 r] w fun e w' => e = .returned (.int .i64 (-1)) ∧ Below w.heap.size w w') := hz
            clear hz HS hr1
            go_wp2_with (go_at_call 24; refine (HZ.out _).mono ?_; rintro e w1 ⟨rfl, hb1⟩)
            go_ret
            exact ⟨⟨_, rfl, .inl (by decide)⟩, bstep' hB hb1⟩
          · rw [if_neg hrs] at hz
            obtain ⟨r2, hr2, h20'⟩ : ∃ r2 : Int, r - (t.length : Int) = r2 ∧ 0 ≤ r2 := ⟨_, rfl, by omega⟩
            rw [hr2] at hz
            have HZ : Hid (∀ w, Calls Tryd.prog 24 #[.agg #[.int .i64 p, .int .i64 n, .slice ta t.length tc], .int .i64 r] w fun e w' => e = .returned (.int .i64 r2) ∧ Below w.heap.size w w') := hz
            have HN : Hid (r2 + sumT (xs.take (k + 1)) ≤ 1048576) := by show _ ≤ _; omega
            clear hz hr2 HS hr1
            go_wp2_with (go_at_call 24; refine (HZ.out _).mono ?_; rintro e w1 ⟨rfl, hb1⟩)
            go_roundw
            case rel => exact ⟨r2, k + 1, rfl, by go_num, h20', HN.out, by omega, bstep' hB hb1⟩
            case measure => simp [intOf]; omega
        · obtain rfl : k = xs.length := by omega
          rw [List.take_of_length_le (Nat.le_refl _)] at hr1
          have HN : Hid (sumT xs ≤ 1048576) := by show _ ≤ _; omega
          have HRL : Hid (r ≤ 1048576) := by show _ ≤ _; omega
          clear hr1
          go_wp2
          go_ret
          exact ⟨⟨_, rfl, .inr ⟨hr0, HRL.out, by omega, HN.out⟩⟩, hB⟩
  · clear h
    go_enter Tryd.func6, Tryd.ntmps6
    go_wp2
    go_ret
    exact ⟨⟨_, rfl, .inl (by decide)⟩, Below.refl _ _⟩
/-- the laws' copy of steps, as it is used -/
theorem toSteps_got (a : Option Addr) (c : Nat) (xs : List Stp) (w : World) (hl : xs.length ≤ 1048576) (ht : sumT xs ≤ 1048576) (h : TRow w a xs) :
    Calls Tryd.prog 9 #[.slice a xs.length c] w fun e w' => (∃ a' c', e = .returned (.slice a' xs.length c') ∧ TRow w' a' xs) ∧ Below w.heap.size w w' := by
  refine (toSteps_any a c xs w hl ht h).mono ?_
  rintro e w2 ⟨v2, y2, rfl, O2, hy2, hb2⟩
  obtain ⟨a2, c2, rfl, hs2⟩ := O2.row
  rw [hy2] at hs2
  have hn : y2.length = xs.length := by rw [← hy2]; simp
  exact ⟨⟨a2, c2, by rw [← hy2], hs2⟩, hb2⟩
set_option maxHeartbeats 4000000 in
theorem lawSameRuns (a b : Option Addr) (ac bc : Nat) (xs ys : List Stp) (a1 a2 a3 : Option Addr) (c1 c2 c3 : Nat) (L M T : List Int) (F : Int) (S : Nat → Addr) (u : TypeId) (pv : Value) (w : World) (hl : xs.length ≤ 9223372036854775807) (hl' : ys.length ≤ 9223372036854775807) (h1 : L.length ≤ 9223372036854775807) (h2 : M.length ≤ 9223372036854775807) (h3 : T.length ≤ 9223372036854775807) (hT : TRow w a xs) (hT' : TRow w b ys) (hS : SRow w a1 a2 a3 L M T) (hTb : Tab w) (hE : Errs w S) (h5 : 5 < w.heap.size) (he : w.cell? ⟨5, 0, none⟩ = some (.iface u pv)) :
    Calls Tryd.prog 5 #[.slice a xs.length ac, .slice b ys.length bc, .agg #[.slice a1 L.length c1, .slice a2 M.length c2, .slice a3 T.length c3], .int .i64 F] w fun e w' => e = .returned (.bool true) ∧ Below w.heap.size w w' := by
  have HZ1 : Hid (∀ X r0, Below w.heap.size w X → 0 ≤ r0 → r0 ≤ 1048576 → Calls Tryd.prog 6 #[.slice a xs.length ac, .int .i64 r0] X fun e w' => (∃ r, e = .returned (.int .i64 r) ∧ (r < 0 ∨ (0 ≤ r ∧ r ≤ 1048576 ∧ xs.length ≤ 1048576 ∧ sumT xs ≤ 1048576))) ∧ Below X.heap.size X w') := fun X r0 hb q1 q2 => szSteps_gen a ac xs r0 X hl q1 q2 (hT.below hb)
  have HZ2 : Hid (∀ X r0, Below w.heap.size w X → 0 ≤ r0 → r0 ≤ 1048576 → Calls Tryd.prog 6 #[.slice b ys.length bc, .int .i64 r0] X fun e w' => (∃ r, e = .returned (.int .i64 r) ∧ (r < 0 ∨ (0 ≤ r ∧ r ≤ 1048576 ∧ ys.length ≤ 1048576 ∧ sumT ys ≤ 1048576))) ∧ Below X.heap.size X w') := fun X r0 hb q1 q2 => szSteps_gen b bc ys r0 X hl' q1 q2 (hT'.below hb)
  have HZ3 : Hid (∀ X r0, 0 ≤ r0 → r0 ≤ 1048576 → Calls Tryd.prog 7 #[.agg #[.slice a1 L.length c1, .slice a2 M.length c2, .slice a3 T.length c3], .int .i64 r0] X fun e w' => (∃ q, e = .returned (.int .i64 q) ∧ (q < 0 ∨ (q ≤ r0 ∧ L.length ≤ 1048576 ∧ M.length ≤ 1048576 ∧ T.length ≤ 1048576))) ∧ Below X.heap.size X w') := fun X r0 q1 q2 => szState_any a1 a2 a3 c1 c2 c3 L.length M.length T.length r0 X h1 h2 h3 q1 q2
  have HK : Hid (∀ X, Below w.heap.size w X → (TRow X a xs ∧ TRow X b ys ∧ SRow X a1 a2 a3 L M T) ∧ Tab X ∧ Errs X S ∧ 5 < X.heap.size ∧ X.cell? ⟨5, 0, none⟩ = some (.iface u pv)) := fun X hb => ⟨⟨hT.below hb, hT'.below hb, hS.below hb⟩, hTb.below hb, hE.below hb, Nat.lt_of_lt_of_le h5 hb.size, (hb.cell (p := ⟨5, 0, none⟩) h5).trans he⟩
  clear hT hT' hS hTb hE he hl hl' h1 h2 h3
  have B0 := below1 w (.cells #[.slice a1 L.length c1, .slice a2 M.length c2, .slice a3 T.length c3] 25)
  have HP : Hid (∀ X, Below (w.alloc (.cells #[.slice a1 L.length c1, .slice a2 M.length c2, .slice a3 T.length c3] 25)).heap.size (w.alloc (.cells #[.slice a1 L.length c1, .slice a2 M.length c2, .slice a3 T.length c3] 25)) X → Box3 X w.heap.size (.slice a1 L.length c1) (.slice a2 M.length c2) (.slice a3 T.length c3) ∧ Below w.heap.size w X) := fun X hb => ⟨(Box3.new w _ _ _ 25).below hb, bstep' B0 hb⟩
  go_enter Tryd.func5, Tryd.ntmps5
  go_wp2_with fail
  generalize (w.alloc (.cells #[.slice a1 L.length c1, .slice a2 M.length c2, .slice a3 T.length c3] 25)) = X0 at HP B0 ⊢
  refine (HZ1.out _ _ B0 (by decide) (by decide)).mono ?_
  rintro e X1 ⟨⟨r, rfl, hr⟩, hb1⟩
  have C1 := hb1
  by_cases hr0 : r < 0
  · have HB := hid (HP.out _ C1).2
    go_wp2
    go_ret
    exact ⟨rfl, HB.out⟩
  have HX : Hid (xs.length ≤ 1048576 ∧ sumT xs ≤ 1048576) := by show _ ∧ _; omega
  have hq : 0 ≤ r ∧ r ≤ 1048576 := by omega
  clear hr hb1
  go_wp2_with fail
  refine (HZ2.out _ _ (HP.out _ C1).2 hq.1 hq.2).mono ?_
  rintro e X2 ⟨⟨r2, rfl, hr2⟩, hb2⟩
  have C2 := bstep C1 C1.size hb2
  by_cases hr20 : r2 < 0
  · have HB := hid (HP.out _ C2).2
    go_wp2
    go_ret
    exact ⟨rfl, HB.out⟩
  have HY : Hid (ys.length ≤ 1048576 ∧ sumT ys ≤ 1048576) := by show _ ∧ _; omega
  have hq2 : 0 ≤ r2 ∧ r2 ≤ 1048576 := by omega
  obtain ⟨⟨s0, s1, s2⟩, _⟩ := HP.out _ C2
  clear hr2 hb2
  go_wp2_with fail
  refine (HZ3.out _ _ hq2.1 hq2.2).mono ?_
  rintro e X3 ⟨⟨r3, rfl, hr3⟩, hb3⟩
  have C3 := bstep C2 C2.size hb3
  clear s0 s1 s2
  by_cases hr30 : r3 < 0
  · have HB := hid (HP.out _ C3).2
    go_wp2
    go_ret
    exact ⟨rfl, HB.out⟩
  have HL : Hid (L.length ≤ 1048576 ∧ M.length ≤ 1048576 ∧ T.length ≤ 1048576) := by show _ ∧ _ ∧ _; omega
  clear hr3 hb3
  go_wp2_with fail
  have C4 := C3.drew
  have HA : Hid (∀ X, Below X0.heap.size X0 X → Calls Tryd.prog 9 #[.slice a xs.length ac] X fun e w' => (∃ a' c', e = .returned (.slice a' xs.length c') ∧ TRow w' a' xs) ∧ Below X.heap.size X w') := fun X hb => toSteps_got a ac xs X HX.out.1 HX.out.2 (HK.out _ (HP.out _ hb).2).1.1
  have HB : Hid (∀ X, Below X0.heap.size X0 X → Calls Tryd.prog 9 #[.slice b ys.length bc] X fun e w' => (∃ a' c', e = .returned (.slice a' ys.length c') ∧ TRow w' a' ys) ∧ Below X.heap.size X w') := fun X hb => toSteps_got b bc ys X HY.out.1 HY.out.2 (HK.out _ (HP.out _ hb).2).1.2.1
  have HC : Hid (∀ X, Below X0.heap.size X0 X → Calls Tryd.prog 10 #[.agg #[.slice a1 L.length c1, .slice a2 M.length c2, .slice a3 T.length c3]] X fun e w' => ∃ b1 b2 b3 d1 d2 d3, e = .returned (.agg #[.slice b1 L.length d1, .slice b2 M.length d2, .slice b3 T.length d3]) ∧ SRow w' b1 b2 b3 L M T ∧ Below X.heap.size X w') := fun X hb => (toState_any a1 a2 a3 c1 c2 c3 L M T X HL.out.1 HL.out.2.1 HL.out.2.2 (HK.out _ (HP.out _ hb).2).1.2.2).mono fun e w' ⟨b1, b2, b3, d1, d2, d3, h1, h2, h3⟩ => ⟨b1, b2, b3, d1, d2, d3, h1, h2.row, h3⟩
  clear HZ1 HZ2 HZ3
  refine wp_region_held_drew (S := fun X' => X'.cell? ⟨w.heap.size, 0, none⟩ = some (.slice a1 L.length c1) ∧ X'.cell? ⟨w.heap.size, 1, none⟩ = some (.slice a2 M.length c2) ∧ X'.cell? ⟨w.heap.size, 2, none⟩ = some (.slice a3 T.length c3)) (by kernel_rfl) (HP.out _ C4).1 (fun hHeld => ?_)
  refine wpAnyH_take (i := 0) (v := ?_) rfl (by kernel_rfl) (by kernel_rfl) (by kernel_rfl) (fun _ _ _ h => h) (Or.inl ⟨by rfl, ?_⟩) (by assumption) ?_
  rotate_left
  focus (intro w hSw; (try dsimp only at hSw); go_simp; first | done | with_reducible rfl)
  try go_simp
  refine wpAnyH_take (i := 2) (v := ?_) rfl (by kernel_rfl) (by kernel_rfl) (by kernel_rfl) (fun _ _ _ h => h) (Or.inl ⟨by rfl, ?_⟩) (by assumption) ?_
  rotate_left
  focus (intro w hSw; (try dsimp only at hSw); go_simp; first | done | with_reducible rfl)
  try go_simp
  refine wpAnyH_take (i := 4) (v := ?_) rfl (by kernel_rfl) (by kernel_rfl) (by kernel_rfl) (fun _ _ _ h => h) (Or.inl ⟨by rfl, ?_⟩) (by assumption) ?_
  rotate_left
  focus (intro w hSw; (try dsimp only at hSw); go_simp; first | done | with_reducible rfl)
  try go_simp
  refine wpAnyH_take (i := 6) (v := ?_) rfl (by kernel_rfl) (by kernel_rfl) (by kernel_rfl) (fun _ _ _ h => h) (Or.inl ⟨by rfl, ?_⟩) (by assumption) ?_
  rotate_left
  focus (intro w hSw; (try dsimp only at hSw); go_simp; first | done | with_reducible rfl)
  try go_simp
  refine wpAnyH_ready (rs := [1]) (by kernel_rfl) (by simp) ?_
  refine AllReadyH.cons rfl (fun K hK => ?_) AllReadyH.nil
  go_simp
  go_wp2_with (go_at_call 9; refine (HA.out _ C4).mono ?_; rintro e X5 ⟨⟨x5, d5, rfl, t5⟩, hb5⟩)
  have C5 := bstep C4 C4.size hb5
  refine hK.out _ _ (HP.out _ C5).1 (fun hHeld => ?_)
  clear hK K
  try go_simp
  refine wpAnyH_ready (rs := [3]) (by kernel_rfl) (by simp) ?_
  refine AllReadyH.cons rfl (fun K hK => ?_) AllReadyH.nil
  go_simp
  go_wp2_with (go_at_call 9; refine (HB.out _ C5).mono ?_; rintro e X6 ⟨⟨x6, d6, rfl, t6⟩, hb6⟩)
  have C6 := bstep C5 C5.size hb6
  have t5' := t5.below hb6
  refine hK.out _ _ (HP.out _ C6).1 (fun hHeld => ?_)
  clear hK K
  try go_simp
  refine wpAnyH_ready (rs := [5]) (by kernel_rfl) (by simp) ?_
  refine AllReadyH.cons rfl (fun K hK => ?_) AllReadyH.nil
  go_simp
  go_wp2_with (go_at_call 10; refine (HC.out _ C6).mono ?_; rintro e X7 ⟨b1, b2, b3, g1, g2, g3, rfl, t7, hb7⟩)
  have C7 := bstep C6 C6.size hb7
  have HTT := hid (And.intro (t5'.below hb7) (And.intro (t6.below hb7) t7))
  refine hK.out _ _ (HP.out _ C7).1 (fun hHeld => ?_)
  clear hK K
  try go_simp
  refine wpAnyH_ready (rs := [7]) (by kernel_rfl) (by simp) ?_
  refine AllReadyH.cons rfl (fun K hK => ?_) AllReadyH.nil
  go_simp
  go_wp2_with (go_at_call 22; refine (sSameRuns_any x5 x6 d5 d6 xs ys b1 b2 b3 g1 g2 g3 L M T F X7 HX.out.1 HY.out.1 HL.out.1 HL.out.2.1 HL.out.2.2 HTT.out.1 HTT.out.2.1 HTT.out.2.2).mono ?_; rintro e X8 ⟨rfl, hb8⟩)
  have C8 := bstep C7 C7.size hb8
  refine hK.out _ _ (HP.out _ C8).1 (fun hHeld => ?_)
  clear hK K
  try go_simp
  refine wpAnyH_take (i := 8) (v := ?_) rfl (by kernel_rfl) (by kernel_rfl) (by kernel_rfl) (fun _ _ _ h => h) (Or.inl ⟨by rfl, ?_⟩) (by assumption) ?_
  rotate_left
  focus (intro w hSw; (try dsimp only at hSw); go_simp; first | done | with_reducible rfl)
  try go_simp
  refine wpAnyH_take (i := 9) (v := ?_) rfl (by kernel_rfl) (by kernel_rfl) (by kernel_rfl) (fun _ _ _ h => h) (Or.inl ⟨by rfl, ?_⟩) (by assumption) ?_
  rotate_left
  focus (intro w hSw; (try dsimp only at hSw); go_simp; first | done | with_reducible rfl)
  try go_simp
  refine wpAnyH_take (i := 10) (v := ?_) rfl (by kernel_rfl) (by kernel_rfl) (by kernel_rfl) (fun _ _ _ h => h) (Or.inl ⟨by rfl, ?_⟩) (by assumption) ?_
  rotate_left
  focus (intro w hSw; (try dsimp only at hSw); go_simp; first | done | with_reducible rfl)
  try go_simp
  refine wpAnyH_take (i := 11) (v := ?_) rfl (by kernel_rfl) (by kernel_rfl) (by kernel_rfl) (fun _ _ _ h => h) (Or.inl ⟨by rfl, ?_⟩) (by assumption) ?_
  rotate_left
  focus (intro w hSw; (try dsimp only at hSw); go_simp; first | done | with_reducible rfl)
  try go_simp
  refine wpAnyH_take (i := 12) (v := ?_) rfl (by kernel_rfl) (by kernel_rfl) (by kernel_rfl) (fun _ _ _ h => h) (Or.inl ⟨by rfl, ?_⟩) (by assumption) ?_
  rotate_left
  focus (intro w hSw; (try dsimp only at hSw); go_simp; first | done | with_reducible rfl)
  try go_simp
  refine wpAnyH_done (by kernel_rfl) ?_ _
  clear hHeld hb5 hb6 hb7 hb8 t5 t5' t6 t7 HTT
  have hI := fun (X : World) (p q : Option Addr) (pc qc : Nat) (e1 e2 e3 : Option Addr) (f1 f2 f3 : Nat) (hb : Below w.heap.size w X) t1 t2 t3 => iSameRuns_any p q pc qc xs ys e1 e2 e3 f1 f2 f3 L M T F S u pv X HX.out.1 HY.out.1 HL.out.1 HL.out.2.1 HL.out.2.2 t1 t2 t3 (HK.out _ hb).2.1 (HK.out _ hb).2.2.1 (HK.out _ hb).2.2.2.1 (HK.out _ hb).2.2.2.2
  generalize (sameR (runO xs L M T F) (runO ys L M T F)) = R at hI ⊢
  have HI := hid hI
  clear hI
  obtain ⟨Ra, Rb⟩ := R
  obtain ⟨⟨s0, s1, s2⟩, _⟩ := HP.out _ C8
  go_wp2_with fail
  refine (HA.out _ C8).mono ?_
  rintro e X9 ⟨⟨x9, d9, rfl, t9⟩, hb9⟩
  have C9 := bstep C8 C8.size hb9
  clear s0 s1 s2
  go_wp2_with fail
  refine (HB.out _ C9).mono ?_
  rintro e X10 ⟨⟨x10, d10, rfl, t10⟩, hb10⟩
  have C10 := bstep C9 C9.size hb10
  have t9' := t9.below hb10
  obtain ⟨⟨s0, s1, s2⟩, _⟩ := HP.out _ C10
  clear hb9 hb10 t9
  go_wp2_with fail
  refine (HC.out _ C10).mono ?_
  rintro e X11 ⟨m1, m2, m3, k1, k2, k3, rfl, t11, hb11⟩
  have b12 := below1 X11 (.cells #[.slice m1 L.length k1, .slice m2 M.length k2, .slice m3 T.length k3] 28)
  have C12 := bstep (bstep C10 C10.size hb11) (bstep C10 C10.size hb11).size b12
  have P12 := Box3.new X11 (.slice m1 L.length k1) (.slice m2 M.length k2) (.slice m3 T.length k3) 28
  have HQ : Hid (∀ X, Below (X11.alloc (.cells #[.slice m1 L.length k1, .slice m2 M.length k2, .slice m3 T.length k3] 28)).heap.size (X11.alloc (.cells #[.slice m1 L.length k1, .slice m2 M.length k2, .slice m3 T.length k3] 28)) X → Box3 X X11.heap.size (.slice m1 L.length k1) (.slice m2 M.length k2) (.slice m3 T.length k3) ∧ Below X0.heap.size X0 X ∧ TRow X x9 xs ∧ TRow X x10 ys ∧ SRow X m1 m2 m3 L M T) := fun X hb => ⟨P12.below hb, bstep C12 C12.size hb, ((t9'.below hb11).below b12).below hb, ((t10.below hb11).below b12).below hb, (t11.below b12).below hb⟩
  clear s0 s1 s2 hb11 b12 t9' t10 t11 P12 C12
  go_wp2_with fail
  generalize (X11.alloc (.cells #[.slice m1 L.length k1, .slice m2 M.length k2, .slice m3 T.length k3] 28)) = X12 at HQ ⊢
  generalize X11.heap.size = sb at HQ ⊢
  obtain ⟨⟨p0, p1, p2⟩, C12, t9, t10, t11⟩ := HQ.out _ (Below.refl _ _)
  refine (HI.out X12 x9 x10 d9 d10 m1 m2 m3 k1 k2 k3 (HP.out _ C12).2 t9 t10 t11).mono ?_
  rintro e X13 ⟨rfl, hb13⟩
  obtain ⟨⟨q0, q1, q2⟩, C13, t9, t10, t11⟩ := HQ.out _ hb13
  have D13 := hb13
  have HEQ : Hid (∀ X y' dy, TRow X x9 xs → TRow X y' xs → Calls Tryd.prog 13 #[.slice x9 xs.length d9, .slice y' xs.length dy] X fun e w' => e = .returned (.bool true) ∧ Below X.heap.size X w') := fun X y' dy h1 h2 => eqSteps_same x9 y' d9 dy xs X (by have := HX.out.1; omega) h1 h2
  have HEQ2 : Hid (∀ X y' dy, TRow X x10 ys → TRow X y' ys → Calls Tryd.prog 13 #[.slice x10 ys.length d10, .slice y' ys.length dy] X fun e w' => e = .returned (.bool true) ∧ Below X.heap.size X w') := fun X y' dy h1 h2 => eqSteps_same x10 y' d10 dy ys X (by have := HY.out.1; omega) h1 h2
  have HEQ3 : Hid (∀ X e1 e2 e3 f1 f2 f3, SRow X m1 m2 m3 L M T → SRow X e1 e2 e3 L M T → Calls Tryd.prog 12 #[.agg #[.slice m1 L.length k1, .slice m2 M.length k2, .slice m3 T.length k3], .agg #[.slice e1 L.length f1, .slice e2 M.length f2, .slice e3 T.length f3]] X fun e w' => e = .returned (.bool true) ∧ Below X.heap.size X w') := fun X e1 e2 e3 f1 f2 f3 h1 h2 => eqState_same m1 m2 m3 e1 e2 e3 k1 k2 k3 f1 f2 f3 L M T X (by have := HL.out.1; omega) (by have := HL.out.2.1; omega) (by have := HL.out.2.2; omega) h1 h2
  have ta : (Ra != Ra) = false := by simp
  have tb : (Rb != Rb) = false := by simp
  clear p0 p1 p2 hb13
  go_wp2_with fail
  refine (HA.out _ C13).mono ?_
  rintro e X14 ⟨⟨x14, d14, rfl, t14⟩, hb14⟩
  have D14 := bstep D13 D13.size hb14
  obtain ⟨_, C14, t9, t10, t11⟩ := HQ.out _ D14
  clear q0 q1 q2
  go_wp2_with fail
  refine (HEQ.out _ _ _ t9 t14).mono ?_
  rintro e X15 ⟨rfl, hb15⟩
  have D15 := bstep D14 D14.size hb15
  obtain ⟨_, C15, t9, t10, t11⟩ := HQ.out _ D15
  go_wp2_with fail
  refine (HB.out _ C15).mono ?_
  rintro e X16 ⟨⟨x16, d16, rfl, t16⟩, hb16⟩
  have D16 := bstep D15 D15.size hb16
  obtain ⟨_, C16, t9, t10, t11⟩ := HQ.out _ D16
  go_wp2_with fail
  refine (HEQ2.out _ _ _ t10 t16).mono ?_
  rintro e X17 ⟨rfl, hb17⟩
  have D17 := bstep D16 D16.size hb17
  have D18 := D17.drew
  go_wp2_with fail
  have HS : Hid (∀ X, Below X12.heap.size X12 X → (X.cell? ⟨sb, 0, none⟩ = some (.slice m1 L.length k1) ∧ X.cell? ⟨sb, 1, none⟩ = some (.slice m2 M.length k2) ∧ X.cell? ⟨sb, 2, none⟩ = some (.slice m3 T.length k3)) ∧ X.cell? ⟨w.heap.size, 0, none⟩ = some (.slice a1 L.length c1) ∧ X.cell? ⟨w.heap.size, 1, none⟩ = some (.slice a2 M.length c2) ∧ X.cell? ⟨w.heap.size, 2, none⟩ = some (.slice a3 T.length c3)) := fun X hb => ⟨(HQ.out _ hb).1, (HP.out _ (HQ.out _ hb).2.1).1⟩
  refine wp_region_held_drew (S := fun X' => (X'.cell? ⟨sb, 0, none⟩ = some (.slice m1 L.length k1) ∧ X'.cell? ⟨sb, 1, none⟩ = some (.slice m2 M.length k2) ∧ X'.cell? ⟨sb, 2, none⟩ = some (.slice m3 T.length k3)) ∧ X'.cell? ⟨w.heap.size, 0, none⟩ = some (.slice a1 L.length c1) ∧ X'.cell? ⟨w.heap.size, 1, none⟩ = some (.slice a2 M.length c2) ∧ X'.cell? ⟨w.heap.size, 2, none⟩ = some (.slice a3 T.length c3)) (by kernel_rfl) (HS.out _ D18) (fun hHeld => ?_)
  refine wpAnyH_take (i := 0) (v := ?_) rfl (by kernel_rfl) (by kernel_rfl) (by kernel_rfl) (fun _ _ _ h => h) (Or.inl ⟨by rfl, ?_⟩) (by assumption) ?_
  rotate_left
  focus (intro w hSw; (try dsimp only at hSw); go_simp; first | done | with_reducible rfl)
  try go_simp
  refine wpAnyH_take (i := 1) (v := ?_) rfl (by kernel_rfl) (by kernel_rfl) (by kernel_rfl) (fun _ _ _ h => h) (Or.inl ⟨by rfl, ?_⟩) (by assumption) ?_
  rotate_left
  focus (intro w hSw; (try dsimp only at hSw); go_simp; first | done | with_reducible rfl)
  try go_simp
  refine wpAnyH_ready (rs := [2]) (by kernel_rfl) (by simp) ?_
  refine AllReadyH.cons rfl (fun K hK => ?_) AllReadyH.nil
  go_simp
  go_wp2_with (go_at_call 10; refine (HC.out _ (HQ.out _ D18).2.1).mono ?_; rintro e X19 ⟨e1, e2, e3, f1, f2, f3, rfl, t19, hb19⟩)
  have D19 := bstep D18 D18.size hb19
  refine hK.out _ _ (HS.out _ D19) (fun hHeld => ?_)
  clear hK K
  try go_simp
  refine wpAnyH_ready (rs := [3]) (by kernel_rfl) (by simp) ?_
  refine AllReadyH.cons rfl (fun K hK => ?_) AllReadyH.nil
  go_simp
  go_wp2_with (go_at_call 12; refine (HEQ3.out _ _ _ _ _ _ _ (HQ.out _ D19).2.2.2.2 t19).mono ?_; rintro e X20 ⟨rfl, hb20⟩)
  have D20 := bstep D19 D19.size hb20
  refine hK.out _ _ (HS.out _ D20) (fun hHeld => ?_)
  clear hK K
  try go_simp
  refine wpAnyH_take (i := 4) (v := ?_) rfl (by kernel_rfl) (by kernel_rfl) (by kernel_rfl) (fun _ _ _ h => h) (Or.inl ⟨by rfl, ?_⟩) (by assumption) ?_
  rotate_left
  focus (intro w hSw; (try dsimp only at hSw); go_simp; first | done | with_reducible rfl)
  try go_simp
  refine wpAnyH_done (by kernel_rfl) ?_ _
  have HBB := hid (HP.out _ (HQ.out _ D20).2.1).2
  go_wp2
  go_ret
  exact ⟨rfl, HBB.out⟩
end

section
open Go.RowKit Go.WideShapes Go.ChangeShapes Go.Deep
set_option linter.unusedVariables false
set_option linter.unusedSimpArgs false
set_option maxRecDepth 100000

theorem cells23 : Tryd.prog.cellsOf 23 = 1 := by kernel_rfl
theorem cells25 : Tryd.prog.cellsOf 25 = 3 := by kernel_rfl
theorem starName : "*" ++ "errors.errorString" = "*errors.errorString" := by decide
theorem row133 (u : TypeId) (h : Tryd.prog.typeName? 3 u = some "*errors.errorString") : u = 133 :=
  typeName_ptr_named (nm := "errors.errorString") (by rw [starName]; kernel_rfl) (by kernel_rfl) (by decide) u (by rw [starName]; exact h)
theorem cells150 : Tryd.prog.cellsOf 150 = 1 := by kernel_rfl
theorem gShape : Tryd.prog.globalNamed "loop.example/g00373/impl.errShape" = some 0 := by kernel_rfl
theorem gStack : Tryd.prog.globalNamed "loop.example/g00373/impl.errStack" = some 2 := by kernel_rfl
theorem gRest : Tryd.prog.globalNamed "loop.example/g00373/impl.errRest" = some 1 := by kernel_rfl
theorem gDeep : Tryd.prog.globalNamed "loop.example/g00373/impl.errDeep" = some 3 := by kernel_rfl
theorem gTrap : Tryd.prog.globalNamed "loop.example/g00373/impl.errTrap" = some 5 := by kernel_rfl

theorem gErrType0 : (Tryd.prog.globals[0]?).map (·.type) = some 90 := by kernel_rfl
theorem gErrType1 : (Tryd.prog.globals[1]?).map (·.type) = some 90 := by kernel_rfl
theorem gErrType2 : (Tryd.prog.globals[2]?).map (·.type) = some 90 := by kernel_rfl
theorem gErrType3 : (Tryd.prog.globals[3]?).map (·.type) = some 90 := by kernel_rfl
theorem gErrType5 : (Tryd.prog.globals[5]?).map (·.type) = some 90 := by kernel_rfl

theorem sent_of {W : World} {name : String} {g : Nat} {text : List UInt8} {cs : Array Value} {fuel : Nat} {p : List MemPlace} {ps : List MemPlace} (hg : Tryd.prog.globalNamed name = some g) (hv : W.var? Tryd.prog name = some cs)
    (hd : DataW.trod (fun _ => ()) Tryd.prog W 0 (fun _ => true) false fuel 90 cs.toList = some (.iface "*errors.errorString" (.ptr (.agg [.lit (.string text)])), p))
    (hrows : ∀ b off, MemPlace.cell b off ∈ ps → (∃ c t, W.heap[b]? = some (.cells c t (0, 0))) ∧ ∀ u v, W.cell? ⟨b, off, none⟩ = some (.iface u v) → Value.okWide Tryd.prog W .any 0 u v) (hm : ∀ x, x ∈ MemPlace.row ⟨g, 0, none⟩ cs.size ++ p → x ∈ ps) :
    ∃ a s, W.cell? ⟨g, 0, none⟩ = some (.iface 133 (.pointer (some a))) ∧ W.cell? a = some (.string s) ∧ s.data.toList = text ∧ ∃ c t, W.heap[a.block]? = some (.cells c t (0, 0)) := by
  obtain ⟨l⟩ := cs
  have ok : ∀ u v, l = [.iface u v] → Value.okWide Tryd.prog W .any 0 u v := fun u v e => by
    subst e
    exact (hrows g 0 (hm _ (by simp [MemPlace.row]))).2 u v (by simpa using World.var?_cell hg hv 0)
  obtain ⟨a, s, rfl, hc, hs, hz, rfl⟩ := errorString_of_trod Tryd.underlying90 row133 Tryd.underlying133 Tryd.underlying150 rfl rfl Tryd.underlying9 cells150 cells9 hd ok
  exact ⟨a, s, by simpa using World.var?_cell hg hv 0, hc, hs, (hrows a.block a.off (hm _ (by simp [MemPlace.row]))).1⟩

abbrev sixLaid : List (String × DataW Unit) := [("loop.example/g00373/impl.opForms", Rows.laid_loop_example_g00373_impl_opForms), ("loop.example/g00373/impl.errShape", Rows.laid_loop_example_g00373_impl_errShape), ("loop.example/g00373/impl.errStack", Rows.laid_loop_example_g00373_impl_errStack), ("loop.example/g00373/impl.errRest", Rows.laid_loop_example_g00373_impl_errRest), ("loop.example/g00373/impl.errDeep", Rows.laid_loop_example_g00373_impl_errDeep), ("loop.example/g00373/impl.errTrap", Rows.laid_loop_example_g00373_impl_errTrap)]
theorem six_of_laid {W : World} (h : laidMet Tryd.prog sixLaid W) : Tab W ∧ (∃ S, Errs W S) ∧ ∃ u pv, 5 < W.heap.size ∧ W.cell? ⟨5, 0, none⟩ = some (.iface u pv) := by
  obtain ⟨ps, ⟨g0, t0, cs0, f0, p0, q0, hg0, ht0, hv0, hd0, ⟨g1, t1, cs1, f1, p1, q1, hg1, ht1, hv1, hd1, ⟨g2, t2, cs2, f2, p2, q2, hg2, ht2, hv2, hd2, ⟨g3, t3, cs3, f3, p3, q3, hg3, ht3, hv3, hd3, ⟨g4, t4, cs4, f4, p4, q4, hg4, ht4, hv4, hd4, ⟨g5, t5, cs5, f5, p5, q5, hg5, ht5, hv5, hd5, _, e5⟩, e4⟩, e3⟩, e2⟩, e1⟩, e0⟩, hnd, hrows⟩ := h
  obtain rfl := Option.some.inj (gForms.symm.trans hg0)
  obtain rfl := Option.some.inj (gFormsType.symm.trans ht0)
  obtain rfl := Option.some.inj (gShape.symm.trans hg1)
  obtain rfl := Option.some.inj (gStack.symm.trans hg2)
  obtain rfl := Option.some.inj (gRest.symm.trans hg3)
  obtain rfl := Option.some.inj (gDeep.symm.trans hg4)
  obtain rfl := Option.some.inj (gTrap.symm.trans hg5)
  obtain rfl := Option.some.inj (gErrType0.symm.trans ht1)
  obtain rfl := Option.some.inj (gErrType2.symm.trans ht2)
  obtain rfl := Option.some.inj (gErrType1.symm.trans ht3)
  obtain rfl := Option.some.inj (gErrType3.symm.trans ht4)
  obtain rfl := Option.some.inj (gErrType5.symm.trans ht5)
  have kk : ∀ x, x ∈ q4 → x ∈ ps := fun x hx => by rw [e0, e1, e2, e3, e4]; simp only [List.mem_append]; exact .inr (.inr (.inr (.inr (.inr hx))))
  obtain ⟨a6, s6, c6, _⟩ := sent_of gTrap hv5 hd5 hrows (fun x hx => kk x (by rw [e5]; exact List.mem_append_left _ hx))
  refine ⟨tab_of_var hv0 hd0, ?_, _, _, World.block_lt_of_cell? W _ c6, c6⟩
  have k0 : ∀ x, x ∈ q0 → x ∈ ps := fun x hx => by rw [e0]; exact List.mem_append_right _ hx
  have k1 : ∀ x, x ∈ q1 → x ∈ ps := fun x hx => k0 x (by rw [e1]; exact List.mem_append_right _ hx)
  have k2 : ∀ x, x ∈ q2 → x ∈ ps := fun x hx => k1 x (by rw [e2]; exact List.mem_append_right _ hx)
  have k3 : ∀ x, x ∈ q3 → x ∈ ps := fun x hx => k2 x (by rw [e3]; exact List.mem_append_right _ hx)
  obtain ⟨a1, s1, c1, d1, x1, b1⟩ := sent_of gShape hv1 hd1 hrows (fun x hx => k0 x (by rw [e1]; exact List.mem_append_left _ hx))
  obtain ⟨a2, s2, c2, d2, x2, b2⟩ := sent_of gStack hv2 hd2 hrows (fun x hx => k1 x (by rw [e2]; exact List.mem_append_left _ hx))
  obtain ⟨a3, s3, c3, d3, x3, b3⟩ := sent_of gRest hv3 hd3 hrows (fun x hx => k2 x (by rw [e3]; exact List.mem_append_left _ hx))
  obtain ⟨a4, s4, c4, d4, x4, b4⟩ := sent_of gDeep hv4 hd4 hrows (fun x hx => k3 x (by rw [e4]; exact List.mem_append_left _ hx))
  have ne : ∀ {a b : Addr} {s t : ByteArray} {x y : List UInt8}, W.cell? a = some (.string s) → W.cell? b = some (.string t) → s.data.toList = x → t.data.toList = y → x ≠ y → a ≠ b := by
    rintro a b s t x y h1 h2 rfl rfl hn rfl
    rw [h1] at h2
    cases h2
    exact hn rfl
  have n12 := ne d1 d2 x1 x2 (by decide)
  have n13 := ne d1 d3 x1 x3 (by decide)
  have n14 := ne d1 d4 x1 x4 (by decide)
  have n23 := ne d2 d3 x2 x3 (by decide)
  have n24 := ne d2 d4 x2 x4 (by decide)
  have n34 := ne d3 d4 x3 x4 (by decide)
  refine ⟨fun k => if k = 1 then a1 else if k = 2 then a2 else if k = 3 then a3 else a4, ?_, ?_, ?_⟩
  · intro k h1 h4
    have : k = 1 ∨ k = 2 ∨ k = 3 ∨ k = 4 := by omega
    rcases this with rfl | rfl | rfl | rfl
    · exact c1
    · exact c2
    · exact c3
    · exact c4
  · intro k h1 h4
    have : k = 1 ∨ k = 2 ∨ k = 3 ∨ k = 4 := by omega
    rcases this with rfl | rfl | rfl | rfl
    · exact b1
    · exact b2
    · exact b3
    · exact b4
  · intro i j i1 i4 j1 j4 he
    have hi : i = 1 ∨ i = 2 ∨ i = 3 ∨ i = 4 := by omega
    have hj : j = 1 ∨ j = 2 ∨ j = 3 ∨ j = 4 := by omega
    rcases hi with rfl | rfl | rfl | rfl <;> rcases hj with rfl | rfl | rfl | rfl <;> first | rfl | exact absurd he n12 | exact absurd he n13 | exact absurd he n14 | exact absurd he n23 | exact absurd he n24 | exact absurd he n34 | exact absurd he.symm n12 | exact absurd he.symm n13 | exact absurd he.symm n14 | exact absurd he.symm n23 | exact absurd he.symm n24 | exact absurd he.symm n34

theorem vars6 {H : Type} {enc : TypeId × Value → H} {W : World} {sp : Nat → Bool} {n1 n2 n3 n4 n5 n6 : String} {gs : List (DataW H)} {q : List MemPlace} (h : DataW.TrodVars enc Tryd.prog W sp [n1, n2, n3, n4, n5, n6] gs q) : ∃ g1 g2 g3 g4 g5 g6, gs = [g1, g2, g3, g4, g5, g6] := by
  match gs, h with
  | [], h => exact h.elim
  | [_], ⟨_, _, _, _, _, _, _, _, _, _, h, _⟩ => exact h.elim
  | [_, _], ⟨_, _, _, _, _, _, _, _, _, _, ⟨_, _, _, _, _, _, _, _, _, _, h, _⟩, _⟩ => exact h.elim
  | [_, _, _], ⟨_, _, _, _, _, _, _, _, _, _, ⟨_, _, _, _, _, _, _, _, _, _, ⟨_, _, _, _, _, _, _, _, _, _, h, _⟩, _⟩, _⟩ => exact h.elim
  | [_, _, _, _], ⟨_, _, _, _, _, _, _, _, _, _, ⟨_, _, _, _, _, _, _, _, _, _, ⟨_, _, _, _, _, _, _, _, _, _, ⟨_, _, _, _, _, _, _, _, _, _, h, _⟩, _⟩, _⟩, _⟩ => exact h.elim
  | [_, _, _, _, _], ⟨_, _, _, _, _, _, _, _, _, _, ⟨_, _, _, _, _, _, _, _, _, _, ⟨_, _, _, _, _, _, _, _, _, _, ⟨_, _, _, _, _, _, _, _, _, _, ⟨_, _, _, _, _, _, _, _, _, _, h, _⟩, _⟩, _⟩, _⟩, _⟩ => exact h.elim
  | [g1, g2, g3, g4, g5, g6], _ => exact ⟨g1, g2, g3, g4, g5, g6, rfl⟩
  | _ :: _ :: _ :: _ :: _ :: _ :: _ :: _, ⟨_, _, _, _, _, _, _, _, _, _, ⟨_, _, _, _, _, _, _, _, _, _, ⟨_, _, _, _, _, _, _, _, _, _, ⟨_, _, _, _, _, _, _, _, _, _, ⟨_, _, _, _, _, _, _, _, _, _, ⟨_, _, _, _, _, _, _, _, _, _, h, _⟩, _⟩, _⟩, _⟩, _⟩, _⟩ => exact h.elim
theorem state_of_arg {H : Type} {enc : TypeId × Value → H} {w : World} {base : Nat} {held : Bool} {v : Value} {d : DataW H} {p : List MemPlace} (h : DataW.Trod enc Tryd.prog w base (fun _ => true) held 25 v d p) (hv : ∃ cs, v = .agg cs ∧ cs.size = Tryd.prog.cellsOf 25) :
    ∃ (a1 a2 a3 : Option Addr) (c1 c2 c3 : Nat) (xs ys zs : List Int), v = .agg #[.slice a1 xs.length c1, .slice a2 ys.length c2, .slice a3 zs.length c3] ∧ SRow w a1 a2 a3 xs ys zs ∧ xs.length ≤ 9223372036854775807 ∧ ys.length ≤ 9223372036854775807 ∧ zs.length ≤ 9223372036854775807 := by
  obtain ⟨cs, rfl, hs⟩ := hv
  obtain ⟨fuel, hf⟩ := h
  obtain ⟨gs, k, hk, hxy, hlen, hxl, hf⟩ := DataW.trod_struct Tryd.underlying25 hf
  have hcs : (Value.agg cs).cells.toList = cs.toList := by simp [Value.cells]
  rw [hcs] at hlen hf
  rw [cells25] at hlen
  obtain ⟨l⟩ := cs
  simp only [] at hlen hf
  match gs, hxl, l, hlen with
  | [y0, y1, y2], _, [v0, v1, v2], _ =>
    have g0 := hf 0 _ rfl
    have g1 := hf 1 _ rfl
    have g2 := hf 2 _ rfl
    simp [cells23] at g0 g1 g2
    obtain ⟨a1, xs, c1, e0, r0, l0⟩ := row_of_trod g0
    obtain ⟨a2, ys, c2, e1, r1, l1⟩ := row_of_trod g1
    obtain ⟨a3, zs, c3, e2, r2, l2⟩ := row_of_trod g2
    subst e0 e1 e2
    exact ⟨a1, a2, a3, c1, c2, c3, xs, ys, zs, rfl, ⟨r0, r1, r2⟩, l0, l1, l2⟩
theorem six_of_laidH {W : World} (h : laidMetH Tryd.prog sixLaid W) : Tab W ∧ (∃ S, Errs W S) ∧ ∃ u pv, 5 < W.heap.size ∧ W.cell? ⟨5, 0, none⟩ = some (.iface u pv) := six_of_laid h
end
end Go.Proofs.YthkkhinmdlmhkaaDoor
