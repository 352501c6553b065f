/- Whether loops are those of a graph: the model and the program. -/
import Derived.Test.YtiadmmnnbnamjaaGreatIloops8
import Derived.Deep.QuietTactic
import Derived.BigQuiet
import Derived.Deep.RegionHeld
import Derived.Test.YtiadmmnnbnamjaaGreatQ7
import Derived.Test.YtiadmmnnbnamjaaGreatQ8
import Derived.Test.YtiadmmnnbnamjaaGreatDrawQ
namespace Go.Proofs.YtiadmmnnbnamjaaGreat
section
open Go Go.RowKit
set_option linter.unusedVariables false
set_option linter.unusedSimpArgs false
set_option maxRecDepth 100000

theorem Row.val {w : World} {a : Option Addr} {xs : List Int} (h : Row w a xs) (hx : xs ≠ []) : ∃ b off, a = some ⟨b, off, none⟩ ∧ ∀ i x, xs[i]? = some x → w.cell? ⟨b, off + i, none⟩ = some (.int .i64 x) := by
  rcases h with h | ⟨b, off, rfl, hc⟩
  · exact absurd h hx
  · refine ⟨b, off, rfl, fun i x hi => ?_⟩
    rw [hc i (List.getElem?_eq_some_iff.1 hi).1, hi]; rfl
theorem take_eq_succ {α : Type} {xs ys : List α} {k : Nat} {x : α} (h : xs.take k = ys.take k) (hx : xs[k]? = some x) (hy : ys[k]? = some x) : xs.take (k + 1) = ys.take (k + 1) := by
  rw [List.take_add_one, List.take_add_one, h, hx, hy]
theorem ne_at {α : Type} {xs ys : List α} {k : Nat} {x y : α} (hx : xs[k]? = some x) (hy : ys[k]? = some y) (h : x ≠ y) : xs ≠ ys := fun e => by
  subst e
  rw [hx] at hy
  exact h (Option.some.inj hy)
set_option maxHeartbeats 1000000 in
theorem same30_any (a b : Option Addr) (c d : Nat) (xs ys : List Int) (w : World) (hl : xs.length ≤ 9223372036854775807) (hl' : ys.length ≤ 9223372036854775807) (h : Row w a xs) (h' : Row w b ys) :
    Calls Tryz.prog 42 #[.slice a xs.length c, .slice b ys.length d] w fun e w' => e = .returned (.bool (decide (xs = ys))) ∧ ∃ q, w' = w.drewN q := by
  by_cases hln : xs.length = ys.length
  · by_cases hx : xs = []
    · subst hx
      obtain rfl : ys = [] := List.eq_nil_of_length_eq_zero hln.symm
      clear h h'
      go_enter Tryz.func42, Tryz.ntmps42
      go_wp2
      go_loopw [13] (fun t wr => t = .int .i64 0 ∧ wr = w) (fun t _ => 0)
      case atStart => exact ⟨rfl, rfl⟩
      case round =>
        obtain ⟨rfl, rfl⟩ := hrel
        go_wp2
        go_ret
        exact ⟨by simp, 0, rfl⟩
    · have hy : ys ≠ [] := fun e => hx (List.eq_nil_of_length_eq_zero (by rw [hln, e]; rfl))
      obtain ⟨b1, o1, rfl, hc⟩ := h.val hx
      obtain ⟨b2, o2, rfl, hc'⟩ := h'.val hy
      have HC := hid hc
      have HC' := hid hc'
      have HLN := hid hln
      rw [← hln]
      clear hc hc' hx hy h h' hln hl'
      go_enter Tryz.func42, Tryz.ntmps42
      go_wp2
      go_loopw [13] (fun t wr => ∃ (k q : Nat), t = .int .i64 k ∧ k ≤ xs.length ∧ Hid (xs.take k = ys.take k) ∧ wr = w.drewN q) (fun t _ => xs.length - (intOf t).toNat)
      case atStart => exact ⟨0, 0, rfl, by omega, hid (by simp), rfl⟩
      case round =>
        obtain ⟨k, q, rfl, hk, HT, rfl⟩ := hrel
        by_cases hlt : k < xs.length
        · obtain ⟨x, hx⟩ : ∃ x, xs[k]? = some x := ⟨_, List.getElem?_eq_getElem hlt⟩
          obtain ⟨y, hy⟩ : ∃ y, ys[k]? = some y := ⟨_, List.getElem?_eq_getElem (by have := HLN.out; omega)⟩
          have c1 : w.cell? ⟨b1, o1 + k, none⟩ = some (.int .i64 x) := HC.out k x hx
          have c2 : w.cell? ⟨b2, o2 + k, none⟩ = some (.int .i64 y) := HC'.out k y hy
          have HX := hid (And.intro hx hy)
          clear hx hy
          by_cases e : x = y
          · subst e
            go_wp2
            go_quiet (fail)
            go_wp2
            go_roundw
            case rel => exact ⟨k + 1, q + nq, by go_num, by omega, hid (take_eq_succ HT.out HX.out.1 HX.out.2), by simp⟩
            case measure => simp [intOf]; omega
          · go_wp2
            go_quiet (fail)
            go_wp2
            go_ret
            exact ⟨ret_bool (decide_eq_false (ne_at HX.out.1 HX.out.2 e)).symm, q + nq, by simp⟩
        · obtain rfl : k = xs.length := by omega
          go_wp2
          go_ret
          exact ⟨ret_bool (decide_eq_true (by have := HT.out; rw [List.take_of_length_le (Nat.le_refl _), HLN.out, List.take_of_length_le (Nat.le_refl _)] at this; exact this)).symm, q, rfl⟩
  · have hne : ¬ (xs.length : Int) = (ys.length : Int) := by omega
    have HF : Hid (decide (xs = ys) = false) := decide_eq_false fun e => hln (by rw [e])
    clear h h'
    go_enter Tryz.func42, Tryz.ntmps42
    go_wp2
    go_ret
    exact ⟨ret_bool HF.out.symm, 0, rfl⟩
set_option maxHeartbeats 1000000 in
theorem same55_any (a b : Option Addr) (c d : Nat) (xs ys : List Int) (w : World) (hl : xs.length ≤ 9223372036854775807) (hl' : ys.length ≤ 9223372036854775807) (h : Row w a xs) (h' : Row w b ys) :
    Calls Tryz.prog 66 #[.slice a xs.length c, .slice b ys.length d] w fun e w' => e = .returned (.bool (decide (xs = ys))) ∧ ∃ q, w' = w.drewN q := by
  by_cases hln : xs.length = ys.length
  · by_cases hx : xs = []
    · subst hx
      obtain rfl : ys = [] := List.eq_nil_of_length_eq_zero hln.symm
      clear h h'
      go_enter Tryz.func66, Tryz.ntmps66
      go_wp2
      go_loopw [13] (fun t wr => t = .int .i64 0 ∧ wr = w) (fun t _ => 0)
      case atStart => exact ⟨rfl, rfl⟩
      case round =>
        obtain ⟨rfl, rfl⟩ := hrel
        go_wp2
        go_ret
        exact ⟨by simp, 0, rfl⟩
    · have hy : ys ≠ [] := fun e => hx (List.eq_nil_of_length_eq_zero (by rw [hln, e]; rfl))
      obtain ⟨b1, o1, rfl, hc⟩ := h.val hx
      obtain ⟨b2, o2, rfl, hc'⟩ := h'.val hy
      have HC := hid hc
      have HC' := hid hc'
      have HLN := hid hln
      rw [← hln]
      clear hc hc' hx hy h h' hln hl'
      go_enter Tryz.func66, Tryz.ntmps66
      go_wp2
      go_loopw [13] (fun t wr => ∃ (k q : Nat), t = .int .i64 k ∧ k ≤ xs.length ∧ Hid (xs.take k = ys.take k) ∧ wr = w.drewN q) (fun t _ => xs.length - (intOf t).toNat)
      case atStart => exact ⟨0, 0, rfl, by omega, hid (by simp), rfl⟩
      case round =>
        obtain ⟨k, q, rfl, hk, HT, rfl⟩ := hrel
        by_cases hlt : k < xs.length
        · obtain ⟨x, hx⟩ : ∃ x, xs[k]? = some x := ⟨_, List.getElem?_eq_getElem hlt⟩
          obtain ⟨y, hy⟩ : ∃ y, ys[k]? = some y := ⟨_, List.getElem?_eq_getElem (by have := HLN.out; omega)⟩
          have c1 : w.cell? ⟨b1, o1 + k, none⟩ = some (.int .i64 x) := HC.out k x hx
          have c2 : w.cell? ⟨b2, o2 + k, none⟩ = some (.int .i64 y) := HC'.out k y hy
          have HX := hid (And.intro hx hy)
          clear hx hy
          by_cases e : x = y
          · subst e
            go_wp2
            go_quiet (fail)
            go_wp2
            go_roundw
            case rel => exact ⟨k + 1, q + nq, by go_num, by omega, hid (take_eq_succ HT.out HX.out.1 HX.out.2), by simp⟩
            case measure => simp [intOf]; omega
          · go_wp2
            go_quiet (fail)
            go_wp2
            go_ret
            exact ⟨ret_bool (decide_eq_false (ne_at HX.out.1 HX.out.2 e)).symm, q + nq, by simp⟩
        · obtain rfl : k = xs.length := by omega
          go_wp2
          go_ret
          exact ⟨ret_bool (decide_eq_true (by have := HT.out; rw [List.take_of_length_le (Nat.le_refl _), HLN.out, List.take_of_length_le (Nat.le_refl _)] at this; exact this)).symm, q, rfl⟩
  · have hne : ¬ (xs.length : Int) = (ys.length : Int) := by omega
    have HF : Hid (decide (xs = ys) = false) := decide_eq_false fun e => hln (by rw [e])
    clear h h'
    go_enter Tryz.func66, Tryz.ntmps66
    go_wp2
    go_ret
    exact ⟨ret_bool HF.out.symm, 0, rfl⟩

theorem sameLoop_any (p n p' n' : Int) (t t' : List Int) (ta ta' : Option Addr) (tc tc' : Nat) (w : World) (hl : t.length ≤ 9223372036854775807) (hl' : t'.length ≤ 9223372036854775807) (h : Row w ta t) (h' : Row w ta' t') :
    Calls Tryz.prog 32 #[.agg #[.int .i64 p, .slice ta t.length tc, .int .i64 n], .agg #[.int .i64 p', .slice ta' t'.length tc', .int .i64 n']] w fun e w' => e = .returned (.bool (decide (((p, n, t) : Lop) = (p', n', t')))) ∧ Below w.heap.size w w' := by
  obtain ⟨A, hA⟩ : ∃ A, (w.alloc (.cells #[.int .i64 p, .slice ta t.length tc, .int .i64 n] 37)).alloc (.cells #[.int .i64 p', .slice ta' t'.length tc', .int .i64 n'] 37) = A := ⟨_, rfl⟩
  have bA : Below w.heap.size w A := by rw [← hA]; exact below2 _ _ _
  have HS := hid (same55_any ta ta' tc tc' t t' A hl hl' (h.below bA) (h'.below bA))
  clear h h'
  by_cases e1 : p = p'
  · subst e1
    by_cases e2 : n = n'
    · subst e2
      have e3 : decide (((p, n, t) : Lop) = (p, n, t')) = decide (t = t') := by simp
      rw [e3]
      obtain ⟨R, hR⟩ : ∃ R, decide (t = t') = R := ⟨_, rfl⟩
      rw [hR] at HS ⊢
      clear e3 hR
      rw [← hA] at HS bA
      clear hA
      go_enter Tryz.func32, Tryz.ntmps32
      go_wp2_with fail
      refine HS.out.mono ?_
      rintro e w1 ⟨rfl, q, rfl⟩
      go_wp2
      go_ret
      exact ⟨rfl, below_drewN bA q⟩
    · have e3 : decide (((p, n, t) : Lop) = (p, n', t')) = false := by simp [e2]
      rw [e3]
      rw [← hA] at bA
      clear hA HS e3
      have d2 : (n == n') = false := by simp [e2]
      go_enter Tryz.func32, Tryz.ntmps32
      go_wp2
      go_ret
      exact ⟨rfl, bA⟩
  · have e3 : decide (((p, n, t) : Lop) = (p', n', t')) = false := by simp [e1]
    rw [e3]
    rw [← hA] at bA
    clear hA HS e3
    have d1 : (p == p') = false := by simp [e1]
    go_enter Tryz.func32, Tryz.ntmps32
    go_wp2
    go_ret
    exact ⟨rfl, bA⟩
theorem QRow.get {w : World} {a : Option Addr} {xs : List Lop} (h : QRow w a xs) (hx : xs ≠ []) : ∃ b off, a = some ⟨b, off, none⟩ ∧ ∀ w', Below w.heap.size w w' → ∀ k, k < xs.length → ∃ p n t ta tc, w'.cell? ⟨b, off + k * 3, none⟩ = some (.int .i64 p) ∧ w'.cell? ⟨b, off + k * 3 + 1, none⟩ = some (.slice ta t.length tc) ∧ w'.cell? ⟨b, off + k * 3 + 2, none⟩ = some (.int .i64 n) ∧ b < w.heap.size ∧ t.length ≤ 9223372036854775807 ∧ Hid (Row w ta t) ∧ Hid (xs[k]? = some (p, n, t)) := h.at hx
set_option maxHeartbeats 2000000 in
theorem equalFunc_any (a a' : Option Addr) (c c' : Nat) (xs ys : List Lop) (w : World) (hl : xs.length ≤ 9223372036854775807) (hl' : ys.length ≤ 9223372036854775807) (h : QRow w a xs) (h' : QRow w a' ys) :
    Calls Tryz.prog 31 #[.slice a xs.length c, .slice a' ys.length c', .func (.func 32) #[] #[]] w fun e w' => e = .returned (.bool (decide (xs = ys))) ∧ Below w.heap.size w w' := by
  by_cases hln : xs.length = ys.length
  · by_cases hx : xs = []
    · subst hx
      obtain rfl : ys = [] := List.eq_nil_of_length_eq_zero hln.symm
      clear h h'
      go_enter Tryz.func31, Tryz.ntmps31
      go_wp2
      go_loopw [17] (fun t wr => t = .int .i64 0 ∧ wr = w) (fun t _ => 0)
      case atStart => exact ⟨rfl, rfl⟩
      case round =>
        obtain ⟨rfl, rfl⟩ := hrel
        go_wp2
        go_ret
        exact ⟨by simp, Below.refl _ _⟩
    · have hy : ys ≠ [] := fun e => hx (List.eq_nil_of_length_eq_zero (by rw [hln, e]; rfl))
      obtain ⟨b, off, rfl, hat⟩ := h.at hx
      have HA := hid hat
      obtain ⟨b', off', rfl, hat'⟩ := h'.at hy
      have HA' := hid hat'
      rw [← hln]
      have HLN := hid hln
      clear hat hat' hx hy h h' hln hl'
      go_enter Tryz.func31, Tryz.ntmps31
      go_wp2
      go_loopw [17] (fun t wr => ∃ (k : Nat), t = .int .i64 k ∧ k ≤ xs.length ∧ Hid (xs.take k = ys.take k) ∧ Below w.heap.size w wr) (fun t _ => xs.length - (intOf t).toNat)
      case atStart => exact ⟨0, rfl, by omega, hid (by simp), Below.refl _ _⟩
      case round =>
        obtain ⟨k, rfl, hk, HT, hB⟩ := hrel
        by_cases hlt : k < xs.length
        · obtain ⟨p, n, t, ta, tc, c1, c2, c3, hbw, hs, HR, HX⟩ := HA.out wr hB k hlt
          obtain ⟨p', n', t', ta', tc', d1, d2, d3, hbw', hs', HR', HX'⟩ := HA'.out wr hB k (by have := HLN.out; omega)
          obtain ⟨A, hA⟩ : ∃ A, (wr.alloc (.cells #[.int .i64 p, .slice ta t.length tc, .int .i64 n] 37)).alloc (.cells #[.int .i64 p', .slice ta' t'.length tc', .int .i64 n'] 37) = A := ⟨_, rfl⟩
          have bA : Below wr.heap.size wr A := by rw [← hA]; exact below2 _ _ _
          have HS := hid (sameLoop_any p n p' n' t t' ta ta' tc tc' A hs hs' (HR.out.below (bstep' hB bA)) (HR'.out.below (bstep' hB bA)))
          have z1 : b < wr.heap.size := Nat.lt_of_lt_of_le hbw hB.size
          have z2 : b' < wr.heap.size := Nat.lt_of_lt_of_le hbw' hB.size
          rw [← hA] at HS bA
          clear hA hs hs'
          by_cases he : ((p, n, t) : Lop) = (p', n', t')
          · rw [decide_eq_true he] at HS
            have HE := hid he
            clear he
            go_wp2_with fail
            refine HS.out.mono ?_
            rintro e w1 ⟨rfl, hb1⟩
            have B1 := bstep' hB (bstep' bA hb1)
            clear hb1 bA HS
            go_wp2
            go_roundw
            case rel => exact ⟨k + 1, by go_num, by omega, hid (take_eq_succ HT.out HX.out (by rw [HX'.out, HE.out])), B1⟩
            case measure => simp [intOf]; omega
          · rw [decide_eq_false he] at HS
            have HE := hid he
            clear he
            go_wp2_with fail
            refine HS.out.mono ?_
            rintro e w1 ⟨rfl, hb1⟩
            have B1 := bstep' hB (bstep' bA hb1)
            clear hb1 bA HS
            go_wp2
            go_ret
            exact ⟨ret_bool (decide_eq_false (ne_at HX.out HX'.out HE.out)).symm, B1⟩
        · obtain rfl : k = xs.length := by omega
          go_wp2
          go_ret
          exact ⟨ret_bool (decide_eq_true (by have := HT.out; rw [List.take_of_length_le (Nat.le_refl _), HLN.out, List.take_of_length_le (Nat.le_refl _)] at this; exact this)).symm, hB⟩
  · have hne : ¬ (xs.length : Int) = (ys.length : Int) := by omega
    have HF : Hid (decide (xs = ys) = false) := decide_eq_false fun e => hln (by rw [e])
    clear h h'
    go_enter Tryz.func31, Tryz.ntmps31
    go_wp2
    go_ret
    exact ⟨ret_bool HF.out.symm, Below.refl _ _⟩
end

section
open Go Go.RowKit Go.ChangeShapes Go.WideShapes Go.Deep
set_option linter.unusedVariables false
set_option linter.unusedSimpArgs false
set_option maxRecDepth 100000

theorem loops_ans19 (xs : List (List Int)) (hl : xs.length ≤ 9223372036854775807) : ∃ yy b, AnsQ 30 6 xs yy b := by
  by_cases hG : GoodG xs
  · obtain ⟨g, rfl, Gg⟩ := hG.graph
    obtain ⟨D, hD⟩ := doms_are Gg
    by_cases hc : Cyc2 g D
    · refine ⟨[], false, by simp, by simp [sumQ], fun a c w h => ?_, fun a c w h => ?_⟩
      · rw [List.length_map]
        refine (sLoops_good Gg hD a c w h hG).mono ?_
        rintro e w' ⟨⟨_, he⟩ | ⟨hn, _⟩, hb⟩
        · exact qans_none he hb
        · exact absurd hc hn
      · rw [List.length_map]
        refine (iLoopsOf_good Gg hD a c w h hG).mono ?_
        rintro e w' ⟨⟨_, he⟩ | ⟨hn, _⟩, hb⟩
        · exact qans_none he hb
        · exact absurd hc hn
    · obtain ⟨L, hL⟩ := rings_is (D := D) Gg g.length
      have hf := lopsOf_few Gg hL
      refine ⟨lopsOf L, true, by omega, by omega, fun a c w h => ?_, fun a c w h => ?_⟩
      · rw [List.length_map]
        refine (sLoops_good Gg hD a c w h hG).mono ?_
        rintro e w' ⟨⟨hn, _⟩ | ⟨_, v, ys, he, ho, hla⟩, hb⟩
        · exact absurd hn hc
        · exact qans_of he ho.toQ (by rw [hla.lops, hla.rings.unique hL]) hb
      · rw [List.length_map]
        refine (iLoopsOf_good Gg hD a c w h hG).mono ?_
        rintro e w' ⟨⟨hn, _⟩ | ⟨_, v, ys, he, ho, hla⟩, hb⟩
        · exact absurd hn hc
        · exact qans_of he ho.toQ (by rw [hla.lops, hla.rings.unique hL]) hb
  · refine ⟨[], false, by simp, by simp [sumQ], fun a c w h => ?_, fun a c w h => ?_⟩
    · exact (sLoops_bad a c xs w hl h hG).mono fun e w' ⟨he, hb⟩ => qans_none he hb
    · exact (iLoopsOf_bad a c xs w hl h hG).mono fun e w' ⟨he, hb⟩ => qans_none he hb
theorem iGoodLoops_any {sp : Nat} {xs : List (List Int)} {yy : List Lop} {G : Bool} (hA : AnsQ sp 6 xs yy G) (ls : List Lop) (hl : ls.length ≤ 9223372036854775807) (a la : Option Addr) (c lc : Nat) (w : World) (h : LRow w a xs) (k : QRow w la ls) :
    Calls Tryz.prog 9 #[.agg #[.slice a xs.length c], .slice la ls.length lc] w fun e w' => e = .returned (.tuple #[.bool (G && decide (yy = ls)), .bool G]) ∧ Below w.heap.size w w' := by
  have hyl := hA.1
  have b0 := below1 w (.cells #[.slice a xs.length c] 25)
  have HI := hid (hA.2.2.2 a c (w.alloc (.cells #[.slice a xs.length c] 25)) (h.below b0))
  have HK := hid k
  clear h k hA
  cases G with
  | false =>
    go_enter Tryz.func9, Tryz.ntmps9
    go_wp2_with fail
    refine HI.out.mono ?_
    rintro e w1 ⟨va, vc, ys, rfl, ho, hy, hb1⟩
    have B1 := bstep' b0 hb1
    clear ho hy hb1 b0
    go_wp2
    go_ret2
    exact ⟨rfl, B1⟩
  | true =>
    go_enter Tryz.func9, Tryz.ntmps9
    go_wp2_with fail
    refine HI.out.mono ?_
    rintro e w1 ⟨va, vc, ys, rfl, ho, hy, hb1⟩
    have B1 := bstep' b0 hb1
    have HE := hid (equalFunc_any va la vc lc yy ls w1 (by omega) hl (own_qrow ho hy) (HK.out.below B1))
    clear ho hy hb1 b0
    go_wp2_with fail
    refine HE.out.mono ?_
    rintro e w2 ⟨rfl, hb2⟩
    have B2 := bstep' B1 hb2
    clear hb2
    go_wp2
    go_ret2
    exact ⟨by simp, B2⟩
set_option maxHeartbeats 4000000 in
theorem sGoodLoops_any {im : Nat} {xs : List (List Int)} {yy : List Lop} {G : Bool} (hA : AnsQ 30 im xs yy G) (ls : List Lop) (hl : ls.length ≤ 9223372036854775807) (a la : Option Addr) (c lc : Nat) (w : World) (h : LRow w a xs) (k : QRow w la ls) :
    Calls Tryz.prog 15 #[.agg #[.slice a xs.length c], .slice la ls.length lc] w fun e w' => e = .returned (.tuple #[.bool (G && decide (yy = ls)), .bool G]) ∧ Below w.heap.size w w' := by
  have hyl := hA.1
  have b0 := below1 w (.cells #[.slice a xs.length c] 25)
  have HI := hid (hA.2.2.1 a c (w.alloc (.cells #[.slice a xs.length c] 25)) (h.below b0))
  have HK := hid k
  clear h k hA
  cases G with
  | false =>
    go_enter Tryz.func15, Tryz.ntmps15
    go_wp2_with fail
    refine HI.out.mono ?_
    rintro e w1 ⟨va, vc, ys, rfl, ho, hy, hb1⟩
    have B1 := bstep' b0 hb1
    clear ho hy hb1 b0
    go_wp2
    go_ret2
    exact ⟨rfl, B1⟩
  | true =>
    by_cases hln : yy.length = ls.length
    · go_enter Tryz.func15, Tryz.ntmps15
      go_wp2_with fail
      refine HI.out.mono ?_
      rintro e w1 ⟨va, vc, ys, rfl, ho, hy, hb1⟩
      have B1 := bstep' b0 hb1
      have HQ := hid (And.intro (own_qrow ho hy) (HK.out.below B1))
      rw [← hln]
      have HLN := hid hln
      clear ho hy hb1 b0 hl hln
      go_wp2
      go_loopw [23] (fun t wr => ∃ (k : Nat), t = .int .i64 k ∧ k ≤ yy.length ∧ Hid (yy.take k = ls.take k) ∧ Below w1.heap.size w1 wr) (fun t _ => yy.length - (intOf t).toNat)
      case atStart => exact ⟨0, rfl, by omega, hid (by simp), Below.refl _ _⟩
      case round =>
        obtain ⟨k, rfl, hk, HT, hB⟩ := hrel
        by_cases hlt : k < yy.length
        · obtain ⟨b, off, rfl, hat⟩ := HQ.out.1.at (fun e => by subst e; simp at hlt)
          obtain ⟨b', off', rfl, hat'⟩ := HQ.out.2.at (fun e => by have := HLN.out; rw [e] at this; simp at this; rw [this] at hlt; simp at hlt)
          obtain ⟨p, n, t, ta, tc, c1, c2, c3, hbw, hs, HR, HX⟩ := hat wr hB k hlt
          obtain ⟨p', n', t', ta', tc', d1, d2, d3, hbw', hs', HR', HX'⟩ := hat' wr hB k (by have := HLN.out; omega)
          have HS := hid (fun q => same30_any ta ta' tc tc' t t' (wr.drewN q) hs hs' ((HR.out.below hB).drewN q) ((HR'.out.below hB).drewN q))
          clear hs hs' hat hat' hbw hbw'
          by_cases e1 : p = p'
          · subst e1
            by_cases e2 : n = n'
            · subst e2
              by_cases e3 : t = t'
              · rw [decide_eq_true e3] at HS
                have HE := hid e3
                clear e3
                go_wp2
                go_quiet (first | (go_at_call 42; refine Calls.quiet_of (HS.out _)))
                go_wp2
                go_roundw
                case rel => exact ⟨k + 1, by go_num, by omega, hid (take_eq_succ HT.out HX.out (by rw [HX'.out, HE.out])), below_drewN hB _⟩
                case measure => simp [intOf]; omega
              · rw [decide_eq_false e3] at HS
                have HE := hid e3
                clear e3
                go_wp2
                go_quiet (first | (go_at_call 42; refine Calls.quiet_of (HS.out _)))
                go_wp2
                go_ret2
                exact ⟨by rw [decide_eq_false (ne_at HX.out HX'.out (by simp [HE.out]))]; rfl, below_drewN (bstep' B1 hB) _⟩
            · have d2' : (n != n') = true := by simp [e2]
              go_wp2
              go_quiet (fail)
              go_wp2
              go_ret2
              exact ⟨by rw [decide_eq_false (ne_at HX.out HX'.out (by simp [e2]))]; rfl, below_drewN (bstep' B1 hB) _⟩
          · have d1' : (p != p') = true := by simp [e1]
            go_wp2
            go_quiet (fail)
            go_wp2
            go_ret2
            exact ⟨by rw [decide_eq_false (ne_at HX.out HX'.out (by simp [e1]))]; rfl, below_drewN (bstep' B1 hB) _⟩
        · obtain rfl : k = yy.length := by omega
          go_wp2
          go_ret2
          exact ⟨by rw [decide_eq_true (p := yy = ls) (by have := HT.out; rw [List.take_of_length_le (Nat.le_refl _), HLN.out, List.take_of_length_le (Nat.le_refl _)] at this; exact this)]; rfl, bstep' B1 hB⟩
    · have hne : ¬ (yy.length : Int) = (ls.length : Int) := by omega
      have HF : Hid (decide (yy = ls) = false) := decide_eq_false fun e => hln (by rw [e])
      go_enter Tryz.func15, Tryz.ntmps15
      go_wp2_with fail
      refine HI.out.mono ?_
      rintro e w1 ⟨va, vc, ys, rfl, ho, hy, hb1⟩
      have B1 := bstep' b0 hb1
      clear ho hy hb1 b0
      go_wp2
      go_ret2
      exact ⟨by rw [HF.out]; rfl, B1⟩
end

section
open Go.RowKit
set_option linter.unusedVariables false
set_option linter.unusedSimpArgs false
set_option maxRecDepth 100000

theorem GRow.cells {w : World} {a : Option Addr} {g : List (List Nat)} (h : LRow w a (natsL g)) (hp : 0 < g.length) : ∃ b off, a = some ⟨b, off, none⟩ ∧ ∀ k l, g[k]? = some l → ∃ ta tc, w.cell? ⟨b, off + k, none⟩ = some (.slice ta l.length tc) ∧ Row w ta (nats l) := by
  rcases h with h | ⟨b, off, rfl, hat⟩
  · exfalso
    have := congrArg List.length h
    simp [natsL] at this
    subst this
    simp at hp
  · refine ⟨b, off, rfl, fun k l hk => ?_⟩
    obtain ⟨ta, tc, _, hc, hr⟩ := hat k (nats l) (by simp [natsL, hk])
    rw [nats_length] at hc
    exact ⟨ta, tc, hc, hr⟩
theorem Row.cells {w : World} {a : Option Addr} {l : List Nat} (h : Row w a (nats l)) (hp : 0 < l.length) : ∃ b off, a = some ⟨b, off, none⟩ ∧ ∀ (k x : Nat), l[k]? = some x → w.cell? ⟨b, off + k, none⟩ = some (.int .i64 (x : Int)) := by
  rcases h with h | ⟨b, off, rfl, hat⟩
  · exfalso
    have := congrArg List.length h
    rw [nats_length] at this
    simp at this
    subst this
    simp at hp
  · refine ⟨b, off, rfl, fun k x hk => ?_⟩
    have hkl := (List.getElem?_eq_some_iff.1 hk).1
    rw [hat k (by rw [nats_length]; exact hkl)]
    simp [nats, hk]
theorem lopsOf_len (L : List (Nat × List Nat)) : (lopsOf L).length = L.length := by simp [lopsOf]
theorem lopsOf_at {L : List (Nat × List Nat)} {i : Nat} {x : Nat × List Nat} (h : L[i]? = some x) : (lopsOf L)[i]? = some ((x.1 : Int), upTo L i L.length, nats x.2) := by
  obtain ⟨h1, h2⟩ := List.getElem?_eq_some_iff.1 h
  subst h2
  simp [lopsOf, h1]
/-- the cells of one loop of a list of loops -/
theorem qrow_cells {w : World} {a : Option Addr} {L : List (Nat × List Nat)} (h : QRow w a (lopsOf L)) (hp : 0 < L.length) : ∃ b off, a = some ⟨b, off, none⟩ ∧ ∀ (k : Nat) (x : Nat × List Nat), L[k]? = some x → ∃ ta tc, w.cell? ⟨b, off + k * 3, none⟩ = some (.int .i64 (x.1 : Int)) ∧ w.cell? ⟨b, off + k * 3 + 1, none⟩ = some (.slice ta x.2.length tc) ∧ w.cell? ⟨b, off + k * 3 + 2, none⟩ = some (.int .i64 (upTo L k L.length)) ∧ Row w ta (nats x.2) := by
  obtain ⟨b, off, rfl, hat⟩ := h.at (by intro e; have := congrArg List.length e; rw [lopsOf_len] at this; simp at this; subst this; simp at hp)
  refine ⟨b, off, rfl, fun k x hk => ?_⟩
  have hkl := (List.getElem?_eq_some_iff.1 hk).1
  obtain ⟨p, n, t, ta, tc, c0, c1, c2, _, _, HR, HX⟩ := hat w (Below.refl _ _) k (by rw [lopsOf_len]; exact hkl)
  have e := HX.out.symm.trans (lopsOf_at hk)
  simp only [Option.some.injEq, Prod.mk.injEq] at e
  obtain ⟨rfl, rfl, rfl⟩ := e
  rw [nats_length] at c1
  exact ⟨ta, tc, c0, c1, c2, HR.out⟩
theorem cell_b {w w' : World} {b o : Nat} {v : Value} (h : w.cell? ⟨b, o, none⟩ = some v) (hb : Below w.heap.size w w') : w'.cell? ⟨b, o, none⟩ = some v := cell_below h hb
end
end Go.Proofs.YtiadmmnnbnamjaaGreat
