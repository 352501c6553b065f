/- Rules and texts as the model draws them: whatever the choices, they are few and short, and nothing else turns. -/
import Derived.Test.YtpjhmminbndgiaaPicks
namespace Go.Proofs.Ytpjhmminbndgiaa
open Go.RowKit
set_option linter.unusedVariables false
set_option linter.unusedSimpArgs false
set_option maxHeartbeats 8000000
set_option maxRecDepth 100000

theorem Cur.far {w w' : World} {n0 B K : Nat} (h : Cur w n0 B K) (hg : w.grownBy w' none) : Cur w' n0 B K := h.grown hg (fun r e => by cases e)
theorem Sep.far {w w' : World} {B0 B : Nat} {l : List OR} (h : Sep w B0 l) (hg : w.grownBy w' (some B)) (hB : B < B0) : Sep w' B0 l :=
  ⟨fun x hx => (h.1 x hx).kept hg (by
    cases e : x.v.ownBlock with
    | none => exact .inl rfl
    | some k =>
      right
      intro e2
      have := ((h.1 x hx).lt k e).1
      cases e2
      omega), h.2⟩
/-- one of a list of texts -/
theorem of_any (n0 B K b : Nat) (c : Nat) (ss : List ByteArray) (w : World) (h : Cur w n0 B K) (hK : K ≤ 900000) (hb : b ≠ B) (h1 : 1 ≤ ss.length) (h2 : ss.length ≤ 1000) (hc : ∀ (i : Nat) x, ss[i]? = some x → w.cell? ⟨b, i, none⟩ = some (.string x)) :
    Calls Try.prog 73 #[.pointer (some ⟨B, 0, none⟩), .slice (some ⟨b, 0, none⟩) ss.length c] w fun e w' => (∃ x, e = .returned (.string x) ∧ x ∈ ss) ∧ Cur w' n0 B (K + 2) ∧ w.grownBy w' (some B) := by
  have HC := hid hc
  clear hc
  go_enter Try.func73, Try.ntmps73
  go_wp2_with fail
  refine (pick_any n0 B K _ _ h hK (by omega) (by omega)).mono ?_
  rintro e w1 ⟨r, rfl, hr, hc1, hg1⟩
  obtain ⟨q, rfl⟩ : ∃ q : Nat, r = (q : Int) := ⟨r.toNat, by omega⟩
  have hq : q < ss.length := by omega
  obtain ⟨x, hx⟩ : ∃ x, ss[q]? = some x := ⟨_, List.getElem?_eq_getElem hq⟩
  have c1 : w1.cell? ⟨b, q, none⟩ = some (.string x) := hg1.cell (HC.out q x hx) (fun e => hb (Option.some.inj e))
  have c2 : w1.cell? ⟨b, 0 + q, none⟩ = some (.string x) := by rw [Nat.zero_add]; exact c1
  have HX := hid (List.mem_of_getElem? hx)
  clear hx
  go_wp2
  go_ret
  exact ⟨⟨x, rfl, HX.out⟩, hc1, hg1⟩
theorem five_at (w : World) (a b c d e : ByteArray) : ∀ (i : Nat) x, ([a, b, c, d, e] : List ByteArray)[i]? = some x → (w.alloc (.cells #[.string a, .string b, .string c, .string d, .string e] 9)).cell? ⟨w.heap.size, i, none⟩ = some (.string x) := by
  intro i x hi
  match i, hi with
  | 0, hi => simp at hi; subst hi; simp [go_sem]
  | 1, hi => simp at hi; subst hi; simp [go_sem]
  | 2, hi => simp at hi; subst hi; simp [go_sem]
  | 3, hi => simp at hi; subst hi; simp [go_sem]
  | 4, hi => simp at hi; subst hi; simp [go_sem]
  | i + 5, hi => simp at hi
theorem two_at (w : World) (a b : ByteArray) : ∀ (i : Nat) x, ([a, b] : List ByteArray)[i]? = some x → (w.alloc (.cells #[.string a, .string b] 9)).cell? ⟨w.heap.size, i, none⟩ = some (.string x) := by
  intro i x hi
  match i, hi with
  | 0, hi => simp at hi; subst hi; simp [go_sem]
  | 1, hi => simp at hi; subst hi; simp [go_sem]
  | i + 2, hi => simp at hi
/-- a text of few letters -/
theorem abText_any (n0 B K : Nat) (m : Nat) (w : World) (h : Cur w n0 B K) (hK : K ≤ 800000) (hm : m ≤ 12) :
    Calls Try.prog 62 #[.pointer (some ⟨B, 0, none⟩), .int .i64 m] w fun e w' => (∃ s : ByteArray, e = .returned (.string s) ∧ s.size ≤ m) ∧ Cur w' n0 B (K + 50) ∧ w.grownBy w' (some B) := by
  go_enter Try.func62, Try.ntmps62
  go_wp2_with fail
  refine (pick_any n0 B K _ _ h (by omega) (by omega) (by omega)).mono ?_
  rintro e w1 ⟨r, rfl, hr, hc1, hg1⟩
  obtain ⟨q, rfl⟩ : ∃ q : Nat, r = (q : Int) := ⟨r.toNat, by omega⟩
  have hqm : q ≤ m := by omega
  clear hr
  go_wp2
  go_loopw [5, 6] (fun t5 t6 wr => ∃ (j : Nat) (s : ByteArray), t6 = .int .i64 (j : Int) ∧ t5 = .string s ∧ j + s.size ≤ m ∧ Cur wr n0 B (K + 2 + 2 * s.size) ∧ w.grownBy wr (some B)) (fun _ t6 _ => (intOf t6).toNat)
  case atStart => exact ⟨q, ⟨#[]⟩, rfl, rfl, by show q + 0 ≤ m; omega, hc1, hg1⟩
  case round =>
    clear hc1 hg1
    obtain ⟨V0, rfl⟩ : ∃ V0, V0 = wr := ⟨_, rfl⟩
    obtain ⟨j, s, rfl, rfl, hjs, hC, hG⟩ := hrel
    by_cases hj : 0 < j
    · have hlt := hC.lt
      have hCa := hC.far (World.grownBy_alloc V0 (.cells #[.string ⟨#[97]⟩, .string ⟨#[98]⟩, .string ⟨#[97]⟩, .string ⟨#[98]⟩, .string ⟨#[99]⟩] 9) none)
      have CO := hid (of_any n0 B _ V0.heap.size 5 [⟨#[97]⟩, ⟨#[98]⟩, ⟨#[97]⟩, ⟨#[98]⟩, ⟨#[99]⟩] _ hCa (by omega) (by omega) (by simp) (by simp) (five_at V0 _ _ _ _ _))
      simp only [List.length_cons, List.length_nil, Nat.zero_add, Nat.reduceAdd] at CO
      have HG := hid hG
      clear hC hG hCa
      go_wp2_with fail
      refine CO.out.mono ?_
      rintro e w3 ⟨⟨x, rfl, hx⟩, hc3, hg3⟩
      have hx1 : x.size = 1 := by
        simp only [List.mem_cons, List.mem_nil_iff, or_false] at hx
        rcases hx with rfl | rfl | rfl | rfl | rfl <;> rfl
      have hsz : (s ++ x).size = s.size + 1 := by rw [Bt_size, Bt_append, List.length_append, ← Bt_size, ← Bt_size, hx1]
      have HC3 : Hid (Cur w3 n0 B (K + 2 + 2 * (s ++ x).size)) := by show Cur _ _ _ _; rw [hsz]; exact hc3
      have HG3 := hid (grownBy_trans (grownBy_trans HG.out (World.grownBy_alloc V0 _ (some B))) hg3)
      clear hx hc3 hg3
      go_wp2
      go_roundw
      case rel => exact ⟨j - 1, s ++ x, by go_num, rfl, by omega, HC3.out, HG3.out⟩
      case measure => simp [intOf]; omega
    · obtain rfl : j = 0 := by omega
      go_wp2
      go_ret
      exact ⟨⟨s, rfl, by omega⟩, hC.more (by omega), hG⟩
theorem word15_any (n0 B K : Nat) (w : World) (h : Cur w n0 B K) (hK : K ≤ 700000) :
    Calls Try.prog 56 #[.pointer (some ⟨B, 0, none⟩)] w fun e w' => (∃ s : ByteArray, e = .returned (.string s) ∧ s.size ≤ 100) ∧ Cur w' n0 B (K + 60) ∧ w.grownBy w' (some B) := by
  go_enter Try.func56, Try.ntmps56
  go_wp2_with fail
  refine (abText_any n0 B K 12 _ h (by omega) (by omega)).mono ?_
  rintro e w1 ⟨⟨s, rfl, hs⟩, hc1, hg1⟩
  go_wp2_with fail
  refine (one_any n0 B _ 20 _ hc1 (by omega) (by omega) (by omega)).mono ?_
  rintro e w2 ⟨r, rfl, hc2, hg2⟩
  have hG := grownBy_trans hg1 hg2
  cases r with
  | false =>
    go_wp2
    go_ret
    exact ⟨⟨s, rfl, by omega⟩, hc2.more (by omega), hG⟩
  | true =>
    have hlt := hc2.lt
    have hal : ∀ x : ByteArray, Cur (w2.alloc (.cells #[.string ⟨#[101]⟩, .string x] 9)) n0 B (K + 50 + 2) := fun x => hc2.far (World.grownBy_alloc w2 (.cells #[.string ⟨#[101]⟩, .string x] 9) none)
    have CO := hid (fun x : ByteArray => of_any n0 B _ w2.heap.size 2 [⟨#[101]⟩, x] _ (hal x) (by omega) (by omega) (by simp) (by simp) (two_at w2 _ _))
    simp only [List.length_cons, List.length_nil, Nat.zero_add, Nat.reduceAdd] at CO
    clear hal
    go_wp2_with fail
    refine (CO.out _).mono ?_
    rintro e w3 ⟨⟨x, rfl, hx⟩, hc3, hg3⟩
    have hx1 : x.size ≤ 40 := by
      simp only [List.mem_cons, List.mem_nil_iff, or_false] at hx
      rcases hx with rfl | rfl <;> decide
    have hsz : (s ++ x).size = s.size + x.size := by rw [Bt_size, Bt_append, List.length_append, ← Bt_size, ← Bt_size]
    have HG3 := hid (grownBy_trans (grownBy_trans hG (World.grownBy_alloc w2 _ (some B))) hg3)
    clear hx hg3
    go_wp2
    go_ret
    exact ⟨⟨s ++ x, rfl, by omega⟩, hc3.more (by omega), HG3.out⟩
end Go.Proofs.Ytpjhmminbndgiaa
