/- The edges that lead out of a loop: both sides. -/
import Derived.Test.YthcenlplfcbfjaaIexit8
import Derived.Test.YthcenlplfcbfjaaLawLLI
namespace Go.Proofs.Ythcenlplfcbfjaa
open Go Go.RowKit
set_option linter.unusedVariables false
set_option linter.unusedSimpArgs false
set_option maxRecDepth 100000

theorem filter_rising {S T : List Nat} (hS : S.Pairwise (· < ·)) (hT : T.Pairwise (· < ·)) (h : ∀ x ∈ S, x ∈ T) : T.filter (fun x => decide (x ∈ S)) = S := by
  refine rising_unique (List.Pairwise.filter _ hT) hS (fun x => ?_)
  rw [List.mem_filter, decide_eq_true_iff]
  exact ⟨fun h => h.2, fun hx => ⟨h x hx, hx⟩⟩
theorem flat_outs (g : List (List Nat)) (S : List Nat) : ∀ T : List Nat, (T.flatMap (edgesAt g)).filter (outB S) = (T.filter fun x => decide (x ∈ S)).flatMap (outAt g S)
  | [] => rfl
  | t :: T => by
    rw [List.flatMap_cons, List.filter_append, flat_outs g S T]
    have e : (edgesAt g t).filter (outB S) = if t ∈ S then outAt g S t else [] := by
      by_cases ht : t ∈ S
      · rw [if_pos ht]
        unfold outAt
        refine List.filter_congr fun e he => ?_
        unfold edgesAt at he
        obtain ⟨v, _, rfl⟩ := List.mem_map.1 he
        simp [outB, ht]
      · rw [if_neg ht]
        rw [List.filter_eq_nil_iff]
        intro e he
        unfold edgesAt at he
        obtain ⟨v, _, rfl⟩ := List.mem_map.1 he
        simp [outB, ht]
    rw [e]
    by_cases ht : t ∈ S
    · simp [ht]
    · simp [ht]
theorem exits_eq {g : List (List Nat)} (G : Gr g) {S : List Nat} (hS : S.Pairwise (· < ·)) (h : ∀ x ∈ S, Come g x) : (edgesL g).filter (outB S) = outOf g S S := by
  unfold edgesL outOf
  rw [flat_outs, filter_rising hS (setL_rising _) (fun x hx => (setL_mem _ _).2 ((order_come G x).2 (h x hx)))]
theorem iExits_not (a : Option Addr) (n c : Nat) (i : Int) (w : World) (HRO : ∀ W, Below w.heap.size w W → Calls Try.prog 62 #[.agg #[.slice a n c], .int .i64 i] W fun e w' => e = .returned (.tuple #[.agg #[.int .i64 0, .slice none 0 0], .bool false]) ∧ Below W.heap.size W w') :
    Calls Try.prog 31 #[.agg #[.slice a n c], .int .i64 i] w fun e w' => e = .returned (.tuple #[.slice none 0 0, .bool false]) ∧ Below w.heap.size w w' := by
  have b0 := below1 w (.cells #[.slice a n c] 28)
  have HB := hid HRO
  clear HRO
  go_enter Try.func31, Try.ntmps31
  go_wp2_with fail
  refine (HB.out _ b0).mono ?_
  rintro e w1 ⟨rfl, hb1⟩
  have B1 := bstep' b0 hb1
  have HB2 := hid (bstep' B1 (below1 w1 (.cells #[.int .i64 0, .slice none 0 0] 78)))
  clear hb1 b0 HB
  go_wp2
  go_ret2
  exact ⟨rfl, HB2.out⟩
theorem exits_ans (xs : List (List Int)) (i : Int) (hl : xs.length ≤ 9223372036854775807) : ∃ yy b, AnsLLI 30 31 i xs yy b := by
  classical
  by_cases hG : GoodG xs
  · obtain ⟨g, rfl, Gg⟩ := hG.graph
    obtain ⟨D, hD⟩ := doms_are Gg
    obtain ⟨L, hL⟩ := rings_is (D := D) Gg g.length
    have hLl : L.length ≤ 12 := by have := hL.le; have := Gg.most; omega
    have NO : (Cyc2 g D ∨ isNode i L.length = false) → ∃ yy b, AnsLLI 30 31 i (g.map nats) yy b := fun hc => by
      refine ⟨[], false, by simp, by simp [sumL], fun a c w h => ?_, fun a c w h => ?_⟩
      · rw [List.length_map]
        refine (sExits_good Gg hD hL i a c w h hG).mono ?_
        rintro e w' ⟨⟨_, rfl⟩ | ⟨hn, x, l, v, ys, rfl, hx, _⟩, hbl⟩
        · exact llans_none rfl hbl
        · rcases hc with hc | hc
          · exact absurd hc hn
          · have := (List.getElem?_eq_some_iff.1 hx).1
            unfold isNode at hc
            simp at hc
            omega
      · rw [List.length_map]
        refine (iExits_not a g.length c i w (fun W hb => ?_)).mono (fun e w' ⟨he, hbl⟩ => llans_none he hbl)
        by_cases hcy : Cyc2 g D
        · refine ringOf_no a g.length c 0 i W (by omega) (by unfold isNode; simp) (fun W' hb' => (ringsIn_good Gg a c W' (LRow.below h (bstep' hb hb')) hG).mono ?_)
          rintro e w' ⟨⟨D', hD', hc'⟩, hbl⟩
          rw [hD'.unique hD] at hc'
          rcases hc' with ⟨_, he⟩ | ⟨hn, _⟩
          · exact ⟨⟨_, none, 0, false, he, rfl⟩, hbl⟩
          · exact absurd hcy hn
        · have hn : isNode i L.length = false := hc.resolve_left hcy
          refine ringOf_no a g.length c L.length i W (by omega) hn (fun W' hb' => (ringsIn_good Gg a c W' (LRow.below h (bstep' hb hb')) hG).mono ?_)
          rintro e w' ⟨⟨D', hD', hc'⟩, hbl⟩
          rw [hD'.unique hD] at hc'
          rcases hc' with ⟨hn, _⟩ | ⟨_, v, ys, he, ho, hr⟩
          · exact absurd hn hcy
          · obtain ⟨va, vc, hv⟩ := ho.slice
            refine ⟨⟨v, va, vc, true, he, ?_⟩, hbl⟩
            rw [hv, ← hr.unique hL, loopsR_len]
    by_cases hc : Cyc2 g D
    · exact NO (.inl hc)
    · cases hn : isNode i L.length with
      | false => exact NO (.inr hn)
      | true =>
        obtain ⟨x, rfl, hx⟩ := isNode_nat hn
        obtain ⟨l, hlx⟩ : ∃ l, L[x]? = some l := ⟨_, List.getElem?_eq_getElem hx⟩
        have hm := hL.mem (List.mem_of_getElem? hlx)
        have hhc := isHead.come Gg hm.2.1
        have hsl : l.2.length ≤ 12 := hm.2.2.few Gg hhc
        have h1 := outOf_few Gg l.2 l.2
        have h2 := pairs_sum (outOf g l.2 l.2)
        refine ⟨pairsL (outOf g l.2 l.2), true, by simp [pairsL]; omega, by omega, fun a c w h => ?_, fun a c w h => ?_⟩
        · rw [List.length_map]
          refine (sExits_good Gg hD hL x a c w h hG).mono ?_
          rintro e w' ⟨⟨h3 | h3, _⟩ | ⟨_, x', l', v, ys, hx', hl', rfl, ho, hy⟩, hbl⟩
          · exact absurd h3 hc
          · rw [hn] at h3; cases h3
          · have : x = x' := by omega
            subst this
            rw [hlx] at hl'
            injection hl' with e
            subst e
            exact llans_of rfl ho hy hbl
        · rw [List.length_map]
          refine (iExits_yes Gg x l hm.2.2.1 hsl a c w h (fun W hb => ringOf_yes a g.length c L x l hlx (by omega) W (fun W' hb' => (ringsIn_good Gg a c W' (LRow.below h (bstep' hb hb')) hG).mono ?_))).mono ?_
          · rintro e w' ⟨⟨D', hD', hc'⟩, hbl⟩
            rw [hD'.unique hD] at hc'
            rcases hc' with ⟨hn, _⟩ | ⟨_, v, ys, he, ho, hr⟩
            · exact absurd hn hc
            · exact ⟨⟨v, ys, he, ho, hr.unique hL⟩, hbl⟩
          · rintro e w' ⟨v, ys, rfl, ho, hy, hb⟩
            rw [exits_eq Gg hm.2.2.1 (fun y hy => ((hm.2.2.2 y).1 hy).come Gg hhc)] at hy
            exact llans_of rfl ho hy hb
  · refine ⟨[], false, by simp, by simp [sumL], fun a c w h => ?_, fun a c w h => ?_⟩
    · exact (sExits_bad a c xs i w hl h hG).mono (fun e w' ⟨he, hb⟩ => llans_none he hb)
    · refine (iExits_not a xs.length c i w (fun W hb => ?_)).mono (fun e w' ⟨he, hb⟩ => llans_none he hb)
      refine ringOf_no a xs.length c 0 i W (by omega) (by unfold isNode; simp) (fun W' hb' => (ringsIn_bad a c xs W' hl (LRow.below h (bstep' hb hb')) hG).mono ?_)
      rintro e w' ⟨he, hbl⟩
      exact ⟨⟨_, none, 0, false, he, rfl⟩, hbl⟩
end Go.Proofs.Ythcenlplfcbfjaa

