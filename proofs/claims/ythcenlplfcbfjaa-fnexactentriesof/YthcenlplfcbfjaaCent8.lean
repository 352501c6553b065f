/- The nodes from which one comes into a loop: both sides. -/
import Derived.Test.YthcenlplfcbfjaaIent8
import Derived.Test.YthcenlplfcbfjaaLawIS
namespace Go.Proofs.Ythcenlplfcbfjaa
open Go Go.RowKit
set_option linter.unusedVariables false
set_option linter.unusedSimpArgs false
set_option maxRecDepth 100000

theorem iEntr_not (a : Option Addr) (n c : Nat) (i : Int) (w : World) (HRO : ∀ W, Below w.heap.size w W → Calls Try.prog 62 #[.agg #[.slice a n c], .int .i64 i] W fun e w' => e = .returned (.tuple #[.agg #[.int .i64 0, .slice none 0 0], .bool false]) ∧ Below W.heap.size W w') :
    Calls Try.prog 33 #[.agg #[.slice a n c], .int .i64 i] w fun e w' => e = .returned (.tuple #[.slice none 0 0, .bool false]) ∧ Below w.heap.size w w' := by
  have b0 := below1 w (.cells #[.slice a n c] 28)
  have HB := hid HRO
  clear HRO
  go_enter Try.func33, Try.ntmps33
  go_wp2_with fail
  refine (HB.out _ b0).mono ?_
  rintro e w1 ⟨rfl, hb1⟩
  have B1 := bstep' b0 hb1
  have HB2 := hid (bstep' B1 (below1 w1 (.cells #[.int .i64 0, .slice none 0 0] 78)))
  clear hb1 b0 HB
  go_wp2
  go_ret2
  exact ⟨rfl, HB2.out⟩
theorem entr_is {g : List (List Nat)} (G : Gr g) (l : Nat × List Nat) : ∃ T, IsEntr g l T := by
  classical
  refine ⟨(List.range g.length).filter fun x => decide (Lead g x l.1 ∧ x ∉ l.2), List.Pairwise.filter _ List.pairwise_lt_range, fun x => ?_⟩
  rw [List.mem_filter, List.mem_range, decide_eq_true_iff]
  exact ⟨fun h => h.2, fun h => ⟨RchW.lt G h.1.1, h⟩⟩
theorem entr_ans (xs : List (List Int)) (i : Int) (hl : xs.length ≤ 9223372036854775807) : ∃ ys b, AnsIS 32 33 i xs ys b := by
  classical
  by_cases hG : GoodG xs
  · obtain ⟨g, rfl, Gg⟩ := hG.graph
    obtain ⟨D, hD⟩ := doms_are Gg
    obtain ⟨L, hL⟩ := rings_is (D := D) Gg g.length
    have hLl : L.length ≤ 12 := by have := hL.le; have := Gg.most; omega
    have NO : (Cyc2 g D ∨ isNode i L.length = false) → ∃ ys b, AnsIS 32 33 i (g.map nats) ys b := fun hc => by
      refine ⟨[], false, by simp, fun a c w h => ?_, fun a c w h => ?_⟩
      · rw [List.length_map]
        refine (sEntr_good Gg hD hL i a c w h hG).mono ?_
        rintro e w' ⟨⟨_, rfl⟩ | ⟨hn, x, l, va, vc, T, rfl, hx, _⟩, hbl⟩
        · exact ⟨none, 0, rfl, World.ownsRow_nil _ _ _ _, hbl⟩
        · rcases hc with hc | hc
          · exact absurd hc hn
          · have := (List.getElem?_eq_some_iff.1 hx).1
            unfold isNode at hc
            simp at hc
            omega
      · rw [List.length_map]
        refine (iEntr_not a g.length c i w (fun W hb => ?_)).mono (fun e w' ⟨he, hbl⟩ => ⟨none, 0, he, World.ownsRow_nil _ _ _ _, hbl⟩)
        by_cases hcy : Cyc2 g D
        · refine ringOf_no a g.length c 0 i W (by omega) (by unfold isNode; simp) (fun W' hb' => (ringsIn_good Gg a c W' (LRow.below h (bstep' hb hb')) hG).mono ?_)
          rintro e w' ⟨⟨D', hD', hc'⟩, hbl⟩
          rw [hD'.unique hD] at hc'
          rcases hc' with ⟨_, he⟩ | ⟨hn, _⟩
          · exact ⟨⟨_, none, 0, false, he, rfl⟩, hbl⟩
          · exact absurd hcy hn
        · have hn : isNode i L.length = false := hc.resolve_left hcy
          refine ringOf_no a g.length c L.length i W (by omega) hn (fun W' hb' => (ringsIn_good Gg a c W' (LRow.below h (bstep' hb hb')) hG).mono ?_)
          rintro e w' ⟨⟨D', hD', hc'⟩, hbl⟩
          rw [hD'.unique hD] at hc'
          rcases hc' with ⟨hn, _⟩ | ⟨_, v, ys, he, ho, hr⟩
          · exact absurd hn hcy
          · obtain ⟨va, vc, hv⟩ := ho.slice
            refine ⟨⟨v, va, vc, true, he, ?_⟩, hbl⟩
            rw [hv, ← hr.unique hL, loopsR_len]
    by_cases hc : Cyc2 g D
    · exact NO (.inl hc)
    · cases hn : isNode i L.length with
      | false => exact NO (.inr hn)
      | true =>
        obtain ⟨x, rfl, hx⟩ := isNode_nat hn
        obtain ⟨l, hlx⟩ : ∃ l, L[x]? = some l := ⟨_, List.getElem?_eq_getElem hx⟩
        have hm := hL.mem (List.mem_of_getElem? hlx)
        have hhc := isHead.come Gg hm.2.1
        have hsl : l.2.length ≤ 12 := hm.2.2.few Gg hhc
        obtain ⟨T, hT⟩ := entr_is Gg l
        have hTl := hT.few Gg
        refine ⟨nats T, true, by rw [nats_length]; omega, fun a c w h => ?_, fun a c w h => ?_⟩
        · rw [List.length_map, nats_length]
          refine (sEntr_good Gg hD hL x a c w h hG).mono ?_
          rintro e w' ⟨⟨h3 | h3, _⟩ | ⟨_, x', l', va, vc, T', hx', hl', rfl, ho, hT'⟩, hbl⟩
          · exact absurd h3 hc
          · rw [hn] at h3; cases h3
          · have : x = x' := by omega
            subst this
            rw [hlx] at hl'
            injection hl' with e
            subst e
            obtain rfl := hT.unique hT'
            exact ⟨va, vc, rfl, ho, hbl⟩
        · rw [List.length_map, nats_length]
          refine (iEntr_yes Gg x l hm.2.2.1 hsl hm.1 a c w h (fun W hb => ringOf_yes a g.length c L x l hlx (by omega) W (fun W' hb' => (ringsIn_good Gg a c W' (LRow.below h (bstep' hb hb')) hG).mono ?_))).mono ?_
          · rintro e w' ⟨⟨D', hD', hc'⟩, hbl⟩
            rw [hD'.unique hD] at hc'
            rcases hc' with ⟨hn, _⟩ | ⟨_, v, ys, he, ho, hr⟩
            · exact absurd hn hc
            · exact ⟨⟨v, ys, he, ho, hr.unique hL⟩, hbl⟩
          · rintro e w' ⟨va, vc, T', rfl, ho, hT', hb⟩
            obtain rfl := hT.unique hT'
            exact ⟨va, vc, rfl, ho, hb⟩
  · refine ⟨[], false, by simp, fun a c w h => ?_, fun a c w h => ?_⟩
    · exact (sEntr_bad a c xs i w hl h hG).mono (fun e w' ⟨he, hb⟩ => ⟨none, 0, he, World.ownsRow_nil _ _ _ _, hb⟩)
    · refine (iEntr_not a xs.length c i w (fun W hb => ?_)).mono (fun e w' ⟨he, hb⟩ => ⟨none, 0, he, World.ownsRow_nil _ _ _ _, hb⟩)
      refine ringOf_no a xs.length c 0 i W (by omega) (by unfold isNode; simp) (fun W' hb' => (ringsIn_bad a c xs W' hl (LRow.below h (bstep' hb hb')) hG).mono ?_)
      rintro e w' ⟨he, hbl⟩
      exact ⟨⟨_, none, 0, false, he, rfl⟩, hbl⟩
end Go.Proofs.Ythcenlplfcbfjaa

