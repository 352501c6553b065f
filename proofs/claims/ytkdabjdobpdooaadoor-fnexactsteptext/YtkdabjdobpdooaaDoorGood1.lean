/- What GoodSteps, EndsOf and DepthsOf of the program and of the model answer, at every code. -/
import Derived.Test.YtkdabjdobpdooaaDoorNest4
namespace Go.Proofs.YtkdabjdobpdooaaDoor
open Go.RowKit
set_option linter.unusedVariables false
set_option linter.unusedSimpArgs false
set_option maxRecDepth 100000

theorem nest_all (a : Option Addr) (c : Nat) (xs : List Stp) (w : World) (hl : xs.length ≤ 1048576) (h : TRow w a xs) (hT : Tab w) :
    Calls Tryd.prog 52 #[.slice a xs.length c] w fun e w' => nestAns w.heap.size w' xs e ∧ Below w.heap.size w w' := by
  by_cases h60 : xs.length ≤ 60
  · exact nest_any a c xs w h60 h hT
  · exact nest_long a c xs w h60 (by omega)

def goodS (xs : List Stp) : Bool := (nestO xs).isSome
theorem nestAns_bool {B : Nat} {w' : World} {xs : List Stp} {e : Ending} (h : nestAns B w' xs e) : ∃ oa ol oc ea el ec da dl dc, e = .returned (.tuple #[.agg #[.slice oa ol oc, .slice ea el ec, .slice da dl dc], .bool (goodS xs)]) := by
  obtain ⟨oa, ol, oc, ea, el, ec, da, dl, dc, b, rfl, hm⟩ := h
  refine ⟨oa, ol, oc, ea, el, ec, da, dl, dc, ?_⟩
  unfold goodS
  cases hn : nestO xs with
  | none => rw [hn] at hm; rw [show b = false from hm]; rfl
  | some p => obtain ⟨en, d⟩ := p; rw [hn] at hm; rw [show b = true from hm.1]; rfl

/-- the program's GoodSteps -/
theorem iGoodS_any (a : Option Addr) (c : Nat) (xs : List Stp) (w : World) (hl : xs.length ≤ 1048576) (h : TRow w a xs) (hT : Tab w) :
    Calls Tryd.prog 20 #[.slice a xs.length c] w fun e w' => e = .returned (.bool (goodS xs)) ∧ Below w.heap.size w w' := by
  have H : Hid (TRow w a xs ∧ Tab w) := ⟨h, hT⟩
  clear h hT
  go_enter Tryd.func20, Tryd.ntmps20
  go_wp2_with fail
  refine (nest_all a c xs _ hl H.out.1 H.out.2).mono ?_
  rintro e w1 ⟨hn, hb⟩
  obtain ⟨oa, ol, oc, ea, el, ec, da, dl, dc, rfl⟩ := nestAns_bool hn
  clear hn
  go_wp2
  go_ret
  exact ⟨rfl, hb.alloc hb.size _⟩
theorem endsAns_bool {w0 w' : World} {xs : List Stp} {e : Ending} (h : endsAns w0 w' xs e) : ∃ v, e = .returned (.tuple #[v, .bool (goodS xs)]) := by
  obtain ⟨v, b, rfl, hm⟩ := h
  refine ⟨v, ?_⟩
  unfold goodS
  cases hn : nestO xs with
  | none => rw [hn] at hm; rw [show b = false from hm]; rfl
  | some p => obtain ⟨en, d⟩ := p; rw [hn] at hm; rw [show b = true from hm.1]; rfl
/-- the model's GoodSteps -/
theorem sGoodS_any (a : Option Addr) (c : Nat) (xs : List Stp) (w : World) (hl : xs.length ≤ 1048576) (h : TRow w a xs) :
    Calls Tryd.prog 33 #[.slice a xs.length c] w fun e w' => e = .returned (.bool (goodS xs)) ∧ Below w.heap.size w w' := by
  have H : Hid (TRow w a xs) := h
  clear h
  go_enter Tryd.func33, Tryd.ntmps33
  go_wp2_with fail
  refine (l3Ends_any a c xs _ hl H.out).mono ?_
  rintro e w1 ⟨hn, hb⟩
  obtain ⟨v, rfl⟩ := endsAns_bool hn
  clear hn
  go_wp2
  go_ret
  exact ⟨rfl, hb⟩

/-- the law on GoodSteps is true at every code -/
theorem lawGoodS (a : Option Addr) (c : Nat) (xs : List Stp) (w : World) (hl : xs.length ≤ 9223372036854775807) (h : TRow w a xs) (hT : Tab w) :
    Calls Tryd.prog 5 #[.slice a xs.length c] w fun e w' => e = .returned (.bool true) ∧ Below w.heap.size w w' := by
  obtain ⟨u, hu⟩ : ∃ u, goodS xs = u := ⟨_, rfl⟩
  cases u
  all_goals
    go_enter Tryd.func5, Tryd.ntmps5
    go_wp2_with fail
    refine (szSteps_any a c xs _ hl h).mono ?_
    rintro e w1 ⟨⟨r, rfl, hr⟩, B1⟩
    by_cases hr0 : r < 0
    · go_wp2
      go_ret
      exact ⟨rfl, B1⟩
    · have hl20 : xs.length ≤ 1048576 := by omega
      have hst : sumT xs ≤ 1048576 := by omega
      have HS : Hid (sumT xs ≤ 1048576) := hst
      clear hr hst
      go_wp2_with fail
      refine (toSteps_any a c xs _ hl20 HS.out (h.below B1)).mono ?_
      rintro e w2 ⟨v2, y2, rfl, O2, hy2, hb2⟩
      obtain ⟨a2, c2, rfl, hs2⟩ := O2.row
      rw [hy2] at hs2 ⊢
      have B2 := bstep' B1 hb2
      clear O2 hy2
      go_wp2_with fail
      refine (sGoodS_any a2 c2 xs _ hl20 hs2).mono ?_
      rintro e w3 ⟨rfl, hb3⟩
      rw [hu]
      have B3 := bstep' B2 hb3
      clear hb2 hb3 hs2
      go_wp2_with fail
      refine (toSteps_any a c xs _ hl20 HS.out (h.below B3)).mono ?_
      rintro e w4 ⟨v4, y4, rfl, O4, hy4, hb4⟩
      obtain ⟨a4, c4, rfl, hs4⟩ := O4.row
      rw [hy4] at hs4 ⊢
      have B4 := bstep' B3 hb4
      clear O4 hy4
      go_wp2_with fail
      refine (iGoodS_any a4 c4 xs _ hl20 hs4 (hT.below B4)).mono ?_
      rintro e w5 ⟨rfl, hb5⟩
      rw [hu]
      have B5 := bstep' B4 hb5
      go_wp2_with fail
      refine (toSteps_any a c xs _ hl20 HS.out (h.below B5)).mono ?_
      rintro e w6 ⟨v6, y6, rfl, O6, hy6, hb6⟩
      obtain ⟨a6, c6, rfl, hs6⟩ := O6.row
      rw [hy6] at hs6 ⊢
      have B6 := bstep' B5 hb6
      clear O6 hy6
      go_wp2_with fail
      refine (eqSteps_same a4 a6 c4 c6 xs _ hl ((hs4.below hb5).below hb6) hs6).mono ?_
      rintro e w7 ⟨rfl, hb7⟩
      have B7 := bstep' B6 hb7
      go_wp2
      go_ret
      exact ⟨rfl, B7⟩
end Go.Proofs.YtkdabjdobpdooaaDoor
