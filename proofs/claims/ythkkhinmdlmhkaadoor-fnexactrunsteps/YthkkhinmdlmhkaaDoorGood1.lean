/- What GoodSteps, EndsOf and DepthsOf of the program and of the model answer, at every code. -/
import Derived.Test.YthkkhinmdlmhkaaDoorNest4
namespace Go.Proofs.YthkkhinmdlmhkaaDoor
open Go.RowKit
set_option linter.unusedVariables false
set_option linter.unusedSimpArgs false
set_option maxRecDepth 100000

theorem nest_all (a : Option Addr) (c : Nat) (xs : List Stp) (w : World) (hl : xs.length ≤ 1048576) (h : TRow w a xs) (hT : Tab w) :
    Calls Tryd.prog 60 #[.slice a xs.length c] w fun e w' => nestAns w.heap.size w' xs e ∧ Below w.heap.size w w' := by
  by_cases h60 : xs.length ≤ 60
  · exact nest_any a c xs w h60 h hT
  · exact nest_long a c xs w h60 (by omega)

def goodS (xs : List Stp) : Bool := (nestO xs).isSome
theorem nestAns_bool {B : Nat} {w' : World} {xs : List Stp} {e : Ending} (h : nestAns B w' xs e) : ∃ oa ol oc ea el ec da dl dc, e = .returned (.tuple #[.agg #[.slice oa ol oc, .slice ea el ec, .slice da dl dc], .bool (goodS xs)]) := by
  obtain ⟨oa, ol, oc, ea, el, ec, da, dl, dc, b, rfl, hm⟩ := h
  refine ⟨oa, ol, oc, ea, el, ec, da, dl, dc, ?_⟩
  unfold goodS
  cases hn : nestO xs with
  | none => rw [hn] at hm; rw [show b = false from hm]; rfl
  | some p => obtain ⟨en, d⟩ := p; rw [hn] at hm; rw [show b = true from hm.1]; rfl

/-- the program's GoodSteps -/
theorem iGoodS_any (a : Option Addr) (c : Nat) (xs : List Stp) (w : World) (hl : xs.length ≤ 1048576) (h : TRow w a xs) (hT : Tab w) :
    Calls Tryd.prog 66 #[.slice a xs.length c] w fun e w' => e = .returned (.bool (goodS xs)) ∧ Below w.heap.size w w' := by
  have H : Hid (TRow w a xs ∧ Tab w) := ⟨h, hT⟩
  clear h hT
  go_enter Tryd.func66, Tryd.ntmps66
  go_wp2_with fail
  refine (nest_all a c xs _ hl H.out.1 H.out.2).mono ?_
  rintro e w1 ⟨hn, hb⟩
  obtain ⟨oa, ol, oc, ea, el, ec, da, dl, dc, rfl⟩ := nestAns_bool hn
  clear hn
  go_wp2
  go_ret
  exact ⟨rfl, hb.alloc hb.size _⟩
theorem endsAns_bool {w0 w' : World} {xs : List Stp} {e : Ending} (h : endsAns w0 w' xs e) : ∃ v, e = .returned (.tuple #[v, .bool (goodS xs)]) := by
  obtain ⟨v, b, rfl, hm⟩ := h
  refine ⟨v, ?_⟩
  unfold goodS
  cases hn : nestO xs with
  | none => rw [hn] at hm; rw [show b = false from hm]; rfl
  | some p => obtain ⟨en, d⟩ := p; rw [hn] at hm; rw [show b = true from hm.1]; rfl
/-- the model's GoodSteps -/
theorem sGoodS_any (a : Option Addr) (c : Nat) (xs : List Stp) (w : World) (hl : xs.length ≤ 1048576) (h : TRow w a xs) :
    Calls Tryd.prog 37 #[.slice a xs.length c] w fun e w' => e = .returned (.bool (goodS xs)) ∧ Below w.heap.size w w' := by
  have H : Hid (TRow w a xs) := h
  clear h
  go_enter Tryd.func37, Tryd.ntmps37
  go_wp2_with fail
  refine (l3Ends_any a c xs _ hl H.out).mono ?_
  rintro e w1 ⟨hn, hb⟩
  obtain ⟨v, rfl⟩ := endsAns_bool hn
  clear hn
  go_wp2
  go_ret
  exact ⟨rfl, hb⟩

end Go.Proofs.YthkkhinmdlmhkaaDoor
