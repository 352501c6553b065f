/- What EndsOf and DepthsOf of the program and of the model answer, at every code. -/
import Derived.Test.YthkkhinmdlmhkaaDoorGood1
namespace Go.Proofs.YthkkhinmdlmhkaaDoor
open Go.RowKit
set_option linter.unusedVariables false
set_option linter.unusedSimpArgs false
set_option maxRecDepth 100000

def endsL (xs : List Stp) : List Int := match nestO xs with
  | some (e, _) => e
  | none => []
def depsL (xs : List Stp) : List Int := match nestO xs with
  | some (_, d) => d
  | none => []
theorem endsL_some {xs : List Stp} {e d : List Int} (h : nestO xs = some (e, d)) : endsL xs = e := by simp [endsL, h]
theorem depsL_some {xs : List Stp} {e d : List Int} (h : nestO xs = some (e, d)) : depsL xs = d := by simp [depsL, h]
theorem endsL_none {xs : List Stp} (h : nestO xs = none) : endsL xs = [] := by simp [endsL, h]
theorem depsL_none {xs : List Stp} (h : nestO xs = none) : depsL xs = [] := by simp [depsL, h]
theorem endsL_len (xs : List Stp) : (endsL xs).length ≤ 60 := by
  cases h : nestO xs with
  | none => rw [endsL_none h]; simp
  | some p => obtain ⟨e, d⟩ := p; rw [endsL_some h]; have := nestO_length h; omega
theorem depsL_len (xs : List Stp) : (depsL xs).length ≤ 60 := by
  cases h : nestO xs with
  | none => rw [depsL_none h]; simp
  | some p => obtain ⟨e, d⟩ := p; rw [depsL_some h]; have := nestO_length h; omega
theorem goodS_some {xs : List Stp} {p : List Int × List Int} (h : nestO xs = some p) : goodS xs = true := by simp [goodS, h]
theorem goodS_none {xs : List Stp} (h : nestO xs = none) : goodS xs = false := by simp [goodS, h]

/-- the program's EndsOf -/
theorem iEnds_any (a : Option Addr) (c : Nat) (xs : List Stp) (w : World) (hl : xs.length ≤ 1048576) (h : TRow w a xs) (hT : Tab w) :
    Calls Tryd.prog 45 #[.slice a xs.length c] w fun e w' => (∃ v, e = .returned (.tuple #[v, .bool (goodS xs)]) ∧ w'.ownsRow w.heap.size 3 1 v (endsL xs).length (ints (endsL xs))) ∧ Below w.heap.size w w' := by
  have H : Hid (TRow w a xs ∧ Tab w) := ⟨h, hT⟩
  clear h hT
  cases hn : nestO xs with
  | none =>
    rw [goodS_none hn, endsL_none hn]
    have HN : Hid (nestO xs = none) := hn
    clear hn
    go_enter Tryd.func45, Tryd.ntmps45
    go_wp2_with fail
    refine (nest_all a c xs _ hl H.out.1 H.out.2).mono ?_
    rintro e w1 ⟨⟨oa, ol, oc, ea, el, ec, da, dl, dc, b, rfl, hm⟩, hb⟩
    rw [HN.out] at hm
    obtain rfl : b = false := hm
    go_wp2
    go_ret2
    exact ⟨⟨_, rfl, World.ownsRow_nil _ _ _ _⟩, hb.alloc hb.size _⟩
  | some p =>
    obtain ⟨en, d⟩ := p
    rw [goodS_some hn, endsL_some hn, (nestO_length hn).1]
    have HN : Hid (nestO xs = some (en, d)) := hn
    clear hn
    go_enter Tryd.func45, Tryd.ntmps45
    go_wp2_with fail
    refine (nest_all a c xs _ hl H.out.1 H.out.2).mono ?_
    rintro e w1 ⟨⟨oa, ol, oc, ea, el, ec, da, dl, dc, b, rfl, hm⟩, hb⟩
    rw [HN.out] at hm
    obtain ⟨hbt, h1, h2, h3⟩ := hm
    obtain rfl : b = true := hbt
    go_wp2
    go_ret2
    exact ⟨⟨_, rfl, h1.alloc _⟩, hb.alloc hb.size _⟩

theorem news_at1 (w : World) (o1 : Obj) (v : Value) (t : TypeId) : ∀ j u, [v][j]? = some u → ((w.alloc o1).alloc (.cells #[v] t)).cell? ((⟨w.heap.size + 1, 0, none⟩ : Addr).add j) = some u := by
  refine World.news_of_block (cs := #[v]) (t := t) (fr := (0, 0)) ?_
  have := heap_alloc_new (w.alloc o1) (.cells #[v] t)
  rw [size_alloc1] at this
  exact this
theorem depL_cons (n : Int) (x : Stp) (r : List Stp) : depL n (x :: r) = n :: depL (if opensB x.1 = true then n + 1 else if x.1 = 19 then n - 1 else n) r := rfl
end Go.Proofs.YthkkhinmdlmhkaaDoor
