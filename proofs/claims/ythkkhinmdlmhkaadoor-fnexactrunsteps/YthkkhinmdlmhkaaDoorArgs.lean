/- Code that came in as an argument is a list of steps that can be read; the table of the row lies in the world. -/
import Derived.Test.YthkkhinmdlmhkaaDoorOne
import Derived.Test.YthkkhinmdlmhkaaDoorCards
import Derived.Deep.Slices
import Derived.OpenShut
import Derived.LaidLaws
namespace Go.Proofs.YthkkhinmdlmhkaaDoor
open Go.RowKit Go.ChangeShapes Go.WideShapes Go.Deep
set_option linter.unusedVariables false
set_option linter.unusedSimpArgs false
set_option maxRecDepth 100000

theorem cells3 : Tryd.prog.cellsOf 3 = 1 := by kernel_rfl
theorem cells9 : Tryd.prog.cellsOf 9 = 1 := by kernel_rfl
theorem cells27 : Tryd.prog.cellsOf 23 = 1 := by kernel_rfl
theorem cells54 : Tryd.prog.cellsOf 48 = 3 := by kernel_rfl
theorem cells96 : Tryd.prog.cellsOf 128 = 2 := by kernel_rfl
theorem cells97 : Tryd.prog.cellsOf 129 = 46 := by kernel_rfl
theorem gForms : Tryd.prog.globalNamed "loop.example/g00373/impl.opForms" = some 4 := by kernel_rfl
theorem gFormsType : (Tryd.prog.globals[4]?).map (·.type) = some 129 := by kernel_rfl

theorem plain_add (b off j : Nat) : (⟨b, off, none⟩ : Addr).add j = ⟨b, off + j, none⟩ := by unfold Addr.add; split <;> simp_all
/-- a slice of numbers that lies in a cell -/
theorem row_of_trod {H : Type} {enc : TypeId × Value → H} {w : World} {base : Nat} {held : Bool} {fuel : Nat} {V : Value} {x : DataW H × List MemPlace} (h : DataW.trod enc Tryd.prog w base (fun _ => true) held fuel 23 [V] = some x) :
    ∃ (ta : Option Addr) (t : List Int) (tc : Nat), V = .slice ta t.length tc ∧ Row w ta t ∧ t.length ≤ 9223372036854775807 := by
  rcases open_ints Tryd.underlying23 Tryd.underlying3 cells3 h with ⟨hcs, _⟩ | ⟨a, l, c, zs, hcs, _, hl, hm, hz, _, hcell, hwz⟩
  · simp at hcs
    exact ⟨none, [], 0, hcs, .inl rfl, by simp⟩
  · simp at hcs
    simp at hz
    refine ⟨some a, zs.take l, c, ?_, ?_, ?_⟩
    · rw [hcs, List.length_take, Nat.min_eq_left (by omega)]
    · by_cases h0 : l = 0
      · subst h0; exact .inl (by simp)
      · obtain ⟨b, off, spot⟩ := a
        have hc0 := hcell 0 (by omega)
        have hspot : spot = none := by simpa [Addr.add] using World.cell?_spot hc0
        subst hspot
        refine .inr ⟨b, off, rfl, fun i hi => ?_⟩
        have hil : i < l := by simp at hi; omega
        have := hcell i (by omega)
        rw [plain_add] at this
        rw [this]
        simp [List.getElem?_take, hil, List.getD]
    · unfold maxLen at hm; simp; omega
theorem step_of_trod {H : Type} {enc : TypeId × Value → H} {w : World} {base : Nat} {held : Bool} {fuel : Nat} {cs : List Value} {x : DataW H × List MemPlace} (h : DataW.trod enc Tryd.prog w base (fun _ => true) held fuel 48 cs = some x) :
    ∃ (p n : Int) (t : List Int) (ta : Option Addr) (tc : Nat), cs = [.int .i64 p, .int .i64 n, .slice ta t.length tc] ∧ Row w ta t ∧ t.length ≤ 9223372036854775807 := by
  obtain ⟨xs, k, hk, hxy, hlen, hxl, hf⟩ := DataW.trod_struct Tryd.underlying48 h
  rw [cells54] at hlen
  match xs, hxl, cs, hlen with
  | [y0, y1, y2], _, [v0, v1, v2], _ =>
    have g0 := hf 0 _ rfl
    have g1 := hf 1 _ rfl
    have g2 := hf 2 _ rfl
    simp [cells3, cells27] at g0 g1 g2
    obtain ⟨p, e0, _, _⟩ := DataW.trod_int Tryd.underlying3 g0
    obtain ⟨n, e1, _, _⟩ := DataW.trod_int Tryd.underlying3 g1
    obtain ⟨ta, t, tc, e2, hr, hl⟩ := row_of_trod g2
    simp at e0 e1
    exact ⟨p, n, t, ta, tc, by rw [e0, e1, e2], hr, hl⟩

theorem steps_of_arg {H : Type} {enc : TypeId × Value → H} {w : World} {base : Nat} {held : Bool} {v : Value} {d : DataW H} {p : List MemPlace} (h : DataW.Trod enc Tryd.prog w base (fun _ => true) held 22 v d p) (hv : ∃ a len cap, v = .slice a len cap) :
    ∃ (a : Option Addr) (cap : Nat) (xs : List Stp), v = .slice a xs.length cap ∧ xs.length ≤ 9223372036854775807 ∧ TRow w a xs := by
  obtain ⟨a0, len0, cap0, rfl⟩ := hv
  obtain ⟨fuel, hf⟩ := h
  rcases open_slice Tryd.underlying22 hf with ⟨hcs, _⟩ | ⟨a, len, cap, m, n, D, Pl, hcs, _, hl, hm, hmm, _, hx⟩
  · simp [Value.cells] at hcs
    obtain ⟨rfl, rfl, rfl⟩ := hcs
    exact ⟨none, 0, [], rfl, by simp, .inl rfl⟩
  · simp [Value.cells] at hcs
    obtain ⟨rfl, rfl, rfl⟩ := hcs
    have hlm : len0 ≤ m := by rw [hmm]; split <;> omega
    have each : ∀ i, i < len0 → ∃ q : Stp × Option Addr × Nat, w.cell? (a.add (i * 3)) = some (.int .i64 q.1.1) ∧ w.cell? (a.add (i * 3 + 1)) = some (.int .i64 q.1.2.1) ∧ w.cell? (a.add (i * 3 + 2)) = some (.slice q.2.1 q.1.2.2.length q.2.2) ∧ Row w q.2.1 q.1.2.2 ∧ q.1.2.2.length ≤ 9223372036854775807 := by
      intro i hi
      obtain ⟨cs', h1, h2⟩ := hx i (by omega)
      rw [cells54] at h1
      obtain ⟨_, hlen, hcell⟩ := World.cells?_some h1
      obtain ⟨p, n, t, ta, tc, rfl, hr, htl⟩ := step_of_trod h2
      have e0 := hcell 0 (by omega)
      have e1 := hcell 1 (by omega)
      have e2 := hcell 2 (by omega)
      rw [add_add] at e0 e1 e2
      exact ⟨((p, n, t), ta, tc), by simpa using e0, by simpa using e1, by simpa using e2, hr, htl⟩
    obtain ⟨q, hq⟩ := choose_lt each
    refine ⟨some a, cap0, (List.range len0).map fun i => (q i).1, by simp, by unfold maxLen at hm; simp; omega, ?_⟩
    by_cases h0 : len0 = 0
    · subst h0; exact .inl (by simp)
    obtain ⟨b, off, spot⟩ := a
    have hspot : spot = none := by
      have := (hq 0 (by omega)).1
      simpa [Addr.add] using World.cell?_spot this
    subst hspot
    refine .inr ⟨b, off, rfl, fun i hi => ?_⟩
    simp at hi
    obtain ⟨g0, g1, g2, g3, g4⟩ := hq i hi
    rw [plain_add] at g0 g1 g2
    exact ⟨(q i).1, (q i).2.1, (q i).2.2, by simp [hi], g4, g0, by rw [Nat.add_assoc]; exact g1, by rw [Nat.add_assoc]; exact g2, g3⟩

/-- the table, row by row -/
theorem forms_at {H : Type} (l : List (DataW H)) (hl : (Rows.laid_loop_example_g00373_impl_opForms : DataW H) = .agg l) : ∀ k : Nat, k < 23 → l[k]? = some (.agg [.lit (.string (wordL k)), .lit (.int .i64 (mostN k))]) := by
  have : l = _ := (DataW.agg.inj hl).symm
  subst this
  intro k hk
  match k, hk with
  | 0, _ => rfl
  | 1, _ => rfl
  | 2, _ => rfl
  | 3, _ => rfl
  | 4, _ => rfl
  | 5, _ => rfl
  | 6, _ => rfl
  | 7, _ => rfl
  | 8, _ => rfl
  | 9, _ => rfl
  | 10, _ => rfl
  | 11, _ => rfl
  | 12, _ => rfl
  | 13, _ => rfl
  | 14, _ => rfl
  | 15, _ => rfl
  | 16, _ => rfl
  | 17, _ => rfl
  | 18, _ => rfl
  | 19, _ => rfl
  | 20, _ => rfl
  | 21, _ => rfl
  | 22, _ => rfl
  | k + 23, h => exact absurd h (by omega)
theorem tab_of_var {H : Type} {enc : TypeId × Value → H} {W : World} {base : Nat} {sp : Nat → Bool} {held : Bool} {fuel : Nat} {cs : Array Value} {p : List MemPlace} (hv : W.var? Tryd.prog "loop.example/g00373/impl.opForms" = some cs) (hd : DataW.trod enc Tryd.prog W base sp held fuel 129 cs.toList = some (Rows.laid_loop_example_g00373_impl_opForms, p)) : Tab W := by
  intro k hk
  obtain ⟨xs, m, _, ex, hlen, hl, hel⟩ := DataW.trod_array Tryd.underlying129 hd
  have hform := forms_at (xs.map (·.1)) (Prod.mk.inj ex).1 k hk
  have hk' := hel k hk
  rw [cells96] at hk'
  rw [cells97] at hlen
  obtain ⟨y, hy⟩ : ∃ y, xs[k]? = some y := ⟨_, List.getElem?_eq_getElem (by omega)⟩
  rw [hy] at hk'
  have hy1 : y.1 = .agg [.lit (.string (wordL k)), .lit (.int .i64 (mostN k))] := by
    simp [hy] at hform
    exact hform
  obtain ⟨zs, k2, _, hz, hlen2, hzl, hf⟩ := DataW.trod_struct Tryd.underlying128 hk'
  match zs, hzl with
  | [z0, z1], _ =>
    have g0 := hf 0 _ rfl
    have g1 := hf 1 _ rfl
    have e0 : (cs.toList.drop (k * 2)).length ≥ 2 := by simp; simp at hlen; omega
    have hcs : ∀ j, W.cell? ⟨4, j, none⟩ = cs[j]? := fun j => by
      have := World.var?_cell gForms hv j
      simpa using this
    obtain ⟨a, b, hab⟩ : ∃ a b, (cs.toList.drop (k * 2)).take 2 = [a, b] := by
      match hd2 : cs.toList.drop (k * 2), e0 with
      | a :: b :: r, _ => exact ⟨a, b, rfl⟩
    rw [hab] at g0 g1
    simp [cells3, cells9] at g0 g1
    obtain ⟨s, e1, e2, _⟩ := DataW.trod_string Tryd.underlying9 g0
    obtain ⟨n, e3, e4, _⟩ := DataW.trod_int Tryd.underlying3 g1
    simp at e1 e3
    have hag : y.1 = .agg [z0.1, z1.1] := by rw [hz]; rfl
    rw [hag, e2, e4] at hy1
    have h1 := DataW.agg.inj hy1
    simp at h1
    have ha : cs[k * 2]? = some a := by
      have := congrArg (·[0]?) hab
      simpa [List.getElem?_take, List.getElem?_drop] using this
    have hb : cs[k * 2 + 1]? = some b := by
      have := congrArg (·[1]?) hab
      simpa [List.getElem?_take, List.getElem?_drop] using this
    refine ⟨?_, ?_⟩
    · rw [hcs, ha, e1]
      congr 1
      rw [← h1.1]
    · rw [hcs, hb, e3, h1.2]
theorem tab_of_laid {W : World} (h : laidMetH Tryd.prog [("loop.example/g00373/impl.opForms", Rows.laid_loop_example_g00373_impl_opForms)] W) : Tab W := by
  have h' : laidMet Tryd.prog [("loop.example/g00373/impl.opForms", Rows.laid_loop_example_g00373_impl_opForms)] W := h
  obtain ⟨ps, ⟨g, t, cs, fuel, p, q, hg, ht, hv, hd, _, _⟩, _, _⟩ := h'
  obtain rfl := Option.some.inj (gForms.symm.trans hg)
  obtain rfl := Option.some.inj (gFormsType.symm.trans ht)
  exact tab_of_var hv hd
end Go.Proofs.YthkkhinmdlmhkaaDoor
