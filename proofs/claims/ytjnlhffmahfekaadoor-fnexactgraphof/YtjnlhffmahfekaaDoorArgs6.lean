/- A flow that came in as an argument is a list of blocks that can be read; the table of the row lies in the world. -/
import Derived.Test.YtjnlhffmahfekaaDoorGoodK
import Derived.Test.YtjnlhffmahfekaaDoorFlow1
import Derived.Test.YtjnlhffmahfekaaDoorCards
import Derived.Deep.Slices
import Derived.OpenShut
import Derived.LaidLaws
namespace Go.Proofs.YtjnlhffmahfekaaDoor
open Go.RowKit Go.ChangeShapes Go.WideShapes Go.Deep
set_option linter.unusedVariables false
set_option linter.unusedSimpArgs false
set_option maxRecDepth 100000

theorem cells3 : Tryd.prog.cellsOf 3 = 1 := by kernel_rfl
theorem cells4 : Tryd.prog.cellsOf 4 = 1 := by kernel_rfl
theorem cells29 : Tryd.prog.cellsOf 38 = 1 := by kernel_rfl
theorem cells55 : Tryd.prog.cellsOf 37 = 1 := by kernel_rfl
theorem cells110 : Tryd.prog.cellsOf 77 = 6 := by kernel_rfl
theorem cells57 : Tryd.prog.cellsOf 40 = 4 := by kernel_rfl
theorem cells112 : Tryd.prog.cellsOf 88 = 3 := by kernel_rfl
theorem cells113 : Tryd.prog.cellsOf 89 = 18 := by kernel_rfl
theorem gForms : Tryd.prog.globalNamed "loop.example/g00373/impl.goForms" = some 0 := by kernel_rfl
theorem gFormsType : (Tryd.prog.globals[0]?).map (·.type) = some 89 := by kernel_rfl

theorem plain_add (b off j : Nat) : (⟨b, off, none⟩ : Addr).add j = ⟨b, off + j, none⟩ := by unfold Addr.add; split <;> simp_all
/-- a slice of numbers that lies in a cell -/
theorem row_of_trod {H : Type} {enc : TypeId × Value → H} {w : World} {base : Nat} {held : Bool} {fuel : Nat} {V : Value} {x : DataW H × List MemPlace} (h : DataW.trod enc Tryd.prog w base (fun _ => true) held fuel 38 [V] = some x) :
    ∃ (ta : Option Addr) (t : List Int) (tc : Nat), V = .slice ta t.length tc ∧ Row w ta t ∧ t.length ≤ 9223372036854775807 := by
  rcases open_ints Tryd.underlying38 Tryd.underlying3 cells3 h with ⟨hcs, _⟩ | ⟨a, l, c, zs, hcs, _, hl, hm, hz, _, hcell, hwz⟩
  · simp at hcs
    exact ⟨none, [], 0, hcs, .inl rfl, by simp⟩
  · simp at hcs
    simp at hz
    refine ⟨some a, zs.take l, c, ?_, ?_, ?_⟩
    · rw [hcs, List.length_take, Nat.min_eq_left (by omega)]
    · by_cases h0 : l = 0
      · subst h0; exact .inl (by simp)
      · obtain ⟨b, off, spot⟩ := a
        have hc0 := hcell 0 (by omega)
        have hspot : spot = none := by simpa [Addr.add] using World.cell?_spot hc0
        subst hspot
        refine .inr ⟨b, off, rfl, fun i hi => ?_⟩
        have hil : i < l := by simp at hi; omega
        have := hcell i (by omega)
        rw [plain_add] at this
        rw [this]
        simp [List.getElem?_take, hil, List.getD]
    · unfold maxLen at hm; simp; omega
theorem flat_of_trod {H : Type} {enc : TypeId × Value → H} {w : World} {base : Nat} {held : Bool} {fuel : Nat} {cs : List Value} {x : DataW H × List MemPlace} (h : DataW.trod enc Tryd.prog w base (fun _ => true) held fuel 77 cs = some x) :
    ∃ x : Flt, cs = cellsF x := by
  obtain ⟨xs, k, hk, hxy, hlen, hxl, hf⟩ := DataW.trod_struct Tryd.underlying77 h
  rw [cells110] at hlen
  match xs, hxl, cs, hlen with
  | [y0, y1, y2, y3, y4, y5], _, [v0, v1, v2, v3, v4, v5], _ =>
    have g0 := hf 0 _ rfl
    have g1 := hf 1 _ rfl
    have g2 := hf 2 _ rfl
    have g3 := hf 3 _ rfl
    have g4 := hf 4 _ rfl
    have g5 := hf 5 _ rfl
    simp [cells3] at g0 g1 g2 g3 g4 g5
    obtain ⟨n0, e0, _, _⟩ := DataW.trod_int Tryd.underlying3 g0
    obtain ⟨n1, e1, _, _⟩ := DataW.trod_int Tryd.underlying3 g1
    obtain ⟨n2, e2, _, _⟩ := DataW.trod_int Tryd.underlying3 g2
    obtain ⟨n3, e3, _, _⟩ := DataW.trod_int Tryd.underlying3 g3
    obtain ⟨n4, e4, _, _⟩ := DataW.trod_int Tryd.underlying3 g4
    obtain ⟨n5, e5, _, _⟩ := DataW.trod_int Tryd.underlying3 g5
    simp at e0 e1 e2 e3 e4 e5
    exact ⟨⟨n0, n1, n2, n3, n4, n5⟩, by rw [e0, e1, e2, e3, e4, e5]; rfl⟩
theorem flats_of_trod {H : Type} {enc : TypeId × Value → H} {w : World} {base : Nat} {held : Bool} {fuel : Nat} {V : Value} {x : DataW H × List MemPlace} (h : DataW.trod enc Tryd.prog w base (fun _ => true) held fuel 37 [V] = some x) :
    ∃ (ca : Option Addr) (cs : List Flt) (cc : Nat), V = .slice ca cs.length cc ∧ FRow w ca cs ∧ cs.length ≤ 9223372036854775807 := by
  rcases open_slice Tryd.underlying37 h with ⟨hcs, _⟩ | ⟨a, len, cap, m, n, D, Pl, hcs, _, hl, hm, hmm, _, hx⟩
  · simp at hcs
    exact ⟨none, [], 0, hcs, .inl rfl, by simp⟩
  · simp at hcs
    have hlm : len ≤ m := by rw [hmm]; split <;> omega
    have each : ∀ i, i < len → ∃ q : Flt, w.cell? (a.add (i * 6)) = some (.int .i64 q.op) ∧ w.cell? (a.add (i * 6 + 1)) = some (.int .i64 q.d) ∧ w.cell? (a.add (i * 6 + 2)) = some (.int .i64 q.dst) ∧ w.cell? (a.add (i * 6 + 3)) = some (.int .i64 q.a) ∧ w.cell? (a.add (i * 6 + 4)) = some (.int .i64 q.b) ∧ w.cell? (a.add (i * 6 + 5)) = some (.int .i64 q.n) := by
      intro i hi
      obtain ⟨cs', h1, h2⟩ := hx i (by omega)
      rw [cells110] at h1
      obtain ⟨_, hlen, hcell⟩ := World.cells?_some h1
      obtain ⟨q, rfl⟩ := flat_of_trod h2
      have e0 := hcell 0 (by simp [cellsF])
      have e1 := hcell 1 (by simp [cellsF])
      have e2 := hcell 2 (by simp [cellsF])
      have e3 := hcell 3 (by simp [cellsF])
      have e4 := hcell 4 (by simp [cellsF])
      have e5 := hcell 5 (by simp [cellsF])
      rw [add_add] at e0 e1 e2 e3 e4 e5
      exact ⟨q, by simpa [cellsF] using e0, by simpa [cellsF] using e1, by simpa [cellsF] using e2, by simpa [cellsF] using e3, by simpa [cellsF] using e4, by simpa [cellsF] using e5⟩
    haveI : Inhabited Flt := ⟨⟨0, 0, 0, 0, 0, 0⟩⟩
    obtain ⟨q, hq⟩ := choose_lt each
    refine ⟨some a, (List.range len).map q, cap, by rw [hcs]; simp, ?_, by unfold maxLen at hm; simp; omega⟩
    by_cases h0 : len = 0
    · subst h0; exact .inl (by simp)
    obtain ⟨b, off, spot⟩ := a
    have hspot : spot = none := by
      have := (hq 0 (by omega)).1
      simpa [Addr.add] using World.cell?_spot this
    subst hspot
    refine .inr ⟨b, off, rfl, fun i x hx => ?_⟩
    obtain ⟨hi, rfl⟩ : i < len ∧ q i = x := by
      have h1 := (List.getElem?_eq_some_iff.1 hx).1
      simp at h1
      simp [h1] at hx
      exact ⟨h1, hx⟩
    obtain ⟨g0, g1, g2, g3, g4, g5⟩ := hq i hi
    rw [plain_add] at g0 g1 g2 g3 g4 g5
    exact ⟨g0, by rw [Nat.add_assoc]; exact g1, by rw [Nat.add_assoc]; exact g2, by rw [Nat.add_assoc]; exact g3, by rw [Nat.add_assoc]; exact g4, by rw [Nat.add_assoc]; exact g5⟩
theorem block_of_trod {H : Type} {enc : TypeId × Value → H} {w : World} {base : Nat} {held : Bool} {fuel : Nat} {cs : List Value} {x : DataW H × List MemPlace} (h : DataW.trod enc Tryd.prog w base (fun _ => true) held fuel 40 cs = some x) :
    ∃ (x : Blk) (ca na : Option Addr) (cc nc : Nat), cs = [.slice ca x.code.length cc, .int .i64 x.go, .int .i64 x.test, .slice na x.next.length nc] ∧ FRow w ca x.code ∧ Row w na x.next ∧ x.code.length ≤ 9223372036854775807 ∧ x.next.length ≤ 9223372036854775807 := by
  obtain ⟨xs, k, hk, hxy, hlen, hxl, hf⟩ := DataW.trod_struct Tryd.underlying40 h
  rw [cells57] at hlen
  match xs, hxl, cs, hlen with
  | [y0, y1, y2, y3], _, [v0, v1, v2, v3], _ =>
    have g0 := hf 0 _ rfl
    have g1 := hf 1 _ rfl
    have g2 := hf 2 _ rfl
    have g3 := hf 3 _ rfl
    simp [cells3, cells29, cells55] at g0 g1 g2 g3
    obtain ⟨ca, c, cc, e0, hr0, hl0⟩ := flats_of_trod g0
    obtain ⟨n1, e1, _, _⟩ := DataW.trod_int Tryd.underlying3 g1
    obtain ⟨n2, e2, _, _⟩ := DataW.trod_int Tryd.underlying3 g2
    obtain ⟨na, t, nc, e3, hr3, hl3⟩ := row_of_trod g3
    simp at e1 e2
    exact ⟨⟨c, n1, n2, t⟩, ca, na, cc, nc, by rw [e0, e1, e2, e3], hr0, hr3, hl0, hl3⟩
theorem blocks_of_arg {H : Type} {enc : TypeId × Value → H} {w : World} {base : Nat} {held : Bool} {v : Value} {d : DataW H} {p : List MemPlace} (h : DataW.Trod enc Tryd.prog w base (fun _ => true) held 22 v d p) (hv : ∃ a len cap, v = .slice a len cap) :
    ∃ (a : Option Addr) (cap : Nat) (xs : List Blk), v = .slice a xs.length cap ∧ xs.length ≤ 9223372036854775807 ∧ BRow w a xs := by
  obtain ⟨a0, len0, cap0, rfl⟩ := hv
  obtain ⟨fuel, hf⟩ := h
  rcases open_slice Tryd.underlying22 hf with ⟨hcs, _⟩ | ⟨a, len, cap, m, n, D, Pl, hcs, _, hl, hm, hmm, _, hx⟩
  · simp [Value.cells] at hcs
    obtain ⟨rfl, rfl, rfl⟩ := hcs
    exact ⟨none, 0, [], rfl, by simp, .inl rfl⟩
  · simp [Value.cells] at hcs
    obtain ⟨rfl, rfl, rfl⟩ := hcs
    have hlm : len0 ≤ m := by rw [hmm]; split <;> omega
    have each : ∀ i, i < len0 → ∃ q : Blk × (Option Addr × Nat) × (Option Addr × Nat), w.cell? (a.add (i * 4)) = some (.slice q.2.1.1 q.1.code.length q.2.1.2) ∧ w.cell? (a.add (i * 4 + 1)) = some (.int .i64 q.1.go) ∧ w.cell? (a.add (i * 4 + 2)) = some (.int .i64 q.1.test) ∧ w.cell? (a.add (i * 4 + 3)) = some (.slice q.2.2.1 q.1.next.length q.2.2.2) ∧ FRow w q.2.1.1 q.1.code ∧ Row w q.2.2.1 q.1.next ∧ q.1.code.length ≤ 9223372036854775807 ∧ q.1.next.length ≤ 9223372036854775807 := by
      intro i hi
      obtain ⟨cs', h1, h2⟩ := hx i (by omega)
      rw [cells57] at h1
      obtain ⟨_, hlen, hcell⟩ := World.cells?_some h1
      obtain ⟨x, ca, na, cc, nc, rfl, hr0, hr3, hl0, hl3⟩ := block_of_trod h2
      have e0 := hcell 0 (by omega)
      have e1 := hcell 1 (by omega)
      have e2 := hcell 2 (by omega)
      have e3 := hcell 3 (by omega)
      rw [add_add] at e0 e1 e2 e3
      exact ⟨(x, (ca, cc), (na, nc)), by simpa using e0, by simpa using e1, by simpa using e2, by simpa using e3, hr0, hr3, hl0, hl3⟩
    haveI : Inhabited Blk := ⟨⟨[], 0, 0, []⟩⟩
    obtain ⟨q, hq⟩ := choose_lt each
    refine ⟨some a, cap0, (List.range len0).map fun i => (q i).1, by simp, by unfold maxLen at hm; simp; omega, ?_⟩
    by_cases h0 : len0 = 0
    · subst h0; exact .inl (by simp)
    obtain ⟨b, off, spot⟩ := a
    have hspot : spot = none := by
      have := (hq 0 (by omega)).1
      simpa [Addr.add] using World.cell?_spot this
    subst hspot
    refine .inr ⟨b, off, rfl, fun i x hx => ?_⟩
    obtain ⟨hi, rfl⟩ : i < len0 ∧ (q i).1 = x := by
      have h1 := (List.getElem?_eq_some_iff.1 hx).1
      simp at h1
      simp [h1] at hx
      exact ⟨h1, hx⟩
    obtain ⟨g0, g1, g2, g3, g4, g5, g6, g7⟩ := hq i hi
    rw [plain_add] at g0 g1 g2 g3
    exact ⟨(q i).2.1.1, (q i).2.1.2, (q i).2.2.1, (q i).2.2.2, g6, g7, g0, by rw [Nat.add_assoc]; exact g1, by rw [Nat.add_assoc]; exact g2, by rw [Nat.add_assoc]; exact g3, g4, g5⟩

/-- the table, row by row -/
theorem forms_at {H : Type} (l : List (DataW H)) (hl : (Rows.laid_loop_example_g00373_impl_goForms : DataW H) = .agg l) : ∀ k : Nat, k < 6 → l[k]? = some (.agg [.lit (.int .i64 (leastG k)), .lit (.int .i64 (mostG k)), .lit (.bool (testsG k))]) := by
  have : l = _ := (DataW.agg.inj hl).symm
  subst this
  intro k hk
  match k, hk with
  | 0, _ => rfl
  | 1, _ => rfl
  | 2, _ => rfl
  | 3, _ => rfl
  | 4, _ => rfl
  | 5, _ => rfl
  | k + 6, h => exact absurd h (by omega)
theorem tab_of_var {H : Type} {enc : TypeId × Value → H} {W : World} {base : Nat} {sp : Nat → Bool} {held : Bool} {fuel : Nat} {cs : Array Value} {p : List MemPlace} (hv : W.var? Tryd.prog "loop.example/g00373/impl.goForms" = some cs) (hd : DataW.trod enc Tryd.prog W base sp held fuel 89 cs.toList = some (Rows.laid_loop_example_g00373_impl_goForms, p)) : Tab W := by
  intro k hk
  obtain ⟨xs, m, _, ex, hlen, hl, hel⟩ := DataW.trod_array Tryd.underlying89 hd
  have hform := forms_at (xs.map (·.1)) (Prod.mk.inj ex).1 k hk
  have hk' := hel k hk
  rw [cells112] at hk'
  rw [cells113] at hlen
  obtain ⟨y, hy⟩ : ∃ y, xs[k]? = some y := ⟨_, List.getElem?_eq_getElem (by omega)⟩
  rw [hy] at hk'
  have hy1 : y.1 = .agg [.lit (.int .i64 (leastG k)), .lit (.int .i64 (mostG k)), .lit (.bool (testsG k))] := by
    simp [hy] at hform
    exact hform
  obtain ⟨zs, k2, _, hz, hlen2, hzl, hf⟩ := DataW.trod_struct Tryd.underlying88 hk'
  match zs, hzl with
  | [z0, z1, z2], _ =>
    have g0 := hf 0 _ rfl
    have g1 := hf 1 _ rfl
    have g2 := hf 2 _ rfl
    have e0 : (cs.toList.drop (k * 3)).length ≥ 3 := by simp; simp at hlen; omega
    have hcs : ∀ j, W.cell? ⟨0, j, none⟩ = cs[j]? := fun j => by
      have := World.var?_cell gForms hv j
      simpa using this
    obtain ⟨a, b, c, hab⟩ : ∃ a b c, (cs.toList.drop (k * 3)).take 3 = [a, b, c] := by
      match hd2 : cs.toList.drop (k * 3), e0 with
      | a :: b :: c :: r, _ => exact ⟨a, b, c, rfl⟩
    rw [hab] at g0 g1 g2
    simp [cells3, cells4] at g0 g1 g2
    obtain ⟨s, e1, e2, _⟩ := DataW.trod_int Tryd.underlying3 g0
    obtain ⟨n, e3, e4, _⟩ := DataW.trod_int Tryd.underlying3 g1
    obtain ⟨t, e5, e6⟩ := DataW.trod_bool Tryd.underlying4 g2
    simp at e1 e3 e5
    have hag : y.1 = .agg [z0.1, z1.1, z2.1] := by rw [hz]; rfl
    rw [hag, e2, e4, e6] at hy1
    have h1 := DataW.agg.inj hy1
    simp at h1
    have ha : cs[k * 3]? = some a := by
      have := congrArg (·[0]?) hab
      simpa [List.getElem?_take, List.getElem?_drop] using this
    have hb : cs[k * 3 + 1]? = some b := by
      have := congrArg (·[1]?) hab
      simpa [List.getElem?_take, List.getElem?_drop] using this
    have hc : cs[k * 3 + 2]? = some c := by
      have := congrArg (·[2]?) hab
      simpa [List.getElem?_take, List.getElem?_drop] using this
    refine ⟨?_, ?_, ?_⟩
    · rw [hcs, ha, e1, h1.1]
    · rw [hcs, hb, e3, h1.2.1]
    · rw [hcs, hc, e5, h1.2.2]
theorem tab_of_laid {W : World} (h : laidMetH Tryd.prog [("loop.example/g00373/impl.goForms", Rows.laid_loop_example_g00373_impl_goForms)] W) : Tab W := by
  have h' : laidMet Tryd.prog [("loop.example/g00373/impl.goForms", Rows.laid_loop_example_g00373_impl_goForms)] W := h
  obtain ⟨ps, ⟨g, t, cs, fuel, p, q, hg, ht, hv, hd, _, _⟩, _, _⟩ := h'
  obtain rfl := Option.some.inj (gForms.symm.trans hg)
  obtain rfl := Option.some.inj (gFormsType.symm.trans ht)
  exact tab_of_var hv hd
end Go.Proofs.YtjnlhffmahfekaaDoor
