/- Lists of flat steps and of numbers that a row is handed. -/
import Derived.Test.YtiaiaejijicddaaK6
import Derived.Deep.Slices
import Derived.OpenShut
namespace Go.Proofs.Ytiaiaejijicddaa
open Go Go.RowKit Go.ChangeShapes Go.WideShapes Go.Deep
set_option linter.unusedVariables false
set_option linter.unusedSimpArgs false
set_option maxRecDepth 100000

theorem cells3 : Try.prog.cellsOf 3 = 1 := by kernel_rfl
theorem cells51 : Try.prog.cellsOf 51 = 6 := by kernel_rfl
theorem cells22 : Try.prog.cellsOf 22 = 1 := by kernel_rfl
theorem cells34 : Try.prog.cellsOf 34 = 1 := by kernel_rfl
theorem plain_add (b off j : Nat) : (⟨b, off, none⟩ : Addr).add j = ⟨b, off + j, none⟩ := by unfold Addr.add; split <;> simp_all
/-- a slice of numbers that lies in a cell -/
theorem row_of_trod {H : Type} {enc : TypeId × Value → H} {w : World} {base : Nat} {held : Bool} {fuel : Nat} {V : Value} {x : DataW H × List MemPlace} (h : DataW.trod enc Try.prog w base (fun _ => true) held fuel 34 [V] = some x) :
    ∃ (ta : Option Addr) (t : List Int) (tc : Nat), V = .slice ta t.length tc ∧ Row w ta t ∧ t.length ≤ 9223372036854775807 := by
  rcases open_ints Try.underlying34 Try.underlying3 cells3 h with ⟨hcs, _⟩ | ⟨a, l, c, zs, hcs, _, hl, hm, hz, _, hcell, hwz⟩
  · simp at hcs
    exact ⟨none, [], 0, hcs, .inl rfl, by simp⟩
  · simp at hcs
    simp at hz
    refine ⟨some a, zs.take l, c, ?_, ?_, ?_⟩
    · rw [hcs, List.length_take, Nat.min_eq_left (by omega)]
    · by_cases h0 : l = 0
      · subst h0; exact .inl (by simp)
      · obtain ⟨b, off, spot⟩ := a
        have hc0 := hcell 0 (by omega)
        have hspot : spot = none := by simpa [Addr.add] using World.cell?_spot hc0
        subst hspot
        refine .inr ⟨b, off, rfl, fun i hi => ?_⟩
        have hil : i < l := by simp at hi; omega
        have := hcell i (by omega)
        rw [plain_add] at this
        rw [this]
        simp [List.getElem?_take, hil, List.getD]
    · unfold maxLen at hm; simp; omega
theorem flat_of_trod {H : Type} {enc : TypeId × Value → H} {w : World} {base : Nat} {held : Bool} {fuel : Nat} {cs : List Value} {x : DataW H × List MemPlace} (h : DataW.trod enc Try.prog w base (fun _ => true) held fuel 51 cs = some x) :
    ∃ x : Flt, cs = cellsF x := by
  obtain ⟨xs, k, hk, hxy, hlen, hxl, hf⟩ := DataW.trod_struct Try.underlying51 h
  rw [cells51] at hlen
  match xs, hxl, cs, hlen with
  | [y0, y1, y2, y3, y4, y5], _, [v0, v1, v2, v3, v4, v5], _ =>
    have g0 := hf 0 _ rfl
    have g1 := hf 1 _ rfl
    have g2 := hf 2 _ rfl
    have g3 := hf 3 _ rfl
    have g4 := hf 4 _ rfl
    have g5 := hf 5 _ rfl
    simp [cells3] at g0 g1 g2 g3 g4 g5
    obtain ⟨n0, e0, _, _⟩ := DataW.trod_int Try.underlying3 g0
    obtain ⟨n1, e1, _, _⟩ := DataW.trod_int Try.underlying3 g1
    obtain ⟨n2, e2, _, _⟩ := DataW.trod_int Try.underlying3 g2
    obtain ⟨n3, e3, _, _⟩ := DataW.trod_int Try.underlying3 g3
    obtain ⟨n4, e4, _, _⟩ := DataW.trod_int Try.underlying3 g4
    obtain ⟨n5, e5, _, _⟩ := DataW.trod_int Try.underlying3 g5
    simp at e0 e1 e2 e3 e4 e5
    exact ⟨⟨n0, n1, n2, n3, n4, n5⟩, by rw [e0, e1, e2, e3, e4, e5]; rfl⟩
theorem flats_of_trod {H : Type} {enc : TypeId × Value → H} {w : World} {base : Nat} {held : Bool} {fuel : Nat} {V : Value} {x : DataW H × List MemPlace} (h : DataW.trod enc Try.prog w base (fun _ => true) held fuel 22 [V] = some x) :
    ∃ (ca : Option Addr) (cs : List Flt) (cc : Nat), V = .slice ca cs.length cc ∧ FRow w ca cs ∧ cs.length ≤ 9223372036854775807 := by
  rcases open_slice Try.underlying22 h with ⟨hcs, _⟩ | ⟨a, len, cap, m, n, D, Pl, hcs, _, hl, hm, hmm, _, hx⟩
  · simp at hcs
    exact ⟨none, [], 0, hcs, .inl rfl, by simp⟩
  · simp at hcs
    have hlm : len ≤ m := by rw [hmm]; split <;> omega
    have each : ∀ i, i < len → ∃ q : Flt, w.cell? (a.add (i * 6)) = some (.int .i64 q.op) ∧ w.cell? (a.add (i * 6 + 1)) = some (.int .i64 q.d) ∧ w.cell? (a.add (i * 6 + 2)) = some (.int .i64 q.dst) ∧ w.cell? (a.add (i * 6 + 3)) = some (.int .i64 q.a) ∧ w.cell? (a.add (i * 6 + 4)) = some (.int .i64 q.b) ∧ w.cell? (a.add (i * 6 + 5)) = some (.int .i64 q.n) := by
      intro i hi
      obtain ⟨cs', h1, h2⟩ := hx i (by omega)
      rw [cells51] at h1
      obtain ⟨_, hlen, hcell⟩ := World.cells?_some h1
      obtain ⟨q, rfl⟩ := flat_of_trod h2
      have e0 := hcell 0 (by simp [cellsF])
      have e1 := hcell 1 (by simp [cellsF])
      have e2 := hcell 2 (by simp [cellsF])
      have e3 := hcell 3 (by simp [cellsF])
      have e4 := hcell 4 (by simp [cellsF])
      have e5 := hcell 5 (by simp [cellsF])
      rw [add_add] at e0 e1 e2 e3 e4 e5
      exact ⟨q, by simpa [cellsF] using e0, by simpa [cellsF] using e1, by simpa [cellsF] using e2, by simpa [cellsF] using e3, by simpa [cellsF] using e4, by simpa [cellsF] using e5⟩
    haveI : Inhabited Flt := ⟨⟨0, 0, 0, 0, 0, 0⟩⟩
    obtain ⟨q, hq⟩ := choose_lt each
    refine ⟨some a, (List.range len).map q, cap, by rw [hcs]; simp, ?_, by unfold maxLen at hm; simp; omega⟩
    by_cases h0 : len = 0
    · subst h0; exact .inl (by simp)
    obtain ⟨b, off, spot⟩ := a
    have hspot : spot = none := by
      have := (hq 0 (by omega)).1
      simpa [Addr.add] using World.cell?_spot this
    subst hspot
    refine .inr ⟨b, off, rfl, fun i x hx => ?_⟩
    obtain ⟨hi, rfl⟩ : i < len ∧ q i = x := by
      have h1 := (List.getElem?_eq_some_iff.1 hx).1
      simp at h1
      simp [h1] at hx
      exact ⟨h1, hx⟩
    obtain ⟨g0, g1, g2, g3, g4, g5⟩ := hq i hi
    rw [plain_add] at g0 g1 g2 g3 g4 g5
    exact ⟨g0, by rw [Nat.add_assoc]; exact g1, by rw [Nat.add_assoc]; exact g2, by rw [Nat.add_assoc]; exact g3, by rw [Nat.add_assoc]; exact g4, by rw [Nat.add_assoc]; exact g5⟩
theorem flats_of_arg {H : Type} {enc : TypeId × Value → H} {w : World} {base : Nat} {held : Bool} {v : Value} {d : DataW H} {p : List MemPlace} (h : DataW.Trod enc Try.prog w base (fun _ => true) held 22 v d p) (hv : ∃ a len cap, v = .slice a len cap) :
    ∃ (a : Option Addr) (cap : Nat) (xs : List Flt), v = .slice a xs.length cap ∧ xs.length ≤ 9223372036854775807 ∧ FRow w a xs := by
  obtain ⟨a0, len0, cap0, rfl⟩ := hv
  obtain ⟨fuel, hf⟩ := h
  obtain ⟨ca, cs, cc, hcs, hr, hl⟩ := flats_of_trod hf
  exact ⟨ca, cc, cs, hcs, hl, hr⟩
theorem ints_of_arg {H : Type} {enc : TypeId × Value → H} {w : World} {base : Nat} {held : Bool} {v : Value} {d : DataW H} {p : List MemPlace} (h : DataW.Trod enc Try.prog w base (fun _ => true) held 34 v d p) (hv : ∃ a len cap, v = .slice a len cap) :
    ∃ (a : Option Addr) (cap : Nat) (xs : List Int), v = .slice a xs.length cap ∧ xs.length ≤ 9223372036854775807 ∧ Row w a xs := by
  obtain ⟨a0, len0, cap0, rfl⟩ := hv
  obtain ⟨fuel, hf⟩ := h
  obtain ⟨ta, t, tc, hcs, hr, hl⟩ := row_of_trod hf
  exact ⟨ta, tc, t, hcs, hl, hr⟩
end Go.Proofs.Ytiaiaejijicddaa
