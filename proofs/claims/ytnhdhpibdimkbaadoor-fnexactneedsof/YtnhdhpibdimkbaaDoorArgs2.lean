/- A step as an argument, and the tables of a row that lists four. -/
import Derived.Test.YtnhdhpibdimkbaaDoorArgs
import Derived.Test.YtnhdhpibdimkbaaDoorItoa
import Derived.Lib.LaidTab
namespace Go.Proofs.YtnhdhpibdimkbaaDoor
open Go.RowKit Go.WideShapes
set_option linter.unusedVariables false
set_option maxRecDepth 100000

theorem step_of_arg {H : Type} {enc : TypeId × Value → H} {w : World} {base : Nat} {held : Bool} {v : Value} {d : DataW H} {p : List MemPlace} (h : DataW.Trod enc Tryd.prog w base (fun _ => true) held 61 v d p) (hv : ∃ cs, v = .agg cs ∧ cs.size = Tryd.prog.cellsOf 61) :
    ∃ (q n : Int) (t : List Int) (ta : Option Addr) (tc : Nat), v = .agg #[.int .i64 q, .int .i64 n, .slice ta t.length tc] ∧ Row w ta t ∧ t.length ≤ 9223372036854775807 := by
  obtain ⟨cs, rfl, hs⟩ := hv
  obtain ⟨fuel, hf⟩ := h
  obtain ⟨q, n, t, ta, tc, hcs, hr, hl⟩ := step_of_trod hf
  refine ⟨q, n, t, ta, tc, ?_, hr, hl⟩
  have : cs.toList = [.int .i64 q, .int .i64 n, .slice ta t.length tc] := by simpa [Value.cells] using hcs
  rw [← Array.toArray_toList (xs := cs), this]

abbrev fourLaid : List (String × DataW Unit) := [("math/bits.deBruijn32tab", Rows.laid_math_bits_deBruijn32tab), ("math/bits.deBruijn64tab", Rows.laid_math_bits_deBruijn64tab), ("internal/strconv.uint64pow10", Rows.laid_internal_strconv_uint64pow10), ("loop.example/g00373/impl.opForms", Rows.laid_loop_example_g00373_impl_opForms)]
theorem tabs_of_laid {W : World} (h : laidMetH Tryd.prog fourLaid W) : Tab W ∧ TenTab W := by
  have h' : laidMet Tryd.prog fourLaid W := h
  obtain ⟨ps, ⟨g1, t1, cs1, f1, p1, q1, hg1, ht1, hv1, hd1, r1, e1⟩, _, _⟩ := h'
  obtain ⟨g2, t2, cs2, f2, p2, q2, hg2, ht2, hv2, hd2, r2, e2⟩ := r1
  obtain ⟨g3, t3, cs3, f3, p3, q3, hg3, ht3, hv3, hd3, r3, e3⟩ := r2
  obtain ⟨g4, t4, cs4, f4, p4, q4, hg4, ht4, hv4, hd4, r4, e4⟩ := r3
  refine ⟨?_, ?_⟩
  · obtain rfl := Option.some.inj (gForms.symm.trans hg4)
    obtain rfl := Option.some.inj (gFormsType.symm.trans ht4)
    exact tab_of_var hv4 hd4
  · have hg : Tryd.prog.globalNamed "internal/strconv.uint64pow10" = some 6 := by kernel_rfl
    have hty : (Tryd.prog.globals[6]?).map (·.type) = some 204 := by kernel_rfl
    obtain rfl := Option.some.inj (hg.symm.trans hg3)
    obtain rfl := Option.some.inj (hty.symm.trans ht3)
    unfold TenTab Lib.TabIs
    have hd : DataW.trod _ Tryd.prog W _ _ _ f3 204 cs3.toList = some (Lib.tabData .u64 Lib.pow10Tab, p3) := hd3
    rw [hv3, ← Lib.cells_of_tab Tryd.underlying204 Tryd.underlying89 (by kernel_rfl) (by kernel_rfl) hd]
end Go.Proofs.YtnhdhpibdimkbaaDoor
