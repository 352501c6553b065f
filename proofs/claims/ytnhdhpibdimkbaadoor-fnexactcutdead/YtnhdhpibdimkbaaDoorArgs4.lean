/- What the rows that list the program's sentinels give a walk: the table of Ops, four sentinels at places of their own, and the handle of the type of errors. -/
import Derived.Test.YtnhdhpibdimkbaaDoorArgs
import Derived.Test.YtnhdhpibdimkbaaDoorFault
import Derived.LaidHandle
import Derived.ChangeVars
import Derived.Lay
namespace Go.Proofs.YtnhdhpibdimkbaaDoor
open Go.RowKit Go.WideShapes Go.ChangeShapes
set_option linter.unusedVariables false
set_option linter.unusedSimpArgs false
set_option maxRecDepth 100000

theorem starName : "*" ++ "errors.errorString" = "*errors.errorString" := by decide
theorem row211 (u : TypeId) (h : Tryd.prog.typeName? 3 u = some "*errors.errorString") : u = 211 :=
  typeName_ptr_named (nm := "errors.errorString") (by rw [starName]; kernel_rfl) (by kernel_rfl) (by decide) u (by rw [starName]; exact h)
theorem cells229 : Tryd.prog.cellsOf 229 = 1 := by kernel_rfl
theorem gShape : Tryd.prog.globalNamed "loop.example/g00373/impl.errShape" = some 1 := by kernel_rfl
theorem gStack : Tryd.prog.globalNamed "loop.example/g00373/impl.errStack" = some 2 := by kernel_rfl
theorem gRest : Tryd.prog.globalNamed "loop.example/g00373/impl.errRest" = some 3 := by kernel_rfl
theorem gDeep : Tryd.prog.globalNamed "loop.example/g00373/impl.errDeep" = some 4 := by kernel_rfl
theorem gErrType1 : (Tryd.prog.globals[1]?).map (·.type) = some 71 := by kernel_rfl
theorem gErrType2 : (Tryd.prog.globals[2]?).map (·.type) = some 71 := by kernel_rfl
theorem gErrType3 : (Tryd.prog.globals[3]?).map (·.type) = some 71 := by kernel_rfl
theorem gErrType4 : (Tryd.prog.globals[4]?).map (·.type) = some 71 := by kernel_rfl
theorem gHandle : Tryd.prog.globalNamed "errors.errorType" = some 5 := by kernel_rfl
theorem rtRow : (Tryd.prog.cutTypes.find? (·.1 == "internal/reflectlite.rtype")).map (·.2) = some 189 := by kernel_rfl
theorem oneRow : ((List.range 241).filter fun t => Tryd.prog.rowNamed t [101, 114, 114, 111, 114]) = [71] := by kernel_rfl
theorem typesSize : Tryd.prog.types.size = 241 := by kernel_rfl

theorem sent_of {W : World} {name : String} {g : Nat} {text : List UInt8} {cs : Array Value} {fuel : Nat} {p : List MemPlace} {ps : List MemPlace} (hg : Tryd.prog.globalNamed name = some g) (hv : W.var? Tryd.prog name = some cs)
    (hd : DataW.trod (fun _ => ()) Tryd.prog W 0 (fun _ => true) false fuel 71 cs.toList = some (.iface "*errors.errorString" (.ptr (.agg [.lit (.string text)])), p))
    (hrows : ∀ b off, MemPlace.cell b off ∈ ps → (∃ c t, W.heap[b]? = some (.cells c t (0, 0))) ∧ ∀ u v, W.cell? ⟨b, off, none⟩ = some (.iface u v) → Value.okWide Tryd.prog W .any 0 u v) (hm : ∀ x, x ∈ MemPlace.row ⟨g, 0, none⟩ cs.size ++ p → x ∈ ps) :
    ∃ a s, W.cell? ⟨g, 0, none⟩ = some (.iface 211 (.pointer (some a))) ∧ W.cell? a = some (.string s) ∧ s.data.toList = text ∧ ∃ c t, W.heap[a.block]? = some (.cells c t (0, 0)) := by
  obtain ⟨l⟩ := cs
  have ok : ∀ u v, l = [.iface u v] → Value.okWide Tryd.prog W .any 0 u v := fun u v e => by
    subst e
    exact (hrows g 0 (hm _ (by simp [MemPlace.row]))).2 u v (by simpa using World.var?_cell hg hv 0)
  obtain ⟨a, s, rfl, hc, hs, hz, rfl⟩ := errorString_of_trod Tryd.underlying71 row211 Tryd.underlying211 Tryd.underlying229 rfl rfl Tryd.underlying9 cells229 cells9 hd ok
  exact ⟨a, s, by simpa using World.var?_cell hg hv 0, hc, hs, (hrows a.block a.off (hm _ (by simp [MemPlace.row]))).1⟩

abbrev fiveLaid : List (String × DataW Unit) := [("loop.example/g00373/impl.opForms", Rows.laid_loop_example_g00373_impl_opForms), ("loop.example/g00373/impl.errShape", Rows.laid_loop_example_g00373_impl_errShape), ("loop.example/g00373/impl.errStack", Rows.laid_loop_example_g00373_impl_errStack), ("loop.example/g00373/impl.errRest", Rows.laid_loop_example_g00373_impl_errRest), ("loop.example/g00373/impl.errDeep", Rows.laid_loop_example_g00373_impl_errDeep)]
theorem five_of_laid {W : World} (h : laidMet Tryd.prog fiveLaid W) : Tab W ∧ ∃ S, Errs W S := by
  obtain ⟨ps, ⟨g0, t0, cs0, f0, p0, q0, hg0, ht0, hv0, hd0, ⟨g1, t1, cs1, f1, p1, q1, hg1, ht1, hv1, hd1, ⟨g2, t2, cs2, f2, p2, q2, hg2, ht2, hv2, hd2, ⟨g3, t3, cs3, f3, p3, q3, hg3, ht3, hv3, hd3, ⟨g4, t4, cs4, f4, p4, q4, hg4, ht4, hv4, hd4, _, e4⟩, e3⟩, e2⟩, e1⟩, e0⟩, hnd, hrows⟩ := h
  obtain rfl := Option.some.inj (gForms.symm.trans hg0)
  obtain rfl := Option.some.inj (gFormsType.symm.trans ht0)
  obtain rfl := Option.some.inj (gShape.symm.trans hg1)
  obtain rfl := Option.some.inj (gStack.symm.trans hg2)
  obtain rfl := Option.some.inj (gRest.symm.trans hg3)
  obtain rfl := Option.some.inj (gDeep.symm.trans hg4)
  obtain rfl := Option.some.inj (gErrType1.symm.trans ht1)
  obtain rfl := Option.some.inj (gErrType2.symm.trans ht2)
  obtain rfl := Option.some.inj (gErrType3.symm.trans ht3)
  obtain rfl := Option.some.inj (gErrType4.symm.trans ht4)
  refine ⟨tab_of_var hv0 hd0, ?_⟩
  have k0 : ∀ x, x ∈ q0 → x ∈ ps := fun x hx => by rw [e0]; exact List.mem_append_right _ hx
  have k1 : ∀ x, x ∈ q1 → x ∈ ps := fun x hx => k0 x (by rw [e1]; exact List.mem_append_right _ hx)
  have k2 : ∀ x, x ∈ q2 → x ∈ ps := fun x hx => k1 x (by rw [e2]; exact List.mem_append_right _ hx)
  have k3 : ∀ x, x ∈ q3 → x ∈ ps := fun x hx => k2 x (by rw [e3]; exact List.mem_append_right _ hx)
  obtain ⟨a1, s1, c1, d1, x1, b1⟩ := sent_of gShape hv1 hd1 hrows (fun x hx => k0 x (by rw [e1]; exact List.mem_append_left _ hx))
  obtain ⟨a2, s2, c2, d2, x2, b2⟩ := sent_of gStack hv2 hd2 hrows (fun x hx => k1 x (by rw [e2]; exact List.mem_append_left _ hx))
  obtain ⟨a3, s3, c3, d3, x3, b3⟩ := sent_of gRest hv3 hd3 hrows (fun x hx => k2 x (by rw [e3]; exact List.mem_append_left _ hx))
  obtain ⟨a4, s4, c4, d4, x4, b4⟩ := sent_of gDeep hv4 hd4 hrows (fun x hx => k3 x (by rw [e4]; exact List.mem_append_left _ hx))
  have ne : ∀ {a b : Addr} {s t : ByteArray} {x y : List UInt8}, W.cell? a = some (.string s) → W.cell? b = some (.string t) → s.data.toList = x → t.data.toList = y → x ≠ y → a ≠ b := by
    rintro a b s t x y h1 h2 rfl rfl hn rfl
    rw [h1] at h2
    cases h2
    exact hn rfl
  have n12 := ne d1 d2 x1 x2 (by decide)
  have n13 := ne d1 d3 x1 x3 (by decide)
  have n14 := ne d1 d4 x1 x4 (by decide)
  have n23 := ne d2 d3 x2 x3 (by decide)
  have n24 := ne d2 d4 x2 x4 (by decide)
  have n34 := ne d3 d4 x3 x4 (by decide)
  refine ⟨fun k => if k = 1 then a1 else if k = 2 then a2 else if k = 3 then a3 else a4, ?_, ?_, ?_⟩
  · intro k h1 h4
    have : k = 1 ∨ k = 2 ∨ k = 3 ∨ k = 4 := by omega
    rcases this with rfl | rfl | rfl | rfl
    · exact c1
    · exact c2
    · exact c3
    · exact c4
  · intro k h1 h4
    have : k = 1 ∨ k = 2 ∨ k = 3 ∨ k = 4 := by omega
    rcases this with rfl | rfl | rfl | rfl
    · exact b1
    · exact b2
    · exact b3
    · exact b4
  · intro i j i1 i4 j1 j4 he
    have hi : i = 1 ∨ i = 2 ∨ i = 3 ∨ i = 4 := by omega
    have hj : j = 1 ∨ j = 2 ∨ j = 3 ∨ j = 4 := by omega
    rcases hi with rfl | rfl | rfl | rfl <;> rcases hj with rfl | rfl | rfl | rfl <;> first | rfl | exact absurd he n12 | exact absurd he n13 | exact absurd he n14 | exact absurd he n23 | exact absurd he n24 | exact absurd he n34 | exact absurd he.symm n12 | exact absurd he.symm n13 | exact absurd he.symm n14 | exact absurd he.symm n23 | exact absurd he.symm n24 | exact absurd he.symm n34

theorem all_of_laid {W : World} (h : laidMetH Tryd.prog (("errors.errorType", Rows.laid_errors_errorType) :: fiveLaid) W) : (Tab W ∧ ∃ S, Errs W S) ∧ Hnd W := by
  have h' : laidMet Tryd.prog fiveLaid W ∧ handlesMet Tryd.prog [("errors.errorType", Rows.laid_errors_errorType)] W := h
  refine ⟨five_of_laid h'.1, ?_⟩
  obtain ⟨name, u, ty, e1, e2, e3, e4, e5⟩ := h'.2 _ (List.mem_singleton.2 rfl)
  have en : name = [101, 114, 114, 111, 114] := (Option.some.inj e1).symm
  subst en
  obtain rfl := Option.some.inj (rtRow.symm.trans e2)
  have hm : ty ∈ (List.range 241).filter fun t => Tryd.prog.rowNamed t [101, 114, 114, 111, 114] := List.mem_filter.2 ⟨List.mem_range.2 (by rw [← typesSize]; exact e3), e4⟩
  rw [oneRow] at hm
  obtain rfl := List.mem_singleton.1 hm
  have hh : typeHandle Tryd.prog 71 = .pointer (some ⟨10, 71, none⟩) := by kernel_rfl
  rw [hh] at e5
  simpa using World.var?_cell gHandle e5 0
theorem five_of_laidH {W : World} (h : laidMetH Tryd.prog fiveLaid W) : Tab W ∧ ∃ S, Errs W S := five_of_laid h

theorem vars5 {H : Type} {enc : TypeId × Value → H} {W : World} {sp : Nat → Bool} {n1 n2 n3 n4 n5 : String} {gs : List (DataW H)} {q : List MemPlace} (h : DataW.TrodVars enc Tryd.prog W sp [n1, n2, n3, n4, n5] gs q) : ∃ g1 g2 g3 g4 g5, gs = [g1, g2, g3, g4, g5] := by
  match gs, h with
  | [], h => exact h.elim
  | [_], ⟨_, _, _, _, _, _, _, _, _, _, h, _⟩ => exact h.elim
  | [_, _], ⟨_, _, _, _, _, _, _, _, _, _, ⟨_, _, _, _, _, _, _, _, _, _, h, _⟩, _⟩ => exact h.elim
  | [_, _, _], ⟨_, _, _, _, _, _, _, _, _, _, ⟨_, _, _, _, _, _, _, _, _, _, ⟨_, _, _, _, _, _, _, _, _, _, h, _⟩, _⟩, _⟩ => exact h.elim
  | [_, _, _, _], ⟨_, _, _, _, _, _, _, _, _, _, ⟨_, _, _, _, _, _, _, _, _, _, ⟨_, _, _, _, _, _, _, _, _, _, ⟨_, _, _, _, _, _, _, _, _, _, h, _⟩, _⟩, _⟩, _⟩ => exact h.elim
  | [g1, g2, g3, g4, g5], _ => exact ⟨g1, g2, g3, g4, g5, rfl⟩
  | _ :: _ :: _ :: _ :: _ :: _ :: _, ⟨_, _, _, _, _, _, _, _, _, _, ⟨_, _, _, _, _, _, _, _, _, _, ⟨_, _, _, _, _, _, _, _, _, _, ⟨_, _, _, _, _, _, _, _, _, _, ⟨_, _, _, _, _, _, _, _, _, _, h, _⟩, _⟩, _⟩, _⟩, _⟩ => exact h.elim
/-- a world that meets the condition of a row that lists the handle, too -/
noncomputable def handWorld (os : Os) : World :=
  let w0 := World.laidAll Tryd.prog os fiveLaid
  { w0 with heap := w0.heap.modify 5 fun
      | .cells _ t frozen => .cells #[.iface 189 (.agg #[.pointer (some ⟨10, 71, none⟩)])] t frozen
      | o => o }
theorem handWorld_os (os : Os) : (handWorld os).os = os := World.laidAll_os _ _ _
theorem handWorld_met (os : Os) (args : Array Value) : laidMetH Tryd.prog (("errors.errorType", Rows.laid_errors_errorType) :: fiveLaid) ((handWorld os).forCall (fun _ _ => 0) ⟨#[], args, []⟩).memory :=
  laidMetH_of_parts (laidMet_of_run' 8 (by kernel_rfl) (by kernel_rfl)) (by kernel_rfl)
end Go.Proofs.YtnhdhpibdimkbaaDoor
