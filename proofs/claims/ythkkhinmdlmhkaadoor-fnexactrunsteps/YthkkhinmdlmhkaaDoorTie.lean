/-
  DERIVED. GIVEN WITH THE SEED: THE PROGRAM's TIES (one call each: nine closed facts by the kernel) AND EACH ROW's TIE, after the 31st guide's Derived/Test/Toyas{Tie, Card}.lean. No idea stands in it: it is a product of the set-up. Laid BY PROGRAM, IN A SANDBOX (cutbox-door.mjs). By AI agents, Wed Nov 11 2026. No macro, syntax, notation, axiom, sorry.
-/
import Derived.Test.YthkkhinmdlmhkaaDoorRows
import Derived.LaidByTextLater
import Derived.SevenTiedAt
import Derived.LaidSub
import Derived.LaidOnce
namespace Go.Proofs.YthkkhinmdlmhkaaDoor
open Go
set_option maxRecDepth 100000
theorem seatTie1 : Tryd.prog.laidByTextLater [("loop.example/g00373/impl.opForms", Rows.laid_loop_example_g00373_impl_opForms), ("loop.example/g00373/impl.errShape", Rows.laid_loop_example_g00373_impl_errShape), ("loop.example/g00373/impl.errStack", Rows.laid_loop_example_g00373_impl_errStack), ("loop.example/g00373/impl.errRest", Rows.laid_loop_example_g00373_impl_errRest), ("loop.example/g00373/impl.errDeep", Rows.laid_loop_example_g00373_impl_errDeep), ("loop.example/g00373/impl.errTrap", Rows.laid_loop_example_g00373_impl_errTrap)] [.data, .sentinel, .sentinel, .sentinel, .sentinel, .sentinel] true :=
  Program.laidByTextLater_by_one 131 8 47 (by kernel_rfl) (by kernel_rfl) (by kernel_rfl) (by kernel_rfl) (by kernel_rfl) (by kernel_rfl) (fun _ _ => by kernel_rfl)
theorem noOwnUnsafe : Tryd.pinned.checked.prog.headLifts.contains "ownunsafe" = false := by kernel_rfl
theorem tie : Tryd.prog.laidByTextLater [("loop.example/g00373/impl.opForms", Rows.laid_loop_example_g00373_impl_opForms), ("loop.example/g00373/impl.errShape", Rows.laid_loop_example_g00373_impl_errShape), ("loop.example/g00373/impl.errStack", Rows.laid_loop_example_g00373_impl_errStack), ("loop.example/g00373/impl.errRest", Rows.laid_loop_example_g00373_impl_errRest), ("loop.example/g00373/impl.errDeep", Rows.laid_loop_example_g00373_impl_errDeep), ("loop.example/g00373/impl.errTrap", Rows.laid_loop_example_g00373_impl_errTrap)] [.data, .sentinel, .sentinel, .sentinel, .sentinel, .sentinel] true :=
  Program.laidByTextLater.sub seatTie1 ["loop.example/g00373/impl.opForms", "loop.example/g00373/impl.errShape", "loop.example/g00373/impl.errStack", "loop.example/g00373/impl.errRest", "loop.example/g00373/impl.errDeep", "loop.example/g00373/impl.errTrap"] (by kernel_rfl) (by kernel_rfl)
theorem fnExactRunSteps_row_tie : Rows.fnExactRunStepsRow.laidByTextAt .later Tryd.pinned [.data, .sentinel, .sentinel, .sentinel, .sentinel, .sentinel] true :=
  OpenClaim.laidByTextAt_later rfl rfl tie noOwnUnsafe
theorem fnExactStepsDone_row_tie : Rows.fnExactStepsDoneRow.laidByTextAt .later Tryd.pinned [.data, .sentinel, .sentinel, .sentinel, .sentinel, .sentinel] true :=
  OpenClaim.laidByTextAt_later rfl rfl tie noOwnUnsafe
theorem fnExactSameRuns_row_tie : Rows.fnExactSameRunsRow.laidByTextAt .later Tryd.pinned [.data, .sentinel, .sentinel, .sentinel, .sentinel, .sentinel] true :=
  OpenClaim.laidByTextAt_later rfl rfl tie noOwnUnsafe
theorem fnExactRunStepsUpto_row_tie : Rows.fnExactRunStepsUptoRow.laidByTextAt .later Tryd.pinned [.data, .sentinel, .sentinel, .sentinel, .sentinel, .sentinel] true :=
  OpenClaim.laidByTextAt_later rfl rfl tie noOwnUnsafe
theorem fnExactStepsDoneUpto_row_tie : Rows.fnExactStepsDoneUptoRow.laidByTextAt .later Tryd.pinned [.data, .sentinel, .sentinel, .sentinel, .sentinel, .sentinel] true :=
  OpenClaim.laidByTextAt_later rfl rfl tie noOwnUnsafe
theorem fnExactSameRunsUpto_row_tie : Rows.fnExactSameRunsUptoRow.laidByTextAt .later Tryd.pinned [.data, .sentinel, .sentinel, .sentinel, .sentinel, .sentinel] true :=
  OpenClaim.laidByTextAt_later rfl rfl tie noOwnUnsafe
end Go.Proofs.YthkkhinmdlmhkaaDoor
