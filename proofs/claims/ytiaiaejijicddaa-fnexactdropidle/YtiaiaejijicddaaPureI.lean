/- The program's test on a flat step, there being so many names. -/
import Derived.Test.YtiaiaejijicddaaPureB
import Derived.Test.YtiaiaejijicddaaPureC
import Derived.Test.YtiaiaejijicddaaPureD
import Derived.Test.YtiaiaejijicddaaPureE
namespace Go.Proofs.Ytiaiaejijicddaa
open Go.RowKit
set_option linter.unusedVariables false
set_option linter.unusedSimpArgs false
set_option maxRecDepth 100000

theorem goodFlat_any (m p d t x y n : Int) (w : World) :
    Calls Try.prog 31 #[.agg #[.int .i64 p, .int .i64 d, .int .i64 t, .int .i64 x, .int .i64 y, .int .i64 n], .int .i64 m] w fun e w' => e = .returned (.bool (goodFm m ⟨p, d, t, x, y, n⟩)) ∧ Below w.heap.size w w' := by
  by_cases h1 : p = 1
  · subst h1; exact goodFlat_1 m d t x y n w
  by_cases h2 : p = 2
  · subst h2; exact goodFlat_2 m d t x y n w
  by_cases h3 : p = 3
  · subst h3; exact goodFlat_3 m d t x y n w
  by_cases h4 : p = 4
  · subst h4; exact goodFlat_4 m d t x y n w
  by_cases h5 : p = 5
  · subst h5; exact goodFlat_5 m d t x y n w
  by_cases h6 : p = 6
  · subst h6; exact goodFlat_6 m d t x y n w
  exact goodFlat_0 m p d t x y n w h1 h2 h3 h4 h5 h6
end Go.Proofs.Ytiaiaejijicddaa
