/- The law on names is true at every two lists of bytes, the long ones too. -/
import Derived.Test.YtjbmkkoggocemaaLawNames
import Derived.Test.YtjbmkkoggocemaaCodeArg
namespace Go.Proofs.Ytjbmkkoggocemaa
open Go.RowKit
set_option linter.unusedVariables false

theorem lawNames (a0 a1 : Option Addr) (z0 z1 : List Int) (c0 c1 : Nat) (w : World) (h0 : Code w a0 z0) (h1 : Code w a1 z1) :
    Calls Try.prog 3 #[.slice a0 z0.length c0, .slice a1 z1.length c1] w fun e w' => e = .returned (.bool true) ∧ Below w.heap.size w w' := by
  by_cases hg : 1048576 < wrap64 ((z0.length : Int) + z1.length)
  · have hl0 := h0.1
    have hl1 := h1.1
    go_enter Try.func3, Try.ntmps3
    go_wp2
    go_ret
    exact ⟨rfl, Below.refl _ _⟩
  · exact lawNames_go a0 a1 z0 z1 c0 c1 w h0 h1 hg
end Go.Proofs.Ytjbmkkoggocemaa
