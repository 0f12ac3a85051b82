/- The document's exprFault at every expression. -/
import Derived.Test.YteblglkmkakcjaaCRefA
import Derived.Test.YteblglkmkakcjaaCRefB
import Derived.Test.YteblglkmkakcjaaCRefC
import Derived.Test.YteblglkmkakcjaaCRefD
import Derived.Test.YteblglkmkakcjaaCRefE
import Derived.Test.YteblglkmkakcjaaCRefF
import Derived.Test.YteblglkmkakcjaaCRefG
import Derived.Test.YteblglkmkakcjaaCRefH
import Derived.Test.YteblglkmkakcjaaCRefI
import Derived.Test.YteblglkmkakcjaaCRefJ
import Derived.Test.YteblglkmkakcjaaCWalk
namespace Go.Proofs.Yteblglkmkakcjaa
set_option maxRecDepth 100000
open Go.RowKit Go.WideMaps Go.Maps
theorem rf_all (W : World) (B : Nat) (pu : Bool) (olds ro : Int) (hro : RoOk pu olds ro) : ∀ d y l, RfAt W B pu olds ro d y l := by
  intro d
  induction d with
  | zero => intro y l ba bs bl bc w _ _ hF; exact absurd hF (by simp [FineX])
  | succ d ih =>
    intro y l
    by_cases hk : y.k < 1 ∨ 15 < y.k
    · exact rf_0 W B pu olds ro hro d ih y l hk
    · rcases kinds (show 1 ≤ y.k by omega) (by omega) with h | h | h | h | h | h | h | h | h | h | h | h | h | h | h
      · exact rf_1 W B pu olds ro hro d ih y l h
      · exact rf_2 W B pu olds ro hro d ih y l h
      · exact rf_3 W B pu olds ro hro d ih y l h
      · exact rf_4 W B pu olds ro hro d ih y l h
      · exact rf_5 W B pu olds ro hro d ih y l h
      · exact rf_6 W B pu olds ro hro d ih y l h
      · exact rf_7 W B pu olds ro hro d ih y l h
      · exact rf_8 W B pu olds ro hro d ih y l h
      · exact rf_9 W B pu olds ro hro d ih y l h
      · exact rf_10 W B pu olds ro hro d ih y l h
      · exact rf_11 W B pu olds ro hro d ih y l h
      · exact rf_12 W B pu olds ro hro d ih y l h
      · exact rf_13 W B pu olds ro hro d ih y l h
      · exact rf_14 W B pu olds ro hro d ih y l h
      · exact rf_15 W B pu olds ro hro d ih y l h
end Go.Proofs.Yteblglkmkakcjaa
