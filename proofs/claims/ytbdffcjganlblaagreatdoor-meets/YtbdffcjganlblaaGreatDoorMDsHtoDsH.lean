/-
  Own work. The document's Keeps, where a table keeps the set.
-/
import Derived.Test.YtbdffcjganlblaaGreatDoorMDsFtoMtD
import Derived.Test.YtbdffcjganlblaaGreatDoorMDsGtoAlB
import Derived.Test.YtbdffcjganlblaaGreatDoorMDsGtoAlB
import Derived.Test.YtbdffcjganlblaaGreatDoorMPnMtoCmA
import Derived.Test.YtbdffcjganlblaaGreatDoorMPnFtoEdC
namespace Go.Proofs.YtbdffcjganlblaaGreatDoor
open Go.RowKit
set_option linter.unusedVariables false
set_option linter.unusedSimpArgs false

section
variable {w : World} {tv pv sv : Value} {c f : Nat} {wr : World}
end
end Go.Proofs.YtbdffcjganlblaaGreatDoor
