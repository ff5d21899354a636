/-
  Own work. The document's Keeps, where a table keeps the set.
-/
import Derived.Test.YtbdffcjganlblaaGreatDoorDsFtoMtD
import Derived.Test.YtbdffcjganlblaaGreatDoorDsGtoAlB
import Derived.Test.YtbdffcjganlblaaGreatDoorDsGtoAlB
import Derived.Test.YtbdffcjganlblaaGreatDoorPnMtoCmA
import Derived.Test.YtbdffcjganlblaaGreatDoorPnFtoEdC
namespace Go.Proofs.YtbdffcjganlblaaGreatDoor
open Go.RowKit
set_option linter.unusedVariables false
set_option linter.unusedSimpArgs false

section
variable {w : World} {tv pv sv : Value} {c f : Nat} {wr : World}
end
end Go.Proofs.YtbdffcjganlblaaGreatDoor
