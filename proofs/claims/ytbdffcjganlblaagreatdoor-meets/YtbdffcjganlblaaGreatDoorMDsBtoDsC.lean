/-
  Own work. The document's flow: memory; fits.
-/
import Derived.Test.YtbdffcjganlblaaGreatDoorMPnFtoEdC
import Derived.Test.YtbdffcjganlblaaGreatDoorMEdAtoEdF
import Derived.Test.YtbdffcjganlblaaGreatDoorMRefRtoProgA
namespace Go.Proofs.YtbdffcjganlblaaGreatDoor
open Go.RowKit
set_option linter.unusedVariables false
set_option linter.unusedSimpArgs false

section
variable {w w' : World} {g : Nat} {ty : TypeId} {m : Nat} {f : Nat → Value}
end

section
variable {js : List Jb} {F n P gL gH gU gS cL cH cU : Nat} {s : FS} {w w' : World}
end
end Go.Proofs.YtbdffcjganlblaaGreatDoor

namespace Go.Proofs.YtbdffcjganlblaaGreatDoor
open Go.RowKit
set_option linter.unusedVariables false
set_option linter.unusedSimpArgs false

end Go.Proofs.YtbdffcjganlblaaGreatDoor
