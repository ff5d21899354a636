/-
  Own work. The document's look at a pair: ordered, where it is kept.
-/
import Derived.Test.YtbdffcjganlblaaGreatDoorMRunAtoRunD
import Derived.Test.YtbdffcjganlblaaGreatDoorMRefJtoRefL
import Derived.Test.YtbdffcjganlblaaGreatDoorMRunFtoLawO
import Derived.Test.YtbdffcjganlblaaGreatDoorMTbCtoPrE
namespace Go.Proofs.YtbdffcjganlblaaGreatDoor
open Go.RowKit
set_option linter.unusedVariables false
set_option linter.unusedSimpArgs false

section
variable {w wr : World} {c f : Nat} {sv : Value} {p : Pr}
end

end Go.Proofs.YtbdffcjganlblaaGreatDoor

namespace Go.Proofs.YtbdffcjganlblaaGreatDoor
open Go.RowKit
set_option linter.unusedVariables false
set_option linter.unusedSimpArgs false

end Go.Proofs.YtbdffcjganlblaaGreatDoor
