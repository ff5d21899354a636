/-
  Own work. The document's run: which slice a time belongs to; where a slice begins.
-/
import Derived.Test.YtbdffcjganlblaaGreatDoorRunAtoRunC
namespace Go.Proofs.YtbdffcjganlblaaGreatDoor
open Go.RowKit
set_option linter.unusedVariables false
set_option linter.unusedSimpArgs false

/-- Slice i of frame j ends here. -/
def endI (l : List FSl) (fr j i : Nat) : Nat := j * fr + usedJ (l.take i) j + (fsk l i).2.bud
def hitI (l : List FSl) (fr u i : Nat) : Prop := (fsk l i).1 = u / fr ∧ u < endI l fr (u / fr) i
instance (l : List FSl) (fr u i : Nat) : Decidable (hitI l fr u i) := by unfold hitI; infer_instance
end Go.Proofs.YtbdffcjganlblaaGreatDoor

namespace Go.Proofs.YtbdffcjganlblaaGreatDoor
open Go.RowKit
set_option linter.unusedVariables false
set_option linter.unusedSimpArgs false

section
variable {w wr : World} {c f : Nat} {sv : Value} {X n : Nat} {L : Nat → Int}
end
end Go.Proofs.YtbdffcjganlblaaGreatDoor

namespace Go.Proofs.YtbdffcjganlblaaGreatDoor
set_option linter.unusedVariables false
set_option linter.unusedSimpArgs false

/-! ### Slices that lie one behind the other -/
/-! ### The jobs by their numbers -/
end Go.Proofs.YtbdffcjganlblaaGreatDoor
