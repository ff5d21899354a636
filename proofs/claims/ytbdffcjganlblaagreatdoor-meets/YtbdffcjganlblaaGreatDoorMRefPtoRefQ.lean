/-
  Own work. The document's tables: the slices of one frame.
-/
import Derived.Test.YtbdffcjganlblaaGreatDoorMRefHtoRefI
import Derived.Test.YtbdffcjganlblaaGreatDoorMRefMtoRefO
import Derived.Test.YtbdffcjganlblaaGreatDoorMTabBtoPlC
namespace Go.Proofs.YtbdffcjganlblaaGreatDoor
open Go.RowKit
set_option linter.unusedVariables false
set_option linter.unusedSimpArgs false

section
variable {w : World} {b r cap : Nat} {T : List PT} {i : Nat} {bad : Bool}

end

section
variable {w wk : World} {b r cap : Nat} {T : List PT} {i : Nat} {bad : Bool} {v : Value} {n : Nat} {xs : List Value}
end

section
variable {w : World} {b r cap : Nat} {T : List PT} {i : Nat}

end
end Go.Proofs.YtbdffcjganlblaaGreatDoor

namespace Go.Proofs.YtbdffcjganlblaaGreatDoor
open Go.RowKit
set_option linter.unusedVariables false
set_option linter.unusedSimpArgs false

def fsk (l : List FSl) (k : Nat) : FSl := l.getD k (0, ⟨0, 0, 0⟩)
theorem fsk_eq {l : List FSl} {k : Nat} (h : k < l.length) : l[k] = fsk l k := by simp [fsk, List.getD_eq_getElem?_getD, h]
section
variable {w wr : World} {c f : Nat} {sv : Value}
end

/-- An answer that says whether Q. -/
def BoolPost (Q : Prop) (w : World) (e : Ending) (w' : World) : Prop := ∃ b : Bool, e = .returned (.bool b) ∧ (b = true ↔ Q) ∧ Below w.heap.size w w'
theorem boolPost_no {Q : Prop} {w w' : World} {v : Value} (hv : v = .bool false) (h : ¬ Q) (hb : Below w.heap.size w w') : BoolPost Q w (.returned v) w' := ⟨false, by rw [hv], by simp [h], hb⟩
theorem boolPost_yes {Q : Prop} {w w' : World} {v : Value} (hv : v = .bool true) (h : Q) (hb : Below w.heap.size w w') : BoolPost Q w (.returned v) w' := ⟨true, by rw [hv], by simp [h], hb⟩

def FSl.small (x : FSl) : Prop := x.1 ≤ 60 ∧ x.2.job ≤ 9999 ∧ x.2.bud ≤ 9999

theorem take_next {l : List FSl} {k : Nat} (h : k < l.length) : l.take (k + 1) = l.take k ++ [fsk l k] := by
  rw [List.take_succ_eq_append_getElem h, fsk_eq h]
end Go.Proofs.YtbdffcjganlblaaGreatDoor
