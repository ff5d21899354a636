/-
  Own work. The document's answer: Print.
-/
import Derived.Test.YtbdffcjganlblaaGreatDoorRefMtoRefN
import Derived.Deep.RegionWith
import Derived.Deep.DeepCutAuto
import Derived.Test.YtbdffcjganlblaaGreatDoorRefItoProgA
import Derived.Test.YtbdffcjganlblaaGreatDoorProgEtoTabA
namespace Go.Proofs.YtbdffcjganlblaaGreatDoor
open Go.RowKit
set_option linter.unusedVariables false
set_option linter.unusedSimpArgs false

def dL (n : Nat) : List UInt8 := (dB n).data.toList
theorem dL_len (n : Nat) : (dL n).length ≤ 2 := by
  have := dB_size n
  simpa [dL] using this
end Go.Proofs.YtbdffcjganlblaaGreatDoor

namespace Go.Proofs.YtbdffcjganlblaaGreatDoor
open Go.RowKit
set_option linter.unusedVariables false
set_option linter.unusedSimpArgs false

section
variable {w : World} {b r cap : Nat} {T : List PT} {i : Nat} {bad : Bool}

end

/-- The memory of slices. -/
structure SW (w wk : World) (b r cap : Nat) (T : List PT) (i : Nat) (bad : Bool) (v : Value) (n : Nat) (xs : List Value) : Prop where
  ps : PS wk b r cap T i bad
  ow : wk.ownsRow w.heap.size 44 4 v n xs
  g : w.grownBy wk (some b)
  hb : b < w.heap.size
  hr : r < w.heap.size

section
variable {w wk : World} {b r cap : Nat} {T : List PT} {i : Nat} {bad : Bool} {v : Value} {n : Nat} {xs : List Value}
theorem SW.call (h : SW w wk b r cap T i bad v n xs) {w' : World} {i' : Nat} {bad' : Bool} (p : PS w' b r cap T i' bad') (g : wk.grownBy w' (some b)) : SW w w' b r cap T i' bad' v n xs :=
  ⟨p, h.ow.kept g (.inr (own_ge h.ow h.hb)), grownBy_trans h.g g, h.hb, h.hr⟩
theorem SW.push (h : SW w wk b r cap T i bad v n xs) {o : Obj} {w2 : World} {v' : Value} {news : List Value} {m : Nat} (hg : (wk.alloc o).grownBy w2 v.ownBlock) (hown : w2.ownsRow w.heap.size 44 4 v' m news) : SW w w2 b r cap T i bad v' m news := by
  have hb := h.hb
  have hr := h.hr
  have hsz := h.g.size
  refine ⟨(h.ps.alloc o).grown hg (own_ge h.ow hb) (own_ge h.ow hr), hown, ?_, hb, hr⟩
  have ha := grownBy_alloc' h.g o
  refine ⟨hg.os.trans ha.os, hg.tape.trans ha.tape, hg.output.trans ha.output, Nat.le_trans ha.size hg.size, fun k hk hne => ?_⟩
  rw [hg.block k (by simp; omega) (fun e => own_ge h.ow hk e.symm)]
  exact ha.block k hk hne
end

theorem u8_back (v : Nat) (h : v < 256) : (UInt8.ofNat v).toNat = v := by simp; omega

section
variable {w : World} {b r cap : Nat} {T : List PT} {i : Nat}

end
end Go.Proofs.YtbdffcjganlblaaGreatDoor
