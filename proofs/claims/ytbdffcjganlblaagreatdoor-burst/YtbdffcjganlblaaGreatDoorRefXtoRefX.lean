/-
  Own work. The document's tables: the walk of ReadTable.
-/
import Derived.Test.YtbdffcjganlblaaGreatDoorRefVtoRefW
import Derived.Deep.RegionLaw
import Derived.Deep.DeepCutAuto
namespace Go.Proofs.YtbdffcjganlblaaGreatDoor
open Go.RowKit
set_option linter.unusedVariables false
set_option linter.unusedSimpArgs false

theorem RX.grow {w wk : World} {B r cap : Nat} {T : List PT} {i : Nat} {bad : Bool} {X c f : Nat} {sv : Value} (h : RX w wk B r cap T i bad X c f sv) {n : Nat} {xs : List Value} {o1 : Obj} {w2 : World} (how : wk.ownsRow (B + 1) 44 4 sv n xs) (hg : (wk.alloc o1).drew.grownBy w2 sv.ownBlock) : w2.heap[X]? = some (.cells #[.int .i64 c, .int .i64 f, sv] 39 (0, 0)) := by
  have hX := blk_lt h.hx
  have hg' : (wk.alloc o1).grownBy w2 sv.ownBlock := ⟨hg.os, hg.tape, hg.output, hg.size, hg.block⟩
  rw [hg'.block X (by simp; omega) (fun e => own_type how h.hx (by decide) e.symm), Below.heap_alloc _ _ _ hX]
  exact h.hx
end Go.Proofs.YtbdffcjganlblaaGreatDoor
