/-
  Own work. The document's run: the trace.
-/
import Derived.Test.YtbdffcjganlblaaGreatDoorRunDtoPrA
import Derived.Deep.RegionHeldLaw
import Derived.Deep.DeepCutAuto
namespace Go.Proofs.YtbdffcjganlblaaGreatDoor
open Go.RowKit
set_option linter.unusedVariables false
set_option linter.unusedSimpArgs false

theorem CostsAt.below {w w' : World} {a : Option Addr} {cs : List Int} (h : CostsAt w a cs) (hb : Below w.heap.size w w') : CostsAt w' a cs := by
  rcases h with h | ⟨b, off, h1, h2, h3⟩
  · exact .inl h
  · exact .inr ⟨b, off, h1, Nat.lt_of_lt_of_le h2 hb.size, fun k hk => (hb.cell (p := ⟨b, off + k, none⟩) h2).trans (h3 k hk)⟩

theorem TrX.start {w w1 : World} {c f : Nat} {sv : Value} (hT : TBx w w1 c f sv) (n : Nat) (hn : n ≤ 1000) : TrX w (w1.alloc (.cells (zerosA n) 3)) c f sv w1.heap.size n (fun _ => 0) := by
  have hb := blk_new w1 (zerosA n) 3
  refine ⟨hT.alloc _, ?_, blk_frozen hb, blk_lt hT.h, by simp⟩
  intro j hj
  rw [blk_cell hb, zerosA_at n j hj]

end Go.Proofs.YtbdffcjganlblaaGreatDoor
