/-
  Own work. The document's checks: meant.
-/
import Derived.Test.YtbdffcjganlblaaGreatDoorTbCtoRefK
namespace Go.Proofs.YtbdffcjganlblaaGreatDoor
open Go.RowKit
set_option linter.unusedVariables false
set_option linter.unusedSimpArgs false

def stepT1 (ts : List Tk) (k : Nat) (f : Nat × Nat) : Nat × Nat := if findI ts (tsk ts k).nm < k then soon f 3 (tsk ts k).q0 else f
def stepT (ts : List Tk) (k : Nat) (f : Nat × Nat) : Nat × Nat := if 0 ≤ timedI (tsk ts k) then soon (stepT1 ts k f) 4 (timedI (tsk ts k)).toNat else stepT1 ts k f
def mT (ts : List Tk) : Nat → Nat × Nat
  | 0 => (0, 0)
  | k + 1 => stepT ts k (mT ts k)

def stepP1 (ts : List Tk) (p : Pr) (f : Nat × Nat) : Nat × Nat := if findI ts p.a < 0 then soon f 3 p.q0 else f
def stepP2 (ts : List Tk) (p : Pr) (f : Nat × Nat) : Nat × Nat := if findI ts p.b < 0 then soon (stepP1 ts p f) 3 p.q1 else stepP1 ts p f
def badPair (ts : List Tk) (p : Pr) : Bool :=
  decide (0 ≤ findI ts p.a) && decide (0 ≤ findI ts p.b) && (decide (findI ts p.a = findI ts p.b) || (!p.ap && decide ((tsk ts (findI ts p.a).toNat).P ≠ (tsk ts (findI ts p.b).toNat).P)))
def stepP (ts : List Tk) (p : Pr) (f : Nat × Nat) : Nat × Nat := if badPair ts p then soon (stepP2 ts p f) 5 p.q1 else stepP2 ts p f
def mP (ts : List Tk) (ps : List Pr) : Nat → Nat × Nat
  | 0 => mT ts ts.length
  | k + 1 => stepP ts (psk ps k) (mP ts ps k)
def meantI (ts : List Tk) (ps : List Pr) : Nat × Nat := mP ts ps ps.length

theorem findF_lt (ts : List Tk) (c : UInt8) : ∀ (f k : Nat), findF ts c f k < k + f ∧ -1 ≤ findF ts c f k
  | 0, k => by simp [findF]; omega
  | f + 1, k => by
    rw [findF]
    have := findF_lt ts c f (k + 1)
    split
    · omega
    · omega
/-- The memory of meant: the set, the result, the fault so far. -/
structure MB (w wr : World) (tv pv : Value) (f : Nat × Nat) : Prop where
  h0 : wr.heap[w.heap.size]? = some (.cells #[tv, pv] 53 (0, 0))
  h1 : wr.heap[w.heap.size + 1]? = some (.cells #[.int .i64 0, .int .i64 0] 88 (0, 0))
  h2 : wr.heap[w.heap.size + 1 + 1]? = some (.cells #[.int .i64 f.1, .int .i64 f.2] 88 (0, 0))
  b : Below w.heap.size w wr

section
variable {w wr : World} {tv pv : Value} {f : Nat × Nat}
theorem MB.keep (h : MB w wr tv pv f) {w' : World} (hb : Below wr.heap.size wr w') : MB w w' tv pv f :=
  ⟨by rw [hb.block _ (blk_lt h.h0)]; exact h.h0, by rw [hb.block _ (blk_lt h.h1)]; exact h.h1, by rw [hb.block _ (blk_lt h.h2)]; exact h.h2, h.b.trans (hb.mono h.b.size)⟩
theorem MB.alloc (h : MB w wr tv pv f) (o : Obj) : MB w (wr.alloc o) tv pv f := h.keep (below_new _ _)
theorem MB.drewN (h : MB w wr tv pv f) (n : Nat) : MB w (wr.drewN n) tv pv f := h.keep (below_drewN (Below.refl _ _) n)
theorem MB.cells (h : MB w wr tv pv f) : wr.cell? ⟨w.heap.size, 0, none⟩ = some tv ∧ wr.cell? ⟨w.heap.size, 1, none⟩ = some pv ∧ wr.cell? ⟨w.heap.size + 1 + 1, 0, none⟩ = some (.int .i64 f.1) ∧ wr.cell? ⟨w.heap.size + 1 + 1, 1, none⟩ = some (.int .i64 f.2) ∧
    (∀ o, wr.frozen? ⟨w.heap.size + 1 + 1, o, none⟩ = false) ∧ (∀ o, wr.cell? ⟨w.heap.size + 1, o, none⟩ = #[Value.int .i64 0, .int .i64 0][o]?) ∧ (∀ o, wr.frozen? ⟨w.heap.size + 1, o, none⟩ = false) :=
  ⟨by rw [blk_cell h.h0]; rfl, by rw [blk_cell h.h0]; rfl, by rw [blk_cell h.h2]; rfl, by rw [blk_cell h.h2]; rfl, blk_frozen h.h2, blk_cell h.h1, blk_frozen h.h1⟩
theorem MB.start (w : World) (tv pv : Value) : MB w (((w.alloc (.cells #[tv, pv] 53)).alloc (.cells #[.int .i64 0, .int .i64 0] 88)).alloc (.cells #[.int .i64 0, .int .i64 0] 88)) tv pv (0, 0) := by
  refine ⟨?_, ?_, ?_, ((below_new w _).alloc (by simp) _).alloc (by simp; omega) _⟩
  · rw [Below.heap_alloc _ _ _ (by simp; omega), Below.heap_alloc _ _ _ (by simp)]; exact blk_new _ _ _
  · rw [Below.heap_alloc _ _ _ (by simp)]; simpa using blk_new (w.alloc (.cells #[tv, pv] 53)) #[.int .i64 0, .int .i64 0] 88
  · simpa using blk_new ((w.alloc (.cells #[tv, pv] 53)).alloc (.cells #[.int .i64 0, .int .i64 0] 88)) #[.int .i64 0, .int .i64 0] 88
end

/-- A block of w is one of what comes of it. -/
theorem blk_keep {w w' : World} {X : Nat} {o : Obj} (h : w.heap[X]? = some o) (hb : Below w.heap.size w w') : w'.heap[X]? = some o := by
  rw [hb.block _ (blk_lt h)]; exact h
end Go.Proofs.YtbdffcjganlblaaGreatDoor
