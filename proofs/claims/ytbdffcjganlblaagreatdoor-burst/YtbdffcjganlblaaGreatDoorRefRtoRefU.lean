/-
  Own work. The document's tables: budgets; numbers written out.
-/
import Derived.Test.YtbdffcjganlblaaGreatDoorTabBtoRefQ
import Derived.Test.YtbdffcjganlblaaGreatDoorLaystoLays
import Derived.Lib.ItoaLen
import Derived.Lib.LaidTab
import Derived.Laws.MakeOwn
import Derived.Deep.DeepCutAuto
import Derived.Deep.RegionWith
import Derived.Deep.RegionHeldLaw
import Derived.Test.YtbdffcjganlblaaGreatDoorProgEtoTabA
import Derived.Deep.RegionLaw
namespace Go.Proofs.YtbdffcjganlblaaGreatDoor
open Go.RowKit Go.Shelf
set_option linter.unusedVariables false
set_option linter.unusedSimpArgs false

/-! ### Numbers -/
/-- The library's table of powers of ten is as it was laid. -/
def T10 (w : World) : Prop := Lib.TabIs Tryz.prog w "internal/strconv.uint64pow10" .u64 Lib.pow10Tab
theorem T10.below {w w' : World} (h : T10 w) (hb : Below w.heap.size w w') : T10 w' := by
  unfold T10 Lib.TabIs World.var? at h ⊢
  cases hg : Tryz.prog.globalNamed "internal/strconv.uint64pow10" with
  | none => rw [hg] at h; simp at h
  | some g =>
    rw [hg] at h
    simp only [Option.bind_some] at h ⊢
    cases hc : w.heap[g]? with
    | none => rw [hc] at h; simp at h
    | some o =>
      rw [hb.block g (blk_lt hc)]
      exact h
/-! ### Budgets -/
structure UB (w wr : World) (c f : Nat) (sv : Value) (l : List FSl) (k : Nat) : Prop where
  t : TBx w wr c f sv
  u : ∀ j, j < c → wr.cell? ⟨w.heap.size + 1, j, none⟩ = some (.int .i64 (usedJ (l.take k) j : Nat))
  fz : ∀ j, wr.frozen? ⟨w.heap.size + 1, j, none⟩ = false
  lt : w.heap.size + 1 < wr.heap.size
section
variable {w wr : World} {c f : Nat} {sv : Value} {l : List FSl} {k : Nat}
theorem UB.drewN (h : UB w wr c f sv l k) (n : Nat) : UB w (wr.drewN n) c f sv l k := ⟨h.t.drewN n, h.u, h.fz, h.lt⟩
theorem UB.set (h : UB w wr c f sv l k) (hk : k < l.length) (hj : (fsk l k).1 < c) : UB w (wr.setCell ⟨w.heap.size + 1, (fsk l k).1, none⟩ (.int .i64 (usedJ (l.take k) (fsk l k).1 + (fsk l k).2.bud : Nat))) c f sv l (k + 1) := by
  refine ⟨⟨?_, h.t.b.setCell (by show w.heap.size ≤ w.heap.size + 1; omega) _⟩, ?_, ?_, by rw [heap_set_size]; exact h.lt⟩
  · rw [Below.heap_setCell _ _ _ _ (by show w.heap.size ≠ w.heap.size + 1; omega)]; exact h.t.h
  · intro j hjc
    rw [take_next hk, usedJ_app]
    by_cases hjj : j = (fsk l k).1
    · subst hjj
      rw [set_same (h.u _ hjc)]
      simp [usedJ]
    · have h0 : usedJ [fsk l k] j = 0 := by
        simp only [usedJ]
        rw [if_neg (fun e => hjj e.symm)]
      rw [set_other (by intro e; injection e with _ e2; exact hjj e2.symm), h.u j hjc, h0, Nat.add_zero]
  · intro j
    simpa using h.fz j
end
end Go.Proofs.YtbdffcjganlblaaGreatDoor

namespace Go.Proofs.YtbdffcjganlblaaGreatDoor
open Go.RowKit
set_option linter.unusedVariables false
set_option linter.unusedSimpArgs false

def zerosA (c : Nat) : Array Value := madeCells (Value.int .i64 0).cells c
theorem zerosA_at (c j : Nat) (h : j < c) : (zerosA c)[j]? = some (.int .i64 0) := by
  simp [zerosA, madeCells, h, Value.cells, Nat.mod_one]
theorem UB.start (w : World) (c f : Nat) (sv : Value) (l : List FSl) : UB w ((w.alloc (.cells #[.int .i64 c, .int .i64 f, sv] 39)).alloc (.cells (zerosA c) 3)) c f sv l 0 := by
  have hb := blk_new (w.alloc (.cells #[.int .i64 c, .int .i64 f, sv] 39)) (zerosA c) 3
  simp only [World.size_alloc] at hb
  refine ⟨(TBx.start w c f sv).alloc _, ?_, blk_frozen hb, by simp⟩
  intro j hj
  rw [blk_cell hb, zerosA_at c j hj]
  simp [usedJ]

end Go.Proofs.YtbdffcjganlblaaGreatDoor

namespace Go.Proofs.YtbdffcjganlblaaGreatDoor
open Go.RowKit
set_option linter.unusedVariables false
set_option linter.unusedSimpArgs false

/-- A sum of two strings, under a name. -/
theorem add_named2 (a b : ByteArray) (h : a.size + b.size ≤ 4000000) : ∃ X : ByteArray, (∀ w : World, (Op.stringOp .add a b).run Tryz.prog w = .ok (.string X) w) ∧ X.size = a.size + b.size ∧ X.data.toList = a.data.toList ++ b.data.toList :=
  ⟨a ++ b, fun w => run_string_add_sum w a b (by omega), by simp [ByteArray.size_append], by simp [ByteArray.data_append]⟩
theorem bytes1 (c : UInt8) (W : World) (b : Nat) (h : W.cell? ⟨b, 0, none⟩ = some (.int .u8 c.toNat)) : (convert 64 9 (.slice (some ⟨b, 0, none⟩) 1 1)).run Tryz.prog W = .ok (.string ⟨#[c]⟩) W := by
  refine run_convert_bytes_back _ 64 9 5 ⟨b, 0, none⟩ 1 [c] Tryz.underlying64 Tryz.underlying5 Tryz.underlying9 ?_
  intro j hj
  have h0 : j = 0 := by simpa using hj
  subst h0
  exact h

end Go.Proofs.YtbdffcjganlblaaGreatDoor

namespace Go.Proofs.YtbdffcjganlblaaGreatDoor
open Go.RowKit
set_option linter.unusedVariables false
set_option linter.unusedSimpArgs false

/-! ### A row that grows beside another -/
/-- The row lies above Lb, or opens with what the row in Lb does not open with. -/
def InvL (base Lb : Nat) (e : TypeId) (size : Nat) (z : Value) (w : World) (v : Value) (n : Nat) (xs : List Value) : Prop :=
  w.ownsRow (Lb + 1) e size v n xs ∨ (w.ownsRow base e size v n xs ∧ v.ownBlock ≠ some Lb ∧ ∃ u rest, xs = u :: rest ∧ u ≠ z)
theorem InvL.own {base Lb : Nat} {e : TypeId} {size : Nat} {z : Value} {w : World} {v : Value} {n : Nat} {xs : List Value} (h : InvL base Lb e size z w v n xs) (hb : base ≤ Lb + 1) : w.ownsRow base e size v n xs := by
  rcases h with h | h
  · exact own_weak h hb
  · exact h.1
theorem InvL.apart {base Lb : Nat} {e : TypeId} {size : Nat} {z : Value} {w : World} {v : Value} {n : Nat} {xs : List Value} (h : InvL base Lb e size z w v n xs) : v.ownBlock ≠ some Lb := by
  rcases h with h | h
  · exact own_ge h (Nat.lt_succ_self _)
  · exact h.2.1
theorem InvL.kept {base Lb : Nat} {e : TypeId} {size : Nat} {z : Value} {w w' : World} {v : Value} {n : Nat} {xs : List Value} (h : InvL base Lb e size z w v n xs) {row : Option Nat} (g : w.grownBy w' row) (hr : v.ownBlock = none ∨ v.ownBlock ≠ row) : InvL base Lb e size z w' v n xs := by
  rcases h with h | ⟨h, h2, h3⟩
  · exact .inl (h.kept g hr)
  · exact .inr ⟨h.kept g hr, h2, h3⟩

end Go.Proofs.YtbdffcjganlblaaGreatDoor
