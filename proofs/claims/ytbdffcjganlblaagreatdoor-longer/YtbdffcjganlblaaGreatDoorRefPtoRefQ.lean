/-
  Own work. The document's tables: the slices of one frame.
-/
import Derived.Test.YtbdffcjganlblaaGreatDoorRefItoRefJ
import Derived.Test.YtbdffcjganlblaaGreatDoorMpStoTabA
import Derived.Test.YtbdffcjganlblaaGreatDoorRefOtoTabB
namespace Go.Proofs.YtbdffcjganlblaaGreatDoor
open Go.RowKit
set_option linter.unusedVariables false
set_option linter.unusedSimpArgs false

section
variable {w : World} {b r cap : Nat} {T : List PT} {i : Nat} {bad : Bool}

end

/-- The memory of slices. -/
structure SW (w wk : World) (b r cap : Nat) (T : List PT) (i : Nat) (bad : Bool) (v : Value) (n : Nat) (xs : List Value) : Prop where
  ps : PS wk b r cap T i bad
  ow : wk.ownsRow w.heap.size 44 4 v n xs
  g : w.grownBy wk (some b)
  hb : b < w.heap.size
  hr : r < w.heap.size

section
variable {w wk : World} {b r cap : Nat} {T : List PT} {i : Nat} {bad : Bool} {v : Value} {n : Nat} {xs : List Value}
theorem SW.call (h : SW w wk b r cap T i bad v n xs) {w' : World} {i' : Nat} {bad' : Bool} (p : PS w' b r cap T i' bad') (g : wk.grownBy w' (some b)) : SW w w' b r cap T i' bad' v n xs :=
  ⟨p, h.ow.kept g (.inr (own_ge h.ow h.hb)), grownBy_trans h.g g, h.hb, h.hr⟩
theorem SW.push (h : SW w wk b r cap T i bad v n xs) {o : Obj} {w2 : World} {v' : Value} {news : List Value} {m : Nat} (hg : (wk.alloc o).grownBy w2 v.ownBlock) (hown : w2.ownsRow w.heap.size 44 4 v' m news) : SW w w2 b r cap T i bad v' m news := by
  have hb := h.hb
  have hr := h.hr
  have hsz := h.g.size
  refine ⟨(h.ps.alloc o).grown hg (own_ge h.ow hb) (own_ge h.ow hr), hown, ?_, hb, hr⟩
  have ha := grownBy_alloc' h.g o
  refine ⟨hg.os.trans ha.os, hg.tape.trans ha.tape, hg.output.trans ha.output, Nat.le_trans ha.size hg.size, fun k hk hne => ?_⟩
  rw [hg.block k (by simp; omega) (fun e => own_ge h.ow hk e.symm)]
  exact ha.block k hk hne
end

section
variable {w : World} {b r cap : Nat} {T : List PT} {i : Nat}

end
end Go.Proofs.YtbdffcjganlblaaGreatDoor

namespace Go.Proofs.YtbdffcjganlblaaGreatDoor
open Go.RowKit
set_option linter.unusedVariables false
set_option linter.unusedSimpArgs false

def fsk (l : List FSl) (k : Nat) : FSl := l.getD k (0, ⟨0, 0, 0⟩)
theorem fsk_eq {l : List FSl} {k : Nat} (h : k < l.length) : l[k] = fsk l k := by simp [fsk, List.getD_eq_getElem?_getD, h]
/-- The slices lie in block g. -/
def RowF (w : World) (g : Nat) (l : List FSl) : Prop := ∀ k, k < l.length →
  w.cell? ⟨g, k * 4, none⟩ = some (.int .i64 (fsk l k).1) ∧ w.cell? ⟨g, k * 4 + 1, none⟩ = some (.int .u8 (fsk l k).2.nm.toNat) ∧ w.cell? ⟨g, k * 4 + 2, none⟩ = some (.int .i64 (fsk l k).2.job) ∧ w.cell? ⟨g, k * 4 + 3, none⟩ = some (.int .i64 (fsk l k).2.bud)
theorem RowF.below {w w' : World} {g B : Nat} {l : List FSl} (h : RowF w g l) (hb : Below B w w') (hg : g < B) : RowF w' g l := by
  intro k hk
  have e : ∀ o, w'.cell? ⟨g, o, none⟩ = w.cell? ⟨g, o, none⟩ := fun o => hb.cell (p := ⟨g, o, none⟩) hg
  rw [e, e, e, e]
  exact h k hk

/-- A table that a method was handed. -/
structure TBx (w wr : World) (c f : Nat) (sv : Value) : Prop where
  h : wr.heap[w.heap.size]? = some (.cells #[.int .i64 c, .int .i64 f, sv] 39 (0, 0))
  b : Below w.heap.size w wr
section
variable {w wr : World} {c f : Nat} {sv : Value}
theorem TBx.start (w : World) (c f : Nat) (sv : Value) : TBx w (w.alloc (.cells #[.int .i64 c, .int .i64 f, sv] 39)) c f sv := ⟨blk_new _ _ _, below_new _ _⟩
theorem TBx.keep (h : TBx w wr c f sv) {w' : World} (hb : Below wr.heap.size wr w') : TBx w w' c f sv := ⟨blk_keep h.h hb, h.b.trans (hb.mono h.b.size)⟩
theorem TBx.drewN (h : TBx w wr c f sv) (n : Nat) : TBx w (wr.drewN n) c f sv := h.keep (below_drewN (Below.refl _ _) n)
theorem TBx.alloc (h : TBx w wr c f sv) (o : Obj) : TBx w (wr.alloc o) c f sv := h.keep (below_new _ _)
theorem TBx.cells (h : TBx w wr c f sv) : wr.cell? ⟨w.heap.size, 0, none⟩ = some (.int .i64 c) ∧ wr.cell? ⟨w.heap.size, 1, none⟩ = some (.int .i64 f) ∧ wr.cell? ⟨w.heap.size, 2, none⟩ = some sv := by
  refine ⟨?_, ?_, ?_⟩ <;> (rw [blk_cell h.h]; rfl)
end

/-- An answer that says whether Q. -/
def BoolPost (Q : Prop) (w : World) (e : Ending) (w' : World) : Prop := ∃ b : Bool, e = .returned (.bool b) ∧ (b = true ↔ Q) ∧ Below w.heap.size w w'
theorem boolPost_no {Q : Prop} {w w' : World} {v : Value} (hv : v = .bool false) (h : ¬ Q) (hb : Below w.heap.size w w') : BoolPost Q w (.returned v) w' := ⟨false, by rw [hv], by simp [h], hb⟩
theorem boolPost_yes {Q : Prop} {w w' : World} {v : Value} (hv : v = .bool true) (h : Q) (hb : Below w.heap.size w w') : BoolPost Q w (.returned v) w' := ⟨true, by rw [hv], by simp [h], hb⟩

def FSl.small (x : FSl) : Prop := x.1 ≤ 60 ∧ x.2.job ≤ 9999 ∧ x.2.bud ≤ 9999

theorem take_next {l : List FSl} {k : Nat} (h : k < l.length) : l.take (k + 1) = l.take k ++ [fsk l k] := by
  rw [List.take_succ_eq_append_getElem h, fsk_eq h]
end Go.Proofs.YtbdffcjganlblaaGreatDoor
