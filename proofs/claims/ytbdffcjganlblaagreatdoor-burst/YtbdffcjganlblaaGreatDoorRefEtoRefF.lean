/-
  Own work. The document's parser: a pair.
-/
import Derived.Test.YtbdffcjganlblaaGreatDoorRefBtoRefD
namespace Go.Proofs.YtbdffcjganlblaaGreatDoor
open Go.RowKit
set_option linter.unusedVariables false
set_option linter.unusedSimpArgs false

theorem blk_set {w : World} {X : Nat} {c : Array Value} {ty : TypeId} (h : w.heap[X]? = some (.cells c ty (0, 0))) (o : Nat) (v : Value) : (w.setCell ⟨X, o, none⟩ v).heap[X]? = some (.cells (c.setIfInBounds o v) ty (0, 0)) := by
  simp only [World.setCell, Array.getElem?_modify, if_true, h]
  simp
theorem blk_cell {w : World} {X : Nat} {c : Array Value} {ty : TypeId} (h : w.heap[X]? = some (.cells c ty (0, 0))) (o : Nat) : w.cell? ⟨X, o, none⟩ = c[o]? := by
  simp [World.cell?, h]
theorem blk_frozen {w : World} {X : Nat} {c : Array Value} {ty : TypeId} (h : w.heap[X]? = some (.cells c ty (0, 0))) (o : Nat) : w.frozen? ⟨X, o, none⟩ = false := by
  simp [World.frozen?, h]
theorem blk_new (w : World) (c : Array Value) (ty : TypeId) : (w.alloc (.cells c ty)).heap[w.heap.size]? = some (.cells c ty (0, 0)) := by
  show (w.heap.push _)[w.heap.size]? = _
  simp
theorem blk_lt {w : World} {X : Nat} {o : Obj} (h : w.heap[X]? = some o) : X < w.heap.size := by
  rcases Nat.lt_or_ge X w.heap.size with h1 | h1
  · exact h1
  · rw [Array.getElem?_eq_none h1] at h; simp at h

/-- In the midst of a parser's method that fills a new struct: block w.heap.size the result, the next one the local. -/
structure St (w wk : World) (ty : TypeId) (c d : Array Value) (b r cap : Nat) (T : List PT) (i : Nat) (bad : Bool) : Prop where
  ps : PS wk b r cap T i bad
  hx : wk.heap[w.heap.size + 1]? = some (.cells c ty (0, 0))
  hy : wk.heap[w.heap.size]? = some (.cells d ty (0, 0))
  g : w.grownBy wk (some b)
  hb : b < w.heap.size
  hr : r < w.heap.size

section
variable {w wk : World} {ty : TypeId} {c d : Array Value} {b r cap : Nat} {T : List PT} {i : Nat} {bad : Bool}

theorem St.start (h : PS w b r cap T i bad) (ty : TypeId) (c d : Array Value) : St w ((w.alloc (.cells d ty)).alloc (.cells c ty)) ty c d b r cap T i bad :=
  ⟨(h.alloc _).alloc _, by simpa using blk_new (w.alloc (.cells d ty)) c ty,
    by rw [Below.heap_alloc _ _ _ (by simp)]; exact blk_new w d ty, grownBy_alloc' (World.grownBy_alloc _ _ _) _, h.ltb, h.ltr⟩
theorem St.drewN (h : St w wk ty c d b r cap T i bad) (n : Nat) : St w (wk.drewN n) ty c d b r cap T i bad :=
  ⟨h.ps.drewN n, h.hx, h.hy, grownBy_drewN h.g n, h.hb, h.hr⟩
theorem PS.setOther {w : World} {X : Nat} (h : PS w b r cap T i bad) (h1 : X ≠ b) (h2 : X ≠ r) (o : Nat) (v : Value) : PS (w.setCell ⟨X, o, none⟩ v) b r cap T i bad :=
  h.kept (Below.heap_setCell _ _ _ _ (fun e => h1 e.symm)) (Below.heap_setCell _ _ _ _ (fun e => h2 e.symm)) (by rw [heap_set_size]; exact Nat.le_refl _)
theorem St.set (h : St w wk ty c d b r cap T i bad) (o : Nat) (v : Value) {c' : Array Value} (hc : c.setIfInBounds o v = c') : St w (wk.setCell ⟨w.heap.size + 1, o, none⟩ v) ty c' d b r cap T i bad := by
  have hb := h.hb
  have hr := h.hr
  refine ⟨h.ps.setOther (by omega) (by omega) o v, ?_, ?_, grownBy_setNew h.g (by omega) o v, hb, hr⟩
  · rw [blk_set h.hx o v, hc]
  · rw [Below.heap_setCell _ _ _ _ (by show w.heap.size ≠ w.heap.size + 1; omega)]; exact h.hy
theorem St.call {w' : World} {i' : Nat} {bad' : Bool} (h : St w wk ty c d b r cap T i bad) (p : PS w' b r cap T i' bad') (g : wk.grownBy w' (some b)) : St w w' ty c d b r cap T i' bad' := by
  have hb := h.hb
  exact ⟨p, by rw [g.block _ (blk_lt h.hx) (by simp; omega)]; exact h.hx, by rw [g.block _ (blk_lt h.hy) (by simp; omega)]; exact h.hy, grownBy_trans h.g g, hb, h.hr⟩
theorem St.cells (h : St w wk ty c d b r cap T i bad) : (∀ o, wk.cell? ⟨w.heap.size + 1, o, none⟩ = c[o]?) ∧ (∀ o, wk.frozen? ⟨w.heap.size + 1, o, none⟩ = false) ∧ (∀ o, wk.cell? ⟨w.heap.size, o, none⟩ = d[o]?) ∧ (∀ o, wk.frozen? ⟨w.heap.size, o, none⟩ = false) :=
  ⟨blk_cell h.hx, blk_frozen h.hx, blk_cell h.hy, blk_frozen h.hy⟩


/-- A pair, with its places. -/
structure Pr where
  a : UInt8
  b : UInt8
  ap : Bool
  q0 : Nat
  q1 : Nat

def pPair (T : List PT) (ap : Bool) (i : Nat) : Except Nat (Pr × Nat) :=
  if isName (tk T i) then
    if isName (tk T (i + 1)) then
      if (tk T (i + 2)).k == 59 then .ok (⟨nameB (tk T i), nameB (tk T (i + 1)), ap, (tk T i).at_, (tk T (i + 1)).at_⟩, i + 3) else .error (i + 2)
    else .error (i + 1)
  else .error i

end
end Go.Proofs.YtbdffcjganlblaaGreatDoor

namespace Go.Proofs.YtbdffcjganlblaaGreatDoor
open Go.RowKit
set_option linter.unusedVariables false
set_option linter.unusedSimpArgs false

/-- A task, with its places. -/
structure Tk where
  nm : UInt8
  P : Nat
  O : Nat
  C : Nat
  D : Nat
  q0 : Nat
  q1 : Nat
  q2 : Nat
  q3 : Nat
  q4 : Nat

def wEvery : ByteArray := ⟨#[101, 118, 101, 114, 121]⟩
def wFrom : ByteArray := ⟨#[102, 114, 111, 109]⟩
def wTakes : ByteArray := ⟨#[116, 97, 107, 101, 115]⟩
def wWithin : ByteArray := ⟨#[119, 105, 116, 104, 105, 110]⟩

/-- What stands behind the offset. -/
def pRest (T : List PT) (nm : UInt8) (P O q0 q1 q2 j : Nat) : Except Nat (Tk × Nat) :=
  if sees (tk T j) wTakes then
    if (tk T (j + 1)).k == 110 then
      if sees (tk T (j + 2)) wWithin then
        if (tk T (j + 3)).k == 110 then
          if (tk T (j + 4)).k == 59 then .ok (⟨nm, P, O, (tk T (j + 1)).N, (tk T (j + 3)).N, q0, q1, q2, (tk T (j + 1)).at_, (tk T (j + 3)).at_⟩, j + 5) else .error (j + 4)
        else .error (j + 3)
      else .error (j + 2)
    else .error (j + 1)
  else .error j

/-- A task behind its word. -/
def pTask (T : List PT) (i : Nat) : Except Nat (Tk × Nat) :=
  if isName (tk T i) then
    if sees (tk T (i + 1)) wEvery then
      if (tk T (i + 2)).k == 110 then
        if sees (tk T (i + 3)) wFrom then
          if (tk T (i + 4)).k == 110 then pRest T (nameB (tk T i)) (tk T (i + 2)).N (tk T (i + 4)).N (tk T i).at_ (tk T (i + 2)).at_ (tk T (i + 4)).at_ (i + 5)
          else .error (i + 4)
        else pRest T (nameB (tk T i)) (tk T (i + 2)).N 0 (tk T i).at_ (tk T (i + 2)).at_ (tk T (i + 3)).at_ (i + 3)
      else .error (i + 2)
    else .error (i + 1)
  else .error i

section
variable {w wk : World} {ty : TypeId} {c d : Array Value} {b r cap : Nat} {T : List PT} {i : Nat} {bad : Bool}

end
end Go.Proofs.YtbdffcjganlblaaGreatDoor
