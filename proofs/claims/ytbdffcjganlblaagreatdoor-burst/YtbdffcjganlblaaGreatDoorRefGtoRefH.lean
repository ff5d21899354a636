/-
  Own work. The document's parser: a whole text.
-/
import Derived.Test.YtbdffcjganlblaaGreatDoorRefEtoRefF
namespace Go.Proofs.YtbdffcjganlblaaGreatDoor
open Go.RowKit
set_option linter.unusedVariables false
set_option linter.unusedSimpArgs false

def wTask : ByteArray := ⟨#[116, 97, 115, 107]⟩
def wBefore : ByteArray := ⟨#[98, 101, 102, 111, 114, 101]⟩
def wApart : ByteArray := ⟨#[97, 112, 97, 114, 116]⟩

/-- Tasks behind the first word 'task': at most f of them. -/
def pTasks : Nat → List PT → Nat → Except Nat (List Tk × Nat)
  | 0, _, i => .error i
  | f + 1, T, i =>
    match pTask T i with
    | .error e => .error e
    | .ok (t, j) =>
      if decide (0 < f) && sees (tk T j) wTask then
        match pTasks f T (j + 1) with
        | .error e => .error e
        | .ok (ts, k) => .ok (t :: ts, k)
      else .ok ([t], j)

def pPairs : Nat → List PT → Nat → Except Nat (List Pr × Nat)
  | 0, _, i => .ok ([], i)
  | f + 1, T, i =>
    if sees (tk T i) wBefore || sees (tk T i) wApart then
      match pPair T (!(sees (tk T i) wBefore)) (i + 1) with
      | .error e => .error e
      | .ok (p, j) =>
        match pPairs f T j with
        | .error e => .error e
        | .ok (ps, k) => .ok (p :: ps, k)
    else .ok ([], i)

def pFirst (T : List PT) : Except Nat (List Tk × Nat) := if sees (tk T 0) wTask then pTasks 6 T 1 else .error 0

/-- The task set that the tokens say, or the number of the token that cannot stand there. -/
def pSet (T : List PT) : Except Nat (List Tk × List Pr) :=
  match pFirst T with
  | .error e => .error e
  | .ok (ts, j) =>
    match pPairs 6 T j with
    | .error e => .error e
    | .ok (ps, k) => if (tk T k).k == 101 then .ok (ts, ps) else .error k

/-! ### The memory of a parse -/

structure PW (w wk : World) (B r cap : Nat) (T : List PT) (i : Nat) (bad : Bool) (tv : Value) (n : Nat) (xs : List Value) (pv : Value) (m : Nat) (ys : List Value) (base2 : Nat) : Prop where
  ps : PS wk B r cap T i bad
  hx : wk.heap[B + 1]? = some (.cells #[tv, pv] 53 (0, 0))
  hy : wk.heap[w.heap.size]? = some (.cells #[.slice none 0 0, .slice none 0 0] 53 (0, 0))
  ot : wk.ownsRow (B + 2) 95 10 tv n xs
  op : wk.ownsRow base2 133 5 pv m ys
  g : w.grownBy wk none
  h1 : w.heap.size < r
  h2 : r < B
  h3 : B + 2 ≤ base2
  h4 : B + 2 ≤ wk.heap.size
  h5 : pv = .slice none 0 0 ∧ m = 0 ∨ (base2 ≤ wk.heap.size ∧ ∀ k, tv.ownBlock = some k → k < base2)

section
variable {w wk : World} {B r cap : Nat} {T : List PT} {i : Nat} {bad : Bool} {tv : Value} {n : Nat} {xs : List Value} {pv : Value} {m : Nat} {ys : List Value} {base2 : Nat}

theorem own_ge {wk : World} {base : Nat} {e : TypeId} {size : Nat} {v : Value} {n : Nat} {xs : List Value} (h : wk.ownsRow base e size v n xs) {k : Nat} (hk : k < base) : v.ownBlock ≠ some k := by
  intro e
  have := (h.lt k e).1
  omega

theorem PW.call (h : PW w wk B r cap T i bad tv n xs pv m ys base2) {w' : World} {i' : Nat} {bad' : Bool} (p : PS w' B r cap T i' bad') (g : wk.grownBy w' (some B)) : PW w w' B r cap T i' bad' tv n xs pv m ys base2 := by
  have h1 := h.h1
  have h2 := h.h2
  have h3 := h.h3
  have h4 := h.h4
  refine ⟨p, ?_, ?_, h.ot.kept g (.inr (own_ge h.ot (by omega))), h.op.kept g (.inr (own_ge h.op (by omega))), grownBy_new h.g g (by omega), h1, h2, h3, by have := g.size; omega, ?_⟩
  · rw [g.block _ (by omega) (by simp)]; exact h.hx
  · rw [g.block _ (by omega) (by simp; omega)]; exact h.hy
  · rcases h.h5 with h5 | ⟨h5, h6⟩
    · exact .inl h5
    · exact .inr ⟨by have := g.size; omega, h6⟩

theorem PW.cells (h : PW w wk B r cap T i bad tv n xs pv m ys base2) : wk.cell? ⟨B + 1, 0, none⟩ = some tv ∧ wk.cell? ⟨B + 1, 1, none⟩ = some pv ∧ (∀ o, wk.frozen? ⟨B + 1, o, none⟩ = false) ∧ (∀ o, wk.cell? ⟨w.heap.size, o, none⟩ = #[Value.slice none 0 0, .slice none 0 0][o]?) ∧ (∀ o, wk.frozen? ⟨w.heap.size, o, none⟩ = false) :=
  ⟨by rw [blk_cell h.hx]; rfl, by rw [blk_cell h.hx]; rfl, blk_frozen h.hx, blk_cell h.hy, blk_frozen h.hy⟩

/-- A task is appended. -/
theorem PW.pushT (h : PW w wk B r cap T i bad tv n xs (.slice none 0 0) 0 [] base2) {o1 o2 : Obj} {w2 : World} {v' : Value} {news : List Value} (hg : ((wk.alloc o1).alloc o2).grownBy w2 tv.ownBlock)
    (hown : w2.ownsRow (B + 2) 95 10 v' (n + 1) (xs ++ news)) : PW w (w2.setCell ⟨B + 1, 0, none⟩ v') B r cap T i bad v' (n + 1) (xs ++ news) (.slice none 0 0) 0 [] base2 := by
  have h1 := h.h1
  have h2 := h.h2
  have h4 := h.h4
  have hsz := hg.size
  simp only [World.size_alloc] at hsz
  have hp := ((h.ps.alloc o1).alloc o2).grown hg (own_ge h.ot (by omega)) (own_ge h.ot (by omega))
  have hx2 : w2.heap[B + 1]? = some (.cells #[tv, .slice none 0 0] 53 (0, 0)) := by
    rw [hg.block _ (by simp; omega) (fun e => own_ge h.ot (k := B + 1) (by omega) e.symm), Below.heap_alloc _ _ _ (by simp; omega), Below.heap_alloc _ _ _ (by omega)]; exact h.hx
  have hy2 : w2.heap[w.heap.size]? = some (.cells #[.slice none 0 0, .slice none 0 0] 53 (0, 0)) := by
    rw [hg.block _ (by simp; omega) (fun e => own_ge h.ot (k := w.heap.size) (by omega) e.symm), Below.heap_alloc _ _ _ (by simp; omega), Below.heap_alloc _ _ _ (by omega)]; exact h.hy
  have hgw : w.grownBy w2 none := by
    have ha := grownBy_alloc' (grownBy_alloc' h.g o1) o2
    refine ⟨hg.os.trans ha.os, hg.tape.trans ha.tape, hg.output.trans ha.output, Nat.le_trans ha.size hg.size, fun k hk hne => ?_⟩
    rw [hg.block k (by simp; omega) (fun e => own_ge h.ot (k := k) (by omega) e.symm)]
    exact ha.block k hk hne
  refine ⟨hp.setOther (by omega) (by omega) _ _, ?_, ?_, ownsRow_setCell_below hown (by show B + 1 < B + 2; omega) _, World.ownsRow_nil _ _ _ _, grownBy_setNew hgw (by omega) _ _, h1, h2, h.h3, by rw [heap_set_size]; omega, .inl ⟨rfl, rfl⟩⟩
  · rw [blk_set hx2]; rfl
  · rw [Below.heap_setCell _ _ _ _ (by show w.heap.size ≠ B + 1; omega)]; exact hy2

/-- A pair is appended. -/
theorem PW.pushP (h : PW w wk B r cap T i bad tv n xs pv m ys base2) (hb2 : base2 ≤ wk.heap.size) (hdis : ∀ k, tv.ownBlock = some k → k < base2) {o1 o2 : Obj} {w2 : World} {v' : Value} {news : List Value} (hg : ((wk.alloc o1).alloc o2).grownBy w2 pv.ownBlock)
    (hown : w2.ownsRow base2 133 5 v' (m + 1) (ys ++ news)) : PW w (w2.setCell ⟨B + 1, 1, none⟩ v') B r cap T i bad tv n xs v' (m + 1) (ys ++ news) base2 := by
  have h1 := h.h1
  have h2 := h.h2
  have h3 := h.h3
  have h4 := h.h4
  have hsz := hg.size
  simp only [World.size_alloc] at hsz
  have hp := ((h.ps.alloc o1).alloc o2).grown hg (own_ge h.op (by omega)) (own_ge h.op (by omega))
  have hx2 : w2.heap[B + 1]? = some (.cells #[tv, pv] 53 (0, 0)) := by
    rw [hg.block _ (by simp; omega) (fun e => own_ge h.op (k := B + 1) (by omega) e.symm), Below.heap_alloc _ _ _ (by simp; omega), Below.heap_alloc _ _ _ (by omega)]; exact h.hx
  have hy2 : w2.heap[w.heap.size]? = some (.cells #[.slice none 0 0, .slice none 0 0] 53 (0, 0)) := by
    rw [hg.block _ (by simp; omega) (fun e => own_ge h.op (k := w.heap.size) (by omega) e.symm), Below.heap_alloc _ _ _ (by simp; omega), Below.heap_alloc _ _ _ (by omega)]; exact h.hy
  have hgw : w.grownBy w2 none := by
    have ha := grownBy_alloc' (grownBy_alloc' h.g o1) o2
    refine ⟨hg.os.trans ha.os, hg.tape.trans ha.tape, hg.output.trans ha.output, Nat.le_trans ha.size hg.size, fun k hk hne => ?_⟩
    rw [hg.block k (by simp; omega) (fun e => own_ge h.op (k := k) (by omega) e.symm)]
    exact ha.block k hk hne
  have hot : w2.ownsRow (B + 2) 95 10 tv n xs := by
    refine ((h.ot.alloc o1).alloc o2).kept hg ?_
    cases hq : tv.ownBlock with
    | none => exact .inl rfl
    | some k => exact .inr (own_ge h.op (hdis k hq)).symm
  refine ⟨hp.setOther (by omega) (by omega) _ _, ?_, ?_, ownsRow_setCell_below hot (by show B + 1 < B + 2; omega) _, ownsRow_setCell_below hown (by show B + 1 < base2; omega) _, grownBy_setNew hgw (by omega) _ _, h1, h2, h3, by rw [heap_set_size]; omega, .inr ⟨by rw [heap_set_size]; omega, hdis⟩⟩
  · rw [blk_set hx2]; rfl
  · rw [Below.heap_setCell _ _ _ _ (by show w.heap.size ≠ B + 1; omega)]; exact hy2
end
end Go.Proofs.YtbdffcjganlblaaGreatDoor

namespace Go.Proofs.YtbdffcjganlblaaGreatDoor
open Go.RowKit
set_option linter.unusedVariables false
set_option linter.unusedSimpArgs false

def lenOf : Option Value → Nat
  | some (.slice _ n _) => n
  | _ => 0
/-- A slice that owns one element or more is not nil. -/
theorem own_form {w : World} {base : Nat} {e : TypeId} {size : Nat} {v : Value} {n : Nat} {xs : List Value} (h : w.ownsRow base e size v n xs) (hn : 0 < n) : ∃ g cap, v = .slice (some ⟨g, 0, none⟩) n cap ∧ base ≤ g ∧ g < w.heap.size := by
  rcases h.2 with ⟨_, h0⟩ | ⟨g, cap, cur, rfl, hb, hc, _⟩
  · omega
  · exact ⟨g, cap, rfl, hb, blk_lt hc⟩

theorem toks_ne : ∀ (f : Nat) (l : List UInt8) (i : Nat), 0 < (toks f l i).length
  | 0, _, _ => by simp [toks]
  | f + 1, l, i => by rw [toks]; split <;> simp
theorem toks_le : ∀ (f : Nat) (l : List UInt8) (i : Nat), (toks f l i).length ≤ f + 1
  | 0, _, _ => by simp [toks]
  | f + 1, l, i => by rw [toks]; have := toks_le f l (nextTok l i).nx; split <;> simp; omega
theorem toks_fin : ∀ (f : Nat) (l : List UInt8) (i : Nat), i ≤ l.length → l.length < i + f → ∀ j, j < (toks f l i).length → (tk (toks f l i) j).fin = false → j + 1 < (toks f l i).length
  | 0, l, i, h1, h2, j, _, _ => by omega
  | f + 1, l, i, h1, h2, j, hj, hf => by
    rw [toks] at hj hf ⊢
    cases hq : (nextTok l i).fin
    · rw [hq] at hj hf
      simp only [Bool.false_eq_true, if_false] at hj hf ⊢
      cases j with
      | zero => have := toks_ne f l (nextTok l i).nx; simp; omega
      | succ j =>
        have b1 := nextTok_bound l i h1
        have b2 := nextTok_long l i hq
        have := toks_fin f l (nextTok l i).nx b1.2.1 (by omega) j (by simpa using hj) (by simpa [tk] using hf)
        simp; omega
    · rw [hq] at hj hf
      simp only [if_true] at hj hf ⊢
      have h0 : j = 0 := by simpa using hj
      subst h0
      simp [tk, hq] at hf

end Go.Proofs.YtbdffcjganlblaaGreatDoor
