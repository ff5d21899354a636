/-
  Own work. The document's parser: a whole text.
-/
import Derived.Test.YtbdffcjganlblaaGreatDoorRefF
namespace Go.Proofs.YtbdffcjganlblaaGreatDoor
open Go.RowKit
set_option linter.unusedVariables false
set_option linter.unusedSimpArgs false

def wTask : ByteArray := ⟨#[116, 97, 115, 107]⟩
def wBefore : ByteArray := ⟨#[98, 101, 102, 111, 114, 101]⟩
def wApart : ByteArray := ⟨#[97, 112, 97, 114, 116]⟩

/-- Tasks behind the first word 'task': at most f of them. -/
def pTasks : Nat → List PT → Nat → Except Nat (List Tk × Nat)
  | 0, _, i => .error i
  | f + 1, T, i =>
    match pTask T i with
    | .error e => .error e
    | .ok (t, j) =>
      if decide (0 < f) && sees (tk T j) wTask then
        match pTasks f T (j + 1) with
        | .error e => .error e
        | .ok (ts, k) => .ok (t :: ts, k)
      else .ok ([t], j)

def pPairs : Nat → List PT → Nat → Except Nat (List Pr × Nat)
  | 0, _, i => .ok ([], i)
  | f + 1, T, i =>
    if sees (tk T i) wBefore || sees (tk T i) wApart then
      match pPair T (!(sees (tk T i) wBefore)) (i + 1) with
      | .error e => .error e
      | .ok (p, j) =>
        match pPairs f T j with
        | .error e => .error e
        | .ok (ps, k) => .ok (p :: ps, k)
    else .ok ([], i)

def pFirst (T : List PT) : Except Nat (List Tk × Nat) := if sees (tk T 0) wTask then pTasks 6 T 1 else .error 0

/-- The task set that the tokens say, or the number of the token that cannot stand there. -/
def pSet (T : List PT) : Except Nat (List Tk × List Pr) :=
  match pFirst T with
  | .error e => .error e
  | .ok (ts, j) =>
    match pPairs 6 T j with
    | .error e => .error e
    | .ok (ps, k) => if (tk T k).k == 101 then .ok (ts, ps) else .error k

def tkCells (t : Tk) : List Value := [.int .u8 t.nm.toNat, .int .i64 t.P, .int .i64 t.O, .int .i64 t.C, .int .i64 t.D, .int .i64 t.q0, .int .i64 t.q1, .int .i64 t.q2, .int .i64 t.q3, .int .i64 t.q4]
def prCells (p : Pr) : List Value := [.int .u8 p.a.toNat, .int .u8 p.b.toNat, .bool p.ap, .int .i64 p.q0, .int .i64 p.q1]
def tkRow (ts : List Tk) : List Value := ts.flatMap tkCells
def prRow (ps : List Pr) : List Value := ps.flatMap prCells

/-- How far the tasks have been read: 'more': the next one's word has been passed. -/
def TasksR (T : List PT) (i : Nat) (bad more : Bool) (n : Nat) (xs : List Value) : Prop :=
  (bad = true ∧ more = false ∧ pFirst T = .error i) ∨
  (bad = false ∧ ∃ done : List Tk, xs = tkRow done ∧ n = done.length ∧
    ((more = false ∧ pFirst T = .ok (done, i)) ∨
     (more = true ∧ n < 6 ∧ pFirst T = match pTasks (6 - n) T i with
        | .error e => .error e
        | .ok (ts, k) => .ok (done ++ ts, k))))

theorem tasksR_step {T : List PT} {i : Nat} {n : Nat} {xs : List Value} (h : TasksR T i false true n xs) {i1 i2 : Nat} {bad1 ok : Bool} {news : List Value}
    (h1 : (bad1 = true ∧ pTask T i = .error i1) ∨ (bad1 = false ∧ ∃ t, pTask T i = .ok (t, i1) ∧ news = tkCells t))
    (h2 : ok = (decide (n + 1 < 6) && (!bad1 && sees (tk T i1) wTask)) ∧ i2 = if ok then i1 + 1 else i1) :
    TasksR T i2 bad1 ok (n + 1) (xs ++ news) := by
  rcases h with ⟨h, _⟩ | ⟨_, done, hx, hn, ⟨h, _⟩ | ⟨_, h6, hR⟩⟩
  · exact absurd h (by simp)
  · exact absurd h (by simp)
  · obtain ⟨f, hf⟩ : ∃ f, 6 - n = f + 1 := ⟨5 - n, by omega⟩
    rw [hf, pTasks] at hR
    obtain ⟨ho, hi2⟩ := h2
    rcases h1 with ⟨hb, he⟩ | ⟨hb, t, he, hnews⟩
    · subst hb
      simp at ho
      subst ho
      simp at hi2
      subst hi2
      rw [he] at hR
      exact .inl ⟨rfl, rfl, hR⟩
    · subst hb
      rw [he] at hR
      simp only at hR
      have hfd : decide (0 < f) = decide (n + 1 < 6) := by simp; omega
      rw [hfd] at hR
      refine .inr ⟨rfl, done ++ [t], ?_, by simp [hn], ?_⟩
      · rw [hx, hnews]; simp [tkRow]
      · simp only [Bool.not_false, Bool.true_and] at ho
        cases hok : ok
        · left
          rw [hok] at ho hi2
          rw [← ho] at hR
          simp at hi2
          subst hi2
          exact ⟨rfl, by rw [hR]; simp⟩
        · right
          rw [hok] at ho hi2
          rw [← ho] at hR
          simp only [if_true] at hR hi2
          subst hi2
          have hlt : n + 1 < 6 := by
            have := ho.symm
            simp at this
            omega
          refine ⟨rfl, hlt, ?_⟩
          rw [hR, show 6 - (n + 1) = f by omega]
          cases pTasks f T (i1 + 1) <;> simp

/-- How far the pairs have been read: 'more': it is asked once more. -/
def PairsR (T : List PT) (i : Nat) (bad more : Bool) (n : Nat) (xs : List Value) (m : Nat) (ys : List Value) : Prop :=
  m ≤ 6 ∧ ((bad = true ∧ pSet T = .error i) ∨
  (bad = false ∧ ∃ (ts : List Tk) (done : List Pr) (j0 : Nat), xs = tkRow ts ∧ n = ts.length ∧ ys = prRow done ∧ m = done.length ∧ pFirst T = .ok (ts, j0) ∧
    ((more = false ∧ pPairs 6 T j0 = .ok (done, i)) ∨
     (more = true ∧ pPairs 6 T j0 = match pPairs (6 - m) T i with
        | .error e => .error e
        | .ok (ps, k) => .ok (done ++ ps, k)))))

theorem pairsR_start {T : List PT} {i : Nat} {bad : Bool} {n : Nat} {xs : List Value} (h : TasksR T i bad false n xs) : PairsR T i bad true n xs 0 [] := by
  refine ⟨by omega, ?_⟩
  rcases h with ⟨hb, _, h⟩ | ⟨hb, done, hx, hn, ⟨_, h⟩ | ⟨h, _⟩⟩
  · exact .inl ⟨hb, by unfold pSet; rw [h]⟩
  · refine .inr ⟨hb, done, [], i, hx, hn, rfl, rfl, h, .inr ⟨rfl, ?_⟩⟩
    cases pPairs 6 T i <;> simp
  · exact absurd h (by simp)

/-- A round that finds no pair. -/
theorem pairsR_none {T : List PT} {i : Nat} {bad : Bool} {n m : Nat} {xs ys : List Value} (h : PairsR T i bad true n xs m ys)
    (hno : bad = true ∨ m = 6 ∨ (sees (tk T i) wBefore = false ∧ sees (tk T i) wApart = false)) : PairsR T i bad false n xs m ys := by
  obtain ⟨h6, h⟩ := h
  refine ⟨h6, ?_⟩
  rcases h with h | ⟨hb, ts, done, j0, hx, hn, hy, hm, hF, ⟨h, _⟩ | ⟨_, h⟩⟩
  · exact .inl h
  · exact absurd h (by simp)
  · refine .inr ⟨hb, ts, done, j0, hx, hn, hy, hm, hF, .inl ⟨rfl, ?_⟩⟩
    have hp : pPairs (6 - m) T i = .ok ([], i) := by
      rcases hno with hno | hno | ⟨h1, h2⟩
      · rw [hb] at hno; exact absurd hno (by simp)
      · rw [hno]; rfl
      · cases hq : 6 - m with
        | zero => rfl
        | succ f => rw [pPairs, h1, h2]; simp
    rw [h, hp]; simp

/-- A round that finds a pair. -/
theorem pairsR_step {T : List PT} {i : Nat} {n m : Nat} {xs ys : List Value} (h : PairsR T i false true n xs m ys) (hm6 : m < 6) {ap : Bool}
    (hs : (sees (tk T i) wBefore || sees (tk T i) wApart) = true) (hap : ap = !(sees (tk T i) wBefore)) {i1 : Nat} {bad1 : Bool} {news : List Value}
    (h1 : (bad1 = true ∧ pPair T ap (i + 1) = .error i1) ∨ (bad1 = false ∧ ∃ p, pPair T ap (i + 1) = .ok (p, i1) ∧ news = prCells p)) :
    PairsR T i1 bad1 true n xs (m + 1) (ys ++ news) := by
  obtain ⟨h6, h⟩ := h
  refine ⟨by omega, ?_⟩
  rcases h with ⟨h, _⟩ | ⟨_, ts, done, j0, hx, hn, hy, hm, hF, ⟨h, _⟩ | ⟨_, h⟩⟩
  · exact absurd h (by simp)
  · exact absurd h (by simp)
  · obtain ⟨f, hf⟩ : ∃ f, 6 - m = f + 1 := ⟨5 - m, by omega⟩
    have hp : pPairs (f + 1) T i = match pPair T ap (i + 1) with
      | .error e => .error e
      | .ok (p, j) =>
        match pPairs f T j with
        | .error e => .error e
        | .ok (ps, k) => .ok (p :: ps, k) := by rw [pPairs, if_pos hs, ← hap]
    rw [hf, hp] at h
    rcases h1 with ⟨hb, he⟩ | ⟨hb, p, he, hnews⟩
    · rw [he] at h
      refine .inl ⟨hb, ?_⟩
      unfold pSet
      rw [hF]
      simp only [h]
    · rw [he] at h
      refine .inr ⟨hb, ts, done ++ [p], j0, hx, hn, ?_, by simp [hm], hF, .inr ⟨rfl, ?_⟩⟩
      · rw [hy, hnews]; simp [prRow]
      · rw [h, show 6 - (m + 1) = f by omega]
        simp only
        generalize pPairs f T i1 = R
        cases R <;> simp

theorem pairsR_end {T : List PT} {i : Nat} {bad : Bool} {n m : Nat} {xs ys : List Value} (h : PairsR T i bad false n xs m ys) :
    (bad = true ∧ pSet T = .error i) ∨ (bad = false ∧ ((tk T i).k == 101) = false ∧ pSet T = .error i) ∨
    (bad = false ∧ ((tk T i).k == 101) = true ∧ ∃ ts ps, pSet T = .ok (ts, ps) ∧ xs = tkRow ts ∧ n = ts.length ∧ ys = prRow ps ∧ m = ps.length) := by
  obtain ⟨h6, h⟩ := h
  rcases h with h | ⟨hb, ts, done, j0, hx, hn, hy, hm, hF, ⟨_, h⟩ | ⟨h, _⟩⟩
  · exact .inl h
  · cases hk : ((tk T i).k == 101)
    · exact .inr (.inl ⟨hb, rfl, by unfold pSet; rw [hF]; simp only [h]; rw [hk]; rfl⟩)
    · exact .inr (.inr ⟨hb, rfl, ts, done, by unfold pSet; rw [hF]; simp only [h]; rw [hk]; rfl, hx, hn, hy, hm⟩)
  · exact absurd h (by simp)

/-! ### The memory of a parse -/

structure PW (w wk : World) (B r cap : Nat) (T : List PT) (i : Nat) (bad : Bool) (tv : Value) (n : Nat) (xs : List Value) (pv : Value) (m : Nat) (ys : List Value) (base2 : Nat) : Prop where
  ps : PS wk B r cap T i bad
  hx : wk.heap[B + 1]? = some (.cells #[tv, pv] 53 (0, 0))
  hy : wk.heap[w.heap.size]? = some (.cells #[.slice none 0 0, .slice none 0 0] 53 (0, 0))
  ot : wk.ownsRow (B + 2) 95 10 tv n xs
  op : wk.ownsRow base2 133 5 pv m ys
  g : w.grownBy wk none
  h1 : w.heap.size < r
  h2 : r < B
  h3 : B + 2 ≤ base2
  h4 : B + 2 ≤ wk.heap.size
  h5 : pv = .slice none 0 0 ∧ m = 0 ∨ (base2 ≤ wk.heap.size ∧ ∀ k, tv.ownBlock = some k → k < base2)

section
variable {w wk : World} {B r cap : Nat} {T : List PT} {i : Nat} {bad : Bool} {tv : Value} {n : Nat} {xs : List Value} {pv : Value} {m : Nat} {ys : List Value} {base2 : Nat}

theorem own_ge {wk : World} {base : Nat} {e : TypeId} {size : Nat} {v : Value} {n : Nat} {xs : List Value} (h : wk.ownsRow base e size v n xs) {k : Nat} (hk : k < base) : v.ownBlock ≠ some k := by
  intro e
  have := (h.lt k e).1
  omega

theorem PW.call (h : PW w wk B r cap T i bad tv n xs pv m ys base2) {w' : World} {i' : Nat} {bad' : Bool} (p : PS w' B r cap T i' bad') (g : wk.grownBy w' (some B)) : PW w w' B r cap T i' bad' tv n xs pv m ys base2 := by
  have h1 := h.h1
  have h2 := h.h2
  have h3 := h.h3
  have h4 := h.h4
  refine ⟨p, ?_, ?_, h.ot.kept g (.inr (own_ge h.ot (by omega))), h.op.kept g (.inr (own_ge h.op (by omega))), grownBy_new h.g g (by omega), h1, h2, h3, by have := g.size; omega, ?_⟩
  · rw [g.block _ (by omega) (by simp)]; exact h.hx
  · rw [g.block _ (by omega) (by simp; omega)]; exact h.hy
  · rcases h.h5 with h5 | ⟨h5, h6⟩
    · exact .inl h5
    · exact .inr ⟨by have := g.size; omega, h6⟩

theorem PW.cells (h : PW w wk B r cap T i bad tv n xs pv m ys base2) : wk.cell? ⟨B + 1, 0, none⟩ = some tv ∧ wk.cell? ⟨B + 1, 1, none⟩ = some pv ∧ (∀ o, wk.frozen? ⟨B + 1, o, none⟩ = false) ∧ (∀ o, wk.cell? ⟨w.heap.size, o, none⟩ = #[Value.slice none 0 0, .slice none 0 0][o]?) ∧ (∀ o, wk.frozen? ⟨w.heap.size, o, none⟩ = false) :=
  ⟨by rw [blk_cell h.hx]; rfl, by rw [blk_cell h.hx]; rfl, blk_frozen h.hx, blk_cell h.hy, blk_frozen h.hy⟩

/-- A task is appended. -/
theorem PW.pushT (h : PW w wk B r cap T i bad tv n xs (.slice none 0 0) 0 [] base2) {o1 o2 : Obj} {w2 : World} {v' : Value} {news : List Value} (hg : ((wk.alloc o1).alloc o2).grownBy w2 tv.ownBlock)
    (hown : w2.ownsRow (B + 2) 95 10 v' (n + 1) (xs ++ news)) : PW w (w2.setCell ⟨B + 1, 0, none⟩ v') B r cap T i bad v' (n + 1) (xs ++ news) (.slice none 0 0) 0 [] base2 := by
  have h1 := h.h1
  have h2 := h.h2
  have h4 := h.h4
  have hsz := hg.size
  simp only [World.size_alloc] at hsz
  have hp := ((h.ps.alloc o1).alloc o2).grown hg (own_ge h.ot (by omega)) (own_ge h.ot (by omega))
  have hx2 : w2.heap[B + 1]? = some (.cells #[tv, .slice none 0 0] 53 (0, 0)) := by
    rw [hg.block _ (by simp; omega) (fun e => own_ge h.ot (k := B + 1) (by omega) e.symm), Below.heap_alloc _ _ _ (by simp; omega), Below.heap_alloc _ _ _ (by omega)]; exact h.hx
  have hy2 : w2.heap[w.heap.size]? = some (.cells #[.slice none 0 0, .slice none 0 0] 53 (0, 0)) := by
    rw [hg.block _ (by simp; omega) (fun e => own_ge h.ot (k := w.heap.size) (by omega) e.symm), Below.heap_alloc _ _ _ (by simp; omega), Below.heap_alloc _ _ _ (by omega)]; exact h.hy
  have hgw : w.grownBy w2 none := by
    have ha := grownBy_alloc' (grownBy_alloc' h.g o1) o2
    refine ⟨hg.os.trans ha.os, hg.tape.trans ha.tape, hg.output.trans ha.output, Nat.le_trans ha.size hg.size, fun k hk hne => ?_⟩
    rw [hg.block k (by simp; omega) (fun e => own_ge h.ot (k := k) (by omega) e.symm)]
    exact ha.block k hk hne
  refine ⟨hp.setOther (by omega) (by omega) _ _, ?_, ?_, ownsRow_setCell_below hown (by show B + 1 < B + 2; omega) _, World.ownsRow_nil _ _ _ _, grownBy_setNew hgw (by omega) _ _, h1, h2, h.h3, by rw [heap_set_size]; omega, .inl ⟨rfl, rfl⟩⟩
  · rw [blk_set hx2]; rfl
  · rw [Below.heap_setCell _ _ _ _ (by show w.heap.size ≠ B + 1; omega)]; exact hy2

/-- A pair is appended. -/
theorem PW.pushP (h : PW w wk B r cap T i bad tv n xs pv m ys base2) (hb2 : base2 ≤ wk.heap.size) (hdis : ∀ k, tv.ownBlock = some k → k < base2) {o1 o2 : Obj} {w2 : World} {v' : Value} {news : List Value} (hg : ((wk.alloc o1).alloc o2).grownBy w2 pv.ownBlock)
    (hown : w2.ownsRow base2 133 5 v' (m + 1) (ys ++ news)) : PW w (w2.setCell ⟨B + 1, 1, none⟩ v') B r cap T i bad tv n xs v' (m + 1) (ys ++ news) base2 := by
  have h1 := h.h1
  have h2 := h.h2
  have h3 := h.h3
  have h4 := h.h4
  have hsz := hg.size
  simp only [World.size_alloc] at hsz
  have hp := ((h.ps.alloc o1).alloc o2).grown hg (own_ge h.op (by omega)) (own_ge h.op (by omega))
  have hx2 : w2.heap[B + 1]? = some (.cells #[tv, pv] 53 (0, 0)) := by
    rw [hg.block _ (by simp; omega) (fun e => own_ge h.op (k := B + 1) (by omega) e.symm), Below.heap_alloc _ _ _ (by simp; omega), Below.heap_alloc _ _ _ (by omega)]; exact h.hx
  have hy2 : w2.heap[w.heap.size]? = some (.cells #[.slice none 0 0, .slice none 0 0] 53 (0, 0)) := by
    rw [hg.block _ (by simp; omega) (fun e => own_ge h.op (k := w.heap.size) (by omega) e.symm), Below.heap_alloc _ _ _ (by simp; omega), Below.heap_alloc _ _ _ (by omega)]; exact h.hy
  have hgw : w.grownBy w2 none := by
    have ha := grownBy_alloc' (grownBy_alloc' h.g o1) o2
    refine ⟨hg.os.trans ha.os, hg.tape.trans ha.tape, hg.output.trans ha.output, Nat.le_trans ha.size hg.size, fun k hk hne => ?_⟩
    rw [hg.block k (by simp; omega) (fun e => own_ge h.op (k := k) (by omega) e.symm)]
    exact ha.block k hk hne
  have hot : w2.ownsRow (B + 2) 95 10 tv n xs := by
    refine ((h.ot.alloc o1).alloc o2).kept hg ?_
    cases hq : tv.ownBlock with
    | none => exact .inl rfl
    | some k => exact .inr (own_ge h.op (hdis k hq)).symm
  refine ⟨hp.setOther (by omega) (by omega) _ _, ?_, ?_, ownsRow_setCell_below hot (by show B + 1 < B + 2; omega) _, ownsRow_setCell_below hown (by show B + 1 < base2; omega) _, grownBy_setNew hgw (by omega) _ _, h1, h2, h3, by rw [heap_set_size]; omega, .inr ⟨by rw [heap_set_size]; omega, hdis⟩⟩
  · rw [blk_set hx2]; rfl
  · rw [Below.heap_setCell _ _ _ _ (by show w.heap.size ≠ B + 1; omega)]; exact hy2
end
end Go.Proofs.YtbdffcjganlblaaGreatDoor
