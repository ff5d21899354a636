/-
  Own work. The document's parser: a whole text.
-/
import Derived.Test.YtbdffcjganlblaaGreatDoorRefDtoRefF
import Derived.Test.YtbdffcjganlblaaGreatDoorPlAtoHeB
import Derived.Deep.RegionLaw
import Derived.OwnWalk
namespace Go.Proofs.YtbdffcjganlblaaGreatDoor
open Go.RowKit
set_option linter.unusedVariables false
set_option linter.unusedSimpArgs false

def wTask : ByteArray := ⟨#[116, 97, 115, 107]⟩
def wBefore : ByteArray := ⟨#[98, 101, 102, 111, 114, 101]⟩
def wApart : ByteArray := ⟨#[97, 112, 97, 114, 116]⟩

/-- Tasks behind the first word 'task': at most f of them. -/
def pTasks : Nat → List PT → Nat → Except Nat (List Tk × Nat)
  | 0, _, i => .error i
  | f + 1, T, i =>
    match pTask T i with
    | .error e => .error e
    | .ok (t, j) =>
      if decide (0 < f) && sees (tk T j) wTask then
        match pTasks f T (j + 1) with
        | .error e => .error e
        | .ok (ts, k) => .ok (t :: ts, k)
      else .ok ([t], j)

def pPairs : Nat → List PT → Nat → Except Nat (List Pr × Nat)
  | 0, _, i => .ok ([], i)
  | f + 1, T, i =>
    if sees (tk T i) wBefore || sees (tk T i) wApart then
      match pPair T (!(sees (tk T i) wBefore)) (i + 1) with
      | .error e => .error e
      | .ok (p, j) =>
        match pPairs f T j with
        | .error e => .error e
        | .ok (ps, k) => .ok (p :: ps, k)
    else .ok ([], i)

def pFirst (T : List PT) : Except Nat (List Tk × Nat) := if sees (tk T 0) wTask then pTasks 6 T 1 else .error 0

/-- The task set that the tokens say, or the number of the token that cannot stand there. -/
def pSet (T : List PT) : Except Nat (List Tk × List Pr) :=
  match pFirst T with
  | .error e => .error e
  | .ok (ts, j) =>
    match pPairs 6 T j with
    | .error e => .error e
    | .ok (ps, k) => if (tk T k).k == 101 then .ok (ts, ps) else .error k

def tkCells (t : Tk) : List Value := [.int .u8 t.nm.toNat, .int .i64 t.P, .int .i64 t.O, .int .i64 t.C, .int .i64 t.D, .int .i64 t.q0, .int .i64 t.q1, .int .i64 t.q2, .int .i64 t.q3, .int .i64 t.q4]
def prCells (p : Pr) : List Value := [.int .u8 p.a.toNat, .int .u8 p.b.toNat, .bool p.ap, .int .i64 p.q0, .int .i64 p.q1]
def tkRow (ts : List Tk) : List Value := ts.flatMap tkCells
def prRow (ps : List Pr) : List Value := ps.flatMap prCells

/-- How far the tasks have been read: 'more': the next one's word has been passed. -/
def TasksR (T : List PT) (i : Nat) (bad more : Bool) (n : Nat) (xs : List Value) : Prop :=
  (bad = true ∧ more = false ∧ pFirst T = .error i) ∨
  (bad = false ∧ ∃ done : List Tk, xs = tkRow done ∧ n = done.length ∧
    ((more = false ∧ pFirst T = .ok (done, i)) ∨
     (more = true ∧ n < 6 ∧ pFirst T = match pTasks (6 - n) T i with
        | .error e => .error e
        | .ok (ts, k) => .ok (done ++ ts, k))))

theorem tasksR_step {T : List PT} {i : Nat} {n : Nat} {xs : List Value} (h : TasksR T i false true n xs) {i1 i2 : Nat} {bad1 ok : Bool} {news : List Value}
    (h1 : (bad1 = true ∧ pTask T i = .error i1) ∨ (bad1 = false ∧ ∃ t, pTask T i = .ok (t, i1) ∧ news = tkCells t))
    (h2 : ok = (decide (n + 1 < 6) && (!bad1 && sees (tk T i1) wTask)) ∧ i2 = if ok then i1 + 1 else i1) :
    TasksR T i2 bad1 ok (n + 1) (xs ++ news) := by
  rcases h with ⟨h, _⟩ | ⟨_, done, hx, hn, ⟨h, _⟩ | ⟨_, h6, hR⟩⟩
  · exact absurd h (by simp)
  · exact absurd h (by simp)
  · obtain ⟨f, hf⟩ : ∃ f, 6 - n = f + 1 := ⟨5 - n, by omega⟩
    rw [hf, pTasks] at hR
    obtain ⟨ho, hi2⟩ := h2
    rcases h1 with ⟨hb, he⟩ | ⟨hb, t, he, hnews⟩
    · subst hb
      simp at ho
      subst ho
      simp at hi2
      subst hi2
      rw [he] at hR
      exact .inl ⟨rfl, rfl, hR⟩
    · subst hb
      rw [he] at hR
      simp only at hR
      have hfd : decide (0 < f) = decide (n + 1 < 6) := by simp; omega
      rw [hfd] at hR
      refine .inr ⟨rfl, done ++ [t], ?_, by simp [hn], ?_⟩
      · rw [hx, hnews]; simp [tkRow]
      · simp only [Bool.not_false, Bool.true_and] at ho
        cases hok : ok
        · left
          rw [hok] at ho hi2
          rw [← ho] at hR
          simp at hi2
          subst hi2
          exact ⟨rfl, by rw [hR]; simp⟩
        · right
          rw [hok] at ho hi2
          rw [← ho] at hR
          simp only [if_true] at hR hi2
          subst hi2
          have hlt : n + 1 < 6 := by
            have := ho.symm
            simp at this
            omega
          refine ⟨rfl, hlt, ?_⟩
          rw [hR, show 6 - (n + 1) = f by omega]
          cases pTasks f T (i1 + 1) <;> simp

/-- How far the pairs have been read: 'more': it is asked once more. -/
def PairsR (T : List PT) (i : Nat) (bad more : Bool) (n : Nat) (xs : List Value) (m : Nat) (ys : List Value) : Prop :=
  m ≤ 6 ∧ ((bad = true ∧ pSet T = .error i) ∨
  (bad = false ∧ ∃ (ts : List Tk) (done : List Pr) (j0 : Nat), xs = tkRow ts ∧ n = ts.length ∧ ys = prRow done ∧ m = done.length ∧ pFirst T = .ok (ts, j0) ∧
    ((more = false ∧ pPairs 6 T j0 = .ok (done, i)) ∨
     (more = true ∧ pPairs 6 T j0 = match pPairs (6 - m) T i with
        | .error e => .error e
        | .ok (ps, k) => .ok (done ++ ps, k)))))

theorem pairsR_start {T : List PT} {i : Nat} {bad : Bool} {n : Nat} {xs : List Value} (h : TasksR T i bad false n xs) : PairsR T i bad true n xs 0 [] := by
  refine ⟨by omega, ?_⟩
  rcases h with ⟨hb, _, h⟩ | ⟨hb, done, hx, hn, ⟨_, h⟩ | ⟨h, _⟩⟩
  · exact .inl ⟨hb, by unfold pSet; rw [h]⟩
  · refine .inr ⟨hb, done, [], i, hx, hn, rfl, rfl, h, .inr ⟨rfl, ?_⟩⟩
    cases pPairs 6 T i <;> simp
  · exact absurd h (by simp)

/-- A round that finds no pair. -/
theorem pairsR_none {T : List PT} {i : Nat} {bad : Bool} {n m : Nat} {xs ys : List Value} (h : PairsR T i bad true n xs m ys)
    (hno : bad = true ∨ m = 6 ∨ (sees (tk T i) wBefore = false ∧ sees (tk T i) wApart = false)) : PairsR T i bad false n xs m ys := by
  obtain ⟨h6, h⟩ := h
  refine ⟨h6, ?_⟩
  rcases h with h | ⟨hb, ts, done, j0, hx, hn, hy, hm, hF, ⟨h, _⟩ | ⟨_, h⟩⟩
  · exact .inl h
  · exact absurd h (by simp)
  · refine .inr ⟨hb, ts, done, j0, hx, hn, hy, hm, hF, .inl ⟨rfl, ?_⟩⟩
    have hp : pPairs (6 - m) T i = .ok ([], i) := by
      rcases hno with hno | hno | ⟨h1, h2⟩
      · rw [hb] at hno; exact absurd hno (by simp)
      · rw [hno]; rfl
      · cases hq : 6 - m with
        | zero => rfl
        | succ f => rw [pPairs, h1, h2]; simp
    rw [h, hp]; simp

/-- A round that finds a pair. -/
theorem pairsR_step {T : List PT} {i : Nat} {n m : Nat} {xs ys : List Value} (h : PairsR T i false true n xs m ys) (hm6 : m < 6) {ap : Bool}
    (hs : (sees (tk T i) wBefore || sees (tk T i) wApart) = true) (hap : ap = !(sees (tk T i) wBefore)) {i1 : Nat} {bad1 : Bool} {news : List Value}
    (h1 : (bad1 = true ∧ pPair T ap (i + 1) = .error i1) ∨ (bad1 = false ∧ ∃ p, pPair T ap (i + 1) = .ok (p, i1) ∧ news = prCells p)) :
    PairsR T i1 bad1 true n xs (m + 1) (ys ++ news) := by
  obtain ⟨h6, h⟩ := h
  refine ⟨by omega, ?_⟩
  rcases h with ⟨h, _⟩ | ⟨_, ts, done, j0, hx, hn, hy, hm, hF, ⟨h, _⟩ | ⟨_, h⟩⟩
  · exact absurd h (by simp)
  · exact absurd h (by simp)
  · obtain ⟨f, hf⟩ : ∃ f, 6 - m = f + 1 := ⟨5 - m, by omega⟩
    have hp : pPairs (f + 1) T i = match pPair T ap (i + 1) with
      | .error e => .error e
      | .ok (p, j) =>
        match pPairs f T j with
        | .error e => .error e
        | .ok (ps, k) => .ok (p :: ps, k) := by rw [pPairs, if_pos hs, ← hap]
    rw [hf, hp] at h
    rcases h1 with ⟨hb, he⟩ | ⟨hb, p, he, hnews⟩
    · rw [he] at h
      refine .inl ⟨hb, ?_⟩
      unfold pSet
      rw [hF]
      simp only [h]
    · rw [he] at h
      refine .inr ⟨hb, ts, done ++ [p], j0, hx, hn, ?_, by simp [hm], hF, .inr ⟨rfl, ?_⟩⟩
      · rw [hy, hnews]; simp [prRow]
      · rw [h, show 6 - (m + 1) = f by omega]
        simp only
        generalize pPairs f T i1 = R
        cases R <;> simp

theorem pairsR_end {T : List PT} {i : Nat} {bad : Bool} {n m : Nat} {xs ys : List Value} (h : PairsR T i bad false n xs m ys) :
    (bad = true ∧ pSet T = .error i) ∨ (bad = false ∧ ((tk T i).k == 101) = false ∧ pSet T = .error i) ∨
    (bad = false ∧ ((tk T i).k == 101) = true ∧ ∃ ts ps, pSet T = .ok (ts, ps) ∧ xs = tkRow ts ∧ n = ts.length ∧ ys = prRow ps ∧ m = ps.length) := by
  obtain ⟨h6, h⟩ := h
  rcases h with h | ⟨hb, ts, done, j0, hx, hn, hy, hm, hF, ⟨_, h⟩ | ⟨h, _⟩⟩
  · exact .inl h
  · cases hk : ((tk T i).k == 101)
    · exact .inr (.inl ⟨hb, rfl, by unfold pSet; rw [hF]; simp only [h]; rw [hk]; rfl⟩)
    · exact .inr (.inr ⟨hb, rfl, ts, done, by unfold pSet; rw [hF]; simp only [h]; rw [hk]; rfl, hx, hn, hy, hm⟩)
  · exact absurd h (by simp)

/-! ### The memory of a parse -/

structure PW (w wk : World) (B r cap : Nat) (T : List PT) (i : Nat) (bad : Bool) (tv : Value) (n : Nat) (xs : List Value) (pv : Value) (m : Nat) (ys : List Value) (base2 : Nat) : Prop where
  ps : PS wk B r cap T i bad
  hx : wk.heap[B + 1]? = some (.cells #[tv, pv] 53 (0, 0))
  hy : wk.heap[w.heap.size]? = some (.cells #[.slice none 0 0, .slice none 0 0] 53 (0, 0))
  ot : wk.ownsRow (B + 2) 95 10 tv n xs
  op : wk.ownsRow base2 133 5 pv m ys
  g : w.grownBy wk none
  h1 : w.heap.size < r
  h2 : r < B
  h3 : B + 2 ≤ base2
  h4 : B + 2 ≤ wk.heap.size
  h5 : pv = .slice none 0 0 ∧ m = 0 ∨ (base2 ≤ wk.heap.size ∧ ∀ k, tv.ownBlock = some k → k < base2)

section
variable {w wk : World} {B r cap : Nat} {T : List PT} {i : Nat} {bad : Bool} {tv : Value} {n : Nat} {xs : List Value} {pv : Value} {m : Nat} {ys : List Value} {base2 : Nat}

theorem own_ge {wk : World} {base : Nat} {e : TypeId} {size : Nat} {v : Value} {n : Nat} {xs : List Value} (h : wk.ownsRow base e size v n xs) {k : Nat} (hk : k < base) : v.ownBlock ≠ some k := by
  intro e
  have := (h.lt k e).1
  omega

theorem PW.call (h : PW w wk B r cap T i bad tv n xs pv m ys base2) {w' : World} {i' : Nat} {bad' : Bool} (p : PS w' B r cap T i' bad') (g : wk.grownBy w' (some B)) : PW w w' B r cap T i' bad' tv n xs pv m ys base2 := by
  have h1 := h.h1
  have h2 := h.h2
  have h3 := h.h3
  have h4 := h.h4
  refine ⟨p, ?_, ?_, h.ot.kept g (.inr (own_ge h.ot (by omega))), h.op.kept g (.inr (own_ge h.op (by omega))), grownBy_new h.g g (by omega), h1, h2, h3, by have := g.size; omega, ?_⟩
  · rw [g.block _ (by omega) (by simp)]; exact h.hx
  · rw [g.block _ (by omega) (by simp; omega)]; exact h.hy
  · rcases h.h5 with h5 | ⟨h5, h6⟩
    · exact .inl h5
    · exact .inr ⟨by have := g.size; omega, h6⟩

theorem PW.cells (h : PW w wk B r cap T i bad tv n xs pv m ys base2) : wk.cell? ⟨B + 1, 0, none⟩ = some tv ∧ wk.cell? ⟨B + 1, 1, none⟩ = some pv ∧ (∀ o, wk.frozen? ⟨B + 1, o, none⟩ = false) ∧ (∀ o, wk.cell? ⟨w.heap.size, o, none⟩ = #[Value.slice none 0 0, .slice none 0 0][o]?) ∧ (∀ o, wk.frozen? ⟨w.heap.size, o, none⟩ = false) :=
  ⟨by rw [blk_cell h.hx]; rfl, by rw [blk_cell h.hx]; rfl, blk_frozen h.hx, blk_cell h.hy, blk_frozen h.hy⟩

/-- A task is appended. -/
theorem PW.pushT (h : PW w wk B r cap T i bad tv n xs (.slice none 0 0) 0 [] base2) {o1 o2 : Obj} {w2 : World} {v' : Value} {news : List Value} (hg : ((wk.alloc o1).alloc o2).grownBy w2 tv.ownBlock)
    (hown : w2.ownsRow (B + 2) 95 10 v' (n + 1) (xs ++ news)) : PW w (w2.setCell ⟨B + 1, 0, none⟩ v') B r cap T i bad v' (n + 1) (xs ++ news) (.slice none 0 0) 0 [] base2 := by
  have h1 := h.h1
  have h2 := h.h2
  have h4 := h.h4
  have hsz := hg.size
  simp only [World.size_alloc] at hsz
  have hp := ((h.ps.alloc o1).alloc o2).grown hg (own_ge h.ot (by omega)) (own_ge h.ot (by omega))
  have hx2 : w2.heap[B + 1]? = some (.cells #[tv, .slice none 0 0] 53 (0, 0)) := by
    rw [hg.block _ (by simp; omega) (fun e => own_ge h.ot (k := B + 1) (by omega) e.symm), Below.heap_alloc _ _ _ (by simp; omega), Below.heap_alloc _ _ _ (by omega)]; exact h.hx
  have hy2 : w2.heap[w.heap.size]? = some (.cells #[.slice none 0 0, .slice none 0 0] 53 (0, 0)) := by
    rw [hg.block _ (by simp; omega) (fun e => own_ge h.ot (k := w.heap.size) (by omega) e.symm), Below.heap_alloc _ _ _ (by simp; omega), Below.heap_alloc _ _ _ (by omega)]; exact h.hy
  have hgw : w.grownBy w2 none := by
    have ha := grownBy_alloc' (grownBy_alloc' h.g o1) o2
    refine ⟨hg.os.trans ha.os, hg.tape.trans ha.tape, hg.output.trans ha.output, Nat.le_trans ha.size hg.size, fun k hk hne => ?_⟩
    rw [hg.block k (by simp; omega) (fun e => own_ge h.ot (k := k) (by omega) e.symm)]
    exact ha.block k hk hne
  refine ⟨hp.setOther (by omega) (by omega) _ _, ?_, ?_, ownsRow_setCell_below hown (by show B + 1 < B + 2; omega) _, World.ownsRow_nil _ _ _ _, grownBy_setNew hgw (by omega) _ _, h1, h2, h.h3, by rw [heap_set_size]; omega, .inl ⟨rfl, rfl⟩⟩
  · rw [blk_set hx2]; rfl
  · rw [Below.heap_setCell _ _ _ _ (by show w.heap.size ≠ B + 1; omega)]; exact hy2

/-- A pair is appended. -/
theorem PW.pushP (h : PW w wk B r cap T i bad tv n xs pv m ys base2) (hb2 : base2 ≤ wk.heap.size) (hdis : ∀ k, tv.ownBlock = some k → k < base2) {o1 o2 : Obj} {w2 : World} {v' : Value} {news : List Value} (hg : ((wk.alloc o1).alloc o2).grownBy w2 pv.ownBlock)
    (hown : w2.ownsRow base2 133 5 v' (m + 1) (ys ++ news)) : PW w (w2.setCell ⟨B + 1, 1, none⟩ v') B r cap T i bad tv n xs v' (m + 1) (ys ++ news) base2 := by
  have h1 := h.h1
  have h2 := h.h2
  have h3 := h.h3
  have h4 := h.h4
  have hsz := hg.size
  simp only [World.size_alloc] at hsz
  have hp := ((h.ps.alloc o1).alloc o2).grown hg (own_ge h.op (by omega)) (own_ge h.op (by omega))
  have hx2 : w2.heap[B + 1]? = some (.cells #[tv, pv] 53 (0, 0)) := by
    rw [hg.block _ (by simp; omega) (fun e => own_ge h.op (k := B + 1) (by omega) e.symm), Below.heap_alloc _ _ _ (by simp; omega), Below.heap_alloc _ _ _ (by omega)]; exact h.hx
  have hy2 : w2.heap[w.heap.size]? = some (.cells #[.slice none 0 0, .slice none 0 0] 53 (0, 0)) := by
    rw [hg.block _ (by simp; omega) (fun e => own_ge h.op (k := w.heap.size) (by omega) e.symm), Below.heap_alloc _ _ _ (by simp; omega), Below.heap_alloc _ _ _ (by omega)]; exact h.hy
  have hgw : w.grownBy w2 none := by
    have ha := grownBy_alloc' (grownBy_alloc' h.g o1) o2
    refine ⟨hg.os.trans ha.os, hg.tape.trans ha.tape, hg.output.trans ha.output, Nat.le_trans ha.size hg.size, fun k hk hne => ?_⟩
    rw [hg.block k (by simp; omega) (fun e => own_ge h.op (k := k) (by omega) e.symm)]
    exact ha.block k hk hne
  have hot : w2.ownsRow (B + 2) 95 10 tv n xs := by
    refine ((h.ot.alloc o1).alloc o2).kept hg ?_
    cases hq : tv.ownBlock with
    | none => exact .inl rfl
    | some k => exact .inr (own_ge h.op (hdis k hq)).symm
  refine ⟨hp.setOther (by omega) (by omega) _ _, ?_, ?_, ownsRow_setCell_below hot (by show B + 1 < B + 2; omega) _, ownsRow_setCell_below hown (by show B + 1 < base2; omega) _, grownBy_setNew hgw (by omega) _ _, h1, h2, h3, by rw [heap_set_size]; omega, .inr ⟨by rw [heap_set_size]; omega, hdis⟩⟩
  · rw [blk_set hx2]; rfl
  · rw [Below.heap_setCell _ _ _ _ (by show w.heap.size ≠ B + 1; omega)]; exact hy2
end
end Go.Proofs.YtbdffcjganlblaaGreatDoor

namespace Go.Proofs.YtbdffcjganlblaaGreatDoor
open Go.RowKit
set_option linter.unusedVariables false
set_option linter.unusedSimpArgs false

def lenOf : Option Value → Nat
  | some (.slice _ n _) => n
  | _ => 0
def moreN : Value → Nat
  | .bool true => 1
  | _ => 0

theorem Tryz.infoTask : (Tryz.prog.info? 95).map (fun i => (i.zero, i.size, i.bytes)) = some (some (.agg #[.int .u8 0, .int .i64 0, .int .i64 0, .int .i64 0, .int .i64 0, .int .i64 0, .int .i64 0, .int .i64 0, .int .i64 0, .int .i64 0]), 10, 80) := by kernel_rfl
theorem Tryz.infoPair : (Tryz.prog.info? 133).map (fun i => (i.zero, i.size, i.bytes)) = some (some (.agg #[.int .u8 0, .int .u8 0, .bool false, .int .i64 0, .int .i64 0]), 5, 24) := by kernel_rfl

/-- A slice that owns one element or more is not nil. -/
theorem own_form {w : World} {base : Nat} {e : TypeId} {size : Nat} {v : Value} {n : Nat} {xs : List Value} (h : w.ownsRow base e size v n xs) (hn : 0 < n) : ∃ g cap, v = .slice (some ⟨g, 0, none⟩) n cap ∧ base ≤ g ∧ g < w.heap.size := by
  rcases h.2 with ⟨_, h0⟩ | ⟨g, cap, cur, rfl, hb, hc, _⟩
  · omega
  · exact ⟨g, cap, rfl, hb, blk_lt hc⟩

theorem toks_ne : ∀ (f : Nat) (l : List UInt8) (i : Nat), 0 < (toks f l i).length
  | 0, _, _ => by simp [toks]
  | f + 1, l, i => by rw [toks]; split <;> simp
theorem toks_le : ∀ (f : Nat) (l : List UInt8) (i : Nat), (toks f l i).length ≤ f + 1
  | 0, _, _ => by simp [toks]
  | f + 1, l, i => by rw [toks]; have := toks_le f l (nextTok l i).nx; split <;> simp; omega
theorem toks_fin : ∀ (f : Nat) (l : List UInt8) (i : Nat), i ≤ l.length → l.length < i + f → ∀ j, j < (toks f l i).length → (tk (toks f l i) j).fin = false → j + 1 < (toks f l i).length
  | 0, l, i, h1, h2, j, _, _ => by omega
  | f + 1, l, i, h1, h2, j, hj, hf => by
    rw [toks] at hj hf ⊢
    cases hq : (nextTok l i).fin
    · rw [hq] at hj hf
      simp only [Bool.false_eq_true, if_false] at hj hf ⊢
      cases j with
      | zero => have := toks_ne f l (nextTok l i).nx; simp; omega
      | succ j =>
        have b1 := nextTok_bound l i h1
        have b2 := nextTok_long l i hq
        have := toks_fin f l (nextTok l i).nx b1.2.1 (by omega) j (by simpa using hj) (by simpa [tk] using hf)
        simp; omega
    · rw [hq] at hj hf
      simp only [if_true] at hj hf ⊢
      have h0 : j = 0 := by simpa using hj
      subst h0
      simp [tk, hq] at hf

theorem tokRow_get (T : List PT) : ∀ (j : Nat), j < T.length → (tokRow T)[j * 4]? = some (.int .u8 (tk T j).k) ∧ (tokRow T)[j * 4 + 1]? = some (.string (bs (tk T j).S)) ∧ (tokRow T)[j * 4 + 2]? = some (.int .i64 (tk T j).N) ∧ (tokRow T)[j * 4 + 3]? = some (.int .i64 (tk T j).at_) := by
  induction T with
  | nil => intro j h; simp at h
  | cons t r ih =>
    intro j hj
    have e : tokRow (t :: r) = tokCells t ++ tokRow r := rfl
    have el : (tokCells t).length = 4 := rfl
    cases j with
    | zero => rw [e]; simp [tokCells, tk]
    | succ j =>
      have := ih j (by simpa using hj)
      rw [e]
      rw [List.getElem?_append_right (by omega), List.getElem?_append_right (by omega), List.getElem?_append_right (by omega), List.getElem?_append_right (by omega), el]
      rw [show (j + 1) * 4 - 4 = j * 4 by omega, show (j + 1) * 4 + 1 - 4 = j * 4 + 1 by omega, show (j + 1) * 4 + 2 - 4 = j * 4 + 2 by omega, show (j + 1) * 4 + 3 - 4 = j * 4 + 3 by omega]
      simpa [tk] using this

/-- The parser as Parse lays it. -/
theorem ps_start {w1 : World} {base g cap : Nat} {l : List UInt8} (hl : l.length ≤ 800) (hown : w1.ownsRow base 76 4 (.slice (some ⟨g, 0, none⟩) (allToks l).length cap) (allToks l).length (tokRow (allToks l))) (hg : g < w1.heap.size) (o : Obj) :
    PS ((w1.alloc (.cells #[.slice (some ⟨g, 0, none⟩) (allToks l).length cap, .int .i64 0, .bool false] 71)).alloc o) w1.heap.size g cap (allToks l) 0 false := by
  have hb := blk_new w1 #[.slice (some ⟨g, 0, none⟩) (allToks l).length cap, .int .i64 0, .bool false] 71
  have hb2 : ((w1.alloc (.cells #[.slice (some ⟨g, 0, none⟩) (allToks l).length cap, .int .i64 0, .bool false] 71)).alloc o).heap[w1.heap.size]? = some (.cells #[.slice (some ⟨g, 0, none⟩) (allToks l).length cap, .int .i64 0, .bool false] 71 (0, 0)) := by
    rw [Below.heap_alloc _ _ _ (by simp)]; exact hb
  have hr : ∀ k, k < w1.heap.size → ((w1.alloc (.cells #[.slice (some ⟨g, 0, none⟩) (allToks l).length cap, .int .i64 0, .bool false] 71)).alloc o).heap[k]? = w1.heap[k]? := by
    intro k hk
    rw [Below.heap_alloc _ _ _ (by simp; omega), Below.heap_alloc _ _ _ hk]
  refine ⟨by rw [blk_cell hb2]; rfl, by rw [blk_cell hb2]; rfl, by rw [blk_cell hb2]; rfl, blk_frozen hb2 _, blk_frozen hb2 _, ?_, toks_ne _ _ _, by have := toks_le (l.length + 1) l 0; unfold allToks; omega, ?_, by omega, by simp; omega, by simp; omega⟩
  · intro j hj
    have e : ∀ o', ((w1.alloc (.cells #[.slice (some ⟨g, 0, none⟩) (allToks l).length cap, .int .i64 0, .bool false] 71)).alloc o).cell? ⟨g, o', none⟩ = w1.cell? ⟨g, o', none⟩ := fun o' => World.cell?_of_block (a := ⟨g, o', none⟩) (hr g hg)
    rw [e, e, e, e, hown.cellAt _ (by omega), hown.cellAt _ (by omega), hown.cellAt _ (by omega), hown.cellAt _ (by omega)]
    exact tokRow_get _ j hj
  · exact toks_fin (l.length + 1) l 0 (by omega) (by omega)
end Go.Proofs.YtbdffcjganlblaaGreatDoor

namespace Go.Proofs.YtbdffcjganlblaaGreatDoor
open Go.RowKit
set_option linter.unusedVariables false
set_option linter.unusedSimpArgs false

theorem Tryz.infoJP : (Tryz.prog.info? 226).map (fun i => (i.zero, i.size, i.bytes)) = some (some (.pointer none), 1, 8) := by kernel_rfl

theorem step_append_at {P : Program} {ops : Array Oper} {o : Oper} {a : Act} {w : World} {K : Act → World → Prop} {Q : Exit → Act → World → Prop} {E : Prop}
    (hg : o.guard = none) (s x : Operand) (t : TypeId) (hop : o.op = Op.call { callee := Callee.builtin Builtin.append, args := #[s, x], argTypes := #[t, t] })
    (base : Nat) (e : TypeId) (i : TypeInfo) (z : Value) (size bytes : Nat) (h1 : P.underlying t = some (.slice e)) (h2 : P.info? e = some i) (h3 : i.zero = some z) (h4 : i.size = size) (h5 : i.bytes = bytes) (h6 : z.cells.size = size) (h7 : 0 < size)
    (v : Value) (n : Nat) (xs : List Value) (hs : a.eval s = v) (hown : w.ownsRow base e size v n xs)
    (ad : Addr) (m c : Nat) (news : List Value) (hx : a.eval x = .slice (some ad) m c) (hn : news.length = m * size) (hc : ∀ j u, news[j]? = some u → w.cell? (ad.add j) = some u) (h1c : ∀ u ∈ news, u.oneCell' = true)
    (b1 : n + m ≤ maxLen) (b2 : (n + m) * bytes ≤ 140737488355328) (hb : base ≤ w.heap.size)
    (hK : ∀ v' w', w'.ownsRow base e size v' (n + m) (xs ++ news) → w.grownBy w' v.ownBlock → (v'.ownBlock = v.ownBlock ∨ v'.ownBlock = some w.heap.size) → K (a.put o.dst v') w') :
    if Region.wanted o (yielded ops a.tmps) = true then Oper.wp P o a w K Q else E := by
  have hw : Region.wanted o (yielded ops a.tmps) = true := by simp [Region.wanted, hg]
  rw [if_pos hw]
  obtain ⟨v', w', hrun, r1, r2, _, r3⟩ := run_append_own_at (P := P) w base t o.type e i z size bytes h1 h2 h3 h4 h5 h6 h7 v n xs hown ad m c news hn hc h1c b1 b2 hb
  unfold Oper.wp
  simp [execOp, hop, resolve, invoke, builtin, hs, hx, hrun, Result.andThen]
  exact hK v' w' r1 r2 r3

/-- What a change of the ready jobs leaves. -/
structure Stp (P : Nat) (v v' : Value) (w w' : World) : Prop where
  f : Frm (fun i => i = P ∨ v.ownBlock = some i) w w'
  at_ : v'.ownBlock = v.ownBlock ∨ ∃ b, v'.ownBlock = some b ∧ w.heap.size ≤ b
theorem Stp.trans {P : Nat} {v v1 v2 : Value} {w w1 w2 : World} (h : Stp P v v1 w w1) (k : Stp P v1 v2 w1 w2) : Stp P v v2 w w2 := by
  refine ⟨⟨k.f.os.trans h.f.os, k.f.tape.trans h.f.tape, k.f.output.trans h.f.output, Nat.le_trans h.f.size k.f.size, fun i hi hx => ?_⟩, ?_⟩
  · refine (k.f.block i (Nat.lt_of_lt_of_le hi h.f.size) (fun hx1 => ?_)).trans (h.f.block i hi hx)
    rcases hx1 with e | e
    · exact hx (.inl e)
    · rcases h.at_ with e2 | ⟨b, e2, hb⟩
      · exact hx (.inr (e2 ▸ e))
      · rw [e2] at e
        injection e with e
        omega
  · rcases k.at_ with e | ⟨b, e, hb⟩
    · rw [e]
      exact h.at_
    · exact .inr ⟨b, e, Nat.le_trans h.f.size hb⟩
theorem Stp.own {P : Nat} {v : Value} {w w' : World} (h : Frm (fun k => v.ownBlock = some k) w w') : Stp P v v w w' := ⟨h.wide (fun k _ hx => .inr hx), .inl rfl⟩
theorem Stp.jobs {P : Nat} {c0 c1 c2 v v' : Value} {base : Nat} {bl : Nat → Nat} {L : List Nat} {w w' : World} {js : List Jb} {left : Nat → Nat} (h : Stp P v v' w w') (hh : HpW P c0 c1 c2 v base bl L w) (hj : JobsAt js bl left w) : JobsAt js bl left w' :=
  hj.keep h.f (fun k hk hx => by
    rcases hx with e | e
    · exact hh.not_job hj hk e
    · exact own_not_job hh.own hj hk e)

theorem HpW.grow {P : Nat} {c0 c1 c2 v : Value} {base : Nat} {bl : Nat → Nat} {L : List Nat} {w w1 : World} {o : Obj} (h : HpW P c0 c1 c2 v base bl L w) (hg : (w.alloc o).grownBy w1 v.ownBlock) : w1.heap[P]? = some (.cells #[c0, c1, c2, v] 221 (0, 0)) := by
  have hl := blk_lt h.blk
  rw [hg.block P (by simp; omega) (fun e => h.ne e.symm), Below.heap_alloc w o P hl]
  exact h.blk
/-- A job more. -/
theorem HpW.push {P : Nat} {c0 c1 c2 v v' : Value} {base : Nat} {bl : Nat → Nat} {L : List Nat} {w w1 : World} {o : Obj} {k : Nat} (h : HpW P c0 c1 c2 v base bl L w) (hg : (w.alloc o).grownBy w1 v.ownBlock) (ho : w1.ownsRow base 226 1 v' (L.length + 1) (ptV bl L ++ [.pointer (some ⟨bl k, 0, none⟩)])) (hat : v'.ownBlock = v.ownBlock ∨ v'.ownBlock = some (w.alloc o).heap.size) :
    HpW P c0 c1 c2 v' base bl (L ++ [k]) (w1.setCell ⟨P, 3, none⟩ v') ∧ Stp P v v' w (w1.setCell ⟨P, 3, none⟩ v') := by
  have hb1 := h.grow hg
  have hl := blk_lt h.blk
  have hne : v'.ownBlock ≠ some P := by
    rcases hat with e | e
    · rw [e]; exact h.ne
    · rw [e]
      simp
      omega
  refine ⟨⟨blk_set hb1 3 v', ?_⟩, ⟨⟨hg.os, hg.tape, hg.output, ?_, fun i hi hx => ?_⟩, ?_⟩⟩
  · have h2 : w1.ownsRow base 226 1 v' (L ++ [k]).length (ptV bl (L ++ [k])) := by
      rw [show (L ++ [k]).length = L.length + 1 by simp, show ptV bl (L ++ [k]) = ptV bl L ++ [.pointer (some ⟨bl k, 0, none⟩)] by simp [ptV]]
      exact ho
    refine h2.kept (row := some P) ⟨rfl, rfl, rfl, by simp [World.setCell], fun i _ hi => Below.heap_setCell _ _ _ _ (fun e => hi (by simp [e]))⟩ (Or.inr hne)
  · have := hg.size
    simp [World.setCell] at this ⊢
    omega
  · rw [Below.heap_setCell _ _ _ _ (fun e => hx (.inl e)), hg.block i (by simp; omega) (fun e => hx (.inr e.symm)), Below.heap_alloc w o i hi]
  · rcases hat with e | e
    · exact .inl e
    · exact .inr ⟨_, e, by simp⟩

theorem assert_job (a : Option Addr) (w : World) : (Instr.typeAssert (.iface 226 (.pointer a)) 20 226 false).run Tryz.prog w = .ok (.pointer a) w := by kernel_rfl

set_option maxRecDepth 100000 in
set_option maxHeartbeats 4000000 in
theorem hpush_any (P : Nat) (c0 c1 c2 v : Value) (base : Nat) (bl : Nat → Nat) (L : List Nat) (w : World) (h : HpW P c0 c1 c2 v base bl L w) (hb : base ≤ w.heap.size) (hn : L.length ≤ 1000000) (k : Nat) :
    Calls Tryz.prog 234 #[.pointer (some ⟨P, 3, none⟩), .iface 226 (.pointer (some ⟨bl k, 0, none⟩))] w fun e w' => e = .returned (.tuple #[]) ∧ ∃ v', HpW P c0 c1 c2 v' base bl (L ++ [k]) w' ∧ Stp P v v' w w' := by
  obtain ⟨i0, hi, hz0, hz1, hz2⟩ := info_parts Tryz.infoJP
  have c3 := h.cell
  have fz := blk_frozen h.blk 3
  have H := hide h
  have Ho : Hid (w.drew.ownsRow base 226 1 v L.length (ptV bl L)) := h.own
  obtain ⟨a, cap, hv, _, _⟩ := h.own.len
  subst hv
  have HP : Hid (∀ (o : Obj) (w1 : World) (v' : Value), (w.drew.alloc o).grownBy w1 (Value.slice a L.length cap).ownBlock → w1.ownsRow base 226 1 v' (L.length + 1) (ptV bl L ++ [.pointer (some ⟨bl k, 0, none⟩)]) → (v'.ownBlock = (Value.slice a L.length cap).ownBlock ∨ v'.ownBlock = some (w.drew.alloc o).heap.size) → HpW P c0 c1 c2 v' base bl (L ++ [k]) (w1.setCell ⟨P, 3, none⟩ v') ∧ Stp P (Value.slice a L.length cap) v' w (w1.setCell ⟨P, 3, none⟩ v') ∧ w1.cell? ⟨P, 3, none⟩ = some (.slice a L.length cap) ∧ w1.frozen? ⟨P, 3, none⟩ = false) := fun o w1 v' hg ho hat => by
    have h1 := (h.same (w' := w.drew) rfl).push hg ho hat
    have h2 := (h.same (w' := w.drew) rfl).grow hg
    exact ⟨h1.1, ⟨⟨h1.2.f.os, h1.2.f.tape, h1.2.f.output, h1.2.f.size, h1.2.f.block⟩, h1.2.at_⟩, by rw [blk_cell h2]; rfl, blk_frozen h2 3⟩
  clear h
  have hta := assert_job (some ⟨bl k, 0, none⟩)
  have c3a : (w.alloc (.cells #[.pointer (some ⟨bl k, 0, none⟩)] 226)).cell? ⟨P, 3, none⟩ = some (.slice a L.length cap) := by rw [World.cell?_alloc_past _ _ _ (blk_lt H.out.blk)]; exact c3
  generalize L.length = n at *
  generalize ptV bl L = xs at *
  go_enter Tryz.func234, Tryz.ntmps234
  go_wp2_with fail
  go_region_law (refine step_append_at rfl (.tmp 7) (.tmp 10) 219 rfl base 226 i0 _ 1 8 Tryz.underlying219 hi hz0 hz1 hz2 rfl (by decide) _ _ _ rfl (Ho.out.alloc _) ⟨w.heap.size, 0, none⟩ 1 1 [.pointer (some ⟨bl k, 0, none⟩)] rfl rfl (cells_new w.drew #[_] _ _ rfl) (by simp [Value.oneCell']) (by unfold maxLen; omega) (by omega) (by simp; omega) ?_; intro v' w1 hown1 hgr1 hat1; obtain ⟨g', cap', hv', _, _⟩ := own_form hown1 (by omega); subst hv'; obtain ⟨p1, p2, p3, p4⟩ := HP.out _ w1 _ hgr1 hown1 hat1; have P1 := hide p1; have P2 := hide p2; clear p1 p2 hown1 hgr1 hat1)
  all_goals
    go_wp2
    go_end0
    exact ⟨rfl, _, P1.out, P2.out⟩

set_option maxRecDepth 100000 in
set_option maxHeartbeats 4000000 in
theorem push_any (js : List Jb) (left : Nat → Nat) (P : Nat) (c0 c1 c2 v : Value) (base : Nat) (bl : Nat → Nat) (L : List Nat) (w : World) (h : HpW P c0 c1 c2 v base bl L w) (hj : JobsAt js bl left w) (hL : ∀ x ∈ L, x < js.length) (ht : ∀ k, k < js.length → (jk js k).tsk < 1000) (hn : L.length ≤ 10000) (hb : base ≤ w.heap.size) (k : Nat) (hk : k < js.length) (hh : Hp (keyJ js) L L.length) :
    Calls Tryz.prog 174 #[hpI P, .iface 226 (.pointer (some ⟨bl k, 0, none⟩))] w fun e w' => e = .returned (.tuple #[]) ∧ ∃ v' L', HpW P c0 c1 c2 v' base bl L' w' ∧ Stp P v v' w w' ∧ L'.Perm (L ++ [k]) ∧ Hp (keyJ js) L' L'.length := by
  have H := hide h
  have HJ := hide hj
  have HL : Hid (∀ x ∈ L ++ [k], x < js.length) := fun x hx => by
    rcases List.mem_append.1 hx with hx | hx
    · exact hL x hx
    · simp at hx
      subst hx
      exact hk
  have HT := hide ht
  obtain ⟨u1, u2⟩ := up_push hh k
  have U1 := hide u1
  have U2 := hide u2
  have mP : ∀ W n, (method (n + 1) 228 (.pointer (some ⟨P, 3, none⟩)) "Push").run Tryz.prog W = .ok (234, .pointer (some ⟨P, 3, none⟩)) W := fun W n => meth_push _ W n
  clear h hj hL ht hh u1 u2
  go_enter Tryz.func174, Tryz.ntmps174
  go_wp2_with fail
  refine (hpush_any P c0 c1 c2 v base bl L w H.out hb (by omega) k).mono ?_
  rintro e w1 ⟨rfl, v1, h1, s1⟩
  obtain ⟨a, cap, hv, _, _⟩ := h1.own.len
  have e1 : (L ++ [k]).length = L.length + 1 := by simp
  rw [e1] at hv
  subst hv
  have HJ1 := hide (s1.jobs H.out HJ.out)
  have c3 := h1.cell
  have mN : ∀ n, (method (n + 1) 228 (.pointer (some ⟨P, 3, none⟩)) "Len").run Tryz.prog w1 = .ok (193, .slice a (L.length + 1) cap) w1 := fun n => meth_len _ _ w1 n c3
  have H1 := hide h1
  have S1 := hide s1
  have CU := hide (up_any js left P c0 c1 c2 _ base bl (L ++ [k]) w1 h1 HJ1.out HL.out HT.out (by simp; omega) L.length (by simp))
  clear h1 s1 e1 H
  go_wp2_with fail
  refine (hlen_any a (L.length + 1) cap w1).mono ?_
  rintro e w' ⟨rfl, hw'⟩
  replace hw' := hw'.symm
  subst hw'
  go_wp2_with fail
  refine CU.out.mono ?_
  rintro e w2 ⟨rfl, h2, f2⟩
  have H2 := hide h2
  have S2 := hide (S1.out.trans (Stp.own f2))
  clear h2 f2 CU
  go_wp2_with fail
  go_end0
  exact ⟨rfl, _, _, H2.out, S2.out, U2.out, by rw [U2.out.length_eq, List.length_append]; exact U1.out⟩

theorem RowJ.less {w : World} {base g cap : Nat} {bl : Nat → Nat} {L : List Nat} {n m : Nat} (h : RowJ w base (.slice (some ⟨g, 0, none⟩) n cap) bl L) (hm : m ≤ L.length) : RowJ w base (.slice (some ⟨g, 0, none⟩) m cap) bl (L.take m) := by
  rcases h.2 with ⟨h0, _⟩ | ⟨g', cap', cur, h1, h2, h3, h4, h5, h6, h7⟩
  · simp at h0
  · injection h1 with e1 e2 e3
    injection e1 with e1
    injection e1 with e1
    subst e1 e3
    have hl : (L.take m).length = m := by rw [List.length_take]; omega
    refine ⟨by simp [ptV], .inr ⟨g, cap, cur, by rw [hl], h2, h3, by rw [hl]; omega, h5, h6, ?_⟩⟩
    rw [hl]
    have h8 := congrArg (List.take m) h7
    rw [List.take_take, show min m (L.length * 1) = m * 1 by omega] at h8
    rw [h8, ptV, ptV, List.map_take]

set_option maxRecDepth 100000 in
set_option maxHeartbeats 4000000 in
theorem hpop_any (P : Nat) (c0 c1 c2 v : Value) (base : Nat) (bl : Nat → Nat) (L : List Nat) (w : World) (h : HpW P c0 c1 c2 v base bl L w) (h0 : 0 < L.length) (hn : L.length ≤ 1000000) :
    Calls Tryz.prog 233 #[.pointer (some ⟨P, 3, none⟩)] w fun e w' => e = .returned (.iface 226 (.pointer (some ⟨bl (gd L (L.length - 1)), 0, none⟩))) ∧ ∃ v', HpW P c0 c1 c2 v' base bl (L.take (L.length - 1)) w' ∧ Stp P v v' w w' ∧ v'.ownBlock = v.ownBlock := by
  obtain ⟨g, cap, cur, hv, hb, hg, hc1, hc2, hc3, hcell⟩ := h.own.form h0
  subst hv
  have c3 := h.cell
  have fz := blk_frozen h.blk 3
  have cl : w.cell? ⟨g, L.length - 1, none⟩ = some (.pointer (some ⟨bl (gd L (L.length - 1)), 0, none⟩)) := by rw [blk_cell hg]; exact hcell _ (by omega)
  have hln : (L.length : Int) - 1 = ((L.length - 1 : Nat) : Int) := by omega
  have hne := h.ne
  have HF : Hid (HpW P c0 c1 c2 (.slice (some ⟨g, 0, none⟩) (L.length - 1) cap) base bl (L.take (L.length - 1)) (w.setCell ⟨P, 3, none⟩ (.slice (some ⟨g, 0, none⟩) (L.length - 1) cap))) := by
    refine ⟨blk_set h.blk 3 _, ?_⟩
    refine (h.own.less (m := L.length - 1) (by omega)).kept (row := some P) ⟨rfl, rfl, rfl, by simp [World.setCell], fun i _ hi => Below.heap_setCell _ _ _ _ (fun e => hi (by simp [e]))⟩ (Or.inr hne)
  have HS : Hid (Stp P (.slice (some ⟨g, 0, none⟩) L.length cap) (.slice (some ⟨g, 0, none⟩) (L.length - 1) cap) w (w.setCell ⟨P, 3, none⟩ (.slice (some ⟨g, 0, none⟩) (L.length - 1) cap))) := ⟨(Frm.refl _ w).setCell (p := ⟨P, 3, none⟩) (.inl rfl) _, .inl rfl⟩
  have hm1 : L.length - 1 ≤ 1000000 := by omega
  have hm2 : ((L.length - 1 : Nat) : Int) < (L.length : Int) := by omega
  have hm3 : ((L.length - 1 : Nat) : Int) ≤ (cap : Int) := by omega
  have Hln := hide hln
  clear h hg hcell hne hln hc3
  generalize bl (gd L (L.length - 1)) = bk at *
  generalize L.take (L.length - 1) = L1 at *
  generalize L.length = n at *
  have hc4 : n - 1 ≤ cap := by omega
  go_enter Tryz.func233, Tryz.ntmps233
  go_wp2_with fail
  go_ret
  exact ⟨rfl, _, HF.out, HS.out, rfl⟩

set_option maxRecDepth 100000 in
set_option maxHeartbeats 4000000 in
theorem pop_any (js : List Jb) (left : Nat → Nat) (P : Nat) (c0 c1 c2 v : Value) (base : Nat) (bl : Nat → Nat) (L : List Nat) (w : World) (h : HpW P c0 c1 c2 v base bl L w) (hj : JobsAt js bl left w) (hL : ∀ x ∈ L, x < js.length) (ht : ∀ k, k < js.length → (jk js k).tsk < 1000) (hn : L.length ≤ 10000) (h0 : 0 < L.length) :
    Calls Tryz.prog 194 #[hpI P] w fun e w' => e = .returned (.iface 226 (.pointer (some ⟨bl (gd L 0), 0, none⟩))) ∧ ∃ v', HpW P c0 c1 c2 v' base bl (popP (keyJ js) L) w' ∧ Stp P v v' w w' ∧ v'.ownBlock = v.ownBlock := by
  obtain ⟨g, cap, cur, hv, _⟩ := h.own.form h0
  subst hv
  have H := hide h
  have HJ := hide hj
  have HT := hide ht
  have hl1 : (swp L 0 (L.length - 1)).length = L.length := swp_len _ _ _
  have HL1 : Hid (∀ x ∈ swp L 0 (L.length - 1), x < js.length) := fun x hx => hL x ((swp_perm (by omega) (by omega)).mem_iff.1 hx)
  have hl2 : (dnP (keyJ js) (swp L 0 (L.length - 1)) 0 (L.length - 1)).length = L.length := by rw [dnP_len (keyJ js) _ _ 0 _ (Nat.le_refl _), hl1]
  have hpl := pop_last (key := keyJ js) h0
  have mN : ∀ n, (method (n + 1) 228 (.pointer (some ⟨P, 3, none⟩)) "Len").run Tryz.prog w = .ok (193, .slice (some ⟨g, 0, none⟩) L.length cap) w := fun n => meth_len _ _ w n h.cell
  have mS : ∀ n, (method (n + 1) 228 (.pointer (some ⟨P, 3, none⟩)) "Swap").run Tryz.prog w = .ok (232, .slice (some ⟨g, 0, none⟩) L.length cap) w := fun n => meth_swap _ _ w n h.cell
  have mP : ∀ W n, (method (n + 1) 228 (.pointer (some ⟨P, 3, none⟩)) "Pop").run Tryz.prog W = .ok (233, .pointer (some ⟨P, 3, none⟩)) W := fun W n => meth_pop _ W n
  have CS : Hid (∀ KI : Int, KI = ((L.length - 1 : Nat) : Int) → Calls Tryz.prog 232 #[.slice (some ⟨g, 0, none⟩) L.length cap, .int .i64 0, .int .i64 KI] w fun e w' => e = .returned (.tuple #[]) ∧ HpW P c0 c1 c2 (.slice (some ⟨g, 0, none⟩) L.length cap) base bl (swp L 0 (L.length - 1)) w' ∧ Stp P (.slice (some ⟨g, 0, none⟩) L.length cap) (.slice (some ⟨g, 0, none⟩) L.length cap) w w') := fun KI eK => by
    subst eK
    refine (hswap_any bl L base _ w H.out.own 0 (L.length - 1) h0 (by omega)).mono ?_
    rintro e w' ⟨he, ho, hf⟩
    exact ⟨he, H.out.swap ho hf, Stp.own hf⟩
  have CD : Hid (∀ KI : Int, KI = ((L.length - 1 : Nat) : Int) → ∀ w1, HpW P c0 c1 c2 (.slice (some ⟨g, 0, none⟩) L.length cap) base bl (swp L 0 (L.length - 1)) w1 → JobsAt js bl left w1 → Calls Tryz.prog 203 #[hpI P, .int .i64 0, .int .i64 KI] w1 fun e w' => (∃ b, e = .returned (.bool b)) ∧ HpW P c0 c1 c2 (.slice (some ⟨g, 0, none⟩) L.length cap) base bl (dnP (keyJ js) (swp L 0 (L.length - 1)) 0 (L.length - 1)) w' ∧ Stp P (.slice (some ⟨g, 0, none⟩) L.length cap) (.slice (some ⟨g, 0, none⟩) L.length cap) w1 w') := fun KI eK w1 h1 j1 => by
    subst eK
    refine (down_any js left P c0 c1 c2 _ base bl _ w1 h1 j1 HL1.out HT.out (by omega) (L.length - 1) (by omega)).mono ?_
    rintro e w' ⟨he, hh, hf⟩
    exact ⟨he, hh, Stp.own hf⟩
  have CP : Hid (∀ w1, HpW P c0 c1 c2 (.slice (some ⟨g, 0, none⟩) L.length cap) base bl (dnP (keyJ js) (swp L 0 (L.length - 1)) 0 (L.length - 1)) w1 → Calls Tryz.prog 233 #[.pointer (some ⟨P, 3, none⟩)] w1 fun e w' => e = .returned (.iface 226 (.pointer (some ⟨bl (gd L 0), 0, none⟩))) ∧ ∃ v', HpW P c0 c1 c2 v' base bl (popP (keyJ js) L) w' ∧ Stp P (.slice (some ⟨g, 0, none⟩) L.length cap) v' w1 w' ∧ v'.ownBlock = (Value.slice (some ⟨g, 0, none⟩) L.length cap).ownBlock) := fun w1 h1 => by
    have := hpop_any P c0 c1 c2 _ base bl _ w1 h1 (by omega) (by omega)
    rw [hl2, hpl] at this
    exact this
  clear h hj hL ht hl1 hl2 hpl HL1
  go_enter Tryz.func194, Tryz.ntmps194
  go_wp2_with fail
  refine (hlen_any _ L.length cap w).mono ?_
  rintro e w' ⟨rfl, hw'⟩
  replace hw' := hw'.symm
  subst hw'
  go_wp2_with fail
  refine (CS.out _ (by omega)).mono ?_
  rintro e w1 ⟨rfl, h1, s1⟩
  have HJ1 := hide (s1.jobs H.out HJ.out)
  have H1 := hide h1
  have S1 := hide s1
  clear h1 s1 CS mS mN
  go_wp2_with fail
  refine (CD.out _ (by omega) _ H1.out HJ1.out).mono ?_
  rintro e w2 ⟨⟨b, rfl⟩, h2, s2⟩
  have H2 := hide h2
  have S2 := hide (S1.out.trans s2)
  clear h2 s2 CD S1 H1
  go_wp2_with fail
  refine (CP.out _ H2.out).mono ?_
  rintro e w3 ⟨rfl, v', h3, s3, o3⟩
  have H3 := hide h3
  have S3 := hide (S2.out.trans s3)
  have O3 := hide o3
  clear h3 s3 o3 CP S2 H2
  go_wp2_with fail
  go_ret
  exact ⟨rfl, v', H3.out, S3.out, O3.out⟩
end Go.Proofs.YtbdffcjganlblaaGreatDoor
