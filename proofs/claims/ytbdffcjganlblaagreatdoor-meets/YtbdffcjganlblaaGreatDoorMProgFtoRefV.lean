/-
  Own work. The program's parser: what a whole text comes to; the memory of parseSet.
-/
import Derived.Test.YtbdffcjganlblaaGreatDoorMProgDtoProgE
import Derived.Deep.RegionLaw
import Derived.RegionDies
import Derived.Test.YtbdffcjganlblaaGreatDoorMRefRtoProgA
import Derived.Deep.RegionWith
namespace Go.Proofs.YtbdffcjganlblaaGreatDoor
open Go.RowKit
set_option linter.unusedVariables false
set_option linter.unusedSimpArgs false

/-- 'append' onto a slice of the call's own, as one step of a region that draws its order. -/
theorem step_append_own {P : Program} {ops : Array Oper} {o : Oper} {a : Act} {w : World} {K : Act → World → Prop} {Q : Exit → Act → World → Prop} {E : Prop}
    (hg : o.guard = none) (s x : Operand) (t : TypeId) (hop : o.op = Op.call { callee := Callee.builtin Builtin.append, args := #[s, x], argTypes := #[t, t] })
    (base : Nat) (e : TypeId) (i : TypeInfo) (z : Value) (size bytes : Nat) (h1 : P.underlying t = some (.slice e)) (h2 : P.info? e = some i) (h3 : i.zero = some z) (h4 : i.size = size) (h5 : i.bytes = bytes) (h6 : z.cells.size = size) (h7 : 0 < size)
    (v : Value) (n : Nat) (xs : List Value) (hs : a.eval s = v) (hown : w.ownsRow base e size v n xs)
    (ad : Addr) (m c : Nat) (news : List Value) (hx : a.eval x = .slice (some ad) m c) (hn : news.length = m * size) (hc : ∀ j u, news[j]? = some u → w.cell? (ad.add j) = some u) (h1c : ∀ u ∈ news, u.oneCell' = true)
    (b1 : n + m ≤ maxLen) (b2 : (n + m) * bytes ≤ 140737488355328) (hb : base ≤ w.heap.size)
    (hK : ∀ v' w', w'.ownsRow base e size v' (n + m) (xs ++ news) → w.grownBy w' v.ownBlock → K (a.put o.dst v') w') :
    if Region.wanted o (yielded ops a.tmps) = true then Oper.wp P o a w K Q else E := by
  have hw : Region.wanted o (yielded ops a.tmps) = true := by simp [Region.wanted, hg]
  rw [if_pos hw]
  obtain ⟨v', w', hrun, r1, r2, _⟩ := run_append_own (P := P) w base t o.type e i z size bytes h1 h2 h3 h4 h5 h6 h7 v n xs hown ad m c news hn hc h1c b1 b2 hb
  unfold Oper.wp
  simp [execOp, hop, resolve, invoke, builtin, hs, hx, hrun, Result.andThen]
  exact hK v' w' r1 r2

section
variable {w : World} {b : Nat} {s : ByteArray} {i : Nat}

/-- A parse that is thrown away. -/
def Bad {α : Type} (T : List PT) (R : Except Nat (α × Nat)) (j : Nat) : Prop := R = .error j ∨ ((∃ a, R = .ok (a, j)) ∧ (tk T j).k = 120)
def Good {α : Type} (T : List PT) (R : Except Nat (α × Nat)) (a : α) (j : Nat) : Prop := R = .ok (a, j) ∧ (tk T j).k ≠ 120

theorem bad_or_good {α : Type} (T : List PT) (R : Except Nat (α × Nat)) : (∃ j, Bad T R j) ∨ (∃ a j, Good T R a j) := by
  cases R with
  | error j => exact .inl ⟨j, .inl rfl⟩
  | ok x =>
    obtain ⟨a, j⟩ := x
    by_cases h : (tk T j).k = 120
    · exact .inl ⟨j, .inr ⟨⟨a, rfl⟩, h⟩⟩
    · exact .inr ⟨a, j, rfl, h⟩
theorem bad_one {α : Type} {T : List PT} {R : Except Nat (α × Nat)} {j k : Nat} (h : Bad T R j) (h' : Bad T R k) : k = j := by
  rcases h with h | ⟨⟨a, h⟩, _⟩ <;> rcases h' with h' | ⟨⟨a', h'⟩, _⟩ <;> rw [h] at h'
  · injection h' with h'; exact h'.symm
  · cases h'
  · cases h'
  · injection h' with h'; injection h' with _ h'; exact h'.symm
theorem good_not_bad {α : Type} {T : List PT} {R : Except Nat (α × Nat)} {a : α} {j k : Nat} (h : Good T R a j) (h' : Bad T R k) : False := by
  obtain ⟨h, hk⟩ := h
  rcases h' with h' | ⟨⟨a', h'⟩, h2⟩ <;> rw [h] at h'
  · cases h'
  · injection h' with h'
    injection h' with _ h'
    subst h'
    exact hk h2

theorem gout_bad {α : Type} {er : Nat} {R : Except Nat (α × Nat)} {V : α → Value → Prop} {en : Ending} {w' : World} (h : GOut er s b w R V en w') {j : Nat} (hb : Bad (allToks s.data.toList) R j) : en = pan er (tk (allToks s.data.toList) j).at_ ∧ w.grownBy w' (some b) := by
  obtain ⟨hg, ⟨k, he, hk⟩ | ⟨a, k, v, hR, hrs, he, hV⟩⟩ := h
  · have := bad_one hb hk
    subst this
    exact ⟨he, hg⟩
  · exact (good_not_bad ⟨hR, hrs.hk⟩ hb).elim
theorem gout_good {α : Type} {er : Nat} {R : Except Nat (α × Nat)} {V : α → Value → Prop} {en : Ending} {w' : World} (h : GOut er s b w R V en w') {a : α} {j : Nat} (hb : Good (allToks s.data.toList) R a j) : ∃ v, en = .returned v ∧ V a v ∧ RS er w' b s j ∧ w.grownBy w' (some b) := by
  obtain ⟨hg, ⟨k, he, hk⟩ | ⟨a', k, v, hR, hrs, he, hV⟩⟩ := h
  · exact (good_not_bad hb hk).elim
  · obtain ⟨h1, h2⟩ := hb
    rw [h1] at hR
    injection hR with hR
    injection hR with e1 e2
    subst e1 e2
    exact ⟨v, he, hV, hrs, hg⟩

theorem takeTask_bad (h : RS 2 w b s i) {j : Nat} (hb : Bad (allToks s.data.toList) (pTaskR (allToks s.data.toList) i) j) :
    Calls Tryz.prog 120 #[.pointer (some ⟨b, 0, none⟩)] w fun en w' => en = pan 2 (tk (allToks s.data.toList) j).at_ ∧ w.grownBy w' (some b) :=
  (takeTask_any h).mono fun _ _ h' => gout_bad h' hb
theorem takeTask_good (h : RS 2 w b s i) {t : Tk} {j : Nat} (hb : Good (allToks s.data.toList) (pTaskR (allToks s.data.toList) i) t j) :
    Calls Tryz.prog 120 #[.pointer (some ⟨b, 0, none⟩)] w fun en w' => ∃ z, en = .returned (ptRaw [t.nm] t.q0 t.P t.q1 t.O z t.C t.q3 t.D t.q4) ∧ (z = t.q2 ∨ t.O = 0) ∧ RS 2 w' b s j ∧ w.grownBy w' (some b) :=
  (takeTask_any h).mono fun _ _ h' => by
    obtain ⟨v, he, ⟨z, hv, hz⟩, hrs, hg⟩ := gout_good h' hb
    exact ⟨z, by rw [he, hv], hz, hrs, hg⟩
theorem takePair_bad (h : RS 2 w b s i) (hw : (sees (tk (allToks s.data.toList) i) wBefore || sees (tk (allToks s.data.toList) i) wApart) = true) {j : Nat} (hb : Bad (allToks s.data.toList) (pPairR (allToks s.data.toList) i) j) :
    Calls Tryz.prog 123 #[.pointer (some ⟨b, 0, none⟩)] w fun en w' => en = pan 2 (tk (allToks s.data.toList) j).at_ ∧ w.grownBy w' (some b) :=
  (takePair_any h hw).mono fun _ _ h' => gout_bad h' hb
theorem takePair_good (h : RS 2 w b s i) (hw : (sees (tk (allToks s.data.toList) i) wBefore || sees (tk (allToks s.data.toList) i) wApart) = true) {p : Pr} {j : Nat} (hb : Good (allToks s.data.toList) (pPairR (allToks s.data.toList) i) p j) :
    Calls Tryz.prog 123 #[.pointer (some ⟨b, 0, none⟩)] w fun en w' => en = .returned (ppRaw (if p.ap then [97, 112, 97, 114, 116] else [98, 101, 102, 111, 114, 101]) [p.a] p.q0 [p.b] p.q1) ∧ RS 2 w' b s j ∧ w.grownBy w' (some b) :=
  (takePair_any h hw).mono fun _ _ h' => by
    obtain ⟨v, he, hV, hrs, hg⟩ := gout_good h' hb
    exact ⟨by rw [he]; exact congrArg _ hV, hrs, hg⟩
end

/-! ### How far the text has been read -/

/-- Behind the tasks ts, at token i. -/
def TaskP (T : List PT) (i : Nat) (ts : List Tk) : Prop :=
  1 ≤ ts.length ∧ ts.length ≤ 6 ∧
  pFirst T = if decide (ts.length < 6) && sees (tk T i) wTask then (match pTasks (6 - ts.length) T (i + 1) with
      | .error e => .error e
      | .ok (ts', k) => .ok (ts ++ ts', k)) else .ok (ts, i)

theorem pTasks_step (f : Nat) (T : List PT) (i : Nat) {t : Tk} {j : Nat} (h : pTask T i = .ok (t, j)) : pTasks (f + 1) T i = if decide (0 < f) && sees (tk T j) wTask then (match pTasks f T (j + 1) with
      | .error e => .error e
      | .ok (ts, k) => .ok (t :: ts, k)) else .ok ([t], j) := by rw [pTasks, h]; rfl
theorem pTasks_err (f : Nat) (T : List PT) (i : Nat) {j : Nat} (h : pTask T i = .error j) : pTasks (f + 1) T i = .error j := by rw [pTasks, h]

theorem taskP_first {T : List PT} {t : Tk} {j : Nat} (h : pTaskR T 0 = .ok (t, j)) : TaskP T j [t] := by
  unfold pTaskR at h
  split at h
  · rename_i hs
    refine ⟨by simp, by simp, ?_⟩
    unfold pFirst
    rw [if_pos hs, pTasks_step 5 T 1 h]
    rfl
  · simp at h
theorem first_bad {T : List PT} {j : Nat} (h : Bad T (pTaskR T 0) j) : ∃ k, pSet T = .error k ∧ (tk T k).at_ = (tk T j).at_ := by
  refine ⟨j, ?_, rfl⟩
  rcases h with h | ⟨⟨t, h⟩, hk⟩
  · unfold pTaskR at h
    unfold pSet pFirst
    split at h
    · rename_i hs
      rw [if_pos hs, pTasks_err 5 T 1 h]
    · rename_i hs
      injection h with h
      subst h
      rw [if_neg hs]
  · have hP := (taskP_first h).2.2
    obtain ⟨x1, x2, x3, x4, x5⟩ := x_no hk
    rw [x1] at hP
    simp at hP
    unfold pSet
    rw [hP]
    simp only [pPairs, x1]
    simp [x5]

theorem pFirst_end {T : List PT} {ts : List Tk} {i : Nat} (h : pFirst T = .ok (ts, i)) (hk : (tk T i).k = 120) : pSet T = .error i := by
  obtain ⟨x1, x2, x3, x4, x5⟩ := x_no hk
  unfold pSet
  rw [h]
  simp only [pPairs, x1]
  simp [x5]

theorem taskP_more {T : List PT} {i : Nat} {ts : List Tk} (h : TaskP T i ts) (hn : ts.length < 6) (hs : sees (tk T i) wTask = true) :
    (∀ t j, pTaskR T i = .ok (t, j) → TaskP T j (ts ++ [t])) ∧ (∀ j, Bad T (pTaskR T i) j → pSet T = .error j) := by
  obtain ⟨h1, h6, hP⟩ := h
  have hR : pTaskR T i = pTask T (i + 1) := by unfold pTaskR; rw [if_pos hs]
  obtain ⟨f, hf⟩ : ∃ f, 6 - ts.length = f + 1 := ⟨5 - ts.length, by omega⟩
  rw [hs, hf] at hP
  simp only [hn, decide_true, Bool.true_and, if_true] at hP
  have good : ∀ t j, pTaskR T i = .ok (t, j) → TaskP T j (ts ++ [t]) := by
    intro t j hj
    rw [hR] at hj
    rw [pTasks_step f T (i + 1) hj] at hP
    refine ⟨by simp, by simp; omega, ?_⟩
    rw [hP]
    have hd : decide (0 < f) = decide ((ts ++ [t]).length < 6) := by simp; omega
    rw [hd]
    cases hc : (decide ((ts ++ [t]).length < 6) && sees (tk T j) wTask)
    · simp
    · simp only [if_true]
      rw [show 6 - (ts ++ [t]).length = f by simp; omega]
      generalize pTasks f T (j + 1) = R
      cases R <;> simp
  refine ⟨good, ?_⟩
  intro j hb
  rcases hb with hb | ⟨⟨t, hb⟩, hk⟩
  · rw [hR] at hb
    rw [pTasks_err f T (i + 1) hb] at hP
    unfold pSet
    rw [hP]
  · have h2 := (good t j hb).2.2
    obtain ⟨x1, x2, x3, x4, x5⟩ := x_no hk
    rw [x1] at h2
    simp at h2
    exact pFirst_end h2 hk
theorem taskP_done {T : List PT} {i : Nat} {ts : List Tk} (h : TaskP T i ts) (hn : (decide (ts.length < 6) && sees (tk T i) wTask) = false) : pFirst T = .ok (ts, i) := by
  rw [h.2.2, hn]; simp

/-- Behind the tasks ts and the pairs ps, at token i. -/
def PairP (T : List PT) (i : Nat) (ts : List Tk) (ps : List Pr) : Prop :=
  ps.length ≤ 6 ∧ ∃ j0, pFirst T = .ok (ts, j0) ∧ pPairs 6 T j0 = match pPairs (6 - ps.length) T i with
      | .error e => .error e
      | .ok (ps', k) => .ok (ps ++ ps', k)

theorem pairP_start {T : List PT} {i : Nat} {ts : List Tk} (h : pFirst T = .ok (ts, i)) : PairP T i ts [] := by
  refine ⟨by simp, i, h, ?_⟩
  simp only [List.length_nil, Nat.sub_zero]
  generalize pPairs 6 T i = R
  cases R <;> simp
theorem pairP_done {T : List PT} {i : Nat} {ts : List Tk} {ps : List Pr} (h : PairP T i ts ps) (hn : ((sees (tk T i) wBefore || sees (tk T i) wApart) && decide (ps.length < 6)) = false) :
    ((tk T i).k = 101 → pSet T = .ok (ts, ps)) ∧ ((tk T i).k ≠ 101 → pSet T = .error i) := by
  obtain ⟨h6, j0, hF, hP⟩ := h
  have hq : pPairs (6 - ps.length) T i = .ok ([], i) := by
    cases hc : 6 - ps.length with
    | zero => rfl
    | succ f =>
      have hlt : ps.length < 6 := by omega
      simp only [hlt, decide_true, Bool.and_true] at hn
      rw [pPairs, hn]; rfl
  rw [hq] at hP
  simp only [List.append_nil] at hP
  unfold pSet
  rw [hF]
  simp only [hP]
  constructor
  · intro hk; simp [hk]
  · intro hk; simp [hk]
theorem pairP_more {T : List PT} {i : Nat} {ts : List Tk} {ps : List Pr} (h : PairP T i ts ps) (hn : ps.length < 6) (hs : (sees (tk T i) wBefore || sees (tk T i) wApart) = true) :
    (∀ p j, pPairR T i = .ok (p, j) → PairP T j ts (ps ++ [p])) ∧ (∀ j, Bad T (pPairR T i) j → pSet T = .error j) := by
  obtain ⟨h6, j0, hF, hP⟩ := h
  obtain ⟨f, hf⟩ : ∃ f, 6 - ps.length = f + 1 := ⟨5 - ps.length, by omega⟩
  rw [hf] at hP
  have hp : pPairs (f + 1) T i = match pPairR T i with
      | .error e => .error e
      | .ok (p, j) =>
        match pPairs f T j with
        | .error e => .error e
        | .ok (ps, k) => .ok (p :: ps, k) := by rw [pPairs, if_pos hs]; rfl
  rw [hp] at hP
  have good : ∀ p j, pPairR T i = .ok (p, j) → PairP T j ts (ps ++ [p]) := by
    intro p j hj
    rw [hj] at hP
    refine ⟨by simp; omega, j0, hF, ?_⟩
    rw [hP]
    simp only
    rw [show 6 - (ps ++ [p]).length = f by simp; omega]
    generalize pPairs f T j = R
    cases R <;> simp
  refine ⟨good, ?_⟩
  intro j hb
  rcases hb with hb | ⟨⟨p, hb⟩, hk⟩
  · rw [hb] at hP
    unfold pSet
    rw [hF]
    simp only [hP]
  · obtain ⟨x1, x2, x3, x4, x5⟩ := x_no hk
    exact (pairP_done (good p j hb) (by rw [x1, x1]; rfl)).2 (by omega)

/-! ### The memory of parseSet -/

def ptC (x : Tk × Nat) : List Value := [.string (bs [x.1.nm]), .int .i64 x.1.q0, .int .i64 x.1.P, .int .i64 x.1.q1, .int .i64 x.1.O, .int .i64 x.2, .int .i64 x.1.C, .int .i64 x.1.q3, .int .i64 x.1.D, .int .i64 x.1.q4]
def ppC (p : Pr) : List Value := [.string (bs (if p.ap then [97, 112, 97, 114, 116] else [98, 101, 102, 111, 114, 101])), .string (bs [p.a]), .int .i64 p.q0, .string (bs [p.b]), .int .i64 p.q1]
def ptRow (l : List (Tk × Nat)) : List Value := l.flatMap ptC
def ppRow (l : List Pr) : List Value := l.flatMap ppC
/-- The places of offsets, as far as they matter. -/
def ZOk (l : List (Tk × Nat)) : Prop := ∀ x ∈ l, x.2 = x.1.q2 ∨ x.1.O = 0

structure QW (w wk : World) (b X : Nat) (s : ByteArray) (i : Nat) (tv : Value) (n : Nat) (xs : List Value) (pv : Value) (m : Nat) (ys : List Value) : Prop where
  rs : RS 2 wk b s i
  hx : wk.heap[X]? = some (.cells #[tv, pv] 84 (0, 0))
  hy : wk.heap[w.heap.size]? = some (.cells #[.slice none 0 0, .slice none 0 0] 84 (0, 0))
  ot : wk.ownsRow (b + 1) 172 10 tv n xs
  op : wk.ownsRow (b + 1) 175 5 pv m ys
  g : w.grownBy wk none
  h1 : w.heap.size < b
  h2 : b < X
  h3 : X < wk.heap.size
  h4 : tv.ownBlock ≠ some X
  h5 : pv.ownBlock ≠ some X
  h6 : ∀ k, tv.ownBlock = some k → pv.ownBlock ≠ some k

section
variable {w wk : World} {b X : Nat} {s : ByteArray} {i : Nat} {tv : Value} {n : Nat} {xs : List Value} {pv : Value} {m : Nat} {ys : List Value}
theorem QW.call (h : QW w wk b X s i tv n xs pv m ys) {w' : World} {i' : Nat} (p : RS 2 w' b s i') (g : wk.grownBy w' (some b)) : QW w w' b X s i' tv n xs pv m ys := by
  have h1 := h.h1
  have h2 := h.h2
  have h3 := h.h3
  refine ⟨p, ?_, ?_, h.ot.kept g (.inr (own_ge h.ot (by omega))), h.op.kept g (.inr (own_ge h.op (by omega))), grownBy_new h.g g (by omega), h1, h2, by have := g.size; omega, h.h4, h.h5, h.h6⟩
  · rw [g.block _ h3 (by simp; omega)]; exact h.hx
  · rw [g.block _ (by omega) (by simp; omega)]; exact h.hy
theorem QW.drew (h : QW w wk b X s i tv n xs pv m ys) : QW w wk.drew b X s i tv n xs pv m ys := h.call (h.rs.keep rfl) ⟨rfl, rfl, rfl, Nat.le_refl _, fun _ _ _ => rfl⟩
theorem QW.cells (h : QW w wk b X s i tv n xs pv m ys) : wk.cell? ⟨X, 0, none⟩ = some tv ∧ wk.cell? ⟨X, 1, none⟩ = some pv ∧ (∀ o, wk.frozen? ⟨X, o, none⟩ = false) ∧ (∀ o, wk.cell? ⟨w.heap.size, o, none⟩ = #[Value.slice none 0 0, .slice none 0 0][o]?) ∧ (∀ o, wk.frozen? ⟨w.heap.size, o, none⟩ = false) :=
  ⟨by rw [blk_cell h.hx]; rfl, by rw [blk_cell h.hx]; rfl, blk_frozen h.hx, blk_cell h.hy, blk_frozen h.hy⟩

/-- Behind an append's growing, whichever of the two rows it is that has been written, or made anew. -/
theorem QW.grow (h : QW w wk b X s i tv n xs pv m ys) {o1 : Obj} {w2 : World} {r : Option Nat} (hg : (wk.alloc o1).grownBy w2 r) (hr : r = tv.ownBlock ∨ r = pv.ownBlock) :
    RS 2 w2 b s i ∧ w2.heap[X]? = some (.cells #[tv, pv] 84 (0, 0)) ∧ w2.heap[w.heap.size]? = some (.cells #[.slice none 0 0, .slice none 0 0] 84 (0, 0)) ∧ w.grownBy w2 none ∧ X < w2.heap.size := by
  have h1 := h.h1
  have h2 := h.h2
  have h3 := h.h3
  have hsz := hg.size
  simp only [World.size_alloc] at hsz
  have hlow : ∀ k, k < b + 1 → r ≠ some k := by
    intro k hk
    rcases hr with rfl | rfl
    · exact own_ge h.ot hk
    · exact own_ge h.op hk
  have hX : r ≠ some X := by
    rcases hr with rfl | rfl
    · exact h.h4
    · exact h.h5
  refine ⟨?_, ?_, ?_, ?_, by omega⟩
  · exact h.rs.keep (by rw [hg.block _ (by simp; omega) (fun e => hlow b (by omega) e.symm), Below.heap_alloc _ _ _ (by omega)])
  · rw [hg.block _ (by simp; omega) (fun e => hX e.symm), Below.heap_alloc _ _ _ h3]; exact h.hx
  · rw [hg.block _ (by simp; omega) (fun e => hlow _ (by omega) e.symm), Below.heap_alloc _ _ _ (by omega)]; exact h.hy
  · have ha := grownBy_alloc' h.g o1
    refine ⟨hg.os.trans ha.os, hg.tape.trans ha.tape, hg.output.trans ha.output, Nat.le_trans ha.size hg.size, fun k hk hne => ?_⟩
    rw [hg.block k (by simp; omega) (fun e => hlow k (by omega) e.symm)]
    exact ha.block k hk hne

/-- A row lies in no block of another type. -/
theorem own_type {w : World} {base : Nat} {e : TypeId} {size : Nat} {v : Value} {n : Nat} {xs : List Value} (h : w.ownsRow base e size v n xs) {X : Nat} {c : Array Value} {ty : TypeId} {f : Nat × Nat} (hx : w.heap[X]? = some (.cells c ty f)) (hne : e ≠ ty) : v.ownBlock ≠ some X := by
  rcases h.2 with ⟨rfl, _⟩ | ⟨g, cap, cur, rfl, _, hc, _⟩
  · simp [Value.ownBlock]
  · intro he
    simp [Value.ownBlock] at he
    subst he
    rw [hx] at hc
    injection hc with hc
    injection hc with _ h2
    exact hne h2.symm
theorem own_apart {w : World} {base base' : Nat} {e e' : TypeId} {size size' : Nat} {v v' : Value} {n n' : Nat} {xs xs' : List Value} (h : w.ownsRow base e size v n xs) (h' : w.ownsRow base' e' size' v' n' xs') (hne : e' ≠ e) : ∀ k, v.ownBlock = some k → v'.ownBlock ≠ some k := by
  intro k hk
  rcases h.2 with ⟨rfl, _⟩ | ⟨g, cap, cur, rfl, _, hc, _⟩
  · simp [Value.ownBlock] at hk
  · simp [Value.ownBlock] at hk
    subst hk
    exact own_type h' hc hne

theorem QW.pushT (h : QW w wk b X s i tv n xs pv m ys) {o1 : Obj} {w2 : World} {v' : Value} {news : List Value} (hg : (wk.alloc o1).grownBy w2 tv.ownBlock) (hown : w2.ownsRow (b + 1) 172 10 v' (n + 1) (xs ++ news)) :
    QW w (w2.setCell ⟨X, 0, none⟩ v') b X s i v' (n + 1) (xs ++ news) pv m ys := by
  obtain ⟨g1, g2, g3, g4, g5⟩ := h.grow hg (.inl rfl)
  have h1 := h.h1
  have h2 := h.h2
  have hop : w2.ownsRow (b + 1) 175 5 pv m ys := by
    refine (h.op.alloc o1).kept hg ?_
    cases hq : pv.ownBlock with
    | none => exact .inl rfl
    | some k => exact .inr (fun e => h.h6 k e.symm (by rw [hq]))
  have hset : w2.grownBy (w2.setCell ⟨X, 0, none⟩ v') (some X) := grownBy_set (grownBy_refl _ _) _ _
  have hvX := own_type hown g2 (by decide)
  have hpX := own_type hop g2 (by decide)
  refine ⟨g1.set (by omega) _ _, ?_, ?_, hown.kept hset (.inr hvX), hop.kept hset (.inr hpX), grownBy_setNew g4 (by omega) _ _, h1, h2, by rw [heap_set_size]; exact g5, hvX, hpX, own_apart hown hop (by decide)⟩
  · rw [blk_set g2]; rfl
  · rw [Below.heap_setCell _ _ _ _ (by show w.heap.size ≠ X; omega)]; exact g3
theorem QW.pushP (h : QW w wk b X s i tv n xs pv m ys) {o1 : Obj} {w2 : World} {v' : Value} {news : List Value} (hg : (wk.alloc o1).grownBy w2 pv.ownBlock) (hown : w2.ownsRow (b + 1) 175 5 v' (m + 1) (ys ++ news)) :
    QW w (w2.setCell ⟨X, 1, none⟩ v') b X s i tv n xs v' (m + 1) (ys ++ news) := by
  obtain ⟨g1, g2, g3, g4, g5⟩ := h.grow hg (.inr rfl)
  have h1 := h.h1
  have h2 := h.h2
  have hot : w2.ownsRow (b + 1) 172 10 tv n xs := by
    refine (h.ot.alloc o1).kept hg ?_
    cases hq : tv.ownBlock with
    | none => exact .inl rfl
    | some k => exact .inr (fun e => h.h6 k hq e.symm)
  have hset : w2.grownBy (w2.setCell ⟨X, 1, none⟩ v') (some X) := grownBy_set (grownBy_refl _ _) _ _
  have hvX := own_type hown g2 (by decide)
  have htX := own_type hot g2 (by decide)
  refine ⟨g1.set (by omega) _ _, ?_, ?_, hot.kept hset (.inr htX), hown.kept hset (.inr hvX), grownBy_setNew g4 (by omega) _ _, h1, h2, by rw [heap_set_size]; exact g5, htX, hvX, own_apart hot hown (by decide)⟩
  · rw [blk_set g2]; rfl
  · rw [Below.heap_setCell _ _ _ _ (by show w.heap.size ≠ X; omega)]; exact g3
end
end Go.Proofs.YtbdffcjganlblaaGreatDoor

namespace Go.Proofs.YtbdffcjganlblaaGreatDoor
open Go.RowKit
set_option linter.unusedVariables false
set_option linter.unusedSimpArgs false

/-! ### A row that grows beside another -/
end Go.Proofs.YtbdffcjganlblaaGreatDoor

namespace Go.Proofs.YtbdffcjganlblaaGreatDoor
open Go.RowKit
set_option linter.unusedVariables false
set_option linter.unusedSimpArgs false

/-! ### Memory -/
section
variable {w wk : World} {B r cap : Nat} {T : List PT} {i : Nat} {bad : Bool} {X c f : Nat} {sv : Value}
end
end Go.Proofs.YtbdffcjganlblaaGreatDoor
