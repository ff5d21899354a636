/-
  Own work. The program's run: its map of jobs.
-/
import Derived.Test.YtbdffcjganlblaaGreatDoorRows
import Derived.WalkKit
import Derived.WalkLawsBesides
import Derived.WalkSpells
import Derived.Maps.Keyed
import Derived.Maps.OwnOps
import Derived.DeepKeys4
import Derived.Test.YtbdffcjganlblaaGreatDoorMRunEtoEdG
namespace Go.Proofs.YtbdffcjganlblaaGreatDoor
open Go.RowKit Go.Maps
open Go.ChangeMaps (setBlock heap_setBlock_same heap_setBlock_other)
set_option linter.unusedVariables false
set_option linter.unusedSimpArgs false

theorem laidOutM : laidOutB Tryz.prog = true := by kernel_rfl
theorem keyRow : (164 : TypeId) < Tryz.prog.types.size := of_decide_eq_true (by kernel_rfl)
theorem keyDeep : Tryz.prog.keyTypeAt (Tryz.prog.types.size + 1) 164 = true := by kernel_rfl
theorem keyWide : (match Tryz.prog.underlying 164 with | some (.array _ _) | some (.struct _) => true | _ => false) = true := by rw [Tryz.underlying164]
set_option maxRecDepth 100000 in
theorem keyLaw : Keyed Tryz.prog 164 := Keyed.of_law (deep_law_laid laidOutM (m := 2) (by omega) keyRow (by kernel_rfl) keyWide)
theorem keyCells : Tryz.prog.cellsOf 164 = 2 := by kernel_rfl
theorem keyCellB : Tryz.prog.cellsOf 5 = 1 := by kernel_rfl
theorem keyCellI : Tryz.prog.cellsOf 3 = 1 := by kernel_rfl

/-- A job's key. -/
abbrev JK := UInt8 × Nat
def keyV (k : JK) : Value := .agg #[.int .u8 k.1.toNat, .int .i64 k.2]
theorem keyV_inj {a b : JK} (h : keyV a = keyV b) : a = b := by
  unfold keyV at h
  simp at h
  obtain ⟨h1, h2⟩ := h
  have e1 : a.1 = b.1 := by
    apply UInt8.toNat_inj.1
    omega
  exact Prod.ext e1 (by omega)
theorem keyV_lits (d : Nat) (a b : Int) (h8 : (Lit.int .u8 a).wf = true) (h64 : (Lit.int .i64 b).wf = true) : Tryz.prog.keyLits (d + 2) 164 [.int .u8 a, .int .i64 b] = some [.int .u8 a, .int .i64 b] := by
  have e1 : ∀ d, Tryz.prog.keyLits (d + 1) 5 [.int .u8 a] = some [.int .u8 a] := fun d => by
    unfold Program.keyLits
    rw [Tryz.underlying5]
    exact if_pos ⟨rfl, h8⟩
  have e2 : ∀ d, Tryz.prog.keyLits (d + 1) 3 [.int .i64 b] = some [.int .i64 b] := fun d => by
    unfold Program.keyLits
    rw [Tryz.underlying3]
    exact if_pos ⟨rfl, h64⟩
  unfold Program.keyLits
  rw [Tryz.underlying164]
  simp only [List.length_cons, List.length_nil, keyCells]
  rw [if_pos ⟨trivial, by kernel_rfl⟩]
  simp [keyCellB, keyCellI, e1, e2]
theorem keyV_of (k : JK) (hk : k.2 ≤ 1000000) : ∃ kl, keyOf Tryz.prog 164 (keyV k) = some kl := by
  have hf : (keyV k).formed Tryz.prog 164 = true := by simp [keyV, Value.formed, Tryz.underlying164, keyCells]
  have h8 : (Lit.int .u8 (k.1.toNat : Int)).wf = true := WalkArith.wf_u8 (by have := k.1.toNat_lt; omega)
  have h64 : (Lit.int .i64 (k.2 : Int)).wf = true := WalkArith.wf_i64 (by omega)
  have hr : (0 : Nat) < Tryz.prog.types.size := of_decide_eq_true (by kernel_rfl)
  have hd := keyDeep
  unfold keyOf
  rw [Tryz.underlying164]
  simp only
  unfold Program.keyType
  rw [hd, hf]
  obtain ⟨d, e⟩ : ∃ d, Tryz.prog.types.size + 1 = d + 2 := ⟨Tryz.prog.types.size - 1, by
    generalize Tryz.prog.types.size = T at hr ⊢
    omega⟩
  rw [e]
  have hl := keyV_lits d k.1.toNat k.2 h8 h64
  rw [show (keyV k).cells.toList = [.int .u8 k.1.toNat, .int .i64 k.2] from rfl, hl]
  exact ⟨_, rfl⟩

/-- The map of jobs in block M: each job's key, and the block in which it lies. -/
def KMap (w : World) (M : Nat) (es : List (JK × Nat)) : Prop :=
  ∃ arr clock, w.heap[M]? = some (.map arr clock) ∧ arr.toList.map (fun e => (e.key, e.val)) = es.map (fun x => (keyV x.1, Value.pointer (some ⟨x.2, 0, none⟩))) ∧ es.length ≤ 1000
theorem KMap.keep {w w' : World} {M : Nat} {es : List (JK × Nat)} (h : KMap w M es) (hb : w'.heap[M]? = w.heap[M]?) : KMap w' M es := by
  obtain ⟨arr, clock, h1, h2⟩ := h
  exact ⟨arr, clock, by rw [hb]; exact h1, h2⟩
theorem KMap.made (w : World) : KMap (w.alloc (.map #[] 0)) w.heap.size [] := ⟨#[], 0, (MapKept.heap_alloc w _).1, rfl, by simp⟩
theorem KMap.lt {w : World} {M : Nat} {es : List (JK × Nat)} (h : KMap w M es) : M < w.heap.size := by
  obtain ⟨arr, clock, h1, _⟩ := h
  exact (Array.getElem?_eq_some_iff.1 h1).1
theorem kmap_keys {arr : Array MapEntry} {es : List (JK × Nat)} (h : arr.toList.map (fun e => (e.key, e.val)) = es.map (fun x => (keyV x.1, Value.pointer (some ⟨x.2, 0, none⟩)))) (hs : ∀ x ∈ es, x.1.2 ≤ 1000000) : ∀ e ∈ arr.toList, ∃ l, keyOf Tryz.prog 164 e.key = some l := by
  intro e he
  have : (e.key, e.val) ∈ arr.toList.map (fun e => (e.key, e.val)) := List.mem_map.2 ⟨e, he, rfl⟩
  rw [h] at this
  obtain ⟨x, hx, ex⟩ := List.mem_map.1 this
  simp only [Prod.mk.injEq] at ex
  rw [← ex.1]
  exact keyV_of x.1 (hs x hx)
theorem zeroJob (w : World) : (zeroValue 122).run Tryz.prog w = .ok (.pointer none) w := by kernel_rfl
/-- A look-up. -/
theorem KMap.look {w : World} {M : Nat} {es : List (JK × Nat)} (h : KMap w M es) (hs : ∀ x ∈ es, x.1.2 ≤ 1000000) (k : JK) (hk : k.2 ≤ 1000000) :
    ((∀ x ∈ es, x.1 ≠ k) ∧ (Instr.lookup 162 (.map (some M)) (keyV k) false).run Tryz.prog w = .ok (.pointer none) w) ∨
    ∃ (j : Nat) (x : JK × Nat), es[j]? = some x ∧ x.1 = k ∧ (Instr.lookup 162 (.map (some M)) (keyV k) false).run Tryz.prog w = .ok (.pointer (some ⟨x.2, 0, none⟩)) w := by
  obtain ⟨arr, clock, hb, he, hl⟩ := h
  obtain ⟨kl, hkl⟩ := keyV_of k hk
  rcases keyLaw.find w hkl arr.toList (kmap_keys he hs) with ⟨h1, h2⟩ | ⟨j, e0, h1, h2, h3⟩
  · left
    refine ⟨fun x hx ex => ?_, ?_⟩
    · have : (keyV x.1, Value.pointer (some ⟨x.2, 0, none⟩)) ∈ es.map (fun x => (keyV x.1, Value.pointer (some ⟨x.2, 0, none⟩))) := List.mem_map.2 ⟨x, hx, rfl⟩
      rw [← he] at this
      obtain ⟨e, hm, ee⟩ := List.mem_map.1 this
      simp only [Prod.mk.injEq] at ee
      exact h2 e hm (by rw [ee.1, ex])
    · simp [Instr.lookup, run_underlying Tryz.underlying162, MapKept.run_getObj_map hb, keyLaw.check w _ hkl, h1, zeroJob w, Result.andThen]
  · right
    have e1 : (arr.toList.map (fun e => (e.key, e.val)))[j]? = some (e0.key, e0.val) := by rw [List.getElem?_map, h2]; rfl
    rw [he, List.getElem?_map] at e1
    cases hx : es[j]? with
    | none => rw [hx] at e1; simp at e1
    | some x =>
      rw [hx] at e1
      simp only [Option.map_some, Option.some.injEq, Prod.mk.injEq] at e1
      refine ⟨j, x, hx, keyV_inj (e1.1.trans h3), ?_⟩
      simp [Instr.lookup, run_underlying Tryz.underlying162, MapKept.run_getObj_map hb, keyLaw.check w _ hkl, h1, Result.andThen]
      exact e1.2.symm
/-- A new key's store. -/
theorem KMap.store {w : World} {M : Nat} {es : List (JK × Nat)} (h : KMap w M es) (hs : ∀ x ∈ es, x.1.2 ≤ 1000000) (k : JK) (hk : k.2 ≤ 1000000) (hn : ∀ x ∈ es, x.1 ≠ k) (hl : es.length + 1 ≤ 1000) (A : Nat) :
    ∃ w', (Instr.mapUpdate 162 (.map (some M)) (keyV k) (.pointer (some ⟨A, 0, none⟩))).run Tryz.prog w = .ok () w' ∧ KMap w' M (es ++ [(k, A)]) ∧ w.grownBy w' (some M) := by
  obtain ⟨arr, clock, hb, he, _⟩ := h
  obtain ⟨kl, hkl⟩ := keyV_of k hk
  rcases keyLaw.find w hkl arr.toList (kmap_keys he hs) with ⟨h1, h2⟩ | ⟨j, e0, h1, h2, h3⟩
  · refine ⟨setBlock w M (.map (arr.push ⟨keyV k, .pointer (some ⟨A, 0, none⟩), clock⟩) (clock + 1)), ?_, ⟨_, _, heap_setBlock_same hb _, ?_, by simp; omega⟩, ⟨rfl, rfl, rfl, by simp [setBlock], fun i _ hi => heap_setBlock_other hb _ (fun e => hi (by rw [e]))⟩⟩
    · simp [Instr.mapUpdate, run_underlying Tryz.underlying162, MapKept.run_getObj_map hb, keyLaw.check w false hkl, h1, MapKept.run_setObj_map _ hb, Result.andThen, setBlock]
    · rw [Array.toList_push, List.map_append, he, List.map_append]
      rfl
  · exfalso
    have e1 : (arr.toList.map (fun e => (e.key, e.val)))[j]? = some (e0.key, e0.val) := by rw [List.getElem?_map, h2]; rfl
    rw [he, List.getElem?_map] at e1
    cases hx : es[j]? with
    | none => rw [hx] at e1; simp at e1
    | some x =>
      rw [hx] at e1
      simp only [Option.map_some, Option.some.injEq, Prod.mk.injEq] at e1
      exact hn x (List.mem_of_getElem? hx) (keyV_inj (e1.1.trans h3))

def jobV (nm : UInt8) (bud left : Nat) (want : Int) : Array Value := #[.int .u8 nm.toNat, .int .i64 bud, .int .i64 left, .int .i64 want]

/-! ### At the operation, for the walk -/
theorem wpList_look_at {P : Program} (w : World) {ops : Array Oper} {rest : List Oper} {o : Oper} {a : Act} {Q : Exit → Act → World → Prop}
    (hg : o.guard = none) (m x : Operand) (t : TypeId) (hop : o.op = Op.lookup t m x false) (mv xv v : Value) (hm : a.eval m = mv) (hx : a.eval x = xv)
    (hrun : (Instr.lookup t mv xv false).run P w = .ok v w) (hK : wpList P ops Q rest (a.put o.dst v) w) : wpList P ops Q (o :: rest) a w := by
  refine wpList_plain hg fun K' hK' => ?_
  unfold Oper.wp
  simp [execOp, hop, hm, hx, hrun, Result.andThen]
  exact hK' _ _ hK
theorem wpList_store_at {P : Program} (w : World) {ops : Array Oper} {rest : List Oper} {o : Oper} {a : Act} {Q : Exit → Act → World → Prop}
    (hg : o.guard = none) (m x v : Operand) (t : TypeId) (hop : o.op = Op.mapUpdate t m x v) (mv xv vv : Value) (hm : a.eval m = mv) (hx : a.eval x = xv) (hv : a.eval v = vv) (w' : World)
    (hrun : (Instr.mapUpdate t mv xv vv).run P w = .ok () w') (hK : wpList P ops Q rest (a.put o.dst undef) w') : wpList P ops Q (o :: rest) a w := by
  refine wpList_plain hg fun K' hK' => ?_
  unfold Oper.wp
  simp [execOp, hop, hm, hx, hv, hrun, Result.andThen]
  exact hK' _ _ hK
end Go.Proofs.YtbdffcjganlblaaGreatDoor

namespace Go.Proofs.YtbdffcjganlblaaGreatDoor
open Go.RowKit Go.Maps
set_option linter.unusedVariables false
set_option linter.unusedSimpArgs false

/-- Job k in its block. -/
def ptrP (P : List Nat) (k : Nat) : Value := .pointer (some ⟨P.getD k 0, 0, none⟩)
/-- What the row of units holds at u, with q slices done and r units of the next. -/
def uvV (l : List FSl) (fr : Nat) (P : List Nat) (q r u : Nat) : Value :=
  match atTo l fr u q with
  | some i => ptrP P (numI l i)
  | none => if startI l fr q ≤ u ∧ u < startI l fr q + r then ptrP P (numI l q) else .pointer none
def keyK (l : List FSl) (k : Nat) : JK := ((fsk l (jobI l k)).2.nm, (fsk l (jobI l k)).2.job)
def keysL (l : List FSl) (n : Nat) (P : List Nat) : List (JK × Nat) := (List.range n).map (fun k => (keyK l k, P.getD k 0))
theorem keyK_num {l : List FSl} {q : Nat} (hq : q < l.length) : keyK l (numI l q) = ((fsk l q).2.nm, (fsk l q).2.job) := by
  obtain ⟨_, _, a, _⟩ := jobI_num hq
  unfold keyK
  rw [a.1, a.2]
theorem cnt_le {l : List FSl} {q : Nat} (hq : q ≤ l.length) : cntTo l q ≤ cntTo l l.length := by
  obtain ⟨r, hr⟩ := firsts_pre l q (l.length - q)
  rw [show q + (l.length - q) = l.length by omega] at hr
  rw [← firsts_len, ← firsts_len, hr]
  simp
theorem keyK_inj {l : List FSl} {a b : Nat} (ha : a < cntTo l l.length) (hb : b < cntTo l l.length) (h : keyK l a = keyK l b) : a = b := by
  obtain ⟨i, hi, ei, _⟩ := num_surj (l := l) l.length (Nat.le_refl _) a ha
  obtain ⟨j, hj, ej, _⟩ := num_surj (l := l) l.length (Nat.le_refl _) b hb
  subst ei ej
  rw [keyK_num hi, keyK_num hj] at h
  injection h with h1 h2
  exact (sameJ_iff hi hj).2 ⟨h1.symm, h2.symm⟩
theorem num_lt_cnt {l : List FSl} {i q : Nat} (hi : i < q) (hq : q ≤ l.length) : numI l i < cntTo l q := by
  obtain ⟨a, b, c, _⟩ := jobI_num (l := l) (i := i) (by omega)
  have e : (spotI l (jobI l (numI l i))).fst = jobI l (numI l i) := spotI_self a c
  have h2 : cntTo l (jobI l (numI l i) + 1) = cntTo l (jobI l (numI l i)) + 1 := by rw [cntTo, if_pos e]
  have h3 : numI l i = cntTo l (jobI l (numI l i)) := by
    conv => lhs; unfold numI
    rw [a]
    rfl
  obtain ⟨r, hr⟩ := firsts_pre l (jobI l (numI l i) + 1) (q - (jobI l (numI l i) + 1))
  rw [show jobI l (numI l i) + 1 + (q - (jobI l (numI l i) + 1)) = q by omega] at hr
  have h4 := firsts_len l q
  rw [hr, List.length_append, firsts_len] at h4
  omega

structure UX (w wr : World) (tv : Array Value) (cyc fr : Nat) (l : List FSl) (q r kq bq : Nat) (P : List Nat) : Prop where
  hx : wr.heap[w.heap.size]? = some (.cells tv 61 (0, 0))
  hu : ∃ arr, wr.heap[w.heap.size + 1]? = some (.cells arr 122 (0, 0)) ∧ ∀ u, u < cyc → arr[u]? = some (uvV l fr P q r u)
  hm : KMap wr (w.heap.size + 1 + 1) (keysL l P.length P)
  hj : ∀ k, k < P.length → w.heap.size + 1 + 1 < P.getD k 0 ∧ wr.heap[P.getD k 0]? = some (.cells (jobV (nmK l k) (hadK l k bq) 0 0) 166 (0, 0))
  inj : ∀ a b, a < P.length → b < P.length → P.getD a 0 = P.getD b 0 → a = b
  pl : P.length = cntTo l kq
  kl : kq ≤ l.length
  bel : Below w.heap.size w wr
section
variable {w wr : World} {tv : Array Value} {cyc fr : Nat} {l : List FSl} {q r kq bq : Nat} {P : List Nat}
theorem UX.keep (h : UX w wr tv cyc fr l q r kq bq P) {w' : World} (hb : Below wr.heap.size wr w') : UX w w' tv cyc fr l q r kq bq P := by
  obtain ⟨arr, h1, h2⟩ := h.hu
  exact ⟨blk_keep h.hx hb, ⟨arr, blk_keep h1 hb, h2⟩, h.hm.keep (hb.block _ h.hm.lt), fun k hk => ⟨(h.hj k hk).1, blk_keep (h.hj k hk).2 hb⟩, h.inj, h.pl, h.kl, h.bel.trans (hb.mono h.bel.size)⟩
theorem UX.drew (h : UX w wr tv cyc fr l q r kq bq P) : UX w wr.drew tv cyc fr l q r kq bq P := ⟨h.hx, h.hu, h.hm, h.hj, h.inj, h.pl, h.kl, h.bel.drew⟩
theorem UX.small (h : UX w wr tv cyc fr l q r kq bq P) (hs : ∀ i, i < l.length → (fsk l i).2.job ≤ 9999) : ∀ x ∈ keysL l P.length P, x.1.2 ≤ 1000000 := by
  intro x hx
  obtain ⟨k, hk, rfl⟩ := List.mem_map.1 hx
  rw [List.mem_range, h.pl] at hk
  obtain ⟨i, hi, _, e⟩ := num_surj (l := l) kq h.kl k hk
  have := hs (jobI l k) (by have := h.kl; omega)
  show (fsk l (jobI l k)).2.job ≤ 1000000
  omega
theorem UX.look_none (h : UX w wr tv cyc fr l q r kq bq P) (hs : ∀ i, i < l.length → (fsk l i).2.job ≤ 9999) (hq : q < l.length) (hk : kq = q) (hf : jobI l (numI l q) = q) :
    (Instr.lookup 162 (.map (some (w.heap.size + 1 + 1))) (keyV ((fsk l q).2.nm, (fsk l q).2.job)) false).run Tryz.prog wr = .ok (.pointer none) wr ∧ ∀ x ∈ keysL l P.length P, x.1 ≠ ((fsk l q).2.nm, (fsk l q).2.job) := by
  have hno : ∀ x ∈ keysL l P.length P, x.1 ≠ ((fsk l q).2.nm, (fsk l q).2.job) := by
    intro x hx e
    obtain ⟨k, hkm, rfl⟩ := List.mem_map.1 hx
    rw [List.mem_range, h.pl, hk] at hkm
    obtain ⟨i, hi, ei, ej⟩ := num_surj (l := l) q (by omega) k hkm
    have e2 : keyK l k = keyK l (numI l q) := by rw [keyK_num hq]; exact e
    have := keyK_inj (l := l) (a := k) (b := numI l q) (Nat.lt_of_lt_of_le hkm (cnt_le (by omega))) (num_lt_cnt hq (Nat.le_refl _)) e2
    rw [this, hf] at ej
    omega
  refine ⟨?_, hno⟩
  rcases h.hm.look (h.small hs) ((fsk l q).2.nm, (fsk l q).2.job) (by have := hs q hq; show (fsk l q).2.job ≤ 1000000; omega) with ⟨_, e⟩ | ⟨j, x, hx, ex, _⟩
  · exact e
  · exact absurd ex (hno x (List.mem_of_getElem? hx))
theorem UX.look_some (h : UX w wr tv cyc fr l q r kq bq P) (hs : ∀ i, i < l.length → (fsk l i).2.job ≤ 9999) (hq : q < l.length) (hk : numI l q < P.length) :
    (Instr.lookup 162 (.map (some (w.heap.size + 1 + 1))) (keyV ((fsk l q).2.nm, (fsk l q).2.job)) false).run Tryz.prog wr = .ok (ptrP P (numI l q)) wr := by
  rcases h.hm.look (h.small hs) ((fsk l q).2.nm, (fsk l q).2.job) (by have := hs q hq; show (fsk l q).2.job ≤ 1000000; omega) with ⟨hno, _⟩ | ⟨j, x, hx, ex, e⟩
  · exact absurd (keyK_num hq) (hno (keyK l (numI l q), P.getD (numI l q) 0) (List.mem_map.2 ⟨numI l q, List.mem_range.2 hk, rfl⟩))
  · obtain ⟨k, hkm, rfl⟩ := List.mem_map.1 (List.mem_of_getElem? hx)
    rw [List.mem_range, h.pl] at hkm
    have e2 : keyK l k = keyK l (numI l q) := by rw [keyK_num hq]; exact ex
    have hkk := h.pl
    rw [hkk] at hk
    have := keyK_inj (l := l) (a := k) (b := numI l q) (Nat.lt_of_lt_of_le hkm (cnt_le h.kl)) (Nat.lt_of_lt_of_le hk (cnt_le h.kl)) e2
    rw [e, this]
    rfl
theorem getD_left {P : List Nat} {A k : Nat} (h : k < P.length) : (P ++ [A]).getD k 0 = P.getD k 0 := by simp [List.getD_eq_getElem?_getD, List.getElem?_append_left h]
theorem getD_last {P : List Nat} {A : Nat} : (P ++ [A]).getD P.length 0 = A := by simp [List.getD_eq_getElem?_getD]
theorem keysL_snoc (l : List FSl) (P : List Nat) (A : Nat) : keysL l (P ++ [A]).length (P ++ [A]) = keysL l P.length P ++ [(keyK l P.length, A)] := by
  unfold keysL
  rw [List.length_append, List.length_singleton, List.range_succ, List.map_append]
  congr 1
  · refine List.map_congr_left (fun k hk => ?_)
    rw [getD_left (List.mem_range.1 hk)]
  · simp only [List.map_cons, List.map_nil]
    rw [getD_last]
theorem uvV_snoc {u A : Nat} (hq : q ≤ l.length) (hp : P.length = cntTo l q) : uvV l fr (P ++ [A]) q 0 u = uvV l fr P q 0 u := by
  unfold uvV
  rcases atTo_spec l fr u q with ⟨e, _⟩ | ⟨i, e, hi, _⟩
  · rw [e]
    simp only
    rw [if_neg (by omega), if_neg (by omega)]
  · rw [e]
    simp only
    unfold ptrP
    rw [getD_left]
    rw [hp]
    exact num_lt_cnt hi hq
/-- A job's first slice: the job is made, and put into the map. -/
theorem UX.new (G : Goes l cyc fr) (h : UX w wr tv cyc fr l q 0 q q P) (hs : ∀ i, i < l.length → (fsk l i).2.job ≤ 9999) (hn : l.length ≤ 300) (hq : q < l.length) (hf : jobI l (numI l q) = q) :
    ∃ w2, (Instr.mapUpdate 162 (.map (some (w.heap.size + 1 + 1))) (keyV ((fsk l q).2.nm, (fsk l q).2.job)) (.pointer (some ⟨wr.heap.size, 0, none⟩))).run Tryz.prog (wr.alloc (.cells (jobV (fsk l q).2.nm 0 0 0) 166)) = .ok () w2 ∧
      UX w w2 tv cyc fr l q 0 (q + 1) q (P ++ [wr.heap.size]) ∧ (wr.alloc (.cells (jobV (fsk l q).2.nm 0 0 0) 166)).grownBy w2 (some (w.heap.size + 1 + 1)) := by
  have h1 := h.keep (below_new wr (.cells (jobV (fsk l q).2.nm 0 0 0) 166))
  have hno := (h1.look_none hs hq rfl hf).2
  have hcl := cntTo_le l q
  have hpl := h.pl
  obtain ⟨w2, hrun, hkm, hg⟩ := h1.hm.store (h1.small hs) ((fsk l q).2.nm, (fsk l q).2.job) (by have := hs q hq; show (fsk l q).2.job ≤ 1000000; omega) hno (by simp [keysL]; omega) wr.heap.size
  refine ⟨w2, hrun, ?_, hg⟩
  have hM := h.hm.lt
  have hnum : numI l q = P.length := by
    have := (jobI_num hq).1
    rw [hf] at this
    rw [hpl]
    unfold numI
    rw [this]
    rfl
  have hc1 : cntTo l (q + 1) = cntTo l q + 1 := by rw [cntTo, if_pos (by have := (jobI_num hq).1; rw [hf] at this; exact this)]
  have blk : ∀ {X : Nat} {o : Obj}, (wr.alloc (.cells (jobV (fsk l q).2.nm 0 0 0) 166)).heap[X]? = some o → X ≠ w.heap.size + 1 + 1 → w2.heap[X]? = some o := by
    intro X o hX hne
    rw [hg.block X (blk_lt hX) (fun e => hne (by injection e))]
    exact hX
  obtain ⟨arr, hu1, hu2⟩ := h1.hu
  refine ⟨blk h1.hx (by omega), ⟨arr, blk hu1 (by omega), fun u hu => by rw [uvV_snoc (by omega) hpl]; exact hu2 u hu⟩, ?_, ?_, ?_, by simp; omega, hq, h1.bel.grown hg (by have := h1.bel.size; omega) (fun k hk => by injection hk with hk; omega)⟩
  · have ek : keyK l P.length = ((fsk l q).2.nm, (fsk l q).2.job) := by rw [← hnum, keyK_num hq]
    rw [keysL_snoc, ek]
    exact hkm
  · intro k hk
    simp only [List.length_append, List.length_singleton] at hk
    by_cases e : k < P.length
    · obtain ⟨a, b⟩ := h1.hj k e
      rw [getD_left e]
      exact ⟨a, blk b (by omega)⟩
    · have e2 : k = P.length := by omega
      subst e2
      rw [getD_last]
      refine ⟨hM, ?_⟩
      rw [← hnum, nmK_num hq, (had_zero G hq).2 hf]
      exact blk (blk_new wr _ _) (by omega)
  · intro a b ha hb e
    simp only [List.length_append, List.length_singleton] at ha hb
    have hlt : ∀ k, k < P.length → P.getD k 0 < wr.heap.size := fun k hk => blk_lt (h.hj k hk).2
    by_cases ea : a < P.length <;> by_cases eb : b < P.length
    · rw [getD_left ea, getD_left eb] at e
      exact h.inj a b ea eb e
    · have : b = P.length := by omega
      subst this
      rw [getD_left ea, getD_last] at e
      have := hlt a ea
      omega
    · have : a = P.length := by omega
      subst this
      rw [getD_left eb, getD_last] at e
      have := hlt b eb
      omega
    · omega
/-- The map's keys stand as they are where the job was there. -/
theorem UX.old (h : UX w wr tv cyc fr l q 0 q q P) (hq : q < l.length) (hf : jobI l (numI l q) ≠ q) : UX w wr tv cyc fr l q 0 (q + 1) q P := by
  have hc1 : cntTo l (q + 1) = cntTo l q := by rw [cntTo, if_neg (by have := (jobI_num hq).1; omega)]
  exact ⟨h.hx, h.hu, h.hm, h.hj, h.inj, by rw [hc1]; exact h.pl, hq, h.bel⟩
theorem UX.job (h : UX w wr tv cyc fr l q r (q + 1) bq P) : numI l q < P.length ∧ w.heap.size + 1 + 1 < P.getD (numI l q) 0 ∧ wr.heap[P.getD (numI l q) 0]? = some (.cells (jobV (nmK l (numI l q)) (hadK l (numI l q) bq) 0 0) 166 (0, 0)) := by
  have hk : numI l q < P.length := by rw [h.pl]; exact num_lt_cnt (Nat.lt_succ_self _) h.kl
  exact ⟨hk, h.hj _ hk⟩
/-- The job's budget grows by the slice's. -/
theorem UX.bud (h : UX w wr tv cyc fr l q 0 (q + 1) q P) (hq : q < l.length) : UX w (wr.setCell ⟨P.getD (numI l q) 0, 1, none⟩ (.int .i64 ((hadK l (numI l q) q + (fsk l q).2.bud : Nat)))) tv cyc fr l q 0 (q + 1) (q + 1) P := by
  obtain ⟨hk, hgt, hb⟩ := h.job
  obtain ⟨arr, hu1, hu2⟩ := h.hu
  refine ⟨by rw [Below.heap_setCell _ _ _ _ (by show w.heap.size ≠ P.getD (numI l q) 0; omega)]; exact h.hx, ⟨arr, by rw [Below.heap_setCell _ _ _ _ (by show w.heap.size + 1 ≠ P.getD (numI l q) 0; omega)]; exact hu1, hu2⟩,
    h.hm.keep (Below.heap_setCell _ _ _ _ (by show w.heap.size + 1 + 1 ≠ P.getD (numI l q) 0; omega)), ?_, h.inj, h.pl, h.kl, h.bel.setCell (by show w.heap.size ≤ P.getD (numI l q) 0; omega) _⟩
  intro k hkl
  refine ⟨(h.hj k hkl).1, ?_⟩
  obtain ⟨i, hi, ei, _⟩ := num_surj (l := l) (q + 1) hq k (by rw [← h.pl]; exact hkl)
  have hn := hadK_next (l := l) (i := i) (q := q) (by omega) hq
  rw [ei] at hn
  by_cases e : k = numI l q
  · rw [if_pos e.symm] at hn
    rw [hn]
    subst e
    rw [blk_set hb]
    rfl
  · rw [if_neg (fun x => e x.symm), Nat.add_zero] at hn
    rw [hn, Below.heap_setCell _ _ _ _ (by intro x; exact e (h.inj k _ hkl hk x))]
    exact (h.hj k hkl).2
theorem at_before (G : Goes l cyc fr) (hq : q < l.length) {u : Nat} (h1 : startI l fr q ≤ u) : atTo l fr u q = none := by
  rcases atTo_spec l fr u q with ⟨e, _⟩ | ⟨i, _, hi, hh, _⟩
  · exact e
  · exfalso
    obtain ⟨a, b⟩ := hh
    have : endI l fr (u / fr) i = stopI l fr i := by rw [← a]; rfl
    have := G.lt hi hq
    omega
/-- One unit more. -/
theorem UX.unit (G : Goes l cyc fr) (h : UX w wr tv cyc fr l q r (q + 1) (q + 1) P) (hq : q < l.length) (hr : r < (fsk l q).2.bud) : UX w (wr.setCell ⟨w.heap.size + 1, startI l fr q + r, none⟩ (ptrP P (numI l q))) tv cyc fr l q (r + 1) (q + 1) (q + 1) P := by
  obtain ⟨arr, hu1, hu2⟩ := h.hu
  have hM := h.hm
  refine ⟨by rw [Below.heap_setCell _ _ _ _ (by show w.heap.size ≠ w.heap.size + 1; omega)]; exact h.hx, ⟨arr.setIfInBounds (startI l fr q + r) (ptrP P (numI l q)), blk_set hu1 _ _, ?_⟩,
    h.hm.keep (Below.heap_setCell _ _ _ _ (by show w.heap.size + 1 + 1 ≠ w.heap.size + 1; omega)), ?_, h.inj, h.pl, h.kl, h.bel.setCell (by show w.heap.size ≤ w.heap.size + 1; omega) _⟩
  · intro u hu
    have hfin := G.fin_cyc hq
    have hsz : startI l fr q + r < arr.size := by
      have := hu2 (startI l fr q + r) (by unfold stopI at hfin; omega)
      exact (Array.getElem?_eq_some_iff.1 this).1
    by_cases e : u = startI l fr q + r
    · subst e
      have : (arr.setIfInBounds (startI l fr q + r) (ptrP P (numI l q)))[startI l fr q + r]? = some (ptrP P (numI l q)) := by simp [hsz]
      rw [this]
      unfold uvV
      rw [at_before G hq (by omega)]
      simp only
      rw [if_pos (by omega)]
    · have : (arr.setIfInBounds (startI l fr q + r) (ptrP P (numI l q)))[u]? = arr[u]? := by
        rw [Array.getElem?_setIfInBounds_ne (fun x => e x.symm)]
      rw [this, hu2 u hu]
      unfold uvV
      cases atTo l fr u q with
      | some i => rfl
      | none =>
        simp only
        by_cases e2 : startI l fr q ≤ u ∧ u < startI l fr q + r
        · rw [if_pos e2, if_pos (by omega)]
        · rw [if_neg e2, if_neg (by omega)]
  · intro k hk
    obtain ⟨a, b⟩ := h.hj k hk
    exact ⟨a, by rw [Below.heap_setCell _ _ _ _ (by show P.getD k 0 ≠ w.heap.size + 1; omega)]; exact b⟩
/-- The slice is done. -/
theorem UX.next (G : Goes l cyc fr) (h : UX w wr tv cyc fr l q (fsk l q).2.bud (q + 1) (q + 1) P) (hq : q < l.length) : UX w wr tv cyc fr l (q + 1) 0 (q + 1) (q + 1) P := by
  obtain ⟨arr, hu1, hu2⟩ := h.hu
  refine ⟨h.hx, ⟨arr, hu1, fun u hu => ?_⟩, h.hm, h.hj, h.inj, h.pl, h.kl, h.bel⟩
  rw [hu2 u hu]
  unfold uvV
  rw [atTo]
  cases e : atTo l fr u q with
  | some i => rfl
  | none =>
    simp only
    have hno : ∀ k, k < q → ¬ hitI l fr u k := by
      rcases atTo_spec l fr u q with ⟨_, hn⟩ | ⟨i, e2, _⟩
      · exact hn
      · rw [e] at e2
        cases e2
    have hiff : hitI l fr u q ↔ (startI l fr q ≤ u ∧ u < startI l fr q + (fsk l q).2.bud) := by
      constructor
      · intro hh
        obtain ⟨a, b⟩ := hh
        have := used_low (l := l) (fr := fr) (u := u) q (by omega) hno
        have e3 : endI l fr (u / fr) q = stopI l fr q := by rw [← a]; rfl
        refine ⟨?_, by rw [e3] at b; exact b⟩
        unfold startI
        rw [a]
        exact this
      · rintro ⟨a, b⟩
        exact G.hit hq a b
    by_cases e4 : hitI l fr u q
    · rw [if_pos (hiff.1 e4), if_pos e4]
    · rw [if_neg (fun x => e4 (hiff.2 x)), if_neg e4]
      simp only
      rw [if_neg (by omega)]
end
end Go.Proofs.YtbdffcjganlblaaGreatDoor
