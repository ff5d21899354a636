/-
  Own work. The program's run: its map of jobs.
-/
import Derived.Test.YtbdffcjganlblaaGreatDoorRows
import Derived.WalkKit
import Derived.WalkLawsBesides
import Derived.WalkSpells
import Derived.Maps.Keyed
import Derived.Maps.OwnOps
import Derived.DeepKeys4
import Derived.Test.YtbdffcjganlblaaGreatDoorRefXtoRefX
import Derived.Deep.RegionHeldLaw
namespace Go.Proofs.YtbdffcjganlblaaGreatDoor
open Go.RowKit Go.Maps
open Go.ChangeMaps (setBlock heap_setBlock_same heap_setBlock_other)
set_option linter.unusedVariables false
set_option linter.unusedSimpArgs false

theorem laidOutM : laidOutB Tryz.prog = true := by kernel_rfl
theorem keyRow : (164 : TypeId) < Tryz.prog.types.size := of_decide_eq_true (by kernel_rfl)
theorem keyDeep : Tryz.prog.keyTypeAt (Tryz.prog.types.size + 1) 164 = true := by kernel_rfl
theorem keyWide : (match Tryz.prog.underlying 164 with | some (.array _ _) | some (.struct _) => true | _ => false) = true := by rw [Tryz.underlying164]
set_option maxRecDepth 100000 in
theorem keyLaw : Keyed Tryz.prog 164 := Keyed.of_law (deep_law_laid laidOutM (m := 2) (by omega) keyRow (by kernel_rfl) keyWide)
theorem keyCells : Tryz.prog.cellsOf 164 = 2 := by kernel_rfl
theorem keyCellB : Tryz.prog.cellsOf 5 = 1 := by kernel_rfl
theorem keyCellI : Tryz.prog.cellsOf 3 = 1 := by kernel_rfl

/-- A job's key. -/
abbrev JK := UInt8 × Nat
def keyV (k : JK) : Value := .agg #[.int .u8 k.1.toNat, .int .i64 k.2]
theorem keyV_inj {a b : JK} (h : keyV a = keyV b) : a = b := by
  unfold keyV at h
  simp at h
  obtain ⟨h1, h2⟩ := h
  have e1 : a.1 = b.1 := by
    apply UInt8.toNat_inj.1
    omega
  exact Prod.ext e1 (by omega)
theorem keyV_lits (d : Nat) (a b : Int) (h8 : (Lit.int .u8 a).wf = true) (h64 : (Lit.int .i64 b).wf = true) : Tryz.prog.keyLits (d + 2) 164 [.int .u8 a, .int .i64 b] = some [.int .u8 a, .int .i64 b] := by
  have e1 : ∀ d, Tryz.prog.keyLits (d + 1) 5 [.int .u8 a] = some [.int .u8 a] := fun d => by
    unfold Program.keyLits
    rw [Tryz.underlying5]
    exact if_pos ⟨rfl, h8⟩
  have e2 : ∀ d, Tryz.prog.keyLits (d + 1) 3 [.int .i64 b] = some [.int .i64 b] := fun d => by
    unfold Program.keyLits
    rw [Tryz.underlying3]
    exact if_pos ⟨rfl, h64⟩
  unfold Program.keyLits
  rw [Tryz.underlying164]
  simp only [List.length_cons, List.length_nil, keyCells]
  rw [if_pos ⟨trivial, by kernel_rfl⟩]
  simp [keyCellB, keyCellI, e1, e2]
theorem keyV_of (k : JK) (hk : k.2 ≤ 1000000) : ∃ kl, keyOf Tryz.prog 164 (keyV k) = some kl := by
  have hf : (keyV k).formed Tryz.prog 164 = true := by simp [keyV, Value.formed, Tryz.underlying164, keyCells]
  have h8 : (Lit.int .u8 (k.1.toNat : Int)).wf = true := WalkArith.wf_u8 (by have := k.1.toNat_lt; omega)
  have h64 : (Lit.int .i64 (k.2 : Int)).wf = true := WalkArith.wf_i64 (by omega)
  have hr : (0 : Nat) < Tryz.prog.types.size := of_decide_eq_true (by kernel_rfl)
  have hd := keyDeep
  unfold keyOf
  rw [Tryz.underlying164]
  simp only
  unfold Program.keyType
  rw [hd, hf]
  obtain ⟨d, e⟩ : ∃ d, Tryz.prog.types.size + 1 = d + 2 := ⟨Tryz.prog.types.size - 1, by
    generalize Tryz.prog.types.size = T at hr ⊢
    omega⟩
  rw [e]
  have hl := keyV_lits d k.1.toNat k.2 h8 h64
  rw [show (keyV k).cells.toList = [.int .u8 k.1.toNat, .int .i64 k.2] from rfl, hl]
  exact ⟨_, rfl⟩

/-- The map of jobs in block M: each job's key, and the block in which it lies. -/
def KMap (w : World) (M : Nat) (es : List (JK × Nat)) : Prop :=
  ∃ arr clock, w.heap[M]? = some (.map arr clock) ∧ arr.toList.map (fun e => (e.key, e.val)) = es.map (fun x => (keyV x.1, Value.pointer (some ⟨x.2, 0, none⟩))) ∧ es.length ≤ 1000
theorem KMap.keep {w w' : World} {M : Nat} {es : List (JK × Nat)} (h : KMap w M es) (hb : w'.heap[M]? = w.heap[M]?) : KMap w' M es := by
  obtain ⟨arr, clock, h1, h2⟩ := h
  exact ⟨arr, clock, by rw [hb]; exact h1, h2⟩
theorem KMap.made (w : World) : KMap (w.alloc (.map #[] 0)) w.heap.size [] := ⟨#[], 0, (MapKept.heap_alloc w _).1, rfl, by simp⟩
theorem KMap.lt {w : World} {M : Nat} {es : List (JK × Nat)} (h : KMap w M es) : M < w.heap.size := by
  obtain ⟨arr, clock, h1, _⟩ := h
  exact (Array.getElem?_eq_some_iff.1 h1).1
theorem KMap.noCells {w : World} {M : Nat} {es : List (JK × Nat)} (h : KMap w M es) (c : Array Value) (ty : TypeId) (fr : Nat × Nat) : w.heap[M]? ≠ some (.cells c ty fr) := by
  obtain ⟨arr, clock, h1, _⟩ := h
  rw [h1]
  simp
theorem kmap_keys {arr : Array MapEntry} {es : List (JK × Nat)} (h : arr.toList.map (fun e => (e.key, e.val)) = es.map (fun x => (keyV x.1, Value.pointer (some ⟨x.2, 0, none⟩)))) (hs : ∀ x ∈ es, x.1.2 ≤ 1000000) : ∀ e ∈ arr.toList, ∃ l, keyOf Tryz.prog 164 e.key = some l := by
  intro e he
  have : (e.key, e.val) ∈ arr.toList.map (fun e => (e.key, e.val)) := List.mem_map.2 ⟨e, he, rfl⟩
  rw [h] at this
  obtain ⟨x, hx, ex⟩ := List.mem_map.1 this
  simp only [Prod.mk.injEq] at ex
  rw [← ex.1]
  exact keyV_of x.1 (hs x hx)
theorem zeroJob (w : World) : (zeroValue 122).run Tryz.prog w = .ok (.pointer none) w := by kernel_rfl
/-- A look-up. -/
theorem KMap.look {w : World} {M : Nat} {es : List (JK × Nat)} (h : KMap w M es) (hs : ∀ x ∈ es, x.1.2 ≤ 1000000) (k : JK) (hk : k.2 ≤ 1000000) :
    ((∀ x ∈ es, x.1 ≠ k) ∧ (Instr.lookup 162 (.map (some M)) (keyV k) false).run Tryz.prog w = .ok (.pointer none) w) ∨
    ∃ (j : Nat) (x : JK × Nat), es[j]? = some x ∧ x.1 = k ∧ (Instr.lookup 162 (.map (some M)) (keyV k) false).run Tryz.prog w = .ok (.pointer (some ⟨x.2, 0, none⟩)) w := by
  obtain ⟨arr, clock, hb, he, hl⟩ := h
  obtain ⟨kl, hkl⟩ := keyV_of k hk
  rcases keyLaw.find w hkl arr.toList (kmap_keys he hs) with ⟨h1, h2⟩ | ⟨j, e0, h1, h2, h3⟩
  · left
    refine ⟨fun x hx ex => ?_, ?_⟩
    · have : (keyV x.1, Value.pointer (some ⟨x.2, 0, none⟩)) ∈ es.map (fun x => (keyV x.1, Value.pointer (some ⟨x.2, 0, none⟩))) := List.mem_map.2 ⟨x, hx, rfl⟩
      rw [← he] at this
      obtain ⟨e, hm, ee⟩ := List.mem_map.1 this
      simp only [Prod.mk.injEq] at ee
      exact h2 e hm (by rw [ee.1, ex])
    · simp [Instr.lookup, run_underlying Tryz.underlying162, MapKept.run_getObj_map hb, keyLaw.check w _ hkl, h1, zeroJob w, Result.andThen]
  · right
    have e1 : (arr.toList.map (fun e => (e.key, e.val)))[j]? = some (e0.key, e0.val) := by rw [List.getElem?_map, h2]; rfl
    rw [he, List.getElem?_map] at e1
    cases hx : es[j]? with
    | none => rw [hx] at e1; simp at e1
    | some x =>
      rw [hx] at e1
      simp only [Option.map_some, Option.some.injEq, Prod.mk.injEq] at e1
      refine ⟨j, x, hx, keyV_inj (e1.1.trans h3), ?_⟩
      simp [Instr.lookup, run_underlying Tryz.underlying162, MapKept.run_getObj_map hb, keyLaw.check w _ hkl, h1, Result.andThen]
      exact e1.2.symm
/-- A new key's store. -/
theorem KMap.store {w : World} {M : Nat} {es : List (JK × Nat)} (h : KMap w M es) (hs : ∀ x ∈ es, x.1.2 ≤ 1000000) (k : JK) (hk : k.2 ≤ 1000000) (hn : ∀ x ∈ es, x.1 ≠ k) (hl : es.length + 1 ≤ 1000) (A : Nat) :
    ∃ w', (Instr.mapUpdate 162 (.map (some M)) (keyV k) (.pointer (some ⟨A, 0, none⟩))).run Tryz.prog w = .ok () w' ∧ KMap w' M (es ++ [(k, A)]) ∧ w.grownBy w' (some M) := by
  obtain ⟨arr, clock, hb, he, _⟩ := h
  obtain ⟨kl, hkl⟩ := keyV_of k hk
  rcases keyLaw.find w hkl arr.toList (kmap_keys he hs) with ⟨h1, h2⟩ | ⟨j, e0, h1, h2, h3⟩
  · refine ⟨setBlock w M (.map (arr.push ⟨keyV k, .pointer (some ⟨A, 0, none⟩), clock⟩) (clock + 1)), ?_, ⟨_, _, heap_setBlock_same hb _, ?_, by simp; omega⟩, ⟨rfl, rfl, rfl, by simp [setBlock], fun i _ hi => heap_setBlock_other hb _ (fun e => hi (by rw [e]))⟩⟩
    · simp [Instr.mapUpdate, run_underlying Tryz.underlying162, MapKept.run_getObj_map hb, keyLaw.check w false hkl, h1, MapKept.run_setObj_map _ hb, Result.andThen, setBlock]
    · rw [Array.toList_push, List.map_append, he, List.map_append]
      rfl
  · exfalso
    have e1 : (arr.toList.map (fun e => (e.key, e.val)))[j]? = some (e0.key, e0.val) := by rw [List.getElem?_map, h2]; rfl
    rw [he, List.getElem?_map] at e1
    cases hx : es[j]? with
    | none => rw [hx] at e1; simp at e1
    | some x =>
      rw [hx] at e1
      simp only [Option.map_some, Option.some.injEq, Prod.mk.injEq] at e1
      exact hn x (List.mem_of_getElem? hx) (keyV_inj (e1.1.trans h3))

def jobV (nm : UInt8) (bud left : Nat) (want : Int) : Array Value := #[.int .u8 nm.toNat, .int .i64 bud, .int .i64 left, .int .i64 want]

/-! ### At the operation, for the walk -/
theorem wpList_look_at {P : Program} (w : World) {ops : Array Oper} {rest : List Oper} {o : Oper} {a : Act} {Q : Exit → Act → World → Prop}
    (hg : o.guard = none) (m x : Operand) (t : TypeId) (hop : o.op = Op.lookup t m x false) (mv xv v : Value) (hm : a.eval m = mv) (hx : a.eval x = xv)
    (hrun : (Instr.lookup t mv xv false).run P w = .ok v w) (hK : wpList P ops Q rest (a.put o.dst v) w) : wpList P ops Q (o :: rest) a w := by
  refine wpList_plain hg fun K' hK' => ?_
  unfold Oper.wp
  simp [execOp, hop, hm, hx, hrun, Result.andThen]
  exact hK' _ _ hK
theorem wpList_store_at {P : Program} (w : World) {ops : Array Oper} {rest : List Oper} {o : Oper} {a : Act} {Q : Exit → Act → World → Prop}
    (hg : o.guard = none) (m x v : Operand) (t : TypeId) (hop : o.op = Op.mapUpdate t m x v) (mv xv vv : Value) (hm : a.eval m = mv) (hx : a.eval x = xv) (hv : a.eval v = vv) (w' : World)
    (hrun : (Instr.mapUpdate t mv xv vv).run P w = .ok () w') (hK : wpList P ops Q rest (a.put o.dst undef) w') : wpList P ops Q (o :: rest) a w := by
  refine wpList_plain hg fun K' hK' => ?_
  unfold Oper.wp
  simp [execOp, hop, hm, hx, hv, hrun, Result.andThen]
  exact hK' _ _ hK
end Go.Proofs.YtbdffcjganlblaaGreatDoor

namespace Go.Proofs.YtbdffcjganlblaaGreatDoor
open Go.RowKit
set_option linter.unusedVariables false
set_option linter.unusedSimpArgs false

/-- A job's first slice, its last one, its budgets together. -/
structure Spt where
  fst : Int
  lst : Int
  cost : Nat
def isOf (x : FSl) (n : UInt8) (k : Nat) : Prop := x.2.nm = n ∧ x.2.job = k
instance (x : FSl) (n : UInt8) (k : Nat) : Decidable (isOf x n k) := by unfold isOf; infer_instance
def spotTo (l : List FSl) (n : UInt8) (k : Nat) : Nat → Spt
  | 0 => ⟨-1, -1, 0⟩
  | q + 1 => if isOf (fsk l q) n k then ⟨if (spotTo l n k q).fst < 0 then q else (spotTo l n k q).fst, q, (spotTo l n k q).cost + (fsk l q).2.bud⟩ else spotTo l n k q
def spotL (l : List FSl) (n : UInt8) (k : Nat) : Spt := spotTo l n k l.length
theorem spotTo_yes {l : List FSl} {n : UInt8} {k q : Nat} (h : isOf (fsk l q) n k) : spotTo l n k (q + 1) = ⟨if (spotTo l n k q).fst < 0 then q else (spotTo l n k q).fst, q, (spotTo l n k q).cost + (fsk l q).2.bud⟩ := by
  rw [spotTo, if_pos h]
theorem spotTo_no {l : List FSl} {n : UInt8} {k q : Nat} (h : ¬ isOf (fsk l q) n k) : spotTo l n k (q + 1) = spotTo l n k q := by
  rw [spotTo, if_neg h]
theorem spotTo_cost {l : List FSl} (hs : ∀ i, i < l.length → (fsk l i).small) (n : UInt8) (k : Nat) : ∀ q, q ≤ l.length → (spotTo l n k q).cost ≤ q * 9999
  | 0, _ => Nat.zero_le _
  | q + 1, h => by
    have ih := spotTo_cost hs n k q (by omega)
    have hb : (fsk l q).2.bud ≤ 9999 := (hs q (by omega)).2.2
    have e : (q + 1) * 9999 = q * 9999 + 9999 := Nat.succ_mul q 9999
    rw [spotTo, e]
    clear e hs
    generalize q * 9999 = z at *
    split
    · show (spotTo l n k q).cost + (fsk l q).2.bud ≤ z + 9999
      omega
    · omega

def sptV (p : Spt) : Array Value := #[.int .i64 p.fst, .int .i64 p.lst, .int .i64 p.cost]
structure SpX (w wr : World) (c f : Nat) (sv : Value) (p : Spt) : Prop where
  t : TBx w wr c f sv
  r : wr.heap[w.heap.size + 1]? = some (.cells #[.int .i64 0, .int .i64 0, .int .i64 0] 78 (0, 0))
  p : wr.heap[w.heap.size + 1 + 1]? = some (.cells (sptV p) 78 (0, 0))
section
variable {w wr : World} {c f : Nat} {sv : Value} {p : Spt}
theorem SpX.start (w : World) (c f : Nat) (sv : Value) : SpX w (((w.alloc (.cells #[.int .i64 c, .int .i64 f, sv] 39)).alloc (.cells #[.int .i64 0, .int .i64 0, .int .i64 0] 78)).alloc (.cells #[.int .i64 (-1), .int .i64 (-1), .int .i64 0] 78)) c f sv ⟨-1, -1, 0⟩ := by
  have h1 := blk_new (w.alloc (.cells #[.int .i64 c, .int .i64 f, sv] 39)) #[.int .i64 0, .int .i64 0, .int .i64 0] 78
  have h2 := blk_new ((w.alloc (.cells #[.int .i64 c, .int .i64 f, sv] 39)).alloc (.cells #[.int .i64 0, .int .i64 0, .int .i64 0] 78)) #[.int .i64 (-1), .int .i64 (-1), .int .i64 0] 78
  have h1' := blk_keep h1 (below_new _ (.cells #[.int .i64 (-1), .int .i64 (-1), .int .i64 0] 78))
  simp only [World.size_alloc] at h1' h2
  exact ⟨((TBx.start w c f sv).alloc _).alloc _, h1', h2⟩
theorem SpX.drew (h : SpX w wr c f sv p) : SpX w wr.drew c f sv p := ⟨h.t.drewN 1, h.r, h.p⟩
theorem SpX.set (h : SpX w wr c f sv p) (o : Nat) (v : Int) (q : Spt) (hq : (sptV p).setIfInBounds o (.int .i64 v) = sptV q) : SpX w (wr.setCell ⟨w.heap.size + 1 + 1, o, none⟩ (.int .i64 v)) c f sv q := by
  refine ⟨⟨?_, ?_⟩, ?_, ?_⟩
  · rw [Below.heap_setCell _ _ _ _ (by show w.heap.size ≠ w.heap.size + 1 + 1; omega)]
    exact h.t.h
  · exact h.t.b.setCell (by show w.heap.size ≤ w.heap.size + 1 + 1; omega) _
  · rw [Below.heap_setCell _ _ _ _ (by show w.heap.size + 1 ≠ w.heap.size + 1 + 1; omega)]
    exact h.r
  · rw [blk_set h.p, hq]
theorem SpX.cells (h : SpX w wr c f sv p) : wr.cell? ⟨w.heap.size + 1 + 1, 0, none⟩ = some (.int .i64 p.fst) ∧ wr.cell? ⟨w.heap.size + 1 + 1, 1, none⟩ = some (.int .i64 p.lst) ∧ wr.cell? ⟨w.heap.size + 1 + 1, 2, none⟩ = some (.int .i64 p.cost) := by
  refine ⟨?_, ?_, ?_⟩ <;> (rw [blk_cell h.p]; rfl)
end

end Go.Proofs.YtbdffcjganlblaaGreatDoor

namespace Go.Proofs.YtbdffcjganlblaaGreatDoor
open Go.RowKit
set_option linter.unusedVariables false
set_option linter.unusedSimpArgs false

/-- The first slice of a job, or none. -/
theorem spotTo_fst (l : List FSl) (n : UInt8) (k : Nat) : ∀ q, ((spotTo l n k q).fst = -1 ∧ ∀ i, i < q → ¬ isOf (fsk l i) n k) ∨ ∃ m : Nat, (spotTo l n k q).fst = m ∧ m < q ∧ isOf (fsk l m) n k ∧ ∀ i, i < m → ¬ isOf (fsk l i) n k
  | 0 => .inl ⟨rfl, fun i h => by omega⟩
  | q + 1 => by
    rcases spotTo_fst l n k q with ⟨h1, h2⟩ | ⟨m, h1, h2, h3, h4⟩
    · by_cases h : isOf (fsk l q) n k
      · refine .inr ⟨q, ?_, by omega, h, h2⟩
        rw [spotTo_yes h]
        show (if (spotTo l n k q).fst < 0 then (q : Int) else (spotTo l n k q).fst) = q
        rw [if_pos (by omega)]
      · refine .inl ⟨by rw [spotTo_no h]; exact h1, fun i hi => ?_⟩
        rcases Nat.lt_or_ge i q with h5 | h5
        · exact h2 i h5
        · have : i = q := by omega
          subst this
          exact h
    · refine .inr ⟨m, ?_, by omega, h3, h4⟩
      by_cases h : isOf (fsk l q) n k
      · rw [spotTo_yes h]
        show (if (spotTo l n k q).fst < 0 then (q : Int) else (spotTo l n k q).fst) = m
        rw [if_neg (by omega), h1]
      · rw [spotTo_no h]
        exact h1
/-- The slice's own job. -/
def spotI (l : List FSl) (i : Nat) : Spt := spotL l (fsk l i).2.nm (fsk l i).2.job
def sameJ (l : List FSl) (i k : Nat) : Prop := (fsk l k).2.nm = (fsk l i).2.nm ∧ (fsk l k).2.job = (fsk l i).2.job
theorem spotI_fst {l : List FSl} {i : Nat} (h : i < l.length) : ∃ m : Nat, (spotI l i).fst = m ∧ m ≤ i ∧ sameJ l i m ∧ ∀ k, k < m → ¬ sameJ l i k := by
  rcases spotTo_fst l (fsk l i).2.nm (fsk l i).2.job l.length with ⟨_, h2⟩ | ⟨m, h1, h2, h3, h4⟩
  · exact absurd ⟨rfl, rfl⟩ (h2 i h)
  · refine ⟨m, h1, ?_, h3, h4⟩
    rcases Nat.lt_or_ge i m with h5 | h5
    · exact absurd ⟨rfl, rfl⟩ (h4 i h5)
    · exact h5
theorem spotI_same {l : List FSl} {i k : Nat} (h : sameJ l i k) : spotI l k = spotI l i := by
  unfold spotI
  rw [h.1, h.2]
/-- How many jobs begin ahead of slice q. -/
def cntTo (l : List FSl) : Nat → Nat
  | 0 => 0
  | q + 1 => if (spotI l q).fst = q then cntTo l q + 1 else cntTo l q
theorem cntTo_le (l : List FSl) : ∀ q, cntTo l q ≤ q
  | 0 => Nat.le_refl _
  | q + 1 => by
    have := cntTo_le l q
    rw [cntTo]
    split <;> omega
def numI (l : List FSl) (i : Nat) : Nat := cntTo l (spotI l i).fst.toNat

end Go.Proofs.YtbdffcjganlblaaGreatDoor

namespace Go.Proofs.YtbdffcjganlblaaGreatDoor
open Go.RowKit
set_option linter.unusedVariables false
set_option linter.unusedSimpArgs false

end Go.Proofs.YtbdffcjganlblaaGreatDoor
