/-
  Own work. The program's run: the builder that lies within it.
-/
import Derived.Test.YtbdffcjganlblaaGreatDoorTbItoTbJ
import Derived.Test.YtbdffcjganlblaaGreatDoorShelf
import Derived.Test.YtbdffcjganlblaaGreatDoorRows
import Derived.WalkKit
import Derived.WalkLawsBesides
import Derived.WalkSpells
import Derived.Maps.Keyed
import Derived.Maps.OwnOps
import Derived.DeepKeys4
import Derived.Test.YtbdffcjganlblaaGreatDoorRunAtoRunE
import Derived.Deep.RegionHeldLaw
import Derived.Test.YtbdffcjganlblaaGreatDoorRunFtoPrE
import Derived.Test.YtbdffcjganlblaaGreatDoorTbF
import Derived.Deep.DeepCutAuto
namespace Go.Proofs.YtbdffcjganlblaaGreatDoor
open Go.RowKit
set_option linter.unusedVariables false
set_option linter.unusedSimpArgs false

theorem Tryz.sizeBd : (Tryz.prog.info? 109).map (·.size) = some 2 := by kernel_rfl
theorem Tryz.cellsRun : Tryz.prog.cellsOf 118 = 4 := by kernel_rfl
theorem Tryz.cellsU8 : Tryz.prog.cellsOf 5 = 1 := by kernel_rfl
theorem Tryz.liesRun : liesAt Tryz.prog Tryz.prog.depth 118 (4 / Tryz.prog.cellsOf 118) 2 109 1 = true := by kernel_rfl

/-- Old blocks stand, but for R and rows of bytes. -/
structure KeepR (R : Nat) (w w' : World) : Prop where
  size : w.heap.size ≤ w'.heap.size
  block : ∀ i, i < w.heap.size → i ≠ R → (∀ c fr, w.heap[i]? ≠ some (.cells c 5 fr)) → w'.heap[i]? = w.heap[i]?
theorem KeepR.refl (R : Nat) (w : World) : KeepR R w w := ⟨Nat.le_refl _, fun _ _ _ _ => rfl⟩
theorem KeepR.trans {R : Nat} {a b c : World} (h : KeepR R a b) (k : KeepR R b c) : KeepR R a c :=
  ⟨Nat.le_trans h.size k.size, fun i hi hR hu => by
    have e := h.block i hi hR hu
    rw [k.block i (Nat.lt_of_lt_of_le hi h.size) hR (fun c fr => by rw [e]; exact hu c fr), e]⟩
theorem KeepR.set {R : Nat} {a b : World} (h : KeepR R a b) (o : Nat) (v : Value) : KeepR R a (b.setCell ⟨R, o, none⟩ v) :=
  h.trans ⟨by simp [World.setCell], fun i hi hR _ => Below.heap_setCell _ _ _ _ hR⟩
theorem KeepR.grown {R : Nat} {a b b' : World} (h : KeepR R a b) {B : Nat} {v : Value} {n : Nat} {xs : List Value} (hown : b.ownsRow B 5 1 v n xs) (hg : b.grownBy b' v.ownBlock) : KeepR R a b' :=
  h.trans ⟨hg.size, fun i hi hR hu => hg.block i hi (fun e => by
    rcases hown.2 with ⟨rfl, _⟩ | ⟨g, cap, cur, rfl, _, hgb, _⟩
    · simp [Value.ownBlock] at e
    · simp only [Value.ownBlock, Option.some.injEq] at e
      subst e
      exact hu _ _ hgb)⟩
theorem KeepR.alloc {R : Nat} {a b : World} (h : KeepR R a b) (o : Obj) : KeepR R a (b.alloc o) :=
  h.trans ⟨by simp, fun i hi _ _ => Below.heap_alloc _ _ _ hi⟩
theorem KeepR.blk {R : Nat} {a b : World} (h : KeepR R a b) {i : Nat} {c : Array Value} {ty : TypeId} {fr : Nat × Nat} (hb : a.heap[i]? = some (.cells c ty fr)) (hR : i ≠ R) (ht : ty ≠ 5) : b.heap[i]? = some (.cells c ty fr) := by
  rw [h.block i (blk_lt hb) hR (fun c' fr' e => ?_)]
  · exact hb
  · rw [hb] at e
    simp at e
    exact ht e.2.1

/-- The run's own variable in block R: its costs, how many jobs have begun, its builder. -/
def RunAt (B R : Nat) (cs : Value) (bg : Int) (p : Value) (L : List UInt8) (w : World) : Prop :=
  B ≤ R ∧ ∃ v, w.heap[R]? = some (.cells #[cs, .int .i64 bg, p, v] 118 (0, 0)) ∧ w.ownsRow B 5 1 v L.length (bV L)
def IsRun (B R : Nat) (cs : Value) (bg : Int) (L : List UInt8) (w : World) : Prop :=
  RunAt B R cs bg (.pointer none) L w ∨ RunAt B R cs bg (.pointer (some ⟨R, 2, none⟩)) L w
theorem run_ne {w : World} {B R : Nat} {v : Value} {n : Nat} {xs : List Value} {c : Array Value} {fr : Nat × Nat} (hown : w.ownsRow B 5 1 v n xs) (hb : w.heap[R]? = some (.cells c 118 fr)) : v.ownBlock ≠ some R := Lib.ownBlock_ne hown hb (by decide)
theorem RunAt.set {B R : Nat} {cs p : Value} {bg : Int} {L : List UInt8} {w : World} (h : RunAt B R cs bg p L w) (bg' : Int) : RunAt B R cs bg' p L (w.setCell ⟨R, 1, none⟩ (.int .i64 bg')) := by
  obtain ⟨hB, v, hb, hown⟩ := h
  refine ⟨hB, v, by rw [blk_set hb]; rfl, ?_⟩
  exact hown.kept (row := some R) ⟨rfl, rfl, rfl, by simp [World.setCell], fun k _ hk => Below.heap_setCell _ _ _ _ (fun e => hk (by simp [e]))⟩ (Or.inr (run_ne hown hb))
theorem RunAt.self {B R : Nat} {cs p : Value} {bg : Int} {L : List UInt8} {w : World} (h : RunAt B R cs bg p L w) (p' : Value) : RunAt B R cs bg p' L (w.setCell ⟨R, 2, none⟩ p') := by
  obtain ⟨hB, v, hb, hown⟩ := h
  refine ⟨hB, v, by rw [blk_set hb]; rfl, ?_⟩
  exact hown.kept (row := some R) ⟨rfl, rfl, rfl, by simp [World.setCell], fun k _ hk => Below.heap_setCell _ _ _ _ (fun e => hk (by simp [e]))⟩ (Or.inr (run_ne hown hb))
theorem RunAt.cells {B R : Nat} {cs p : Value} {bg : Int} {L : List UInt8} {w : World} (h : RunAt B R cs bg p L w) : w.cell? ⟨R, 0, none⟩ = some cs ∧ w.cell? ⟨R, 1, none⟩ = some (.int .i64 bg) ∧ w.cell? ⟨R, 2, none⟩ = some p ∧ (∀ o, w.frozen? ⟨R, o, none⟩ = false) ∧ w.shape? R = some (118, 4) := by
  obtain ⟨hB, v, hb, hown⟩ := h
  refine ⟨by rw [blk_cell hb]; rfl, by rw [blk_cell hb]; rfl, by rw [blk_cell hb]; rfl, blk_frozen hb, by simp [World.shape?, hb]⟩

set_option maxHeartbeats 1000000 in
set_option maxRecDepth 100000 in
theorem copyCheck_used (R : Nat) (w : World) (h0 : w.cell? ⟨R, 2, none⟩ = some (.pointer (some ⟨R, 2, none⟩))) :
    Calls Tryz.prog 111 #[.pointer (some ⟨R, 2, none⟩)] w fun e w' => e = .returned (.tuple #[]) ∧ w' = w := by
  obtain ⟨j, hj, _⟩ := Option.map_eq_some_iff.1 Tryz.sizeBd
  go_enter Tryz.func111, Tryz.ntmps111
  go_wp2
  rw [Lib.run_neq_ptr_same w _ Tryz.underlying107 hj]
  go_wp2
  go_end0
  exact ⟨rfl, rfl⟩

set_option maxHeartbeats 1000000 in
set_option maxRecDepth 100000 in
theorem copyCheck_fresh (R : Nat) (w : World) (h0 : w.cell? ⟨R, 2, none⟩ = some (.pointer none)) (hsh : w.shape? R = some (118, 4)) (hfz : w.frozen? ⟨R, 2, none⟩ = false) :
    Calls Tryz.prog 111 #[.pointer (some ⟨R, 2, none⟩)] w fun e w' => e = .returned (.tuple #[]) ∧ w' = w.setCell ⟨R, 2, none⟩ (.pointer (some ⟨R, 2, none⟩)) := by
  obtain ⟨j, hj, hjs⟩ := Option.map_eq_some_iff.1 Tryz.sizeBd
  go_enter Tryz.func111, Tryz.ntmps111
  go_wp2
  rw [Lib.run_to_unsafe w ⟨R, 2, none⟩ Tryz.underlying107 Tryz.underlying195 hj (by rw [hjs]; decide) hsh (by show 2 < 4; decide)]
  simp only [Result.andThen]
  rw [Oper.upon_value]
  go_wp2
  rw [run_callFunc_extern Tryz.func147 (by kernel_rfl) (by kernel_rfl) (by kernel_rfl) (e := Extern.AbiNoEscape.same) (by kernel_rfl)]
  rw [Lib.run_noEscape]
  simp only [Result.andThen]
  rw [Oper.upon_value]
  go_wp2
  rw [Lib.run_from_unsafe w ⟨R, 2, none⟩ Tryz.underlying195 Tryz.underlying107 hj hsh Tryz.liesRun]
  simp only [Result.andThen]
  rw [Oper.upon_value]
  go_wp2
  go_end0
  exact ⟨rfl, rfl⟩

theorem copyCheck_run (B R : Nat) (cs : Value) (bg : Int) (L : List UInt8) (w : World) (h : IsRun B R cs bg L w) :
    Calls Tryz.prog 111 #[.pointer (some ⟨R, 2, none⟩)] w fun e w' => e = .returned (.tuple #[]) ∧ RunAt B R cs bg (.pointer (some ⟨R, 2, none⟩)) L w' ∧ Below B w w' ∧ KeepR R w w' := by
  rcases h with h | h
  · obtain ⟨_, _, c2, cf, cs⟩ := h.cells
    refine (copyCheck_fresh R w c2 cs (cf 2)).mono ?_
    rintro e w' ⟨rfl, rfl⟩
    exact ⟨rfl, h.self _, (Below.refl B w).setCell (p := ⟨R, 2, none⟩) h.1 _, (KeepR.refl R w).set _ _⟩
  · obtain ⟨_, _, c2, cf, cs⟩ := h.cells
    refine (copyCheck_used R w c2).mono ?_
    rintro e w' ⟨rfl, rfl⟩
    exact ⟨rfl, h, Below.refl B _, KeepR.refl R _⟩

set_option maxHeartbeats 2000000 in
set_option maxRecDepth 100000 in
theorem writeByte_run (B R : Nat) (cs : Value) (bg : Int) (L : List UInt8) (c : UInt8) (w : World) (h : IsRun B R cs bg L w) (hlen : L.length + 1 ≤ 100000) :
    Calls Tryz.prog 115 #[.pointer (some ⟨R, 2, none⟩), .int .u8 c.toNat] w fun e w' => e = .returned .nilIface ∧ RunAt B R cs bg (.pointer (some ⟨R, 2, none⟩)) (L ++ [c]) w' ∧ Below B w w' ∧ KeepR R w w' := by
  obtain ⟨i0, hi, hz0, hz1, hz2⟩ := info_parts Tryz.infoU8
  have HC := hide (copyCheck_run B R cs bg L w h)
  clear h
  go_enter Tryz.func115, Tryz.ntmps115
  go_wp2_with fail
  refine HC.out.mono ?_
  rintro e w1 ⟨rfl, h1, hb1, hk1⟩
  have HA := hide h1
  have HB := hide hb1
  have HK := hide hk1
  obtain ⟨hB, v, hbk, hown⟩ := h1
  have c2 : w1.cell? ⟨R, 2, none⟩ = some (.pointer (some ⟨R, 2, none⟩)) := by rw [blk_cell hbk]; rfl
  have c3 : w1.cell? ⟨R, 3, none⟩ = some v := by rw [blk_cell hbk]; rfl
  have hRw : R < w1.heap.size := blk_lt hbk
  have Hbk := hide hbk
  have Hown := hide hown
  clear HC hb1 hk1 hbk
  go_wp2_with (at_builtin; refine wpList_append_own _ rfl _ _ 64 rfl B 5 i0 (.int .u8 0) 1 1 Tryz.underlying64 hi hz0 hz1 hz2 rfl (by decide) _ _ _ rfl (hown.alloc _) ⟨w1.heap.size, 0, none⟩ 1 1 [.int .u8 c.toNat] rfl rfl ?c1 ?c2 ?c3 ?c4 ?c5 ?_)
  case c1 =>
    intro j u hj
    match j, hj with
    | 0, hj => simp at hj; subst hj; simp [Addr.add]
  case c2 => intro u hu; simp at hu; subst hu; rfl
  case c3 => unfold maxLen; omega
  case c4 => omega
  case c5 => simp; omega
  intro v' w2 hown' hgrow _
  have hb2 : w2.heap[R]? = some (.cells #[cs, .int .i64 bg, .pointer (some ⟨R, 2, none⟩), v] 118 (0, 0)) := by
    rw [hgrow.block R (by simp; omega) (fun e => run_ne hown Hbk.out e.symm), Below.heap_alloc _ _ _ hRw]
    exact Hbk.out
  have d2 : w2.cell? ⟨R, 2, none⟩ = some (.pointer (some ⟨R, 2, none⟩)) := by rw [blk_cell hb2]; rfl
  have d3 : w2.cell? ⟨R, 3, none⟩ = some v := by rw [blk_cell hb2]; rfl
  have f3 : w2.frozen? ⟨R, 3, none⟩ = false := blk_frozen hb2 3
  have Hb2 := hide hb2
  have HG := hide hgrow
  have HO := hide hown'
  obtain ⟨g, cap, rfl⟩ : ∃ g cap, v' = .slice (some ⟨g, 0, none⟩) (L.length + 1) cap := by
    rcases hown'.2 with ⟨_, h0⟩ | ⟨g, cap, cur, hv, _⟩
    · omega
    · exact ⟨g, cap, hv⟩
  clear hgrow hown' hb2 hown
  go_wp2
  go_ret
  refine ⟨rfl, ⟨hB, .slice (some ⟨g, 0, none⟩) (L.length + 1) cap, by rw [blk_set Hb2.out]; rfl, ?_⟩, ?_, ?_⟩
  · have := HO.out
    rw [show bV (L ++ [c]) = bV L ++ [.int .u8 (c.toNat : Int)] by simp [bV], show (L ++ [c]).length = L.length + 1 by simp]
    exact this.kept (row := some R) ⟨rfl, rfl, rfl, by simp [World.setCell], fun k _ hk => Below.heap_setCell _ _ _ _ (fun e => hk (by simp [e]))⟩ (Or.inr (run_ne this Hb2.out))
  · exact ((HB.out.alloc (by have := HB.out.size; omega) _).grown HG.out (by simp; omega) (fun k hk => (Hown.out.lt k hk).1)).setCell (p := ⟨R, 3, none⟩) hB _
  · exact ((HK.out.alloc _).grown (Hown.out.alloc _) HG.out).set _ _
end Go.Proofs.YtbdffcjganlblaaGreatDoor

namespace Go.Proofs.YtbdffcjganlblaaGreatDoor
open Go.RowKit Go.Maps
open Go.ChangeMaps (setBlock heap_setBlock_same heap_setBlock_other)
set_option linter.unusedVariables false
set_option linter.unusedSimpArgs false

theorem laidOutM : laidOutB Tryz.prog = true := by kernel_rfl
theorem keyRow : (164 : TypeId) < Tryz.prog.types.size := of_decide_eq_true (by kernel_rfl)
theorem keyDeep : Tryz.prog.keyTypeAt (Tryz.prog.types.size + 1) 164 = true := by kernel_rfl
theorem keyWide : (match Tryz.prog.underlying 164 with | some (.array _ _) | some (.struct _) => true | _ => false) = true := by rw [Tryz.underlying164]
set_option maxRecDepth 100000 in
theorem keyLaw : Keyed Tryz.prog 164 := Keyed.of_law (deep_law_laid laidOutM (m := 2) (by omega) keyRow (by kernel_rfl) keyWide)
theorem keyCells : Tryz.prog.cellsOf 164 = 2 := by kernel_rfl
theorem keyCellB : Tryz.prog.cellsOf 5 = 1 := by kernel_rfl
theorem keyCellI : Tryz.prog.cellsOf 3 = 1 := by kernel_rfl

/-- A job's key. -/
abbrev JK := UInt8 × Nat
def keyV (k : JK) : Value := .agg #[.int .u8 k.1.toNat, .int .i64 k.2]
theorem keyV_inj {a b : JK} (h : keyV a = keyV b) : a = b := by
  unfold keyV at h
  simp at h
  obtain ⟨h1, h2⟩ := h
  have e1 : a.1 = b.1 := by
    apply UInt8.toNat_inj.1
    omega
  exact Prod.ext e1 (by omega)
theorem keyV_lits (d : Nat) (a b : Int) (h8 : (Lit.int .u8 a).wf = true) (h64 : (Lit.int .i64 b).wf = true) : Tryz.prog.keyLits (d + 2) 164 [.int .u8 a, .int .i64 b] = some [.int .u8 a, .int .i64 b] := by
  have e1 : ∀ d, Tryz.prog.keyLits (d + 1) 5 [.int .u8 a] = some [.int .u8 a] := fun d => by
    unfold Program.keyLits
    rw [Tryz.underlying5]
    exact if_pos ⟨rfl, h8⟩
  have e2 : ∀ d, Tryz.prog.keyLits (d + 1) 3 [.int .i64 b] = some [.int .i64 b] := fun d => by
    unfold Program.keyLits
    rw [Tryz.underlying3]
    exact if_pos ⟨rfl, h64⟩
  unfold Program.keyLits
  rw [Tryz.underlying164]
  simp only [List.length_cons, List.length_nil, keyCells]
  rw [if_pos ⟨trivial, by kernel_rfl⟩]
  simp [keyCellB, keyCellI, e1, e2]
theorem keyV_of (k : JK) (hk : k.2 ≤ 1000000) : ∃ kl, keyOf Tryz.prog 164 (keyV k) = some kl := by
  have hf : (keyV k).formed Tryz.prog 164 = true := by simp [keyV, Value.formed, Tryz.underlying164, keyCells]
  have h8 : (Lit.int .u8 (k.1.toNat : Int)).wf = true := WalkArith.wf_u8 (by have := k.1.toNat_lt; omega)
  have h64 : (Lit.int .i64 (k.2 : Int)).wf = true := WalkArith.wf_i64 (by omega)
  have hr : (0 : Nat) < Tryz.prog.types.size := of_decide_eq_true (by kernel_rfl)
  have hd := keyDeep
  unfold keyOf
  rw [Tryz.underlying164]
  simp only
  unfold Program.keyType
  rw [hd, hf]
  obtain ⟨d, e⟩ : ∃ d, Tryz.prog.types.size + 1 = d + 2 := ⟨Tryz.prog.types.size - 1, by
    generalize Tryz.prog.types.size = T at hr ⊢
    omega⟩
  rw [e]
  have hl := keyV_lits d k.1.toNat k.2 h8 h64
  rw [show (keyV k).cells.toList = [.int .u8 k.1.toNat, .int .i64 k.2] from rfl, hl]
  exact ⟨_, rfl⟩

/-- The map of jobs in block M: each job's key, and the block in which it lies. -/
def KMap (w : World) (M : Nat) (es : List (JK × Nat)) : Prop :=
  ∃ arr clock, w.heap[M]? = some (.map arr clock) ∧ arr.toList.map (fun e => (e.key, e.val)) = es.map (fun x => (keyV x.1, Value.pointer (some ⟨x.2, 0, none⟩))) ∧ es.length ≤ 1000
theorem KMap.keep {w w' : World} {M : Nat} {es : List (JK × Nat)} (h : KMap w M es) (hb : w'.heap[M]? = w.heap[M]?) : KMap w' M es := by
  obtain ⟨arr, clock, h1, h2⟩ := h
  exact ⟨arr, clock, by rw [hb]; exact h1, h2⟩
theorem KMap.made (w : World) : KMap (w.alloc (.map #[] 0)) w.heap.size [] := ⟨#[], 0, (MapKept.heap_alloc w _).1, rfl, by simp⟩
theorem KMap.lt {w : World} {M : Nat} {es : List (JK × Nat)} (h : KMap w M es) : M < w.heap.size := by
  obtain ⟨arr, clock, h1, _⟩ := h
  exact (Array.getElem?_eq_some_iff.1 h1).1
theorem KMap.noCells {w : World} {M : Nat} {es : List (JK × Nat)} (h : KMap w M es) (c : Array Value) (ty : TypeId) (fr : Nat × Nat) : w.heap[M]? ≠ some (.cells c ty fr) := by
  obtain ⟨arr, clock, h1, _⟩ := h
  rw [h1]
  simp
theorem kmap_keys {arr : Array MapEntry} {es : List (JK × Nat)} (h : arr.toList.map (fun e => (e.key, e.val)) = es.map (fun x => (keyV x.1, Value.pointer (some ⟨x.2, 0, none⟩)))) (hs : ∀ x ∈ es, x.1.2 ≤ 1000000) : ∀ e ∈ arr.toList, ∃ l, keyOf Tryz.prog 164 e.key = some l := by
  intro e he
  have : (e.key, e.val) ∈ arr.toList.map (fun e => (e.key, e.val)) := List.mem_map.2 ⟨e, he, rfl⟩
  rw [h] at this
  obtain ⟨x, hx, ex⟩ := List.mem_map.1 this
  simp only [Prod.mk.injEq] at ex
  rw [← ex.1]
  exact keyV_of x.1 (hs x hx)
theorem zeroJob (w : World) : (zeroValue 122).run Tryz.prog w = .ok (.pointer none) w := by kernel_rfl
/-- A look-up. -/
theorem KMap.look {w : World} {M : Nat} {es : List (JK × Nat)} (h : KMap w M es) (hs : ∀ x ∈ es, x.1.2 ≤ 1000000) (k : JK) (hk : k.2 ≤ 1000000) :
    ((∀ x ∈ es, x.1 ≠ k) ∧ (Instr.lookup 162 (.map (some M)) (keyV k) false).run Tryz.prog w = .ok (.pointer none) w) ∨
    ∃ (j : Nat) (x : JK × Nat), es[j]? = some x ∧ x.1 = k ∧ (Instr.lookup 162 (.map (some M)) (keyV k) false).run Tryz.prog w = .ok (.pointer (some ⟨x.2, 0, none⟩)) w := by
  obtain ⟨arr, clock, hb, he, hl⟩ := h
  obtain ⟨kl, hkl⟩ := keyV_of k hk
  rcases keyLaw.find w hkl arr.toList (kmap_keys he hs) with ⟨h1, h2⟩ | ⟨j, e0, h1, h2, h3⟩
  · left
    refine ⟨fun x hx ex => ?_, ?_⟩
    · have : (keyV x.1, Value.pointer (some ⟨x.2, 0, none⟩)) ∈ es.map (fun x => (keyV x.1, Value.pointer (some ⟨x.2, 0, none⟩))) := List.mem_map.2 ⟨x, hx, rfl⟩
      rw [← he] at this
      obtain ⟨e, hm, ee⟩ := List.mem_map.1 this
      simp only [Prod.mk.injEq] at ee
      exact h2 e hm (by rw [ee.1, ex])
    · simp [Instr.lookup, run_underlying Tryz.underlying162, MapKept.run_getObj_map hb, keyLaw.check w _ hkl, h1, zeroJob w, Result.andThen]
  · right
    have e1 : (arr.toList.map (fun e => (e.key, e.val)))[j]? = some (e0.key, e0.val) := by rw [List.getElem?_map, h2]; rfl
    rw [he, List.getElem?_map] at e1
    cases hx : es[j]? with
    | none => rw [hx] at e1; simp at e1
    | some x =>
      rw [hx] at e1
      simp only [Option.map_some, Option.some.injEq, Prod.mk.injEq] at e1
      refine ⟨j, x, hx, keyV_inj (e1.1.trans h3), ?_⟩
      simp [Instr.lookup, run_underlying Tryz.underlying162, MapKept.run_getObj_map hb, keyLaw.check w _ hkl, h1, Result.andThen]
      exact e1.2.symm
/-- A new key's store. -/
theorem KMap.store {w : World} {M : Nat} {es : List (JK × Nat)} (h : KMap w M es) (hs : ∀ x ∈ es, x.1.2 ≤ 1000000) (k : JK) (hk : k.2 ≤ 1000000) (hn : ∀ x ∈ es, x.1 ≠ k) (hl : es.length + 1 ≤ 1000) (A : Nat) :
    ∃ w', (Instr.mapUpdate 162 (.map (some M)) (keyV k) (.pointer (some ⟨A, 0, none⟩))).run Tryz.prog w = .ok () w' ∧ KMap w' M (es ++ [(k, A)]) ∧ w.grownBy w' (some M) := by
  obtain ⟨arr, clock, hb, he, _⟩ := h
  obtain ⟨kl, hkl⟩ := keyV_of k hk
  rcases keyLaw.find w hkl arr.toList (kmap_keys he hs) with ⟨h1, h2⟩ | ⟨j, e0, h1, h2, h3⟩
  · refine ⟨setBlock w M (.map (arr.push ⟨keyV k, .pointer (some ⟨A, 0, none⟩), clock⟩) (clock + 1)), ?_, ⟨_, _, heap_setBlock_same hb _, ?_, by simp; omega⟩, ⟨rfl, rfl, rfl, by simp [setBlock], fun i _ hi => heap_setBlock_other hb _ (fun e => hi (by rw [e]))⟩⟩
    · simp [Instr.mapUpdate, run_underlying Tryz.underlying162, MapKept.run_getObj_map hb, keyLaw.check w false hkl, h1, MapKept.run_setObj_map _ hb, Result.andThen, setBlock]
    · rw [Array.toList_push, List.map_append, he, List.map_append]
      rfl
  · exfalso
    have e1 : (arr.toList.map (fun e => (e.key, e.val)))[j]? = some (e0.key, e0.val) := by rw [List.getElem?_map, h2]; rfl
    rw [he, List.getElem?_map] at e1
    cases hx : es[j]? with
    | none => rw [hx] at e1; simp at e1
    | some x =>
      rw [hx] at e1
      simp only [Option.map_some, Option.some.injEq, Prod.mk.injEq] at e1
      exact hn x (List.mem_of_getElem? hx) (keyV_inj (e1.1.trans h3))

def jobV (nm : UInt8) (bud left : Nat) (want : Int) : Array Value := #[.int .u8 nm.toNat, .int .i64 bud, .int .i64 left, .int .i64 want]

/-! ### At the operation, for the walk -/
theorem wpList_look_at {P : Program} (w : World) {ops : Array Oper} {rest : List Oper} {o : Oper} {a : Act} {Q : Exit → Act → World → Prop}
    (hg : o.guard = none) (m x : Operand) (t : TypeId) (hop : o.op = Op.lookup t m x false) (mv xv v : Value) (hm : a.eval m = mv) (hx : a.eval x = xv)
    (hrun : (Instr.lookup t mv xv false).run P w = .ok v w) (hK : wpList P ops Q rest (a.put o.dst v) w) : wpList P ops Q (o :: rest) a w := by
  refine wpList_plain hg fun K' hK' => ?_
  unfold Oper.wp
  simp [execOp, hop, hm, hx, hrun, Result.andThen]
  exact hK' _ _ hK
theorem wpList_store_at {P : Program} (w : World) {ops : Array Oper} {rest : List Oper} {o : Oper} {a : Act} {Q : Exit → Act → World → Prop}
    (hg : o.guard = none) (m x v : Operand) (t : TypeId) (hop : o.op = Op.mapUpdate t m x v) (mv xv vv : Value) (hm : a.eval m = mv) (hx : a.eval x = xv) (hv : a.eval v = vv) (w' : World)
    (hrun : (Instr.mapUpdate t mv xv vv).run P w = .ok () w') (hK : wpList P ops Q rest (a.put o.dst undef) w') : wpList P ops Q (o :: rest) a w := by
  refine wpList_plain hg fun K' hK' => ?_
  unfold Oper.wp
  simp [execOp, hop, hm, hx, hv, hrun, Result.andThen]
  exact hK' _ _ hK
end Go.Proofs.YtbdffcjganlblaaGreatDoor

namespace Go.Proofs.YtbdffcjganlblaaGreatDoor
open Go.RowKit
set_option linter.unusedVariables false
set_option linter.unusedSimpArgs false

/-- Old blocks stand, but for R, J and rows of bytes. -/
structure KeepJ (R J : Nat) (w w' : World) : Prop where
  size : w.heap.size ≤ w'.heap.size
  block : ∀ i, i < w.heap.size → i ≠ R → i ≠ J → (∀ c fr, w.heap[i]? ≠ some (.cells c 5 fr)) → w'.heap[i]? = w.heap[i]?
theorem KeepR.j {R : Nat} {w w' : World} (h : KeepR R w w') (J : Nat) : KeepJ R J w w' := ⟨h.size, fun i a b _ c => h.block i a b c⟩
theorem KeepJ.trans {R J : Nat} {a b c : World} (h : KeepJ R J a b) (k : KeepJ R J b c) : KeepJ R J a c :=
  ⟨Nat.le_trans h.size k.size, fun i hi hR hJ hu => by
    have e := h.block i hi hR hJ hu
    rw [k.block i (Nat.lt_of_lt_of_le hi h.size) hR hJ (fun c fr => by rw [e]; exact hu c fr), e]⟩
theorem KeepJ.setJ {R J : Nat} {a b : World} (h : KeepJ R J a b) (o : Nat) (v : Value) : KeepJ R J a (b.setCell ⟨J, o, none⟩ v) :=
  h.trans ⟨by simp [World.setCell], fun i hi _ hJ _ => Below.heap_setCell _ _ _ _ hJ⟩
theorem KeepJ.setR {R J : Nat} {a b : World} (h : KeepJ R J a b) (o : Nat) (v : Value) : KeepJ R J a (b.setCell ⟨R, o, none⟩ v) :=
  h.trans ⟨by simp [World.setCell], fun i hi hR _ _ => Below.heap_setCell _ _ _ _ hR⟩
theorem KeepJ.blk {R J : Nat} {a b : World} (h : KeepJ R J a b) {i : Nat} {c : Array Value} {ty : TypeId} {fr : Nat × Nat} (hb : a.heap[i]? = some (.cells c ty fr)) (hR : i ≠ R) (hJ : i ≠ J) (ht : ty ≠ 5) : b.heap[i]? = some (.cells c ty fr) := by
  rw [h.block i (blk_lt hb) hR hJ (fun c' fr' e => ?_)]
  · exact hb
  · rw [hb] at e
    simp at e
    exact ht e.2.1

/-- A job in block J, beside the run in block R. -/
structure JR (B R J : Nat) (csv : Value) (bg : Nat) (L : List UInt8) (nm : UInt8) (bud left : Nat) (want : Int) (w : World) : Prop where
  r : IsRun B R csv bg L w
  j : w.heap[J]? = some (.cells (jobV nm bud left want) 166 (0, 0))
section
variable {B R J : Nat} {csv : Value} {bg : Nat} {L : List UInt8} {nm : UInt8} {bud left : Nat} {want : Int} {w : World}
theorem IsRun.blk (h : IsRun B R csv bg L w) : B ≤ R ∧ ∃ p v, (p = .pointer none ∨ p = .pointer (some ⟨R, 2, none⟩)) ∧ w.heap[R]? = some (.cells #[csv, .int .i64 bg, p, v] 118 (0, 0)) ∧ w.ownsRow B 5 1 v L.length (bV L) := by
  rcases h with ⟨hB, v, hb, ho⟩ | ⟨hB, v, hb, ho⟩
  · exact ⟨hB, _, v, .inl rfl, hb, ho⟩
  · exact ⟨hB, _, v, .inr rfl, hb, ho⟩
theorem isRun_of {p v : Value} (hB : B ≤ R) (hp : p = .pointer none ∨ p = .pointer (some ⟨R, 2, none⟩)) (hb : w.heap[R]? = some (.cells #[csv, .int .i64 bg, p, v] 118 (0, 0))) (ho : w.ownsRow B 5 1 v L.length (bV L)) : IsRun B R csv bg L w := by
  rcases hp with rfl | rfl
  · exact .inl ⟨hB, v, hb, ho⟩
  · exact .inr ⟨hB, v, hb, ho⟩
theorem JR.ne (h : JR B R J csv bg L nm bud left want w) : J ≠ R := by
  obtain ⟨_, p, v, _, hb, _⟩ := h.r.blk
  intro e
  have := h.j
  rw [e, hb] at this
  simp at this
theorem IsRun.setOther (h : IsRun B R csv bg L w) {X : Nat} {c : Array Value} {ty : TypeId} (hX : w.heap[X]? = some (.cells c ty (0, 0))) (hne : X ≠ R) (ht : ty ≠ 5) (o : Nat) (v : Value) : IsRun B R csv bg L (w.setCell ⟨X, o, none⟩ v) := by
  obtain ⟨hB, p, vv, hp, hb, ho⟩ := h.blk
  refine isRun_of hB hp (by rw [Below.heap_setCell _ _ _ _ (fun e => hne e.symm)]; exact hb) ?_
  refine ho.kept (row := some X) ⟨rfl, rfl, rfl, by simp [World.setCell], fun k _ hk => Below.heap_setCell _ _ _ _ (fun e => hk (by simp [e]))⟩ (Or.inr ?_)
  exact Lib.ownBlock_ne ho hX ht
theorem JR.setJ (h : JR B R J csv bg L nm bud left want w) (o : Nat) (v : Value) {left' : Nat} {want' : Int} (hc : (jobV nm bud left want).setIfInBounds o v = jobV nm bud left' want') : JR B R J csv bg L nm bud left' want' (w.setCell ⟨J, o, none⟩ v) :=
  ⟨h.r.setOther h.j h.ne (by decide) _ _, by rw [blk_set h.j, hc]⟩
theorem JR.setBg (h : JR B R J csv bg L nm bud left want w) (bg' : Nat) : JR B R J csv bg' L nm bud left want (w.setCell ⟨R, 1, none⟩ (.int .i64 bg')) := by
  refine ⟨?_, by rw [Below.heap_setCell _ _ _ _ h.ne]; exact h.j⟩
  rcases h.r with h1 | h1
  · exact .inl (h1.set _)
  · exact .inr (h1.set _)
theorem JR.cells (h : JR B R J csv bg L nm bud left want w) : w.cell? ⟨J, 0, none⟩ = some (.int .u8 nm.toNat) ∧ w.cell? ⟨J, 1, none⟩ = some (.int .i64 bud) ∧ w.cell? ⟨J, 2, none⟩ = some (.int .i64 left) ∧ w.cell? ⟨J, 3, none⟩ = some (.int .i64 want) ∧ (∀ o, w.frozen? ⟨J, o, none⟩ = false) ∧
    w.cell? ⟨R, 0, none⟩ = some csv ∧ w.cell? ⟨R, 1, none⟩ = some (.int .i64 bg) ∧ ∀ o, w.frozen? ⟨R, o, none⟩ = false := by
  obtain ⟨_, p, v, _, hb, _⟩ := h.r.blk
  refine ⟨by rw [blk_cell h.j]; rfl, by rw [blk_cell h.j]; rfl, by rw [blk_cell h.j]; rfl, by rw [blk_cell h.j]; rfl, blk_frozen h.j, by rw [blk_cell hb]; rfl, by rw [blk_cell hb]; rfl, blk_frozen hb⟩
theorem JR.wrote (h : JR B R J csv bg L nm bud left want w) {w' : World} {L' : List UInt8} (hr : RunAt B R csv bg (.pointer (some ⟨R, 2, none⟩)) L' w') (hk : KeepR R w w') : JR B R J csv bg L' nm bud left want w' :=
  ⟨.inr hr, hk.blk h.j h.ne (by decide)⟩
end

theorem JR.drew {B R J : Nat} {csv : Value} {bg : Nat} {L : List UInt8} {nm : UInt8} {bud left : Nat} {want : Int} {w : World} (h : JR B R J csv bg L nm bud left want w) : JR B R J csv bg L nm bud left want w.drew := ⟨h.r, h.j⟩
theorem KeepJ.drew {R J : Nat} {a b : World} (h : KeepJ R J a b) : KeepJ R J a b.drew := ⟨h.size, h.block⟩

set_option maxRecDepth 100000 in
set_option maxHeartbeats 4000000 in
theorem begin_any (B R J : Nat) (a : Option Addr) (cs : List Int) (cap bg : Nat) (L : List UInt8) (nm : UInt8) (bud left : Nat) (want : Int) (w : World) (h : JR B R J (.slice a cs.length cap) bg L nm bud left want w) (hc : CostsAt w a cs) (hcR : 0 < cs.length → ∀ b off, a = some ⟨b, off, none⟩ → b ≠ R ∧ b ≠ J) (hn : cs.length ≤ 1000000) (hm : bg ≤ 1000000000) (hbj : B ≤ J) :
    Calls Tryz.prog 116 #[.pointer (some ⟨R, 0, none⟩), .pointer (some ⟨J, 0, none⟩)] w fun e w' => e = .returned (.tuple #[]) ∧ JR B R J (.slice a cs.length cap) (bg + 1) L nm bud bud (wantsL cs bg bud) w' ∧ Below B w w' ∧ KeepJ R J w w' := by
  obtain ⟨j0, j1, j2, j3, jf, r0, r1, rf⟩ := h.cells
  have hne := h.ne
  have hne2 : ¬ R = J := fun e => hne e.symm
  have hne1 : ¬ J = R := hne
  have hBR : B ≤ R := h.r.blk.1
  have HJ := hide h
  have hb1 : ((bg : Int) + 1) = ((bg + 1 : Nat) : Int) := by omega
  by_cases h0 : cs.length = 0
  · have hz : Hid (wantsL cs bg bud = bud) := by unfold Hid wantsL; rw [if_pos h0]
    have h0' : ¬ (0 : Int) < cs.length := by omega
    have HF := hide (((HJ.out.setJ 2 (.int .i64 bud) (left' := bud) (want' := want) rfl).setJ 3 (.int .i64 bud) (left' := bud) (want' := bud) rfl).setBg (bg + 1))
    have HB := hide ((((Below.refl B w).setCell (p := ⟨J, 2, none⟩) hbj (.int .i64 bud)).setCell (p := ⟨J, 3, none⟩) hbj (.int .i64 bud)).setCell (p := ⟨R, 1, none⟩) hBR (.int .i64 ((bg + 1 : Nat) : Int)))
    have HK := hide (((((KeepR.refl R w).j J).setJ 2 (.int .i64 bud)).setJ 3 (.int .i64 bud)).setR 1 (.int .i64 ((bg + 1 : Nat) : Int)))
    rw [← hb1] at HB HK
    have HF2 : Hid (JR B R J (.slice a cs.length cap) (bg + 1) L nm bud bud bud (((w.setCell ⟨J, 2, none⟩ (.int .i64 bud)).setCell ⟨J, 3, none⟩ (.int .i64 bud)).setCell ⟨R, 1, none⟩ (.int .i64 ((bg : Int) + 1)))) := by rw [hb1]; exact HF.out
    clear h hc hcR HJ HF hb1 h0
    go_enter Tryz.func116, Tryz.ntmps116
    go_wp2
    go_end0
    rw [hz.out]
    exact ⟨rfl, HF2.out, HB.out, HK.out⟩
  · obtain ⟨x, off, rfl, hx, hr⟩ : ∃ b off, a = some ⟨b, off, none⟩ ∧ b < w.heap.size ∧ ∀ k, k < cs.length → w.cell? ⟨b, off + k, none⟩ = some (.int .i64 (cs.getD k 0)) := by
      rcases hc with hc | hc
      · rw [hc] at h0
        exact absurd rfl h0
      · exact hc
    obtain ⟨hxR, hxJ⟩ := hcR (by omega) x off rfl
    have hxR1 : ¬ x = R := hxR
    have hxJ1 : ¬ x = J := hxJ
    have hxR2 : ¬ R = x := fun e => hxR e.symm
    have hxJ2 : ¬ J = x := fun e => hxJ e.symm
    have hz : Hid (wantsL cs bg bud = cs.getD (bg % cs.length) 0) := by unfold Hid wantsL; rw [if_neg h0]
    have h0' : (0 : Int) < cs.length := by omega
    have hlt := Nat.mod_lt bg (show 0 < cs.length by omega)
    have hcc := hr _ hlt
    have hi1 : 0 ≤ (bg : Int) % cs.length := by rw [← Int.natCast_emod]; exact Int.natCast_nonneg _
    have hi2 : (bg : Int) % cs.length < cs.length := by rw [← Int.natCast_emod]; exact Int.ofNat_lt.2 hlt
    have hi3 : ¬ (cs.length : Int) = 0 := by omega
    generalize cs.getD (bg % cs.length) 0 = V at *
    have HF := hide ((((HJ.out.setJ 2 (.int .i64 bud) (left' := bud) (want' := want) rfl).setJ 3 (.int .i64 bud) (left' := bud) (want' := bud) rfl).setJ 3 (.int .i64 V) (left' := bud) (want' := V) rfl).setBg (bg + 1)).drew
    have HB := hide ((((((Below.refl B w).setCell (p := ⟨J, 2, none⟩) hbj (.int .i64 bud)).setCell (p := ⟨J, 3, none⟩) hbj (.int .i64 bud)).setCell (p := ⟨J, 3, none⟩) hbj (.int .i64 V)).setCell (p := ⟨R, 1, none⟩) hBR (.int .i64 ((bg + 1 : Nat) : Int)))).drew
    have HK := hide ((((((KeepR.refl R w).j J).setJ 2 (.int .i64 bud)).setJ 3 (.int .i64 bud)).setJ 3 (.int .i64 V)).setR 1 (.int .i64 ((bg + 1 : Nat) : Int))).drew
    rw [← hb1] at HB HK
    have HF2 : Hid (JR B R J (.slice (some ⟨x, off, none⟩) cs.length cap) (bg + 1) L nm bud bud V ((((w.setCell ⟨J, 2, none⟩ (.int .i64 bud)).setCell ⟨J, 3, none⟩ (.int .i64 bud)).setCell ⟨J, 3, none⟩ (.int .i64 V)).setCell ⟨R, 1, none⟩ (.int .i64 ((bg : Int) + 1))).drew) := by rw [hb1]; exact HF
    clear h hc hcR HJ hr hb1 HF h0
    go_enter Tryz.func116, Tryz.ntmps116
    go_wp2_with fail
    go_region
    all_goals
      go_wp2
      go_end0
      rw [hz.out]
      exact ⟨rfl, HF2.out, HB, HK⟩

/-- The builder's byte, beside a job. -/
theorem JR.byte {B R J : Nat} {csv : Value} {bg : Nat} {L : List UInt8} {nm : UInt8} {bud left : Nat} {want : Int} {w : World} (h : JR B R J csv bg L nm bud left want w) (hL : L.length + 1 ≤ 100000) (c : UInt8) (ci : Int) (hc : ci = c.toNat) :
    Calls Tryz.prog 115 #[.pointer (some ⟨R, 2, none⟩), .int .u8 ci] w fun e w' => e = .returned .nilIface ∧ JR B R J csv bg (L ++ [c]) nm bud left want w' ∧ Below B w w' ∧ KeepJ R J w w' := by
  subst hc
  refine (writeByte_run B R csv bg L c w h.r hL).mono ?_
  rintro e w' ⟨rfl, h1, h2, h3⟩
  exact ⟨rfl, h.wrote h1 h3, h2, h3.j J⟩
def giveO (nm : UInt8) (left : Nat) (want : Int) : List UInt8 := if want = 0 then [46] else [nm] ++ if left = 0 ∧ 0 < want - 1 then [33, nm] else []
def giveW (want : Int) : Int := if want = 0 then want else want - 1

set_option maxRecDepth 100000 in
set_option maxHeartbeats 4000000 in
theorem give_any (B R J : Nat) (csv : Value) (bg : Nat) (L : List UInt8) (nm : UInt8) (bud left : Nat) (want : Int) (w : World) (h : JR B R J csv bg L nm bud left want w) (hbj : B ≤ J) (hl1 : 1 ≤ left) (hl2 : left ≤ 1000000) (hw1 : 0 ≤ want) (hw2 : want ≤ 1000000000) (hL : L.length + 3 ≤ 100000) :
    Calls Tryz.prog 117 #[.pointer (some ⟨R, 0, none⟩), .pointer (some ⟨J, 0, none⟩)] w fun e w' => e = .returned (.tuple #[]) ∧ JR B R J csv bg (L ++ giveO nm (left - 1) want) nm bud (left - 1) (giveW want) w' ∧ Below B w w' ∧ KeepJ R J w w' := by
  obtain ⟨j0, j1, j2, j3, jf, r0, r1, rf⟩ := h.cells
  have hne := h.ne
  have hBR : B ≤ R := h.r.blk.1
  have hb1 : ((left : Int) - 1) = ((left - 1 : Nat) : Int) := by omega
  have HJ1 : Hid (JR B R J csv bg L nm bud (left - 1) want (w.setCell ⟨J, 2, none⟩ (.int .i64 ((left : Int) - 1)))) := h.setJ 2 _ (by rw [hb1]; rfl)
  have HB1 := hide ((Below.refl B w).setCell (p := ⟨J, 2, none⟩) hbj (.int .i64 ((left : Int) - 1)))
  have HK1 := hide (((KeepR.refl R w).j J).setJ 2 (.int .i64 ((left : Int) - 1)))
  clear h hb1
  by_cases h0 : want = 0
  · have eo : Hid (giveO nm (left - 1) want = [46]) := by unfold Hid giveO; rw [if_pos h0]
    have ew : Hid (giveW want = want) := by unfold Hid giveW; rw [if_pos h0]
    rw [eo.out, ew.out]
    have h0' : (want == 0) = true := by simp [h0]
    clear h0 eo ew
    go_enter Tryz.func117, Tryz.ntmps117
    go_wp2_with fail
    refine (HJ1.out.byte (by omega) 46 46 rfl).mono ?_
    rintro e w2 ⟨rfl, h2, hb2, hk2⟩
    have H2 := hide h2
    have HB2 := hide (HB1.out.trans hb2)
    have HK2 := hide (HK1.out.trans hk2)
    clear h2 hb2 hk2 j0 j1 j2 j3 jf r0 r1 rf
    go_wp2
    refine bodyPost_ret (results_none rfl _ _ _) rfl ?_
    exact ⟨rfl, H2.out, HB2.out, HK2.out⟩
  · have ew : Hid (giveW want = want - 1) := by unfold Hid giveW; rw [if_neg h0]
    have h0' : (want == 0) = false := by simp [h0]
    have HJ2 : Hid (JR B R J csv bg L nm bud (left - 1) (want - 1) ((w.setCell ⟨J, 2, none⟩ (.int .i64 ((left : Int) - 1))).setCell ⟨J, 3, none⟩ (.int .i64 (want - 1)))) := HJ1.out.setJ 3 _ rfl
    have HB2 := hide (HB1.out.setCell (p := ⟨J, 3, none⟩) hbj (.int .i64 (want - 1)))
    have HK2 := hide (HK1.out.setJ 3 (.int .i64 (want - 1)))
    rw [ew.out]
    have eo : Hid (giveO nm (left - 1) want = [nm] ++ if left - 1 = 0 ∧ 0 < want - 1 then [33, nm] else []) := by unfold Hid giveO; rw [if_neg h0]
    have hj0 := hide ((HJ2.out.drew).cells.1)
    clear HJ1 HB1 HK1 ew h0
    go_enter Tryz.func117, Tryz.ntmps117
    go_wp2_with fail
    go_region_held_law (fun w' => w'.cell? ⟨J, 0, none⟩ = some (.int .u8 nm.toNat)) (first | exact hj0.out | exact h8c)
      (first | (go_at_call 115; refine (HJ2.out.drew.byte (by omega) nm _ rfl).mono ?_; rintro e w8 ⟨rfl, hj8, hb8, hk8⟩; have h8c := hj8.cells.1))
    all_goals
      obtain ⟨k0, k1, k2, k3, kf, q0, q1, qf⟩ := hj8.cells
      have H8 := hide hj8
      have HB8 := hide (HB2.out.trans (Below.trans ((Below.refl B _).drew) hb8))
      have HK8 := hide (HK2.out.trans (KeepJ.trans (KeepJ.drew ((KeepR.refl R _).j J)) hk8))
      clear hj8 hb8 hk8 j0 j1 j2 j3 jf r0 r1 rf HJ2 HB2 HK2 hj0 h8c
      by_cases hm : left - 1 = 0 ∧ 0 < want - 1
      · have e1 : Hid (giveO nm (left - 1) want = [nm] ++ [33] ++ [nm]) := by unfold Hid; rw [eo.out, if_pos hm]; rfl
        have hm1 : (((left - 1 : Nat) : Int) == 0) = true := by simp [hm.1]
        have hm2 : (0 : Int) < want - 1 := hm.2
        clear eo hm
        go_wp2_with fail
        refine (H8.out.byte (by simp; omega) 33 33 rfl).mono ?_
        rintro e w9 ⟨rfl, hj9, hb9, hk9⟩
        have H9 := hide hj9
        have HB9 := hide (HB8.out.trans hb9)
        have HK9 := hide (HK8.out.trans hk9)
        have hn0 := hide (hj9.drew.cells.1)
        obtain ⟨k0, _, _, _, _, _, _, _⟩ := hj9.cells
        clear hj9 hb9 hk9 H8 HB8 HK8 k1 k2 k3 kf q0 q1 qf
        go_wp2_with fail
        go_region_held_law (fun w' => w'.cell? ⟨J, 0, none⟩ = some (.int .u8 nm.toNat)) (first | exact hn0.out | exact h8c)
          (first | (go_at_call 115; refine (H9.out.drew.byte (by simp; omega) nm _ rfl).mono ?_; rintro e w10 ⟨rfl, hj10, hb10, hk10⟩; have h8c := hj10.cells.1))
        all_goals
          have HA := hide hj10
          have HBA := hide (HB9.out.trans (Below.trans ((Below.refl B _).drew) hb10))
          have HKA := hide (HK9.out.trans (KeepJ.trans (KeepJ.drew ((KeepR.refl R _).j J)) hk10))
          clear hj10 hb10 hk10 h8c k0 hn0 H9 HB9 HK9
          go_wp2
          go_end0
          exact ⟨rfl, by rw [e1.out, ← List.append_assoc, ← List.append_assoc]; exact HA.out, HBA.out, HKA.out⟩
      · have e1 : Hid (giveO nm (left - 1) want = [nm]) := by unfold Hid; rw [eo.out, if_neg hm]; rfl
        clear eo
        by_cases hz : left - 1 = 0
        · have hm1 : (((left - 1 : Nat) : Int) == 0) = true := by simp [hz]
          have hm2 : ¬ (0 : Int) < want - 1 := fun x => hm ⟨hz, x⟩
          clear hm hz
          go_wp2
          go_end0
          exact ⟨rfl, by rw [e1.out]; exact H8.out, HB8.out, HK8.out⟩
        · have hm1 : (((left - 1 : Nat) : Int) == 0) = false := by simp; omega
          clear hm hz
          go_wp2
          go_end0
          exact ⟨rfl, by rw [e1.out]; exact H8.out, HB8.out, HK8.out⟩

/-- A tick that is nobody's. -/
theorem tickN_any (B R : Nat) (csv : Value) (bg : Nat) (L : List UInt8) (w : World) (h : IsRun B R csv bg L w) (hL : L.length + 1 ≤ 100000) :
    Calls Tryz.prog 76 #[.pointer (some ⟨R, 0, none⟩), .pointer none] w fun e w' => e = .returned (.tuple #[]) ∧ IsRun B R csv bg (L ++ [46]) w' ∧ Below B w w' ∧ KeepR R w w' := by
  have HW := hide (writeByte_run B R csv bg L 46 w h hL)
  clear h
  go_enter Tryz.func76, Tryz.ntmps76
  go_wp2_with fail
  refine HW.out.mono ?_
  rintro e w1 ⟨rfl, h1, hb1, hk1⟩
  have H1 := hide h1
  have HB1 := hide hb1
  have HK1 := hide hk1
  clear h1 hb1 hk1 HW
  go_wp2
  go_end0
  exact ⟨rfl, .inr H1.out, HB1.out, HK1.out⟩

def nowL (bud left : Nat) : Nat := if left = 0 then bud else left
def nowW (cs : List Int) (bg bud left : Nat) (want : Int) : Int := if left = 0 then wantsL cs bg bud else want
def nowB (bg left : Nat) : Nat := if left = 0 then bg + 1 else bg
set_option maxRecDepth 100000 in
set_option maxHeartbeats 4000000 in
theorem tickJ_any (B R J : Nat) (a : Option Addr) (cs : List Int) (cap bg : Nat) (L : List UInt8) (nm : UInt8) (bud left : Nat) (want : Int) (w : World) (h : JR B R J (.slice a cs.length cap) bg L nm bud left want w) (hc : CostsAt w a cs) (hcR : 0 < cs.length → ∀ b off, a = some ⟨b, off, none⟩ → b ≠ R ∧ b ≠ J) (hn : cs.length ≤ 1000000) (hm : bg ≤ 1000000000) (hbj : B ≤ J)
    (hl1 : 1 ≤ nowL bud left) (hl2 : nowL bud left ≤ 1000000) (hw1 : 0 ≤ nowW cs bg bud left want) (hw2 : nowW cs bg bud left want ≤ 1000000000) (hL : L.length + 3 ≤ 100000) :
    Calls Tryz.prog 76 #[.pointer (some ⟨R, 0, none⟩), .pointer (some ⟨J, 0, none⟩)] w fun e w' => e = .returned (.tuple #[]) ∧ JR B R J (.slice a cs.length cap) (nowB bg left) (L ++ giveO nm (nowL bud left - 1) (nowW cs bg bud left want)) nm bud (nowL bud left - 1) (giveW (nowW cs bg bud left want)) w' ∧ Below B w w' ∧ KeepJ R J w w' := by
  obtain ⟨j0, j1, j2, j3, jf, r0, r1, rf⟩ := h.cells
  by_cases h0 : left = 0
  · have e1 : nowL bud left = bud := by unfold nowL; rw [if_pos h0]
    have e2 : nowW cs bg bud left want = wantsL cs bg bud := by unfold nowW; rw [if_pos h0]
    have e3 : nowB bg left = bg + 1 := by unfold nowB; rw [if_pos h0]
    rw [e1] at hl1 hl2
    rw [e2] at hw1 hw2
    rw [e1, e2, e3]
    have HB := hide (begin_any B R J a cs cap bg L nm bud left want w h hc hcR hn hm hbj)
    have hz : ((left : Int) == 0) = true := by simp [h0]
    clear e1 e2 e3 h hc hcR h0
    generalize wantsL cs bg bud = V at *
    go_enter Tryz.func76, Tryz.ntmps76
    go_wp2_with fail
    refine HB.out.mono ?_
    rintro e w1 ⟨rfl, h1, hb1, hk1⟩
    have HG := hide (give_any B R J (.slice a cs.length cap) (bg + 1) L nm bud bud V w1 h1 hbj hl1 hl2 hw1 hw2 hL)
    have HB1 := hide hb1
    have HK1 := hide hk1
    clear h1 hb1 hk1 HB j0 j1 j2 j3 jf r0 r1 rf
    go_wp2_with fail
    refine HG.out.mono ?_
    rintro e w2 ⟨rfl, h2, hb2, hk2⟩
    have H2 := hide h2
    have HB2 := hide (HB1.out.trans hb2)
    have HK2 := hide (HK1.out.trans hk2)
    clear h2 hb2 hk2 HG HB1 HK1
    go_wp2
    go_end0
    exact ⟨rfl, H2.out, HB2.out, HK2.out⟩
  · have e1 : nowL bud left = left := by unfold nowL; rw [if_neg h0]
    have e2 : nowW cs bg bud left want = want := by unfold nowW; rw [if_neg h0]
    have e3 : nowB bg left = bg := by unfold nowB; rw [if_neg h0]
    rw [e1] at hl1 hl2
    rw [e2] at hw1 hw2
    rw [e1, e2, e3]
    have HG := hide (give_any B R J (.slice a cs.length cap) bg L nm bud left want w h hbj hl1 hl2 hw1 hw2 hL)
    have hz : ((left : Int) == 0) = false := by simp [h0]
    clear e1 e2 e3 h hc hcR h0
    go_enter Tryz.func76, Tryz.ntmps76
    go_wp2_with fail
    refine HG.out.mono ?_
    rintro e w2 ⟨rfl, h2, hb2, hk2⟩
    have H2 := hide h2
    have HB2 := hide hb2
    have HK2 := hide hk2
    clear h2 hb2 hk2 HG j0 j1 j2 j3 jf r0 r1 rf
    go_wp2
    go_end0
    exact ⟨rfl, H2.out, HB2.out, HK2.out⟩
end Go.Proofs.YtbdffcjganlblaaGreatDoor

namespace Go.Proofs.YtbdffcjganlblaaGreatDoor
open Go.RowKit Go.Maps
set_option linter.unusedVariables false
set_option linter.unusedSimpArgs false

/-- Job k in its block. -/
def ptrP (P : List Nat) (k : Nat) : Value := .pointer (some ⟨P.getD k 0, 0, none⟩)
/-- What the row of units holds at u, with q slices done and r units of the next. -/
def uvV (l : List FSl) (fr : Nat) (P : List Nat) (q r u : Nat) : Value :=
  match atTo l fr u q with
  | some i => ptrP P (numI l i)
  | none => if startI l fr q ≤ u ∧ u < startI l fr q + r then ptrP P (numI l q) else .pointer none
def keyK (l : List FSl) (k : Nat) : JK := ((fsk l (jobI l k)).2.nm, (fsk l (jobI l k)).2.job)
def keysL (l : List FSl) (n : Nat) (P : List Nat) : List (JK × Nat) := (List.range n).map (fun k => (keyK l k, P.getD k 0))
theorem keyK_num {l : List FSl} {q : Nat} (hq : q < l.length) : keyK l (numI l q) = ((fsk l q).2.nm, (fsk l q).2.job) := by
  obtain ⟨_, _, a, _⟩ := jobI_num hq
  unfold keyK
  rw [a.1, a.2]
theorem cnt_le {l : List FSl} {q : Nat} (hq : q ≤ l.length) : cntTo l q ≤ cntTo l l.length := by
  obtain ⟨r, hr⟩ := firsts_pre l q (l.length - q)
  rw [show q + (l.length - q) = l.length by omega] at hr
  rw [← firsts_len, ← firsts_len, hr]
  simp
theorem keyK_inj {l : List FSl} {a b : Nat} (ha : a < cntTo l l.length) (hb : b < cntTo l l.length) (h : keyK l a = keyK l b) : a = b := by
  obtain ⟨i, hi, ei, _⟩ := num_surj (l := l) l.length (Nat.le_refl _) a ha
  obtain ⟨j, hj, ej, _⟩ := num_surj (l := l) l.length (Nat.le_refl _) b hb
  subst ei ej
  rw [keyK_num hi, keyK_num hj] at h
  injection h with h1 h2
  exact (sameJ_iff hi hj).2 ⟨h1.symm, h2.symm⟩
theorem num_lt_cnt {l : List FSl} {i q : Nat} (hi : i < q) (hq : q ≤ l.length) : numI l i < cntTo l q := by
  obtain ⟨a, b, c, _⟩ := jobI_num (l := l) (i := i) (by omega)
  have e : (spotI l (jobI l (numI l i))).fst = jobI l (numI l i) := spotI_self a c
  have h2 : cntTo l (jobI l (numI l i) + 1) = cntTo l (jobI l (numI l i)) + 1 := by rw [cntTo, if_pos e]
  have h3 : numI l i = cntTo l (jobI l (numI l i)) := by
    conv => lhs; unfold numI
    rw [a]
    rfl
  obtain ⟨r, hr⟩ := firsts_pre l (jobI l (numI l i) + 1) (q - (jobI l (numI l i) + 1))
  rw [show jobI l (numI l i) + 1 + (q - (jobI l (numI l i) + 1)) = q by omega] at hr
  have h4 := firsts_len l q
  rw [hr, List.length_append, firsts_len] at h4
  omega

structure UX (w wr : World) (tv : Array Value) (cyc fr : Nat) (l : List FSl) (q r kq bq : Nat) (P : List Nat) : Prop where
  hx : wr.heap[w.heap.size]? = some (.cells tv 61 (0, 0))
  hu : ∃ arr, wr.heap[w.heap.size + 1]? = some (.cells arr 122 (0, 0)) ∧ ∀ u, u < cyc → arr[u]? = some (uvV l fr P q r u)
  hm : KMap wr (w.heap.size + 1 + 1) (keysL l P.length P)
  hj : ∀ k, k < P.length → w.heap.size + 1 + 1 < P.getD k 0 ∧ wr.heap[P.getD k 0]? = some (.cells (jobV (nmK l k) (hadK l k bq) 0 0) 166 (0, 0))
  inj : ∀ a b, a < P.length → b < P.length → P.getD a 0 = P.getD b 0 → a = b
  pl : P.length = cntTo l kq
  kl : kq ≤ l.length
  bel : Below w.heap.size w wr
section
variable {w wr : World} {tv : Array Value} {cyc fr : Nat} {l : List FSl} {q r kq bq : Nat} {P : List Nat}
theorem UX.keep (h : UX w wr tv cyc fr l q r kq bq P) {w' : World} (hb : Below wr.heap.size wr w') : UX w w' tv cyc fr l q r kq bq P := by
  obtain ⟨arr, h1, h2⟩ := h.hu
  exact ⟨blk_keep h.hx hb, ⟨arr, blk_keep h1 hb, h2⟩, h.hm.keep (hb.block _ h.hm.lt), fun k hk => ⟨(h.hj k hk).1, blk_keep (h.hj k hk).2 hb⟩, h.inj, h.pl, h.kl, h.bel.trans (hb.mono h.bel.size)⟩
theorem UX.drew (h : UX w wr tv cyc fr l q r kq bq P) : UX w wr.drew tv cyc fr l q r kq bq P := ⟨h.hx, h.hu, h.hm, h.hj, h.inj, h.pl, h.kl, h.bel.drew⟩
theorem UX.small (h : UX w wr tv cyc fr l q r kq bq P) (hs : ∀ i, i < l.length → (fsk l i).2.job ≤ 9999) : ∀ x ∈ keysL l P.length P, x.1.2 ≤ 1000000 := by
  intro x hx
  obtain ⟨k, hk, rfl⟩ := List.mem_map.1 hx
  rw [List.mem_range, h.pl] at hk
  obtain ⟨i, hi, _, e⟩ := num_surj (l := l) kq h.kl k hk
  have := hs (jobI l k) (by have := h.kl; omega)
  show (fsk l (jobI l k)).2.job ≤ 1000000
  omega
theorem UX.look_none (h : UX w wr tv cyc fr l q r kq bq P) (hs : ∀ i, i < l.length → (fsk l i).2.job ≤ 9999) (hq : q < l.length) (hk : kq = q) (hf : jobI l (numI l q) = q) :
    (Instr.lookup 162 (.map (some (w.heap.size + 1 + 1))) (keyV ((fsk l q).2.nm, (fsk l q).2.job)) false).run Tryz.prog wr = .ok (.pointer none) wr ∧ ∀ x ∈ keysL l P.length P, x.1 ≠ ((fsk l q).2.nm, (fsk l q).2.job) := by
  have hno : ∀ x ∈ keysL l P.length P, x.1 ≠ ((fsk l q).2.nm, (fsk l q).2.job) := by
    intro x hx e
    obtain ⟨k, hkm, rfl⟩ := List.mem_map.1 hx
    rw [List.mem_range, h.pl, hk] at hkm
    obtain ⟨i, hi, ei, ej⟩ := num_surj (l := l) q (by omega) k hkm
    have e2 : keyK l k = keyK l (numI l q) := by rw [keyK_num hq]; exact e
    have := keyK_inj (l := l) (a := k) (b := numI l q) (Nat.lt_of_lt_of_le hkm (cnt_le (by omega))) (num_lt_cnt hq (Nat.le_refl _)) e2
    rw [this, hf] at ej
    omega
  refine ⟨?_, hno⟩
  rcases h.hm.look (h.small hs) ((fsk l q).2.nm, (fsk l q).2.job) (by have := hs q hq; show (fsk l q).2.job ≤ 1000000; omega) with ⟨_, e⟩ | ⟨j, x, hx, ex, _⟩
  · exact e
  · exact absurd ex (hno x (List.mem_of_getElem? hx))
theorem UX.look_some (h : UX w wr tv cyc fr l q r kq bq P) (hs : ∀ i, i < l.length → (fsk l i).2.job ≤ 9999) (hq : q < l.length) (hk : numI l q < P.length) :
    (Instr.lookup 162 (.map (some (w.heap.size + 1 + 1))) (keyV ((fsk l q).2.nm, (fsk l q).2.job)) false).run Tryz.prog wr = .ok (ptrP P (numI l q)) wr := by
  rcases h.hm.look (h.small hs) ((fsk l q).2.nm, (fsk l q).2.job) (by have := hs q hq; show (fsk l q).2.job ≤ 1000000; omega) with ⟨hno, _⟩ | ⟨j, x, hx, ex, e⟩
  · exact absurd (keyK_num hq) (hno (keyK l (numI l q), P.getD (numI l q) 0) (List.mem_map.2 ⟨numI l q, List.mem_range.2 hk, rfl⟩))
  · obtain ⟨k, hkm, rfl⟩ := List.mem_map.1 (List.mem_of_getElem? hx)
    rw [List.mem_range, h.pl] at hkm
    have e2 : keyK l k = keyK l (numI l q) := by rw [keyK_num hq]; exact ex
    have hkk := h.pl
    rw [hkk] at hk
    have := keyK_inj (l := l) (a := k) (b := numI l q) (Nat.lt_of_lt_of_le hkm (cnt_le h.kl)) (Nat.lt_of_lt_of_le hk (cnt_le h.kl)) e2
    rw [e, this]
    rfl
theorem getD_left {P : List Nat} {A k : Nat} (h : k < P.length) : (P ++ [A]).getD k 0 = P.getD k 0 := by simp [List.getD_eq_getElem?_getD, List.getElem?_append_left h]
theorem getD_last {P : List Nat} {A : Nat} : (P ++ [A]).getD P.length 0 = A := by simp [List.getD_eq_getElem?_getD]
theorem keysL_snoc (l : List FSl) (P : List Nat) (A : Nat) : keysL l (P ++ [A]).length (P ++ [A]) = keysL l P.length P ++ [(keyK l P.length, A)] := by
  unfold keysL
  rw [List.length_append, List.length_singleton, List.range_succ, List.map_append]
  congr 1
  · refine List.map_congr_left (fun k hk => ?_)
    rw [getD_left (List.mem_range.1 hk)]
  · simp only [List.map_cons, List.map_nil]
    rw [getD_last]
theorem uvV_snoc {u A : Nat} (hq : q ≤ l.length) (hp : P.length = cntTo l q) : uvV l fr (P ++ [A]) q 0 u = uvV l fr P q 0 u := by
  unfold uvV
  rcases atTo_spec l fr u q with ⟨e, _⟩ | ⟨i, e, hi, _⟩
  · rw [e]
    simp only
    rw [if_neg (by omega), if_neg (by omega)]
  · rw [e]
    simp only
    unfold ptrP
    rw [getD_left]
    rw [hp]
    exact num_lt_cnt hi hq
/-- A job's first slice: the job is made, and put into the map. -/
theorem UX.new (G : Goes l cyc fr) (h : UX w wr tv cyc fr l q 0 q q P) (hs : ∀ i, i < l.length → (fsk l i).2.job ≤ 9999) (hn : l.length ≤ 300) (hq : q < l.length) (hf : jobI l (numI l q) = q) :
    ∃ w2, (Instr.mapUpdate 162 (.map (some (w.heap.size + 1 + 1))) (keyV ((fsk l q).2.nm, (fsk l q).2.job)) (.pointer (some ⟨wr.heap.size, 0, none⟩))).run Tryz.prog (wr.alloc (.cells (jobV (fsk l q).2.nm 0 0 0) 166)) = .ok () w2 ∧
      UX w w2 tv cyc fr l q 0 (q + 1) q (P ++ [wr.heap.size]) ∧ (wr.alloc (.cells (jobV (fsk l q).2.nm 0 0 0) 166)).grownBy w2 (some (w.heap.size + 1 + 1)) := by
  have h1 := h.keep (below_new wr (.cells (jobV (fsk l q).2.nm 0 0 0) 166))
  have hno := (h1.look_none hs hq rfl hf).2
  have hcl := cntTo_le l q
  have hpl := h.pl
  obtain ⟨w2, hrun, hkm, hg⟩ := h1.hm.store (h1.small hs) ((fsk l q).2.nm, (fsk l q).2.job) (by have := hs q hq; show (fsk l q).2.job ≤ 1000000; omega) hno (by simp [keysL]; omega) wr.heap.size
  refine ⟨w2, hrun, ?_, hg⟩
  have hM := h.hm.lt
  have hnum : numI l q = P.length := by
    have := (jobI_num hq).1
    rw [hf] at this
    rw [hpl]
    unfold numI
    rw [this]
    rfl
  have hc1 : cntTo l (q + 1) = cntTo l q + 1 := by rw [cntTo, if_pos (by have := (jobI_num hq).1; rw [hf] at this; exact this)]
  have blk : ∀ {X : Nat} {o : Obj}, (wr.alloc (.cells (jobV (fsk l q).2.nm 0 0 0) 166)).heap[X]? = some o → X ≠ w.heap.size + 1 + 1 → w2.heap[X]? = some o := by
    intro X o hX hne
    rw [hg.block X (blk_lt hX) (fun e => hne (by injection e))]
    exact hX
  obtain ⟨arr, hu1, hu2⟩ := h1.hu
  refine ⟨blk h1.hx (by omega), ⟨arr, blk hu1 (by omega), fun u hu => by rw [uvV_snoc (by omega) hpl]; exact hu2 u hu⟩, ?_, ?_, ?_, by simp; omega, hq, h1.bel.grown hg (by have := h1.bel.size; omega) (fun k hk => by injection hk with hk; omega)⟩
  · have ek : keyK l P.length = ((fsk l q).2.nm, (fsk l q).2.job) := by rw [← hnum, keyK_num hq]
    rw [keysL_snoc, ek]
    exact hkm
  · intro k hk
    simp only [List.length_append, List.length_singleton] at hk
    by_cases e : k < P.length
    · obtain ⟨a, b⟩ := h1.hj k e
      rw [getD_left e]
      exact ⟨a, blk b (by omega)⟩
    · have e2 : k = P.length := by omega
      subst e2
      rw [getD_last]
      refine ⟨hM, ?_⟩
      rw [← hnum, nmK_num hq, (had_zero G hq).2 hf]
      exact blk (blk_new wr _ _) (by omega)
  · intro a b ha hb e
    simp only [List.length_append, List.length_singleton] at ha hb
    have hlt : ∀ k, k < P.length → P.getD k 0 < wr.heap.size := fun k hk => blk_lt (h.hj k hk).2
    by_cases ea : a < P.length <;> by_cases eb : b < P.length
    · rw [getD_left ea, getD_left eb] at e
      exact h.inj a b ea eb e
    · have : b = P.length := by omega
      subst this
      rw [getD_left ea, getD_last] at e
      have := hlt a ea
      omega
    · have : a = P.length := by omega
      subst this
      rw [getD_left eb, getD_last] at e
      have := hlt b eb
      omega
    · omega
/-- The map's keys stand as they are where the job was there. -/
theorem UX.old (h : UX w wr tv cyc fr l q 0 q q P) (hq : q < l.length) (hf : jobI l (numI l q) ≠ q) : UX w wr tv cyc fr l q 0 (q + 1) q P := by
  have hc1 : cntTo l (q + 1) = cntTo l q := by rw [cntTo, if_neg (by have := (jobI_num hq).1; omega)]
  exact ⟨h.hx, h.hu, h.hm, h.hj, h.inj, by rw [hc1]; exact h.pl, hq, h.bel⟩
theorem UX.job (h : UX w wr tv cyc fr l q r (q + 1) bq P) : numI l q < P.length ∧ w.heap.size + 1 + 1 < P.getD (numI l q) 0 ∧ wr.heap[P.getD (numI l q) 0]? = some (.cells (jobV (nmK l (numI l q)) (hadK l (numI l q) bq) 0 0) 166 (0, 0)) := by
  have hk : numI l q < P.length := by rw [h.pl]; exact num_lt_cnt (Nat.lt_succ_self _) h.kl
  exact ⟨hk, h.hj _ hk⟩
/-- The job's budget grows by the slice's. -/
theorem UX.bud (h : UX w wr tv cyc fr l q 0 (q + 1) q P) (hq : q < l.length) : UX w (wr.setCell ⟨P.getD (numI l q) 0, 1, none⟩ (.int .i64 ((hadK l (numI l q) q + (fsk l q).2.bud : Nat)))) tv cyc fr l q 0 (q + 1) (q + 1) P := by
  obtain ⟨hk, hgt, hb⟩ := h.job
  obtain ⟨arr, hu1, hu2⟩ := h.hu
  refine ⟨by rw [Below.heap_setCell _ _ _ _ (by show w.heap.size ≠ P.getD (numI l q) 0; omega)]; exact h.hx, ⟨arr, by rw [Below.heap_setCell _ _ _ _ (by show w.heap.size + 1 ≠ P.getD (numI l q) 0; omega)]; exact hu1, hu2⟩,
    h.hm.keep (Below.heap_setCell _ _ _ _ (by show w.heap.size + 1 + 1 ≠ P.getD (numI l q) 0; omega)), ?_, h.inj, h.pl, h.kl, h.bel.setCell (by show w.heap.size ≤ P.getD (numI l q) 0; omega) _⟩
  intro k hkl
  refine ⟨(h.hj k hkl).1, ?_⟩
  obtain ⟨i, hi, ei, _⟩ := num_surj (l := l) (q + 1) hq k (by rw [← h.pl]; exact hkl)
  have hn := hadK_next (l := l) (i := i) (q := q) (by omega) hq
  rw [ei] at hn
  by_cases e : k = numI l q
  · rw [if_pos e.symm] at hn
    rw [hn]
    subst e
    rw [blk_set hb]
    rfl
  · rw [if_neg (fun x => e x.symm), Nat.add_zero] at hn
    rw [hn, Below.heap_setCell _ _ _ _ (by intro x; exact e (h.inj k _ hkl hk x))]
    exact (h.hj k hkl).2
theorem at_before (G : Goes l cyc fr) (hq : q < l.length) {u : Nat} (h1 : startI l fr q ≤ u) : atTo l fr u q = none := by
  rcases atTo_spec l fr u q with ⟨e, _⟩ | ⟨i, _, hi, hh, _⟩
  · exact e
  · exfalso
    obtain ⟨a, b⟩ := hh
    have : endI l fr (u / fr) i = stopI l fr i := by rw [← a]; rfl
    have := G.lt hi hq
    omega
/-- One unit more. -/
theorem UX.unit (G : Goes l cyc fr) (h : UX w wr tv cyc fr l q r (q + 1) (q + 1) P) (hq : q < l.length) (hr : r < (fsk l q).2.bud) : UX w (wr.setCell ⟨w.heap.size + 1, startI l fr q + r, none⟩ (ptrP P (numI l q))) tv cyc fr l q (r + 1) (q + 1) (q + 1) P := by
  obtain ⟨arr, hu1, hu2⟩ := h.hu
  have hM := h.hm
  refine ⟨by rw [Below.heap_setCell _ _ _ _ (by show w.heap.size ≠ w.heap.size + 1; omega)]; exact h.hx, ⟨arr.setIfInBounds (startI l fr q + r) (ptrP P (numI l q)), blk_set hu1 _ _, ?_⟩,
    h.hm.keep (Below.heap_setCell _ _ _ _ (by show w.heap.size + 1 + 1 ≠ w.heap.size + 1; omega)), ?_, h.inj, h.pl, h.kl, h.bel.setCell (by show w.heap.size ≤ w.heap.size + 1; omega) _⟩
  · intro u hu
    have hfin := G.fin_cyc hq
    have hsz : startI l fr q + r < arr.size := by
      have := hu2 (startI l fr q + r) (by unfold stopI at hfin; omega)
      exact (Array.getElem?_eq_some_iff.1 this).1
    by_cases e : u = startI l fr q + r
    · subst e
      have : (arr.setIfInBounds (startI l fr q + r) (ptrP P (numI l q)))[startI l fr q + r]? = some (ptrP P (numI l q)) := by simp [hsz]
      rw [this]
      unfold uvV
      rw [at_before G hq (by omega)]
      simp only
      rw [if_pos (by omega)]
    · have : (arr.setIfInBounds (startI l fr q + r) (ptrP P (numI l q)))[u]? = arr[u]? := by
        rw [Array.getElem?_setIfInBounds_ne (fun x => e x.symm)]
      rw [this, hu2 u hu]
      unfold uvV
      cases atTo l fr u q with
      | some i => rfl
      | none =>
        simp only
        by_cases e2 : startI l fr q ≤ u ∧ u < startI l fr q + r
        · rw [if_pos e2, if_pos (by omega)]
        · rw [if_neg e2, if_neg (by omega)]
  · intro k hk
    obtain ⟨a, b⟩ := h.hj k hk
    exact ⟨a, by rw [Below.heap_setCell _ _ _ _ (by show P.getD k 0 ≠ w.heap.size + 1; omega)]; exact b⟩
/-- The slice is done. -/
theorem UX.next (G : Goes l cyc fr) (h : UX w wr tv cyc fr l q (fsk l q).2.bud (q + 1) (q + 1) P) (hq : q < l.length) : UX w wr tv cyc fr l (q + 1) 0 (q + 1) (q + 1) P := by
  obtain ⟨arr, hu1, hu2⟩ := h.hu
  refine ⟨h.hx, ⟨arr, hu1, fun u hu => ?_⟩, h.hm, h.hj, h.inj, h.pl, h.kl, h.bel⟩
  rw [hu2 u hu]
  unfold uvV
  rw [atTo]
  cases e : atTo l fr u q with
  | some i => rfl
  | none =>
    simp only
    have hno : ∀ k, k < q → ¬ hitI l fr u k := by
      rcases atTo_spec l fr u q with ⟨_, hn⟩ | ⟨i, e2, _⟩
      · exact hn
      · rw [e] at e2
        cases e2
    have hiff : hitI l fr u q ↔ (startI l fr q ≤ u ∧ u < startI l fr q + (fsk l q).2.bud) := by
      constructor
      · intro hh
        obtain ⟨a, b⟩ := hh
        have := used_low (l := l) (fr := fr) (u := u) q (by omega) hno
        have e3 : endI l fr (u / fr) q = stopI l fr q := by rw [← a]; rfl
        refine ⟨?_, by rw [e3] at b; exact b⟩
        unfold startI
        rw [a]
        exact this
      · rintro ⟨a, b⟩
        exact G.hit hq a b
    by_cases e4 : hitI l fr u q
    · rw [if_pos (hiff.1 e4), if_pos e4]
    · rw [if_neg (fun x => e4 (hiff.2 x)), if_neg e4]
      simp only
      rw [if_neg (by omega)]
end
end Go.Proofs.YtbdffcjganlblaaGreatDoor

namespace Go.Proofs.YtbdffcjganlblaaGreatDoor
open Go.RowKit Go.Maps
set_option linter.unusedVariables false
set_option linter.unusedSimpArgs false

theorem Tryz.infoJP : (Tryz.prog.info? 122).map (fun i => (i.zero, i.size, i.bytes)) = some (some (.pointer none), 1, 8) := by kernel_rfl
def nilsA (c : Nat) : Array Value := madeCells (Value.pointer none).cells c
theorem nilsA_at (c j : Nat) (h : j < c) : (nilsA c)[j]? = some (.pointer none) := by
  simp [nilsA, madeCells, h, Value.cells, Nat.mod_one]
theorem make_jobs (c : Nat) (hc : c ≤ 1000) (w : World) : (Instr.makeSlice 119 (.int .i64 c) (.int .i64 c)).run Tryz.prog w = .ok (.slice (some ⟨w.heap.size, 0, none⟩) c c) (w.alloc (.cells (nilsA c) 122)) := by
  obtain ⟨i0, hi, hz0, hz1, hz2⟩ := info_parts Tryz.infoJP
  have := run_make (P := Tryz.prog) w 119 122 i0 _ Tryz.underlying119 hi hz0 .i64 .i64 c c (by omega) (by omega) (by rw [hz2]; omega) (by omega)
  rw [hz1] at this
  simpa [nilsA] using this
theorem UX.start (w : World) (tv : Array Value) (cyc fr : Nat) (l : List FSl) : UX w (((w.alloc (.cells tv 61)).alloc (.cells (nilsA cyc) 122)).alloc (.map #[] 0)) tv cyc fr l 0 0 0 0 [] := by
  have h0 := blk_new w tv 61
  have h1 := blk_new (w.alloc (.cells tv 61)) (nilsA cyc) 122
  simp only [World.size_alloc] at h1
  have b1 := below_new (w.alloc (.cells tv 61)) (.cells (nilsA cyc) 122)
  have b2 := below_new ((w.alloc (.cells tv 61)).alloc (.cells (nilsA cyc) 122)) (.map #[] 0)
  have hm := KMap.made ((w.alloc (.cells tv 61)).alloc (.cells (nilsA cyc) 122))
  simp only [World.size_alloc] at hm
  refine ⟨blk_keep (blk_keep h0 b1) b2, ⟨nilsA cyc, blk_keep h1 b2, fun u hu => ?_⟩, hm, fun k hk => by simp at hk, fun a b ha => by simp at ha, rfl, Nat.zero_le _, ((below_new w _).alloc (by simp) _).alloc (by simp; omega) _⟩
  rw [nilsA_at cyc u hu]
  unfold uvV
  simp only [atTo]
  rw [if_neg (by omega)]

theorem eq_nil (o : Option Addr) (w : World) : (binOp .eql 122 (.pointer o) (.pointer none)).run Tryz.prog w = .ok (.bool (o == none)) w := by
  have h : ∀ d : Nat, (Op.equalIn (d + 1) 122 (.pointer o) (.pointer none)).run Tryz.prog w = .ok (o == none) w := fun d => by
    cases o <;> simp [Op.equalIn, run_underlying Tryz.underlying122, sizeOf, typeInfo]
  simp only [binOp]
  simp [Op.equal, Op.maxDepth, h 9999]
theorem hadK_small {t : Tb} (h : Sound t) (k q : Nat) (hq : q ≤ (flatF 0 t.fs).length) : hadK (flatF 0 t.fs) k q ≤ 599940 := by
  have := spotTo_cost (fun i hi => (job_small h i hi).2.2) (fsk (flatF 0 t.fs) (jobI (flatF 0 t.fs) k)).2.nm (fsk (flatF 0 t.fs) (jobI (flatF 0 t.fs) k)).2.job q hq
  have h2 := flat_len h
  have h3 : q * 9999 ≤ 60 * 9999 := Nat.mul_le_mul_right _ (by omega)
  unfold hadK
  omega

set_option maxRecDepth 100000 in
set_option maxHeartbeats 8000000 in
theorem units_any (t : Tb) (a : Option Addr) (cc : Nat) (w : World) (hr : FvA w a t.fs) (hS : Sound t) :
    Calls Tryz.prog 75 #[.agg #[.int .i64 t.cyc, .int .i64 t.fr, .slice a t.fs.length cc]] w fun e w' => ∃ P, e = .returned (.slice (some ⟨w.heap.size + 1, 0, none⟩) t.cyc t.cyc) ∧ UX w w' #[.int .i64 t.cyc, .int .i64 t.fr, .slice a t.fs.length cc] t.cyc t.fr (flatF 0 t.fs) (flatF 0 t.fs).length 0 (flatF 0 t.fs).length (flatF 0 t.fs).length P := by
  obtain ⟨f1, f2, n1, n2, _⟩ := hS.frames
  have hc1 := hS.c1
  have hc2 := hS.c2
  have hll := flat_len hS
  have hG := hide (goes_of_sound hS)
  have Hsm := hide (job_small hS)
  have Hbl := hide (fun j (hj : j < t.fs.length) => base_le hj)
  have Hhad := hide (fun k q hq => hadK_small hS k q hq)
  have H0 := hide (UX.start w #[.int .i64 t.cyc, .int .i64 t.fr, .slice a t.fs.length cc] t.cyc t.fr (flatF 0 t.fs))
  have hmk := make_jobs t.cyc (by omega)
  have hmm := @run_makeMap Tryz.prog
  have Hr := hide hr
  have Hba := hide (base_all t.fs)
  have HJs : Hid (∀ i, i < (flatF 0 t.fs).length → (fsk (flatF 0 t.fs) i).2.job ≤ 9999) := fun i hi => (Hsm.out i hi).1
  clear hr hS
  go_enter Tryz.func75, Tryz.ntmps75
  go_wp2_with fail
  clear hmk hmm
  go_loopw [18] (fun i wr => ∃ (j : Nat) (P : List Nat), j ≤ t.fs.length ∧ i = .int .i64 j ∧ UX w wr #[.int .i64 t.cyc, .int .i64 t.fr, .slice a t.fs.length cc] t.cyc t.fr (flatF 0 t.fs) (baseJ t.fs j) 0 (baseJ t.fs j) (baseJ t.fs j) P) (fun i _ => 200 - (intOf i).toNat)
  case atStart => exact ⟨0, [], by omega, rfl, by rw [base_zero]; exact H0.out⟩
  case round =>
    clear H0
    obtain ⟨j, P, hj, rfl, hU⟩ := hrel
    by_cases hlt : j < t.fs.length
    · have hlt' : (j : Int) < t.fs.length := by omega
      obtain ⟨g, rfl, hg, hF⟩ := Hr.out (by omega)
      obtain ⟨fa, fc, hfc0, hfa⟩ := hF j hlt
      have hfc := (hU.bel.cell (p := ⟨g, j, none⟩) hg).trans hfc0
      have x := blk_cell hU.hx
      have hbl := Hbl.out j hlt
      have hjf : j * t.fr ≤ 3600 := Nat.le_trans (Nat.mul_le_mul (show j ≤ 60 by omega) f2) (by omega)
      have hmul : ((j : Int) * (t.fr : Int)) = ((j * t.fr : Nat) : Int) := by rw [Int.natCast_mul]
      have hm1 : 0 ≤ (j : Int) * (t.fr : Int) := by omega
      have hm2 : (j : Int) * (t.fr : Int) ≤ 3600 := by omega
      have Hmul : Hid (Value.int .i64 ((j : Int) * (t.fr : Int)) = .int .i64 (atK t.fs t.fr j 0)) := by unfold Hid; rw [hmul, atK_zero (by omega)]
      have HFA := hide hfa
      have HU := hide hU
      have hsz := hU.bel.size
      clear hfc0 hF hU hfa hmul
      go_wp2_with fail
      go_loopw [7, 29] (fun av i wr => ∃ (k : Nat) (P : List Nat), k ≤ (frk t.fs j).length ∧ i = .int .i64 k ∧ av = .int .i64 (atK t.fs t.fr j k) ∧ UX w wr #[.int .i64 t.cyc, .int .i64 t.fr, .slice (some ⟨g, 0, none⟩) t.fs.length cc] t.cyc t.fr (flatF 0 t.fs) (baseJ t.fs j + k) 0 (baseJ t.fs j + k) (baseJ t.fs j + k) P) (fun _ i _ => 200 - (intOf i).toNat)
      case atStart => exact ⟨0, P, by omega, rfl, Hmul.out, HU.out⟩
      case round =>
        clear HU x hfc hsz
        obtain ⟨k, P, hk, rfl, rfl, hU⟩ := hrel
        by_cases hkl : k < (frk t.fs j).length
        · have hkl' : (k : Int) < (frk t.fs j).length := by omega
          obtain ⟨gf, rfl, hgf, hrow⟩ := HFA.out (by omega)
          obtain ⟨r0, r1, r2⟩ := hrow.below hU.bel hgf k hkl
          have hq : baseJ t.fs j + k < (flatF 0 t.fs).length := by omega
          have hfq := flat_at hlt hkl
          have hst := atK_start (fr := t.fr) hlt hkl
          have hnx := atK_next (fr := t.fr) hlt hkl
          have hsm := Hsm.out _ hq
          rw [hfq] at hsm
          obtain ⟨hjb, hbd, _⟩ := hsm
          have hfin := hG.out.fin_cyc hq
          unfold stopI at hfin
          rw [hst, hfq] at hfin
          simp only at hjb hbd hfin
          have HU := hide hU
          have hsz := hU.bel.size
          have Hnx := hide hnx
          have Hst := hide hst
          have Hfq := hide hfq
          clear hU hrow hnx hst hfq
          generalize hQ : baseJ t.fs j + k = q at *
          have HQ := hide hQ
          clear hQ
          generalize hY : slk (frk t.fs j) k = y at *
          clear hY
          generalize hT : atK t.fs t.fr j k = T at *
          clear hT
          obtain ⟨o, hlook, ho⟩ : ∃ o : Option Addr, (Instr.lookup 162 (.map (some (w.heap.size + 1 + 1))) (.agg #[.int .u8 y.nm.toNat, .int .i64 y.job]) false).run Tryz.prog ((wr.alloc (.cells #[.int .u8 y.nm.toNat, .int .i64 y.job, .int .i64 y.bud] 106)).alloc (.cells #[.int .u8 y.nm.toNat, .int .i64 y.job] 164)) = .ok (.pointer o) ((wr.alloc (.cells #[.int .u8 y.nm.toNat, .int .i64 y.job, .int .i64 y.bud] 106)).alloc (.cells #[.int .u8 y.nm.toNat, .int .i64 y.job] 164)) ∧
              Hid ((o = none ∧ jobI (flatF 0 t.fs) (numI (flatF 0 t.fs) q) = q) ∨ (o ≠ none ∧ jobI (flatF 0 t.fs) (numI (flatF 0 t.fs) q) ≠ q)) := by
            have h2 := (HU.out.keep (below_new wr (.cells #[.int .u8 y.nm.toNat, .int .i64 y.job, .int .i64 y.bud] 106))).keep (below_new _ (.cells #[.int .u8 y.nm.toNat, .int .i64 y.job] 164))
            by_cases hf : jobI (flatF 0 t.fs) (numI (flatF 0 t.fs) q) = q
            · have := (h2.look_none HJs.out hq rfl hf).1
              rw [Hfq.out] at this
              exact ⟨none, this, .inl ⟨rfl, hf⟩⟩
            · have h3 := h2.old hq hf
              have := h3.look_some HJs.out hq h3.job.1
              rw [Hfq.out] at this
              exact ⟨_, this, .inr ⟨by simp, hf⟩⟩
          have hnil := eq_nil o
          have hMw := HU.out.hm.lt
          go_upto_if 41 with (first | (at_lookup; refine wpList_look_at _ rfl _ _ _ rfl _ _ _ rfl rfl hlook ?_) | fail)
          go_cut [7] (fun av wc => av = .int .i64 T ∧ wc.heap[wr.heap.size]? = some (.cells #[.int .u8 y.nm.toNat, .int .i64 y.job, .int .i64 y.bud] 106 (0, 0)) ∧ wc.heap[wr.heap.size + 1]? = some (.cells #[.int .u8 y.nm.toNat, .int .i64 y.job] 164 (0, 0)) ∧ ∃ P', UX w wc #[.int .i64 t.cyc, .int .i64 t.fr, .slice (some ⟨g, 0, none⟩) t.fs.length cc] t.cyc t.fr (flatF 0 t.fs) q 0 (q + 1) q P')
          case first =>
            have hU2 := (HU.out.keep (below_new wr (.cells #[.int .u8 y.nm.toNat, .int .i64 y.job, .int .i64 y.bud] 106))).keep (below_new _ (.cells #[.int .u8 y.nm.toNat, .int .i64 y.job] 164))
            have s1 := blk_keep (blk_new wr #[.int .u8 y.nm.toNat, .int .i64 y.job, .int .i64 y.bud] 106) (below_new _ (.cells #[.int .u8 y.nm.toNat, .int .i64 y.job] 164))
            have s2 := blk_new (wr.alloc (.cells #[.int .u8 y.nm.toNat, .int .i64 y.job, .int .i64 y.bud] 106)) #[.int .u8 y.nm.toNat, .int .i64 y.job] 164
            have c10 := blk_cell s2 0
            have c11 := blk_cell s2 1
            have c00 := blk_cell s1 0
            simp only [World.size_alloc] at s2 c10 c11
            have S1 := hide s1
            have S2 := hide s2
            have HU2 := hide hU2
            clear hlook hnil s1 s2 hU2 HU r0 r1 r2
            rcases ho.out with ⟨rfl, hf⟩ | ⟨hne, hf⟩
            · obtain ⟨w3, hrun, hU3, hg3⟩ := UX.new hG.out HU2.out HJs.out (by omega) hq hf
              rw [Hfq.out] at hrun hg3
              have HU3 := hide hU3
              have HG3 := hide hg3
              have hrun' : (Instr.mapUpdate 162 (.map (some (w.heap.size + 1 + 1))) (.agg #[.int .u8 y.nm.toNat, .int .i64 y.job]) (.pointer (some ⟨wr.heap.size + 1 + 1, 0, none⟩))).run Tryz.prog (((wr.alloc (.cells #[.int .u8 y.nm.toNat, .int .i64 y.job, .int .i64 y.bud] 106)).alloc (.cells #[.int .u8 y.nm.toNat, .int .i64 y.job] 164)).alloc (.cells #[.int .u8 y.nm.toNat, .int .i64 0, .int .i64 0, .int .i64 0] 166)) = .ok () w3 := by
                simp only [World.size_alloc] at hrun
                exact hrun
              have hM := HU2.out.hm.lt
              clear hrun hU3 hg3 ho hf
              go_wp2_with (first | (at_mapUpdate; refine wpList_store_at _ rfl _ _ _ _ rfl _ _ _ rfl rfl rfl w3 hrun' ?_) | fail)
              go_meet
              case rel =>
                refine ⟨rfl, ?_, ?_, _, HU3.out⟩
                · rw [HG3.out.block wr.heap.size (by simp; omega) (fun e => by injection e with e; omega), Below.heap_alloc _ _ _ (by simp; omega)]
                  exact S1.out
                · rw [HG3.out.block (wr.heap.size + 1) (by simp) (fun e => by injection e with e; omega), Below.heap_alloc _ _ _ (by simp)]
                  exact S2.out
            · obtain ⟨ad, rfl⟩ := Option.ne_none_iff_exists'.1 hne
              have HU3 := hide (HU2.out.old hq hf)
              clear ho hf hne
              go_wp2_with fail
              go_meet
              case rel => exact ⟨rfl, S1.out, S2.out, _, HU3.out⟩
          case rest =>
            clear hlook hnil ho HU r0 r1 r2 hsz
            obtain ⟨rfl, s1, s2, P', hU⟩ := hcut
            generalize wr.heap.size = S0 at *
            obtain ⟨hk1, hk2, hk3⟩ := hU.job
            have hlk := hU.look_some HJs.out hq hk1
            rw [Hfq.out] at hlk
            have hl1 : (Instr.lookup 162 (.map (some (w.heap.size + 1 + 1))) (.agg #[.int .u8 y.nm.toNat, .int .i64 y.job]) false).run Tryz.prog wc.drew = .ok (.pointer (some ⟨P'.getD (numI (flatF 0 t.fs) q) 0, 0, none⟩)) wc.drew := by
              have h0 : UX w wc.drew #[.int .i64 t.cyc, .int .i64 t.fr, .slice (some ⟨g, 0, none⟩) t.fs.length cc] t.cyc t.fr (flatF 0 t.fs) q 0 (q + 1) q P' := ⟨hU.hx, hU.hu, hU.hm, hU.hj, hU.inj, hU.pl, hU.kl, hU.bel.drew⟩
              have := h0.look_some HJs.out hq hk1
              rw [Hfq.out] at this
              exact this
            have c02 := blk_cell s1 2
            have c10 := blk_cell s2 0
            have c11 := blk_cell s2 1
            have j1 : wc.cell? ⟨P'.getD (numI (flatF 0 t.fs) q) 0, 1, none⟩ = some (.int .i64 (hadK (flatF 0 t.fs) (numI (flatF 0 t.fs) q) q)) := by rw [blk_cell hk3]; rfl
            have jf := blk_frozen hk3
            have hhb := Hhad.out (numI (flatF 0 t.fs) q) q (by omega)
            have hUb := hU.bud hq
            rw [Hfq.out] at hUb
            simp only at hUb
            have e0 : ((hadK (flatF 0 t.fs) (numI (flatF 0 t.fs) q) q + y.bud : Nat) : Int) = (hadK (flatF 0 t.fs) (numI (flatF 0 t.fs) q) q : Int) + y.bud := by omega
            rw [e0] at hUb
            have HUb := hide hUb
            have hKJ : S0 + 1 ≠ P'.getD (numI (flatF 0 t.fs) q) 0 := by
              intro e
              rw [← e, s2] at hk3
              simp at hk3
            have S2 : Hid ((wc.setCell ⟨P'.getD (numI (flatF 0 t.fs) q) 0, 1, none⟩ (.int .i64 ((hadK (flatF 0 t.fs) (numI (flatF 0 t.fs) q) q : Int) + y.bud))).heap[S0 + 1]? = some (.cells #[.int .u8 y.nm.toNat, .int .i64 y.job] 164 (0, 0))) := by
              unfold Hid
              rw [Below.heap_setCell _ _ _ _ hKJ]
              exact s2
            have hSJ : S0 ≠ P'.getD (numI (flatF 0 t.fs) q) 0 := by
              intro e
              rw [← e, s1] at hk3
              simp at hk3
            have hSJ2 : ¬ P'.getD (numI (flatF 0 t.fs) q) 0 = S0 := fun e => hSJ e.symm
            have hSJ1 : ¬ S0 = P'.getD (numI (flatF 0 t.fs) q) 0 := hSJ
            clear hU hk2 hk3 hUb e0 s1 s2
            generalize hadK (flatF 0 t.fs) (numI (flatF 0 t.fs) q) q = HD at *
            generalize hPJ : P'.getD (numI (flatF 0 t.fs) q) 0 = J at *
            have HPJ := hide hPJ
            clear hPJ
            have hl2 := hide hlk
            clear hlk
            go_wp2_with fail
            go_region
            all_goals
              have HU3 := hide HUb.out.drew
              have S3 : Hid ((wc.setCell ⟨J, 1, none⟩ (.int .i64 ((HD : Int) + y.bud))).drew.heap[S0 + 1]? = some (.cells #[.int .u8 y.nm.toNat, .int .i64 y.job] 164 (0, 0))) := S2.out
              have hs2 : (wc.setCell ⟨J, 1, none⟩ (.int .i64 ((HD : Int) + y.bud))).drew.cell? ⟨S0, 2, none⟩ = some (.int .i64 y.bud) := by
                show (wc.setCell ⟨J, 1, none⟩ (.int .i64 ((HD : Int) + y.bud))).cell? ⟨S0, 2, none⟩ = _
                rw [set_other (by intro e; injection e with e1 _; exact hSJ2 e1)]
                exact c02
              generalize (wc.setCell ⟨J, 1, none⟩ (.int .i64 ((HD : Int) + y.bud))).drew = W3 at *
              clear hl1 hl2 c02 c10 c11 j1 jf hhb HUb S2 hSJ hSJ1 hSJ2 hKJ
              go_wp2_with fail
              clear hs2
              go_loopw [7, 61] (fun av i wr => ∃ r Z : Nat, r ≤ y.bud ∧ i = .int .i64 r ∧ av = .int .i64 Z ∧ Hid (Z = T + r) ∧ wr.heap[S0 + 1]? = some (.cells #[.int .u8 y.nm.toNat, .int .i64 y.job] 164 (0, 0)) ∧ UX w wr #[.int .i64 t.cyc, .int .i64 t.fr, .slice (some ⟨g, 0, none⟩) t.fs.length cc] t.cyc t.fr (flatF 0 t.fs) q r (q + 1) (q + 1) P') (fun _ i _ => 200 - (intOf i).toNat)
              case atStart => exact ⟨0, T, by omega, rfl, rfl, rfl, S3.out, HU3.out⟩
              case round =>
                clear S3 HU3
                obtain ⟨r, Z, hr, rfl, rfl, hZ, hK, hU⟩ := hrel
                by_cases hrl : r < y.bud
                · have hrl' : (r : Int) < y.bud := by omega
                  have hZ1 : (Z : Int) < t.cyc := by have := hZ.out; omega
                  have hlk := hU.look_some HJs.out hq hU.job.1
                  rw [Hfq.out] at hlk
                  have hlk' : (Instr.lookup 162 (.map (some (w.heap.size + 1 + 1))) (.agg #[.int .u8 y.nm.toNat, .int .i64 y.job]) false).run Tryz.prog wr = .ok (.pointer (some ⟨J, 0, none⟩)) wr := by rw [← HPJ.out]; exact hlk
                  have k0 := blk_cell hK 0
                  have k1 := blk_cell hK 1
                  obtain ⟨arr, ha1, ha2⟩ := hU.hu
                  have hcz := blk_cell ha1 Z
                  rw [ha2 Z (by have := hZ.out; omega)] at hcz
                  have hfz := blk_frozen ha1 Z
                  have hUn := hU.unit hG.out hq (by rw [Hfq.out]; exact hrl)
                  rw [Hst.out, ← hZ.out] at hUn
                  unfold ptrP at hUn
                  rw [HPJ.out] at hUn
                  have hne : S0 + 1 ≠ w.heap.size + 1 := by
                    intro e
                    rw [e, ha1] at hK
                    simp at hK
                  have HUn := hide hUn
                  have HK2 : Hid ((wr.setCell ⟨w.heap.size + 1, Z, none⟩ (.pointer (some ⟨J, 0, none⟩))).heap[S0 + 1]? = some (.cells #[.int .u8 y.nm.toNat, .int .i64 y.job] 164 (0, 0))) := by
                    unfold Hid
                    rw [Below.heap_setCell _ _ _ _ hne]
                    exact hK
                  clear hU hK ha1 ha2 hUn hlk hne
                  go_wp2_with (first | (at_lookup; refine wpList_look_at _ rfl _ _ _ rfl _ _ _ rfl rfl hlk' ?_) | fail)
                  go_roundw
                  case rel => exact ⟨r + 1, Z + 1, by omega, by go_num, by go_num, by have := hZ.out; unfold Hid; omega, HK2.out, HUn.out⟩
                  case measure => simp [intOf]; omega
                · have hre : r = y.bud := by omega
                  subst hre
                  have hrl' : ¬ (y.bud : Int) < y.bud := by omega
                  have HUn : Hid (UX w wr #[.int .i64 t.cyc, .int .i64 t.fr, .slice (some ⟨g, 0, none⟩) t.fs.length cc] t.cyc t.fr (flatF 0 t.fs) (q + 1) 0 (q + 1) (q + 1) P') := by
                    refine UX.next hG.out ?_ hq
                    rw [Hfq.out]
                    exact hU
                  clear hU hK
                  go_wp2_with fail
                  go_roundw
                  case rel => exact ⟨k + 1, P', by omega, by go_num, by rw [Hnx.out, hZ.out], by rw [← Nat.add_assoc, HQ.out]; exact HUn.out⟩
                  case measure => simp [intOf]; omega
        · have hkl' : ¬ (k : Int) < (frk t.fs j).length := by omega
          have hke : k = (frk t.fs j).length := by omega
          have HU2 : Hid (UX w wr #[.int .i64 t.cyc, .int .i64 t.fr, .slice (some ⟨g, 0, none⟩) t.fs.length cc] t.cyc t.fr (flatF 0 t.fs) (baseJ t.fs (j + 1)) 0 (baseJ t.fs (j + 1)) (baseJ t.fs (j + 1)) P) := by
            unfold Hid
            rw [base_next hlt, ← hke]
            exact hU
          clear hU hke
          go_wp2_with fail
          go_roundw
          case rel => exact ⟨j + 1, P, by omega, by go_num, HU2.out⟩
          case measure => simp [intOf]; omega
    · have hlt' : ¬ (j : Int) < t.fs.length := by omega
      have hje : j = t.fs.length := by omega
      subst hje
      rw [Hba.out] at hU
      have HU := hide hU
      clear hU
      go_wp2
      go_ret
      exact ⟨rfl, P, HU.out⟩
end Go.Proofs.YtbdffcjganlblaaGreatDoor
