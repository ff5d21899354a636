/-
  Own work. The program's run: the builder that lies within it.
-/
import Derived.Test.YtbdffcjganlblaaGreatDoorTabCtoTbJ
import Derived.Test.YtbdffcjganlblaaGreatDoorProgItoProgK
import Derived.Test.YtbdffcjganlblaaGreatDoorRunBtoRunD
import Derived.Test.YtbdffcjganlblaaGreatDoorPnNtoRunA
import Derived.Deep.RegionHeldLaw
import Derived.Test.YtbdffcjganlblaaGreatDoorProgBtoProgC
namespace Go.Proofs.YtbdffcjganlblaaGreatDoor
open Go.RowKit
set_option linter.unusedVariables false
set_option linter.unusedSimpArgs false

theorem Tryz.sizeBd : (Tryz.prog.info? 109).map (·.size) = some 2 := by kernel_rfl
theorem Tryz.cellsU8 : Tryz.prog.cellsOf 5 = 1 := by kernel_rfl
theorem Tryz.liesRun : liesAt Tryz.prog Tryz.prog.depth 118 (4 / Tryz.prog.cellsOf 118) 2 109 1 = true := by kernel_rfl

/-- Old blocks stand, but for R and rows of bytes. -/
structure KeepR (R : Nat) (w w' : World) : Prop where
  size : w.heap.size ≤ w'.heap.size
  block : ∀ i, i < w.heap.size → i ≠ R → (∀ c fr, w.heap[i]? ≠ some (.cells c 5 fr)) → w'.heap[i]? = w.heap[i]?
theorem KeepR.refl (R : Nat) (w : World) : KeepR R w w := ⟨Nat.le_refl _, fun _ _ _ _ => rfl⟩
theorem KeepR.trans {R : Nat} {a b c : World} (h : KeepR R a b) (k : KeepR R b c) : KeepR R a c :=
  ⟨Nat.le_trans h.size k.size, fun i hi hR hu => by
    have e := h.block i hi hR hu
    rw [k.block i (Nat.lt_of_lt_of_le hi h.size) hR (fun c fr => by rw [e]; exact hu c fr), e]⟩
theorem KeepR.set {R : Nat} {a b : World} (h : KeepR R a b) (o : Nat) (v : Value) : KeepR R a (b.setCell ⟨R, o, none⟩ v) :=
  h.trans ⟨by simp [World.setCell], fun i hi hR _ => Below.heap_setCell _ _ _ _ hR⟩
theorem KeepR.grown {R : Nat} {a b b' : World} (h : KeepR R a b) {B : Nat} {v : Value} {n : Nat} {xs : List Value} (hown : b.ownsRow B 5 1 v n xs) (hg : b.grownBy b' v.ownBlock) : KeepR R a b' :=
  h.trans ⟨hg.size, fun i hi hR hu => hg.block i hi (fun e => by
    rcases hown.2 with ⟨rfl, _⟩ | ⟨g, cap, cur, rfl, _, hgb, _⟩
    · simp [Value.ownBlock] at e
    · simp only [Value.ownBlock, Option.some.injEq] at e
      subst e
      exact hu _ _ hgb)⟩
theorem KeepR.alloc {R : Nat} {a b : World} (h : KeepR R a b) (o : Obj) : KeepR R a (b.alloc o) :=
  h.trans ⟨by simp, fun i hi _ _ => Below.heap_alloc _ _ _ hi⟩
theorem KeepR.blk {R : Nat} {a b : World} (h : KeepR R a b) {i : Nat} {c : Array Value} {ty : TypeId} {fr : Nat × Nat} (hb : a.heap[i]? = some (.cells c ty fr)) (hR : i ≠ R) (ht : ty ≠ 5) : b.heap[i]? = some (.cells c ty fr) := by
  rw [h.block i (blk_lt hb) hR (fun c' fr' e => ?_)]
  · exact hb
  · rw [hb] at e
    simp at e
    exact ht e.2.1

/-- The run's own variable in block R: its costs, how many jobs have begun, its builder. -/
def RunAt (B R : Nat) (cs : Value) (bg : Int) (p : Value) (L : List UInt8) (w : World) : Prop :=
  B ≤ R ∧ ∃ v, w.heap[R]? = some (.cells #[cs, .int .i64 bg, p, v] 118 (0, 0)) ∧ w.ownsRow B 5 1 v L.length (bV L)
def IsRun (B R : Nat) (cs : Value) (bg : Int) (L : List UInt8) (w : World) : Prop :=
  RunAt B R cs bg (.pointer none) L w ∨ RunAt B R cs bg (.pointer (some ⟨R, 2, none⟩)) L w
theorem run_ne {w : World} {B R : Nat} {v : Value} {n : Nat} {xs : List Value} {c : Array Value} {fr : Nat × Nat} (hown : w.ownsRow B 5 1 v n xs) (hb : w.heap[R]? = some (.cells c 118 fr)) : v.ownBlock ≠ some R := Lib.ownBlock_ne hown hb (by decide)
theorem RunAt.set {B R : Nat} {cs p : Value} {bg : Int} {L : List UInt8} {w : World} (h : RunAt B R cs bg p L w) (bg' : Int) : RunAt B R cs bg' p L (w.setCell ⟨R, 1, none⟩ (.int .i64 bg')) := by
  obtain ⟨hB, v, hb, hown⟩ := h
  refine ⟨hB, v, by rw [blk_set hb]; rfl, ?_⟩
  exact hown.kept (row := some R) ⟨rfl, rfl, rfl, by simp [World.setCell], fun k _ hk => Below.heap_setCell _ _ _ _ (fun e => hk (by simp [e]))⟩ (Or.inr (run_ne hown hb))
theorem RunAt.self {B R : Nat} {cs p : Value} {bg : Int} {L : List UInt8} {w : World} (h : RunAt B R cs bg p L w) (p' : Value) : RunAt B R cs bg p' L (w.setCell ⟨R, 2, none⟩ p') := by
  obtain ⟨hB, v, hb, hown⟩ := h
  refine ⟨hB, v, by rw [blk_set hb]; rfl, ?_⟩
  exact hown.kept (row := some R) ⟨rfl, rfl, rfl, by simp [World.setCell], fun k _ hk => Below.heap_setCell _ _ _ _ (fun e => hk (by simp [e]))⟩ (Or.inr (run_ne hown hb))
theorem RunAt.cells {B R : Nat} {cs p : Value} {bg : Int} {L : List UInt8} {w : World} (h : RunAt B R cs bg p L w) : w.cell? ⟨R, 0, none⟩ = some cs ∧ w.cell? ⟨R, 1, none⟩ = some (.int .i64 bg) ∧ w.cell? ⟨R, 2, none⟩ = some p ∧ (∀ o, w.frozen? ⟨R, o, none⟩ = false) ∧ w.shape? R = some (118, 4) := by
  obtain ⟨hB, v, hb, hown⟩ := h
  refine ⟨by rw [blk_cell hb]; rfl, by rw [blk_cell hb]; rfl, by rw [blk_cell hb]; rfl, blk_frozen hb, by simp [World.shape?, hb]⟩

set_option maxHeartbeats 1000000 in
set_option maxRecDepth 100000 in
theorem copyCheck_used (R : Nat) (w : World) (h0 : w.cell? ⟨R, 2, none⟩ = some (.pointer (some ⟨R, 2, none⟩))) :
    Calls Tryz.prog 111 #[.pointer (some ⟨R, 2, none⟩)] w fun e w' => e = .returned (.tuple #[]) ∧ w' = w := by
  obtain ⟨j, hj, _⟩ := Option.map_eq_some_iff.1 Tryz.sizeBd
  go_enter Tryz.func111, Tryz.ntmps111
  go_wp2
  rw [Lib.run_neq_ptr_same w _ Tryz.underlying107 hj]
  go_wp2
  go_end0
  exact ⟨rfl, rfl⟩

set_option maxHeartbeats 1000000 in
set_option maxRecDepth 100000 in
theorem copyCheck_fresh (R : Nat) (w : World) (h0 : w.cell? ⟨R, 2, none⟩ = some (.pointer none)) (hsh : w.shape? R = some (118, 4)) (hfz : w.frozen? ⟨R, 2, none⟩ = false) :
    Calls Tryz.prog 111 #[.pointer (some ⟨R, 2, none⟩)] w fun e w' => e = .returned (.tuple #[]) ∧ w' = w.setCell ⟨R, 2, none⟩ (.pointer (some ⟨R, 2, none⟩)) := by
  obtain ⟨j, hj, hjs⟩ := Option.map_eq_some_iff.1 Tryz.sizeBd
  go_enter Tryz.func111, Tryz.ntmps111
  go_wp2
  rw [Lib.run_to_unsafe w ⟨R, 2, none⟩ Tryz.underlying107 Tryz.underlying195 hj (by rw [hjs]; decide) hsh (by show 2 < 4; decide)]
  simp only [Result.andThen]
  rw [Oper.upon_value]
  go_wp2
  rw [run_callFunc_extern Tryz.func147 (by kernel_rfl) (by kernel_rfl) (by kernel_rfl) (e := Extern.AbiNoEscape.same) (by kernel_rfl)]
  rw [Lib.run_noEscape]
  simp only [Result.andThen]
  rw [Oper.upon_value]
  go_wp2
  rw [Lib.run_from_unsafe w ⟨R, 2, none⟩ Tryz.underlying195 Tryz.underlying107 hj hsh Tryz.liesRun]
  simp only [Result.andThen]
  rw [Oper.upon_value]
  go_wp2
  go_end0
  exact ⟨rfl, rfl⟩

theorem copyCheck_run (B R : Nat) (cs : Value) (bg : Int) (L : List UInt8) (w : World) (h : IsRun B R cs bg L w) :
    Calls Tryz.prog 111 #[.pointer (some ⟨R, 2, none⟩)] w fun e w' => e = .returned (.tuple #[]) ∧ RunAt B R cs bg (.pointer (some ⟨R, 2, none⟩)) L w' ∧ Below B w w' ∧ KeepR R w w' := by
  rcases h with h | h
  · obtain ⟨_, _, c2, cf, cs⟩ := h.cells
    refine (copyCheck_fresh R w c2 cs (cf 2)).mono ?_
    rintro e w' ⟨rfl, rfl⟩
    exact ⟨rfl, h.self _, (Below.refl B w).setCell (p := ⟨R, 2, none⟩) h.1 _, (KeepR.refl R w).set _ _⟩
  · obtain ⟨_, _, c2, cf, cs⟩ := h.cells
    refine (copyCheck_used R w c2).mono ?_
    rintro e w' ⟨rfl, rfl⟩
    exact ⟨rfl, h, Below.refl B _, KeepR.refl R _⟩

set_option maxHeartbeats 2000000 in
set_option maxRecDepth 100000 in
theorem writeByte_run (B R : Nat) (cs : Value) (bg : Int) (L : List UInt8) (c : UInt8) (w : World) (h : IsRun B R cs bg L w) (hlen : L.length + 1 ≤ 100000) :
    Calls Tryz.prog 115 #[.pointer (some ⟨R, 2, none⟩), .int .u8 c.toNat] w fun e w' => e = .returned .nilIface ∧ RunAt B R cs bg (.pointer (some ⟨R, 2, none⟩)) (L ++ [c]) w' ∧ Below B w w' ∧ KeepR R w w' := by
  obtain ⟨i0, hi, hz0, hz1, hz2⟩ := info_parts Tryz.infoU8
  have HC := hide (copyCheck_run B R cs bg L w h)
  clear h
  go_enter Tryz.func115, Tryz.ntmps115
  go_wp2_with fail
  refine HC.out.mono ?_
  rintro e w1 ⟨rfl, h1, hb1, hk1⟩
  have HA := hide h1
  have HB := hide hb1
  have HK := hide hk1
  obtain ⟨hB, v, hbk, hown⟩ := h1
  have c2 : w1.cell? ⟨R, 2, none⟩ = some (.pointer (some ⟨R, 2, none⟩)) := by rw [blk_cell hbk]; rfl
  have c3 : w1.cell? ⟨R, 3, none⟩ = some v := by rw [blk_cell hbk]; rfl
  have hRw : R < w1.heap.size := blk_lt hbk
  have Hbk := hide hbk
  have Hown := hide hown
  clear HC hb1 hk1 hbk
  go_wp2_with (at_builtin; refine wpList_append_own _ rfl _ _ 64 rfl B 5 i0 (.int .u8 0) 1 1 Tryz.underlying64 hi hz0 hz1 hz2 rfl (by decide) _ _ _ rfl (hown.alloc _) ⟨w1.heap.size, 0, none⟩ 1 1 [.int .u8 c.toNat] rfl rfl ?c1 ?c2 ?c3 ?c4 ?c5 ?_)
  case c1 =>
    intro j u hj
    match j, hj with
    | 0, hj => simp at hj; subst hj; simp [Addr.add]
  case c2 => intro u hu; simp at hu; subst hu; rfl
  case c3 => unfold maxLen; omega
  case c4 => omega
  case c5 => simp; omega
  intro v' w2 hown' hgrow _
  have hb2 : w2.heap[R]? = some (.cells #[cs, .int .i64 bg, .pointer (some ⟨R, 2, none⟩), v] 118 (0, 0)) := by
    rw [hgrow.block R (by simp; omega) (fun e => run_ne hown Hbk.out e.symm), Below.heap_alloc _ _ _ hRw]
    exact Hbk.out
  have d2 : w2.cell? ⟨R, 2, none⟩ = some (.pointer (some ⟨R, 2, none⟩)) := by rw [blk_cell hb2]; rfl
  have d3 : w2.cell? ⟨R, 3, none⟩ = some v := by rw [blk_cell hb2]; rfl
  have f3 : w2.frozen? ⟨R, 3, none⟩ = false := blk_frozen hb2 3
  have Hb2 := hide hb2
  have HG := hide hgrow
  have HO := hide hown'
  obtain ⟨g, cap, rfl⟩ : ∃ g cap, v' = .slice (some ⟨g, 0, none⟩) (L.length + 1) cap := by
    rcases hown'.2 with ⟨_, h0⟩ | ⟨g, cap, cur, hv, _⟩
    · omega
    · exact ⟨g, cap, hv⟩
  clear hgrow hown' hb2 hown
  go_wp2
  go_ret
  refine ⟨rfl, ⟨hB, .slice (some ⟨g, 0, none⟩) (L.length + 1) cap, by rw [blk_set Hb2.out]; rfl, ?_⟩, ?_, ?_⟩
  · have := HO.out
    rw [show bV (L ++ [c]) = bV L ++ [.int .u8 (c.toNat : Int)] by simp [bV], show (L ++ [c]).length = L.length + 1 by simp]
    exact this.kept (row := some R) ⟨rfl, rfl, rfl, by simp [World.setCell], fun k _ hk => Below.heap_setCell _ _ _ _ (fun e => hk (by simp [e]))⟩ (Or.inr (run_ne this Hb2.out))
  · exact ((HB.out.alloc (by have := HB.out.size; omega) _).grown HG.out (by simp; omega) (fun k hk => (Hown.out.lt k hk).1)).setCell (p := ⟨R, 3, none⟩) hB _
  · exact ((HK.out.alloc _).grown (Hown.out.alloc _) HG.out).set _ _
end Go.Proofs.YtbdffcjganlblaaGreatDoor

namespace Go.Proofs.YtbdffcjganlblaaGreatDoor
open Go.RowKit
set_option linter.unusedVariables false
set_option linter.unusedSimpArgs false

/-- Old blocks stand, but for R, J and rows of bytes. -/
structure KeepJ (R J : Nat) (w w' : World) : Prop where
  size : w.heap.size ≤ w'.heap.size
  block : ∀ i, i < w.heap.size → i ≠ R → i ≠ J → (∀ c fr, w.heap[i]? ≠ some (.cells c 5 fr)) → w'.heap[i]? = w.heap[i]?
theorem KeepR.j {R : Nat} {w w' : World} (h : KeepR R w w') (J : Nat) : KeepJ R J w w' := ⟨h.size, fun i a b _ c => h.block i a b c⟩
theorem KeepJ.trans {R J : Nat} {a b c : World} (h : KeepJ R J a b) (k : KeepJ R J b c) : KeepJ R J a c :=
  ⟨Nat.le_trans h.size k.size, fun i hi hR hJ hu => by
    have e := h.block i hi hR hJ hu
    rw [k.block i (Nat.lt_of_lt_of_le hi h.size) hR hJ (fun c fr => by rw [e]; exact hu c fr), e]⟩
theorem KeepJ.setJ {R J : Nat} {a b : World} (h : KeepJ R J a b) (o : Nat) (v : Value) : KeepJ R J a (b.setCell ⟨J, o, none⟩ v) :=
  h.trans ⟨by simp [World.setCell], fun i hi _ hJ _ => Below.heap_setCell _ _ _ _ hJ⟩
theorem KeepJ.setR {R J : Nat} {a b : World} (h : KeepJ R J a b) (o : Nat) (v : Value) : KeepJ R J a (b.setCell ⟨R, o, none⟩ v) :=
  h.trans ⟨by simp [World.setCell], fun i hi hR _ _ => Below.heap_setCell _ _ _ _ hR⟩
theorem KeepJ.blk {R J : Nat} {a b : World} (h : KeepJ R J a b) {i : Nat} {c : Array Value} {ty : TypeId} {fr : Nat × Nat} (hb : a.heap[i]? = some (.cells c ty fr)) (hR : i ≠ R) (hJ : i ≠ J) (ht : ty ≠ 5) : b.heap[i]? = some (.cells c ty fr) := by
  rw [h.block i (blk_lt hb) hR hJ (fun c' fr' e => ?_)]
  · exact hb
  · rw [hb] at e
    simp at e
    exact ht e.2.1

/-- A job in block J, beside the run in block R. -/
structure JR (B R J : Nat) (csv : Value) (bg : Nat) (L : List UInt8) (nm : UInt8) (bud left : Nat) (want : Int) (w : World) : Prop where
  r : IsRun B R csv bg L w
  j : w.heap[J]? = some (.cells (jobV nm bud left want) 166 (0, 0))
section
variable {B R J : Nat} {csv : Value} {bg : Nat} {L : List UInt8} {nm : UInt8} {bud left : Nat} {want : Int} {w : World}
theorem IsRun.blk (h : IsRun B R csv bg L w) : B ≤ R ∧ ∃ p v, (p = .pointer none ∨ p = .pointer (some ⟨R, 2, none⟩)) ∧ w.heap[R]? = some (.cells #[csv, .int .i64 bg, p, v] 118 (0, 0)) ∧ w.ownsRow B 5 1 v L.length (bV L) := by
  rcases h with ⟨hB, v, hb, ho⟩ | ⟨hB, v, hb, ho⟩
  · exact ⟨hB, _, v, .inl rfl, hb, ho⟩
  · exact ⟨hB, _, v, .inr rfl, hb, ho⟩
theorem isRun_of {p v : Value} (hB : B ≤ R) (hp : p = .pointer none ∨ p = .pointer (some ⟨R, 2, none⟩)) (hb : w.heap[R]? = some (.cells #[csv, .int .i64 bg, p, v] 118 (0, 0))) (ho : w.ownsRow B 5 1 v L.length (bV L)) : IsRun B R csv bg L w := by
  rcases hp with rfl | rfl
  · exact .inl ⟨hB, v, hb, ho⟩
  · exact .inr ⟨hB, v, hb, ho⟩
theorem JR.ne (h : JR B R J csv bg L nm bud left want w) : J ≠ R := by
  obtain ⟨_, p, v, _, hb, _⟩ := h.r.blk
  intro e
  have := h.j
  rw [e, hb] at this
  simp at this
theorem IsRun.setOther (h : IsRun B R csv bg L w) {X : Nat} {c : Array Value} {ty : TypeId} (hX : w.heap[X]? = some (.cells c ty (0, 0))) (hne : X ≠ R) (ht : ty ≠ 5) (o : Nat) (v : Value) : IsRun B R csv bg L (w.setCell ⟨X, o, none⟩ v) := by
  obtain ⟨hB, p, vv, hp, hb, ho⟩ := h.blk
  refine isRun_of hB hp (by rw [Below.heap_setCell _ _ _ _ (fun e => hne e.symm)]; exact hb) ?_
  refine ho.kept (row := some X) ⟨rfl, rfl, rfl, by simp [World.setCell], fun k _ hk => Below.heap_setCell _ _ _ _ (fun e => hk (by simp [e]))⟩ (Or.inr ?_)
  exact Lib.ownBlock_ne ho hX ht
theorem JR.setJ (h : JR B R J csv bg L nm bud left want w) (o : Nat) (v : Value) {left' : Nat} {want' : Int} (hc : (jobV nm bud left want).setIfInBounds o v = jobV nm bud left' want') : JR B R J csv bg L nm bud left' want' (w.setCell ⟨J, o, none⟩ v) :=
  ⟨h.r.setOther h.j h.ne (by decide) _ _, by rw [blk_set h.j, hc]⟩
theorem JR.setBg (h : JR B R J csv bg L nm bud left want w) (bg' : Nat) : JR B R J csv bg' L nm bud left want (w.setCell ⟨R, 1, none⟩ (.int .i64 bg')) := by
  refine ⟨?_, by rw [Below.heap_setCell _ _ _ _ h.ne]; exact h.j⟩
  rcases h.r with h1 | h1
  · exact .inl (h1.set _)
  · exact .inr (h1.set _)
theorem JR.cells (h : JR B R J csv bg L nm bud left want w) : w.cell? ⟨J, 0, none⟩ = some (.int .u8 nm.toNat) ∧ w.cell? ⟨J, 1, none⟩ = some (.int .i64 bud) ∧ w.cell? ⟨J, 2, none⟩ = some (.int .i64 left) ∧ w.cell? ⟨J, 3, none⟩ = some (.int .i64 want) ∧ (∀ o, w.frozen? ⟨J, o, none⟩ = false) ∧
    w.cell? ⟨R, 0, none⟩ = some csv ∧ w.cell? ⟨R, 1, none⟩ = some (.int .i64 bg) ∧ ∀ o, w.frozen? ⟨R, o, none⟩ = false := by
  obtain ⟨_, p, v, _, hb, _⟩ := h.r.blk
  refine ⟨by rw [blk_cell h.j]; rfl, by rw [blk_cell h.j]; rfl, by rw [blk_cell h.j]; rfl, by rw [blk_cell h.j]; rfl, blk_frozen h.j, by rw [blk_cell hb]; rfl, by rw [blk_cell hb]; rfl, blk_frozen hb⟩
theorem JR.wrote (h : JR B R J csv bg L nm bud left want w) {w' : World} {L' : List UInt8} (hr : RunAt B R csv bg (.pointer (some ⟨R, 2, none⟩)) L' w') (hk : KeepR R w w') : JR B R J csv bg L' nm bud left want w' :=
  ⟨.inr hr, hk.blk h.j h.ne (by decide)⟩
end

theorem JR.drew {B R J : Nat} {csv : Value} {bg : Nat} {L : List UInt8} {nm : UInt8} {bud left : Nat} {want : Int} {w : World} (h : JR B R J csv bg L nm bud left want w) : JR B R J csv bg L nm bud left want w.drew := ⟨h.r, h.j⟩
theorem KeepJ.drew {R J : Nat} {a b : World} (h : KeepJ R J a b) : KeepJ R J a b.drew := ⟨h.size, h.block⟩

set_option maxRecDepth 100000 in
set_option maxHeartbeats 4000000 in
theorem begin_any (B R J : Nat) (a : Option Addr) (cs : List Int) (cap bg : Nat) (L : List UInt8) (nm : UInt8) (bud left : Nat) (want : Int) (w : World) (h : JR B R J (.slice a cs.length cap) bg L nm bud left want w) (hc : CostsAt w a cs) (hcR : 0 < cs.length → ∀ b off, a = some ⟨b, off, none⟩ → b ≠ R ∧ b ≠ J) (hn : cs.length ≤ 1000000) (hm : bg ≤ 1000000000) (hbj : B ≤ J) :
    Calls Tryz.prog 116 #[.pointer (some ⟨R, 0, none⟩), .pointer (some ⟨J, 0, none⟩)] w fun e w' => e = .returned (.tuple #[]) ∧ JR B R J (.slice a cs.length cap) (bg + 1) L nm bud bud (wantsL cs bg bud) w' ∧ Below B w w' ∧ KeepJ R J w w' := by
  obtain ⟨j0, j1, j2, j3, jf, r0, r1, rf⟩ := h.cells
  have hne := h.ne
  have hne2 : ¬ R = J := fun e => hne e.symm
  have hne1 : ¬ J = R := hne
  have hBR : B ≤ R := h.r.blk.1
  have HJ := hide h
  have hb1 : ((bg : Int) + 1) = ((bg + 1 : Nat) : Int) := by omega
  by_cases h0 : cs.length = 0
  · have hz : Hid (wantsL cs bg bud = bud) := by unfold Hid wantsL; rw [if_pos h0]
    have h0' : ¬ (0 : Int) < cs.length := by omega
    have HF := hide (((HJ.out.setJ 2 (.int .i64 bud) (left' := bud) (want' := want) rfl).setJ 3 (.int .i64 bud) (left' := bud) (want' := bud) rfl).setBg (bg + 1))
    have HB := hide ((((Below.refl B w).setCell (p := ⟨J, 2, none⟩) hbj (.int .i64 bud)).setCell (p := ⟨J, 3, none⟩) hbj (.int .i64 bud)).setCell (p := ⟨R, 1, none⟩) hBR (.int .i64 ((bg + 1 : Nat) : Int)))
    have HK := hide (((((KeepR.refl R w).j J).setJ 2 (.int .i64 bud)).setJ 3 (.int .i64 bud)).setR 1 (.int .i64 ((bg + 1 : Nat) : Int)))
    rw [← hb1] at HB HK
    have HF2 : Hid (JR B R J (.slice a cs.length cap) (bg + 1) L nm bud bud bud (((w.setCell ⟨J, 2, none⟩ (.int .i64 bud)).setCell ⟨J, 3, none⟩ (.int .i64 bud)).setCell ⟨R, 1, none⟩ (.int .i64 ((bg : Int) + 1)))) := by rw [hb1]; exact HF.out
    clear h hc hcR HJ HF hb1 h0
    go_enter Tryz.func116, Tryz.ntmps116
    go_wp2
    go_end0
    rw [hz.out]
    exact ⟨rfl, HF2.out, HB.out, HK.out⟩
  · obtain ⟨x, off, rfl, hx, hr⟩ : ∃ b off, a = some ⟨b, off, none⟩ ∧ b < w.heap.size ∧ ∀ k, k < cs.length → w.cell? ⟨b, off + k, none⟩ = some (.int .i64 (cs.getD k 0)) := by
      rcases hc with hc | hc
      · rw [hc] at h0
        exact absurd rfl h0
      · exact hc
    obtain ⟨hxR, hxJ⟩ := hcR (by omega) x off rfl
    have hxR1 : ¬ x = R := hxR
    have hxJ1 : ¬ x = J := hxJ
    have hxR2 : ¬ R = x := fun e => hxR e.symm
    have hxJ2 : ¬ J = x := fun e => hxJ e.symm
    have hz : Hid (wantsL cs bg bud = cs.getD (bg % cs.length) 0) := by unfold Hid wantsL; rw [if_neg h0]
    have h0' : (0 : Int) < cs.length := by omega
    have hlt := Nat.mod_lt bg (show 0 < cs.length by omega)
    have hcc := hr _ hlt
    have hi1 : 0 ≤ (bg : Int) % cs.length := by rw [← Int.natCast_emod]; exact Int.natCast_nonneg _
    have hi2 : (bg : Int) % cs.length < cs.length := by rw [← Int.natCast_emod]; exact Int.ofNat_lt.2 hlt
    have hi3 : ¬ (cs.length : Int) = 0 := by omega
    generalize cs.getD (bg % cs.length) 0 = V at *
    have HF := hide ((((HJ.out.setJ 2 (.int .i64 bud) (left' := bud) (want' := want) rfl).setJ 3 (.int .i64 bud) (left' := bud) (want' := bud) rfl).setJ 3 (.int .i64 V) (left' := bud) (want' := V) rfl).setBg (bg + 1)).drew
    have HB := hide ((((((Below.refl B w).setCell (p := ⟨J, 2, none⟩) hbj (.int .i64 bud)).setCell (p := ⟨J, 3, none⟩) hbj (.int .i64 bud)).setCell (p := ⟨J, 3, none⟩) hbj (.int .i64 V)).setCell (p := ⟨R, 1, none⟩) hBR (.int .i64 ((bg + 1 : Nat) : Int)))).drew
    have HK := hide ((((((KeepR.refl R w).j J).setJ 2 (.int .i64 bud)).setJ 3 (.int .i64 bud)).setJ 3 (.int .i64 V)).setR 1 (.int .i64 ((bg + 1 : Nat) : Int))).drew
    rw [← hb1] at HB HK
    have HF2 : Hid (JR B R J (.slice (some ⟨x, off, none⟩) cs.length cap) (bg + 1) L nm bud bud V ((((w.setCell ⟨J, 2, none⟩ (.int .i64 bud)).setCell ⟨J, 3, none⟩ (.int .i64 bud)).setCell ⟨J, 3, none⟩ (.int .i64 V)).setCell ⟨R, 1, none⟩ (.int .i64 ((bg : Int) + 1))).drew) := by rw [hb1]; exact HF
    clear h hc hcR HJ hr hb1 HF h0
    go_enter Tryz.func116, Tryz.ntmps116
    go_wp2_with fail
    go_region
    all_goals
      go_wp2
      go_end0
      rw [hz.out]
      exact ⟨rfl, HF2.out, HB, HK⟩

/-- The builder's byte, beside a job. -/
theorem JR.byte {B R J : Nat} {csv : Value} {bg : Nat} {L : List UInt8} {nm : UInt8} {bud left : Nat} {want : Int} {w : World} (h : JR B R J csv bg L nm bud left want w) (hL : L.length + 1 ≤ 100000) (c : UInt8) (ci : Int) (hc : ci = c.toNat) :
    Calls Tryz.prog 115 #[.pointer (some ⟨R, 2, none⟩), .int .u8 ci] w fun e w' => e = .returned .nilIface ∧ JR B R J csv bg (L ++ [c]) nm bud left want w' ∧ Below B w w' ∧ KeepJ R J w w' := by
  subst hc
  refine (writeByte_run B R csv bg L c w h.r hL).mono ?_
  rintro e w' ⟨rfl, h1, h2, h3⟩
  exact ⟨rfl, h.wrote h1 h3, h2, h3.j J⟩
def giveO (nm : UInt8) (left : Nat) (want : Int) : List UInt8 := if want = 0 then [46] else [nm] ++ if left = 0 ∧ 0 < want - 1 then [33, nm] else []
def giveW (want : Int) : Int := if want = 0 then want else want - 1

set_option maxRecDepth 100000 in
set_option maxHeartbeats 4000000 in
theorem give_any (B R J : Nat) (csv : Value) (bg : Nat) (L : List UInt8) (nm : UInt8) (bud left : Nat) (want : Int) (w : World) (h : JR B R J csv bg L nm bud left want w) (hbj : B ≤ J) (hl1 : 1 ≤ left) (hl2 : left ≤ 1000000) (hw1 : 0 ≤ want) (hw2 : want ≤ 1000000000) (hL : L.length + 3 ≤ 100000) :
    Calls Tryz.prog 117 #[.pointer (some ⟨R, 0, none⟩), .pointer (some ⟨J, 0, none⟩)] w fun e w' => e = .returned (.tuple #[]) ∧ JR B R J csv bg (L ++ giveO nm (left - 1) want) nm bud (left - 1) (giveW want) w' ∧ Below B w w' ∧ KeepJ R J w w' := by
  obtain ⟨j0, j1, j2, j3, jf, r0, r1, rf⟩ := h.cells
  have hne := h.ne
  have hBR : B ≤ R := h.r.blk.1
  have hb1 : ((left : Int) - 1) = ((left - 1 : Nat) : Int) := by omega
  have HJ1 : Hid (JR B R J csv bg L nm bud (left - 1) want (w.setCell ⟨J, 2, none⟩ (.int .i64 ((left : Int) - 1)))) := h.setJ 2 _ (by rw [hb1]; rfl)
  have HB1 := hide ((Below.refl B w).setCell (p := ⟨J, 2, none⟩) hbj (.int .i64 ((left : Int) - 1)))
  have HK1 := hide (((KeepR.refl R w).j J).setJ 2 (.int .i64 ((left : Int) - 1)))
  clear h hb1
  by_cases h0 : want = 0
  · have eo : Hid (giveO nm (left - 1) want = [46]) := by unfold Hid giveO; rw [if_pos h0]
    have ew : Hid (giveW want = want) := by unfold Hid giveW; rw [if_pos h0]
    rw [eo.out, ew.out]
    have h0' : (want == 0) = true := by simp [h0]
    clear h0 eo ew
    go_enter Tryz.func117, Tryz.ntmps117
    go_wp2_with fail
    refine (HJ1.out.byte (by omega) 46 46 rfl).mono ?_
    rintro e w2 ⟨rfl, h2, hb2, hk2⟩
    have H2 := hide h2
    have HB2 := hide (HB1.out.trans hb2)
    have HK2 := hide (HK1.out.trans hk2)
    clear h2 hb2 hk2 j0 j1 j2 j3 jf r0 r1 rf
    go_wp2
    refine bodyPost_ret (results_none rfl _ _ _) rfl ?_
    exact ⟨rfl, H2.out, HB2.out, HK2.out⟩
  · have ew : Hid (giveW want = want - 1) := by unfold Hid giveW; rw [if_neg h0]
    have h0' : (want == 0) = false := by simp [h0]
    have HJ2 : Hid (JR B R J csv bg L nm bud (left - 1) (want - 1) ((w.setCell ⟨J, 2, none⟩ (.int .i64 ((left : Int) - 1))).setCell ⟨J, 3, none⟩ (.int .i64 (want - 1)))) := HJ1.out.setJ 3 _ rfl
    have HB2 := hide (HB1.out.setCell (p := ⟨J, 3, none⟩) hbj (.int .i64 (want - 1)))
    have HK2 := hide (HK1.out.setJ 3 (.int .i64 (want - 1)))
    rw [ew.out]
    have eo : Hid (giveO nm (left - 1) want = [nm] ++ if left - 1 = 0 ∧ 0 < want - 1 then [33, nm] else []) := by unfold Hid giveO; rw [if_neg h0]
    have hj0 := hide ((HJ2.out.drew).cells.1)
    clear HJ1 HB1 HK1 ew h0
    go_enter Tryz.func117, Tryz.ntmps117
    go_wp2_with fail
    go_region_held_law (fun w' => w'.cell? ⟨J, 0, none⟩ = some (.int .u8 nm.toNat)) (first | exact hj0.out | exact h8c)
      (first | (go_at_call 115; refine (HJ2.out.drew.byte (by omega) nm _ rfl).mono ?_; rintro e w8 ⟨rfl, hj8, hb8, hk8⟩; have h8c := hj8.cells.1))
    all_goals
      obtain ⟨k0, k1, k2, k3, kf, q0, q1, qf⟩ := hj8.cells
      have H8 := hide hj8
      have HB8 := hide (HB2.out.trans (Below.trans ((Below.refl B _).drew) hb8))
      have HK8 := hide (HK2.out.trans (KeepJ.trans (KeepJ.drew ((KeepR.refl R _).j J)) hk8))
      clear hj8 hb8 hk8 j0 j1 j2 j3 jf r0 r1 rf HJ2 HB2 HK2 hj0 h8c
      by_cases hm : left - 1 = 0 ∧ 0 < want - 1
      · have e1 : Hid (giveO nm (left - 1) want = [nm] ++ [33] ++ [nm]) := by unfold Hid; rw [eo.out, if_pos hm]; rfl
        have hm1 : (((left - 1 : Nat) : Int) == 0) = true := by simp [hm.1]
        have hm2 : (0 : Int) < want - 1 := hm.2
        clear eo hm
        go_wp2_with fail
        refine (H8.out.byte (by simp; omega) 33 33 rfl).mono ?_
        rintro e w9 ⟨rfl, hj9, hb9, hk9⟩
        have H9 := hide hj9
        have HB9 := hide (HB8.out.trans hb9)
        have HK9 := hide (HK8.out.trans hk9)
        have hn0 := hide (hj9.drew.cells.1)
        obtain ⟨k0, _, _, _, _, _, _, _⟩ := hj9.cells
        clear hj9 hb9 hk9 H8 HB8 HK8 k1 k2 k3 kf q0 q1 qf
        go_wp2_with fail
        go_region_held_law (fun w' => w'.cell? ⟨J, 0, none⟩ = some (.int .u8 nm.toNat)) (first | exact hn0.out | exact h8c)
          (first | (go_at_call 115; refine (H9.out.drew.byte (by simp; omega) nm _ rfl).mono ?_; rintro e w10 ⟨rfl, hj10, hb10, hk10⟩; have h8c := hj10.cells.1))
        all_goals
          have HA := hide hj10
          have HBA := hide (HB9.out.trans (Below.trans ((Below.refl B _).drew) hb10))
          have HKA := hide (HK9.out.trans (KeepJ.trans (KeepJ.drew ((KeepR.refl R _).j J)) hk10))
          clear hj10 hb10 hk10 h8c k0 hn0 H9 HB9 HK9
          go_wp2
          go_end0
          exact ⟨rfl, by rw [e1.out, ← List.append_assoc, ← List.append_assoc]; exact HA.out, HBA.out, HKA.out⟩
      · have e1 : Hid (giveO nm (left - 1) want = [nm]) := by unfold Hid; rw [eo.out, if_neg hm]; rfl
        clear eo
        by_cases hz : left - 1 = 0
        · have hm1 : (((left - 1 : Nat) : Int) == 0) = true := by simp [hz]
          have hm2 : ¬ (0 : Int) < want - 1 := fun x => hm ⟨hz, x⟩
          clear hm hz
          go_wp2
          go_end0
          exact ⟨rfl, by rw [e1.out]; exact H8.out, HB8.out, HK8.out⟩
        · have hm1 : (((left - 1 : Nat) : Int) == 0) = false := by simp; omega
          clear hm hz
          go_wp2
          go_end0
          exact ⟨rfl, by rw [e1.out]; exact H8.out, HB8.out, HK8.out⟩

/-- A tick that is nobody's. -/
theorem tickN_any (B R : Nat) (csv : Value) (bg : Nat) (L : List UInt8) (w : World) (h : IsRun B R csv bg L w) (hL : L.length + 1 ≤ 100000) :
    Calls Tryz.prog 76 #[.pointer (some ⟨R, 0, none⟩), .pointer none] w fun e w' => e = .returned (.tuple #[]) ∧ IsRun B R csv bg (L ++ [46]) w' ∧ Below B w w' ∧ KeepR R w w' := by
  have HW := hide (writeByte_run B R csv bg L 46 w h hL)
  clear h
  go_enter Tryz.func76, Tryz.ntmps76
  go_wp2_with fail
  refine HW.out.mono ?_
  rintro e w1 ⟨rfl, h1, hb1, hk1⟩
  have H1 := hide h1
  have HB1 := hide hb1
  have HK1 := hide hk1
  clear h1 hb1 hk1 HW
  go_wp2
  go_end0
  exact ⟨rfl, .inr H1.out, HB1.out, HK1.out⟩

def nowL (bud left : Nat) : Nat := if left = 0 then bud else left
def nowW (cs : List Int) (bg bud left : Nat) (want : Int) : Int := if left = 0 then wantsL cs bg bud else want
def nowB (bg left : Nat) : Nat := if left = 0 then bg + 1 else bg
set_option maxRecDepth 100000 in
set_option maxHeartbeats 4000000 in
theorem tickJ_any (B R J : Nat) (a : Option Addr) (cs : List Int) (cap bg : Nat) (L : List UInt8) (nm : UInt8) (bud left : Nat) (want : Int) (w : World) (h : JR B R J (.slice a cs.length cap) bg L nm bud left want w) (hc : CostsAt w a cs) (hcR : 0 < cs.length → ∀ b off, a = some ⟨b, off, none⟩ → b ≠ R ∧ b ≠ J) (hn : cs.length ≤ 1000000) (hm : bg ≤ 1000000000) (hbj : B ≤ J)
    (hl1 : 1 ≤ nowL bud left) (hl2 : nowL bud left ≤ 1000000) (hw1 : 0 ≤ nowW cs bg bud left want) (hw2 : nowW cs bg bud left want ≤ 1000000000) (hL : L.length + 3 ≤ 100000) :
    Calls Tryz.prog 76 #[.pointer (some ⟨R, 0, none⟩), .pointer (some ⟨J, 0, none⟩)] w fun e w' => e = .returned (.tuple #[]) ∧ JR B R J (.slice a cs.length cap) (nowB bg left) (L ++ giveO nm (nowL bud left - 1) (nowW cs bg bud left want)) nm bud (nowL bud left - 1) (giveW (nowW cs bg bud left want)) w' ∧ Below B w w' ∧ KeepJ R J w w' := by
  obtain ⟨j0, j1, j2, j3, jf, r0, r1, rf⟩ := h.cells
  by_cases h0 : left = 0
  · have e1 : nowL bud left = bud := by unfold nowL; rw [if_pos h0]
    have e2 : nowW cs bg bud left want = wantsL cs bg bud := by unfold nowW; rw [if_pos h0]
    have e3 : nowB bg left = bg + 1 := by unfold nowB; rw [if_pos h0]
    rw [e1] at hl1 hl2
    rw [e2] at hw1 hw2
    rw [e1, e2, e3]
    have HB := hide (begin_any B R J a cs cap bg L nm bud left want w h hc hcR hn hm hbj)
    have hz : ((left : Int) == 0) = true := by simp [h0]
    clear e1 e2 e3 h hc hcR h0
    generalize wantsL cs bg bud = V at *
    go_enter Tryz.func76, Tryz.ntmps76
    go_wp2_with fail
    refine HB.out.mono ?_
    rintro e w1 ⟨rfl, h1, hb1, hk1⟩
    have HG := hide (give_any B R J (.slice a cs.length cap) (bg + 1) L nm bud bud V w1 h1 hbj hl1 hl2 hw1 hw2 hL)
    have HB1 := hide hb1
    have HK1 := hide hk1
    clear h1 hb1 hk1 HB j0 j1 j2 j3 jf r0 r1 rf
    go_wp2_with fail
    refine HG.out.mono ?_
    rintro e w2 ⟨rfl, h2, hb2, hk2⟩
    have H2 := hide h2
    have HB2 := hide (HB1.out.trans hb2)
    have HK2 := hide (HK1.out.trans hk2)
    clear h2 hb2 hk2 HG HB1 HK1
    go_wp2
    go_end0
    exact ⟨rfl, H2.out, HB2.out, HK2.out⟩
  · have e1 : nowL bud left = left := by unfold nowL; rw [if_neg h0]
    have e2 : nowW cs bg bud left want = want := by unfold nowW; rw [if_neg h0]
    have e3 : nowB bg left = bg := by unfold nowB; rw [if_neg h0]
    rw [e1] at hl1 hl2
    rw [e2] at hw1 hw2
    rw [e1, e2, e3]
    have HG := hide (give_any B R J (.slice a cs.length cap) bg L nm bud left want w h hbj hl1 hl2 hw1 hw2 hL)
    have hz : ((left : Int) == 0) = false := by simp [h0]
    clear e1 e2 e3 h hc hcR h0
    go_enter Tryz.func76, Tryz.ntmps76
    go_wp2_with fail
    refine HG.out.mono ?_
    rintro e w2 ⟨rfl, h2, hb2, hk2⟩
    have H2 := hide h2
    have HB2 := hide hb2
    have HK2 := hide hk2
    clear h2 hb2 hk2 HG j0 j1 j2 j3 jf r0 r1 rf
    go_wp2
    go_end0
    exact ⟨rfl, H2.out, HB2.out, HK2.out⟩
end Go.Proofs.YtbdffcjganlblaaGreatDoor

namespace Go.Proofs.YtbdffcjganlblaaGreatDoor
open Go.RowKit
set_option linter.unusedVariables false
set_option linter.unusedSimpArgs false

set_option maxHeartbeats 1000000 in
set_option maxRecDepth 100000 in
theorem string_some (B R : Nat) (cs : Value) (bg : Int) (l : List UInt8) (w : World) (h : IsRun B R cs bg l w) (h0 : l ≠ []) :
    Calls Tryz.prog 73 #[.pointer (some ⟨R, 2, none⟩)] w fun e w' => e = .returned (.string (bs l)) ∧ Below B w w' := by
  obtain ⟨p, hB, v, hbk, hown⟩ : ∃ p, RunAt B R cs bg p l w := by
    rcases h with h | h
    · exact ⟨_, h⟩
    · exact ⟨_, h⟩
  have hl0 : l.length ≠ 0 := by simpa using h0
  obtain ⟨g, cap, cur, rfl, hbg, hg, hnc, hcm, hcs, htake⟩ : ∃ g cap cur, v = .slice (some ⟨g, 0, none⟩) l.length cap ∧ B ≤ g ∧ w.heap[g]? = some (.cells cur 5 (0, 0)) ∧ l.length ≤ cap ∧ cap ≤ maxLen ∧ cur.size = cap * 1 ∧ cur.toList.take (l.length * 1) = bV l := by
    rcases hown.2 with ⟨_, hz⟩ | ⟨g, cap, cur, hv, r⟩
    · exact absurd hz hl0
    · exact ⟨g, cap, cur, hv, r⟩
  have c1 : w.drew.cell? ⟨R, 3, none⟩ = some (.slice (some ⟨g, 0, none⟩) l.length cap) := by
    have : w.drew.heap[R]? = some (.cells #[cs, .int .i64 bg, p, .slice (some ⟨g, 0, none⟩) l.length cap] 118 (0, 0)) := hbk
    rw [blk_cell this]; rfl
  have hSD : (Builtin.unsafeSliceData_ #[64] 161 #[.slice (some ⟨g, 0, none⟩) l.length cap]).run Tryz.prog w.drew = .ok (.pointer (some ⟨g, 0, none⟩)) w.drew :=
    Lib.run_unsafeSliceData_row _ _ _ _ _ _ (by omega)
  have hUS : (Builtin.unsafeString_ #[161, 3] 9 #[.pointer (some ⟨g, 0, none⟩), .int .i64 l.length]).run Tryz.prog w.drew = .ok (.string (bs l)) (w.drew.freeze ⟨g, 0, none⟩ l.length) := by
    refine Lib.run_unsafeString_row w.drew 161 3 9 5 Tryz.underlying161 Tryz.cellsU8 g cur.size (by have hg' : w.drew.heap[g]? = some (.cells cur 5 (0, 0)) := hg; simp [World.shape?, hg']) l h0 (by omega) (by unfold maxLen at hcm; omega) ?_
    intro j x hx
    have := hown.cells (g := g) rfl j (.int .u8 x.toNat) (by simp [bV, hx])
    exact this
  have HB := hide (Lib.below_freeze (Below.drew (Below.refl B w)) (p := ⟨g, 0, none⟩) hbg l.length)
  clear hown hbk h hg htake hcs hnc hcm
  generalize bs l = RR at *
  go_enter Tryz.func73, Tryz.ntmps73
  go_wp2
  go_region
  all_goals (go_wp2; go_ret; exact ⟨rfl, HB.out⟩)

set_option maxHeartbeats 1000000 in
set_option maxRecDepth 100000 in
theorem string_none (B R : Nat) (cs : Value) (bg : Int) (p : Value) (w : World) (hbk : w.heap[R]? = some (.cells #[cs, .int .i64 bg, p, .slice none 0 0] 118 (0, 0))) :
    Calls Tryz.prog 73 #[.pointer (some ⟨R, 2, none⟩)] w fun e w' => e = .returned (.string (bs [])) ∧ Below B w w' := by
  have hUS := fun (W : World) (q : Option Addr) => Lib.run_unsafeString_none (P := Tryz.prog) W 161 3 9 q
  have c1 : w.drew.cell? ⟨R, 3, none⟩ = some (.slice none 0 0) := by
    have : w.drew.heap[R]? = some (.cells #[cs, .int .i64 bg, p, .slice none 0 0] 118 (0, 0)) := hbk
    rw [blk_cell this]; rfl
  have hSD : (Builtin.unsafeSliceData_ #[64] 161 #[.slice none 0 0]).run Tryz.prog w.drew = .ok (.pointer none) w.drew := rfl
  have HB := hide (Below.drew (Below.refl B w))
  clear hbk
  go_enter Tryz.func73, Tryz.ntmps73
  go_wp2
  go_region
  all_goals (go_wp2; go_ret; exact ⟨rfl, HB.out⟩)

set_option maxRecDepth 100000 in
theorem isTicks_yes (n : Int) (w : World) (h : 0 ≤ n ∧ n ≤ 400) : Calls Tryz.prog 74 #[.int .i64 n] w fun e w' => e = .returned (.bool true) ∧ w' = w := by
  obtain ⟨h1, h2⟩ := h
  go_enter Tryz.func74, Tryz.ntmps74
  go_wp2
  go_ret
  exact ⟨rfl, rfl⟩
set_option maxRecDepth 100000 in
theorem isTicks_no (n : Int) (w : World) (h : ¬ (0 ≤ n ∧ n ≤ 400)) : Calls Tryz.prog 74 #[.int .i64 n] w fun e w' => e = .returned (.bool false) ∧ w' = w := by
  by_cases h1 : 0 ≤ n
  · have h2 : ¬ n ≤ 400 := fun x => h ⟨h1, x⟩
    clear h
    go_enter Tryz.func74, Tryz.ntmps74
    go_wp2
    go_ret
    exact ⟨rfl, rfl⟩
  · clear h
    go_enter Tryz.func74, Tryz.ntmps74
    go_wp2
    go_ret
    exact ⟨rfl, rfl⟩

set_option maxRecDepth 100000 in
set_option maxHeartbeats 2000000 in
theorem checkTicks_any (tk : Int) (cs : List Int) (a : Option Addr) (cap : Nat) (w : World) (hc : CostsAt w a cs) (hn : cs.length ≤ 9223372036854775807) :
    Calls Tryz.prog 38 #[.int .i64 tk, .slice a cs.length cap] w fun e w' => Below w.heap.size w w' ∧ ((ticksOk tk cs ∧ e = .returned (.tuple #[])) ∨ (¬ ticksOk tk cs ∧ e = pan 9 0)) := by
  have Hc := hide hc
  clear hc
  have hnot : ∀ (x : Bool) (w : World), (Op.unary .not (.bool x)).run Tryz.prog w = .ok (.bool (!x)) w := fun _ _ => rfl
  by_cases ht : 0 ≤ tk ∧ tk ≤ 400
  · have Ht := hide ht
    clear ht
    by_cases hl : cs.length ≤ 40
    · have hl' : ¬ (40 : Int) < cs.length := by omega
      go_enter Tryz.func38, Tryz.ntmps38
      go_wp2_with fail
      refine (isTicks_yes tk _ Ht.out).mono ?_
      rintro e w2 ⟨rfl, rfl⟩
      go_wp2_with fail
      go_loopw [17] (fun i wr => ∃ k : Nat, k ≤ cs.length ∧ i = .int .i64 k ∧ Below w2.heap.size w2 wr ∧ Hid (∀ i, i < k → 0 ≤ cs.getD i 0 ∧ cs.getD i 0 ≤ 400)) (fun i _ => 200 - (intOf i).toNat)
      case atStart => exact ⟨0, by omega, rfl, Below.refl _ _, fun i hi => by omega⟩
      case round =>
        obtain ⟨k, hk, rfl, hbw, hall⟩ := hrel
        have Hbw := hide hbw
        by_cases hkl : k < cs.length
        · have hkl' : (k : Int) < cs.length := by omega
          obtain ⟨x, off, rfl, hx, hr⟩ : ∃ b off, a = some ⟨b, off, none⟩ ∧ b < w2.heap.size ∧ ∀ k, k < cs.length → w2.cell? ⟨b, off + k, none⟩ = some (.int .i64 (cs.getD k 0)) := by
            rcases Hc.out with hc | hc
            · rw [hc] at hkl
              simp at hkl
            · exact hc
          have hcc := (hbw.cell (p := ⟨x, off + k, none⟩) hx).trans (hr k hkl)
          clear hr hbw
          generalize hV : cs.getD k 0 = V at *
          have HV := hide hV
          clear hV
          go_wp2_with fail
          by_cases hok : 0 ≤ V ∧ V ≤ 400
          · have Hok := hide hok
            refine (isTicks_yes V _ hok).mono ?_
            rintro e w' ⟨rfl, rfl⟩
            clear hok
            go_wp2
            go_roundw
            case rel =>
              refine ⟨k + 1, by omega, by go_num, Hbw.out, fun i hi => ?_⟩
              rcases Nat.lt_or_ge i k with h5 | h5
              · exact hall.out i h5
              · have : i = k := by omega
                subst this
                rw [HV.out]
                exact Hok.out
            case measure => simp [intOf]; omega
          · have Hok := hide hok
            refine (isTicks_no V _ hok).mono ?_
            rintro e w' ⟨rfl, rfl⟩
            clear hok
            go_wp2_with fail
            refine (refuse_any 9 0 _ rfl _).mono ?_
            rintro e w' ⟨rfl, rfl⟩
            refine ⟨rfl, Hbw.out, .inr ⟨?_, rfl⟩⟩
            intro hh
            have := hh.2.2.2 k hkl
            rw [HV.out] at this
            exact Hok.out this
        · have hkl' : ¬ (k : Int) < cs.length := by omega
          have hke : k = cs.length := by omega
          have Hke := hide hke
          clear hke
          clear hbw
          go_wp2
          go_end0
          exact ⟨Hbw.out, .inl ⟨⟨Ht.out.1, Ht.out.2, hl, fun i hi => hall.out i (by rw [Hke.out]; exact hi)⟩, rfl⟩⟩
    · have hl' : (40 : Int) < cs.length := by omega
      go_enter Tryz.func38, Tryz.ntmps38
      go_wp2_with fail
      refine (isTicks_yes tk _ Ht.out).mono ?_
      rintro e w' ⟨rfl, rfl⟩
      go_wp2_with fail
      refine (refuse_any 9 0 _ rfl _).mono ?_
      rintro e w' ⟨rfl, rfl⟩
      exact ⟨rfl, Below.refl _ _, .inr ⟨fun hh => hl hh.2.2.1, rfl⟩⟩
  · have Ht := hide ht
    go_enter Tryz.func38, Tryz.ntmps38
    go_wp2_with fail
    refine (isTicks_no tk _ ht).mono ?_
    rintro e w' ⟨rfl, rfl⟩
    clear ht
    go_wp2_with fail
    refine (refuse_any 9 0 _ rfl _).mono ?_
    rintro e w' ⟨rfl, rfl⟩
    exact ⟨rfl, Below.refl _ _, .inr ⟨fun hh => Ht.out ⟨hh.1, hh.2.1⟩, rfl⟩⟩
end Go.Proofs.YtbdffcjganlblaaGreatDoor
