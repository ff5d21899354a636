/-
  Own work. The program's plan: allDone, jobsIn.
-/
import Derived.Test.YtbdffcjganlblaaGreatDoorMPnDtoPnE
import Derived.Test.YtbdffcjganlblaaGreatDoorMRefMtoRefO
import Derived.Test.YtbdffcjganlblaaGreatDoorMEdAtoEdF
namespace Go.Proofs.YtbdffcjganlblaaGreatDoor
open Go.RowKit
set_option linter.unusedVariables false
set_option linter.unusedSimpArgs false

set_option maxRecDepth 100000 in
set_option maxHeartbeats 1000000 in
theorem allDone_any (P : Nat) (c0 c1 : Value) (a b : Option Addr) (n m ca cb : Nat) (w : World) (h : w.heap[P]? = some (.cells #[c0, c1, .slice a n ca, .slice b m cb] 221 (0, 0))) :
    Calls Tryz.prog 157 #[.pointer (some ⟨P, 0, none⟩)] w fun e w' => e = .returned (.bool (decide (n = 0) && decide (m = 0))) ∧ w' = w := by
  have h2 : w.cell? ⟨P, 2, none⟩ = some (.slice a n ca) := by rw [blk_cell h]; rfl
  have h3 : w.cell? ⟨P, 3, none⟩ = some (.slice b m cb) := by rw [blk_cell h]; rfl
  clear h
  have e1 : ∀ q : Nat, ((q : Int) == 0) = decide (q = 0) := fun q => by
    by_cases h0 : q = 0
    · simp [h0]
    · rw [decide_eq_false h0, beq_eq_false_iff_ne]
      omega
  by_cases hn : n = 0
  · have hn' : ((n : Int) == 0) = true := by rw [e1, decide_eq_true hn]
    rw [decide_eq_true hn, Bool.true_and, ← e1]
    clear hn e1
    go_enter Tryz.func157, Tryz.ntmps157
    go_wp2_with fail
    go_ret
    exact ⟨rfl, rfl⟩
  · have hn' : ((n : Int) == 0) = false := by rw [e1, decide_eq_false hn]
    rw [decide_eq_false hn, Bool.false_and]
    clear hn e1
    go_enter Tryz.func157, Tryz.ntmps157
    go_wp2_with fail
    go_ret
    exact ⟨rfl, rfl⟩

/-- A task's jobs, as jobsIn makes them. -/
theorem div_wrap (u f : Nat) (hu : u ≤ 100000) : wrap64 ((u : Int) / f) = ((u / f : Nat) : Int) := by
  rw [← Int.natCast_ediv]
  have := Nat.div_le_self u f
  generalize u / f = q at *
  exact w64 _ (by omega)
theorem ptV_range (bt : Nat → Nat) (i X : Nat) : ptV (fun q => if q = i then X else bt q) (List.range (i + 1)) = ptV bt (List.range i) ++ [.pointer (some ⟨X, 0, none⟩)] := by
  unfold ptV
  rw [List.range_succ, List.map_append]
  congr 1
  · apply List.map_congr_left
    intro q hq
    have : q < i := by simpa using hq
    show Value.pointer (some ⟨if q = i then X else bt q, 0, none⟩) = _
    rw [if_neg (by omega)]
  · simp
structure JiW (x : Tk × Nat) (pl : Nat) (w wr : World) (v : Value) (bt : Nat → Nat) (n : Nat) : Prop where
  row : RowJ wr w.heap.size v bt (List.range n)
  job : ∀ i, i < n → wr.heap[bt i]? = some (.cells (jbV (jobA pl x.1 i) x.1.C) 225 (0, 0)) ∧ w.heap.size < bt i
  inj : ∀ i j, i < n → j < n → bt i = bt j → i = j
  b : Below w.heap.size w wr
  t : wr.heap[w.heap.size]? = some (.cells (ptA x) 172 (0, 0))

theorem JiW.push {x : Tk × Nat} {pl : Nat} {w wr w4 : World} {v v4 : Value} {bt : Nat → Nat} {i : Nat} {c : Array Value} {o2 : Obj} (h : JiW x pl w wr v bt i) (hc : c = jbV (jobA pl x.1 i) x.1.C) (hg : ((wr.alloc (.cells c 225)).alloc o2).grownBy w4 v.ownBlock) (ho : w4.ownsRow w.heap.size 226 1 v4 (i + 1) (ptV bt (List.range i) ++ [.pointer (some ⟨wr.heap.size, 0, none⟩)])) : JiW x pl w w4 v4 (fun q => if q = i then wr.heap.size else bt q) (i + 1) := by
  subst hc
  have hsz := h.b.size
  have hlt : ∀ q, q < i → bt q < wr.heap.size := fun q hq => blk_lt (h.job q hq).1
  have hown : ∀ (k : Nat) (c : Array Value) (ty : TypeId) (fr : Nat × Nat), wr.heap[k]? = some (.cells c ty fr) → ty ≠ 226 → v.ownBlock ≠ some k := fun k c ty fr hk hty e => by
    obtain ⟨_, c', fr', e'⟩ := own_typed h.row e
    rw [hk] at e'
    simp at e'
    exact hty e'.2.1
  have hold : ∀ (k : Nat) (o : Obj), wr.heap[k]? = some o → v.ownBlock ≠ some k → w4.heap[k]? = some o := fun k o hk hne => by
    have hl := blk_lt hk
    rw [hg.block k (by simp; omega) (fun e => hne e.symm), Below.heap_alloc _ _ _ (by simp; omega), Below.heap_alloc _ _ _ hl]
    exact hk
  have hnew : w4.heap[wr.heap.size]? = some (.cells (jbV (jobA pl x.1 i) x.1.C) 225 (0, 0)) := by
    rw [hg.block wr.heap.size (by simp; omega) (fun e => by
      have := (h.row.lt wr.heap.size e.symm).2
      omega), Below.heap_alloc _ _ _ (by simp)]
    exact blk_new _ _ _
  refine ⟨?_, fun q hq => ?_, fun p q hp hq e => ?_, ?_, hold _ _ h.t (hown _ _ _ _ h.t (by decide))⟩
  · unfold RowJ
    rw [List.length_range, ptV_range]
    exact ho
  · by_cases e : q = i
    · simp only [if_pos e]
      rw [e]
      exact ⟨hnew, by have := blk_lt h.t; omega⟩
    · simp only [if_neg e]
      have hj := h.job q (by omega)
      exact ⟨hold _ _ hj.1 (hown _ _ _ _ hj.1 (by decide)), hj.2⟩
  · by_cases e1 : p = i
    · by_cases e2 : q = i
      · omega
      · simp only [if_pos e1, if_neg e2] at e
        have := hlt q (by omega)
        omega
    · by_cases e2 : q = i
      · simp only [if_neg e1, if_pos e2] at e
        have := hlt p (by omega)
        omega
      · simp only [if_neg e1, if_neg e2] at e
        exact h.inj p q (by omega) (by omega) e
  · refine ((h.b.alloc hsz _).alloc (by simp; omega) _).grown hg (by simp; omega) (fun k hk => (h.row.lt k hk).1)

def JiOut (x : Tk × Nat) (pl cyc : Nat) (w : World) (en : Ending) (w' : World) : Prop := ∃ v bt, en = .returned v ∧ JiW x pl w w' v bt (cyc / x.1.P)

set_option maxRecDepth 100000 in
set_option maxHeartbeats 4000000 in
theorem jobsIn_any (x : Tk × Nat) (cyc pl : Nat) (w : World) (hP : 1 ≤ x.1.P) (hP2 : x.1.P ≤ 60) (hO : x.1.O ≤ 60) (hC : x.1.C ≤ 60) (hD : x.1.D ≤ 60) (hcy : cyc ≤ 60) (hpl : pl ≤ 100) :
    Calls Tryz.prog 172 #[.agg #[.string (bs [x.1.nm]), .int .i64 x.1.q0, .int .i64 x.1.P, .int .i64 x.1.q1, .int .i64 x.1.O, .int .i64 x.2, .int .i64 x.1.C, .int .i64 x.1.q3, .int .i64 x.1.D, .int .i64 x.1.q4], .int .i64 cyc, .int .i64 pl] w (JiOut x pl cyc w) := by
  obtain ⟨i0, hi0, hz0, hz1, hz2⟩ := info_parts Tryz.infoJP
  have hX0 := blk_new w (ptA x) 172
  have J0 : Hid (JiW x pl w (w.alloc (.cells (ptA x) 172)) (.slice none 0 0) (fun _ => 0) 0) := ⟨World.ownsRow_nil _ _ _ _, fun i h => by omega, fun i j h => by omega, below_new _ _, hX0⟩
  unfold ptA at J0 hX0
  have hdiv := hide (div_wrap cyc x.1.P (by omega))
  have hdl : cyc / x.1.P ≤ 60 := Nat.le_trans (Nat.div_le_self _ _) hcy
  have hne : ¬ (x.1.P : Int) = 0 := by omega
  obtain ⟨x0, x1, x2, x3, x4, x5, x6, x7, x8, x9⟩ := ptA_cells (x := x) (by unfold ptA; exact hX0)
  clear hX0
  go_enter Tryz.func172, Tryz.ntmps172
  go_wp2_with fail
  rw [hdiv.out]
  clear x0 x1 x2 x3 x4 x5 x6 x7 x8 x9
  have HQ : Hid (∀ i, i < cyc / x.1.P → i * x.1.P + x.1.P ≤ cyc) := fun i hi => by
    have h1 : (i + 1) * x.1.P ≤ cyc / x.1.P * x.1.P := Nat.mul_le_mul_right _ hi
    have h2 := Nat.div_mul_le_self cyc x.1.P
    rw [Nat.add_mul, Nat.one_mul] at h1
    omega
  generalize hN : cyc / x.1.P = N at *
  have HN := hide hN
  clear hN hdiv
  go_loopw [7, 15] (fun jv iv wr => ∃ (i : Nat) (bt : Nat → Nat), i ≤ N ∧ iv = .int .i64 i ∧ JiW x pl w wr jv bt i) (fun _ iv _ => N - (intOf iv).toNat)
  case atStart => exact ⟨0, _, by omega, rfl, J0.out⟩
  case round =>
    obtain ⟨i, bt, hi, rfl, hW⟩ := hrel
    obtain ⟨x0, x1, x2, x3, x4, x5, x6, x7, x8, x9⟩ := ptA_cells (x := x) hW.t
    obtain ⟨va, vc, hv, _, _⟩ := hW.row.len
    rw [List.length_range] at hv
    subst hv
    have hbz := hW.b.size
    have HW := hide hW
    have ow := hW.row
    clear hW
    by_cases hlt : i < N
    · have hlt' : (i : Int) < N := by omega
      obtain ⟨m, hM⟩ : ∃ m, m = i * x.1.P := ⟨_, rfl⟩
      have hm := HQ.out i hlt
      rw [← hM] at hm
      have hmm : m ≤ 60 := Nat.le_trans (Nat.le_trans (Nat.le_add_right m x.1.P) hm) hcy
      have e0 : wrap64 ((i : Int) * (x.1.P : Int)) = (m : Int) := by rw [← Int.natCast_mul, ← hM]; exact w64 _ (by omega)
      have e1 : wrap64 (wrap64 ((i : Int) * (x.1.P : Int)) + (x.1.O : Int)) = ((m + x.1.O : Nat) : Int) := by
        rw [e0, ← Int.natCast_add]
        clear e0
        exact w64 _ (by omega)
      have e2 : wrap64 (wrap64 (wrap64 ((i : Int) * (x.1.P : Int)) + (x.1.O : Int)) + (x.1.D : Int)) = ((m + x.1.O + x.1.D : Nat) : Int) := by
        rw [e1, ← Int.natCast_add]
        clear e0 e1
        exact w64 _ (by omega)
      have E1 := hide e1
      have E2 := hide e2
      have HMm := hide hM
      clear hM e0 e1 e2
      go_wp2_with (at_builtin; refine Go.wpList_append_own_at _ rfl _ _ 218 rfl w.heap.size 226 i0 _ 1 8 Tryz.underlying218 hi0 hz0 hz1 hz2 rfl (by decide) _ _ _ rfl ((ow.alloc _).alloc _) ⟨wr.heap.size + 1, 0, none⟩ 1 1 [.pointer (some ⟨wr.heap.size, 0, none⟩)] rfl rfl ?c1 ?c2 ?c3 ?c4 ?c5 ?_)
      case c1 => exact cells_new (wr.alloc _) #[_] _ _ (by simp)
      case c2 => simp [Value.oneCell']
      case c3 => rw [List.length_range]; unfold maxLen; omega
      case c4 => rw [List.length_range]; omega
      case c5 => simp; omega
      intro v4 w4 hown4 hgr4 _ hloc4
      have HJ4 := hide (HW.out.push (by rw [E2.out, E1.out, HMm.out]; rfl) hgr4 hown4)
      clear hown4 hgr4 hloc4 HW E1 E2 ow x0 x1 x2 x3 x4 x5 x6 x7 x8 x9
      go_wp2_with fail
      go_roundw
      case rel => exact ⟨i + 1, _, by omega, by go_num, HJ4.out⟩
      case measure => simp [intOf]; omega
    · have hlt' : ¬ (i : Int) < N := by omega
      have e : i = N := by omega
      subst e
      go_wp2_with fail
      go_ret
      exact ⟨_, bt, rfl, by rw [HN.out]; exact HW.out⟩
end Go.Proofs.YtbdffcjganlblaaGreatDoor

namespace Go.Proofs.YtbdffcjganlblaaGreatDoor
open Go.RowKit
set_option linter.unusedVariables false
set_option linter.unusedSimpArgs false

def jbCells (x : Jb) : List Value := [.int .i64 x.tsk, .int .i64 x.num, .int .i64 x.rel, .int .i64 x.dl, .int .i64 x.cost]
def jbRow (l : List Jb) : List Value := l.flatMap jbCells
theorem jbRow_app (a b : List Jb) : jbRow (a ++ b) = jbRow a ++ jbRow b := by simp [jbRow]
theorem jbRow_get (T : List Jb) : ∀ (j : Nat), j < T.length → ∀ o, o < 5 → (jbRow T)[j * 5 + o]? = (jbCells (jk T j))[o]? := by
  induction T with
  | nil => intro j h; simp at h
  | cons t r ih =>
    intro j hj o ho
    have e : jbRow (t :: r) = jbCells t ++ jbRow r := rfl
    have el : (jbCells t).length = 5 := rfl
    cases j with
    | zero => rw [e, List.getElem?_append_left (by omega)]; simp [jk]
    | succ j =>
      have := ih j (by simpa using hj) o ho
      rw [e, List.getElem?_append_right (by omega), el, show (j + 1) * 5 + o - 5 = j * 5 + o by omega, this]
      simp [jk]
/-- The jobs lie in block g. -/
def RowB (w : World) (g : Nat) (js : List Jb) : Prop := ∀ k, k < js.length →
  w.cell? ⟨g, k * 5, none⟩ = some (.int .i64 (jk js k).tsk) ∧ w.cell? ⟨g, k * 5 + 1, none⟩ = some (.int .i64 (jk js k).num) ∧ w.cell? ⟨g, k * 5 + 2, none⟩ = some (.int .i64 (jk js k).rel) ∧
  w.cell? ⟨g, k * 5 + 3, none⟩ = some (.int .i64 (jk js k).dl) ∧ w.cell? ⟨g, k * 5 + 4, none⟩ = some (.int .i64 (jk js k).cost)
theorem rowB_own {w : World} {base g cap : Nat} {l : List Jb} (h : w.ownsRow base 97 5 (.slice (some ⟨g, 0, none⟩) l.length cap) l.length (jbRow l)) : RowB w g l := by
  intro k hk
  have e : ∀ o, o < 5 → w.cell? ⟨g, k * 5 + o, none⟩ = (jbCells (jk l k))[o]? := fun o ho => by rw [h.cellAt _ (by omega)]; exact jbRow_get l k hk o ho
  have e0 := e 0 (by omega)
  simp only [Nat.add_zero] at e0
  rw [e0, e 1 (by omega), e 2 (by omega), e 3 (by omega), e 4 (by omega)]
  exact ⟨rfl, rfl, rfl, rfl, rfl⟩
theorem RowB.keep {w w' : World} {g : Nat} {l : List Jb} (h : RowB w g l) (hb : w'.heap[g]? = w.heap[g]?) : RowB w' g l := by
  intro k hk
  have e : ∀ o, w'.cell? ⟨g, o, none⟩ = w.cell? ⟨g, o, none⟩ := fun o => by simp only [World.cell?, hb]
  rw [e, e, e, e, e]
  exact h k hk
theorem RowB.below {w w' : World} {g B : Nat} {l : List Jb} (h : RowB w g l) (hb : Below B w w') (hg : g < B) : RowB w' g l := h.keep (hb.block g hg)
theorem Tryz.infoJob : (Tryz.prog.info? 97).map (fun i => (i.zero, i.size, i.bytes)) = some (some (.agg #[.int .i64 0, .int .i64 0, .int .i64 0, .int .i64 0, .int .i64 0]), 5, 40) := by kernel_rfl

theorem jobsT_take (cyc i : Nat) (t : Tk) {k : Nat} (h : k < cyc / t.P) : (jobsT cyc i t).take (k + 1) = (jobsT cyc i t).take k ++ [⟨t.nm, k, i, k * t.P + t.O, k * t.P + t.O + t.D, t.C⟩] := by
  rw [List.take_succ_eq_append_getElem (by rw [jobsT_len]; exact h)]
  simp [jobsT]
theorem jobsL_take (cyc : Nat) {ts : List Tk} {i : Nat} (h : i < ts.length) : jobsL cyc 0 (ts.take (i + 1)) = jobsL cyc 0 (ts.take i) ++ jobsT cyc i (tsk ts i) := by
  rw [List.take_succ_eq_append_getElem h, jobsL_snoc, Nat.zero_add, List.length_take, Nat.min_eq_left (by omega)]
  simp [tsk, List.getD_eq_getElem?_getD, h]
/-- The memory of Jobs. -/
structure JbW (w wr : World) (tv pv v : Value) (l : List Jb) : Prop where
  s : wr.heap[w.heap.size]? = some (.cells #[tv, pv] 53 (0, 0))
  ow : wr.ownsRow (w.heap.size + 1) 97 5 v l.length (jbRow l)
  b : Below w.heap.size w wr
section
variable {w wr : World} {tv pv v : Value} {l : List Jb}
theorem JbW.keep (h : JbW w wr tv pv v l) {w' : World} (hb : Below wr.heap.size wr w') : JbW w w' tv pv v l :=
  ⟨blk_keep h.s hb, owns_below h.ow hb, h.b.trans (hb.mono h.b.size)⟩
theorem JbW.push (h : JbW w wr tv pv v l) {o : Obj} {w2 : World} {v' : Value} {x : Jb} (hg : (wr.alloc o).grownBy w2 v.ownBlock) (ho : w2.ownsRow (w.heap.size + 1) 97 5 v' (l.length + 1) (jbRow l ++ jbCells x)) : JbW w w2 tv pv v' (l ++ [x]) := by
  have hlt := blk_lt h.s
  refine ⟨?_, ?_, ?_⟩
  · rw [hg.block w.heap.size (by simp; omega) (fun e => own_ge h.ow (Nat.lt_succ_self _) e.symm), Below.heap_alloc _ _ _ hlt]
    exact h.s
  · rw [jbRow_app, List.length_append]
    simpa [jbRow] using ho
  · exact (h.b.alloc h.b.size o).grown hg (by simp; omega) (fun k hk => by have := (h.ow.lt k hk).1; omega)
/-- A block beside the row. -/
theorem JbW.other (h : JbW w wr tv pv v l) {X : Nat} {c : Array Value} {ty : TypeId} {o : Obj} {w2 : World} (hX : wr.heap[X]? = some (.cells c ty (0, 0))) (hty : ty ≠ 97) (hg : (wr.alloc o).grownBy w2 v.ownBlock) : w2.heap[X]? = some (.cells c ty (0, 0)) := by
  have hlt := blk_lt hX
  have hne : v.ownBlock ≠ some X := fun e => by
    rcases h.ow.2 with ⟨e0, _⟩ | ⟨g, cap, cur, e0, _, h7, _⟩
    · rw [e0] at e
      simp [Value.ownBlock] at e
    · rw [e0] at e
      simp [Value.ownBlock] at e
      subst e
      rw [h7] at hX
      simp at hX
      exact hty hX.2.symm
  rw [hg.block X (by simp; omega) (fun e => hne e.symm), Below.heap_alloc _ _ _ hlt]
  exact hX
end

def JbOut (js : List Jb) (w : World) (en : Ending) (w' : World) : Prop := ∃ a c, en = .returned (.slice a js.length c) ∧ w'.ownsRow w.heap.size 97 5 (.slice a js.length c) js.length (jbRow js) ∧ Below w.heap.size w w'

set_option maxRecDepth 100000 in
set_option maxHeartbeats 4000000 in
theorem rSetJobs_any (ts : List Tk) (cyc g cap : Nat) (pa : Option Addr) (pm pc : Nat) (w : World) (hg : g < w.heap.size) (hr : RowT w g ts) (hn : ts.length ≤ 6) (hts : TsOk ts cyc) (hcy : cycI ts = cyc) :
    Calls Tryz.prog 55 #[.agg #[.slice (some ⟨g, 0, none⟩) ts.length cap, .slice pa pm pc]] w (JbOut (jobsL cyc 0 ts) w) := by
  obtain ⟨i0, hi0, hz0, hz1, hz2⟩ := info_parts Tryz.infoJob
  have hc1 := hts.c1
  have hc2 := hts.c2
  have HE : Hid (∀ k, k < ts.length → 1 ≤ (tsk ts k).P ∧ (tsk ts k).P ≤ 60 ∧ cyc % (tsk ts k).P = 0 ∧ (tsk ts k).O ≤ 60 ∧ (tsk ts k).D ≤ 60 ∧ (tsk ts k).C ≤ 60) := fun k hk => by
    have hm := tsk_mem hk
    have h5 := hts.each _ hm
    have h6 : (tsk ts k).P ≤ cyc := Nat.le_of_dvd (by omega) (Nat.dvd_of_mod_eq_zero h5.2.1)
    refine ⟨h5.1, by omega, h5.2.1, ?_, ?_, ?_⟩ <;> omega
  have hPk : ∀ k, k < ts.length → 1 ≤ (tsk ts k).P ∧ (tsk ts k).P ≤ 60 := fun k hk => ⟨(HE.out k hk).1, (HE.out k hk).2.1⟩
  have HR := hide hr
  have HC := hide hcy
  have HPk := hide hPk
  have HJL := hide (fun (l : List Tk) => jobsL_len hc2 l 0)
  have J0 : Hid (JbW w (w.alloc (.cells #[.slice (some ⟨g, 0, none⟩) ts.length cap, .slice pa pm pc] 53)) (.slice (some ⟨g, 0, none⟩) ts.length cap) (.slice pa pm pc) (.slice none 0 0) []) := ⟨blk_new _ _ _, World.ownsRow_nil _ _ _ _, below_new _ _⟩
  have s0 := blk_cell J0.out.s
  clear hr hts hcy hPk
  go_enter Tryz.func55, Tryz.ntmps55
  go_wp2_with fail
  generalize w.alloc (.cells #[.slice (some ⟨g, 0, none⟩) ts.length cap, .slice pa pm pc] 53) = wz at *
  have CC := hide (rCycle_any ts g cap (.slice pa pm pc) pa pm pc rfl wz (Nat.lt_of_lt_of_le hg J0.out.b.size) (HR.out.below J0.out.b hg) hn HPk.out)
  rw [HC.out] at CC
  refine CC.out.mono ?_
  rintro en w1 ⟨rfl, hb1⟩
  have J1 := hide (J0.out.keep hb1)
  clear hb1 CC J0 s0
  go_wp2_with fail
  go_loopw [3, 5] (fun lv iv wr => ∃ i : Nat, i ≤ ts.length ∧ iv = .int .i64 i ∧ JbW w wr (.slice (some ⟨g, 0, none⟩) ts.length cap) (.slice pa pm pc) lv (jobsL cyc 0 (ts.take i))) (fun _ iv _ => ts.length - (intOf iv).toNat)
  case atStart => exact ⟨0, by omega, rfl, J1.out⟩
  case round =>
    clear J1
    obtain ⟨i, hi, rfl, hJ⟩ := hrel
    have s0 := blk_cell hJ.s
    by_cases hlt : i < ts.length
    · have hlt' : (i : Int) < ts.length := by omega
      obtain ⟨e1, e2, e3, e4, e5, e6⟩ := HE.out i hlt
      obtain ⟨r0, r1, r2, r3, r4, r5, r6, r7, r8, r9⟩ := HR.out.below hJ.b hg i hlt
      have HJn := hide (jobsL_take cyc hlt)
      have HJ0 := hide hJ
      have hjl := HJL.out (ts.take i)
      rw [List.length_take, Nat.min_eq_left (by omega)] at hjl
      clear hJ
      generalize jobsL cyc 0 (ts.take i) = L0 at *
      generalize tsk ts i = t at *
      have HX := hide (blk_new wr (tkA t) 95)
      unfold tkA at HX
      have HJ1 := hide (HJ0.out.keep (below_new wr (.cells (tkA t) 95)))
      unfold tkA at HJ1
      have hHX := HX.out
      go_wp2_with fail
      generalize hwx : wr.alloc _ = wx at *
      clear hwx
      have hXlt : wr.heap.size < wx.heap.size := blk_lt hHX
      generalize wr.heap.size = X at *
      clear r0 r1 r2 r3 r4 r5 r6 r7 r8 r9 s0 HJ0 hHX
      have HQ : Hid (∀ k, k < cyc / t.P → k * t.P + t.P ≤ cyc) := fun k hk => by
        have h1 : (k + 1) * t.P ≤ cyc / t.P * t.P := Nat.mul_le_mul_right _ hk
        have h2 := Nat.div_mul_le_self cyc t.P
        rw [Nat.add_mul, Nat.one_mul] at h1
        omega
      have HQe : Hid (cyc / t.P * t.P = cyc) := Nat.div_mul_cancel (Nat.dvd_of_mod_eq_zero e3)
      have hN60 : cyc / t.P ≤ 60 := Nat.le_trans (Nat.div_le_self _ _) hc2
      have HTk := hide (fun k (hk : k < cyc / t.P) => jobsT_take cyc i t hk)
      have HTl := hide (jobsT_len cyc i t)
      clear e3
      generalize cyc / t.P = N at *
      go_loopw [3, 7] (fun lv kv wq => ∃ k : Nat, k ≤ N ∧ kv = .int .i64 k ∧ JbW w wq (.slice (some ⟨g, 0, none⟩) ts.length cap) (.slice pa pm pc) lv (L0 ++ (jobsT cyc i t).take k) ∧ wq.heap[X]? = some (.cells #[.int .u8 t.nm.toNat, .int .i64 t.P, .int .i64 t.O, .int .i64 t.C, .int .i64 t.D, .int .i64 t.q0, .int .i64 t.q1, .int .i64 t.q2, .int .i64 t.q3, .int .i64 t.q4] 95 (0, 0))) (fun _ kv _ => N - (intOf kv).toNat)
      case atStart => exact ⟨0, by omega, rfl, by rw [List.take_zero, List.append_nil]; exact HJ1.out, HX.out⟩
      case round =>
        clear HJ1 HX
        obtain ⟨k, hk, rfl, hJ, hX⟩ := hrel
        obtain ⟨x0, x1, x2, x3, x4, _⟩ := tkA_cells (t := t) hX
        have HX := hide hX
        by_cases hlt2 : k < N
        · obtain ⟨m, hM⟩ : ∃ m, m = k * t.P := ⟨_, rfl⟩
          have hm := HQ.out k hlt2
          rw [← hM] at hm
          have e0 : wrap64 ((k : Int) * (t.P : Int)) = (m : Int) := by rw [← Int.natCast_mul, ← hM]; exact w64 _ (by omega)
          have hd : decide (wrap64 ((k : Int) * (t.P : Int)) < (cyc : Int)) = true := by rw [e0, decide_eq_true_eq]; clear e0; omega
          have e1' : wrap64 (wrap64 ((k : Int) * (t.P : Int)) + (t.O : Int)) = ((m + t.O : Nat) : Int) := by
            rw [e0, ← Int.natCast_add]
            clear e0 hd
            exact w64 _ (by omega)
          have e2' : wrap64 (wrap64 (wrap64 ((k : Int) * (t.P : Int)) + (t.O : Int)) + (t.D : Int)) = ((m + t.O + t.D : Nat) : Int) := by
            rw [e1', ← Int.natCast_add]
            clear e0 e1' hd
            exact w64 _ (by omega)
          have E1 := hide e1'
          have E2 := hide e2'
          have HMm := hide hM
          have hlen : (L0 ++ (jobsT cyc i t).take k).length ≤ 1000 := by
            rw [List.length_append, List.length_take]
            omega
          have HNx : Hid (L0 ++ (jobsT cyc i t).take (k + 1) = (L0 ++ (jobsT cyc i t).take k) ++ [⟨t.nm, k, i, k * t.P + t.O, k * t.P + t.O + t.D, t.C⟩]) := by
            unfold Hid
            rw [HTk.out k hlt2, List.append_assoc]
          generalize L0 ++ (jobsT cyc i t).take k = Lk at *
          obtain ⟨va, vc, rfl⟩ := own_slice hJ.ow
          have ow := hJ.ow
          have hjs := hJ.b.size
          have HJ := hide hJ
          have hJs : w.heap.size + 1 ≤ wr.heap.size := blk_lt hJ.s
          clear hM e0 e1' e2' hm hJ hX
          go_wp2_with (at_builtin; refine Go.wpList_append_own_at _ rfl _ _ 90 rfl (w.heap.size + 1) 97 i0 _ 5 40 Tryz.underlying90 hi0 hz0 hz1 hz2 rfl (by decide) _ _ _ rfl (ow.alloc _) ⟨wr.heap.size, 0, none⟩ 1 1 [.int .i64 i, .int .i64 k, .int .i64 (wrap64 (wrap64 ((k : Int) * (t.P : Int)) + (t.O : Int))), .int .i64 (wrap64 (wrap64 (wrap64 ((k : Int) * (t.P : Int)) + (t.O : Int)) + (t.D : Int))), .int .i64 t.C] rfl rfl ?c1 ?c2 ?c3 ?c4 ?c5 ?_)
          case c1 => exact cells_new wr #[_, _, _, _, _] _ _ rfl
          case c2 => simp [Value.oneCell']
          case c3 => unfold maxLen; omega
          case c4 => omega
          case c5 => simp; omega
          intro v4 w4 hown4 hgr4 _ hloc4
          have HX4 := hide (HJ.out.other HX.out (by decide) hgr4)
          have HJ4 : Hid (JbW w w4 (.slice (some ⟨g, 0, none⟩) ts.length cap) (.slice pa pm pc) v4 (Lk ++ [⟨t.nm, k, i, k * t.P + t.O, k * t.P + t.O + t.D, t.C⟩])) := by
            refine HJ.out.push hgr4 ?_
            rw [E2.out, E1.out, HMm.out] at hown4
            exact hown4
          obtain ⟨va4, vc4, rfl⟩ := own_slice HJ4.out.ow
          clear hown4 hgr4 hloc4 HJ HX E1 E2 ow x0 x1 x2 x3 x4 hd
          go_wp2_with fail
          go_roundw
          case rel => exact ⟨k + 1, by omega, by go_num, by rw [HNx.out]; exact HJ4.out, HX4.out⟩
          case measure => simp [intOf]; omega
        · have hkN : k = N := by omega
          subst hkN
          have hd : decide (wrap64 ((k : Int) * (t.P : Int)) < (cyc : Int)) = false := by
            rw [← Int.natCast_mul, HQe.out, w64 _ (by omega), decide_eq_false_iff_not]
            omega
          have HJf : Hid (JbW w wr (.slice (some ⟨g, 0, none⟩) ts.length cap) (.slice pa pm pc) u3 (jobsL cyc 0 (ts.take (i + 1)))) := by
            unfold Hid
            rw [HJn.out]
            rw [List.take_of_length_le (by rw [HTl.out]; omega)] at hJ
            exact hJ
          clear hJ hX
          go_wp2_with fail
          go_roundw
          case rel => exact ⟨i + 1, by omega, by go_num, HJf.out⟩
          case measure => simp [intOf]; omega
    · have hlt' : ¬ (i : Int) < ts.length := by omega
      have hie : i = ts.length := by omega
      subst hie
      rw [List.take_length] at hJ
      obtain ⟨va, vc, rfl⟩ := own_slice hJ.ow
      have HJ := hide hJ
      clear hJ
      go_wp2_with fail
      go_ret
      exact ⟨va, vc, rfl, own_weak HJ.out.ow (Nat.le_succ _), HJ.out.b⟩
end Go.Proofs.YtbdffcjganlblaaGreatDoor

namespace Go.Proofs.YtbdffcjganlblaaGreatDoor
set_option linter.unusedVariables false
set_option linter.unusedSimpArgs false

/-! ### One unit more, by moving others -/
structure FS where
  has : Nat → Nat → Nat
  used : Nat → Nat
  seen : Nat → Bool
def addN (f : Nat → Nat) (j : Nat) : Nat → Nat := fun i => if i = j then f i + 1 else f i
def add2 (h : Nat → Nat → Nat) (k j : Nat) : Nat → Nat → Nat := fun a i => if a = k then addN (h a) j i else h a i
def sub2 (h : Nat → Nat → Nat) (k j : Nat) : Nat → Nat → Nat := fun a i => if a = k then lessN (h a) j i else h a i
theorem sumN_addN {f : Nat → Nat} {j : Nat} : ∀ n, j < n → sumN (addN f j) n = sumN f n + 1
  | 0, h => by omega
  | n + 1, h => by
    rw [sumN, sumN]
    by_cases e : n = j
    · subst e
      have h1 : sumN (addN f n) n = sumN f n := sumN_same n (fun i hi => by unfold addN; rw [if_neg (by omega)])
      have h2 : addN f n n = f n + 1 := by simp [addN]
      rw [h1, h2]
      omega
    · have ih := sumN_addN (f := f) (j := j) n (by omega)
      have h2 : addN f j n = f n := by simp [addN, e]
      rw [h2]
      omega
theorem add2_col (h : Nat → Nat → Nat) (k j i : Nat) : (fun a => add2 h k j a i) = if i = j then addN (fun a => h a i) k else fun a => h a i := by
  by_cases e : i = j
  · rw [if_pos e]
    funext a
    unfold add2 addN
    by_cases e2 : a = k
    · rw [if_pos e2, if_pos e, if_pos e2]
    · rw [if_neg e2, if_neg e2]
  · rw [if_neg e]
    funext a
    unfold add2 addN
    by_cases e2 : a = k
    · rw [if_pos e2, if_neg e]
    · rw [if_neg e2]
theorem sub2_col (h : Nat → Nat → Nat) (k j i : Nat) : (fun a => sub2 h k j a i) = if i = j then lessN (fun a => h a i) k else fun a => h a i := by
  by_cases e : i = j
  · rw [if_pos e]
    funext a
    unfold sub2 lessN
    by_cases e2 : a = k
    · rw [if_pos e2, if_pos e, if_pos e2]
    · rw [if_neg e2, if_neg e2]
  · rw [if_neg e]
    funext a
    unfold sub2 lessN
    by_cases e2 : a = k
    · rw [if_pos e2, if_neg e]
    · rw [if_neg e2]
structure Fair (J n F : Nat) (fit : Nat → Nat → Bool) (s : FS) : Prop where
  fits : ∀ k j, k < J → j < n → fit k j = false → s.has k j = 0
  sums : ∀ j, j < n → sumN (fun k => s.has k j) J = s.used j
  room : ∀ j, j < n → s.used j ≤ F
structure Got (J n F : Nat) (fit : Nat → Nat → Bool) (k : Nat) (s t : FS) : Prop where
  fair : Fair J n F fit t
  rows : ∀ a, a < J → sumN (fun j => t.has a j) n = sumN (fun j => s.has a j) n + if a = k then 1 else 0
  kept : ∀ j, j < n → s.seen j = true → ∀ a, t.has a j = s.has a j
/-- A unit of job m in frame j becomes one of job k. -/
theorem moved {J n F : Nat} {fit : Nat → Nat → Bool} {s t : FS} {k m j : Nat} (hk : k < J) (hm : m < J) (hj : j < n) (hf : fit k j = true) (hs : s.seen j = true) (h0 : 0 < s.has m j) (G : Got J n F fit m s t) :
    Fair J n F fit ⟨add2 (sub2 t.has m j) k j, t.used, t.seen⟩ ∧ (∀ a, a < J → sumN (fun i => add2 (sub2 t.has m j) k j a i) n = sumN (fun i => s.has a i) n + if a = k then 1 else 0) ∧ ∀ i, i < n → s.seen i = true → i ≠ j → ∀ a, add2 (sub2 t.has m j) k j a i = s.has a i := by
  have hmj : 0 < t.has m j := by rw [G.kept j hj hs m]; exact h0
  refine ⟨⟨?_, ?_, G.fair.room⟩, ?_, ?_⟩
  · intro a i ha hi hfa
    have h1 := G.fair.fits a i ha hi hfa
    show add2 (sub2 t.has m j) k j a i = 0
    have hsub : sub2 t.has m j a i = 0 := by
      unfold sub2 lessN
      split
      · split <;> omega
      · exact h1
    unfold add2 addN
    by_cases e : a = k
    · rw [if_pos e]
      by_cases e2 : i = j
      · rw [e, e2, hf] at hfa
        cases hfa
      · rw [if_neg e2]
        exact hsub
    · rw [if_neg e]
      exact hsub
  · intro i hi
    show sumN (fun a => add2 (sub2 t.has m j) k j a i) J = t.used i
    rw [add2_col, ← G.fair.sums i hi]
    by_cases e : i = j
    · subst e
      rw [if_pos rfl, sumN_addN J hk, sub2_col, if_pos rfl]
      exact sumN_less (f := fun a => t.has a i) hmj J hm
    · rw [if_neg e, sub2_col, if_neg e]
  · intro a ha
    have hr := G.rows a ha
    have hsub : sumN (fun i => sub2 t.has m j a i) n + (if a = m then 1 else 0) = sumN (fun i => t.has a i) n := by
      by_cases e : a = m
      · have e1 : (fun i => sub2 t.has m j a i) = lessN (t.has a) j := by
          funext i
          unfold sub2
          rw [if_pos e]
        rw [e1, if_pos e]
        exact sumN_less (f := t.has a) (by rw [e]; exact hmj) n hj
      · have e1 : (fun i => sub2 t.has m j a i) = fun i => t.has a i := by
          funext i
          unfold sub2
          rw [if_neg e]
        rw [e1, if_neg e]
        rfl
    by_cases e : a = k
    · have e1 : (fun i => add2 (sub2 t.has m j) k j a i) = addN (fun i => sub2 t.has m j a i) j := by
        funext i
        unfold add2
        rw [if_pos e]
      rw [e1, sumN_addN n hj, if_pos e]
      omega
    · have e1 : (fun i => add2 (sub2 t.has m j) k j a i) = fun i => sub2 t.has m j a i := by
        funext i
        unfold add2
        rw [if_neg e]
      rw [e1, if_neg e]
      omega
  · intro i hi hsi hij a
    rw [← G.kept i hi hsi a]
    unfold add2 sub2 addN lessN
    by_cases e : a = k <;> by_cases e2 : a = m <;> simp [e, e2, hij]
end Go.Proofs.YtbdffcjganlblaaGreatDoor
