/-
  Own work. The document's checks: meant.
-/
import Derived.Test.YtbdffcjganlblaaGreatDoorRefItoRefK
namespace Go.Proofs.YtbdffcjganlblaaGreatDoor
open Go.RowKit
set_option linter.unusedVariables false
set_option linter.unusedSimpArgs false

def stepT1 (ts : List Tk) (k : Nat) (f : Nat × Nat) : Nat × Nat := if findI ts (tsk ts k).nm < k then soon f 3 (tsk ts k).q0 else f
def stepT (ts : List Tk) (k : Nat) (f : Nat × Nat) : Nat × Nat := if 0 ≤ timedI (tsk ts k) then soon (stepT1 ts k f) 4 (timedI (tsk ts k)).toNat else stepT1 ts k f
def mT (ts : List Tk) : Nat → Nat × Nat
  | 0 => (0, 0)
  | k + 1 => stepT ts k (mT ts k)

def stepP1 (ts : List Tk) (p : Pr) (f : Nat × Nat) : Nat × Nat := if findI ts p.a < 0 then soon f 3 p.q0 else f
def stepP2 (ts : List Tk) (p : Pr) (f : Nat × Nat) : Nat × Nat := if findI ts p.b < 0 then soon (stepP1 ts p f) 3 p.q1 else stepP1 ts p f
def badPair (ts : List Tk) (p : Pr) : Bool :=
  decide (0 ≤ findI ts p.a) && decide (0 ≤ findI ts p.b) && (decide (findI ts p.a = findI ts p.b) || (!p.ap && decide ((tsk ts (findI ts p.a).toNat).P ≠ (tsk ts (findI ts p.b).toNat).P)))
def stepP (ts : List Tk) (p : Pr) (f : Nat × Nat) : Nat × Nat := if badPair ts p then soon (stepP2 ts p f) 5 p.q1 else stepP2 ts p f
def mP (ts : List Tk) (ps : List Pr) : Nat → Nat × Nat
  | 0 => mT ts ts.length
  | k + 1 => stepP ts (psk ps k) (mP ts ps k)
def meantI (ts : List Tk) (ps : List Pr) : Nat × Nat := mP ts ps ps.length

theorem findF_lt (ts : List Tk) (c : UInt8) : ∀ (f k : Nat), findF ts c f k < k + f ∧ -1 ≤ findF ts c f k
  | 0, k => by simp [findF]; omega
  | f + 1, k => by
    rw [findF]
    have := findF_lt ts c f (k + 1)
    split
    · omega
    · omega
theorem findI_lt (ts : List Tk) (c : UInt8) : findI ts c < ts.length ∧ -1 ≤ findI ts c := by
  have := findF_lt ts c ts.length 0
  unfold findI
  omega

/-- The memory of meant: the set, the result, the fault so far. -/
structure MB (w wr : World) (tv pv : Value) (f : Nat × Nat) : Prop where
  h0 : wr.heap[w.heap.size]? = some (.cells #[tv, pv] 53 (0, 0))
  h1 : wr.heap[w.heap.size + 1]? = some (.cells #[.int .i64 0, .int .i64 0] 88 (0, 0))
  h2 : wr.heap[w.heap.size + 1 + 1]? = some (.cells #[.int .i64 f.1, .int .i64 f.2] 88 (0, 0))
  b : Below w.heap.size w wr

section
variable {w wr : World} {tv pv : Value} {f : Nat × Nat}
theorem MB.keep (h : MB w wr tv pv f) {w' : World} (hb : Below wr.heap.size wr w') : MB w w' tv pv f :=
  ⟨by rw [hb.block _ (blk_lt h.h0)]; exact h.h0, by rw [hb.block _ (blk_lt h.h1)]; exact h.h1, by rw [hb.block _ (blk_lt h.h2)]; exact h.h2, h.b.trans (hb.mono h.b.size)⟩
theorem MB.alloc (h : MB w wr tv pv f) (o : Obj) : MB w (wr.alloc o) tv pv f := h.keep (below_new _ _)
theorem MB.drewN (h : MB w wr tv pv f) (n : Nat) : MB w (wr.drewN n) tv pv f := h.keep (below_drewN (Below.refl _ _) n)
theorem MB.setF (h : MB w wr tv pv f) (f' : Nat × Nat) : MB w ((wr.setCell ⟨w.heap.size + 1 + 1, 0, none⟩ (.int .i64 f'.1)).setCell ⟨w.heap.size + 1 + 1, 1, none⟩ (.int .i64 f'.2)) tv pv f' := by
  refine ⟨?_, ?_, ?_, (h.b.setCell (by show w.heap.size ≤ w.heap.size + 1 + 1; omega) _).setCell (by show w.heap.size ≤ w.heap.size + 1 + 1; omega) _⟩
  · rw [Below.heap_setCell _ _ _ _ (by show w.heap.size ≠ w.heap.size + 1 + 1; omega), Below.heap_setCell _ _ _ _ (by show w.heap.size ≠ w.heap.size + 1 + 1; omega)]; exact h.h0
  · rw [Below.heap_setCell _ _ _ _ (by show w.heap.size + 1 ≠ w.heap.size + 1 + 1; omega), Below.heap_setCell _ _ _ _ (by show w.heap.size + 1 ≠ w.heap.size + 1 + 1; omega)]; exact h.h1
  · rw [blk_set (blk_set h.h2 0 _) 1 _]; rfl
theorem MB.cells (h : MB w wr tv pv f) : wr.cell? ⟨w.heap.size, 0, none⟩ = some tv ∧ wr.cell? ⟨w.heap.size, 1, none⟩ = some pv ∧ wr.cell? ⟨w.heap.size + 1 + 1, 0, none⟩ = some (.int .i64 f.1) ∧ wr.cell? ⟨w.heap.size + 1 + 1, 1, none⟩ = some (.int .i64 f.2) ∧
    (∀ o, wr.frozen? ⟨w.heap.size + 1 + 1, o, none⟩ = false) ∧ (∀ o, wr.cell? ⟨w.heap.size + 1, o, none⟩ = #[Value.int .i64 0, .int .i64 0][o]?) ∧ (∀ o, wr.frozen? ⟨w.heap.size + 1, o, none⟩ = false) :=
  ⟨by rw [blk_cell h.h0]; rfl, by rw [blk_cell h.h0]; rfl, by rw [blk_cell h.h2]; rfl, by rw [blk_cell h.h2]; rfl, blk_frozen h.h2, blk_cell h.h1, blk_frozen h.h1⟩
theorem MB.start (w : World) (tv pv : Value) : MB w (((w.alloc (.cells #[tv, pv] 53)).alloc (.cells #[.int .i64 0, .int .i64 0] 88)).alloc (.cells #[.int .i64 0, .int .i64 0] 88)) tv pv (0, 0) := by
  refine ⟨?_, ?_, ?_, ((below_new w _).alloc (by simp) _).alloc (by simp; omega) _⟩
  · rw [Below.heap_alloc _ _ _ (by simp; omega), Below.heap_alloc _ _ _ (by simp)]; exact blk_new _ _ _
  · rw [Below.heap_alloc _ _ _ (by simp)]; simpa using blk_new (w.alloc (.cells #[tv, pv] 53)) #[.int .i64 0, .int .i64 0] 88
  · simpa using blk_new ((w.alloc (.cells #[tv, pv] 53)).alloc (.cells #[.int .i64 0, .int .i64 0] 88)) #[.int .i64 0, .int .i64 0] 88
end

theorem rsooner_v (f : Nat × Nat) (e at_ : Nat) (fv : Value) (ev : Int) (w : World) (hf : fv = faultV f) (he : ev = e) :
    Calls Tryz.prog 90 #[fv, .int .i64 ev, .int .i64 at_] w fun e' w' => e' = .returned (.agg #[.int .i64 (soon f e at_).1, .int .i64 (soon f e at_).2]) ∧ Below w.heap.size w w' := by
  subst hf he
  exact rsooner_any f e at_ w
theorem rtimed_v (t : Tk) (v : Value) (w : World) (hv : v = tkV t) (hs : t.small) :
    Calls Tryz.prog 91 #[v] w fun e w' => e = .returned (.int .i64 (timedI t)) ∧ Below w.heap.size w w' := by
  subst hv
  exact rtimed_any t w hs

/-- A block of w is one of what comes of it. -/
theorem blk_keep {w w' : World} {X : Nat} {o : Obj} (h : w.heap[X]? = some o) (hb : Below w.heap.size w w') : w'.heap[X]? = some o := by
  rw [hb.block _ (blk_lt h)]; exact h
theorem blk_setF {w : World} {X F : Nat} {o : Obj} (h : w.heap[X]? = some o) (hne : X ≠ F) (i j : Nat) (u v : Value) : ((w.setCell ⟨F, i, none⟩ u).setCell ⟨F, j, none⟩ v).heap[X]? = some o := by
  rw [Below.heap_setCell _ _ _ _ hne, Below.heap_setCell _ _ _ _ hne]; exact h
def tkA (t : Tk) : Array Value := #[.int .u8 t.nm.toNat, .int .i64 t.P, .int .i64 t.O, .int .i64 t.C, .int .i64 t.D, .int .i64 t.q0, .int .i64 t.q1, .int .i64 t.q2, .int .i64 t.q3, .int .i64 t.q4]
theorem tkA_cells {w : World} {X : Nat} {t : Tk} {ty : TypeId} (h : w.heap[X]? = some (.cells (tkA t) ty (0, 0))) :
    w.cell? ⟨X, 0, none⟩ = some (.int .u8 t.nm.toNat) ∧ w.cell? ⟨X, 1, none⟩ = some (.int .i64 t.P) ∧ w.cell? ⟨X, 2, none⟩ = some (.int .i64 t.O) ∧ w.cell? ⟨X, 3, none⟩ = some (.int .i64 t.C) ∧ w.cell? ⟨X, 4, none⟩ = some (.int .i64 t.D) ∧
    w.cell? ⟨X, 5, none⟩ = some (.int .i64 t.q0) ∧ w.cell? ⟨X, 6, none⟩ = some (.int .i64 t.q1) ∧ w.cell? ⟨X, 7, none⟩ = some (.int .i64 t.q2) ∧ w.cell? ⟨X, 8, none⟩ = some (.int .i64 t.q3) ∧ w.cell? ⟨X, 9, none⟩ = some (.int .i64 t.q4) := by
  simp only [blk_cell h]
  exact ⟨rfl, rfl, rfl, rfl, rfl, rfl, rfl, rfl, rfl, rfl⟩
theorem row_setF {w : World} {g F : Nat} {ts : List Tk} (h : RowT w g ts) (hne : g < F) (i j : Nat) (u v : Value) : RowT ((w.setCell ⟨F, i, none⟩ u).setCell ⟨F, j, none⟩ v) g ts :=
  h.below (((Below.refl F w).setCell (Nat.le_refl F) u).setCell (Nat.le_refl F) v) hne

def prA (p : Pr) : Array Value := #[.int .u8 p.a.toNat, .int .u8 p.b.toNat, .bool p.ap, .int .i64 p.q0, .int .i64 p.q1]
theorem prA_cells {w : World} {X : Nat} {p : Pr} {ty : TypeId} (h : w.heap[X]? = some (.cells (prA p) ty (0, 0))) :
    w.cell? ⟨X, 0, none⟩ = some (.int .u8 p.a.toNat) ∧ w.cell? ⟨X, 1, none⟩ = some (.int .u8 p.b.toNat) ∧ w.cell? ⟨X, 2, none⟩ = some (.bool p.ap) ∧ w.cell? ⟨X, 3, none⟩ = some (.int .i64 p.q0) ∧ w.cell? ⟨X, 4, none⟩ = some (.int .i64 p.q1) := by
  simp only [blk_cell h]
  exact ⟨rfl, rfl, rfl, rfl, rfl⟩
set_option maxRecDepth 100000 in
set_option maxHeartbeats 4000000 in
theorem rmeant_any (ts : List Tk) (ps : List Pr) (g cap : Nat) (pa : Option Addr) (pc : Nat) (w : World) (hg : g < w.heap.size) (hr : RowT w g ts) (hn : ts.length ≤ 6) (hsm : ∀ k, k < ts.length → (tsk ts k).small)
    (hm : ps.length ≤ 6) (hp : 0 < ps.length → ∃ gp, pa = some ⟨gp, 0, none⟩ ∧ gp < w.heap.size ∧ RowP w gp ps) :
    Calls Tryz.prog 53 #[.agg #[.slice (some ⟨g, 0, none⟩) ts.length cap, .slice pa ps.length pc]] w fun e w' => e = .returned (faultV (meantI ts ps)) ∧ Below w.heap.size w w' := by
  have M0 := hide (MB.start w (.slice (some ⟨g, 0, none⟩) ts.length cap) (.slice pa ps.length pc))
  have Hr := hide hr
  have Hsm := hide hsm
  have Hp := hide hp
  clear hr hsm hp
  go_enter Tryz.func53, Tryz.ntmps53
  go_wp2
  go_loopw [4] (fun i wr => ∃ (k : Nat), k ≤ ts.length ∧ i = .int .i64 k ∧ MB w wr (.slice (some ⟨g, 0, none⟩) ts.length cap) (.slice pa ps.length pc) (mT ts k)) (fun i _ => ts.length - (intOf i).toNat)
  case atStart => exact ⟨0, by omega, rfl, M0.out⟩
  case round =>
    clear M0
    obtain ⟨k, hk, rfl, M⟩ := hrel
    by_cases hlt : k < ts.length
    · obtain ⟨r0, r1, r2, r3, r4, r5, r6, r7, r8, r9⟩ := Hr.out.below M.b hg k hlt
      have hst : Hid (mT ts (k + 1) = if 0 ≤ timedI (tsk ts k) then soon (if findI ts (tsk ts k).nm < k then soon (mT ts k) 3 (tsk ts k).q0 else mT ts k) 4 (timedI (tsk ts k)).toNat else if findI ts (tsk ts k).nm < k then soon (mT ts k) 3 (tsk ts k).q0 else mT ts k) := rfl
      have hsml := hide (Hsm.out k hlt)
      have hrow := hide (Hr.out.below M.b hg)
      obtain ⟨m0, m1, m2, m3, m4, m5, m6⟩ := M.cells
      have MM := hide M
      have hw0 : w.heap.size < wr.heap.size := blk_lt M.h0
      have hw1 : w.heap.size + 1 < wr.heap.size := blk_lt M.h1
      have hw2 : w.heap.size + 1 + 1 < wr.heap.size := blk_lt M.h2
      have hgw : g < wr.heap.size := by omega
      clear M
      generalize tsk ts k = t at *
      have hcases : (findI ts t.nm < k ∨ ¬ findI ts t.nm < k) := by omega
      go_wp2_with fail
      refine (rfind_any ts g cap _ _ _ _ rfl t.nm _ (by simp; omega) (hrow.out.below (below_new _ _) hgw) hn).mono ?_
      rintro e w1 ⟨rfl, hb1⟩
      have M1 := (MM.out.alloc _).keep hb1
      have T1 : w1.heap[wr.heap.size]? = some (.cells (tkA t) 95 (0, 0)) := blk_keep (blk_new _ _ _) hb1
      have R1 := (hrow.out.below (below_new _ _) hgw).below hb1 (by simp; omega)
      clear hb1 MM hrow r0 r1 r2 r3 r4 r5 r6 r7 r8 r9 m0 m1 m2 m3 m4 m5 m6
      generalize wr.heap.size = X at *
      have hX1 := blk_lt T1
      obtain ⟨c0, c1, c2, c3, c4, c5, c6, c7, c8, c9⟩ := tkA_cells T1
      obtain ⟨m0, m1, m2, m3, m4, m5, m6⟩ := M1.cells
      have HM := hide M1
      have HT := hide T1
      have HR := hide R1
      clear M1 T1 R1
      rcases hcases with ha | ha
      · go_wp2_with fail
        refine (rsooner_v (mT ts k) 3 t.q0 _ _ _ rfl rfl).mono ?_
        rintro e w2 ⟨rfl, hb2⟩
        have M2 := HM.out.keep hb2
        have T2 := blk_keep HT.out hb2
        have R2 := HR.out.below hb2 (by omega)
        obtain ⟨n0, n1, n2, n3, n4, n5, n6⟩ := M2.cells
        obtain ⟨d0, d1, d2, d3, d4, d5, d6, d7, d8, d9⟩ := tkA_cells T2
        have M2' := M2.setF (soon (mT ts k) 3 t.q0)
        have T2' := blk_setF T2 (F := w.heap.size + 1 + 1) (by omega) 0 1 (.int .i64 (soon (mT ts k) 3 t.q0).1) (.int .i64 (soon (mT ts k) 3 t.q0).2)
        have R2' := row_setF R2 (F := w.heap.size + 1 + 1) (by omega) 0 1 (.int .i64 (soon (mT ts k) 3 t.q0).1) (.int .i64 (soon (mT ts k) 3 t.q0).2)
        have hne1 : ¬ w.heap.size + 1 + 1 = X := by omega
        have hne2 : ¬ X = w.heap.size + 1 + 1 := by omega
        have HM2 := hide M2'
        have HT2 := hide T2'
        have HR2 := hide R2'
        clear hb2 M2 T2 R2 M2' T2' R2' HM HT HR c0 c1 c2 c3 c4 c5 c6 c7 c8 c9 m0 m1 m2 m3 m4 m5 m6
        go_wp2_with fail
        refine (rtimed_v t _ _ rfl hsml.out).mono ?_
        rintro e w3 ⟨rfl, hb3⟩
        have M3 := HM2.out.keep hb3
        have T3 := blk_keep HT2.out hb3
        have R3 := HR2.out.below hb3 (by have := blk_lt HM2.out.h0; omega)
        clear hb3 d0 d1 d2 d3 d4 d5 d6 d7 d8 d9 n0 n1 n2 n3 n4 n5 n6
        obtain ⟨m0, m1, m2, m3, m4, m5, m6⟩ := M3.cells
        by_cases ht : 0 ≤ timedI t
        · have ht' : ((timedI t).toNat : Int) = timedI t := Int.toNat_of_nonneg ht
          have HM3 := hide M3
          have HT3 := hide T3
          have HR3 := hide R3
          clear M3 T3 R3
          have Ht' := hide ht'
          clear ht'
          go_wp2_with fail
          rw [← Ht'.out]
          refine (rsooner_v (soon (mT ts k) 3 t.q0) 4 (timedI t).toNat _ _ _ rfl rfl).mono ?_
          rintro e w4 ⟨rfl, hb4⟩
          have M4 := (HM3.out.keep hb4)
          have M5 := M4.setF (soon (soon (mT ts k) 3 t.q0) 4 (timedI t).toNat)
          obtain ⟨n0, n1, n2, n3, n4, n5, n6⟩ := M4.cells
          have HM5 := hide M5
          clear hb4 m0 m1 m2 m3 m4 m5 m6 M4 M5 HM3 HT3 HR3
          go_wp2
          go_roundw
          case rel => exact ⟨k + 1, by omega, by go_num, by rw [hst.out, if_pos (by omega), if_pos (by omega)]; exact HM5.out⟩
          case measure => simp [intOf]; omega
        · have HM3 := hide M3
          clear M3 T3 R3
          go_wp2
          go_roundw
          case rel => exact ⟨k + 1, by omega, by go_num, by rw [hst.out, if_neg (by omega), if_pos (by omega)]; exact HM3.out⟩
          case measure => simp [intOf]; omega
      · skip
        go_wp2_with fail
        refine (rtimed_v t _ _ rfl hsml.out).mono ?_
        rintro e w3 ⟨rfl, hb3⟩
        have M3 := HM.out.keep hb3
        have T3 := blk_keep HT.out hb3
        have R3 := HR.out.below hb3 (by have := blk_lt HM.out.h0; omega)
        clear hb3 c0 c1 c2 c3 c4 c5 c6 c7 c8 c9 m0 m1 m2 m3 m4 m5 m6
        obtain ⟨m0, m1, m2, m3, m4, m5, m6⟩ := M3.cells
        by_cases ht : 0 ≤ timedI t
        · have ht' : ((timedI t).toNat : Int) = timedI t := Int.toNat_of_nonneg ht
          have HM3 := hide M3
          have HT3 := hide T3
          have HR3 := hide R3
          clear M3 T3 R3
          have Ht' := hide ht'
          clear ht'
          go_wp2_with fail
          rw [← Ht'.out]
          refine (rsooner_v (mT ts k) 4 (timedI t).toNat _ _ _ rfl rfl).mono ?_
          rintro e w4 ⟨rfl, hb4⟩
          have M4 := (HM3.out.keep hb4)
          have M5 := M4.setF (soon (mT ts k) 4 (timedI t).toNat)
          obtain ⟨n0, n1, n2, n3, n4, n5, n6⟩ := M4.cells
          have HM5 := hide M5
          clear hb4 m0 m1 m2 m3 m4 m5 m6 M4 M5 HM3 HT3 HR3
          go_wp2
          go_roundw
          case rel => exact ⟨k + 1, by omega, by go_num, by rw [hst.out, if_pos (by omega), if_neg (by omega)]; exact HM5.out⟩
          case measure => simp [intOf]; omega
        · have HM3 := hide M3
          clear M3 T3 R3
          go_wp2
          go_roundw
          case rel => exact ⟨k + 1, by omega, by go_num, by rw [hst.out, if_neg (by omega), if_neg (by omega)]; exact HM3.out⟩
          case measure => simp [intOf]; omega
    · have hkl : k = ts.length := by omega
      subst hkl
      obtain ⟨m0, m1, m2, m3, m4, m5, m6⟩ := M.cells
      have HM0 := hide M
      clear M hk hlt
      go_wp2
      go_loopw [7] (fun i wr => ∃ (k : Nat), k ≤ ps.length ∧ i = .int .i64 k ∧ MB w wr (.slice (some ⟨g, 0, none⟩) ts.length cap) (.slice pa ps.length pc) (mP ts ps k)) (fun i _ => ps.length - (intOf i).toNat)
      case atStart => exact ⟨0, by omega, rfl, HM0.out⟩
      case round =>
        clear HM0 m0 m1 m2 m3 m4 m5 m6
        obtain ⟨k, hk, rfl, M⟩ := hrel
        by_cases hlt : k < ps.length
        · obtain ⟨gp, rfl, hgp, hRP⟩ := Hp.out (by omega)
          have HRP := hide hRP
          clear hRP Hp
          obtain ⟨r0, r1, r2, r3, r4⟩ := HRP.out.below M.b hgp k hlt
          have hst : Hid (mP ts ps (k + 1) = stepP ts (psk ps k) (mP ts ps k)) := rfl
          have hrow := hide (Hr.out.below M.b hg)
          obtain ⟨m0, m1, m2, m3, m4, m5, m6⟩ := M.cells
          have MM := hide M
          have hw0 : w.heap.size < wr.heap.size := blk_lt M.h0
          have hw1 : w.heap.size + 1 < wr.heap.size := blk_lt M.h1
          have hw2 : w.heap.size + 1 + 1 < wr.heap.size := blk_lt M.h2
          have hgw : g < wr.heap.size := by omega
          have hgpw : gp < wr.heap.size := by omega
          clear M
          generalize psk ps k = p at *
          have hfa := findI_lt ts p.a
          have hfb := findI_lt ts p.b
          go_wp2_with fail
          refine (rfind_any ts g cap _ _ _ _ rfl p.a _ (by simp; omega) (hrow.out.below (below_new _ _) hgw) hn).mono ?_
          rintro e w1 ⟨rfl, hb1⟩
          have M1 := (MM.out.alloc _).keep hb1
          have T1 : w1.heap[wr.heap.size]? = some (.cells (prA p) 133 (0, 0)) := blk_keep (blk_new _ _ _) hb1
          have R1 := (hrow.out.below (below_new _ _) hgw).below hb1 (by simp; omega)
          clear hb1 MM hrow r0 r1 r2 r3 r4 m0 m1 m2 m3 m4 m5 m6
          generalize wr.heap.size = X at *
          have hX1 := blk_lt T1
          obtain ⟨c0, c1, c2, c3, c4⟩ := prA_cells T1
          obtain ⟨m0, m1, m2, m3, m4, m5, m6⟩ := M1.cells
          have HM := hide M1
          have HT := hide T1
          have HR := hide R1
          clear M1 T1 R1
          go_wp2_with fail
          refine (rfind_any ts g cap _ _ _ _ rfl p.b _ (by omega) HR.out hn).mono ?_
          rintro e w2 ⟨rfl, hb2⟩
          have M2 := HM.out.keep hb2
          have T2 := blk_keep HT.out hb2
          have R2 := HR.out.below hb2 (by omega)
          have hX2 : X < w2.heap.size := blk_lt T2
          clear hb2 HM HT HR c0 c1 c2 c3 c4 m0 m1 m2 m3 m4 m5 m6 hX1
          obtain ⟨c0, c1, c2, c3, c4⟩ := prA_cells T2
          obtain ⟨m0, m1, m2, m3, m4, m5, m6⟩ := M2.cells
          have HM := hide M2
          have HT := hide T2
          have HR := hide R2
          clear M2 T2 R2
          have hstep : ∀ f', f' = stepP ts p (mP ts ps k) → mP ts ps (k + 1) = f' := fun f' h => by rw [h]; exact hst.out
          unfold stepP stepP2 stepP1 badPair at hstep
          have hst := hide hstep
          clear hstep
          generalize findI ts p.a = fa at *
          generalize findI ts p.b = fb at *
          by_cases ha : fa < 0
          · have hda : decide (0 ≤ fa) = false := by simp; omega
            have hne1 : ¬ w.heap.size + 1 + 1 = X := by omega
            have hne2 : ¬ X = w.heap.size + 1 + 1 := by omega
            go_wp2_with fail
            refine (rsooner_v (mP ts ps k) 3 p.q0 _ _ _ rfl rfl).mono ?_
            rintro e w10 ⟨rfl, hb10⟩
            have M10 := HM.out.keep hb10
            have T10 := blk_keep HT.out hb10
            have R10 := HR.out.below hb10 (by have := blk_lt HM.out.h0; omega)
            clear hb10 c0 c1 c2 c3 c4 m0 m1 m2 m3 m4 m5 m6
            obtain ⟨c0, c1, c2, c3, c4⟩ := prA_cells T10
            obtain ⟨m0, m1, m2, m3, m4, m5, m6⟩ := M10.cells
            have MS10 := hide (M10.setF (soon (mP ts ps k) 3 p.q0))
            have TS10 := hide (blk_setF T10 (F := w.heap.size + 1 + 1) (by omega) 0 1 (.int .i64 (soon (mP ts ps k) 3 p.q0).1) (.int .i64 (soon (mP ts ps k) 3 p.q0).2))
            have RS10 := hide (row_setF R10 (F := w.heap.size + 1 + 1) (by omega) 0 1 (.int .i64 (soon (mP ts ps k) 3 p.q0).1) (.int .i64 (soon (mP ts ps k) 3 p.q0).2))
            clear M10 T10 R10
            by_cases hb : fb < 0
            · go_wp2_with fail
              refine (rsooner_v (soon (mP ts ps k) 3 p.q0) 3 p.q1 _ _ _ rfl rfl).mono ?_
              rintro e w11 ⟨rfl, hb11⟩
              have M11 := MS10.out.keep hb11
              have T11 := blk_keep TS10.out hb11
              have R11 := RS10.out.below hb11 (by have := blk_lt MS10.out.h0; omega)
              clear hb11 c0 c1 c2 c3 c4 m0 m1 m2 m3 m4 m5 m6
              obtain ⟨c0, c1, c2, c3, c4⟩ := prA_cells T11
              obtain ⟨m0, m1, m2, m3, m4, m5, m6⟩ := M11.cells
              have MS11 := hide (M11.setF (soon (soon (mP ts ps k) 3 p.q0) 3 p.q1))
              have TS11 := hide (blk_setF T11 (F := w.heap.size + 1 + 1) (by omega) 0 1 (.int .i64 (soon (soon (mP ts ps k) 3 p.q0) 3 p.q1).1) (.int .i64 (soon (soon (mP ts ps k) 3 p.q0) 3 p.q1).2))
              have RS11 := hide (row_setF R11 (F := w.heap.size + 1 + 1) (by omega) 0 1 (.int .i64 (soon (soon (mP ts ps k) 3 p.q0) 3 p.q1).1) (.int .i64 (soon (soon (mP ts ps k) 3 p.q0) 3 p.q1).2))
              clear M11 T11 R11
              go_wp2_with fail
              go_quiet (fail)
              go_wp2
              go_roundw
              case rel => exact ⟨k + 1, by omega, by go_num, by rw [hst.out (soon (soon (mP ts ps k) 3 p.q0) 3 p.q1) (by simp [show fa < 0 by omega, show fb < 0 by omega, show ¬ 0 ≤ fa by omega])]; exact MS11.out.drewN _⟩
              case measure => simp [intOf]; omega
            · go_wp2_with fail
              go_quiet (fail)
              go_wp2
              go_roundw
              case rel => exact ⟨k + 1, by omega, by go_num, by rw [hst.out (soon (mP ts ps k) 3 p.q0) (by simp [show fa < 0 by omega, show ¬ fb < 0 by omega, show ¬ 0 ≤ fa by omega])]; exact MS10.out.drewN _⟩
              case measure => simp [intOf]; omega
          · have hda : decide (0 ≤ fa) = true := by simp; omega
            have hne1 : ¬ w.heap.size + 1 + 1 = X := by omega
            have hne2 : ¬ X = w.heap.size + 1 + 1 := by omega
            by_cases hb : fb < 0
            · have hdb : decide (0 ≤ fb) = false := by simp; omega
              go_wp2_with fail
              refine (rsooner_v (mP ts ps k) 3 p.q1 _ _ _ rfl rfl).mono ?_
              rintro e w12 ⟨rfl, hb12⟩
              have M12 := HM.out.keep hb12
              have T12 := blk_keep HT.out hb12
              have R12 := HR.out.below hb12 (by have := blk_lt HM.out.h0; omega)
              clear hb12 c0 c1 c2 c3 c4 m0 m1 m2 m3 m4 m5 m6
              obtain ⟨c0, c1, c2, c3, c4⟩ := prA_cells T12
              obtain ⟨m0, m1, m2, m3, m4, m5, m6⟩ := M12.cells
              have MS12 := hide (M12.setF (soon (mP ts ps k) 3 p.q1))
              have TS12 := hide (blk_setF T12 (F := w.heap.size + 1 + 1) (by omega) 0 1 (.int .i64 (soon (mP ts ps k) 3 p.q1).1) (.int .i64 (soon (mP ts ps k) 3 p.q1).2))
              have RS12 := hide (row_setF R12 (F := w.heap.size + 1 + 1) (by omega) 0 1 (.int .i64 (soon (mP ts ps k) 3 p.q1).1) (.int .i64 (soon (mP ts ps k) 3 p.q1).2))
              clear M12 T12 R12
              go_wp2_with fail
              go_quiet (fail)
              go_wp2
              go_roundw
              case rel => exact ⟨k + 1, by omega, by go_num, by rw [hst.out (soon (mP ts ps k) 3 p.q1) (by simp [show ¬ fa < 0 by omega, show fb < 0 by omega, show ¬ 0 ≤ fb by omega])]; exact MS12.out.drewN _⟩
              case measure => simp [intOf]; omega
            · obtain ⟨na, rfl⟩ := Int.eq_ofNat_of_zero_le (show 0 ≤ fa by omega)
              obtain ⟨nb, rfl⟩ := Int.eq_ofNat_of_zero_le (show 0 ≤ fb by omega)
              have hna : na < ts.length := by omega
              have hnb : nb < ts.length := by omega
              have ra := (HR.out na hna).2.1
              have rb := (HR.out nb hnb).2.1
              simp only [Int.toNat_natCast] at hst
              have ha0 : ¬ (na : Int) < 0 := by omega
              have hb0 : ¬ (nb : Int) < 0 := by omega
              clear ha hb hda
              have hda : decide ((0 : Int) ≤ na) = true := by simp
              have hdb : decide ((0 : Int) ≤ nb) = true := by simp
              by_cases he : na = nb
              · have he1 : ((na : Int) == nb) = true := by simp; omega
                have he2 : (na : Int) = nb := by omega
                have HE := hide he2
                clear he2 he
                go_wp2_with fail
                go_quiet (fail)
                go_wp2_with fail
                refine (rsooner_v (mP ts ps k) 5 p.q1 _ _ _ rfl rfl).mono ?_
                rintro e w13 ⟨rfl, hb13⟩
                have M13 := (HM.out.drewN _).keep hb13
                clear hb13 c0 c1 c2 c3 c4 m0 m1 m2 m3 m4 m5 m6
                obtain ⟨m0, m1, m2, m3, m4, m5, m6⟩ := M13.cells
                have MS13 := hide (M13.setF (soon (mP ts ps k) 5 p.q1))
                clear M13
                go_wp2
                go_roundw
                case rel => exact ⟨k + 1, by omega, by go_num, by rw [hst.out (soon (mP ts ps k) 5 p.q1) (by simp [HE.out, show ¬ (nb : Int) < 0 by omega])]; exact MS13.out⟩
                case measure => simp [intOf]; omega
              · have he1 : ((na : Int) == nb) = false := by simp; omega
                have he2 : ¬ (na : Int) = nb := by omega
                have HE := hide he
                clear he
                cases hap : p.ap
                · by_cases hP : (tsk ts na).P = (tsk ts nb).P
                  · have hP1 : (((tsk ts na).P : Int) != (tsk ts nb).P) = false := by simp; omega
                    have HP := hide hP
                    clear hP
                    rw [hap] at c2
                    go_wp2_with fail
                    go_quiet (fail)
                    go_wp2
                    go_roundw
                    case rel => exact ⟨k + 1, by omega, by go_num, by rw [hst.out (mP ts ps k) (by have h1 := HE.out; have h2 := HP.out; simp [h2, hap, show ¬ (na : Int) = nb by omega, show ¬ (na : Int) < 0 by omega, show ¬ (nb : Int) < 0 by omega])]; exact HM.out.drewN _⟩
                    case measure => simp [intOf]; omega
                  · have hP1 : (((tsk ts na).P : Int) != (tsk ts nb).P) = true := by rw [bne_iff_ne]; omega
                    have HP := hide hP
                    clear hP
                    rw [hap] at c2
                    go_wp2_with fail
                    go_quiet (fail)
                    go_wp2_with fail
                    refine (rsooner_v (mP ts ps k) 5 p.q1 _ _ _ rfl rfl).mono ?_
                    rintro e w14 ⟨rfl, hb14⟩
                    have M14 := (HM.out.drewN _).keep hb14
                    clear hb14 c0 c1 c2 c3 c4 m0 m1 m2 m3 m4 m5 m6
                    obtain ⟨m0, m1, m2, m3, m4, m5, m6⟩ := M14.cells
                    have MS14 := hide (M14.setF (soon (mP ts ps k) 5 p.q1))
                    clear M14
                    go_wp2
                    go_roundw
                    case rel => exact ⟨k + 1, by omega, by go_num, by rw [hst.out (soon (mP ts ps k) 5 p.q1) (by have h2 := HP.out; simp [h2, hap, show ¬ (na : Int) < 0 by omega, show ¬ (nb : Int) < 0 by omega])]; exact MS14.out⟩
                    case measure => simp [intOf]; omega
                · rw [hap] at c2
                  go_wp2_with fail
                  go_quiet (fail)
                  go_wp2
                  go_roundw
                  case rel => exact ⟨k + 1, by omega, by go_num, by rw [hst.out (mP ts ps k) (by have h1 := HE.out; simp [hap, show ¬ (na : Int) = nb by omega, show ¬ (na : Int) < 0 by omega, show ¬ (nb : Int) < 0 by omega])]; exact HM.out.drewN _⟩
                  case measure => simp [intOf]; omega
        · have hkl : k = ps.length := by omega
          subst hkl
          obtain ⟨m0, m1, m2, m3, m4, m5, m6⟩ := M.cells
          have HM := hide M
          clear M
          go_wp2
          refine bodyPost_ret (v := faultV (mP ts ps ps.length)) (by simp [results, Tryz.results53, go_sem, m5, faultV]) rfl ⟨rfl, ?_⟩
          exact (HM.out.b.setCell (by show w.heap.size ≤ w.heap.size + 1; omega) _).setCell (by show w.heap.size ≤ w.heap.size + 1; omega) _
end Go.Proofs.YtbdffcjganlblaaGreatDoor
