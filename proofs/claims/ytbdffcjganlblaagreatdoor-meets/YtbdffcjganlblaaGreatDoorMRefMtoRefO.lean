/-
  Own work. The document's answer: Known.
-/
import Derived.Test.YtbdffcjganlblaaGreatDoorMRefJtoRefL
import Derived.Deep.RegionWith
import Derived.Deep.DeepCutAuto
namespace Go.Proofs.YtbdffcjganlblaaGreatDoor
open Go.RowKit
set_option linter.unusedVariables false
set_option linter.unusedSimpArgs false

theorem tokAt_N (l : List UInt8) (i : Nat) : (tokAt l i).N ≤ 9999 := by
  unfold PT.N
  split
  · rename_i hk
    revert hk
    unfold tokAt
    split
    · intro hk; simp at hk
    · rename_i c r hd
      split
      · rename_i hs
        intro hk
        simp at hk
        simp [signB, hk] at hs
      · split
        · intro hk; simp at hk
        · split
          · rename_i h4
            intro _
            simp only
            have h1 := dval_lt ((c :: r).take (lead digitB (c :: r))) (by
              intro d hd'
              have := mem_lead digitB (c :: r) _ (Nat.le_refl _) d hd'
              simp [digitB] at this
              omega)
            have h2 : ((c :: r).take (lead digitB (c :: r))).length ≤ 4 := by rw [List.length_take]; omega
            have h3 : 10 ^ ((c :: r).take (lead digitB (c :: r))).length ≤ 10 ^ 4 := Nat.pow_le_pow_right (by omega) h2
            omega
          · intro hk; simp at hk
  · omega

theorem toks_N : ∀ (f : Nat) (l : List UInt8) (i : Nat), ∀ t ∈ toks f l i, t.N ≤ 9999
  | 0, l, i, t, h => by simp [toks] at h; rw [h]; exact tokAt_N _ _
  | f + 1, l, i, t, h => by
    rw [toks] at h
    split at h
    · simp at h; rw [h]; exact tokAt_N _ _
    · rcases List.mem_cons.1 h with rfl | h
      · exact tokAt_N _ _
      · exact toks_N f l _ t h

theorem tk_N (l : List UInt8) (j : Nat) : (tk (allToks l) j).N ≤ 9999 := by
  unfold tk
  rw [List.getD_eq_getElem?_getD]
  cases h : (allToks l)[j]? with
  | none => simp [PT.N]
  | some t => exact toks_N _ _ _ t (List.mem_of_getElem? h)

theorem pRest_small {l : List UInt8} {nm : UInt8} {P O q0 q1 q2 j : Nat} {t : Tk} {k : Nat} (hP : P ≤ 9999) (hO : O ≤ 9999) (h : pRest (allToks l) nm P O q0 q1 q2 j = .ok (t, k)) : t.small := by
  unfold pRest at h
  repeat (split at h; rotate_left; simp at h)
  injection h with h
  injection h with h1 h2
  subst h1
  exact ⟨hP, hO, tk_N _ _, tk_N _ _⟩
theorem pTask_small {l : List UInt8} {i : Nat} {t : Tk} {k : Nat} (h : pTask (allToks l) i = .ok (t, k)) : t.small := by
  unfold pTask at h
  split at h
  · split at h
    · split at h
      · split at h
        · split at h
          · exact pRest_small (tk_N _ _) (tk_N _ _) h
          · simp at h
        · exact pRest_small (tk_N _ _) (by omega) h
      · simp at h
    · simp at h
  · simp at h
theorem pTasks_small {l : List UInt8} : ∀ (f i : Nat) (ts : List Tk) (k : Nat), pTasks f (allToks l) i = .ok (ts, k) → (∀ t ∈ ts, t.small) ∧ 1 ≤ ts.length ∧ ts.length ≤ f
  | 0, i, ts, k, h => by simp [pTasks] at h
  | f + 1, i, ts, k, h => by
    rw [pTasks] at h
    cases ht : pTask (allToks l) i with
    | error e => rw [ht] at h; simp at h
    | ok x =>
      obtain ⟨t, j⟩ := x
      rw [ht] at h
      simp only at h
      split at h
      · cases hr : pTasks f (allToks l) (j + 1) with
        | error e => rw [hr] at h; simp at h
        | ok y =>
          obtain ⟨ts', k'⟩ := y
          rw [hr] at h
          simp at h
          obtain ⟨rfl, rfl⟩ := h
          obtain ⟨h1, h2, h3⟩ := pTasks_small f (j + 1) ts' k' hr
          refine ⟨?_, by simp, by simp; omega⟩
          intro t' ht'
          rcases List.mem_cons.1 ht' with rfl | h'
          · exact pTask_small ht
          · exact h1 t' h'
      · simp at h
        obtain ⟨rfl, rfl⟩ := h
        refine ⟨?_, by simp, by simp⟩
        intro t' ht'
        simp at ht'
        rw [ht']
        exact pTask_small ht
theorem pPairs_len {T : List PT} : ∀ (f i : Nat) (ps : List Pr) (k : Nat), pPairs f T i = .ok (ps, k) → ps.length ≤ f
  | 0, i, ps, k, h => by simp [pPairs] at h; simp [← h.1]
  | f + 1, i, ps, k, h => by
    rw [pPairs] at h
    split at h
    · cases hp : pPair T (!(sees (tk T i) wBefore)) (i + 1) with
      | error e => rw [hp] at h; simp at h
      | ok x =>
        obtain ⟨p, j⟩ := x
        rw [hp] at h
        simp only at h
        cases hr : pPairs f T j with
        | error e => rw [hr] at h; simp at h
        | ok y =>
          obtain ⟨ps', k'⟩ := y
          rw [hr] at h
          simp at h
          obtain ⟨rfl, rfl⟩ := h
          have := pPairs_len f j ps' k' hr
          simp; omega
    · simp at h; obtain ⟨rfl, rfl⟩ := h; simp
theorem pSet_bounds {l : List UInt8} {ts : List Tk} {ps : List Pr} (h : pSet (allToks l) = .ok (ts, ps)) : (∀ t ∈ ts, t.small) ∧ 1 ≤ ts.length ∧ ts.length ≤ 6 ∧ ps.length ≤ 6 := by
  unfold pSet at h
  cases h1 : pFirst (allToks l) with
  | error e => rw [h1] at h; simp at h
  | ok x =>
    obtain ⟨ts', j⟩ := x
    rw [h1] at h
    simp only at h
    cases h2 : pPairs 6 (allToks l) j with
    | error e => rw [h2] at h; simp at h
    | ok y =>
      obtain ⟨ps', k⟩ := y
      rw [h2] at h
      simp only at h
      split at h
      · simp at h
        obtain ⟨rfl, rfl⟩ := h
        unfold pFirst at h1
        split at h1
        · obtain ⟨a, b, c⟩ := pTasks_small _ _ _ _ h1
          exact ⟨a, b, c, pPairs_len _ _ _ _ h2⟩
        · simp at h1
      · simp at h
theorem tsk_mem {ts : List Tk} {k : Nat} (h : k < ts.length) : tsk ts k ∈ ts := by
  unfold tsk
  rw [List.getD_eq_getElem?_getD, List.getElem?_eq_getElem h]
  exact List.getElem_mem h

theorem soon_ne {f : Nat × Nat} {e a : Nat} (he : e ≠ 0) : (soon f e a).1 ≠ 0 := by
  unfold soon; split
  · exact he
  · intro h; simp_all
theorem stepT_zero {ts : List Tk} {k : Nat} {f : Nat × Nat} (h : (stepT ts k f).1 = 0) : f.1 = 0 ∧ timedI (tsk ts k) < 0 := by
  unfold stepT at h
  split at h
  · exact absurd h (soon_ne (by decide))
  · refine ⟨?_, by omega⟩
    unfold stepT1 at h
    split at h
    · exact absurd h (soon_ne (by decide))
    · exact h
theorem mT_zero {ts : List Tk} : ∀ n, (mT ts n).1 = 0 → ∀ k, k < n → timedI (tsk ts k) < 0
  | 0, _, k, hk => by omega
  | n + 1, h, k, hk => by
    rw [mT] at h
    obtain ⟨h1, h2⟩ := stepT_zero h
    by_cases hkn : k = n
    · subst hkn; exact h2
    · exact mT_zero n h1 k (by omega)
theorem stepP_zero {ts : List Tk} {p : Pr} {f : Nat × Nat} (h : (stepP ts p f).1 = 0) : f.1 = 0 := by
  unfold stepP at h
  split at h
  · exact absurd h (soon_ne (by decide))
  · unfold stepP2 at h
    split at h
    · exact absurd h (soon_ne (by decide))
    · unfold stepP1 at h
      split at h
      · exact absurd h (soon_ne (by decide))
      · exact h
theorem mP_zero {ts : List Tk} {ps : List Pr} : ∀ n, (mP ts ps n).1 = 0 → (mT ts ts.length).1 = 0
  | 0, h => h
  | n + 1, h => mP_zero n (stepP_zero h)
theorem timed_P {t : Tk} (h : timedI t < 0) : 1 ≤ t.P ∧ t.P ≤ 60 ∧ t.O < t.P ∧ 1 ≤ t.C ∧ t.C ≤ 60 ∧ t.D ≤ 60 := by
  unfold timedI at h
  repeat (split at h; omega)
  omega

/-- What the document knows of a text: an error with its place, or the set. -/
def knownR (l : List UInt8) : Except (Nat × Nat) (List Tk × List Pr) :=
  if 400 < l.length then .error (1, 0)
  else match pSet (allToks l) with
    | .error j => .error (2, (tk (allToks l) j).at_)
    | .ok (ts, ps) => if (meantI ts ps).1 ≠ 0 then .error (meantI ts ps) else if cycI ts = 0 then .error (4, 0) else .ok (ts, ps)

def KnownPost (R : Except (Nat × Nat) (List Tk × List Pr)) (w : World) (e : Ending) (w' : World) : Prop :=
  Below w.heap.size w w' ∧
  ((∃ f : Nat × Nat, R = .error f ∧ e = .returned (.tuple #[.agg #[.slice none 0 0, .slice none 0 0], .int .i64 f.1, .int .i64 f.2])) ∨
   (∃ ts ps tv pv, R = .ok (ts, ps) ∧ e = .returned (.tuple #[.agg #[tv, pv], .int .i64 0, .int .i64 0]) ∧ w'.ownsRow w.heap.size 95 10 tv ts.length (tkRow ts) ∧ w'.ownsRow w.heap.size 133 5 pv ps.length (prRow ps)))

set_option maxRecDepth 100000 in
set_option maxHeartbeats 1000000 in
theorem rParse_long (s : ByteArray) (w : World) (hs : 400 < s.size) (hm : s.size ≤ 9223372036854775807) :
    Calls Tryz.prog 52 #[.string s] w fun e w' => e = .returned (.tuple #[.agg #[.slice none 0 0, .slice none 0 0], .int .i64 1, .int .i64 0]) ∧ Below w.heap.size w w' := by
  have hs' : (400 : Int) < s.size := by omega
  go_enter Tryz.func52, Tryz.ntmps52
  go_wp2
  exact bodyPost_ret (v := .tuple #[.agg #[.slice none 0 0, .slice none 0 0], .int .i64 1, .int .i64 0]) (by simp [results, Tryz.results52, go_sem]) rfl ⟨rfl, below_new _ _⟩

theorem hp_of {w : World} {base : Nat} {ps : List Pr} {pa : Option Addr} {pc : Nat} (h : w.ownsRow base 133 5 (.slice pa ps.length pc) ps.length (prRow ps)) :
    0 < ps.length → ∃ gp, pa = some ⟨gp, 0, none⟩ ∧ gp < w.heap.size ∧ RowP w gp ps := by
  intro hn
  obtain ⟨g, cap, e, h1, h2⟩ := own_form h hn
  injection e with e1 e2 e3
  subst e1
  exact ⟨g, rfl, h2, rowP_own h⟩

set_option maxRecDepth 100000 in
set_option maxHeartbeats 2000000 in
theorem rKnown_any (s : ByteArray) (w : World) (hm : s.size ≤ 9223372036854775807) :
    Calls Tryz.prog 27 #[.string s] w (KnownPost (knownR s.data.toList) w) := by
  have hl : s.data.toList.length = s.size := by simp
  by_cases hs : 400 < s.size
  · have hR : Hid (knownR s.data.toList = .error (1, 0)) := by unfold Hid knownR; rw [if_pos (by omega)]
    go_enter Tryz.func27, Tryz.ntmps27
    go_wp2_with fail
    refine (rParse_long s _ hs hm).mono ?_
    rintro e w1 ⟨rfl, hb⟩
    have hb' : Below w.heap.size w w1 := (below_new w _).trans (hb.mono (by simp))
    have hc : ∀ o, w1.cell? ⟨w.heap.size, o, none⟩ = #[Value.slice none 0 0, .slice none 0 0][o]? := blk_cell (blk_keep (blk_new w _ _) hb)
    have hf : ∀ o, w1.frozen? ⟨w.heap.size, o, none⟩ = false := blk_frozen (blk_keep (blk_new w _ _) hb)
    have hlt : w.heap.size < w1.heap.size := blk_lt (blk_keep (blk_new w _ _) hb)
    have Hb := hide hb'
    clear hb hb'
    go_wp2
    refine bodyPost_ret (v := .tuple #[.agg #[.slice none 0 0, .slice none 0 0], .int .i64 1, .int .i64 0]) (by simp [results, Tryz.results27, go_sem, hc, hlt]) rfl ⟨?_, .inl ⟨(1, 0), hR.out, rfl⟩⟩
    exact ((Hb.out.setCell (Nat.le_refl _) _).setCell (Nat.le_refl _) _).alloc (by rw [heap_set_size, heap_set_size]; omega) _
  · have hs4 : s.size ≤ 400 := by omega
    have hRd : knownR s.data.toList = match pSet (allToks s.data.toList) with
        | .error j => .error (2, (tk (allToks s.data.toList) j).at_)
        | .ok (ts, ps) => if (meantI ts ps).1 ≠ 0 then .error (meantI ts ps) else if cycI ts = 0 then .error (4, 0) else .ok (ts, ps) := by
      unfold knownR; rw [if_neg (by omega)]
    have hbd := fun ts ps => pSet_bounds (l := s.data.toList) (ts := ts) (ps := ps)
    have HR := hide hRd
    have Hbd := hide hbd
    clear hRd hbd hl
    go_enter Tryz.func27, Tryz.ntmps27
    go_wp2_with fail
    refine (rParse_any s _ hs4).mono ?_
    rintro e w1 ⟨hb, hcase⟩
    have hb' : Below w.heap.size w w1 := (below_new w _).trans (hb.mono (by simp))
    have hY := blk_keep (blk_new w _ _) hb
    have hc : ∀ o, w1.cell? ⟨w.heap.size, o, none⟩ = #[Value.slice none 0 0, .slice none 0 0][o]? := blk_cell hY
    have hf : ∀ o, w1.frozen? ⟨w.heap.size, o, none⟩ = false := blk_frozen hY
    have hlt : w.heap.size < w1.heap.size := blk_lt hY
    have Hb := hide hb'
    have HY := hide hY
    clear hb hb' hY
    rcases hcase with ⟨j, hj, rfl⟩ | ⟨ts, ps, tv, pv, hj, rfl, ht, hp⟩
    · have hR : Hid (knownR s.data.toList = .error (2, (tk (allToks s.data.toList) j).at_)) := by unfold Hid; rw [HR.out, hj]
      clear hj HR
      generalize (tk (allToks s.data.toList) j).at_ = aa at *
      go_wp2
      refine bodyPost_ret (v := .tuple #[.agg #[.slice none 0 0, .slice none 0 0], .int .i64 2, .int .i64 aa]) (by simp [results, Tryz.results27, go_sem, hc, hlt]) rfl ⟨?_, .inl ⟨(2, aa), hR.out, rfl⟩⟩
      exact ((Hb.out.setCell (Nat.le_refl _) _).setCell (Nat.le_refl _) _).alloc (by rw [heap_set_size, heap_set_size]; omega) _
    · obtain ⟨hsm, hn1, hn6, hm6⟩ := Hbd.out ts ps hj
      obtain ⟨g, cap, rfl, hg1, hg2⟩ := own_form ht (by omega)
      obtain ⟨pa, pc, rfl⟩ := own_slice hp
      have hRow := rowT_own ht
      have hPP := hp_of hp
      have hR : Hid (knownR s.data.toList = if (meantI ts ps).1 ≠ 0 then .error (meantI ts ps) else if cycI ts = 0 then .error (4, 0) else .ok (ts, ps)) := by unfold Hid; rw [HR.out, hj]
      have Hsm : Hid (∀ k, k < ts.length → (tsk ts k).small) := fun k hk => hsm _ (tsk_mem hk)
      have Hrow := hide hRow
      have Hpp := hide hPP
      have Ht := hide ht
      have Hp := hide hp
      clear hj HR Hbd hsm hRow hPP ht hp
      simp only [World.size_alloc] at hg1
      go_wp2_with fail
      refine (rmeant_any ts ps g cap pa pc _ (by simp; omega) (Hrow.out.below (below_new _ _) hg2) hn6 Hsm.out hm6 ?_).mono ?_
      · intro hq
        obtain ⟨gp, e1, e2, e3⟩ := Hpp.out hq
        exact ⟨gp, e1, by simp; omega, e3.below (below_new _ _) e2⟩
      rintro e w2 ⟨rfl, hb2⟩
      have hX := blk_keep (blk_new w1 _ _) hb2
      have hb12 : Below w1.heap.size w1 w2 := (below_new w1 _).trans (hb2.mono (by simp))
      have hY2 := blk_keep HY.out hb12
      have x0 : ∀ o, w2.cell? ⟨w1.heap.size, o, none⟩ = #[Value.slice (some ⟨g, 0, none⟩) ts.length cap, .slice pa ps.length pc][o]? := blk_cell hX
      have y0 : ∀ o, w2.cell? ⟨w.heap.size, o, none⟩ = #[Value.slice none 0 0, .slice none 0 0][o]? := blk_cell hY2
      have y1 : ∀ o, w2.frozen? ⟨w.heap.size, o, none⟩ = false := blk_frozen hY2
      have hl2 : w.heap.size < w2.heap.size := blk_lt hY2
      have hl3 : w1.heap.size < w2.heap.size := blk_lt hX
      have Hb2 := hide (Hb.out.trans (hb12.mono (by omega)))
      have Hb12 := hide hb12
      have HX2 := hide hX
      have HY2 := hide hY2
      clear hb2 hX hb12 hY2 hc hf HY
      unfold faultV
      by_cases hE : (meantI ts ps).1 = 0
      · have hE' : (((meantI ts ps).1 : Int) != 0) = false := by simp; omega
        have hP : Hid (∀ k, k < ts.length → 1 ≤ (tsk ts k).P ∧ (tsk ts k).P ≤ 60) := by
          intro k hk
          have := timed_P (mT_zero ts.length (mP_zero ps.length hE) k hk)
          omega
        have hR2 : Hid (knownR s.data.toList = if cycI ts = 0 then .error (4, 0) else .ok (ts, ps)) := by unfold Hid; rw [hR.out, if_neg (by omega)]
        clear hR hE
        generalize meantI ts ps = F at *
        go_wp2_with fail
        refine (rCycle_any ts g cap _ _ _ _ rfl _ (by simp; omega) ((Hrow.out.below Hb12.out hg2).below (below_new _ _) (by omega)) hn6 hP.out).mono ?_
        rintro e w3 ⟨rfl, hb3⟩
        have hb23 : Below w2.heap.size w2 w3 := (below_new w2 _).trans (hb3.mono (by simp))
        have hX3 := blk_keep HX2.out hb23
        have hY3 := blk_keep HY2.out hb23
        have z0 : ∀ o, w3.cell? ⟨w1.heap.size, o, none⟩ = #[Value.slice (some ⟨g, 0, none⟩) ts.length cap, .slice pa ps.length pc][o]? := blk_cell hX3
        have z1 : ∀ o, w3.cell? ⟨w.heap.size, o, none⟩ = #[Value.slice none 0 0, .slice none 0 0][o]? := blk_cell hY3
        have z2 : ∀ o, w3.frozen? ⟨w.heap.size, o, none⟩ = false := blk_frozen hY3
        have Hb3 := hide (Hb2.out.trans (hb23.mono (by omega)))
        have Ht3 := hide (owns_below (owns_below Ht.out Hb12.out) hb23)
        have Hp3 := hide (owns_below (owns_below Hp.out Hb12.out) hb23)
        clear hb3 hb23 hX3 hY3 x0 y0 y1
        by_cases hC : cycI ts = 0
        · have hC' : ((cycI ts : Int) == 0) = true := by simp; omega
          have hR3 : Hid (knownR s.data.toList = .error (4, 0)) := by unfold Hid; rw [hR2.out, if_pos hC]
          clear hC hR2
          generalize cycI ts = cc at *
          go_wp2
          refine bodyPost_ret (v := .tuple #[.agg #[.slice none 0 0, .slice none 0 0], .int .i64 4, .int .i64 0]) (by simp [results, Tryz.results27, go_sem, z1]) rfl ⟨?_, .inl ⟨(4, 0), hR3.out, rfl⟩⟩
          exact (Hb3.out.setCell (Nat.le_refl _) _).setCell (Nat.le_refl _) _
        · have hC' : ((cycI ts : Int) == 0) = false := by simp; omega
          have hR3 : Hid (knownR s.data.toList = .ok (ts, ps)) := by unfold Hid; rw [hR2.out, if_neg hC]
          clear hC hR2
          generalize cycI ts = cc at *
          go_wp2
          refine bodyPost_ret (v := .tuple #[.agg #[.slice (some ⟨g, 0, none⟩) ts.length cap, .slice pa ps.length pc], .int .i64 0, .int .i64 0]) (by simp [results, Tryz.results27, go_sem, z1]) rfl ⟨?_, .inr ⟨ts, ps, _, _, hR3.out, rfl, ?_, ?_⟩⟩
          · exact (Hb3.out.setCell (Nat.le_refl _) _).setCell (Nat.le_refl _) _
          · exact own_weak (ownsRow_setCell_below (ownsRow_setCell_below Ht3.out (by simp) _) (by simp) _) (by simp)
          · exact own_weak (ownsRow_setCell_below (ownsRow_setCell_below Hp3.out (by simp) _) (by simp) _) (by simp)
      · have hE' : (((meantI ts ps).1 : Int) != 0) = true := by rw [bne_iff_ne]; omega
        have hR2 : Hid (knownR s.data.toList = .error (meantI ts ps)) := by unfold Hid; rw [hR.out, if_pos hE]
        clear hR hE
        generalize meantI ts ps = F at *
        go_wp2
        go_region
        go_wp2
        refine bodyPost_ret (v := .tuple #[.agg #[.slice none 0 0, .slice none 0 0], .int .i64 F.1, .int .i64 F.2]) (by simp [results, Tryz.results27, go_sem, y0, hl2]) rfl ⟨?_, .inl ⟨F, hR2.out, rfl⟩⟩
        exact (((Hb2.out.setCell (Nat.le_refl _) _).setCell (Nat.le_refl _) _).alloc (by rw [heap_set_size, heap_set_size]; omega) _).drew
end Go.Proofs.YtbdffcjganlblaaGreatDoor

namespace Go.Proofs.YtbdffcjganlblaaGreatDoor
open Go.RowKit
set_option linter.unusedVariables false
set_option linter.unusedSimpArgs false

def dlo : ByteArray := ⟨#[48, 49, 50, 51, 52, 53, 54, 55, 56, 57, 97, 98, 99, 100, 101, 102, 103, 104, 105, 106, 107, 108, 109, 110, 111, 112, 113, 114, 115, 116, 117, 118, 119, 120, 121, 122]⟩
def dhi : ByteArray := ⟨#[48, 48, 48, 49, 48, 50, 48, 51, 48, 52, 48, 53, 48, 54, 48, 55, 48, 56, 48, 57, 49, 48, 49, 49, 49, 50, 49, 51, 49, 52, 49, 53, 49, 54, 49, 55, 49, 56, 49, 57, 50, 48, 50, 49, 50, 50, 50, 51, 50, 52, 50, 53, 50, 54, 50, 55, 50, 56, 50, 57, 51, 48, 51, 49, 51, 50, 51, 51, 51, 52, 51, 53, 51, 54, 51, 55, 51, 56, 51, 57, 52, 48, 52, 49, 52, 50, 52, 51, 52, 52, 52, 53, 52, 54, 52, 55, 52, 56, 52, 57, 53, 48, 53, 49, 53, 50, 53, 51, 53, 52, 53, 53, 53, 54, 53, 55, 53, 56, 53, 57, 54, 48, 54, 49, 54, 50, 54, 51, 54, 52, 54, 53, 54, 54, 54, 55, 54, 56, 54, 57, 55, 48, 55, 49, 55, 50, 55, 51, 55, 52, 55, 53, 55, 54, 55, 55, 55, 56, 55, 57, 56, 48, 56, 49, 56, 50, 56, 51, 56, 52, 56, 53, 56, 54, 56, 55, 56, 56, 56, 57, 57, 48, 57, 49, 57, 50, 57, 51, 57, 52, 57, 53, 57, 54, 57, 55, 57, 56, 57, 57]⟩
/-- A number below 100, written out. -/
def dB (n : Nat) : ByteArray := if n < 10 then dlo.extract n (n + 1) else dhi.extract (n * 2) (n * 2 + 2)
theorem dB_size (n : Nat) : (dB n).size ≤ 2 := by
  unfold dB
  split <;> simp only [ByteArray.size_extract] <;> omega

set_option maxRecDepth 100000 in
set_option maxHeartbeats 1000000 in
theorem small_any (n : Nat) (w : World) (hn2 : n < 100) :
    Calls Tryz.prog 166 #[.int .i64 n] w fun e w' => e = .returned (.string (dB n)) ∧ w' = w := by
  by_cases hn : n < 10
  · have hn' : (n : Int) < 10 := by omega
    have hd : Hid (dB n = dlo.extract n (n + 1)) := by unfold Hid dB; rw [if_pos hn]
    go_enter Tryz.func166, Tryz.ntmps166
    go_wp2
    go_ret
    refine ⟨?_, rfl⟩
    rw [hd.out]
    rfl
  · have hn' : ¬ (n : Int) < 10 := by omega
    have hd : Hid (dB n = dhi.extract (n * 2) (n * 2 + 2)) := by unfold Hid dB; rw [if_neg hn]
    go_enter Tryz.func166, Tryz.ntmps166
    go_wp2
    go_ret
    refine ⟨?_, rfl⟩
    rw [hd.out]
    rfl

set_option maxRecDepth 100000 in
set_option maxHeartbeats 1000000 in
theorem format_any (n : Nat) (w : World) (hn : n < 100) :
    Calls Tryz.prog 148 #[.int .i64 n, .int .i64 10] w fun e w' => e = .returned (.string (dB n)) ∧ w' = w := by
  have h1 : (0 : Int) ≤ n := by omega
  have h2 : (n : Int) < 100 := by omega
  go_enter Tryz.func148, Tryz.ntmps148
  go_wp2_with (go_at_call 166; refine (small_any n _ hn).mono ?_; rintro e w' ⟨rfl, rfl⟩)
  go_ret
  exact ⟨rfl, rfl⟩

set_option maxRecDepth 100000 in
set_option maxHeartbeats 1000000 in
theorem iitoa_any (n : Nat) (w : World) (hn : n < 100) :
    Calls Tryz.prog 112 #[.int .i64 n] w fun e w' => e = .returned (.string (dB n)) ∧ w' = w := by
  go_enter Tryz.func112, Tryz.ntmps112
  go_wp2_with (go_at_call 148; refine (format_any n _ hn).mono ?_; rintro e w' ⟨rfl, rfl⟩)
  go_ret
  exact ⟨rfl, rfl⟩

set_option maxRecDepth 100000 in
set_option maxHeartbeats 1000000 in
theorem itoa_any (n : Nat) (w : World) (hn : n < 100) :
    Calls Tryz.prog 71 #[.int .i64 n] w fun e w' => e = .returned (.string (dB n)) ∧ w' = w := by
  go_enter Tryz.func71, Tryz.ntmps71
  go_wp2_with (go_at_call 112; refine (iitoa_any n _ hn).mono ?_; rintro e w' ⟨rfl, rfl⟩)
  go_ret
  exact ⟨rfl, rfl⟩

end Go.Proofs.YtbdffcjganlblaaGreatDoor

namespace Go.Proofs.YtbdffcjganlblaaGreatDoor
open Go.RowKit
set_option linter.unusedVariables false
set_option linter.unusedSimpArgs false

def dL (n : Nat) : List UInt8 := (dB n).data.toList
theorem dL_len (n : Nat) : (dL n).length ≤ 2 := by
  have := dB_size n
  simpa [dL] using this
end Go.Proofs.YtbdffcjganlblaaGreatDoor
