/-
  Own work. The program's checks: check.
-/
import Derived.Test.YtbdffcjganlblaaGreatDoorProgI
import Derived.Deep.RegionWith
namespace Go.Proofs.YtbdffcjganlblaaGreatDoor
open Go.RowKit
set_option linter.unusedVariables false
set_option linter.unusedSimpArgs false

/-- What is wrong with task k. -/
def tE (l : List (Tk × Nat)) (k : Nat) : Option (Nat × Nat) :=
  if 0 ≤ findL l (lk l k).1.nm k 0 then some (3, (lk l k).1.q0) else if 0 ≤ timedI (lk l k).1 then some (4, (timedI (lk l k).1).toNat) else none
def ckT (l : List (Tk × Nat)) : Nat → Nat → Option (Nat × Nat)
  | 0, _ => none
  | f + 1, k => match tE l k with
    | some x => some x
    | none => ckT l f (k + 1)
def ckP (l : List (Tk × Nat)) (ps : List Pr) : Nat → Nat → Option (Nat × Nat)
  | 0, _ => none
  | f + 1, k => match pE l (psk ps k) with
    | some x => some x
    | none => ckP l ps f (k + 1)
/-- The first thing that is wrong. -/
def checkR (l : List (Tk × Nat)) (ps : List Pr) : Option (Nat × Nat) :=
  match ckT l l.length 0 with
  | some x => some x
  | none => match ckP l ps ps.length 0 with
    | some x => some x
    | none => if cycI (l.map Prod.fst) = 0 then some (4, 0) else none

theorem ckT_step (l : List (Tk × Nat)) (k : Nat) (h : k < l.length) : ckT l (l.length - k) k = match tE l k with
    | some x => some x
    | none => ckT l (l.length - (k + 1)) (k + 1) := by
  rw [show l.length - k = (l.length - (k + 1)) + 1 by omega, ckT]
theorem ckP_step (l : List (Tk × Nat)) (ps : List Pr) (k : Nat) (h : k < ps.length) : ckP l ps (ps.length - k) k = match pE l (psk ps k) with
    | some x => some x
    | none => ckP l ps (ps.length - (k + 1)) (k + 1) := by
  rw [show ps.length - k = (ps.length - (k + 1)) + 1 by omega, ckP]

theorem ckT_none {l : List (Tk × Nat)} : ∀ (f k : Nat), ckT l f k = none → ∀ j, k ≤ j → j < k + f → tE l j = none
  | 0, k, _, j, h1, h2 => by omega
  | f + 1, k, h, j, h1, h2 => by
    rw [ckT] at h
    cases ht : tE l k with
    | some x => rw [ht] at h; simp at h
    | none =>
      rw [ht] at h
      by_cases hj : j = k
      · rw [hj]; exact ht
      · exact ckT_none f (k + 1) h j (by omega) (by omega)
theorem tE_none {l : List (Tk × Nat)} {k : Nat} (h : tE l k = none) : timedI (lk l k).1 < 0 := by
  unfold tE at h
  split at h
  · simp at h
  · split at h
    · simp at h
    · omega

theorem checkTimes_v (x : Tk × Nat) (v : Value) (w : World) (hv : v = .agg (ptA x)) (hs : x.1.small) (hz : x.2 = x.1.q2 ∨ x.1.O = 0) :
    Calls Tryz.prog 126 #[v] w (TimesOut x.1 w) := by
  subst hv
  exact checkTimes_any x w hs hz

set_option maxRecDepth 100000 in
set_option maxHeartbeats 2000000 in
theorem check_any (l : List (Tk × Nat)) (ps : List Pr) (g cap : Nat) (pa : Option Addr) (pc : Nat) (w : World) (hg : g < w.heap.size) (hr : RowPT w g l) (hcap : l.length ≤ cap) (hn : l.length ≤ 6) (hsm : ∀ k, k < l.length → (lk l k).1.small) (hz : ZOk l)
    (hm : ps.length ≤ 6) (hp : 0 < ps.length → ∃ gp, pa = some ⟨gp, 0, none⟩ ∧ gp < w.heap.size ∧ RowPP w gp ps) (R : Option (Nat × Nat)) (hRR : checkR l ps = R) :
    Calls Tryz.prog 84 #[.agg #[.slice (some ⟨g, 0, none⟩) l.length cap, .slice pa ps.length pc]] w (COut R w) := by
  have HRR := hide hRR
  have Hr := hide hr
  have Hsm := hide hsm
  have Hz := hide hz
  have Hp := hide hp
  have hX := hide (blk_new w #[.slice (some ⟨g, 0, none⟩) l.length cap, .slice pa ps.length pc] 84)
  have Hb := hide (below_new w (.cells #[.slice (some ⟨g, 0, none⟩) l.length cap, .slice pa ps.length pc] 84))
  clear hr hsm hz hp hRR
  go_enter Tryz.func84, Tryz.ntmps84
  go_wp2
  go_loopw [9] (fun i wr => ∃ k : Nat, k ≤ l.length ∧ i = .int .i64 k ∧ Hid (ckT l l.length 0 = ckT l (l.length - k) k) ∧ wr.heap[w.heap.size]? = some (.cells #[.slice (some ⟨g, 0, none⟩) l.length cap, .slice pa ps.length pc] 84 (0, 0)) ∧ Below w.heap.size w wr) (fun i _ => l.length - (intOf i).toNat)
  case atStart => exact ⟨0, by omega, rfl, rfl, hX.out, Hb.out⟩
  case round =>
    clear hX Hb
    obtain ⟨k, hk, rfl, hf, hx, hb⟩ := hrel
    have xc := blk_cell hx
    have hxl := blk_lt hx
    have Hx := hide hx
    have Hb := hide hb
    clear hx hb
    by_cases hlt : k < l.length
    · have hrow := hide (Hr.out.below Hb.out hg)
      obtain ⟨r0, r1, r2, r3, r4, r5, r6, r7, r8, r9⟩ := hrow.out k hlt
      have hgw : g < wr.heap.size := by omega
      have hstep := hide (ckT_step l k hlt)
      have hxs := hide (Hsm.out k hlt)
      have hxz : Hid ((lk l k).2 = (lk l k).1.q2 ∨ (lk l k).1.O = 0) := Hz.out (lk l k) (by
        unfold lk
        rw [List.getD_eq_getElem?_getD, List.getElem?_eq_getElem hlt]
        exact List.getElem_mem hlt)
      have hte : Hid (tE l k = if 0 ≤ findL l (lk l k).1.nm k 0 then some (3, (lk l k).1.q0) else if 0 ≤ timedI (lk l k).1 then some (4, (timedI (lk l k).1).toNat) else none) := rfl
      have hle : (k : Int) ≤ (cap : Int) := by omega
      have hkc : k ≤ cap := by omega
      generalize lk l k = x at *
      go_wp2_with fail
      go_region_with ((go_at_call 125; refine (findTask_any l g k cap x.1.nm x.1.q0 _ (by simp; omega) (hrow.out.below (((below_new wr _)).drew) hgw) (by omega) hn).mono ?_; rintro e w1 ⟨rfl, hb1⟩))
      all_goals
        have hB1 := ((Hb.out.alloc (by omega) (.cells (ptA x) 172)).drew).trans (hb1.mono (by simp; omega))
        have hx1 : w1.heap[w.heap.size]? = some (.cells #[.slice (some ⟨g, 0, none⟩) l.length cap, .slice pa ps.length pc] 84 (0, 0)) := by
          refine blk_keep ?_ hb1
          show (wr.alloc _).heap[w.heap.size]? = _
          rw [Below.heap_alloc _ _ _ hxl]
          exact Hx.out
        have ht1 : w1.heap[wr.heap.size]? = some (.cells (ptA x) 172 (0, 0)) := by
          refine blk_keep ?_ hb1
          exact blk_new wr _ _
        obtain ⟨c0, c1, c2, c3, c4, c5, c6, c7, c8, c9⟩ := ptA_cells ht1
        have HB1 := hide hB1
        have Hx1 := hide hx1
        have hs1 := hB1.size
        clear hb1 hB1 hx1 ht1 r0 r1 r2 r3 r4 r5 r6 r7 r8 r9 xc Hx
        by_cases hfd : 0 ≤ findL l x.1.nm k 0
        · have HE : Hid (R = some (3, x.1.q0)) := by
            unfold Hid
            rw [← HRR.out]
            unfold checkR
            rw [hf.out, hstep.out, hte.out, if_pos hfd]
          clear hstep hte
          go_wp2_with fail
          refine (refuse_any 3 x.1.q0 _ rfl _).mono ?_
          rintro e w' ⟨rfl, rfl⟩
          exact ⟨rfl, HB1.out, .inl ⟨(3, x.1.q0), HE.out, rfl⟩⟩
        · have hte2 : Hid (tE l k = if 0 ≤ timedI x.1 then some (4, (timedI x.1).toNat) else none) := by unfold Hid; rw [hte.out, if_neg (by omega)]
          clear hte
          go_wp2_with fail
          refine (checkTimes_v x _ _ rfl hxs.out hxz.out).mono ?_
          rintro e w2 ⟨hb2, hcase⟩
          have hB2 := HB1.out.trans (hb2.mono hs1)
          rcases hcase with ⟨h1, rfl⟩ | ⟨h1, rfl⟩
          · refine ⟨rfl, hB2, .inl ⟨(4, (timedI x.1).toNat), ?_, rfl⟩⟩
            rw [← HRR.out]
            unfold checkR
            rw [hf.out, hstep.out, hte2.out, if_pos h1]
          · have hn2 : Hid (ckT l l.length 0 = ckT l (l.length - (k + 1)) (k + 1)) := by
              unfold Hid
              rw [hf.out, hstep.out, hte2.out, if_neg (by omega)]
            have hx2 := hide (blk_keep Hx1.out hb2)
            have HB2 := hide hB2
            clear hb2 hB2 h1 c0 c1 c2 c3 c4 c5 c6 c7 c8 c9
            go_wp2
            go_roundw
            case rel => exact ⟨k + 1, by omega, by go_num, hn2.out, hx2.out, HB2.out⟩
            case measure => simp [intOf]; omega
    · have hT : Hid (ckT l l.length 0 = none) := by
        unfold Hid
        rw [hf.out, show l.length - k = 0 by omega]
        rfl
      have hP : Hid (∀ j, j < l.length → 1 ≤ (lk l j).1.P ∧ (lk l j).1.P ≤ 60) := by
        intro j hj
        have := timed_P (tE_none (ckT_none l.length 0 hT.out j (by omega) (by omega)))
        omega
      have hR2 : Hid ((match ckP l ps ps.length 0 with
          | some x => some x
          | none => if cycI (l.map Prod.fst) = 0 then some (4, 0) else none) = R) := by
        unfold Hid
        rw [← HRR.out]
        unfold checkR
        rw [hT.out]
      clear HRR hT hf
      go_wp2
      go_loopw [32] (fun i wr => ∃ k : Nat, k ≤ ps.length ∧ i = .int .i64 k ∧ Hid (ckP l ps ps.length 0 = ckP l ps (ps.length - k) k) ∧ wr.heap[w.heap.size]? = some (.cells #[.slice (some ⟨g, 0, none⟩) l.length cap, .slice pa ps.length pc] 84 (0, 0)) ∧ Below w.heap.size w wr) (fun i _ => ps.length - (intOf i).toNat)
      case atStart => exact ⟨0, by omega, rfl, rfl, Hx.out, Hb.out⟩
      case round =>
        clear Hx Hb xc hxl
        obtain ⟨k, hk, rfl, hf, hx, hb⟩ := hrel
        have xc := blk_cell hx
        have hxl := blk_lt hx
        have Hx := hide hx
        have Hb := hide hb
        have hs0 := hb.size
        clear hx hb
        by_cases hlt : k < ps.length
        · obtain ⟨gp, rfl, hgp, hRP⟩ := Hp.out (by omega)
          obtain ⟨r0, r1, r2, r3, r4⟩ := hRP.below Hb.out hgp k hlt
          have hrow := hide (Hr.out.below Hb.out hg)
          have hgw : g < wr.heap.size := by omega
          have hgpw : gp < wr.heap.size := by omega
          have hstep := hide (ckP_step l ps k hlt)
          clear hRP Hp
          generalize psk ps k = p at *
          change wr.cell? ⟨gp, k * 5, none⟩ = some (.string (bs (pW p))) at r0
          go_wp2_with fail
          refine (checkPair_any l g cap _ _ _ p _ (by simp; omega) (hrow.out.below (below_new wr _) hgw) hn).mono ?_
          rintro e w1 ⟨hb1, hcase⟩
          have hB1 := (Hb.out.alloc (by omega) _).trans (hb1.mono (by simp; omega))
          rcases hcase with ⟨f, hE, rfl⟩ | ⟨hE, rfl⟩
          · refine ⟨rfl, hB1, .inl ⟨f, ?_, rfl⟩⟩
            rw [← hR2.out, hf.out, hstep.out, hE]
          · have hn2 : Hid (ckP l ps ps.length 0 = ckP l ps (ps.length - (k + 1)) (k + 1)) := by
              unfold Hid
              rw [hf.out, hstep.out, hE]
            have hx2 : Hid (w1.heap[w.heap.size]? = some (.cells #[.slice (some ⟨g, 0, none⟩) l.length cap, .slice (some ⟨gp, 0, none⟩) ps.length pc] 84 (0, 0))) := by
              refine blk_keep ?_ hb1
              rw [Below.heap_alloc _ _ _ hxl]
              exact Hx.out
            have HB1 := hide hB1
            clear hb1 hB1 hE r0 r1 r2 r3 r4 xc
            go_wp2
            go_roundw
            case rel => exact ⟨k + 1, by omega, by go_num, hn2.out, hx2.out, HB1.out⟩
            case measure => simp [intOf]; omega
        · have hPn : Hid (R = if cycI (l.map Prod.fst) = 0 then some (4, 0) else none) := by
            unfold Hid
            rw [← hR2.out, hf.out, show ps.length - k = 0 by omega]
            rfl
          clear hR2 hf
          go_wp2_with fail
          refine (cycle_any l g cap _ _ _ _ (by omega) (Hr.out.below Hb.out hg) hn hP.out).mono ?_
          rintro e w1 ⟨⟨v, rfl, hv⟩, hb1⟩
          have HB1 := hide (Hb.out.trans (hb1.mono hs0))
          clear hb1
          by_cases h60 : 60 < v
          · have h60' : (60 : Int) < v := by omega
            have HE : Hid (R = some (4, 0)) := by unfold Hid; rw [hPn.out, if_pos (hv.1 h60)]
            clear hv hPn
            go_wp2_with fail
            refine (refuse_any 4 0 _ rfl _).mono ?_
            rintro e w' ⟨rfl, rfl⟩
            exact ⟨rfl, HB1.out, .inl ⟨(4, 0), HE.out, rfl⟩⟩
          · have h60' : ¬ (60 : Int) < v := by omega
            have HE : Hid (R = none) := by unfold Hid; rw [hPn.out, if_neg (fun h => h60 (hv.2 h))]
            clear hv hPn
            go_wp2
            go_end0
            exact ⟨HB1.out, .inr ⟨HE.out, rfl⟩⟩
end Go.Proofs.YtbdffcjganlblaaGreatDoor
