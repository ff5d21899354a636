/-
  Own work. The program's checks: check.
-/
import Derived.Test.YtbdffcjganlblaaGreatDoorMProgGtoProgI
import Derived.Deep.RegionWith
import Derived.Test.YtbdffcjganlblaaGreatDoorMLaystoLays
import Derived.Test.YtbdffcjganlblaaGreatDoorMTbItoTbJ
import Derived.Test.YtbdffcjganlblaaGreatDoorMRunAtoRunD
import Derived.Test.YtbdffcjganlblaaGreatDoorMRnMtoRnC
import Derived.Deep.RegionHeldLaw
namespace Go.Proofs.YtbdffcjganlblaaGreatDoor
open Go.RowKit
set_option linter.unusedVariables false
set_option linter.unusedSimpArgs false

/-- What is wrong with task k. -/
def tE (l : List (Tk × Nat)) (k : Nat) : Option (Nat × Nat) :=
  if 0 ≤ findL l (lk l k).1.nm k 0 then some (3, (lk l k).1.q0) else if 0 ≤ timedI (lk l k).1 then some (4, (timedI (lk l k).1).toNat) else none
def ckT (l : List (Tk × Nat)) : Nat → Nat → Option (Nat × Nat)
  | 0, _ => none
  | f + 1, k => match tE l k with
    | some x => some x
    | none => ckT l f (k + 1)
def ckP (l : List (Tk × Nat)) (ps : List Pr) : Nat → Nat → Option (Nat × Nat)
  | 0, _ => none
  | f + 1, k => match pE l (psk ps k) with
    | some x => some x
    | none => ckP l ps f (k + 1)
/-- The first thing that is wrong. -/
def checkR (l : List (Tk × Nat)) (ps : List Pr) : Option (Nat × Nat) :=
  match ckT l l.length 0 with
  | some x => some x
  | none => match ckP l ps ps.length 0 with
    | some x => some x
    | none => if cycI (l.map Prod.fst) = 0 then some (4, 0) else none

theorem ckT_step (l : List (Tk × Nat)) (k : Nat) (h : k < l.length) : ckT l (l.length - k) k = match tE l k with
    | some x => some x
    | none => ckT l (l.length - (k + 1)) (k + 1) := by
  rw [show l.length - k = (l.length - (k + 1)) + 1 by omega, ckT]
theorem ckP_step (l : List (Tk × Nat)) (ps : List Pr) (k : Nat) (h : k < ps.length) : ckP l ps (ps.length - k) k = match pE l (psk ps k) with
    | some x => some x
    | none => ckP l ps (ps.length - (k + 1)) (k + 1) := by
  rw [show ps.length - k = (ps.length - (k + 1)) + 1 by omega, ckP]

theorem ckT_none {l : List (Tk × Nat)} : ∀ (f k : Nat), ckT l f k = none → ∀ j, k ≤ j → j < k + f → tE l j = none
  | 0, k, _, j, h1, h2 => by omega
  | f + 1, k, h, j, h1, h2 => by
    rw [ckT] at h
    cases ht : tE l k with
    | some x => rw [ht] at h; simp at h
    | none =>
      rw [ht] at h
      by_cases hj : j = k
      · rw [hj]; exact ht
      · exact ckT_none f (k + 1) h j (by omega) (by omega)
theorem tE_none {l : List (Tk × Nat)} {k : Nat} (h : tE l k = none) : timedI (lk l k).1 < 0 := by
  unfold tE at h
  split at h
  · simp at h
  · split at h
    · simp at h
    · omega

theorem checkTimes_v (x : Tk × Nat) (v : Value) (w : World) (hv : v = .agg (ptA x)) (hs : x.1.small) (hz : x.2 = x.1.q2 ∨ x.1.O = 0) :
    Calls Tryz.prog 126 #[v] w (TimesOut x.1 w) := by
  subst hv
  exact checkTimes_any x w hs hz

set_option maxRecDepth 100000 in
set_option maxHeartbeats 2000000 in
theorem check_any (l : List (Tk × Nat)) (ps : List Pr) (g cap : Nat) (pa : Option Addr) (pc : Nat) (w : World) (hg : g < w.heap.size) (hr : RowPT w g l) (hcap : l.length ≤ cap) (hn : l.length ≤ 6) (hsm : ∀ k, k < l.length → (lk l k).1.small) (hz : ZOk l)
    (hm : ps.length ≤ 6) (hp : 0 < ps.length → ∃ gp, pa = some ⟨gp, 0, none⟩ ∧ gp < w.heap.size ∧ RowPP w gp ps) (R : Option (Nat × Nat)) (hRR : checkR l ps = R) :
    Calls Tryz.prog 84 #[.agg #[.slice (some ⟨g, 0, none⟩) l.length cap, .slice pa ps.length pc]] w (COut R w) := by
  have HRR := hide hRR
  have Hr := hide hr
  have Hsm := hide hsm
  have Hz := hide hz
  have Hp := hide hp
  have hX := hide (blk_new w #[.slice (some ⟨g, 0, none⟩) l.length cap, .slice pa ps.length pc] 84)
  have Hb := hide (below_new w (.cells #[.slice (some ⟨g, 0, none⟩) l.length cap, .slice pa ps.length pc] 84))
  clear hr hsm hz hp hRR
  go_enter Tryz.func84, Tryz.ntmps84
  go_wp2
  go_loopw [9] (fun i wr => ∃ k : Nat, k ≤ l.length ∧ i = .int .i64 k ∧ Hid (ckT l l.length 0 = ckT l (l.length - k) k) ∧ wr.heap[w.heap.size]? = some (.cells #[.slice (some ⟨g, 0, none⟩) l.length cap, .slice pa ps.length pc] 84 (0, 0)) ∧ Below w.heap.size w wr) (fun i _ => l.length - (intOf i).toNat)
  case atStart => exact ⟨0, by omega, rfl, rfl, hX.out, Hb.out⟩
  case round =>
    clear hX Hb
    obtain ⟨k, hk, rfl, hf, hx, hb⟩ := hrel
    have xc := blk_cell hx
    have hxl := blk_lt hx
    have Hx := hide hx
    have Hb := hide hb
    clear hx hb
    by_cases hlt : k < l.length
    · have hrow := hide (Hr.out.below Hb.out hg)
      obtain ⟨r0, r1, r2, r3, r4, r5, r6, r7, r8, r9⟩ := hrow.out k hlt
      have hgw : g < wr.heap.size := by omega
      have hstep := hide (ckT_step l k hlt)
      have hxs := hide (Hsm.out k hlt)
      have hxz : Hid ((lk l k).2 = (lk l k).1.q2 ∨ (lk l k).1.O = 0) := Hz.out (lk l k) (by
        unfold lk
        rw [List.getD_eq_getElem?_getD, List.getElem?_eq_getElem hlt]
        exact List.getElem_mem hlt)
      have hte : Hid (tE l k = if 0 ≤ findL l (lk l k).1.nm k 0 then some (3, (lk l k).1.q0) else if 0 ≤ timedI (lk l k).1 then some (4, (timedI (lk l k).1).toNat) else none) := rfl
      have hle : (k : Int) ≤ (cap : Int) := by omega
      have hkc : k ≤ cap := by omega
      generalize lk l k = x at *
      go_wp2_with fail
      go_region_with ((go_at_call 125; refine (findTask_any l g k cap x.1.nm x.1.q0 _ (by simp; omega) (hrow.out.below (((below_new wr _)).drew) hgw) (by omega) hn).mono ?_; rintro e w1 ⟨rfl, hb1⟩))
      all_goals
        have hB1 := ((Hb.out.alloc (by omega) (.cells (ptA x) 172)).drew).trans (hb1.mono (by simp; omega))
        have hx1 : w1.heap[w.heap.size]? = some (.cells #[.slice (some ⟨g, 0, none⟩) l.length cap, .slice pa ps.length pc] 84 (0, 0)) := by
          refine blk_keep ?_ hb1
          show (wr.alloc _).heap[w.heap.size]? = _
          rw [Below.heap_alloc _ _ _ hxl]
          exact Hx.out
        have ht1 : w1.heap[wr.heap.size]? = some (.cells (ptA x) 172 (0, 0)) := by
          refine blk_keep ?_ hb1
          exact blk_new wr _ _
        obtain ⟨c0, c1, c2, c3, c4, c5, c6, c7, c8, c9⟩ := ptA_cells ht1
        have HB1 := hide hB1
        have Hx1 := hide hx1
        have hs1 := hB1.size
        clear hb1 hB1 hx1 ht1 r0 r1 r2 r3 r4 r5 r6 r7 r8 r9 xc Hx
        by_cases hfd : 0 ≤ findL l x.1.nm k 0
        · have HE : Hid (R = some (3, x.1.q0)) := by
            unfold Hid
            rw [← HRR.out]
            unfold checkR
            rw [hf.out, hstep.out, hte.out, if_pos hfd]
          clear hstep hte
          go_wp2_with fail
          refine (refuse_any 3 x.1.q0 _ rfl _).mono ?_
          rintro e w' ⟨rfl, rfl⟩
          exact ⟨rfl, HB1.out, .inl ⟨(3, x.1.q0), HE.out, rfl⟩⟩
        · have hte2 : Hid (tE l k = if 0 ≤ timedI x.1 then some (4, (timedI x.1).toNat) else none) := by unfold Hid; rw [hte.out, if_neg (by omega)]
          clear hte
          go_wp2_with fail
          refine (checkTimes_v x _ _ rfl hxs.out hxz.out).mono ?_
          rintro e w2 ⟨hb2, hcase⟩
          have hB2 := HB1.out.trans (hb2.mono hs1)
          rcases hcase with ⟨h1, rfl⟩ | ⟨h1, rfl⟩
          · refine ⟨rfl, hB2, .inl ⟨(4, (timedI x.1).toNat), ?_, rfl⟩⟩
            rw [← HRR.out]
            unfold checkR
            rw [hf.out, hstep.out, hte2.out, if_pos h1]
          · have hn2 : Hid (ckT l l.length 0 = ckT l (l.length - (k + 1)) (k + 1)) := by
              unfold Hid
              rw [hf.out, hstep.out, hte2.out, if_neg (by omega)]
            have hx2 := hide (blk_keep Hx1.out hb2)
            have HB2 := hide hB2
            clear hb2 hB2 h1 c0 c1 c2 c3 c4 c5 c6 c7 c8 c9
            go_wp2
            go_roundw
            case rel => exact ⟨k + 1, by omega, by go_num, hn2.out, hx2.out, HB2.out⟩
            case measure => simp [intOf]; omega
    · have hT : Hid (ckT l l.length 0 = none) := by
        unfold Hid
        rw [hf.out, show l.length - k = 0 by omega]
        rfl
      have hP : Hid (∀ j, j < l.length → 1 ≤ (lk l j).1.P ∧ (lk l j).1.P ≤ 60) := by
        intro j hj
        have := timed_P (tE_none (ckT_none l.length 0 hT.out j (by omega) (by omega)))
        omega
      have hR2 : Hid ((match ckP l ps ps.length 0 with
          | some x => some x
          | none => if cycI (l.map Prod.fst) = 0 then some (4, 0) else none) = R) := by
        unfold Hid
        rw [← HRR.out]
        unfold checkR
        rw [hT.out]
      clear HRR hT hf
      go_wp2
      go_loopw [32] (fun i wr => ∃ k : Nat, k ≤ ps.length ∧ i = .int .i64 k ∧ Hid (ckP l ps ps.length 0 = ckP l ps (ps.length - k) k) ∧ wr.heap[w.heap.size]? = some (.cells #[.slice (some ⟨g, 0, none⟩) l.length cap, .slice pa ps.length pc] 84 (0, 0)) ∧ Below w.heap.size w wr) (fun i _ => ps.length - (intOf i).toNat)
      case atStart => exact ⟨0, by omega, rfl, rfl, Hx.out, Hb.out⟩
      case round =>
        clear Hx Hb xc hxl
        obtain ⟨k, hk, rfl, hf, hx, hb⟩ := hrel
        have xc := blk_cell hx
        have hxl := blk_lt hx
        have Hx := hide hx
        have Hb := hide hb
        have hs0 := hb.size
        clear hx hb
        by_cases hlt : k < ps.length
        · obtain ⟨gp, rfl, hgp, hRP⟩ := Hp.out (by omega)
          obtain ⟨r0, r1, r2, r3, r4⟩ := hRP.below Hb.out hgp k hlt
          have hrow := hide (Hr.out.below Hb.out hg)
          have hgw : g < wr.heap.size := by omega
          have hgpw : gp < wr.heap.size := by omega
          have hstep := hide (ckP_step l ps k hlt)
          clear hRP Hp
          generalize psk ps k = p at *
          change wr.cell? ⟨gp, k * 5, none⟩ = some (.string (bs (pW p))) at r0
          go_wp2_with fail
          refine (checkPair_any l g cap _ _ _ p _ (by simp; omega) (hrow.out.below (below_new wr _) hgw) hn).mono ?_
          rintro e w1 ⟨hb1, hcase⟩
          have hB1 := (Hb.out.alloc (by omega) _).trans (hb1.mono (by simp; omega))
          rcases hcase with ⟨f, hE, rfl⟩ | ⟨hE, rfl⟩
          · refine ⟨rfl, hB1, .inl ⟨f, ?_, rfl⟩⟩
            rw [← hR2.out, hf.out, hstep.out, hE]
          · have hn2 : Hid (ckP l ps ps.length 0 = ckP l ps (ps.length - (k + 1)) (k + 1)) := by
              unfold Hid
              rw [hf.out, hstep.out, hE]
            have hx2 : Hid (w1.heap[w.heap.size]? = some (.cells #[.slice (some ⟨g, 0, none⟩) l.length cap, .slice (some ⟨gp, 0, none⟩) ps.length pc] 84 (0, 0))) := by
              refine blk_keep ?_ hb1
              rw [Below.heap_alloc _ _ _ hxl]
              exact Hx.out
            have HB1 := hide hB1
            clear hb1 hB1 hE r0 r1 r2 r3 r4 xc
            go_wp2
            go_roundw
            case rel => exact ⟨k + 1, by omega, by go_num, hn2.out, hx2.out, HB1.out⟩
            case measure => simp [intOf]; omega
        · have hPn : Hid (R = if cycI (l.map Prod.fst) = 0 then some (4, 0) else none) := by
            unfold Hid
            rw [← hR2.out, hf.out, show ps.length - k = 0 by omega]
            rfl
          clear hR2 hf
          go_wp2_with fail
          refine (cycle_any l g cap _ _ _ _ (by omega) (Hr.out.below Hb.out hg) hn hP.out).mono ?_
          rintro e w1 ⟨⟨v, rfl, hv⟩, hb1⟩
          have HB1 := hide (Hb.out.trans (hb1.mono hs0))
          clear hb1
          by_cases h60 : 60 < v
          · have h60' : (60 : Int) < v := by omega
            have HE : Hid (R = some (4, 0)) := by unfold Hid; rw [hPn.out, if_pos (hv.1 h60)]
            clear hv hPn
            go_wp2_with fail
            refine (refuse_any 4 0 _ rfl _).mono ?_
            rintro e w' ⟨rfl, rfl⟩
            exact ⟨rfl, HB1.out, .inl ⟨(4, 0), HE.out, rfl⟩⟩
          · have h60' : ¬ (60 : Int) < v := by omega
            have HE : Hid (R = none) := by unfold Hid; rw [hPn.out, if_neg (fun h => h60 (hv.2 h))]
            clear hv hPn
            go_wp2
            go_end0
            exact ⟨HB1.out, .inr ⟨HE.out, rfl⟩⟩
end Go.Proofs.YtbdffcjganlblaaGreatDoor

namespace Go.Proofs.YtbdffcjganlblaaGreatDoor
open Go.RowKit Go.Shelf
set_option linter.unusedVariables false
set_option linter.unusedSimpArgs false

theorem lays166 : Lays.n166 Tryz.prog Tryz.lays156_ren := { Tryz.lays156 with }
theorem lays169 : Lays.n169 Tryz.prog Tryz.lays156_ren := { Tryz.lays156 with }

theorem writeString_any (B b : Nat) (l : List Value) (s : ByteArray) (w : World) (h : Lib.IsBuilder 109 5 B b l w) (hlen : l.length + s.size ≤ 140737488355328) (hBw : B ≤ w.heap.size) :
    Calls Tryz.prog 70 #[.pointer (some ⟨b, 0, none⟩), .string s] w fun e w' => e = .returned (.tuple #[.int .i64 s.size, .nilIface]) ∧ (Lib.BuilderAt 109 5 B b (.pointer (some ⟨b, 0, none⟩)) (l ++ Lib.strCells s) w' ∧ Below B w w') :=
  Any.Builder_WriteString lays166 Tryz.Builder_Extra_156 B b l s w h hlen hBw

theorem builderString_any (B b : Nat) (l : List UInt8) (w : World) (h : Lib.IsBuilder 109 5 B b (Lib.byteCells l) w) (hBw : B ≤ w.heap.size) :
    Calls Tryz.prog 73 #[.pointer (some ⟨b, 0, none⟩)] w fun e w' => e = .returned (.string ⟨l.toArray⟩) ∧ Below B w w' :=
  Any.Builder_String_any lays169 Tryz.Builder_Extra_156 B b l w h hBw

theorem join_any (bk o c : Nat) (xs : List ByteArray) (sep : ByteArray) (w : World) (hcells : ∀ (j : Nat) x, xs[j]? = some x → w.cell? ⟨bk, o + j, none⟩ = some (.string x)) (hbk : bk < w.heap.size) (hN : xs.length ≤ 140737488355328) (hcap : xs.length ≤ c) (hlen : (Lib.join (xs.map (·.data.toList)) sep.data.toList).length ≤ 140737488355328) :
    Calls Tryz.prog 114 #[.slice (some ⟨bk, o, none⟩) xs.length c, .string sep] w fun e w' => e = .returned (.string ⟨(Lib.join (xs.map (·.data.toList)) sep.data.toList).toArray⟩) ∧ Below w.heap.size w w' :=
  Any.strings_Join Tryz.lays156 Tryz.Builder_Extra_156 bk o c xs sep w hcells hbk hN hcap hlen
end Go.Proofs.YtbdffcjganlblaaGreatDoor

namespace Go.Proofs.YtbdffcjganlblaaGreatDoor
open Go.RowKit
set_option linter.unusedVariables false
set_option linter.unusedSimpArgs false

theorem Tryz.sizeBd : (Tryz.prog.info? 109).map (·.size) = some 2 := by kernel_rfl
theorem Tryz.cellsU8 : Tryz.prog.cellsOf 5 = 1 := by kernel_rfl
theorem Tryz.liesRun : liesAt Tryz.prog Tryz.prog.depth 118 (4 / Tryz.prog.cellsOf 118) 2 109 1 = true := by kernel_rfl

/-- Old blocks stand, but for R and rows of bytes. -/
structure KeepR (R : Nat) (w w' : World) : Prop where
  size : w.heap.size ≤ w'.heap.size
  block : ∀ i, i < w.heap.size → i ≠ R → (∀ c fr, w.heap[i]? ≠ some (.cells c 5 fr)) → w'.heap[i]? = w.heap[i]?
theorem KeepR.refl (R : Nat) (w : World) : KeepR R w w := ⟨Nat.le_refl _, fun _ _ _ _ => rfl⟩
theorem KeepR.trans {R : Nat} {a b c : World} (h : KeepR R a b) (k : KeepR R b c) : KeepR R a c :=
  ⟨Nat.le_trans h.size k.size, fun i hi hR hu => by
    have e := h.block i hi hR hu
    rw [k.block i (Nat.lt_of_lt_of_le hi h.size) hR (fun c fr => by rw [e]; exact hu c fr), e]⟩
theorem KeepR.set {R : Nat} {a b : World} (h : KeepR R a b) (o : Nat) (v : Value) : KeepR R a (b.setCell ⟨R, o, none⟩ v) :=
  h.trans ⟨by simp [World.setCell], fun i hi hR _ => Below.heap_setCell _ _ _ _ hR⟩
theorem KeepR.grown {R : Nat} {a b b' : World} (h : KeepR R a b) {B : Nat} {v : Value} {n : Nat} {xs : List Value} (hown : b.ownsRow B 5 1 v n xs) (hg : b.grownBy b' v.ownBlock) : KeepR R a b' :=
  h.trans ⟨hg.size, fun i hi hR hu => hg.block i hi (fun e => by
    rcases hown.2 with ⟨rfl, _⟩ | ⟨g, cap, cur, rfl, _, hgb, _⟩
    · simp [Value.ownBlock] at e
    · simp only [Value.ownBlock, Option.some.injEq] at e
      subst e
      exact hu _ _ hgb)⟩
theorem KeepR.alloc {R : Nat} {a b : World} (h : KeepR R a b) (o : Obj) : KeepR R a (b.alloc o) :=
  h.trans ⟨by simp, fun i hi _ _ => Below.heap_alloc _ _ _ hi⟩
theorem KeepR.blk {R : Nat} {a b : World} (h : KeepR R a b) {i : Nat} {c : Array Value} {ty : TypeId} {fr : Nat × Nat} (hb : a.heap[i]? = some (.cells c ty fr)) (hR : i ≠ R) (ht : ty ≠ 5) : b.heap[i]? = some (.cells c ty fr) := by
  rw [h.block i (blk_lt hb) hR (fun c' fr' e => ?_)]
  · exact hb
  · rw [hb] at e
    simp at e
    exact ht e.2.1

/-- The run's own variable in block R: its costs, how many jobs have begun, its builder. -/
def RunAt (B R : Nat) (cs : Value) (bg : Int) (p : Value) (L : List UInt8) (w : World) : Prop :=
  B ≤ R ∧ ∃ v, w.heap[R]? = some (.cells #[cs, .int .i64 bg, p, v] 118 (0, 0)) ∧ w.ownsRow B 5 1 v L.length (bV L)
def IsRun (B R : Nat) (cs : Value) (bg : Int) (L : List UInt8) (w : World) : Prop :=
  RunAt B R cs bg (.pointer none) L w ∨ RunAt B R cs bg (.pointer (some ⟨R, 2, none⟩)) L w
theorem run_ne {w : World} {B R : Nat} {v : Value} {n : Nat} {xs : List Value} {c : Array Value} {fr : Nat × Nat} (hown : w.ownsRow B 5 1 v n xs) (hb : w.heap[R]? = some (.cells c 118 fr)) : v.ownBlock ≠ some R := Lib.ownBlock_ne hown hb (by decide)
theorem RunAt.set {B R : Nat} {cs p : Value} {bg : Int} {L : List UInt8} {w : World} (h : RunAt B R cs bg p L w) (bg' : Int) : RunAt B R cs bg' p L (w.setCell ⟨R, 1, none⟩ (.int .i64 bg')) := by
  obtain ⟨hB, v, hb, hown⟩ := h
  refine ⟨hB, v, by rw [blk_set hb]; rfl, ?_⟩
  exact hown.kept (row := some R) ⟨rfl, rfl, rfl, by simp [World.setCell], fun k _ hk => Below.heap_setCell _ _ _ _ (fun e => hk (by simp [e]))⟩ (Or.inr (run_ne hown hb))
theorem RunAt.self {B R : Nat} {cs p : Value} {bg : Int} {L : List UInt8} {w : World} (h : RunAt B R cs bg p L w) (p' : Value) : RunAt B R cs bg p' L (w.setCell ⟨R, 2, none⟩ p') := by
  obtain ⟨hB, v, hb, hown⟩ := h
  refine ⟨hB, v, by rw [blk_set hb]; rfl, ?_⟩
  exact hown.kept (row := some R) ⟨rfl, rfl, rfl, by simp [World.setCell], fun k _ hk => Below.heap_setCell _ _ _ _ (fun e => hk (by simp [e]))⟩ (Or.inr (run_ne hown hb))
theorem RunAt.cells {B R : Nat} {cs p : Value} {bg : Int} {L : List UInt8} {w : World} (h : RunAt B R cs bg p L w) : w.cell? ⟨R, 0, none⟩ = some cs ∧ w.cell? ⟨R, 1, none⟩ = some (.int .i64 bg) ∧ w.cell? ⟨R, 2, none⟩ = some p ∧ (∀ o, w.frozen? ⟨R, o, none⟩ = false) ∧ w.shape? R = some (118, 4) := by
  obtain ⟨hB, v, hb, hown⟩ := h
  refine ⟨by rw [blk_cell hb]; rfl, by rw [blk_cell hb]; rfl, by rw [blk_cell hb]; rfl, blk_frozen hb, by simp [World.shape?, hb]⟩

set_option maxHeartbeats 1000000 in
set_option maxRecDepth 100000 in
theorem copyCheck_used (R : Nat) (w : World) (h0 : w.cell? ⟨R, 2, none⟩ = some (.pointer (some ⟨R, 2, none⟩))) :
    Calls Tryz.prog 111 #[.pointer (some ⟨R, 2, none⟩)] w fun e w' => e = .returned (.tuple #[]) ∧ w' = w := by
  obtain ⟨j, hj, _⟩ := Option.map_eq_some_iff.1 Tryz.sizeBd
  go_enter Tryz.func111, Tryz.ntmps111
  go_wp2
  rw [Lib.run_neq_ptr_same w _ Tryz.underlying107 hj]
  go_wp2
  go_end0
  exact ⟨rfl, rfl⟩

set_option maxHeartbeats 1000000 in
set_option maxRecDepth 100000 in
theorem copyCheck_fresh (R : Nat) (w : World) (h0 : w.cell? ⟨R, 2, none⟩ = some (.pointer none)) (hsh : w.shape? R = some (118, 4)) (hfz : w.frozen? ⟨R, 2, none⟩ = false) :
    Calls Tryz.prog 111 #[.pointer (some ⟨R, 2, none⟩)] w fun e w' => e = .returned (.tuple #[]) ∧ w' = w.setCell ⟨R, 2, none⟩ (.pointer (some ⟨R, 2, none⟩)) := by
  obtain ⟨j, hj, hjs⟩ := Option.map_eq_some_iff.1 Tryz.sizeBd
  go_enter Tryz.func111, Tryz.ntmps111
  go_wp2
  rw [Lib.run_to_unsafe w ⟨R, 2, none⟩ Tryz.underlying107 Tryz.underlying195 hj (by rw [hjs]; decide) hsh (by show 2 < 4; decide)]
  simp only [Result.andThen]
  rw [Oper.upon_value]
  go_wp2
  rw [run_callFunc_extern Tryz.func147 (by kernel_rfl) (by kernel_rfl) (by kernel_rfl) (e := Extern.AbiNoEscape.same) (by kernel_rfl)]
  rw [Lib.run_noEscape]
  simp only [Result.andThen]
  rw [Oper.upon_value]
  go_wp2
  rw [Lib.run_from_unsafe w ⟨R, 2, none⟩ Tryz.underlying195 Tryz.underlying107 hj hsh Tryz.liesRun]
  simp only [Result.andThen]
  rw [Oper.upon_value]
  go_wp2
  go_end0
  exact ⟨rfl, rfl⟩

theorem copyCheck_run (B R : Nat) (cs : Value) (bg : Int) (L : List UInt8) (w : World) (h : IsRun B R cs bg L w) :
    Calls Tryz.prog 111 #[.pointer (some ⟨R, 2, none⟩)] w fun e w' => e = .returned (.tuple #[]) ∧ RunAt B R cs bg (.pointer (some ⟨R, 2, none⟩)) L w' ∧ Below B w w' ∧ KeepR R w w' := by
  rcases h with h | h
  · obtain ⟨_, _, c2, cf, cs⟩ := h.cells
    refine (copyCheck_fresh R w c2 cs (cf 2)).mono ?_
    rintro e w' ⟨rfl, rfl⟩
    exact ⟨rfl, h.self _, (Below.refl B w).setCell (p := ⟨R, 2, none⟩) h.1 _, (KeepR.refl R w).set _ _⟩
  · obtain ⟨_, _, c2, cf, cs⟩ := h.cells
    refine (copyCheck_used R w c2).mono ?_
    rintro e w' ⟨rfl, rfl⟩
    exact ⟨rfl, h, Below.refl B _, KeepR.refl R _⟩

set_option maxHeartbeats 2000000 in
set_option maxRecDepth 100000 in
theorem writeByte_run (B R : Nat) (cs : Value) (bg : Int) (L : List UInt8) (c : UInt8) (w : World) (h : IsRun B R cs bg L w) (hlen : L.length + 1 ≤ 100000) :
    Calls Tryz.prog 115 #[.pointer (some ⟨R, 2, none⟩), .int .u8 c.toNat] w fun e w' => e = .returned .nilIface ∧ RunAt B R cs bg (.pointer (some ⟨R, 2, none⟩)) (L ++ [c]) w' ∧ Below B w w' ∧ KeepR R w w' := by
  obtain ⟨i0, hi, hz0, hz1, hz2⟩ := info_parts Tryz.infoU8
  have HC := hide (copyCheck_run B R cs bg L w h)
  clear h
  go_enter Tryz.func115, Tryz.ntmps115
  go_wp2_with fail
  refine HC.out.mono ?_
  rintro e w1 ⟨rfl, h1, hb1, hk1⟩
  have HA := hide h1
  have HB := hide hb1
  have HK := hide hk1
  obtain ⟨hB, v, hbk, hown⟩ := h1
  have c2 : w1.cell? ⟨R, 2, none⟩ = some (.pointer (some ⟨R, 2, none⟩)) := by rw [blk_cell hbk]; rfl
  have c3 : w1.cell? ⟨R, 3, none⟩ = some v := by rw [blk_cell hbk]; rfl
  have hRw : R < w1.heap.size := blk_lt hbk
  have Hbk := hide hbk
  have Hown := hide hown
  clear HC hb1 hk1 hbk
  go_wp2_with (at_builtin; refine wpList_append_own _ rfl _ _ 64 rfl B 5 i0 (.int .u8 0) 1 1 Tryz.underlying64 hi hz0 hz1 hz2 rfl (by decide) _ _ _ rfl (hown.alloc _) ⟨w1.heap.size, 0, none⟩ 1 1 [.int .u8 c.toNat] rfl rfl ?c1 ?c2 ?c3 ?c4 ?c5 ?_)
  case c1 =>
    intro j u hj
    match j, hj with
    | 0, hj => simp at hj; subst hj; simp [Addr.add]
  case c2 => intro u hu; simp at hu; subst hu; rfl
  case c3 => unfold maxLen; omega
  case c4 => omega
  case c5 => simp; omega
  intro v' w2 hown' hgrow _
  have hb2 : w2.heap[R]? = some (.cells #[cs, .int .i64 bg, .pointer (some ⟨R, 2, none⟩), v] 118 (0, 0)) := by
    rw [hgrow.block R (by simp; omega) (fun e => run_ne hown Hbk.out e.symm), Below.heap_alloc _ _ _ hRw]
    exact Hbk.out
  have d2 : w2.cell? ⟨R, 2, none⟩ = some (.pointer (some ⟨R, 2, none⟩)) := by rw [blk_cell hb2]; rfl
  have d3 : w2.cell? ⟨R, 3, none⟩ = some v := by rw [blk_cell hb2]; rfl
  have f3 : w2.frozen? ⟨R, 3, none⟩ = false := blk_frozen hb2 3
  have Hb2 := hide hb2
  have HG := hide hgrow
  have HO := hide hown'
  obtain ⟨g, cap, rfl⟩ : ∃ g cap, v' = .slice (some ⟨g, 0, none⟩) (L.length + 1) cap := by
    rcases hown'.2 with ⟨_, h0⟩ | ⟨g, cap, cur, hv, _⟩
    · omega
    · exact ⟨g, cap, hv⟩
  clear hgrow hown' hb2 hown
  go_wp2
  go_ret
  refine ⟨rfl, ⟨hB, .slice (some ⟨g, 0, none⟩) (L.length + 1) cap, by rw [blk_set Hb2.out]; rfl, ?_⟩, ?_, ?_⟩
  · have := HO.out
    rw [show bV (L ++ [c]) = bV L ++ [.int .u8 (c.toNat : Int)] by simp [bV], show (L ++ [c]).length = L.length + 1 by simp]
    exact this.kept (row := some R) ⟨rfl, rfl, rfl, by simp [World.setCell], fun k _ hk => Below.heap_setCell _ _ _ _ (fun e => hk (by simp [e]))⟩ (Or.inr (run_ne this Hb2.out))
  · exact ((HB.out.alloc (by have := HB.out.size; omega) _).grown HG.out (by simp; omega) (fun k hk => (Hown.out.lt k hk).1)).setCell (p := ⟨R, 3, none⟩) hB _
  · exact ((HK.out.alloc _).grown (Hown.out.alloc _) HG.out).set _ _
end Go.Proofs.YtbdffcjganlblaaGreatDoor

namespace Go.Proofs.YtbdffcjganlblaaGreatDoor
open Go.RowKit
set_option linter.unusedVariables false
set_option linter.unusedSimpArgs false

/-- Old blocks stand, but for R, J and rows of bytes. -/
structure KeepJ (R J : Nat) (w w' : World) : Prop where
  size : w.heap.size ≤ w'.heap.size
  block : ∀ i, i < w.heap.size → i ≠ R → i ≠ J → (∀ c fr, w.heap[i]? ≠ some (.cells c 5 fr)) → w'.heap[i]? = w.heap[i]?
theorem KeepR.j {R : Nat} {w w' : World} (h : KeepR R w w') (J : Nat) : KeepJ R J w w' := ⟨h.size, fun i a b _ c => h.block i a b c⟩
theorem KeepJ.trans {R J : Nat} {a b c : World} (h : KeepJ R J a b) (k : KeepJ R J b c) : KeepJ R J a c :=
  ⟨Nat.le_trans h.size k.size, fun i hi hR hJ hu => by
    have e := h.block i hi hR hJ hu
    rw [k.block i (Nat.lt_of_lt_of_le hi h.size) hR hJ (fun c fr => by rw [e]; exact hu c fr), e]⟩
theorem KeepJ.setJ {R J : Nat} {a b : World} (h : KeepJ R J a b) (o : Nat) (v : Value) : KeepJ R J a (b.setCell ⟨J, o, none⟩ v) :=
  h.trans ⟨by simp [World.setCell], fun i hi _ hJ _ => Below.heap_setCell _ _ _ _ hJ⟩
theorem KeepJ.setR {R J : Nat} {a b : World} (h : KeepJ R J a b) (o : Nat) (v : Value) : KeepJ R J a (b.setCell ⟨R, o, none⟩ v) :=
  h.trans ⟨by simp [World.setCell], fun i hi hR _ _ => Below.heap_setCell _ _ _ _ hR⟩
theorem KeepJ.blk {R J : Nat} {a b : World} (h : KeepJ R J a b) {i : Nat} {c : Array Value} {ty : TypeId} {fr : Nat × Nat} (hb : a.heap[i]? = some (.cells c ty fr)) (hR : i ≠ R) (hJ : i ≠ J) (ht : ty ≠ 5) : b.heap[i]? = some (.cells c ty fr) := by
  rw [h.block i (blk_lt hb) hR hJ (fun c' fr' e => ?_)]
  · exact hb
  · rw [hb] at e
    simp at e
    exact ht e.2.1

/-- A job in block J, beside the run in block R. -/
structure JR (B R J : Nat) (csv : Value) (bg : Nat) (L : List UInt8) (nm : UInt8) (bud left : Nat) (want : Int) (w : World) : Prop where
  r : IsRun B R csv bg L w
  j : w.heap[J]? = some (.cells (jobV nm bud left want) 166 (0, 0))
section
variable {B R J : Nat} {csv : Value} {bg : Nat} {L : List UInt8} {nm : UInt8} {bud left : Nat} {want : Int} {w : World}
theorem IsRun.blk (h : IsRun B R csv bg L w) : B ≤ R ∧ ∃ p v, (p = .pointer none ∨ p = .pointer (some ⟨R, 2, none⟩)) ∧ w.heap[R]? = some (.cells #[csv, .int .i64 bg, p, v] 118 (0, 0)) ∧ w.ownsRow B 5 1 v L.length (bV L) := by
  rcases h with ⟨hB, v, hb, ho⟩ | ⟨hB, v, hb, ho⟩
  · exact ⟨hB, _, v, .inl rfl, hb, ho⟩
  · exact ⟨hB, _, v, .inr rfl, hb, ho⟩
theorem isRun_of {p v : Value} (hB : B ≤ R) (hp : p = .pointer none ∨ p = .pointer (some ⟨R, 2, none⟩)) (hb : w.heap[R]? = some (.cells #[csv, .int .i64 bg, p, v] 118 (0, 0))) (ho : w.ownsRow B 5 1 v L.length (bV L)) : IsRun B R csv bg L w := by
  rcases hp with rfl | rfl
  · exact .inl ⟨hB, v, hb, ho⟩
  · exact .inr ⟨hB, v, hb, ho⟩
theorem JR.ne (h : JR B R J csv bg L nm bud left want w) : J ≠ R := by
  obtain ⟨_, p, v, _, hb, _⟩ := h.r.blk
  intro e
  have := h.j
  rw [e, hb] at this
  simp at this
theorem IsRun.setOther (h : IsRun B R csv bg L w) {X : Nat} {c : Array Value} {ty : TypeId} (hX : w.heap[X]? = some (.cells c ty (0, 0))) (hne : X ≠ R) (ht : ty ≠ 5) (o : Nat) (v : Value) : IsRun B R csv bg L (w.setCell ⟨X, o, none⟩ v) := by
  obtain ⟨hB, p, vv, hp, hb, ho⟩ := h.blk
  refine isRun_of hB hp (by rw [Below.heap_setCell _ _ _ _ (fun e => hne e.symm)]; exact hb) ?_
  refine ho.kept (row := some X) ⟨rfl, rfl, rfl, by simp [World.setCell], fun k _ hk => Below.heap_setCell _ _ _ _ (fun e => hk (by simp [e]))⟩ (Or.inr ?_)
  exact Lib.ownBlock_ne ho hX ht
theorem JR.setJ (h : JR B R J csv bg L nm bud left want w) (o : Nat) (v : Value) {left' : Nat} {want' : Int} (hc : (jobV nm bud left want).setIfInBounds o v = jobV nm bud left' want') : JR B R J csv bg L nm bud left' want' (w.setCell ⟨J, o, none⟩ v) :=
  ⟨h.r.setOther h.j h.ne (by decide) _ _, by rw [blk_set h.j, hc]⟩
theorem JR.setBg (h : JR B R J csv bg L nm bud left want w) (bg' : Nat) : JR B R J csv bg' L nm bud left want (w.setCell ⟨R, 1, none⟩ (.int .i64 bg')) := by
  refine ⟨?_, by rw [Below.heap_setCell _ _ _ _ h.ne]; exact h.j⟩
  rcases h.r with h1 | h1
  · exact .inl (h1.set _)
  · exact .inr (h1.set _)
theorem JR.cells (h : JR B R J csv bg L nm bud left want w) : w.cell? ⟨J, 0, none⟩ = some (.int .u8 nm.toNat) ∧ w.cell? ⟨J, 1, none⟩ = some (.int .i64 bud) ∧ w.cell? ⟨J, 2, none⟩ = some (.int .i64 left) ∧ w.cell? ⟨J, 3, none⟩ = some (.int .i64 want) ∧ (∀ o, w.frozen? ⟨J, o, none⟩ = false) ∧
    w.cell? ⟨R, 0, none⟩ = some csv ∧ w.cell? ⟨R, 1, none⟩ = some (.int .i64 bg) ∧ ∀ o, w.frozen? ⟨R, o, none⟩ = false := by
  obtain ⟨_, p, v, _, hb, _⟩ := h.r.blk
  refine ⟨by rw [blk_cell h.j]; rfl, by rw [blk_cell h.j]; rfl, by rw [blk_cell h.j]; rfl, by rw [blk_cell h.j]; rfl, blk_frozen h.j, by rw [blk_cell hb]; rfl, by rw [blk_cell hb]; rfl, blk_frozen hb⟩
theorem JR.wrote (h : JR B R J csv bg L nm bud left want w) {w' : World} {L' : List UInt8} (hr : RunAt B R csv bg (.pointer (some ⟨R, 2, none⟩)) L' w') (hk : KeepR R w w') : JR B R J csv bg L' nm bud left want w' :=
  ⟨.inr hr, hk.blk h.j h.ne (by decide)⟩
end

theorem JR.drew {B R J : Nat} {csv : Value} {bg : Nat} {L : List UInt8} {nm : UInt8} {bud left : Nat} {want : Int} {w : World} (h : JR B R J csv bg L nm bud left want w) : JR B R J csv bg L nm bud left want w.drew := ⟨h.r, h.j⟩
theorem KeepJ.drew {R J : Nat} {a b : World} (h : KeepJ R J a b) : KeepJ R J a b.drew := ⟨h.size, h.block⟩

set_option maxRecDepth 100000 in
set_option maxHeartbeats 4000000 in
theorem begin_any (B R J : Nat) (a : Option Addr) (cs : List Int) (cap bg : Nat) (L : List UInt8) (nm : UInt8) (bud left : Nat) (want : Int) (w : World) (h : JR B R J (.slice a cs.length cap) bg L nm bud left want w) (hc : CostsAt w a cs) (hcR : 0 < cs.length → ∀ b off, a = some ⟨b, off, none⟩ → b ≠ R ∧ b ≠ J) (hn : cs.length ≤ 1000000) (hm : bg ≤ 1000000000) (hbj : B ≤ J) :
    Calls Tryz.prog 116 #[.pointer (some ⟨R, 0, none⟩), .pointer (some ⟨J, 0, none⟩)] w fun e w' => e = .returned (.tuple #[]) ∧ JR B R J (.slice a cs.length cap) (bg + 1) L nm bud bud (wantsL cs bg bud) w' ∧ Below B w w' ∧ KeepJ R J w w' := by
  obtain ⟨j0, j1, j2, j3, jf, r0, r1, rf⟩ := h.cells
  have hne := h.ne
  have hne2 : ¬ R = J := fun e => hne e.symm
  have hne1 : ¬ J = R := hne
  have hBR : B ≤ R := h.r.blk.1
  have HJ := hide h
  have hb1 : ((bg : Int) + 1) = ((bg + 1 : Nat) : Int) := by omega
  by_cases h0 : cs.length = 0
  · have hz : Hid (wantsL cs bg bud = bud) := by unfold Hid wantsL; rw [if_pos h0]
    have h0' : ¬ (0 : Int) < cs.length := by omega
    have HF := hide (((HJ.out.setJ 2 (.int .i64 bud) (left' := bud) (want' := want) rfl).setJ 3 (.int .i64 bud) (left' := bud) (want' := bud) rfl).setBg (bg + 1))
    have HB := hide ((((Below.refl B w).setCell (p := ⟨J, 2, none⟩) hbj (.int .i64 bud)).setCell (p := ⟨J, 3, none⟩) hbj (.int .i64 bud)).setCell (p := ⟨R, 1, none⟩) hBR (.int .i64 ((bg + 1 : Nat) : Int)))
    have HK := hide (((((KeepR.refl R w).j J).setJ 2 (.int .i64 bud)).setJ 3 (.int .i64 bud)).setR 1 (.int .i64 ((bg + 1 : Nat) : Int)))
    rw [← hb1] at HB HK
    have HF2 : Hid (JR B R J (.slice a cs.length cap) (bg + 1) L nm bud bud bud (((w.setCell ⟨J, 2, none⟩ (.int .i64 bud)).setCell ⟨J, 3, none⟩ (.int .i64 bud)).setCell ⟨R, 1, none⟩ (.int .i64 ((bg : Int) + 1)))) := by rw [hb1]; exact HF.out
    clear h hc hcR HJ HF hb1 h0
    go_enter Tryz.func116, Tryz.ntmps116
    go_wp2
    go_end0
    rw [hz.out]
    exact ⟨rfl, HF2.out, HB.out, HK.out⟩
  · obtain ⟨x, off, rfl, hx, hr⟩ : ∃ b off, a = some ⟨b, off, none⟩ ∧ b < w.heap.size ∧ ∀ k, k < cs.length → w.cell? ⟨b, off + k, none⟩ = some (.int .i64 (cs.getD k 0)) := by
      rcases hc with hc | hc
      · rw [hc] at h0
        exact absurd rfl h0
      · exact hc
    obtain ⟨hxR, hxJ⟩ := hcR (by omega) x off rfl
    have hxR1 : ¬ x = R := hxR
    have hxJ1 : ¬ x = J := hxJ
    have hxR2 : ¬ R = x := fun e => hxR e.symm
    have hxJ2 : ¬ J = x := fun e => hxJ e.symm
    have hz : Hid (wantsL cs bg bud = cs.getD (bg % cs.length) 0) := by unfold Hid wantsL; rw [if_neg h0]
    have h0' : (0 : Int) < cs.length := by omega
    have hlt := Nat.mod_lt bg (show 0 < cs.length by omega)
    have hcc := hr _ hlt
    have hi1 : 0 ≤ (bg : Int) % cs.length := by rw [← Int.natCast_emod]; exact Int.natCast_nonneg _
    have hi2 : (bg : Int) % cs.length < cs.length := by rw [← Int.natCast_emod]; exact Int.ofNat_lt.2 hlt
    have hi3 : ¬ (cs.length : Int) = 0 := by omega
    generalize cs.getD (bg % cs.length) 0 = V at *
    have HF := hide ((((HJ.out.setJ 2 (.int .i64 bud) (left' := bud) (want' := want) rfl).setJ 3 (.int .i64 bud) (left' := bud) (want' := bud) rfl).setJ 3 (.int .i64 V) (left' := bud) (want' := V) rfl).setBg (bg + 1)).drew
    have HB := hide ((((((Below.refl B w).setCell (p := ⟨J, 2, none⟩) hbj (.int .i64 bud)).setCell (p := ⟨J, 3, none⟩) hbj (.int .i64 bud)).setCell (p := ⟨J, 3, none⟩) hbj (.int .i64 V)).setCell (p := ⟨R, 1, none⟩) hBR (.int .i64 ((bg + 1 : Nat) : Int)))).drew
    have HK := hide ((((((KeepR.refl R w).j J).setJ 2 (.int .i64 bud)).setJ 3 (.int .i64 bud)).setJ 3 (.int .i64 V)).setR 1 (.int .i64 ((bg + 1 : Nat) : Int))).drew
    rw [← hb1] at HB HK
    have HF2 : Hid (JR B R J (.slice (some ⟨x, off, none⟩) cs.length cap) (bg + 1) L nm bud bud V ((((w.setCell ⟨J, 2, none⟩ (.int .i64 bud)).setCell ⟨J, 3, none⟩ (.int .i64 bud)).setCell ⟨J, 3, none⟩ (.int .i64 V)).setCell ⟨R, 1, none⟩ (.int .i64 ((bg : Int) + 1))).drew) := by rw [hb1]; exact HF
    clear h hc hcR HJ hr hb1 HF h0
    go_enter Tryz.func116, Tryz.ntmps116
    go_wp2_with fail
    go_region
    all_goals
      go_wp2
      go_end0
      rw [hz.out]
      exact ⟨rfl, HF2.out, HB, HK⟩

/-- The builder's byte, beside a job. -/
theorem JR.byte {B R J : Nat} {csv : Value} {bg : Nat} {L : List UInt8} {nm : UInt8} {bud left : Nat} {want : Int} {w : World} (h : JR B R J csv bg L nm bud left want w) (hL : L.length + 1 ≤ 100000) (c : UInt8) (ci : Int) (hc : ci = c.toNat) :
    Calls Tryz.prog 115 #[.pointer (some ⟨R, 2, none⟩), .int .u8 ci] w fun e w' => e = .returned .nilIface ∧ JR B R J csv bg (L ++ [c]) nm bud left want w' ∧ Below B w w' ∧ KeepJ R J w w' := by
  subst hc
  refine (writeByte_run B R csv bg L c w h.r hL).mono ?_
  rintro e w' ⟨rfl, h1, h2, h3⟩
  exact ⟨rfl, h.wrote h1 h3, h2, h3.j J⟩
def giveO (nm : UInt8) (left : Nat) (want : Int) : List UInt8 := if want = 0 then [46] else [nm] ++ if left = 0 ∧ 0 < want - 1 then [33, nm] else []
def giveW (want : Int) : Int := if want = 0 then want else want - 1

set_option maxRecDepth 100000 in
set_option maxHeartbeats 4000000 in
theorem give_any (B R J : Nat) (csv : Value) (bg : Nat) (L : List UInt8) (nm : UInt8) (bud left : Nat) (want : Int) (w : World) (h : JR B R J csv bg L nm bud left want w) (hbj : B ≤ J) (hl1 : 1 ≤ left) (hl2 : left ≤ 1000000) (hw1 : 0 ≤ want) (hw2 : want ≤ 1000000000) (hL : L.length + 3 ≤ 100000) :
    Calls Tryz.prog 117 #[.pointer (some ⟨R, 0, none⟩), .pointer (some ⟨J, 0, none⟩)] w fun e w' => e = .returned (.tuple #[]) ∧ JR B R J csv bg (L ++ giveO nm (left - 1) want) nm bud (left - 1) (giveW want) w' ∧ Below B w w' ∧ KeepJ R J w w' := by
  obtain ⟨j0, j1, j2, j3, jf, r0, r1, rf⟩ := h.cells
  have hne := h.ne
  have hBR : B ≤ R := h.r.blk.1
  have hb1 : ((left : Int) - 1) = ((left - 1 : Nat) : Int) := by omega
  have HJ1 : Hid (JR B R J csv bg L nm bud (left - 1) want (w.setCell ⟨J, 2, none⟩ (.int .i64 ((left : Int) - 1)))) := h.setJ 2 _ (by rw [hb1]; rfl)
  have HB1 := hide ((Below.refl B w).setCell (p := ⟨J, 2, none⟩) hbj (.int .i64 ((left : Int) - 1)))
  have HK1 := hide (((KeepR.refl R w).j J).setJ 2 (.int .i64 ((left : Int) - 1)))
  clear h hb1
  by_cases h0 : want = 0
  · have eo : Hid (giveO nm (left - 1) want = [46]) := by unfold Hid giveO; rw [if_pos h0]
    have ew : Hid (giveW want = want) := by unfold Hid giveW; rw [if_pos h0]
    rw [eo.out, ew.out]
    have h0' : (want == 0) = true := by simp [h0]
    clear h0 eo ew
    go_enter Tryz.func117, Tryz.ntmps117
    go_wp2_with fail
    refine (HJ1.out.byte (by omega) 46 46 rfl).mono ?_
    rintro e w2 ⟨rfl, h2, hb2, hk2⟩
    have H2 := hide h2
    have HB2 := hide (HB1.out.trans hb2)
    have HK2 := hide (HK1.out.trans hk2)
    clear h2 hb2 hk2 j0 j1 j2 j3 jf r0 r1 rf
    go_wp2
    refine bodyPost_ret (results_none rfl _ _ _) rfl ?_
    exact ⟨rfl, H2.out, HB2.out, HK2.out⟩
  · have ew : Hid (giveW want = want - 1) := by unfold Hid giveW; rw [if_neg h0]
    have h0' : (want == 0) = false := by simp [h0]
    have HJ2 : Hid (JR B R J csv bg L nm bud (left - 1) (want - 1) ((w.setCell ⟨J, 2, none⟩ (.int .i64 ((left : Int) - 1))).setCell ⟨J, 3, none⟩ (.int .i64 (want - 1)))) := HJ1.out.setJ 3 _ rfl
    have HB2 := hide (HB1.out.setCell (p := ⟨J, 3, none⟩) hbj (.int .i64 (want - 1)))
    have HK2 := hide (HK1.out.setJ 3 (.int .i64 (want - 1)))
    rw [ew.out]
    have eo : Hid (giveO nm (left - 1) want = [nm] ++ if left - 1 = 0 ∧ 0 < want - 1 then [33, nm] else []) := by unfold Hid giveO; rw [if_neg h0]
    have hj0 := hide ((HJ2.out.drew).cells.1)
    clear HJ1 HB1 HK1 ew h0
    go_enter Tryz.func117, Tryz.ntmps117
    go_wp2_with fail
    go_region_held_law (fun w' => w'.cell? ⟨J, 0, none⟩ = some (.int .u8 nm.toNat)) (first | exact hj0.out | exact h8c)
      (first | (go_at_call 115; refine (HJ2.out.drew.byte (by omega) nm _ rfl).mono ?_; rintro e w8 ⟨rfl, hj8, hb8, hk8⟩; have h8c := hj8.cells.1))
    all_goals
      obtain ⟨k0, k1, k2, k3, kf, q0, q1, qf⟩ := hj8.cells
      have H8 := hide hj8
      have HB8 := hide (HB2.out.trans (Below.trans ((Below.refl B _).drew) hb8))
      have HK8 := hide (HK2.out.trans (KeepJ.trans (KeepJ.drew ((KeepR.refl R _).j J)) hk8))
      clear hj8 hb8 hk8 j0 j1 j2 j3 jf r0 r1 rf HJ2 HB2 HK2 hj0 h8c
      by_cases hm : left - 1 = 0 ∧ 0 < want - 1
      · have e1 : Hid (giveO nm (left - 1) want = [nm] ++ [33] ++ [nm]) := by unfold Hid; rw [eo.out, if_pos hm]; rfl
        have hm1 : (((left - 1 : Nat) : Int) == 0) = true := by simp [hm.1]
        have hm2 : (0 : Int) < want - 1 := hm.2
        clear eo hm
        go_wp2_with fail
        refine (H8.out.byte (by simp; omega) 33 33 rfl).mono ?_
        rintro e w9 ⟨rfl, hj9, hb9, hk9⟩
        have H9 := hide hj9
        have HB9 := hide (HB8.out.trans hb9)
        have HK9 := hide (HK8.out.trans hk9)
        have hn0 := hide (hj9.drew.cells.1)
        obtain ⟨k0, _, _, _, _, _, _, _⟩ := hj9.cells
        clear hj9 hb9 hk9 H8 HB8 HK8 k1 k2 k3 kf q0 q1 qf
        go_wp2_with fail
        go_region_held_law (fun w' => w'.cell? ⟨J, 0, none⟩ = some (.int .u8 nm.toNat)) (first | exact hn0.out | exact h8c)
          (first | (go_at_call 115; refine (H9.out.drew.byte (by simp; omega) nm _ rfl).mono ?_; rintro e w10 ⟨rfl, hj10, hb10, hk10⟩; have h8c := hj10.cells.1))
        all_goals
          have HA := hide hj10
          have HBA := hide (HB9.out.trans (Below.trans ((Below.refl B _).drew) hb10))
          have HKA := hide (HK9.out.trans (KeepJ.trans (KeepJ.drew ((KeepR.refl R _).j J)) hk10))
          clear hj10 hb10 hk10 h8c k0 hn0 H9 HB9 HK9
          go_wp2
          go_end0
          exact ⟨rfl, by rw [e1.out, ← List.append_assoc, ← List.append_assoc]; exact HA.out, HBA.out, HKA.out⟩
      · have e1 : Hid (giveO nm (left - 1) want = [nm]) := by unfold Hid; rw [eo.out, if_neg hm]; rfl
        clear eo
        by_cases hz : left - 1 = 0
        · have hm1 : (((left - 1 : Nat) : Int) == 0) = true := by simp [hz]
          have hm2 : ¬ (0 : Int) < want - 1 := fun x => hm ⟨hz, x⟩
          clear hm hz
          go_wp2
          go_end0
          exact ⟨rfl, by rw [e1.out]; exact H8.out, HB8.out, HK8.out⟩
        · have hm1 : (((left - 1 : Nat) : Int) == 0) = false := by simp; omega
          clear hm hz
          go_wp2
          go_end0
          exact ⟨rfl, by rw [e1.out]; exact H8.out, HB8.out, HK8.out⟩

/-- A tick that is nobody's. -/
theorem tickN_any (B R : Nat) (csv : Value) (bg : Nat) (L : List UInt8) (w : World) (h : IsRun B R csv bg L w) (hL : L.length + 1 ≤ 100000) :
    Calls Tryz.prog 76 #[.pointer (some ⟨R, 0, none⟩), .pointer none] w fun e w' => e = .returned (.tuple #[]) ∧ IsRun B R csv bg (L ++ [46]) w' ∧ Below B w w' ∧ KeepR R w w' := by
  have HW := hide (writeByte_run B R csv bg L 46 w h hL)
  clear h
  go_enter Tryz.func76, Tryz.ntmps76
  go_wp2_with fail
  refine HW.out.mono ?_
  rintro e w1 ⟨rfl, h1, hb1, hk1⟩
  have H1 := hide h1
  have HB1 := hide hb1
  have HK1 := hide hk1
  clear h1 hb1 hk1 HW
  go_wp2
  go_end0
  exact ⟨rfl, .inr H1.out, HB1.out, HK1.out⟩

def nowL (bud left : Nat) : Nat := if left = 0 then bud else left
def nowW (cs : List Int) (bg bud left : Nat) (want : Int) : Int := if left = 0 then wantsL cs bg bud else want
def nowB (bg left : Nat) : Nat := if left = 0 then bg + 1 else bg
set_option maxRecDepth 100000 in
set_option maxHeartbeats 4000000 in
theorem tickJ_any (B R J : Nat) (a : Option Addr) (cs : List Int) (cap bg : Nat) (L : List UInt8) (nm : UInt8) (bud left : Nat) (want : Int) (w : World) (h : JR B R J (.slice a cs.length cap) bg L nm bud left want w) (hc : CostsAt w a cs) (hcR : 0 < cs.length → ∀ b off, a = some ⟨b, off, none⟩ → b ≠ R ∧ b ≠ J) (hn : cs.length ≤ 1000000) (hm : bg ≤ 1000000000) (hbj : B ≤ J)
    (hl1 : 1 ≤ nowL bud left) (hl2 : nowL bud left ≤ 1000000) (hw1 : 0 ≤ nowW cs bg bud left want) (hw2 : nowW cs bg bud left want ≤ 1000000000) (hL : L.length + 3 ≤ 100000) :
    Calls Tryz.prog 76 #[.pointer (some ⟨R, 0, none⟩), .pointer (some ⟨J, 0, none⟩)] w fun e w' => e = .returned (.tuple #[]) ∧ JR B R J (.slice a cs.length cap) (nowB bg left) (L ++ giveO nm (nowL bud left - 1) (nowW cs bg bud left want)) nm bud (nowL bud left - 1) (giveW (nowW cs bg bud left want)) w' ∧ Below B w w' ∧ KeepJ R J w w' := by
  obtain ⟨j0, j1, j2, j3, jf, r0, r1, rf⟩ := h.cells
  by_cases h0 : left = 0
  · have e1 : nowL bud left = bud := by unfold nowL; rw [if_pos h0]
    have e2 : nowW cs bg bud left want = wantsL cs bg bud := by unfold nowW; rw [if_pos h0]
    have e3 : nowB bg left = bg + 1 := by unfold nowB; rw [if_pos h0]
    rw [e1] at hl1 hl2
    rw [e2] at hw1 hw2
    rw [e1, e2, e3]
    have HB := hide (begin_any B R J a cs cap bg L nm bud left want w h hc hcR hn hm hbj)
    have hz : ((left : Int) == 0) = true := by simp [h0]
    clear e1 e2 e3 h hc hcR h0
    generalize wantsL cs bg bud = V at *
    go_enter Tryz.func76, Tryz.ntmps76
    go_wp2_with fail
    refine HB.out.mono ?_
    rintro e w1 ⟨rfl, h1, hb1, hk1⟩
    have HG := hide (give_any B R J (.slice a cs.length cap) (bg + 1) L nm bud bud V w1 h1 hbj hl1 hl2 hw1 hw2 hL)
    have HB1 := hide hb1
    have HK1 := hide hk1
    clear h1 hb1 hk1 HB j0 j1 j2 j3 jf r0 r1 rf
    go_wp2_with fail
    refine HG.out.mono ?_
    rintro e w2 ⟨rfl, h2, hb2, hk2⟩
    have H2 := hide h2
    have HB2 := hide (HB1.out.trans hb2)
    have HK2 := hide (HK1.out.trans hk2)
    clear h2 hb2 hk2 HG HB1 HK1
    go_wp2
    go_end0
    exact ⟨rfl, H2.out, HB2.out, HK2.out⟩
  · have e1 : nowL bud left = left := by unfold nowL; rw [if_neg h0]
    have e2 : nowW cs bg bud left want = want := by unfold nowW; rw [if_neg h0]
    have e3 : nowB bg left = bg := by unfold nowB; rw [if_neg h0]
    rw [e1] at hl1 hl2
    rw [e2] at hw1 hw2
    rw [e1, e2, e3]
    have HG := hide (give_any B R J (.slice a cs.length cap) bg L nm bud left want w h hbj hl1 hl2 hw1 hw2 hL)
    have hz : ((left : Int) == 0) = false := by simp [h0]
    clear e1 e2 e3 h hc hcR h0
    go_enter Tryz.func76, Tryz.ntmps76
    go_wp2_with fail
    refine HG.out.mono ?_
    rintro e w2 ⟨rfl, h2, hb2, hk2⟩
    have H2 := hide h2
    have HB2 := hide hb2
    have HK2 := hide hk2
    clear h2 hb2 hk2 HG j0 j1 j2 j3 jf r0 r1 rf
    go_wp2
    go_end0
    exact ⟨rfl, H2.out, HB2.out, HK2.out⟩
end Go.Proofs.YtbdffcjganlblaaGreatDoor
