/-
  Own work. The program's plan: release, allDone.
-/
import Derived.Test.YtbdffcjganlblaaGreatDoorPnDtoSrA
import Derived.Test.YtbdffcjganlblaaGreatDoorRefGtoHeC
namespace Go.Proofs.YtbdffcjganlblaaGreatDoor
open Go.RowKit
set_option linter.unusedVariables false
set_option linter.unusedSimpArgs false

/-- The jobs to come. -/
def ComAt (lo base P : Nat) (js : List Jb) (bl : Nat → Nat) (c2 : Value) (Cm : List Nat) (w : World) : Prop :=
  ∃ a cap, c2 = .slice a Cm.length cap ∧ Cm.length ≤ cap ∧ cap ≤ maxLen ∧ (0 < Cm.length → ∃ C o, a = some ⟨C, o, none⟩ ∧ lo ≤ C ∧ C < base ∧ C ≠ P ∧ C < w.heap.size ∧ (∀ k, k < js.length → C ≠ bl k) ∧ ∀ i, i < Cm.length → w.cell? ⟨C, o + i, none⟩ = some (.pointer (some ⟨bl (gd Cm i), 0, none⟩)))
theorem ComAt.keep {lo base P : Nat} {js : List Jb} {bl : Nat → Nat} {c2 : Value} {Cm : List Nat} {w w' : World} {X : Nat → Prop} (h : ComAt lo base P js bl c2 Cm w) (hf : Frm X w w') (hx : ∀ i, lo ≤ i → i < base → i ≠ P → (∀ k, k < js.length → i ≠ bl k) → ¬ X i) : ComAt lo base P js bl c2 Cm w' := by
  obtain ⟨a, cap, h1, h2, h2', h3⟩ := h
  refine ⟨a, cap, h1, h2, h2', fun h0 => ?_⟩
  obtain ⟨C, o, e, h4', h4, h5, h6, h7, h8⟩ := h3 h0
  refine ⟨C, o, e, h4', h4, h5, Nat.lt_of_lt_of_le h6 hf.size, h7, fun i hi => ?_⟩
  rw [← h8 i hi]
  exact World.cell?_of_block (hf.block C h6 (hx C h4' h4 h5 h7))
theorem FrJ.frm {base P : Nat} {js : List Jb} {bl : Nat → Nat} {w w' : World} (h : FrJ base P js bl w w') : Frm (fun i => i = P ∨ base ≤ i ∨ ∃ k, k < js.length ∧ i = bl k) w w' :=
  ⟨h.os, h.tape, h.output, h.size, fun i hi hX => h.block i hi (fun e => hX (.inl e)) (fun k hk e => hX (.inr (.inr ⟨k, hk, e⟩))) (fun hb => absurd (.inr (.inl hb)) hX)⟩
theorem ComAt.frJ {lo base P : Nat} {js : List Jb} {bl : Nat → Nat} {c2 : Value} {Cm : List Nat} {w w' : World} (h : ComAt lo base P js bl c2 Cm w) (hf : FrJ base P js bl w w') : ComAt lo base P js bl c2 Cm w' :=
  h.keep hf.frm (fun i _ hi hP hj hX => by
    rcases hX with e | e | ⟨k, hk, e⟩
    · exact hP e
    · omega
    · exact hj k hk e)
section
variable {js : List Jb} {cyc : Nat} {ps : List Pr} {bl left : Nat → Nat} {P M : Nat} {es : List (UInt8 × Value)} {pa : Option Addr} {pc : Nat} {c2 : Value} {base : Nat} {v : Value} {L : List Nat} {w : World}
theorem PlS.setCom (h : PlS js cyc ps bl left P M es pa pc c2 base v L w) (c2' : Value) : PlS js cyc ps bl left P M es pa pc c2' base v L (w.setCell ⟨P, 2, none⟩ c2') := by
  have hf : Frm (fun i => i = P) w (w.setCell ⟨P, 2, none⟩ c2') := (Frm.refl (fun i => i = P) w).setCell (p := ⟨P, 2, none⟩) rfl _
  refine ⟨⟨blk_set h.hp.blk 2 c2', h.hp.own.frm hf (fun g hg e => ?_)⟩, h.jobs.keep hf (fun k hk e => (h.low.j k hk).2 e), h.map.keep hf (fun e => h.low.m.2 e) (fun x hx g hg e => (h.low.e x hx g hg).2 e), h.prs.keep hf (fun gp hg e => (h.low.g gp hg).2.1 e), h.heap, h.low, by simpa [World.setCell] using h.bas, h.mem, h.jok, h.pok, h.pl⟩
  exact h.hp.ne (e ▸ hg)
end
/-- What release does. -/
def RelOut (lo : Nat) (js : List Jb) (cyc : Nat) (ps : List Pr) (bl left : Nat → Nat) (P M : Nat) (es : List (UInt8 × Value)) (pa : Option Addr) (pc : Nat) (base : Nat) (L Cm : List Nat) (t : Nat) (w : World) (en : Ending) (w' : World) : Prop :=
  en = .returned (.tuple #[]) ∧ ∃ i c2' v' L', PlS js cyc ps bl left P M es pa pc c2' base v' L' w' ∧ ComAt lo base P js bl c2' (Cm.drop i) w' ∧ L'.Perm (L ++ Cm.take i) ∧ (∀ x ∈ Cm.take i, (jk js x).rel ≤ t) ∧ (∀ x ∈ Cm.drop i, t < (jk js x).rel) ∧ FrB base P w w'

set_option maxRecDepth 100000 in
set_option maxHeartbeats 8000000 in
theorem release_any (lo : Nat) (js : List Jb) (cyc : Nat) (ps : List Pr) (bl left : Nat → Nat) (P M : Nat) (es : List (UInt8 × Value)) (pa : Option Addr) (pc : Nat) (c2 : Value) (base : Nat) (v : Value) (L Cm : List Nat) (w : World) (t : Nat) (h : PlS js cyc ps bl left P M es pa pc c2 base v L w) (hc : ComAt lo base P js bl c2 Cm w) (hcm : ∀ x ∈ Cm, x < js.length) (hsr : Srt (fun k => (jk js k).rel) Cm 0 Cm.length) (hn : L.length + Cm.length ≤ 1000) (hsm : ∀ k, k < js.length → (jk js k).rel ≤ 1000) :
    Calls Tryz.prog 155 #[.pointer (some ⟨P, 0, none⟩), .int .i64 t] w (RelOut lo js cyc ps bl left P M es pa pc base L Cm t w) := by
  have H := hide h
  have HC := hide hc
  have HM := hide hcm
  have HSr := hide hsr
  have HSm := hide hsm
  clear h hc hcm hsr hsm
  go_enter Tryz.func155, Tryz.ntmps155
  go_wp2_with fail
  go_loopw [] (fun wr => ∃ (i : Nat) (c2' v' : Value) (L' : List Nat), i ≤ Cm.length ∧ PlS js cyc ps bl left P M es pa pc c2' base v' L' wr ∧ ComAt lo base P js bl c2' (Cm.drop i) wr ∧ L'.Perm (L ++ Cm.take i) ∧ (∀ x ∈ Cm.take i, (jk js x).rel ≤ t) ∧ FrB base P w wr) (fun wr => lenOf (wr.cell? ⟨P, 2, none⟩))
  case atStart => exact ⟨0, c2, v, L, by omega, H.out, HC.out, by simp, (fun x hx => by simp at hx), FrB.refl _ _ _⟩
  case round =>
    obtain ⟨i, c2', v', L', hi, h1, hc1, hp1, hr1, hf1⟩ := hrel
    have hdl : (Cm.drop i).length = Cm.length - i := List.length_drop
    have hl1 : L'.length ≤ 1000 := by
      have := hp1.length_eq
      rw [List.length_append, List.length_take] at this
      omega
    obtain ⟨ca, ccap, rfl, hcc, hcc', hcell⟩ := hc1
    rw [hdl] at hcell hcc
    rw [hdl] at h1
    have c2c : wr.cell? ⟨P, 2, none⟩ = some (.slice ca (Cm.length - i) ccap) := by rw [blk_cell h1.hp.blk]; rfl
    have c2f := blk_frozen h1.hp.blk 2
    have HL2 : Hid (lenOf (wr.cell? ⟨P, 2, none⟩) = Cm.length - i) := by unfold Hid; rw [c2c]; rfl
    by_cases hlt : i < Cm.length
    · have hpos0 : 0 < Cm.length - i := Nat.sub_pos_of_lt hlt
      obtain ⟨C, o, rfl, hC0, hC1, hC2, hC3, hC4, hC5⟩ := hcell hpos0
      have hxi : gd (Cm.drop i) 0 = gd Cm i := by simp [gd, List.getD_eq_getElem?_getD]
      have cc0 := hC5 0 hpos0
      rw [hxi, Nat.add_zero] at cc0
      have hxm : gd Cm i < js.length := HM.out _ (gd_mem hlt)
      have hx3 : wr.cell? ⟨bl (gd Cm i), 3, none⟩ = some (.int .i64 (jk js (gd Cm i)).rel) := by rw [blk_cell (h1.jobs _ hxm)]; rfl
      have hpos : (0 : Int) < ((Cm.length - i : Nat) : Int) := Int.ofNat_lt.2 hpos0
      have H1 := hide h1
      have Hp1 := hide hp1
      have Hr1 := hide hr1
      have Hf1 := hide hf1
      have HC5 := hide hC5
      have HC4 := hide hC4
      clear h1 hp1 hr1 hf1 hC5 hC4 hcell
      by_cases hrel : (jk js (gd Cm i)).rel ≤ t
      · have hrel' : ((jk js (gd Cm i)).rel : Int) ≤ t := by omega
        have CP := hide (fun (W : World) (hW : W.heap = wr.heap) => push_any js left P _ _ _ v' base bl L' W (H1.out.hp.same hW) (H1.out.jobs.same hW) H1.out.mem H1.out.jok.low (by omega) (by rw [hW]; exact H1.out.bas) (gd Cm i) hxm H1.out.heap)
        have Htk : Hid (Cm.take (i + 1) = Cm.take i ++ [gd Cm i]) := by
          unfold Hid
          rw [List.take_succ_eq_append_getElem hlt, gd_get hlt]
        have Hrx := hide hrel
        have HC5d : Hid (∀ q, q < Cm.length - (i + 1) → gd (Cm.drop (i + 1)) q = gd (Cm.drop i) (q + 1)) := fun q _ => by
          simp only [gd, List.getD_eq_getElem?_getD, List.getElem?_drop]
          rw [show i + 1 + q = i + (q + 1) by omega]
        clear hrel
        generalize gd Cm i = x at *
        generalize hN : Cm.length - i = n at *
        have HN := hide hN
        clear hN hdl
        go_wp2_with fail
        go_region_with (go_at_call 174; refine (CP.out wr.drew rfl).mono ?_; rintro en w2 ⟨rfl, v2, L2, hh2, s2, hp2, hhp2⟩)
        all_goals
          have s3 : Stp P v' v2 wr w2 := ⟨⟨s2.f.os, s2.f.tape, s2.f.output, s2.f.size, s2.f.block⟩, s2.at_⟩
          have hf2 := s3.frB H1.out.hp.own
          have H2 := hide (H1.out.next hf2.frm hh2 hhp2 (fun y hy => by
            have := hp2.mem_iff.1 hy
            simp at this
            rcases this with h5 | h5
            · exact H1.out.mem y h5
            · rw [h5]; exact hxm))
          have HF2 := hide (Hf1.out.trans hf2)
          have HCc : Hid (∀ q, w2.cell? ⟨C, q, none⟩ = wr.cell? ⟨C, q, none⟩) := fun q => World.cell?_of_block (hf2.frm.block C hC3 (fun hX => by omega))
          have hsz2 : wr.heap.size ≤ w2.heap.size := hf2.size
          have Hp2 := hide hp2
          have d2 : w2.cell? ⟨P, 2, none⟩ = some (.slice (some ⟨C, o, none⟩) n ccap) := by rw [blk_cell hh2.blk]; rfl
          have d2f := blk_frozen hh2.blk 2
          have hn1 : 1 ≤ n := by omega
          clear s2 s3 hh2 hp2 hhp2 hf2 CP cc0 c2c c2f hx3 hrel' hpos
          go_wp2_with fail
          have hN := HN.out
          generalize hA : (if ccap = 1 then some ({ block := C, off := o } : Addr) else some { block := C, off := o + 1 }) = ad
          have hfS : Frm (fun i => i = P) w2 (w2.setCell ⟨P, 2, none⟩ (.slice ad (n - 1) (ccap - 1))) := (Frm.refl (fun i => i = P) w2).setCell (p := ⟨P, 2, none⟩) rfl _
          refine ⟨⟨i + 1, .slice ad (n - 1) (ccap - 1), v2, L2, by omega, H2.out.setCom _, ?_, ?_, ?_, HF2.out.trans (FrB.of hfS (fun k hk => .inl hk))⟩, ?_⟩
          · refine ⟨ad, ccap - 1, by rw [List.length_drop, show Cm.length - (i + 1) = n - 1 by omega], by rw [List.length_drop]; omega, by omega, fun h0 => ?_⟩
            rw [List.length_drop] at h0
            refine ⟨C, o + 1, ?_, hC0, hC1, hC2, by have := hfS.size; omega, HC4.out, fun q hq => ?_⟩
            · rw [← hA, if_neg (by omega)]
            · rw [List.length_drop] at hq
              rw [World.cell?_of_block (w := w2) (Below.heap_setCell _ _ _ _ hC2), HCc.out, HC5d.out q hq, ← HC5.out (q + 1) (by omega), show o + 1 + q = o + (q + 1) by omega]
          · rw [Htk.out, ← List.append_assoc]
            exact Hp2.out.trans (List.Perm.append_right _ Hp1.out)
          · intro y hy
            rw [Htk.out] at hy
            rcases List.mem_append.1 hy with hy | hy
            · exact Hr1.out y hy
            · simp at hy
              rw [hy]
              exact Hrx.out
          · rw [HL2.out, blk_cell (blk_set H2.out.hp.blk 2 _)]
            show n - 1 < n
            omega
      · have hrel' : ¬ ((jk js (gd Cm i)).rel : Int) ≤ t := by omega
        have HAll : Hid (∀ x ∈ Cm.drop i, t < (jk js x).rel) := fun x hx => by
          obtain ⟨q, hq, e⟩ := mem_gd hx
          rw [hdl] at hq
          have e2 : gd Cm (i + q) = x := by
            rw [← e]
            simp [gd, List.getD_eq_getElem?_getD]
          have := HSr.out.le (i := i) (by omega) (i + q) (by omega) (by omega)
          simp only [e2] at this
          omega
        clear hrel
        generalize gd Cm i = x at *
        generalize hN : Cm.length - i = n at *
        have HN := hide hN
        clear hN hdl
        go_wp2_with fail
        go_end0
        refine ⟨rfl, i, _, v', L', H1.out, ?_, Hp1.out, Hr1.out, HAll.out, Hf1.out⟩
        have hN := HN.out
        exact ⟨_, ccap, by rw [List.length_drop, hN], by rw [List.length_drop, hN]; omega, hcc', fun _ => ⟨C, o, rfl, hC0, hC1, hC2, hC3, HC4.out, fun q hq => HC5.out q (by rw [List.length_drop, hN] at hq; exact hq)⟩⟩
    · have hz : Cm.length - i = 0 := by omega
      rw [hz] at h1 c2c hcell
      have HAll : Hid (∀ x ∈ Cm.drop i, t < (jk js x).rel) := fun x hx => by
        have : Cm.drop i = [] := List.drop_eq_nil_of_le (by omega)
        rw [this] at hx
        simp at hx
      have H1 := hide h1
      have Hp1 := hide hp1
      have Hr1 := hide hr1
      have Hf1 := hide hf1
      have Hz := hide hz
      clear h1 hp1 hr1 hf1 hcell hdl hz
      go_wp2_with fail
      go_end0
      exact ⟨rfl, i, _, v', L', H1.out, ⟨ca, ccap, by rw [List.length_drop, Hz.out], by rw [List.length_drop, Hz.out]; omega, hcc', fun h0 => by rw [List.length_drop, Hz.out] at h0; omega⟩, Hp1.out, Hr1.out, HAll.out, Hf1.out⟩
end Go.Proofs.YtbdffcjganlblaaGreatDoor

namespace Go.Proofs.YtbdffcjganlblaaGreatDoor
open Go.RowKit
set_option linter.unusedVariables false
set_option linter.unusedSimpArgs false

set_option maxRecDepth 100000 in
set_option maxHeartbeats 1000000 in
theorem allDone_any (P : Nat) (c0 c1 : Value) (a b : Option Addr) (n m ca cb : Nat) (w : World) (h : w.heap[P]? = some (.cells #[c0, c1, .slice a n ca, .slice b m cb] 221 (0, 0))) :
    Calls Tryz.prog 157 #[.pointer (some ⟨P, 0, none⟩)] w fun e w' => e = .returned (.bool (decide (n = 0) && decide (m = 0))) ∧ w' = w := by
  have h2 : w.cell? ⟨P, 2, none⟩ = some (.slice a n ca) := by rw [blk_cell h]; rfl
  have h3 : w.cell? ⟨P, 3, none⟩ = some (.slice b m cb) := by rw [blk_cell h]; rfl
  clear h
  have e1 : ∀ q : Nat, ((q : Int) == 0) = decide (q = 0) := fun q => by
    by_cases h0 : q = 0
    · simp [h0]
    · rw [decide_eq_false h0, beq_eq_false_iff_ne]
      omega
  by_cases hn : n = 0
  · have hn' : ((n : Int) == 0) = true := by rw [e1, decide_eq_true hn]
    rw [decide_eq_true hn, Bool.true_and, ← e1]
    clear hn e1
    go_enter Tryz.func157, Tryz.ntmps157
    go_wp2_with fail
    go_ret
    exact ⟨rfl, rfl⟩
  · have hn' : ((n : Int) == 0) = false := by rw [e1, decide_eq_false hn]
    rw [decide_eq_false hn, Bool.false_and]
    clear hn e1
    go_enter Tryz.func157, Tryz.ntmps157
    go_wp2_with fail
    go_ret
    exact ⟨rfl, rfl⟩

/-- A task's jobs, as jobsIn makes them. -/
theorem div_wrap (u f : Nat) (hu : u ≤ 100000) : wrap64 ((u : Int) / f) = ((u / f : Nat) : Int) := by
  rw [← Int.natCast_ediv]
  have := Nat.div_le_self u f
  generalize u / f = q at *
  exact w64 _ (by omega)
theorem ptV_range (bt : Nat → Nat) (i X : Nat) : ptV (fun q => if q = i then X else bt q) (List.range (i + 1)) = ptV bt (List.range i) ++ [.pointer (some ⟨X, 0, none⟩)] := by
  unfold ptV
  rw [List.range_succ, List.map_append]
  congr 1
  · apply List.map_congr_left
    intro q hq
    have : q < i := by simpa using hq
    show Value.pointer (some ⟨if q = i then X else bt q, 0, none⟩) = _
    rw [if_neg (by omega)]
  · simp
structure JiW (x : Tk × Nat) (pl : Nat) (w wr : World) (v : Value) (bt : Nat → Nat) (n : Nat) : Prop where
  row : RowJ wr w.heap.size v bt (List.range n)
  job : ∀ i, i < n → wr.heap[bt i]? = some (.cells (jbV (jobA pl x.1 i) x.1.C) 225 (0, 0)) ∧ w.heap.size < bt i
  inj : ∀ i j, i < n → j < n → bt i = bt j → i = j
  b : Below w.heap.size w wr
  t : wr.heap[w.heap.size]? = some (.cells (ptA x) 172 (0, 0))

theorem JiW.push {x : Tk × Nat} {pl : Nat} {w wr w4 : World} {v v4 : Value} {bt : Nat → Nat} {i : Nat} {c : Array Value} {o2 : Obj} (h : JiW x pl w wr v bt i) (hc : c = jbV (jobA pl x.1 i) x.1.C) (hg : ((wr.alloc (.cells c 225)).alloc o2).grownBy w4 v.ownBlock) (ho : w4.ownsRow w.heap.size 226 1 v4 (i + 1) (ptV bt (List.range i) ++ [.pointer (some ⟨wr.heap.size, 0, none⟩)])) : JiW x pl w w4 v4 (fun q => if q = i then wr.heap.size else bt q) (i + 1) := by
  subst hc
  have hsz := h.b.size
  have hlt : ∀ q, q < i → bt q < wr.heap.size := fun q hq => blk_lt (h.job q hq).1
  have hown : ∀ (k : Nat) (c : Array Value) (ty : TypeId) (fr : Nat × Nat), wr.heap[k]? = some (.cells c ty fr) → ty ≠ 226 → v.ownBlock ≠ some k := fun k c ty fr hk hty e => by
    obtain ⟨_, c', fr', e'⟩ := own_typed h.row e
    rw [hk] at e'
    simp at e'
    exact hty e'.2.1
  have hold : ∀ (k : Nat) (o : Obj), wr.heap[k]? = some o → v.ownBlock ≠ some k → w4.heap[k]? = some o := fun k o hk hne => by
    have hl := blk_lt hk
    rw [hg.block k (by simp; omega) (fun e => hne e.symm), Below.heap_alloc _ _ _ (by simp; omega), Below.heap_alloc _ _ _ hl]
    exact hk
  have hnew : w4.heap[wr.heap.size]? = some (.cells (jbV (jobA pl x.1 i) x.1.C) 225 (0, 0)) := by
    rw [hg.block wr.heap.size (by simp; omega) (fun e => by
      have := (h.row.lt wr.heap.size e.symm).2
      omega), Below.heap_alloc _ _ _ (by simp)]
    exact blk_new _ _ _
  refine ⟨?_, fun q hq => ?_, fun p q hp hq e => ?_, ?_, hold _ _ h.t (hown _ _ _ _ h.t (by decide))⟩
  · unfold RowJ
    rw [List.length_range, ptV_range]
    exact ho
  · by_cases e : q = i
    · simp only [if_pos e]
      rw [e]
      exact ⟨hnew, by have := blk_lt h.t; omega⟩
    · simp only [if_neg e]
      have hj := h.job q (by omega)
      exact ⟨hold _ _ hj.1 (hown _ _ _ _ hj.1 (by decide)), hj.2⟩
  · by_cases e1 : p = i
    · by_cases e2 : q = i
      · omega
      · simp only [if_pos e1, if_neg e2] at e
        have := hlt q (by omega)
        omega
    · by_cases e2 : q = i
      · simp only [if_neg e1, if_pos e2] at e
        have := hlt p (by omega)
        omega
      · simp only [if_neg e1, if_neg e2] at e
        exact h.inj p q (by omega) (by omega) e
  · refine ((h.b.alloc hsz _).alloc (by simp; omega) _).grown hg (by simp; omega) (fun k hk => (h.row.lt k hk).1)

def JiOut (x : Tk × Nat) (pl cyc : Nat) (w : World) (en : Ending) (w' : World) : Prop := ∃ v bt, en = .returned v ∧ JiW x pl w w' v bt (cyc / x.1.P)

set_option maxRecDepth 100000 in
set_option maxHeartbeats 4000000 in
theorem jobsIn_any (x : Tk × Nat) (cyc pl : Nat) (w : World) (hP : 1 ≤ x.1.P) (hP2 : x.1.P ≤ 60) (hO : x.1.O ≤ 60) (hC : x.1.C ≤ 60) (hD : x.1.D ≤ 60) (hcy : cyc ≤ 60) (hpl : pl ≤ 100) :
    Calls Tryz.prog 172 #[.agg #[.string (bs [x.1.nm]), .int .i64 x.1.q0, .int .i64 x.1.P, .int .i64 x.1.q1, .int .i64 x.1.O, .int .i64 x.2, .int .i64 x.1.C, .int .i64 x.1.q3, .int .i64 x.1.D, .int .i64 x.1.q4], .int .i64 cyc, .int .i64 pl] w (JiOut x pl cyc w) := by
  obtain ⟨i0, hi0, hz0, hz1, hz2⟩ := info_parts Tryz.infoJP
  have hX0 := blk_new w (ptA x) 172
  have J0 : Hid (JiW x pl w (w.alloc (.cells (ptA x) 172)) (.slice none 0 0) (fun _ => 0) 0) := ⟨World.ownsRow_nil _ _ _ _, fun i h => by omega, fun i j h => by omega, below_new _ _, hX0⟩
  unfold ptA at J0 hX0
  have hdiv := hide (div_wrap cyc x.1.P (by omega))
  have hdl : cyc / x.1.P ≤ 60 := Nat.le_trans (Nat.div_le_self _ _) hcy
  have hne : ¬ (x.1.P : Int) = 0 := by omega
  obtain ⟨x0, x1, x2, x3, x4, x5, x6, x7, x8, x9⟩ := ptA_cells (x := x) (by unfold ptA; exact hX0)
  clear hX0
  go_enter Tryz.func172, Tryz.ntmps172
  go_wp2_with fail
  rw [hdiv.out]
  clear x0 x1 x2 x3 x4 x5 x6 x7 x8 x9
  have HQ : Hid (∀ i, i < cyc / x.1.P → i * x.1.P + x.1.P ≤ cyc) := fun i hi => by
    have h1 : (i + 1) * x.1.P ≤ cyc / x.1.P * x.1.P := Nat.mul_le_mul_right _ hi
    have h2 := Nat.div_mul_le_self cyc x.1.P
    rw [Nat.add_mul, Nat.one_mul] at h1
    omega
  generalize hN : cyc / x.1.P = N at *
  have HN := hide hN
  clear hN hdiv
  go_loopw [7, 15] (fun jv iv wr => ∃ (i : Nat) (bt : Nat → Nat), i ≤ N ∧ iv = .int .i64 i ∧ JiW x pl w wr jv bt i) (fun _ iv _ => N - (intOf iv).toNat)
  case atStart => exact ⟨0, _, by omega, rfl, J0.out⟩
  case round =>
    obtain ⟨i, bt, hi, rfl, hW⟩ := hrel
    obtain ⟨x0, x1, x2, x3, x4, x5, x6, x7, x8, x9⟩ := ptA_cells (x := x) hW.t
    obtain ⟨va, vc, hv, _, _⟩ := hW.row.len
    rw [List.length_range] at hv
    subst hv
    have hbz := hW.b.size
    have HW := hide hW
    have ow := hW.row
    clear hW
    by_cases hlt : i < N
    · have hlt' : (i : Int) < N := by omega
      obtain ⟨m, hM⟩ : ∃ m, m = i * x.1.P := ⟨_, rfl⟩
      have hm := HQ.out i hlt
      rw [← hM] at hm
      have hmm : m ≤ 60 := Nat.le_trans (Nat.le_trans (Nat.le_add_right m x.1.P) hm) hcy
      have e0 : wrap64 ((i : Int) * (x.1.P : Int)) = (m : Int) := by rw [← Int.natCast_mul, ← hM]; exact w64 _ (by omega)
      have e1 : wrap64 (wrap64 ((i : Int) * (x.1.P : Int)) + (x.1.O : Int)) = ((m + x.1.O : Nat) : Int) := by
        rw [e0, ← Int.natCast_add]
        clear e0
        exact w64 _ (by omega)
      have e2 : wrap64 (wrap64 (wrap64 ((i : Int) * (x.1.P : Int)) + (x.1.O : Int)) + (x.1.D : Int)) = ((m + x.1.O + x.1.D : Nat) : Int) := by
        rw [e1, ← Int.natCast_add]
        clear e0 e1
        exact w64 _ (by omega)
      have E1 := hide e1
      have E2 := hide e2
      have HMm := hide hM
      clear hM e0 e1 e2
      go_wp2_with (at_builtin; refine Go.wpList_append_own_at _ rfl _ _ 218 rfl w.heap.size 226 i0 _ 1 8 Tryz.underlying218 hi0 hz0 hz1 hz2 rfl (by decide) _ _ _ rfl ((ow.alloc _).alloc _) ⟨wr.heap.size + 1, 0, none⟩ 1 1 [.pointer (some ⟨wr.heap.size, 0, none⟩)] rfl rfl ?c1 ?c2 ?c3 ?c4 ?c5 ?_)
      case c1 => exact cells_new (wr.alloc _) #[_] _ _ (by simp)
      case c2 => simp [Value.oneCell']
      case c3 => rw [List.length_range]; unfold maxLen; omega
      case c4 => rw [List.length_range]; omega
      case c5 => simp; omega
      intro v4 w4 hown4 hgr4 _ hloc4
      have HJ4 := hide (HW.out.push (by rw [E2.out, E1.out, HMm.out]; rfl) hgr4 hown4)
      clear hown4 hgr4 hloc4 HW E1 E2 ow x0 x1 x2 x3 x4 x5 x6 x7 x8 x9
      go_wp2_with fail
      go_roundw
      case rel => exact ⟨i + 1, _, by omega, by go_num, HJ4.out⟩
      case measure => simp [intOf]; omega
    · have hlt' : ¬ (i : Int) < N := by omega
      have e : i = N := by omega
      subst e
      go_wp2_with fail
      go_ret
      exact ⟨_, bt, rfl, by rw [HN.out]; exact HW.out⟩
end Go.Proofs.YtbdffcjganlblaaGreatDoor

namespace Go.Proofs.YtbdffcjganlblaaGreatDoor
open Go.RowKit
set_option linter.unusedVariables false
set_option linter.unusedSimpArgs false

def cmpI (a b : Int) : Int := if a < b then -1 else if b < a then 1 else 0
theorem cmpI_lt (a b : Int) : cmpI a b < 0 ↔ a < b := by
  unfold cmpI
  split
  · simp; omega
  · split
    · constructor
      · intro h; omega
      · intro h; omega
    · constructor
      · intro h; omega
      · intro h; omega

set_option maxRecDepth 100000 in
set_option maxHeartbeats 1000000 in
theorem isNaN_any (a : Int) (w : World) :
    Calls Tryz.prog 202 #[.int .i64 a] w fun e w' => e = .returned (.bool false) ∧ w' = w := by
  have h : (a != a) = false := by simp
  go_enter Tryz.func202, Tryz.ntmps202
  go_wp2_with fail
  go_ret
  exact ⟨rfl, rfl⟩

set_option maxRecDepth 100000 in
set_option maxHeartbeats 1000000 in
theorem compare_any (a b : Int) (w : World) :
    Calls Tryz.prog 191 #[.int .i64 a, .int .i64 b] w fun e w' => e = .returned (.int .i64 (cmpI a b)) ∧ w' = w := by
  have hc : Hid (cmpI a b = if a < b then -1 else if b < a then 1 else 0) := rfl
  rcases (show a < b ∨ (¬ a < b ∧ b < a) ∨ (¬ a < b ∧ ¬ b < a) by omega) with h1 | ⟨h1, h2⟩ | ⟨h1, h2⟩
  · rw [if_pos h1] at hc
    go_enter Tryz.func191, Tryz.ntmps191
    go_wp2_with (go_at_call 202; refine (isNaN_any _ _).mono ?_; rintro e w' ⟨rfl, hw'⟩; replace hw' := hw'.symm; subst hw')
    go_ret
    exact ⟨by rw [hc.out]; rfl, rfl⟩
  · rw [if_neg h1, if_pos h2] at hc
    go_enter Tryz.func191, Tryz.ntmps191
    go_wp2_with (go_at_call 202; refine (isNaN_any _ _).mono ?_; rintro e w' ⟨rfl, hw'⟩; replace hw' := hw'.symm; subst hw')
    go_ret
    exact ⟨by rw [hc.out]; rfl, rfl⟩
  · rw [if_neg h1, if_neg h2] at hc
    go_enter Tryz.func191, Tryz.ntmps191
    go_wp2_with (go_at_call 202; refine (isNaN_any _ _).mono ?_; rintro e w' ⟨rfl, hw'⟩; replace hw' := hw'.symm; subst hw')
    go_ret
    exact ⟨by rw [hc.out]; rfl, rfl⟩

def relK (js : List Jb) (k : Nat) : Nat := (jk js k).rel
set_option maxRecDepth 100000 in
set_option maxHeartbeats 1000000 in
theorem relCmp_any (js : List Jb) (bl left : Nat → Nat) (w : World) (h : JobsAt js bl left w) (i j : Nat) (hi : i < js.length) (hj : j < js.length) :
    Calls Tryz.prog 190 #[.pointer (some ⟨bl i, 0, none⟩), .pointer (some ⟨bl j, 0, none⟩)] w fun e w' => e = .returned (.int .i64 (cmpI (relK js i) (relK js j))) ∧ ∃ n, w' = w.drewN n := by
  have a3 : w.cell? ⟨bl i, 3, none⟩ = some (.int .i64 (relK js i)) := by rw [blk_cell (h i hi)]; rfl
  have b3 : w.cell? ⟨bl j, 3, none⟩ = some (.int .i64 (relK js j)) := by rw [blk_cell (h j hj)]; rfl
  have CQ : Hid (∀ x, Calls Tryz.prog 191 #[.int .i64 (relK js i), .int .i64 (relK js j)] (w.drewN x) fun e w' => e = .returned (.int .i64 (cmpI (relK js i) (relK js j))) ∧ ∃ n, w' = w.drewN n) := fun x => (compare_any _ _ _).mono (fun e w' h => ⟨h.1, x, h.2⟩)
  clear h
  go_enter Tryz.func190, Tryz.ntmps190
  go_wp2_with fail
  go_quiet (first | (go_at_call 191; exact CQ.out _))
  go_wp2_with fail
  go_ret
  exact ⟨rfl, nq, rfl⟩
abbrev cmpF : Value := .func (.func 190) #[] #[]

set_option maxRecDepth 100000 in
set_option maxHeartbeats 8000000 in
theorem insSort_any (js : List Jb) (bl left : Nat → Nat) (L : List Nat) (base : Nat) (v : Value) (w : World) (hv : RowJ w base v bl L) (hj : JobsAt js bl left w) (hL : ∀ x ∈ L, x < js.length) (a b : Nat) (hab : a ≤ b) (hb : b ≤ L.length) (hn : L.length ≤ 100000) :
    Calls Tryz.prog 207 #[v, .int .i64 a, .int .i64 b, cmpF] w fun e w' => e = .returned (.tuple #[]) ∧ RowJ w' base v bl (insS (relK js) L a (a + 1) b) ∧ Frm (fun k => v.ownBlock = some k) w w' := by
  obtain ⟨va, vcap, hvf, _, _⟩ := hv.len
  subst hvf
  have HV := hide hv
  have HJ := hide hj
  have HL := hide hL
  clear hv hj hL
  go_enter Tryz.func207, Tryz.ntmps207
  go_wp2_with fail
  go_loopw [8] (fun iv wr => ∃ (i : Nat) (L1 : List Nat), iv = .int .i64 i ∧ a < i ∧ i ≤ b + 1 ∧ RowJ wr base (.slice va L.length vcap) bl L1 ∧ L1.Perm L ∧ insS (relK js) L1 a i b = insS (relK js) L a (a + 1) b ∧ Frm (fun k => (Value.slice va L.length vcap).ownBlock = some k) w wr) (fun iv _ => b + 1 - (intOf iv).toNat)
  case atStart => exact ⟨a + 1, L, by go_num, by omega, by omega, HV.out, List.Perm.refl _, rfl, Frm.refl _ _⟩
  case round =>
    obtain ⟨i, L1, rfl, hai, hib, hr1, hp1, he1, hf1⟩ := hrel
    have hl1 := hp1.length_eq
    have HR1 := hide hr1
    have HP1 := hide hp1
    have HE1 := hide he1
    have HF1 := hide hf1
    clear hr1 hp1 he1 hf1
    by_cases hlt : i < b
    · have hlt' : (i : Int) < b := by omega
      have HE2 := hide ((insS_go (key := relK js) (L := L1) (a := a) hlt).symm.trans HE1.out)
      clear HE1
      go_wp2_with fail
      go_loopw [9] (fun jv wr => ∃ (j : Nat) (L2 : List Nat), jv = .int .i64 j ∧ a ≤ j ∧ j ≤ i ∧ RowJ wr base (.slice va L.length vcap) bl L2 ∧ L2.Perm L ∧ insI (relK js) L2 a j = insI (relK js) L1 a i ∧ Frm (fun k => (Value.slice va L.length vcap).ownBlock = some k) w wr) (fun jv _ => (intOf jv).toNat)
      case atStart => exact ⟨i, L1, rfl, by omega, Nat.le_refl _, HR1.out, HP1.out, rfl, HF1.out⟩
      case round =>
        obtain ⟨j, L2, rfl, haj, hji, hr2, hp2, he2, hf2⟩ := hrel
        have hl2 := hp2.length_eq
        have HJ2 := hide (HJ.out.keep hf2 (fun k hk => own_not_job HV.out HJ.out hk))
        have HL2 : Hid (∀ x ∈ L2, x < js.length) := fun x hx => HL.out x (hp2.mem_iff.1 hx)
        obtain ⟨g, cap, cur, hvv, _, hg, hc1, _, _, hcell⟩ := hr2.form (by omega)
        injection hvv with e1 e2 e3
        subst e1
        subst e3
        clear e2
        have HP2 := hide hp2
        have HE3 := hide he2
        have HF2 := hide hf2
        by_cases haj2 : a < j
        · have haj' : (a : Int) < j := by omega
          have hjL : (j : Int) < L.length := by omega
          have hj1L : (j : Int) - 1 < L.length := by omega
          have hj10 : 0 ≤ (j : Int) - 1 := by omega
          have cj : wr.cell? ⟨g, j, none⟩ = some (.pointer (some ⟨bl (gd L2 j), 0, none⟩)) := by rw [blk_cell hg]; exact hcell j (by omega)
          have cj1 : wr.cell? ⟨g, j - 1, none⟩ = some (.pointer (some ⟨bl (gd L2 (j - 1)), 0, none⟩)) := by rw [blk_cell hg]; exact hcell (j - 1) (by omega)
          have fz := blk_frozen hg
          have kj := HL2.out _ (gd_mem (L := L2) (i := j) (by omega))
          have kj1 := HL2.out _ (gd_mem (L := L2) (i := j - 1) (by omega))
          have CQ : Hid (∀ x, Calls Tryz.prog 190 #[.pointer (some ⟨bl (gd L2 j), 0, none⟩), .pointer (some ⟨bl (gd L2 (j - 1)), 0, none⟩)] (wr.drewN x) fun e w' => e = .returned (.int .i64 (cmpI (relK js (gd L2 j)) (relK js (gd L2 (j - 1))))) ∧ ∃ n, w' = wr.drewN n) := fun x => (relCmp_any js bl left (wr.drewN x) (HJ2.out.same rfl) _ _ kj kj1).mono (fun e w' h => ⟨h.1, by
            obtain ⟨n, hn⟩ := h.2
            exact ⟨x + n, by rw [hn]; exact World.drewN_drewN _ _ _⟩⟩)
          have hcmp := cmpI_lt (relK js (gd L2 j)) (relK js (gd L2 (j - 1)))
          have HSw : Hid (RowJ ((wr.setCell ⟨g, j, none⟩ (.pointer (some ⟨bl (gd L2 (j - 1)), 0, none⟩))).setCell ⟨g, j - 1, none⟩ (.pointer (some ⟨bl (gd L2 j), 0, none⟩))) base (.slice (some ⟨g, 0, none⟩) L.length vcap) bl (swp L2 j (j - 1))) := by
            have hle : L.length = L2.length := hl2.symm
            rw [hle] at hr2 ⊢
            have h1 := hr2.set (i := j) (by omega) (gd L2 (j - 1))
            have h2 := RowJ.set (L := L2.set j (gd L2 (j - 1))) (by simpa using h1) (i := j - 1) (by simp; omega) (gd L2 j)
            unfold Hid swp
            simpa using h2
          have HFs : Hid (Frm (fun k => (Value.slice (some ⟨g, 0, none⟩) L.length vcap).ownBlock = some k) wr ((wr.setCell ⟨g, j, none⟩ (.pointer (some ⟨bl (gd L2 (j - 1)), 0, none⟩))).setCell ⟨g, j - 1, none⟩ (.pointer (some ⟨bl (gd L2 j), 0, none⟩)))) := ((Frm.refl _ wr).setCell (p := ⟨g, j, none⟩) (by simp [Value.ownBlock]) _).setCell (p := ⟨g, j - 1, none⟩) (by simp [Value.ownBlock]) _
          have hX : (wr.setCell ⟨g, j, none⟩ (.pointer (some ⟨bl (gd L2 (j - 1)), 0, none⟩))).cell? ⟨g, j - 1, none⟩ = some (.pointer (some ⟨bl (gd L2 (j - 1)), 0, none⟩)) := by
            rw [blk_cell (blk_set hg j _), Array.getElem?_setIfInBounds, if_neg (by omega)]
            exact hcell (j - 1) (by omega)
          have fz2 := blk_frozen (blk_set hg j (.pointer (some ⟨bl (gd L2 (j - 1)), 0, none⟩)))
          by_cases hk : relK js (gd L2 j) < relK js (gd L2 (j - 1))
          · have hcd : decide (cmpI (relK js (gd L2 j)) (relK js (gd L2 (j - 1))) < 0) = true := decide_eq_true (hcmp.2 (by omega))
            have HE4 : Hid (insI (relK js) (swp L2 j (j - 1)) a (j - 1) = insI (relK js) L1 a i) := (insI_go haj2 hk).symm.trans HE3.out
            clear hk hcmp hr2 hp2 he2 hf2 hg hcell HE3
            generalize bl (gd L2 j) = bj at *
            generalize bl (gd L2 (j - 1)) = bj1 at *
            generalize cmpI (relK js (gd L2 j)) (relK js (gd L2 (j - 1))) = cc at *
            go_wp2_with fail
            go_quiet (first | (go_at_call 190; exact CQ.out _))
            go_wp2_with fail
            go_region
            all_goals
              go_wp2_with fail
              go_roundw
              case rel => exact ⟨j - 1, swp L2 j (j - 1), by go_num, by omega, by omega, HSw.out, (swp_perm (by omega) (by omega)).trans HP2.out, HE4.out, HF2.out.trans ⟨HFs.out.os, HFs.out.tape, HFs.out.output, HFs.out.size, HFs.out.block⟩⟩
              case measure => simp [intOf]; omega
          · have hcd : decide (cmpI (relK js (gd L2 j)) (relK js (gd L2 (j - 1))) < 0) = false := decide_eq_false (fun h => hk (by have := hcmp.1 h; omega))
            have HE4 : Hid (L2 = insI (relK js) L1 a i) := (insI_stop hk).symm.trans HE3.out
            have HR2 := hide hr2
            clear hk hcmp hr2 hp2 he2 hf2 hg hcell HE3 HSw HFs hX fz2
            generalize bl (gd L2 j) = bj at *
            generalize bl (gd L2 (j - 1)) = bj1 at *
            generalize cmpI (relK js (gd L2 j)) (relK js (gd L2 (j - 1))) = cc at *
            go_wp2_with fail
            go_quiet (first | (go_at_call 190; exact CQ.out _))
            go_wp2_with fail
            go_roundw
            case rel => exact ⟨i + 1, L2, by go_num, by omega, by omega, HR2.out, HP2.out, by rw [HE4.out]; exact HE2.out, HF2.out.trans (Frm.sames rfl rfl rfl rfl)⟩
            case measure => simp [intOf]; omega
        · have haj' : ¬ (a : Int) < j := by omega
          have hajd : decide ((a : Int) < j) = false := decide_eq_false haj'
          have HE4 : Hid (L2 = insI (relK js) L1 a i) := (insI_end haj2).symm.trans HE3.out
          have HR2 := hide hr2
          clear hr2 hp2 he2 hf2 hg hcell HE3
          go_wp2_with fail
          go_quiet (fail)
          go_wp2_with fail
          go_roundw
          case rel => exact ⟨i + 1, L2, by go_num, by omega, by omega, HR2.out, HP2.out, by rw [HE4.out]; exact HE2.out, HF2.out.trans (Frm.sames rfl rfl rfl rfl)⟩
          case measure => simp [intOf]; omega
    · have hlt' : ¬ (i : Int) < b := by omega
      have HE2 : Hid (L1 = insS (relK js) L a (a + 1) b) := (insS_end hlt).symm.trans HE1.out
      go_wp2_with fail
      go_end0
      exact ⟨rfl, by rw [← HE2.out]; exact HR1.out, HF1.out⟩
end Go.Proofs.YtbdffcjganlblaaGreatDoor
