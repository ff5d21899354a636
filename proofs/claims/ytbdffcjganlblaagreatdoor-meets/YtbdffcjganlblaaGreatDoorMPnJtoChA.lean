/-
  Own work. The program's plan: what holds from frame to frame.
-/
import Derived.Test.YtbdffcjganlblaaGreatDoorMPnGtoPnI
import Derived.Test.YtbdffcjganlblaaGreatDoorMTabBtoPlC
import Derived.Test.YtbdffcjganlblaaGreatDoorMProgMtoTbK
import Derived.Test.YtbdffcjganlblaaGreatDoorMTbLtoGuard
namespace Go.Proofs.YtbdffcjganlblaaGreatDoor
open Go.RowKit
set_option linter.unusedVariables false
set_option linter.unusedSimpArgs false

/-- Ahead of the frame that begins at s. -/
structure PInv (js : List Jb) (s : Nat) (left : Nat → Nat) (L Cm : List Nat) : Prop where
  nod : (L ++ Cm).Nodup
  iff : ∀ k, (k ∈ L ∨ k ∈ Cm) ↔ k < js.length ∧ 0 < left k
  rel : ∀ k ∈ L, (jk js k).rel ≤ s
  srt : Srt (relK js) Cm 0 Cm.length
  lo : ∀ k, left k ≤ costJ js k
section
variable {js : List Jb} {cyc s : Nat} {ps : List Pr} {left : Nat → Nat} {L Cm : List Nat}
theorem PInv.start (hj : JsOk js cyc) (hS : Sorted js (List.range js.length) Cm) : PInv js 0 (costJ js) [] Cm := by
  refine ⟨by rw [List.nil_append]; exact hS.perm.nodup_iff.2 List.nodup_range, fun k => ?_, (fun k hk => by simp at hk), hS.srt, fun k => Nat.le_refl _⟩
  rw [hS.perm.mem_iff]
  constructor
  · rintro (h | h)
    · simp at h
    · have h5 : k < js.length := by simpa using h
      exact ⟨h5, hj.cost k h5⟩
  · intro h
    exact .inr (by simpa using h.1)
theorem PInv.released (h : PInv js s left L Cm) {i : Nat} {L' : List Nat} (hp : L'.Perm (L ++ Cm.take i)) (h1 : ∀ x ∈ Cm.take i, (jk js x).rel ≤ s) (h2 : ∀ x ∈ Cm.drop i, s < (jk js x).rel) : RdyL js left s L' := by
  have hn := h.nod
  rw [← List.take_append_drop i Cm, ← List.append_assoc] at hn
  refine ⟨hp.nodup_iff.2 (List.nodup_append.1 hn).1, fun k => ?_⟩
  rw [hp.mem_iff, List.mem_append]
  constructor
  · rintro (h5 | h5)
    · have h6 := (h.iff k).1 (.inl h5)
      exact ⟨h6.1, h.rel k h5, h6.2⟩
    · have h6 := (h.iff k).1 (.inr (List.mem_of_mem_take h5))
      exact ⟨h6.1, h1 k h5, h6.2⟩
  · rintro ⟨a1, a2, a3⟩
    rcases (h.iff k).2 ⟨a1, a3⟩ with h5 | h5
    · exact .inl h5
    · rw [← List.take_append_drop i Cm, List.mem_append] at h5
      rcases h5 with h5 | h5
      · exact .inr h5
      · have := h2 k h5
        omega
theorem srt_drop {key : Nat → Nat} {C : List Nat} (h : Srt key C 0 C.length) (i : Nat) : Srt key (C.drop i) 0 (C.drop i).length := fun q h1 h2 => by
  rw [List.length_drop] at h2
  have e : ∀ q, gd (C.drop i) q = gd C (i + q) := fun q => by simp [gd, List.getD_eq_getElem?_getD]
  rw [e, e]
  exact h (i + q) (by omega) (by omega)
theorem PInv.filled (h : PInv js s left L Cm) {i : Nat} {L2 : List Nat} {e f : Nat} (h1 : ∀ x ∈ Cm.take i, (jk js x).rel ≤ s) (h2 : ∀ x ∈ Cm.drop i, s < (jk js x).rel) (hR : RdyL js (fillJ js ps s e f s left).2 s L2) {s2 : Nat} (hs : s ≤ s2) : PInv js s2 (fillJ js ps s e f s left).2 L2 (Cm.drop i) := by
  obtain ⟨⟨f1, f2, f3⟩, f4, f5⟩ := fill_ok js ps s e f s left
  have hlate : ∀ k, s < (jk js k).rel → (fillJ js ps s e f s left).2 k = left k := fun k hk => by
    have h6 := f4 k
    rcases Nat.eq_zero_or_pos (gvn k (fillJ js ps s e f s left).1) with h7 | h7
    · omega
    · obtain ⟨x, hx, ex⟩ := gvn_pos h7
      have h8 := (f1 x hx).2.1
      rw [ex] at h8
      omega
  have hn := h.nod
  have hnC := (List.nodup_append.1 hn).2.1
  refine ⟨?_, fun k => ?_, fun k hk => Nat.le_trans ((hR.iff k).1 hk).2.1 hs, srt_drop h.srt i, fun k => ?_⟩
  · rw [List.nodup_append]
    refine ⟨hR.nod, hnC.sublist (List.drop_sublist _ _), fun a ha b hb e => ?_⟩
    have h5 := ((hR.iff a).1 ha).2.1
    have h6 := h2 b hb
    rw [← e] at h6
    omega
  · rw [hR.iff k]
    constructor
    · rintro (⟨a1, a2, a3⟩ | h5)
      · exact ⟨a1, a3⟩
      · have h6 := (h.iff k).1 (.inr (List.mem_of_mem_drop h5))
        exact ⟨h6.1, by rw [hlate k (h2 k h5)]; exact h6.2⟩
    · rintro ⟨a1, a2⟩
      by_cases hr : (jk js k).rel ≤ s
      · exact .inl ⟨a1, hr, a2⟩
      · right
        rw [hlate k (by omega)] at a2
        rcases (h.iff k).2 ⟨a1, a2⟩ with h5 | h5
        · exact absurd (h.rel k h5) hr
        · rw [← List.take_append_drop i Cm, List.mem_append] at h5
          rcases h5 with h5 | h5
          · exact absurd (h1 k h5) hr
          · exact h5
  · have h6 := f4 k
    have := h.lo k
    omega
theorem PInv.done (h : PInv js s left L Cm) : (decide (Cm.length = 0) && decide (L.length = 0)) = allJ js left := by
  rw [Bool.eq_iff_iff]
  unfold allJ
  rw [Bool.and_eq_true, decide_eq_true_eq, decide_eq_true_eq, List.all_eq_true]
  constructor
  · rintro ⟨h1, h2⟩ k hk
    have e1 := List.length_eq_zero_iff.1 h1
    have e2 := List.length_eq_zero_iff.1 h2
    subst e1 e2
    have := (h.iff k).2
    simp at hk
    rcases Nat.eq_zero_or_pos (left k) with h5 | h5
    · simp [h5]
    · have := this ⟨hk, h5⟩
      simp at this
  · intro h5
    have hno : ∀ k, ¬ (k ∈ L ∨ k ∈ Cm) := fun k hk => by
      obtain ⟨a1, a2⟩ := (h.iff k).1 hk
      have := h5 k (by simpa using a1)
      simp at this
      omega
    refine ⟨?_, ?_⟩
    · rw [List.length_eq_zero_iff]
      cases Cm with
      | nil => rfl
      | cons x r => exact absurd (.inr (by simp)) (hno x)
    · rw [List.length_eq_zero_iff]
      cases L with
      | nil => rfl
      | cons x r => exact absurd (.inl (by simp)) (hno x)
end
/-- The pairs of a set, among its tasks. -/
structure PrOk (l : List (Tk × Nat)) (cyc : Nat) (ps : List Pr) : Prop where
  a : ∀ p ∈ ps, p.a ∈ l.map (·.1.nm)
  b : ∀ p ∈ ps, p.b ∈ l.map (·.1.nm)
  bef : ∀ p ∈ ps, p.ap = false → ∀ i j, (hi : i < l.length) → (hj : j < l.length) → l[i].1.nm = p.a → l[j].1.nm = p.b → l[i].1.P = l[j].1.P
  len : ps.length ≤ 6
theorem NpF.ps {l : List (Tk × Nat)} {cyc : Nat} {pa : Option Addr} {pn pc : Nat} {w : World} {js : List Jb} {bl : Nat → Nat} {es : List (UInt8 × Value)} {c2 : Value} {Cm : List Nat} {wr : World} (h : NpF l cyc pa pn pc w js bl es c2 Cm wr) {ps : List Pr} (hp : PrOk l cyc ps) : PsOk js es ps := by
  have hin : ∀ c, c ∈ l.map (·.1.nm) → ∃ x ∈ es, x.1 = c := fun c hc => by
    rw [← h.keys] at hc
    obtain ⟨x, hx, e⟩ := List.mem_map.1 hc
    exact ⟨x, hx, e⟩
  refine ⟨fun p hpp => hin _ (hp.a p hpp), fun p hpp => hin _ (hp.b p hpp), fun p hpp hap k hk hkb => ?_⟩
  have hm : jk js k ∈ jobsL cyc 0 (l.map Prod.fst) := by rw [← h.is, jk_get hk]; exact List.getElem_mem _
  obtain ⟨q, hq, n, hn, e⟩ := (jobsL_mem _ _ _ _).1 hm
  obtain ⟨i, hi, ei⟩ := List.getElem_of_mem (hp.a p hpp)
  have hi' : i < l.length := by simpa using hi
  have hq' : q < l.length := by simpa using hq
  have ea : l[i].1.nm = p.a := by simpa using ei
  have eb : l[q].1.nm = p.b := by
    rw [e] at hkb
    simpa [jobA] using hkb
  have hP := hp.bef p hpp hap i q hi' hq' ea eb
  have him : i < (l.map Prod.fst).length := by simpa using hi'
  have hx := (jobsL_mem cyc (l.map Prod.fst) 0 (jobA (0 + i) (l.map Prod.fst)[i] n)).2 ⟨i, him, n, by
    have h7 : (l.map Prod.fst)[i].P = (l.map Prod.fst)[q].P := by simpa using hP
    rw [h7]
    exact hn, rfl⟩
  rw [← h.is] at hx
  obtain ⟨j, hj, ej⟩ := List.getElem_of_mem hx
  refine ⟨j, hj, ?_, ?_⟩
  · rw [jk_get hj, ej]
    simpa [jobA] using ea
  · rw [jk_get hj, ej, e]
    rfl
/-- A new plan is one at work. -/
theorem NpF.pl {l : List (Tk × Nat)} {cyc : Nat} {pa : Option Addr} {pc : Nat} {w : World} {js : List Jb} {bl : Nat → Nat} {es : List (UInt8 × Value)} {c2 : Value} {Cm : List Nat} {wr : World} {ps : List Pr} (h : NpF l cyc pa ps.length pc w js bl es c2 Cm wr) (hp : PrOk l cyc ps) (hts : TsOk (l.map Prod.fst) cyc) (hpa : PairsAt w pa ps) (hgp : ∀ gp, pa = some ⟨gp, 0, none⟩ → gp < w.heap.size) :
    PlS js cyc ps bl (costJ js) (w.heap.size + 2) (w.heap.size + 1) es pa pc c2 wr.heap.size (.slice none 0 0) [] wr ∧ ComAt w.heap.size wr.heap.size (w.heap.size + 2) js bl c2 Cm wr := by
  have hPl := blk_lt h.pln
  have hjl : ∀ k, k < js.length → bl k < wr.heap.size := fun k hk => blk_lt (h.jobs k hk)
  have hjP : ∀ k, k < js.length → bl k ≠ w.heap.size + 2 := fun k hk e => by
    have := h.jobs k hk
    rw [e, h.pln] at this
    simp at this
  have hty : ∀ {b0 : Nat} {u : Value} {T : List Nat}, RowJ wr b0 u bl T → ∀ b, u.ownBlock = some b → b < wr.heap.size ∧ b ≠ w.heap.size + 2 := fun hr b hb => ⟨(hr.lt b hb).2, fun e => by
    obtain ⟨_, c, fr, e'⟩ := own_typed hr hb
    rw [e, h.pln] at e'
    simp at e'⟩
  refine ⟨⟨⟨h.pln, World.ownsRow_nil _ _ _ _⟩, h.jobs, h.map, hpa.keep (Below.frm h.b) (fun gp hg hX => by have := hgp gp hg; omega), hp_nil _, ⟨hPl, ⟨h.map.m.lt, by omega⟩, fun x hx b hb => ?_, fun k hk => ⟨hjl k hk, hjP k hk⟩, fun gp hg => ?_, h.inj⟩, Nat.le_refl _, (fun x hx => by simp at hx), by rw [h.is]; exact jobs_of hts, h.ps hp, hp.len⟩, ?_⟩
  · obtain ⟨T, r1, _⟩ := h.map.each x hx
    exact hty r1 b hb
  · have h5 := hgp gp hg
    exact ⟨by omega, by omega, fun k hk e => by have := h.low k hk; omega⟩
  · obtain ⟨a, cap, e1, e2, e3⟩ := h.com.len
    refine ⟨a, cap, e1, e2, e3, fun h0 => ?_⟩
    obtain ⟨g, cap', cur, hv, _, hg, _, _, _, hcl⟩ := h.com.form h0
    rw [e1] at hv
    injection hv with hv _ _
    obtain ⟨t1, t2⟩ := hty h.com g (by rw [e1, hv]; rfl)
    refine ⟨g, 0, hv, (h.com.lt g (by rw [e1, hv]; rfl)).1, t1, t2, t1, fun k hk e => own_not_job h.com h.jobs hk (by rw [e1, hv, ← e]; rfl), fun q hq => ?_⟩
    rw [Nat.zero_add, blk_cell hg]
    exact hcl q hq
end Go.Proofs.YtbdffcjganlblaaGreatDoor

namespace Go.Proofs.YtbdffcjganlblaaGreatDoor
open Go.RowKit
set_option linter.unusedVariables false
set_option linter.unusedSimpArgs false

end Go.Proofs.YtbdffcjganlblaaGreatDoor

namespace Go.Proofs.YtbdffcjganlblaaGreatDoor
open Go.RowKit
set_option linter.unusedVariables false
set_option linter.unusedSimpArgs false

/-- A token that is none of the two last kinds: its place is ahead of the next one's. -/
theorem at_step {l : List UInt8} {j : Nat} (h : (tk (allToks l) j).fin = false) : (tk (allToks l) j).at_ < (tk (allToks l) (j + 1)).at_ := by
  have hj : j < (allToks l).length := by
    rcases Nat.lt_or_ge j (allToks l).length with h' | h'
    · exact h'
    · rw [show tk (allToks l) j = ⟨101, [], 0⟩ by unfold tk; rw [List.getD_eq_getElem?_getD, List.getElem?_eq_none h']; rfl] at h
      simp [PT.fin] at h
  have hj1 : j + 1 < (allToks l).length := toks_fin (l.length + 1) l 0 (by omega) (by omega) j hj h
  have e := (toks_next (l.length + 1) l 0).2 j hj1
  have hb := toks_bound (l.length + 1) l 0 (by omega) j hj
  have h1 := (nextTok_bound l (tk (allToks l) j).nx hb).1
  change tk (allToks l) (j + 1) = nextTok l (tk (allToks l) j).nx at e
  rw [← e] at h1
  have h2 : (tk (allToks l) j).at_ < (tk (allToks l) j).nx := by
    cases j with
    | zero =>
      have e0 := (toks_next (l.length + 1) l 0).1
      change tk (allToks l) 0 = _ at e0
      rw [e0] at h ⊢
      exact nextTok_long l _ h
    | succ j =>
      have e0 := (toks_next (l.length + 1) l 0).2 j hj
      change tk (allToks l) (j + 1) = _ at e0
      rw [e0] at h ⊢
      exact nextTok_long l _ h
  omega

theorem at_next {l : List UInt8} {j k : Nat} (hk : k = j + 1) (h : (tk (allToks l) j).fin = false) : (tk (allToks l) j).at_ < (tk (allToks l) k).at_ := by
  subst hk
  exact at_step h

theorem fin_sees {t : PT} {wd : ByteArray} (h : sees t wd = true) : t.fin = false := by
  unfold sees at h
  simp at h
  simp [PT.fin, h.1]
theorem fin_name {t : PT} (h : isName t = true) : t.fin = false := by
  unfold isName at h
  simp at h
  simp [PT.fin, h.1]
theorem fin_num {t : PT} (h : (t.k == 110) = true) : t.fin = false := by
  simp at h
  simp [PT.fin, h]
theorem fin_semi {t : PT} (h : (t.k == 59) = true) : t.fin = false := by
  simp at h
  simp [PT.fin, h]

/-- A task's places, from lo on, all ahead of hi. -/
def TPl (t : Tk) (lo hi : Nat) : Prop := lo ≤ t.q0 ∧ t.q0 < t.q1 ∧ t.q1 < t.q2 ∧ t.q2 < t.q3 ∧ t.q3 < t.q4 ∧ t.q4 < hi
def PPl (p : Pr) (lo hi : Nat) : Prop := lo ≤ p.q0 ∧ p.q0 < p.q1 ∧ p.q1 < hi

theorem pRest_pl {l : List UInt8} {nm : UInt8} {P O q0 q1 q2 j : Nat} {t : Tk} {k : Nat} (h : pRest (allToks l) nm P O q0 q1 q2 j = .ok (t, k)) :
    t.q0 = q0 ∧ t.q1 = q1 ∧ t.q2 = q2 ∧ (tk (allToks l) j).at_ < t.q3 ∧ t.q3 < t.q4 ∧ t.q4 < (tk (allToks l) k).at_ := by
  unfold pRest at h
  split at h
  · rename_i h0
    split at h
    · rename_i h1
      split at h
      · rename_i h2
        split at h
        · rename_i h3
          split at h
          · rename_i h4
            have s0 := at_next (k := j + 1) rfl (fin_sees h0)
            have s1 := at_next (k := j + 2) rfl (fin_num h1)
            have s2 := at_next (k := j + 3) rfl (fin_sees h2)
            have s3 := at_next (k := j + 4) rfl (fin_num h3)
            have s4 := at_next (k := j + 5) rfl (fin_semi h4)
            injection h with h
            injection h with ha hb
            subst hb
            subst ha
            refine ⟨rfl, rfl, rfl, s0, ?_, ?_⟩
            · show (tk (allToks l) (j + 1)).at_ < (tk (allToks l) (j + 3)).at_
              omega
            · show (tk (allToks l) (j + 3)).at_ < (tk (allToks l) (j + 5)).at_
              omega
          · simp at h
        · simp at h
      · simp at h
    · simp at h
  · simp at h

theorem pTask_pl {l : List UInt8} {i : Nat} {t : Tk} {k : Nat} (h : pTask (allToks l) i = .ok (t, k)) : TPl t (tk (allToks l) i).at_ (tk (allToks l) k).at_ := by
  unfold pTask at h
  split at h
  · rename_i h0
    split at h
    · rename_i h1
      split at h
      · rename_i h2
        have s0 := at_next (k := i + 1) rfl (fin_name h0)
        have s1 := at_next (k := i + 2) rfl (fin_sees h1)
        have s2 := at_next (k := i + 3) rfl (fin_num h2)
        split at h
        · rename_i h3
          split at h
          · rename_i h4
            have s3 := at_next (k := i + 4) rfl (fin_sees h3)
            have s4 := at_next (k := i + 5) rfl (fin_num h4)
            obtain ⟨a, b, c, d, e, f⟩ := pRest_pl h
            unfold TPl
            rw [a, b, c]
            omega
          · simp at h
        · obtain ⟨a, b, c, d, e, f⟩ := pRest_pl h
          unfold TPl
          rw [a, b, c]
          omega
      · simp at h
    · simp at h
  · simp at h

theorem pPair_pl {l : List UInt8} {ap : Bool} {i : Nat} {p : Pr} {k : Nat} (h : pPair (allToks l) ap i = .ok (p, k)) : PPl p (tk (allToks l) i).at_ (tk (allToks l) k).at_ := by
  unfold pPair at h
  split at h
  · rename_i h0
    split at h
    · rename_i h1
      split at h
      · rename_i h2
        have s0 := at_next (k := i + 1) rfl (fin_name h0)
        have s1 := at_next (k := i + 2) rfl (fin_name h1)
        have s2 := at_next (k := i + 3) rfl (fin_semi h2)
        injection h with h
        injection h with ha hb
        subst hb
        subst ha
        refine ⟨Nat.le_refl _, s0, ?_⟩
        show (tk (allToks l) (i + 1)).at_ < (tk (allToks l) (i + 3)).at_
        omega
      · simp at h
    · simp at h
  · simp at h

/-- Bounds between the tasks. -/
def TB2 (B : Nat → Nat) (ts : List Tk) : Prop := ∀ k, k < ts.length → TPl (tsk ts k) (B k) (B (k + 1))
def PB2 (B : Nat → Nat) (ps : List Pr) : Prop := ∀ k, k < ps.length → PPl (psk ps k) (B k) (B (k + 1))

def consB (a : Nat) (B : Nat → Nat) : Nat → Nat
  | 0 => a
  | k + 1 => B k

theorem pTasks_pl {l : List UInt8} : ∀ (f i : Nat) (ts : List Tk) (k : Nat), pTasks f (allToks l) i = .ok (ts, k) → ∃ B, TB2 B ts ∧ B 0 = (tk (allToks l) i).at_ ∧ B ts.length ≤ (tk (allToks l) k).at_
  | 0, i, ts, k, h => by simp [pTasks] at h
  | f + 1, i, ts, k, h => by
    rw [pTasks] at h
    cases h1 : pTask (allToks l) i with
    | error e => rw [h1] at h; simp at h
    | ok x =>
      obtain ⟨t, j⟩ := x
      rw [h1] at h
      simp only at h
      have ht := pTask_pl h1
      split at h
      · rename_i hs
        have hs' : sees (tk (allToks l) j) wTask = true := by simp at hs; exact hs.2
        have s0 := at_step (fin_sees hs')
        cases h2 : pTasks f (allToks l) (j + 1) with
        | error e => rw [h2] at h; simp at h
        | ok y =>
          obtain ⟨us, m⟩ := y
          rw [h2] at h
          simp only at h
          injection h with h
          injection h with ha hb
          subst hb
          subst ha
          obtain ⟨B, b1, b2, b3⟩ := pTasks_pl f (j + 1) us m h2
          refine ⟨consB (tk (allToks l) i).at_ B, ?_, rfl, b3⟩
          intro q hq
          cases q with
          | zero =>
            show TPl t (tk (allToks l) i).at_ (B 0)
            unfold TPl at ht ⊢
            omega
          | succ q =>
            have := b1 q (by simpa using hq)
            simpa [tsk, consB] using this
      · injection h with h
        injection h with ha hb
        subst hb
        subst ha
        refine ⟨consB (tk (allToks l) i).at_ (fun _ => (tk (allToks l) j).at_), ?_, rfl, Nat.le_refl _⟩
        intro q hq
        have h0 : q = 0 := by simpa using hq
        subst h0
        exact ht

theorem pPairs_pl {l : List UInt8} : ∀ (f i : Nat) (ps : List Pr) (k : Nat), pPairs f (allToks l) i = .ok (ps, k) → ∃ B, PB2 B ps ∧ (tk (allToks l) i).at_ ≤ B 0
  | 0, i, ps, k, h => by
    simp [pPairs] at h
    obtain ⟨rfl, rfl⟩ := h
    exact ⟨fun _ => (tk (allToks l) i).at_, fun q hq => by simp at hq, Nat.le_refl _⟩
  | f + 1, i, ps, k, h => by
    rw [pPairs] at h
    split at h
    · rename_i hs
      have s0 : (tk (allToks l) i).at_ < (tk (allToks l) (i + 1)).at_ := by
        simp at hs
        rcases hs with hs | hs
        · exact at_step (fin_sees hs)
        · exact at_step (fin_sees hs)
      cases h1 : pPair (allToks l) (!(sees (tk (allToks l) i) wBefore)) (i + 1) with
      | error e => rw [h1] at h; simp at h
      | ok x =>
        obtain ⟨p, j⟩ := x
        rw [h1] at h
        simp only at h
        have hp := pPair_pl h1
        cases h2 : pPairs f (allToks l) j with
        | error e => rw [h2] at h; simp at h
        | ok y =>
          obtain ⟨us, m⟩ := y
          rw [h2] at h
          simp only at h
          injection h with h
          injection h with ha hb
          subst hb
          subst ha
          obtain ⟨B, b1, b2⟩ := pPairs_pl f j us m h2
          refine ⟨consB (tk (allToks l) (i + 1)).at_ B, ?_, Nat.le_of_lt s0⟩
          intro q hq
          cases q with
          | zero =>
            show PPl p (tk (allToks l) (i + 1)).at_ (B 0)
            unfold PPl at hp ⊢
            omega
          | succ q =>
            have := b1 q (by simpa using hq)
            simpa [psk, consB] using this
    · simp at h
      obtain ⟨rfl, rfl⟩ := h
      exact ⟨fun _ => (tk (allToks l) i).at_, fun q hq => by simp at hq, Nat.le_refl _⟩

theorem pSet_pl {l : List UInt8} {ts : List Tk} {ps : List Pr} (h : pSet (allToks l) = .ok (ts, ps)) : ∃ B B', TB2 B ts ∧ PB2 B' ps ∧ B ts.length ≤ B' 0 := by
  unfold pSet at h
  cases h1 : pFirst (allToks l) with
  | error e => rw [h1] at h; simp at h
  | ok x =>
    obtain ⟨us, j⟩ := x
    rw [h1] at h
    simp only at h
    cases h2 : pPairs 6 (allToks l) j with
    | error e => rw [h2] at h; simp at h
    | ok y =>
      obtain ⟨qs, k⟩ := y
      rw [h2] at h
      simp only at h
      split at h
      · injection h with h
        injection h with ha hb
        subst ha
        subst hb
        unfold pFirst at h1
        split at h1
        · obtain ⟨B, b1, _, b3⟩ := pTasks_pl _ _ _ _ h1
          obtain ⟨B', c1, c2⟩ := pPairs_pl _ _ _ _ h2
          exact ⟨B, B', b1, c1, by omega⟩
        · simp at h1
      · simp at h
end Go.Proofs.YtbdffcjganlblaaGreatDoor

namespace Go.Proofs.YtbdffcjganlblaaGreatDoor
open Go.RowKit
set_option linter.unusedVariables false
set_option linter.unusedSimpArgs false

theorem findL_F (l : List (Tk × Nat)) (c : UInt8) : ∀ (f k : Nat), findL l c f k = findF (l.map Prod.fst) c f k
  | 0, k => rfl
  | f + 1, k => by rw [findL, findF, lk_fst, findL_F l c f (k + 1)]

theorem findF_split (ts : List Tk) (c : UInt8) : ∀ (m r j : Nat), (0 ≤ findF ts c m j → findF ts c (m + r) j = findF ts c m j) ∧ (findF ts c m j < 0 → findF ts c (m + r) j = findF ts c r (j + m))
  | 0, r, j => by
    constructor
    · intro h; simp [findF] at h
    · intro _; simp
  | m + 1, r, j => by
    have ih := findF_split ts c m r (j + 1)
    rw [show m + 1 + r = (m + r) + 1 by omega, findF, findF]
    split
    · constructor
      · intro _; rfl
      · intro h; omega
    · constructor
      · exact ih.1
      · intro h
        rw [ih.2 h, show j + 1 + m = j + (m + 1) by omega]

theorem find_dup (ts : List Tk) (k : Nat) (hk : k < ts.length) : findI ts (tsk ts k).nm < k ↔ 0 ≤ findF ts (tsk ts k).nm k 0 := by
  have hs := findF_split ts (tsk ts k).nm k (ts.length - k) 0
  have hl := findF_lt ts (tsk ts k).nm k 0
  rw [show k + (ts.length - k) = ts.length by omega] at hs
  unfold findI
  constructor
  · intro h
    rcases Int.lt_or_le (findF ts (tsk ts k).nm k 0) 0 with h1 | h1
    · rw [hs.2 h1, show ts.length - k = (ts.length - k - 1) + 1 by omega, findF, show 0 + k = k by omega, if_pos rfl] at h
      omega
    · exact h1
  · intro h
    rw [hs.1 h]
    omega

theorem timed_pl {t : Tk} {lo hi : Nat} (h : TPl t lo hi) (h0 : 0 ≤ timedI t) : t.q0 < (timedI t).toNat ∧ (timedI t).toNat < hi := by
  unfold TPl at h
  unfold timedI at h0 ⊢
  split
  · simp; omega
  · rename_i h1
    rw [if_neg h1] at h0
    split
    · simp; omega
    · rename_i h2
      rw [if_neg h2] at h0
      split
      · simp; omega
      · rename_i h3
        rw [if_neg h3] at h0
        split
        · simp; omega
        · rename_i h4
          rw [if_neg h4] at h0
          omega

theorem soon_stay {f : Nat × Nat} {e a : Nat} (h1 : f.1 ≠ 0) (h2 : f.2 ≤ a) : soon f e a = f := by
  unfold soon
  rw [if_neg]
  omega
theorem soon_zero (e a : Nat) : soon (0, 0) e a = (e, a) := by
  unfold soon
  rw [if_pos (.inl rfl)]

/-- The first fault so far. -/
def pT (l : List (Tk × Nat)) : Nat → Option (Nat × Nat)
  | 0 => none
  | k + 1 => match pT l k with
    | some x => some x
    | none => tE l k
def pP (l : List (Tk × Nat)) (ps : List Pr) : Nat → Option (Nat × Nat)
  | 0 => pT l l.length
  | k + 1 => match pP l ps k with
    | some x => some x
    | none => pE l (psk ps k)

theorem ckT_pT (l : List (Tk × Nat)) : ∀ (f k : Nat), (match pT l k with | some x => some x | none => ckT l f k) = pT l (k + f)
  | 0, k => by
    cases h : pT l k with
    | some x => simp [h]
    | none => simp [h, ckT]
  | f + 1, k => by
    have ih := ckT_pT l f (k + 1)
    rw [show k + (f + 1) = k + 1 + f by omega, ← ih, pT]
    cases h : pT l k with
    | some x => simp
    | none =>
      simp only [ckT]
      cases tE l k <;> rfl
theorem ckP_pP (l : List (Tk × Nat)) (ps : List Pr) : ∀ (f k : Nat), (match pP l ps k with | some x => some x | none => ckP l ps f k) = pP l ps (k + f)
  | 0, k => by
    cases h : pP l ps k with
    | some x => simp [h]
    | none => simp [h, ckP]
  | f + 1, k => by
    have ih := ckP_pP l ps f (k + 1)
    rw [show k + (f + 1) = k + 1 + f by omega, ← ih, pP]
    cases h : pP l ps k with
    | some x => simp
    | none =>
      simp only [ckP]
      cases pE l (psk ps k) <;> rfl

theorem checkR_eq (l : List (Tk × Nat)) (ps : List Pr) : checkR l ps = match pP l ps ps.length with
    | some x => some x
    | none => if cycI (l.map Prod.fst) = 0 then some (4, 0) else none := by
  have h1 := ckT_pT l l.length 0
  have h2 := ckP_pP l ps ps.length 0
  simp only [Nat.zero_add, pT, pP] at h1 h2
  unfold checkR
  rw [← h2, ← h1]
  cases ckT l l.length 0 with
  | some x => simp
  | none =>
    simp only
    cases ckP l ps ps.length 0 with
    | some x => simp
    | none => simp

/-- The document's fault so far, against the first one. -/
def Same (f : Nat × Nat) (o : Option (Nat × Nat)) (b : Nat) : Prop :=
  match o with
  | some x => f = x ∧ x.1 ≠ 0 ∧ x.2 < b
  | none => f = (0, 0)

theorem same_mono {f : Nat × Nat} {o : Option (Nat × Nat)} {b b' : Nat} (h : Same f o b) (hb : b ≤ b') : Same f o b' := by
  unfold Same at h ⊢
  cases o with
  | some x => exact ⟨h.1, h.2.1, by have := h.2.2; omega⟩
  | none => exact h

theorem mT_same {l : List (Tk × Nat)} {B : Nat → Nat} (hB : TB2 B (l.map Prod.fst)) : ∀ k, k ≤ l.length → Same (mT (l.map Prod.fst) k) (pT l k) (B k)
  | 0, _ => rfl
  | k + 1, hk => by
    have ih := mT_same hB k (by omega)
    have hpl := hB k (by rw [List.length_map]; omega)
    have hq : (tsk (l.map Prod.fst) k).q0 < B (k + 1) ∧ B k ≤ (tsk (l.map Prod.fst) k).q0 := by unfold TPl at hpl; omega
    have htm := timed_pl hpl
    have hd := find_dup (l.map Prod.fst) k (by rw [List.length_map]; omega)
    rw [mT, pT]
    cases h : pT l k with
    | some x =>
      rw [h] at ih
      obtain ⟨e1, e2, e3⟩ := ih
      rw [e1]
      have hs1 : stepT1 (l.map Prod.fst) k x = x := by
        unfold stepT1
        split
        · exact soon_stay e2 (by omega)
        · rfl
      have hs : stepT (l.map Prod.fst) k x = x := by
        unfold stepT
        rw [hs1]
        split
        · rename_i h0
          have := htm h0
          exact soon_stay e2 (by omega)
        · rfl
      rw [hs]
      exact ⟨rfl, e2, by omega⟩
    | none =>
      rw [h] at ih
      have e1 : mT (l.map Prod.fst) k = (0, 0) := ih
      rw [e1]
      simp only
      unfold tE stepT stepT1
      rw [lk_fst, findL_F]
      by_cases h1 : 0 ≤ findF (l.map Prod.fst) (tsk (l.map Prod.fst) k).nm k 0
      · rw [if_pos h1, if_pos (hd.2 h1), soon_zero]
        split
        · rename_i h0
          have := htm h0
          rw [soon_stay (by simp) (by simp; omega)]
          exact ⟨rfl, by simp, hq.1⟩
        · exact ⟨rfl, by simp, hq.1⟩
      · rw [if_neg h1, if_neg (fun h => h1 (hd.1 h))]
        split
        · rename_i h0
          have := htm h0
          rw [soon_zero]
          exact ⟨rfl, by simp, this.2⟩
        · rfl

theorem mP_same {l : List (Tk × Nat)} {ps : List Pr} {b : Nat} {B : Nat → Nat} (h0 : Same (mT (l.map Prod.fst) l.length) (pT l l.length) b) (hb : b ≤ B 0) (hB : PB2 B ps) : ∀ k, k ≤ ps.length → Same (mP (l.map Prod.fst) ps k) (pP l ps k) (B k)
  | 0, _ => by
    rw [mP, pP, List.length_map]
    exact same_mono h0 hb
  | k + 1, hk => by
    have ih := mP_same h0 hb hB k (by omega)
    have hpl := hB k (by omega)
    rw [mP, pP]
    generalize psk ps k = p at *
    have hq : B k ≤ p.q0 ∧ p.q0 < p.q1 ∧ p.q1 < B (k + 1) := hpl
    cases h : pP l ps k with
    | some x =>
      rw [h] at ih
      obtain ⟨e1, e2, e3⟩ := ih
      rw [e1]
      have hs1 : stepP1 (l.map Prod.fst) p x = x := by
        unfold stepP1
        split
        · exact soon_stay e2 (by omega)
        · rfl
      have hs2 : stepP2 (l.map Prod.fst) p x = x := by
        unfold stepP2
        rw [hs1]
        split
        · exact soon_stay e2 (by omega)
        · rfl
      have hs : stepP (l.map Prod.fst) p x = x := by
        unfold stepP
        rw [hs2]
        split
        · exact soon_stay e2 (by omega)
        · rfl
      rw [hs]
      exact ⟨rfl, e2, by omega⟩
    | none =>
      rw [h] at ih
      have e1 : mP (l.map Prod.fst) ps k = (0, 0) := ih
      rw [e1]
      simp only
      have ef : ∀ c, findL l c l.length 0 = findI (l.map Prod.fst) c := fun c => by
        rw [findL_F]
        unfold findI
        rw [List.length_map]
      unfold pE stepP stepP2 stepP1 badPair
      simp only [ef, lk_fst]
      by_cases ha : findI (l.map Prod.fst) p.a < 0
      · have ha' : ¬ 0 ≤ findI (l.map Prod.fst) p.a := by omega
        simp only [if_pos ha, ha', decide_false, Bool.false_and, Bool.false_eq_true, if_false, soon_zero]
        have e : soon (3, p.q0) 3 p.q1 = (3, p.q0) := soon_stay (by simp) (by simp; omega)
        rw [e]
        have e2 : (if findI (l.map Prod.fst) p.b < 0 then ((3, p.q0) : Nat × Nat) else (3, p.q0)) = (3, p.q0) := by split <;> rfl
        rw [e2]
        exact ⟨rfl, by simp, by simp; omega⟩
      · have ha' : 0 ≤ findI (l.map Prod.fst) p.a := by omega
        simp only [if_neg ha]
        by_cases hb' : findI (l.map Prod.fst) p.b < 0
        · have hb'' : ¬ 0 ≤ findI (l.map Prod.fst) p.b := by omega
          simp only [if_pos hb', hb'', decide_false, Bool.and_false, Bool.false_and, Bool.false_eq_true, if_false, soon_zero]
          exact ⟨rfl, by simp, hq.2.2⟩
        · have hb'' : 0 ≤ findI (l.map Prod.fst) p.b := by omega
          simp only [if_neg hb', ha', hb'', decide_true, Bool.true_and]
          by_cases he : findI (l.map Prod.fst) p.a = findI (l.map Prod.fst) p.b
          · simp only [if_pos he, he, decide_true, Bool.true_or, if_true, soon_zero]
            exact ⟨rfl, by simp, hq.2.2⟩
          · simp only [if_neg he, he, decide_false, Bool.false_or]
            by_cases hp : p.ap = false ∧ (tsk (l.map Prod.fst) (findI (l.map Prod.fst) p.a).toNat).P ≠ (tsk (l.map Prod.fst) (findI (l.map Prod.fst) p.b).toNat).P
            · rw [if_pos hp, if_pos (by simp [hp.1, hp.2]), soon_zero]
              exact ⟨rfl, by simp, hq.2.2⟩
            · rw [if_neg hp, if_neg (by
                intro h
                simp at h
                exact hp h)]
              rfl

theorem meant_same {l : List UInt8} {ts : List (Tk × Nat)} {ps : List Pr} (h : pSet (allToks l) = .ok (ts.map Prod.fst, ps)) : ∃ b, Same (meantI (ts.map Prod.fst) ps) (pP ts ps ps.length) b := by
  obtain ⟨B, B', h1, h2, h3⟩ := pSet_pl h
  rw [List.length_map] at h3
  exact ⟨_, mP_same (mT_same h1 ts.length (Nat.le_refl _)) h3 h2 ps.length (Nat.le_refl _)⟩

theorem knownR_some {l : List UInt8} {ts : List (Tk × Nat)} {ps : List Pr} {f : Nat × Nat} (hl : l.length ≤ 400) (h : pSet (allToks l) = .ok (ts.map Prod.fst, ps)) (hc : checkR ts ps = some f) : knownR l = .error f := by
  obtain ⟨b, hs⟩ := meant_same h
  rw [checkR_eq] at hc
  unfold knownR
  rw [if_neg (by omega), h]
  simp only
  cases hp : pP ts ps ps.length with
  | some x =>
    rw [hp] at hs hc
    obtain ⟨e1, e2, _⟩ := hs
    simp only [Option.some.injEq] at hc
    rw [e1, if_pos e2, hc]
  | none =>
    rw [hp] at hs hc
    have e1 : meantI (ts.map Prod.fst) ps = (0, 0) := hs
    rw [e1, if_neg (by simp)]
    simp only at hc
    split at hc
    · rename_i h0
      rw [if_pos h0]
      simp only [Option.some.injEq] at hc
      rw [hc]
    · simp at hc
theorem knownR_none {l : List UInt8} {ts : List (Tk × Nat)} {ps : List Pr} (hl : l.length ≤ 400) (h : pSet (allToks l) = .ok (ts.map Prod.fst, ps)) (hc : checkR ts ps = none) : knownR l = .ok (ts.map Prod.fst, ps) := by
  obtain ⟨b, hs⟩ := meant_same h
  rw [checkR_eq] at hc
  unfold knownR
  rw [if_neg (by omega), h]
  simp only
  cases hp : pP ts ps ps.length with
  | some x => rw [hp] at hc; simp at hc
  | none =>
    rw [hp] at hs hc
    have e1 : meantI (ts.map Prod.fst) ps = (0, 0) := hs
    rw [e1, if_neg (by simp)]
    simp only at hc
    split at hc
    · simp at hc
    · rename_i h0
      rw [if_neg h0]

end Go.Proofs.YtbdffcjganlblaaGreatDoor

namespace Go.Proofs.YtbdffcjganlblaaGreatDoor
set_option linter.unusedVariables false
set_option linter.unusedSimpArgs false

theorem findF_spec (ts : List Tk) (c : UInt8) : ∀ (f k : Nat), (0 ≤ findF ts c f k → ∃ i : Nat, findF ts c f k = i ∧ k ≤ i ∧ i < k + f ∧ (tsk ts i).nm = c) ∧ (findF ts c f k < 0 → ∀ i, k ≤ i → i < k + f → (tsk ts i).nm ≠ c)
  | 0, k => ⟨fun h => by simp [findF] at h, fun _ i h1 h2 => by omega⟩
  | f + 1, k => by
    have ih := findF_spec ts c f (k + 1)
    rw [findF]
    by_cases h : (tsk ts k).nm = c
    · rw [if_pos h]
      exact ⟨fun _ => ⟨k, rfl, Nat.le_refl _, by omega, h⟩, fun h2 => by omega⟩
    · rw [if_neg h]
      refine ⟨fun h2 => ?_, fun h2 i h3 h4 => ?_⟩
      · obtain ⟨i, a1, a2, a3, a4⟩ := ih.1 h2
        exact ⟨i, a1, by omega, by omega, a4⟩
      · by_cases e : i = k
        · rw [e]; exact h
        · exact ih.2 h2 i (by omega) (by omega)
theorem tsk_get {ts : List Tk} {k : Nat} (h : k < ts.length) : ts[k] = tsk ts k := by
  unfold tsk
  rw [List.getD_eq_getElem?_getD, List.getElem?_eq_getElem h]
  rfl
theorem lcm_dvd (h P : Nat) (hh : 1 ≤ h) : h ∣ h / Nat.gcd h P * P ∧ P ∣ h / Nat.gcd h P * P := by
  refine ⟨?_, Nat.dvd_mul_left _ _⟩
  have h1 := Nat.gcd_dvd_left h P
  have h2 := Nat.gcd_dvd_right h P
  obtain ⟨q, hq⟩ := h2
  have h3 : h / Nat.gcd h P * P = h * q := by
    have : h / Nat.gcd h P * P = h / Nat.gcd h P * (Nat.gcd h P * q) := by rw [← hq]
    rw [this, ← Nat.mul_assoc, Nat.div_mul_cancel h1]
  rw [h3]
  exact Nat.dvd_mul_right _ _
theorem cycF_ok (ts : List Tk) : ∀ (f k h : Nat), 1 ≤ h → h ≤ 60 → (∀ i, k ≤ i → i < k + f → 1 ≤ (tsk ts i).P) → cycF ts f k h ≠ 0 → 1 ≤ cycF ts f k h ∧ cycF ts f k h ≤ 60 ∧ h ∣ cycF ts f k h ∧ ∀ i, k ≤ i → i < k + f → (tsk ts i).P ∣ cycF ts f k h
  | 0, k, h, h1, h2, _, _ => ⟨h1, h2, Nat.dvd_refl _, fun i a b => by omega⟩
  | f + 1, k, h, h1, h2, hP, hne => by
    rw [cycF] at hne ⊢
    by_cases h6 : 60 < h / Nat.gcd h (tsk ts k).P * (tsk ts k).P
    · rw [if_pos h6] at hne
      exact absurd rfl hne
    · rw [if_neg h6] at hne ⊢
      have hd := lcm_dvd h (tsk ts k).P h1
      obtain ⟨a1, a2, a3, a4⟩ := cycF_ok ts f (k + 1) _ (lcm_pos h _ h1 (hP k (Nat.le_refl _) (by omega))) (by omega) (fun i b1 b2 => hP i (by omega) (by omega)) hne
      refine ⟨a1, a2, Nat.dvd_trans hd.1 a3, fun i b1 b2 => ?_⟩
      by_cases e : i = k
      · rw [e]; exact Nat.dvd_trans hd.2 a3
      · exact a4 i (by omega) (by omega)
theorem timed_all {t : Tk} (h : timedI t < 0) : 1 ≤ t.P ∧ 1 ≤ t.C ∧ t.C ≤ t.D ∧ t.O + t.D ≤ t.P := by
  unfold timedI at h
  repeat (split at h; omega)
  omega
theorem ckP_none {l : List (Tk × Nat)} {ps : List Pr} : ∀ (f k : Nat), ckP l ps f k = none → ∀ j, k ≤ j → j < k + f → pE l (psk ps j) = none
  | 0, k, _, j, h1, h2 => by omega
  | f + 1, k, h, j, h1, h2 => by
    rw [ckP] at h
    cases ht : pE l (psk ps k) with
    | some x => rw [ht] at h; simp at h
    | none =>
      rw [ht] at h
      by_cases e : j = k
      · rw [e]; exact ht
      · exact ckP_none f (k + 1) h j (by omega) (by omega)

/-- The tasks that a pair names. -/
structure PairT (ts : List Tk) (p : Pr) (i j : Nat) : Prop where
  fa : findI ts p.a = i
  fb : findI ts p.b = j
  hi : i < ts.length
  hj : j < ts.length
  a : (tsk ts i).nm = p.a
  b : (tsk ts j).nm = p.b
  ne : i ≠ j
  bef : p.ap = false → (tsk ts i).P = (tsk ts j).P

theorem pE_none {l : List (Tk × Nat)} {p : Pr} (h : pE l p = none) : ∃ i j, PairT (l.map Prod.fst) p i j := by
  have ef : ∀ c, findL l c l.length 0 = findI (l.map Prod.fst) c := fun c => by
    rw [findL_F]
    unfold findI
    rw [List.length_map]
  unfold pE at h
  simp only [ef, lk_fst] at h
  split at h
  · simp at h
  · split at h
    · simp at h
    · split at h
      · simp at h
      · split at h
        · simp at h
        · rename_i h1 h2 h3 h4
          obtain ⟨i, a1, a2, a3, a4⟩ := (findF_spec (l.map Prod.fst) p.a (l.map Prod.fst).length 0).1 (by unfold findI at h1; omega)
          obtain ⟨j, b1, b2, b3, b4⟩ := (findF_spec (l.map Prod.fst) p.b (l.map Prod.fst).length 0).1 (by unfold findI at h2; omega)
          have e1 : findI (l.map Prod.fst) p.a = i := a1
          have e2 : findI (l.map Prod.fst) p.b = j := b1
          rw [e1, e2] at h3 h4
          refine ⟨i, j, e1, e2, by omega, by omega, a4, b4, by omega, fun hap => ?_⟩
          simp only [Int.toNat_natCast] at h4
          exact Classical.byContradiction (fun hne => h4 ⟨hap, hne⟩)

theorem check_right {l : List (Tk × Nat)} {ps : List Pr} (h : checkR l ps = none) (hn : l.length ≤ 6) (hm : ps.length ≤ 6) : TsOk (l.map Prod.fst) (cycI (l.map Prod.fst)) ∧ PrOk l (cycI (l.map Prod.fst)) ps ∧ ∀ p ∈ ps, ∃ i j, PairT (l.map Prod.fst) p i j := by
  unfold checkR at h
  cases hc : ckT l l.length 0 with
  | some x => rw [hc] at h; simp at h
  | none =>
    rw [hc] at h
    simp only at h
    cases hp : ckP l ps ps.length 0 with
    | some x => rw [hp] at h; simp at h
    | none =>
      rw [hp] at h
      simp only at h
      have hnz : cycI (l.map Prod.fst) ≠ 0 := fun e => by rw [if_pos e] at h; simp at h
      have hT := fun k (hk : k < l.length) => ckT_none l.length 0 hc k (by omega) (by omega)
      have hlen : (l.map Prod.fst).length = l.length := List.length_map _
      have htm : ∀ k, k < (l.map Prod.fst).length → timedI (tsk (l.map Prod.fst) k) < 0 := fun k hk => by
        have := tE_none (hT k (by omega))
        rw [lk_fst] at this
        exact this
      have hge : ∀ k (hk : k < (l.map Prod.fst).length), (l.map Prod.fst)[k] = tsk (l.map Prod.fst) k := fun k hk => tsk_get hk
      obtain ⟨c1, c2, _, c4⟩ := cycF_ok (l.map Prod.fst) (l.map Prod.fst).length 0 1 (Nat.le_refl _) (by omega) (fun i _ h2 => (timed_all (htm i (by omega))).1) hnz
      have hts : TsOk (l.map Prod.fst) (cycI (l.map Prod.fst)) := by
        refine ⟨?_, by omega, c1, c2, fun t ht => ?_⟩
        · rw [List.Nodup, List.pairwise_iff_getElem]
          intro i j hi hj hij e
          have hj' : j < l.length := by simpa using hj
          have hi' : i < (l.map Prod.fst).length := by simpa using hi
          have hjm : j < (l.map Prod.fst).length := by simpa using hj
          have e : ((l.map Prod.fst)[i]).nm = ((l.map Prod.fst)[j]).nm := by simpa using e
          rw [hge i hi', hge j hjm] at e
          have h5 := hT j hj'
          unfold tE at h5
          rw [lk_fst, findL_F] at h5
          split at h5
          · simp at h5
          · rename_i h6
            exact (findF_spec (l.map Prod.fst) _ j 0).2 (by omega) i (by omega) (by omega) e
        · obtain ⟨k, hk, rfl⟩ := List.getElem_of_mem ht
          rw [hge k hk]
          have h5 := timed_all (htm k hk)
          exact ⟨h5.1, Nat.mod_eq_zero_of_dvd (c4 k (by omega) (by omega)), h5.2.1, h5.2.2.1, h5.2.2.2⟩
      have hpr : ∀ p ∈ ps, ∃ i j, PairT (l.map Prod.fst) p i j := fun p hpp => by
        obtain ⟨k, hk, rfl⟩ := List.getElem_of_mem hpp
        have h5 := ckP_none ps.length 0 hp k (by omega) (by omega)
        have e : psk ps k = ps[k] := by simp [psk, List.getD_eq_getElem?_getD, hk]
        rw [e] at h5
        exact pE_none h5
      have hin : ∀ {k : Nat} {c : UInt8}, k < (l.map Prod.fst).length → (tsk (l.map Prod.fst) k).nm = c → c ∈ l.map (·.1.nm) := fun {k c} hk e => by
        rw [← e, ← hge k hk]
        have hk' : k < l.length := by simpa using hk
        exact List.mem_map.2 ⟨l[k], List.getElem_mem _, by simp⟩
      refine ⟨hts, ⟨fun p hpp => ?_, fun p hpp => ?_, fun p hpp hap i j hi hj ea eb => ?_, hm⟩, hpr⟩
      · obtain ⟨i, j, P⟩ := hpr p hpp
        exact hin P.hi P.a
      · obtain ⟨i, j, P⟩ := hpr p hpp
        exact hin P.hj P.b
      · obtain ⟨i', j', P⟩ := hpr p hpp
        have hi' : i < (l.map Prod.fst).length := by simpa using hi
        have hj' : j < (l.map Prod.fst).length := by simpa using hj
        have g1 : (l.map Prod.fst)[i] = l[i].1 := by simp
        have g2 : (l.map Prod.fst)[j] = l[j].1 := by simp
        have e1 : i = i' := names_inj hts.name hi' P.hi (by rw [hge i' P.hi, P.a, g1]; exact ea)
        have e2 : j = j' := names_inj hts.name hj' P.hj (by rw [hge j' P.hj, P.b, g2]; exact eb)
        have hb := P.bef hap
        rw [← e1, ← e2, ← hge i hi', ← hge j hj', g1, g2] at hb
        exact hb
end Go.Proofs.YtbdffcjganlblaaGreatDoor
