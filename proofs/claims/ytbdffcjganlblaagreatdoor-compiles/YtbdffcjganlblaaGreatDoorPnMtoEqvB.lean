/-
  Own work. The program's whyNone and compile.
-/
import Derived.Test.YtbdffcjganlblaaGreatDoorTbMtoPnL
import Derived.Test.YtbdffcjganlblaaGreatDoorProgLtoTbH
import Derived.Test.YtbdffcjganlblaaGreatDoorGuardtoGuard
namespace Go.Proofs.YtbdffcjganlblaaGreatDoor
open Go.RowKit
set_option linter.unusedVariables false
set_option linter.unusedSimpArgs false

/-- Why there is no table. -/
def whyJ (js : List Jb) (cyc : Nat) : Nat := if goesJ js [] cyc 1 = true then 7 else 6

theorem SetAt.bare {l : List (Tk × Nat)} {cyc g : Nat} {pa : Option Addr} {ps : List Pr} {w : World} (h : SetAt l cyc g pa ps w) : SetAt l cyc g none [] w :=
  ⟨h.hg, h.hr, h.hn, h.hts, h.hcy, ⟨fun p hp => by simp at hp, fun p hp => by simp at hp, fun p hp => by simp at hp, by simp⟩, fun h0 => by simp at h0, fun gp e => by simp at e⟩

def WhyOut (l : List (Tk × Nat)) (cyc : Nat) (w : World) (en : Ending) (w' : World) : Prop := en = .returned (.int .i64 (whyJ (jobsL cyc 0 (l.map Prod.fst)) cyc)) ∧ Below w.heap.size w w'

set_option maxRecDepth 100000 in
set_option maxHeartbeats 2000000 in
theorem whyNone_any (l : List (Tk × Nat)) (cyc g cap : Nat) (pa : Option Addr) (pc : Nat) (ps : List Pr) (w : World) (h : SetAt l cyc g pa ps w) :
    Calls Tryz.prog 86 #[.agg #[.slice (some ⟨g, 0, none⟩) l.length cap, .slice pa ps.length pc]] w (WhyOut l cyc w) := by
  have HS := blk_new w #[.slice (some ⟨g, 0, none⟩) l.length cap, .slice pa ps.length pc] 84
  have HW := hide (below_new w (.cells #[.slice (some ⟨g, 0, none⟩) l.length cap, .slice pa ps.length pc] 84))
  have s0 := blk_cell HS
  have CP := hide ((h.bare.keep HW.out).plan cap 0 1 (Nat.le_refl _) (Nat.mod_one _))
  have hwh : Hid (whyJ (jobsL cyc 0 (l.map Prod.fst)) cyc = if goesJ (jobsL cyc 0 (l.map Prod.fst)) [] cyc 1 = true then 7 else 6) := rfl
  clear h
  go_enter Tryz.func86, Tryz.ntmps86
  go_wp2_with fail
  refine CP.out.mono ?_
  rintro en w2 ⟨fv, Pf', a', c', rfl, rfl, hF, hfs, hb2⟩
  have HB := hide (HW.out.trans (hb2.mono HW.out.size))
  clear hF hfs hb2 HW HS s0 CP
  generalize goesJ (jobsL cyc 0 (l.map Prod.fst)) [] cyc 1 = gg at *
  have HBa : Hid (∀ o : Obj, Below w.heap.size w (w2.alloc o)) := fun o => HB.out.alloc HB.out.size o
  cases gg with
  | true =>
    go_wp2_with fail
    go_ret
    exact ⟨ret_int (by rw [hwh.out]; rfl), HBa.out _⟩
  | false =>
    go_wp2_with fail
    go_ret
    exact ⟨ret_int (by rw [hwh.out]; rfl), HBa.out _⟩

def CompOut (l : List (Tk × Nat)) (cyc : Nat) (ps : List Pr) (w : World) (en : Ending) (w' : World) : Prop :=
  Below w.heap.size w w' ∧ ((wideJ (jobsL cyc 0 (l.map Prod.fst)) ps cyc cyc = 0 ∧ en = pan (whyJ (jobsL cyc 0 (l.map Prod.fst)) cyc) 0) ∨
    (0 < wideJ (jobsL cyc 0 (l.map Prod.fst)) ps cyc cyc ∧ ∃ (Pf : List (Value × List Sl)) (a : Option Addr) (c : Nat), en = .returned (.agg #[.int .i64 cyc, .int .i64 (wideJ (jobsL cyc 0 (l.map Prod.fst)) ps cyc cyc), .slice a Pf.length c]) ∧ FrM w' w.heap.size (.slice a Pf.length c) Pf ∧ Pf.map Prod.snd = (tabJ (jobsL cyc 0 (l.map Prod.fst)) ps cyc (wideJ (jobsL cyc 0 (l.map Prod.fst)) ps cyc cyc)).fs))

set_option maxRecDepth 100000 in
set_option maxHeartbeats 2000000 in
theorem compile_any (l : List (Tk × Nat)) (cyc g cap : Nat) (pa : Option Addr) (pc : Nat) (ps : List Pr) (w : World) (h : SetAt l cyc g pa ps w) :
    Calls Tryz.prog 51 #[.agg #[.slice (some ⟨g, 0, none⟩) l.length cap, .slice pa ps.length pc]] w (CompOut l cyc ps w) := by
  have HS : Hid (((w.alloc (.cells #[.slice (some ⟨g, 0, none⟩) l.length cap, .slice pa ps.length pc] 84)).alloc (.cells #[.int .i64 0, .int .i64 0, .slice none 0 0] 61)).heap[w.heap.size]? = some (.cells #[.slice (some ⟨g, 0, none⟩) l.length cap, .slice pa ps.length pc] 84 (0, 0))) := by
    unfold Hid
    rw [Below.heap_alloc _ _ _ (by simp)]
    exact blk_new _ _ _
  have HT : Hid (((w.alloc (.cells #[.slice (some ⟨g, 0, none⟩) l.length cap, .slice pa ps.length pc] 84)).alloc (.cells #[.int .i64 0, .int .i64 0, .slice none 0 0] 61)).heap[w.heap.size + 1]? = some (.cells #[.int .i64 0, .int .i64 0, .slice none 0 0] 61 (0, 0))) := by
    have := blk_new (w.alloc (.cells #[.slice (some ⟨g, 0, none⟩) l.length cap, .slice pa ps.length pc] 84)) #[.int .i64 0, .int .i64 0, .slice none 0 0] 61
    unfold Hid
    simpa using this
  have HW := hide (((Below.refl _ w).alloc (Nat.le_refl _) (.cells #[.slice (some ⟨g, 0, none⟩) l.length cap, .slice pa ps.length pc] 84)).alloc (by simp) (.cells #[.int .i64 0, .int .i64 0, .slice none 0 0] 61))
  have H := hide h
  have s0 := blk_cell HS.out
  clear h
  go_enter Tryz.func51, Tryz.ntmps51
  go_wp2_with fail
  generalize (w.alloc (.cells #[.slice (some ⟨g, 0, none⟩) l.length cap, .slice pa ps.length pc] 84)).alloc (.cells #[.int .i64 0, .int .i64 0, .slice none 0 0] 61) = wz at *
  refine (planWidest_any l cyc g cap pa pc ps wz (H.out.keep HW.out)).mono ?_
  rintro en w1 ⟨c0, f0, Pf, a, n, c, rfl, hb1, hok⟩
  have hb2 : Below wz.heap.size wz (w1.alloc (.cells #[.int .i64 c0, .int .i64 f0, .slice a n c] 61)) := hb1.alloc hb1.size _
  have HS2 := hide (blk_keep HS.out hb2)
  have HT2 := hide (blk_keep HT.out hb2)
  have HB2 := hide (HW.out.trans (hb2.mono HW.out.size))
  have HX2 := hide (blk_new w1 #[.int .i64 c0, .int .i64 f0, .slice a n c] 61)
  have HH2 := hide (H.out.keep HB2.out)
  have hzw : w.heap.size + 1 < wz.heap.size := blk_lt HT.out
  have hw1 : wz.heap.size ≤ w1.heap.size := hb1.size
  have HOk : Hid (0 < wideJ (jobsL cyc 0 (l.map Prod.fst)) ps cyc cyc → c0 = cyc ∧ f0 = wideJ (jobsL cyc 0 (l.map Prod.fst)) ps cyc cyc ∧ n = Pf.length ∧ FrM (w1.alloc (.cells #[.int .i64 c0, .int .i64 f0, .slice a n c] 61)) wz.heap.size (.slice a Pf.length c) Pf ∧ Pf.map Prod.snd = (tabJ (jobsL cyc 0 (l.map Prod.fst)) ps cyc f0).fs) := fun h0 => by
    obtain ⟨k1, k2, k3, k4, k5⟩ := hok h0
    exact ⟨k1, k2, k3, k4.below (below_new _ _), k5⟩
  clear hb1 hb2 hok HS HT HW H s0
  by_cases hw : 0 < wideJ (jobsL cyc 0 (l.map Prod.fst)) ps cyc cyc
  · have hd : decide (0 < wideJ (jobsL cyc 0 (l.map Prod.fst)) ps cyc cyc) = true := by simpa using hw
    rw [hd]
    have Hw := hide hw
    clear hd hw
    go_upto_region 4 with fail
    generalize w1.alloc (.cells #[.int .i64 c0, .int .i64 f0, .slice a n c] 61) = w2 at *
    generalize w1.heap.size = X at *
    have x0 : w2.cell? ⟨X, 0, none⟩ = some (.int .i64 c0) := by rw [blk_cell HX2.out]; rfl
    have x1 : w2.cell? ⟨X, 1, none⟩ = some (.int .i64 f0) := by rw [blk_cell HX2.out]; rfl
    have x2 : w2.cell? ⟨X, 2, none⟩ = some (.slice a n c) := by rw [blk_cell HX2.out]; rfl
    have t0 := blk_cell HT2.out
    have tf := blk_frozen HT2.out
    have HRes : Hid (∀ W : World, W = ((w2.setCell ⟨w.heap.size + 1, 0, none⟩ (.int .i64 c0)).setCell ⟨w.heap.size + 1, 1, none⟩ (.int .i64 f0)).setCell ⟨w.heap.size + 1, 2, none⟩ (.slice a n c) → (∀ o, W.cell? ⟨w.heap.size + 1, o, none⟩ = #[Value.int .i64 c0, .int .i64 f0, .slice a n c][o]?) ∧ CompOut l cyc ps w (.returned (.agg #[.int .i64 c0, .int .i64 f0, .slice a n c])) W) := by
      rintro W rfl
      obtain ⟨k1, k2, k3, k4, k5⟩ := HOk.out Hw.out
      refine ⟨fun o => blk_cell (by rw [blk_set (blk_set (blk_set HT2.out 0 _) 1 _) 2 _]; rfl) o, ((HB2.out.setCell (p := ⟨w.heap.size + 1, 0, none⟩) (by show w.heap.size ≤ w.heap.size + 1; omega) _).setCell (p := ⟨w.heap.size + 1, 1, none⟩) (by show w.heap.size ≤ w.heap.size + 1; omega) _).setCell (p := ⟨w.heap.size + 1, 2, none⟩) (by show w.heap.size ≤ w.heap.size + 1; omega) _, .inr ⟨Hw.out, Pf, a, c, by rw [k1, ← k2, k3], (((k4.setLow hzw 0 _).setLow hzw 1 _).setLow hzw 2 _).weak (by omega), by rw [← k2]; exact k5⟩⟩
    clear HX2 HT2 HS2 HB2 HH2 HOk Hw
    go_wp2_with fail
    all_goals
      obtain ⟨y0, y1⟩ := HRes.out _ rfl
      generalize ((w2.setCell ⟨w.heap.size + 1, 0, none⟩ (.int .i64 c0)).setCell ⟨w.heap.size + 1, 1, none⟩ (.int .i64 f0)).setCell ⟨w.heap.size + 1, 2, none⟩ (.slice a n c) = W at *
      exact bodyPost_ret (by simp [results, Tryz.results51, go_sem, y0]) rfl y1
  · have hd : decide (0 < wideJ (jobsL cyc 0 (l.map Prod.fst)) ps cyc cyc) = false := by simpa using hw
    rw [hd]
    have Hw : Hid (wideJ (jobsL cyc 0 (l.map Prod.fst)) ps cyc cyc = 0) := by unfold Hid; omega
    have s0 : (w1.alloc (.cells #[.int .i64 c0, .int .i64 f0, .slice a n c] 61)).cell? ⟨w.heap.size, 0, none⟩ = some (.slice (some ⟨g, 0, none⟩) l.length cap) := by rw [blk_cell HS2.out]; rfl
    have s1 : (w1.alloc (.cells #[.int .i64 c0, .int .i64 f0, .slice a n c] 61)).cell? ⟨w.heap.size, 1, none⟩ = some (.slice pa ps.length pc) := by rw [blk_cell HS2.out]; rfl
    clear hd hw
    go_upto_region 3 with fail
    generalize w1.alloc (.cells #[.int .i64 c0, .int .i64 f0, .slice a n c] 61) = w2 at *
    generalize w1.heap.size = X at *
    go_wp2_with fail
    refine (whyNone_any l cyc g cap pa pc ps w2 HH2.out).mono ?_
    rintro en w3 ⟨rfl, hb3⟩
    have HB3 := hide (HB2.out.trans (hb3.mono HB2.out.size))
    clear hb3 s0 s1
    go_wp2_with fail
    refine (refuse_any _ 0 _ rfl _).mono ?_
    rintro e w' ⟨rfl, rfl⟩
    exact ⟨rfl, HB3.out, .inl ⟨Hw.out, rfl⟩⟩
end Go.Proofs.YtbdffcjganlblaaGreatDoor

namespace Go.Proofs.YtbdffcjganlblaaGreatDoor
open Go.RowKit
set_option linter.unusedVariables false
set_option linter.unusedSimpArgs false

end Go.Proofs.YtbdffcjganlblaaGreatDoor

namespace Go.Proofs.YtbdffcjganlblaaGreatDoor
open Go.RowKit
set_option linter.unusedVariables false
set_option linter.unusedSimpArgs false

/-- A token that is none of the two last kinds: its place is ahead of the next one's. -/
theorem at_step {l : List UInt8} {j : Nat} (h : (tk (allToks l) j).fin = false) : (tk (allToks l) j).at_ < (tk (allToks l) (j + 1)).at_ := by
  have hj : j < (allToks l).length := by
    rcases Nat.lt_or_ge j (allToks l).length with h' | h'
    · exact h'
    · rw [show tk (allToks l) j = ⟨101, [], 0⟩ by unfold tk; rw [List.getD_eq_getElem?_getD, List.getElem?_eq_none h']; rfl] at h
      simp [PT.fin] at h
  have hj1 : j + 1 < (allToks l).length := toks_fin (l.length + 1) l 0 (by omega) (by omega) j hj h
  have e := (toks_next (l.length + 1) l 0).2 j hj1
  have hb := toks_bound (l.length + 1) l 0 (by omega) j hj
  have h1 := (nextTok_bound l (tk (allToks l) j).nx hb).1
  change tk (allToks l) (j + 1) = nextTok l (tk (allToks l) j).nx at e
  rw [← e] at h1
  have h2 : (tk (allToks l) j).at_ < (tk (allToks l) j).nx := by
    cases j with
    | zero =>
      have e0 := (toks_next (l.length + 1) l 0).1
      change tk (allToks l) 0 = _ at e0
      rw [e0] at h ⊢
      exact nextTok_long l _ h
    | succ j =>
      have e0 := (toks_next (l.length + 1) l 0).2 j hj
      change tk (allToks l) (j + 1) = _ at e0
      rw [e0] at h ⊢
      exact nextTok_long l _ h
  omega

theorem at_next {l : List UInt8} {j k : Nat} (hk : k = j + 1) (h : (tk (allToks l) j).fin = false) : (tk (allToks l) j).at_ < (tk (allToks l) k).at_ := by
  subst hk
  exact at_step h

theorem fin_sees {t : PT} {wd : ByteArray} (h : sees t wd = true) : t.fin = false := by
  unfold sees at h
  simp at h
  simp [PT.fin, h.1]
theorem fin_name {t : PT} (h : isName t = true) : t.fin = false := by
  unfold isName at h
  simp at h
  simp [PT.fin, h.1]
theorem fin_num {t : PT} (h : (t.k == 110) = true) : t.fin = false := by
  simp at h
  simp [PT.fin, h]
theorem fin_semi {t : PT} (h : (t.k == 59) = true) : t.fin = false := by
  simp at h
  simp [PT.fin, h]

/-- A task's places, from lo on, all ahead of hi. -/
def TPl (t : Tk) (lo hi : Nat) : Prop := lo ≤ t.q0 ∧ t.q0 < t.q1 ∧ t.q1 < t.q2 ∧ t.q2 < t.q3 ∧ t.q3 < t.q4 ∧ t.q4 < hi
def PPl (p : Pr) (lo hi : Nat) : Prop := lo ≤ p.q0 ∧ p.q0 < p.q1 ∧ p.q1 < hi

theorem pRest_pl {l : List UInt8} {nm : UInt8} {P O q0 q1 q2 j : Nat} {t : Tk} {k : Nat} (h : pRest (allToks l) nm P O q0 q1 q2 j = .ok (t, k)) :
    t.q0 = q0 ∧ t.q1 = q1 ∧ t.q2 = q2 ∧ (tk (allToks l) j).at_ < t.q3 ∧ t.q3 < t.q4 ∧ t.q4 < (tk (allToks l) k).at_ := by
  unfold pRest at h
  split at h
  · rename_i h0
    split at h
    · rename_i h1
      split at h
      · rename_i h2
        split at h
        · rename_i h3
          split at h
          · rename_i h4
            have s0 := at_next (k := j + 1) rfl (fin_sees h0)
            have s1 := at_next (k := j + 2) rfl (fin_num h1)
            have s2 := at_next (k := j + 3) rfl (fin_sees h2)
            have s3 := at_next (k := j + 4) rfl (fin_num h3)
            have s4 := at_next (k := j + 5) rfl (fin_semi h4)
            injection h with h
            injection h with ha hb
            subst hb
            subst ha
            refine ⟨rfl, rfl, rfl, s0, ?_, ?_⟩
            · show (tk (allToks l) (j + 1)).at_ < (tk (allToks l) (j + 3)).at_
              omega
            · show (tk (allToks l) (j + 3)).at_ < (tk (allToks l) (j + 5)).at_
              omega
          · simp at h
        · simp at h
      · simp at h
    · simp at h
  · simp at h

theorem pTask_pl {l : List UInt8} {i : Nat} {t : Tk} {k : Nat} (h : pTask (allToks l) i = .ok (t, k)) : TPl t (tk (allToks l) i).at_ (tk (allToks l) k).at_ := by
  unfold pTask at h
  split at h
  · rename_i h0
    split at h
    · rename_i h1
      split at h
      · rename_i h2
        have s0 := at_next (k := i + 1) rfl (fin_name h0)
        have s1 := at_next (k := i + 2) rfl (fin_sees h1)
        have s2 := at_next (k := i + 3) rfl (fin_num h2)
        split at h
        · rename_i h3
          split at h
          · rename_i h4
            have s3 := at_next (k := i + 4) rfl (fin_sees h3)
            have s4 := at_next (k := i + 5) rfl (fin_num h4)
            obtain ⟨a, b, c, d, e, f⟩ := pRest_pl h
            unfold TPl
            rw [a, b, c]
            omega
          · simp at h
        · obtain ⟨a, b, c, d, e, f⟩ := pRest_pl h
          unfold TPl
          rw [a, b, c]
          omega
      · simp at h
    · simp at h
  · simp at h

theorem pPair_pl {l : List UInt8} {ap : Bool} {i : Nat} {p : Pr} {k : Nat} (h : pPair (allToks l) ap i = .ok (p, k)) : PPl p (tk (allToks l) i).at_ (tk (allToks l) k).at_ := by
  unfold pPair at h
  split at h
  · rename_i h0
    split at h
    · rename_i h1
      split at h
      · rename_i h2
        have s0 := at_next (k := i + 1) rfl (fin_name h0)
        have s1 := at_next (k := i + 2) rfl (fin_name h1)
        have s2 := at_next (k := i + 3) rfl (fin_semi h2)
        injection h with h
        injection h with ha hb
        subst hb
        subst ha
        refine ⟨Nat.le_refl _, s0, ?_⟩
        show (tk (allToks l) (i + 1)).at_ < (tk (allToks l) (i + 3)).at_
        omega
      · simp at h
    · simp at h
  · simp at h

/-- Bounds between the tasks. -/
def TB2 (B : Nat → Nat) (ts : List Tk) : Prop := ∀ k, k < ts.length → TPl (tsk ts k) (B k) (B (k + 1))
def PB2 (B : Nat → Nat) (ps : List Pr) : Prop := ∀ k, k < ps.length → PPl (psk ps k) (B k) (B (k + 1))

def consB (a : Nat) (B : Nat → Nat) : Nat → Nat
  | 0 => a
  | k + 1 => B k

theorem pTasks_pl {l : List UInt8} : ∀ (f i : Nat) (ts : List Tk) (k : Nat), pTasks f (allToks l) i = .ok (ts, k) → ∃ B, TB2 B ts ∧ B 0 = (tk (allToks l) i).at_ ∧ B ts.length ≤ (tk (allToks l) k).at_
  | 0, i, ts, k, h => by simp [pTasks] at h
  | f + 1, i, ts, k, h => by
    rw [pTasks] at h
    cases h1 : pTask (allToks l) i with
    | error e => rw [h1] at h; simp at h
    | ok x =>
      obtain ⟨t, j⟩ := x
      rw [h1] at h
      simp only at h
      have ht := pTask_pl h1
      split at h
      · rename_i hs
        have hs' : sees (tk (allToks l) j) wTask = true := by simp at hs; exact hs.2
        have s0 := at_step (fin_sees hs')
        cases h2 : pTasks f (allToks l) (j + 1) with
        | error e => rw [h2] at h; simp at h
        | ok y =>
          obtain ⟨us, m⟩ := y
          rw [h2] at h
          simp only at h
          injection h with h
          injection h with ha hb
          subst hb
          subst ha
          obtain ⟨B, b1, b2, b3⟩ := pTasks_pl f (j + 1) us m h2
          refine ⟨consB (tk (allToks l) i).at_ B, ?_, rfl, b3⟩
          intro q hq
          cases q with
          | zero =>
            show TPl t (tk (allToks l) i).at_ (B 0)
            unfold TPl at ht ⊢
            omega
          | succ q =>
            have := b1 q (by simpa using hq)
            simpa [tsk, consB] using this
      · injection h with h
        injection h with ha hb
        subst hb
        subst ha
        refine ⟨consB (tk (allToks l) i).at_ (fun _ => (tk (allToks l) j).at_), ?_, rfl, Nat.le_refl _⟩
        intro q hq
        have h0 : q = 0 := by simpa using hq
        subst h0
        exact ht

theorem pPairs_pl {l : List UInt8} : ∀ (f i : Nat) (ps : List Pr) (k : Nat), pPairs f (allToks l) i = .ok (ps, k) → ∃ B, PB2 B ps ∧ (tk (allToks l) i).at_ ≤ B 0
  | 0, i, ps, k, h => by
    simp [pPairs] at h
    obtain ⟨rfl, rfl⟩ := h
    exact ⟨fun _ => (tk (allToks l) i).at_, fun q hq => by simp at hq, Nat.le_refl _⟩
  | f + 1, i, ps, k, h => by
    rw [pPairs] at h
    split at h
    · rename_i hs
      have s0 : (tk (allToks l) i).at_ < (tk (allToks l) (i + 1)).at_ := by
        simp at hs
        rcases hs with hs | hs
        · exact at_step (fin_sees hs)
        · exact at_step (fin_sees hs)
      cases h1 : pPair (allToks l) (!(sees (tk (allToks l) i) wBefore)) (i + 1) with
      | error e => rw [h1] at h; simp at h
      | ok x =>
        obtain ⟨p, j⟩ := x
        rw [h1] at h
        simp only at h
        have hp := pPair_pl h1
        cases h2 : pPairs f (allToks l) j with
        | error e => rw [h2] at h; simp at h
        | ok y =>
          obtain ⟨us, m⟩ := y
          rw [h2] at h
          simp only at h
          injection h with h
          injection h with ha hb
          subst hb
          subst ha
          obtain ⟨B, b1, b2⟩ := pPairs_pl f j us m h2
          refine ⟨consB (tk (allToks l) (i + 1)).at_ B, ?_, Nat.le_of_lt s0⟩
          intro q hq
          cases q with
          | zero =>
            show PPl p (tk (allToks l) (i + 1)).at_ (B 0)
            unfold PPl at hp ⊢
            omega
          | succ q =>
            have := b1 q (by simpa using hq)
            simpa [psk, consB] using this
    · simp at h
      obtain ⟨rfl, rfl⟩ := h
      exact ⟨fun _ => (tk (allToks l) i).at_, fun q hq => by simp at hq, Nat.le_refl _⟩

theorem pSet_pl {l : List UInt8} {ts : List Tk} {ps : List Pr} (h : pSet (allToks l) = .ok (ts, ps)) : ∃ B B', TB2 B ts ∧ PB2 B' ps ∧ B ts.length ≤ B' 0 := by
  unfold pSet at h
  cases h1 : pFirst (allToks l) with
  | error e => rw [h1] at h; simp at h
  | ok x =>
    obtain ⟨us, j⟩ := x
    rw [h1] at h
    simp only at h
    cases h2 : pPairs 6 (allToks l) j with
    | error e => rw [h2] at h; simp at h
    | ok y =>
      obtain ⟨qs, k⟩ := y
      rw [h2] at h
      simp only at h
      split at h
      · injection h with h
        injection h with ha hb
        subst ha
        subst hb
        unfold pFirst at h1
        split at h1
        · obtain ⟨B, b1, _, b3⟩ := pTasks_pl _ _ _ _ h1
          obtain ⟨B', c1, c2⟩ := pPairs_pl _ _ _ _ h2
          exact ⟨B, B', b1, c1, by omega⟩
        · simp at h1
      · simp at h
end Go.Proofs.YtbdffcjganlblaaGreatDoor

namespace Go.Proofs.YtbdffcjganlblaaGreatDoor
open Go.RowKit
set_option linter.unusedVariables false
set_option linter.unusedSimpArgs false

theorem findL_F (l : List (Tk × Nat)) (c : UInt8) : ∀ (f k : Nat), findL l c f k = findF (l.map Prod.fst) c f k
  | 0, k => rfl
  | f + 1, k => by rw [findL, findF, lk_fst, findL_F l c f (k + 1)]

theorem findF_split (ts : List Tk) (c : UInt8) : ∀ (m r j : Nat), (0 ≤ findF ts c m j → findF ts c (m + r) j = findF ts c m j) ∧ (findF ts c m j < 0 → findF ts c (m + r) j = findF ts c r (j + m))
  | 0, r, j => by
    constructor
    · intro h; simp [findF] at h
    · intro _; simp
  | m + 1, r, j => by
    have ih := findF_split ts c m r (j + 1)
    rw [show m + 1 + r = (m + r) + 1 by omega, findF, findF]
    split
    · constructor
      · intro _; rfl
      · intro h; omega
    · constructor
      · exact ih.1
      · intro h
        rw [ih.2 h, show j + 1 + m = j + (m + 1) by omega]

theorem find_dup (ts : List Tk) (k : Nat) (hk : k < ts.length) : findI ts (tsk ts k).nm < k ↔ 0 ≤ findF ts (tsk ts k).nm k 0 := by
  have hs := findF_split ts (tsk ts k).nm k (ts.length - k) 0
  have hl := findF_lt ts (tsk ts k).nm k 0
  rw [show k + (ts.length - k) = ts.length by omega] at hs
  unfold findI
  constructor
  · intro h
    rcases Int.lt_or_le (findF ts (tsk ts k).nm k 0) 0 with h1 | h1
    · rw [hs.2 h1, show ts.length - k = (ts.length - k - 1) + 1 by omega, findF, show 0 + k = k by omega, if_pos rfl] at h
      omega
    · exact h1
  · intro h
    rw [hs.1 h]
    omega

theorem timed_pl {t : Tk} {lo hi : Nat} (h : TPl t lo hi) (h0 : 0 ≤ timedI t) : t.q0 < (timedI t).toNat ∧ (timedI t).toNat < hi := by
  unfold TPl at h
  unfold timedI at h0 ⊢
  split
  · simp; omega
  · rename_i h1
    rw [if_neg h1] at h0
    split
    · simp; omega
    · rename_i h2
      rw [if_neg h2] at h0
      split
      · simp; omega
      · rename_i h3
        rw [if_neg h3] at h0
        split
        · simp; omega
        · rename_i h4
          rw [if_neg h4] at h0
          omega

theorem soon_stay {f : Nat × Nat} {e a : Nat} (h1 : f.1 ≠ 0) (h2 : f.2 ≤ a) : soon f e a = f := by
  unfold soon
  rw [if_neg]
  omega
theorem soon_zero (e a : Nat) : soon (0, 0) e a = (e, a) := by
  unfold soon
  rw [if_pos (.inl rfl)]

/-- The first fault so far. -/
def pT (l : List (Tk × Nat)) : Nat → Option (Nat × Nat)
  | 0 => none
  | k + 1 => match pT l k with
    | some x => some x
    | none => tE l k
def pP (l : List (Tk × Nat)) (ps : List Pr) : Nat → Option (Nat × Nat)
  | 0 => pT l l.length
  | k + 1 => match pP l ps k with
    | some x => some x
    | none => pE l (psk ps k)

theorem ckT_pT (l : List (Tk × Nat)) : ∀ (f k : Nat), (match pT l k with | some x => some x | none => ckT l f k) = pT l (k + f)
  | 0, k => by
    cases h : pT l k with
    | some x => simp [h]
    | none => simp [h, ckT]
  | f + 1, k => by
    have ih := ckT_pT l f (k + 1)
    rw [show k + (f + 1) = k + 1 + f by omega, ← ih, pT]
    cases h : pT l k with
    | some x => simp
    | none =>
      simp only [ckT]
      cases tE l k <;> rfl
theorem ckP_pP (l : List (Tk × Nat)) (ps : List Pr) : ∀ (f k : Nat), (match pP l ps k with | some x => some x | none => ckP l ps f k) = pP l ps (k + f)
  | 0, k => by
    cases h : pP l ps k with
    | some x => simp [h]
    | none => simp [h, ckP]
  | f + 1, k => by
    have ih := ckP_pP l ps f (k + 1)
    rw [show k + (f + 1) = k + 1 + f by omega, ← ih, pP]
    cases h : pP l ps k with
    | some x => simp
    | none =>
      simp only [ckP]
      cases pE l (psk ps k) <;> rfl

theorem checkR_eq (l : List (Tk × Nat)) (ps : List Pr) : checkR l ps = match pP l ps ps.length with
    | some x => some x
    | none => if cycI (l.map Prod.fst) = 0 then some (4, 0) else none := by
  have h1 := ckT_pT l l.length 0
  have h2 := ckP_pP l ps ps.length 0
  simp only [Nat.zero_add, pT, pP] at h1 h2
  unfold checkR
  rw [← h2, ← h1]
  cases ckT l l.length 0 with
  | some x => simp
  | none =>
    simp only
    cases ckP l ps ps.length 0 with
    | some x => simp
    | none => simp

/-- The document's fault so far, against the first one. -/
def Same (f : Nat × Nat) (o : Option (Nat × Nat)) (b : Nat) : Prop :=
  match o with
  | some x => f = x ∧ x.1 ≠ 0 ∧ x.2 < b
  | none => f = (0, 0)

theorem same_mono {f : Nat × Nat} {o : Option (Nat × Nat)} {b b' : Nat} (h : Same f o b) (hb : b ≤ b') : Same f o b' := by
  unfold Same at h ⊢
  cases o with
  | some x => exact ⟨h.1, h.2.1, by have := h.2.2; omega⟩
  | none => exact h

theorem mT_same {l : List (Tk × Nat)} {B : Nat → Nat} (hB : TB2 B (l.map Prod.fst)) : ∀ k, k ≤ l.length → Same (mT (l.map Prod.fst) k) (pT l k) (B k)
  | 0, _ => rfl
  | k + 1, hk => by
    have ih := mT_same hB k (by omega)
    have hpl := hB k (by rw [List.length_map]; omega)
    have hq : (tsk (l.map Prod.fst) k).q0 < B (k + 1) ∧ B k ≤ (tsk (l.map Prod.fst) k).q0 := by unfold TPl at hpl; omega
    have htm := timed_pl hpl
    have hd := find_dup (l.map Prod.fst) k (by rw [List.length_map]; omega)
    rw [mT, pT]
    cases h : pT l k with
    | some x =>
      rw [h] at ih
      obtain ⟨e1, e2, e3⟩ := ih
      rw [e1]
      have hs1 : stepT1 (l.map Prod.fst) k x = x := by
        unfold stepT1
        split
        · exact soon_stay e2 (by omega)
        · rfl
      have hs : stepT (l.map Prod.fst) k x = x := by
        unfold stepT
        rw [hs1]
        split
        · rename_i h0
          have := htm h0
          exact soon_stay e2 (by omega)
        · rfl
      rw [hs]
      exact ⟨rfl, e2, by omega⟩
    | none =>
      rw [h] at ih
      have e1 : mT (l.map Prod.fst) k = (0, 0) := ih
      rw [e1]
      simp only
      unfold tE stepT stepT1
      rw [lk_fst, findL_F]
      by_cases h1 : 0 ≤ findF (l.map Prod.fst) (tsk (l.map Prod.fst) k).nm k 0
      · rw [if_pos h1, if_pos (hd.2 h1), soon_zero]
        split
        · rename_i h0
          have := htm h0
          rw [soon_stay (by simp) (by simp; omega)]
          exact ⟨rfl, by simp, hq.1⟩
        · exact ⟨rfl, by simp, hq.1⟩
      · rw [if_neg h1, if_neg (fun h => h1 (hd.1 h))]
        split
        · rename_i h0
          have := htm h0
          rw [soon_zero]
          exact ⟨rfl, by simp, this.2⟩
        · rfl

theorem mP_same {l : List (Tk × Nat)} {ps : List Pr} {b : Nat} {B : Nat → Nat} (h0 : Same (mT (l.map Prod.fst) l.length) (pT l l.length) b) (hb : b ≤ B 0) (hB : PB2 B ps) : ∀ k, k ≤ ps.length → Same (mP (l.map Prod.fst) ps k) (pP l ps k) (B k)
  | 0, _ => by
    rw [mP, pP, List.length_map]
    exact same_mono h0 hb
  | k + 1, hk => by
    have ih := mP_same h0 hb hB k (by omega)
    have hpl := hB k (by omega)
    rw [mP, pP]
    generalize psk ps k = p at *
    have hq : B k ≤ p.q0 ∧ p.q0 < p.q1 ∧ p.q1 < B (k + 1) := hpl
    cases h : pP l ps k with
    | some x =>
      rw [h] at ih
      obtain ⟨e1, e2, e3⟩ := ih
      rw [e1]
      have hs1 : stepP1 (l.map Prod.fst) p x = x := by
        unfold stepP1
        split
        · exact soon_stay e2 (by omega)
        · rfl
      have hs2 : stepP2 (l.map Prod.fst) p x = x := by
        unfold stepP2
        rw [hs1]
        split
        · exact soon_stay e2 (by omega)
        · rfl
      have hs : stepP (l.map Prod.fst) p x = x := by
        unfold stepP
        rw [hs2]
        split
        · exact soon_stay e2 (by omega)
        · rfl
      rw [hs]
      exact ⟨rfl, e2, by omega⟩
    | none =>
      rw [h] at ih
      have e1 : mP (l.map Prod.fst) ps k = (0, 0) := ih
      rw [e1]
      simp only
      have ef : ∀ c, findL l c l.length 0 = findI (l.map Prod.fst) c := fun c => by
        rw [findL_F]
        unfold findI
        rw [List.length_map]
      unfold pE stepP stepP2 stepP1 badPair
      simp only [ef, lk_fst]
      by_cases ha : findI (l.map Prod.fst) p.a < 0
      · have ha' : ¬ 0 ≤ findI (l.map Prod.fst) p.a := by omega
        simp only [if_pos ha, ha', decide_false, Bool.false_and, Bool.false_eq_true, if_false, soon_zero]
        have e : soon (3, p.q0) 3 p.q1 = (3, p.q0) := soon_stay (by simp) (by simp; omega)
        rw [e]
        have e2 : (if findI (l.map Prod.fst) p.b < 0 then ((3, p.q0) : Nat × Nat) else (3, p.q0)) = (3, p.q0) := by split <;> rfl
        rw [e2]
        exact ⟨rfl, by simp, by simp; omega⟩
      · have ha' : 0 ≤ findI (l.map Prod.fst) p.a := by omega
        simp only [if_neg ha]
        by_cases hb' : findI (l.map Prod.fst) p.b < 0
        · have hb'' : ¬ 0 ≤ findI (l.map Prod.fst) p.b := by omega
          simp only [if_pos hb', hb'', decide_false, Bool.and_false, Bool.false_and, Bool.false_eq_true, if_false, soon_zero]
          exact ⟨rfl, by simp, hq.2.2⟩
        · have hb'' : 0 ≤ findI (l.map Prod.fst) p.b := by omega
          simp only [if_neg hb', ha', hb'', decide_true, Bool.true_and]
          by_cases he : findI (l.map Prod.fst) p.a = findI (l.map Prod.fst) p.b
          · simp only [if_pos he, he, decide_true, Bool.true_or, if_true, soon_zero]
            exact ⟨rfl, by simp, hq.2.2⟩
          · simp only [if_neg he, he, decide_false, Bool.false_or]
            by_cases hp : p.ap = false ∧ (tsk (l.map Prod.fst) (findI (l.map Prod.fst) p.a).toNat).P ≠ (tsk (l.map Prod.fst) (findI (l.map Prod.fst) p.b).toNat).P
            · rw [if_pos hp, if_pos (by simp [hp.1, hp.2]), soon_zero]
              exact ⟨rfl, by simp, hq.2.2⟩
            · rw [if_neg hp, if_neg (by
                intro h
                simp at h
                exact hp h)]
              rfl

theorem meant_same {l : List UInt8} {ts : List (Tk × Nat)} {ps : List Pr} (h : pSet (allToks l) = .ok (ts.map Prod.fst, ps)) : ∃ b, Same (meantI (ts.map Prod.fst) ps) (pP ts ps ps.length) b := by
  obtain ⟨B, B', h1, h2, h3⟩ := pSet_pl h
  rw [List.length_map] at h3
  exact ⟨_, mP_same (mT_same h1 ts.length (Nat.le_refl _)) h3 h2 ps.length (Nat.le_refl _)⟩

theorem knownR_some {l : List UInt8} {ts : List (Tk × Nat)} {ps : List Pr} {f : Nat × Nat} (hl : l.length ≤ 400) (h : pSet (allToks l) = .ok (ts.map Prod.fst, ps)) (hc : checkR ts ps = some f) : knownR l = .error f := by
  obtain ⟨b, hs⟩ := meant_same h
  rw [checkR_eq] at hc
  unfold knownR
  rw [if_neg (by omega), h]
  simp only
  cases hp : pP ts ps ps.length with
  | some x =>
    rw [hp] at hs hc
    obtain ⟨e1, e2, _⟩ := hs
    simp only [Option.some.injEq] at hc
    rw [e1, if_pos e2, hc]
  | none =>
    rw [hp] at hs hc
    have e1 : meantI (ts.map Prod.fst) ps = (0, 0) := hs
    rw [e1, if_neg (by simp)]
    simp only at hc
    split at hc
    · rename_i h0
      rw [if_pos h0]
      simp only [Option.some.injEq] at hc
      rw [hc]
    · simp at hc
theorem knownR_none {l : List UInt8} {ts : List (Tk × Nat)} {ps : List Pr} (hl : l.length ≤ 400) (h : pSet (allToks l) = .ok (ts.map Prod.fst, ps)) (hc : checkR ts ps = none) : knownR l = .ok (ts.map Prod.fst, ps) := by
  obtain ⟨b, hs⟩ := meant_same h
  rw [checkR_eq] at hc
  unfold knownR
  rw [if_neg (by omega), h]
  simp only
  cases hp : pP ts ps ps.length with
  | some x => rw [hp] at hc; simp at hc
  | none =>
    rw [hp] at hs hc
    have e1 : meantI (ts.map Prod.fst) ps = (0, 0) := hs
    rw [e1, if_neg (by simp)]
    simp only at hc
    split at hc
    · simp at hc
    · rename_i h0
      rw [if_neg h0]

end Go.Proofs.YtbdffcjganlblaaGreatDoor
