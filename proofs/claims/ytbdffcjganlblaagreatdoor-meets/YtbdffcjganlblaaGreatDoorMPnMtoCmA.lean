/-
  Own work. The program's whyNone and compile.
-/
import Derived.Test.YtbdffcjganlblaaGreatDoorMPnKtoPnL
import Derived.Test.YtbdffcjganlblaaGreatDoorMPnJtoChA
import Derived.Test.YtbdffcjganlblaaGreatDoorMLawCtoMtA
import Derived.Test.YtbdffcjganlblaaGreatDoorMEdAtoEdF
import Derived.Test.YtbdffcjganlblaaGreatDoorMRunEtoEdG
import Derived.Test.YtbdffcjganlblaaGreatDoorMGrAtoDsE
import Derived.Deep.RegionHeldLaw
namespace Go.Proofs.YtbdffcjganlblaaGreatDoor
open Go.RowKit
set_option linter.unusedVariables false
set_option linter.unusedSimpArgs false

/-- Why there is no table. -/
def whyJ (js : List Jb) (cyc : Nat) : Nat := if goesJ js [] cyc 1 = true then 7 else 6

theorem SetAt.bare {l : List (Tk × Nat)} {cyc g : Nat} {pa : Option Addr} {ps : List Pr} {w : World} (h : SetAt l cyc g pa ps w) : SetAt l cyc g none [] w :=
  ⟨h.hg, h.hr, h.hn, h.hts, h.hcy, ⟨fun p hp => by simp at hp, fun p hp => by simp at hp, fun p hp => by simp at hp, by simp⟩, fun h0 => by simp at h0, fun gp e => by simp at e⟩

def WhyOut (l : List (Tk × Nat)) (cyc : Nat) (w : World) (en : Ending) (w' : World) : Prop := en = .returned (.int .i64 (whyJ (jobsL cyc 0 (l.map Prod.fst)) cyc)) ∧ Below w.heap.size w w'

set_option maxRecDepth 100000 in
set_option maxHeartbeats 2000000 in
theorem whyNone_any (l : List (Tk × Nat)) (cyc g cap : Nat) (pa : Option Addr) (pc : Nat) (ps : List Pr) (w : World) (h : SetAt l cyc g pa ps w) :
    Calls Tryz.prog 86 #[.agg #[.slice (some ⟨g, 0, none⟩) l.length cap, .slice pa ps.length pc]] w (WhyOut l cyc w) := by
  have HS := blk_new w #[.slice (some ⟨g, 0, none⟩) l.length cap, .slice pa ps.length pc] 84
  have HW := hide (below_new w (.cells #[.slice (some ⟨g, 0, none⟩) l.length cap, .slice pa ps.length pc] 84))
  have s0 := blk_cell HS
  have CP := hide ((h.bare.keep HW.out).plan cap 0 1 (Nat.le_refl _) (Nat.mod_one _))
  have hwh : Hid (whyJ (jobsL cyc 0 (l.map Prod.fst)) cyc = if goesJ (jobsL cyc 0 (l.map Prod.fst)) [] cyc 1 = true then 7 else 6) := rfl
  clear h
  go_enter Tryz.func86, Tryz.ntmps86
  go_wp2_with fail
  refine CP.out.mono ?_
  rintro en w2 ⟨fv, Pf', a', c', rfl, rfl, hF, hfs, hb2⟩
  have HB := hide (HW.out.trans (hb2.mono HW.out.size))
  clear hF hfs hb2 HW HS s0 CP
  generalize goesJ (jobsL cyc 0 (l.map Prod.fst)) [] cyc 1 = gg at *
  have HBa : Hid (∀ o : Obj, Below w.heap.size w (w2.alloc o)) := fun o => HB.out.alloc HB.out.size o
  cases gg with
  | true =>
    go_wp2_with fail
    go_ret
    exact ⟨ret_int (by rw [hwh.out]; rfl), HBa.out _⟩
  | false =>
    go_wp2_with fail
    go_ret
    exact ⟨ret_int (by rw [hwh.out]; rfl), HBa.out _⟩

def CompOut (l : List (Tk × Nat)) (cyc : Nat) (ps : List Pr) (w : World) (en : Ending) (w' : World) : Prop :=
  Below w.heap.size w w' ∧ ((wideJ (jobsL cyc 0 (l.map Prod.fst)) ps cyc cyc = 0 ∧ en = pan (whyJ (jobsL cyc 0 (l.map Prod.fst)) cyc) 0) ∨
    (0 < wideJ (jobsL cyc 0 (l.map Prod.fst)) ps cyc cyc ∧ ∃ (Pf : List (Value × List Sl)) (a : Option Addr) (c : Nat), en = .returned (.agg #[.int .i64 cyc, .int .i64 (wideJ (jobsL cyc 0 (l.map Prod.fst)) ps cyc cyc), .slice a Pf.length c]) ∧ FrM w' w.heap.size (.slice a Pf.length c) Pf ∧ Pf.map Prod.snd = (tabJ (jobsL cyc 0 (l.map Prod.fst)) ps cyc (wideJ (jobsL cyc 0 (l.map Prod.fst)) ps cyc cyc)).fs))

set_option maxRecDepth 100000 in
set_option maxHeartbeats 2000000 in
theorem compile_any (l : List (Tk × Nat)) (cyc g cap : Nat) (pa : Option Addr) (pc : Nat) (ps : List Pr) (w : World) (h : SetAt l cyc g pa ps w) :
    Calls Tryz.prog 51 #[.agg #[.slice (some ⟨g, 0, none⟩) l.length cap, .slice pa ps.length pc]] w (CompOut l cyc ps w) := by
  have HS : Hid (((w.alloc (.cells #[.slice (some ⟨g, 0, none⟩) l.length cap, .slice pa ps.length pc] 84)).alloc (.cells #[.int .i64 0, .int .i64 0, .slice none 0 0] 61)).heap[w.heap.size]? = some (.cells #[.slice (some ⟨g, 0, none⟩) l.length cap, .slice pa ps.length pc] 84 (0, 0))) := by
    unfold Hid
    rw [Below.heap_alloc _ _ _ (by simp)]
    exact blk_new _ _ _
  have HT : Hid (((w.alloc (.cells #[.slice (some ⟨g, 0, none⟩) l.length cap, .slice pa ps.length pc] 84)).alloc (.cells #[.int .i64 0, .int .i64 0, .slice none 0 0] 61)).heap[w.heap.size + 1]? = some (.cells #[.int .i64 0, .int .i64 0, .slice none 0 0] 61 (0, 0))) := by
    have := blk_new (w.alloc (.cells #[.slice (some ⟨g, 0, none⟩) l.length cap, .slice pa ps.length pc] 84)) #[.int .i64 0, .int .i64 0, .slice none 0 0] 61
    unfold Hid
    simpa using this
  have HW := hide (((Below.refl _ w).alloc (Nat.le_refl _) (.cells #[.slice (some ⟨g, 0, none⟩) l.length cap, .slice pa ps.length pc] 84)).alloc (by simp) (.cells #[.int .i64 0, .int .i64 0, .slice none 0 0] 61))
  have H := hide h
  have s0 := blk_cell HS.out
  clear h
  go_enter Tryz.func51, Tryz.ntmps51
  go_wp2_with fail
  generalize (w.alloc (.cells #[.slice (some ⟨g, 0, none⟩) l.length cap, .slice pa ps.length pc] 84)).alloc (.cells #[.int .i64 0, .int .i64 0, .slice none 0 0] 61) = wz at *
  refine (planWidest_any l cyc g cap pa pc ps wz (H.out.keep HW.out)).mono ?_
  rintro en w1 ⟨c0, f0, Pf, a, n, c, rfl, hb1, hok⟩
  have hb2 : Below wz.heap.size wz (w1.alloc (.cells #[.int .i64 c0, .int .i64 f0, .slice a n c] 61)) := hb1.alloc hb1.size _
  have HS2 := hide (blk_keep HS.out hb2)
  have HT2 := hide (blk_keep HT.out hb2)
  have HB2 := hide (HW.out.trans (hb2.mono HW.out.size))
  have HX2 := hide (blk_new w1 #[.int .i64 c0, .int .i64 f0, .slice a n c] 61)
  have HH2 := hide (H.out.keep HB2.out)
  have hzw : w.heap.size + 1 < wz.heap.size := blk_lt HT.out
  have hw1 : wz.heap.size ≤ w1.heap.size := hb1.size
  have HOk : Hid (0 < wideJ (jobsL cyc 0 (l.map Prod.fst)) ps cyc cyc → c0 = cyc ∧ f0 = wideJ (jobsL cyc 0 (l.map Prod.fst)) ps cyc cyc ∧ n = Pf.length ∧ FrM (w1.alloc (.cells #[.int .i64 c0, .int .i64 f0, .slice a n c] 61)) wz.heap.size (.slice a Pf.length c) Pf ∧ Pf.map Prod.snd = (tabJ (jobsL cyc 0 (l.map Prod.fst)) ps cyc f0).fs) := fun h0 => by
    obtain ⟨k1, k2, k3, k4, k5⟩ := hok h0
    exact ⟨k1, k2, k3, k4.below (below_new _ _), k5⟩
  clear hb1 hb2 hok HS HT HW H s0
  by_cases hw : 0 < wideJ (jobsL cyc 0 (l.map Prod.fst)) ps cyc cyc
  · have hd : decide (0 < wideJ (jobsL cyc 0 (l.map Prod.fst)) ps cyc cyc) = true := by simpa using hw
    rw [hd]
    have Hw := hide hw
    clear hd hw
    go_upto_region 4 with fail
    generalize w1.alloc (.cells #[.int .i64 c0, .int .i64 f0, .slice a n c] 61) = w2 at *
    generalize w1.heap.size = X at *
    have x0 : w2.cell? ⟨X, 0, none⟩ = some (.int .i64 c0) := by rw [blk_cell HX2.out]; rfl
    have x1 : w2.cell? ⟨X, 1, none⟩ = some (.int .i64 f0) := by rw [blk_cell HX2.out]; rfl
    have x2 : w2.cell? ⟨X, 2, none⟩ = some (.slice a n c) := by rw [blk_cell HX2.out]; rfl
    have t0 := blk_cell HT2.out
    have tf := blk_frozen HT2.out
    have HRes : Hid (∀ W : World, W = ((w2.setCell ⟨w.heap.size + 1, 0, none⟩ (.int .i64 c0)).setCell ⟨w.heap.size + 1, 1, none⟩ (.int .i64 f0)).setCell ⟨w.heap.size + 1, 2, none⟩ (.slice a n c) → (∀ o, W.cell? ⟨w.heap.size + 1, o, none⟩ = #[Value.int .i64 c0, .int .i64 f0, .slice a n c][o]?) ∧ CompOut l cyc ps w (.returned (.agg #[.int .i64 c0, .int .i64 f0, .slice a n c])) W) := by
      rintro W rfl
      obtain ⟨k1, k2, k3, k4, k5⟩ := HOk.out Hw.out
      refine ⟨fun o => blk_cell (by rw [blk_set (blk_set (blk_set HT2.out 0 _) 1 _) 2 _]; rfl) o, ((HB2.out.setCell (p := ⟨w.heap.size + 1, 0, none⟩) (by show w.heap.size ≤ w.heap.size + 1; omega) _).setCell (p := ⟨w.heap.size + 1, 1, none⟩) (by show w.heap.size ≤ w.heap.size + 1; omega) _).setCell (p := ⟨w.heap.size + 1, 2, none⟩) (by show w.heap.size ≤ w.heap.size + 1; omega) _, .inr ⟨Hw.out, Pf, a, c, by rw [k1, ← k2, k3], (((k4.setLow hzw 0 _).setLow hzw 1 _).setLow hzw 2 _).weak (by omega), by rw [← k2]; exact k5⟩⟩
    clear HX2 HT2 HS2 HB2 HH2 HOk Hw
    go_wp2_with fail
    all_goals
      obtain ⟨y0, y1⟩ := HRes.out _ rfl
      generalize ((w2.setCell ⟨w.heap.size + 1, 0, none⟩ (.int .i64 c0)).setCell ⟨w.heap.size + 1, 1, none⟩ (.int .i64 f0)).setCell ⟨w.heap.size + 1, 2, none⟩ (.slice a n c) = W at *
      exact bodyPost_ret (by simp [results, Tryz.results51, go_sem, y0]) rfl y1
  · have hd : decide (0 < wideJ (jobsL cyc 0 (l.map Prod.fst)) ps cyc cyc) = false := by simpa using hw
    rw [hd]
    have Hw : Hid (wideJ (jobsL cyc 0 (l.map Prod.fst)) ps cyc cyc = 0) := by unfold Hid; omega
    have s0 : (w1.alloc (.cells #[.int .i64 c0, .int .i64 f0, .slice a n c] 61)).cell? ⟨w.heap.size, 0, none⟩ = some (.slice (some ⟨g, 0, none⟩) l.length cap) := by rw [blk_cell HS2.out]; rfl
    have s1 : (w1.alloc (.cells #[.int .i64 c0, .int .i64 f0, .slice a n c] 61)).cell? ⟨w.heap.size, 1, none⟩ = some (.slice pa ps.length pc) := by rw [blk_cell HS2.out]; rfl
    clear hd hw
    go_upto_region 3 with fail
    generalize w1.alloc (.cells #[.int .i64 c0, .int .i64 f0, .slice a n c] 61) = w2 at *
    generalize w1.heap.size = X at *
    go_wp2_with fail
    refine (whyNone_any l cyc g cap pa pc ps w2 HH2.out).mono ?_
    rintro en w3 ⟨rfl, hb3⟩
    have HB3 := hide (HB2.out.trans (hb3.mono HB2.out.size))
    clear hb3 s0 s1
    go_wp2_with fail
    refine (refuse_any _ 0 _ rfl _).mono ?_
    rintro e w' ⟨rfl, rfl⟩
    exact ⟨rfl, HB3.out, .inl ⟨Hw.out, rfl⟩⟩
end Go.Proofs.YtbdffcjganlblaaGreatDoor

namespace Go.Proofs.YtbdffcjganlblaaGreatDoor
open Go.RowKit
set_option linter.unusedVariables false
set_option linter.unusedSimpArgs false

theorem pTask_name {l : List UInt8} {i : Nat} {t : Tk} {k : Nat} (h : pTask (allToks l) i = .ok (t, k)) : letterB (t.nm.toNat : Int) = true := by
  have hr : ∀ {nm : UInt8} {P O q0 q1 q2 j : Nat}, pRest (allToks l) nm P O q0 q1 q2 j = .ok (t, k) → t.nm = nm := fun h => by
    unfold pRest at h
    repeat (split at h; rotate_left; simp at h)
    injection h with h
    injection h with h1 h2
    rw [← h1]
  unfold pTask at h
  split at h
  · rename_i hn
    have hl := name_letter hn
    split at h
    · split at h
      · split at h
        · split at h
          · rw [hr h]; exact hl
          · simp at h
        · rw [hr h]; exact hl
      · simp at h
    · simp at h
  · simp at h
theorem pTasks_name {l : List UInt8} : ∀ (f i : Nat) (ts : List Tk) (k : Nat), pTasks f (allToks l) i = .ok (ts, k) → ∀ t ∈ ts, letterB (t.nm.toNat : Int) = true
  | 0, i, ts, k, h => by simp [pTasks] at h
  | f + 1, i, ts, k, h => by
    rw [pTasks] at h
    cases ht : pTask (allToks l) i with
    | error e => rw [ht] at h; simp at h
    | ok x =>
      obtain ⟨t, j⟩ := x
      rw [ht] at h
      simp only at h
      split at h
      · cases hr : pTasks f (allToks l) (j + 1) with
        | error e => rw [hr] at h; simp at h
        | ok y =>
          obtain ⟨ts', k'⟩ := y
          rw [hr] at h
          simp at h
          obtain ⟨rfl, rfl⟩ := h
          intro t' ht'
          rcases List.mem_cons.1 ht' with rfl | h'
          · exact pTask_name ht
          · exact pTasks_name f (j + 1) ts' k' hr t' h'
      · simp at h
        obtain ⟨rfl, rfl⟩ := h
        intro t' ht'
        simp at ht'
        rw [ht']
        exact pTask_name ht
theorem pSet_name {l : List UInt8} {ts : List Tk} {ps : List Pr} (h : pSet (allToks l) = .ok (ts, ps)) : ∀ t ∈ ts, letterB (t.nm.toNat : Int) = true := by
  unfold pSet at h
  cases h1 : pFirst (allToks l) with
  | error e => rw [h1] at h; simp at h
  | ok x =>
    obtain ⟨ts', j⟩ := x
    rw [h1] at h
    simp only at h
    cases h2 : pPairs 6 (allToks l) j with
    | error e => rw [h2] at h; simp at h
    | ok y =>
      obtain ⟨ps', k⟩ := y
      rw [h2] at h
      simp only at h
      split at h
      · simp at h
        obtain ⟨rfl, rfl⟩ := h
        unfold pFirst at h1
        split at h1
        · exact pTasks_name _ _ _ _ h1
        · simp at h1
      · simp at h

/-- What readSet answers: the pairs' row lies below. -/
def ReadOut2 (s : ByteArray) (w : World) (en : Ending) (w' : World) : Prop :=
  Below w.heap.size w w' ∧
  ((400 < s.size ∧ en = pan 1 0) ∨
   (s.size ≤ 400 ∧ ∃ j, pSet (allToks s.data.toList) = .error j ∧ en = pan 2 (tk (allToks s.data.toList) j).at_) ∨
   (s.size ≤ 400 ∧ ∃ l ps, pSet (allToks s.data.toList) = .ok (l.map Prod.fst, ps) ∧ ZOk l ∧
     ((∃ f, checkR l ps = some f ∧ en = pan f.1 f.2) ∨
      (checkR l ps = none ∧ ∃ g cap pa pc, en = .returned (.agg #[.slice (some ⟨g, 0, none⟩) l.length cap, .slice pa ps.length pc]) ∧ l.length ≤ cap ∧ g < w'.heap.size ∧ RowPT w' g l ∧ (0 < ps.length → ∃ gp, pa = some ⟨gp, 0, none⟩ ∧ gp < w'.heap.size ∧ RowPP w' gp ps) ∧ ∀ gp, pa = some ⟨gp, 0, none⟩ → gp < w'.heap.size))))


set_option maxRecDepth 100000 in
set_option maxHeartbeats 1000000 in
theorem readSet_gp (s : ByteArray) (w : World) (hm : s.size ≤ 9223372036854775807) :
    Calls Tryz.prog 50 #[.string s] w (ReadOut2 s w) := by
  have hB0 := hide (below_new w (.cells #[.slice none 0 0, .slice none 0 0] 84))
  have hX0 := hide (blk_new w #[.slice none 0 0, .slice none 0 0] 84)
  go_enter Tryz.func50, Tryz.ntmps50
  by_cases hl : 400 < s.size
  · have hl' : (400 : Int) < s.size := by omega
    go_wp2_with fail
    refine (refuse_any 1 0 _ rfl _).mono ?_
    rintro e w' ⟨rfl, rfl⟩
    exact ⟨rfl, hB0.out, .inl ⟨hl, rfl⟩⟩
  · have hl' : ¬ (400 : Int) < s.size := by omega
    have hs4 : s.size ≤ 400 := by omega
    go_wp2_with fail
    refine (parseSet_any s _ hs4).mono ?_
    rintro e w1 ⟨hb1, hcase⟩
    have hB1 := hB0.out.trans (hb1.mono (by simp))
    have hX1 := blk_keep hX0.out hb1
    rcases hcase with ⟨j, hj, rfl⟩ | ⟨l, ps, tv, pv, hj, hz, rfl, ht, hp⟩
    · exact ⟨rfl, hB1, .inr (.inl ⟨hs4, j, hj, rfl⟩)⟩
    obtain ⟨b1, b2, b3, b4⟩ := pSet_bounds hj
    have hn1 : 1 ≤ l.length := by simpa using b2
    have hn6 : l.length ≤ 6 := by simpa using b3
    obtain ⟨g, cap, rfl, hg1, hg2⟩ := own_form ht (by omega)
    obtain ⟨pa, pc, rfl⟩ := own_slice hp
    have hcap := own_cap ht
    have hsm : Hid (∀ k, k < l.length → (lk l k).1.small) := by
      intro k hk
      rw [lk_fst]
      exact b1 _ (tsk_mem (by simpa using hk))
    have HR := hide (rowPT_own ht)
    have HP := hide (hpp_of hp)
    have Hgp : Hid (∀ gp, pa = some ⟨gp, 0, none⟩ → gp < w1.heap.size) := fun gp e => (hp.lt gp (by rw [e]; rfl)).2
    have hpne : Hid (pa ≠ some ⟨w.heap.size, 0, none⟩) := by
      intro e
      subst e
      exact own_ge hp (k := w.heap.size) (by simp) rfl
    have hgne : w.heap.size ≠ g := by simp at hg1; omega
    have HB := hide hB1
    have HX := hide hX1
    have hsz := hB1.size
    have hxl := blk_lt hX1
    have Hj := hide hj
    have Hz := hide hz
    clear hb1 hB1 hX1 ht hp hj hz b1 b2 b3
    have x0 := blk_cell HX.out
    have xf := blk_frozen HX.out
    have hY := hide (blk_new w1 #[.slice (some ⟨g, 0, none⟩) l.length cap, .slice pa ps.length pc] 84)
    go_wp2_with fail
    refine (check_any l ps g cap pa pc _ (by simp; omega) (HR.out.below (below_new w1 _) hg2) hcap hn6 hsm.out Hz.out b4 (by
      intro hn
      obtain ⟨gp, e1, e2, e3⟩ := HP.out hn
      exact ⟨gp, e1, by simp; omega, e3.below (below_new w1 _) e2⟩) _ rfl).mono ?_
    rintro e w2 ⟨hb2, hcase⟩
    have hB2 := (HB.out.alloc hsz _).trans (hb2.mono (by simp; omega))
    rcases hcase with ⟨f, hf, rfl⟩ | ⟨hf, rfl⟩
    · exact ⟨rfl, hB2, .inr (.inr ⟨hs4, l, ps, Hj.out, Hz.out, .inl ⟨f, hf, rfl⟩⟩)⟩
    have hX2 : w2.heap[w.heap.size]? = some (.cells #[.slice none 0 0, .slice none 0 0] 84 (0, 0)) := by
      refine blk_keep ?_ hb2
      rw [Below.heap_alloc _ _ _ hxl]
      exact HX.out
    have hY2 := blk_keep hY.out hb2
    have x2 := blk_cell hX2
    have f2 := blk_frozen hX2
    have y2 := blk_cell hY2
    have yl := blk_lt hY2
    have hbn := below_new w1 (.cells #[.slice (some ⟨g, 0, none⟩) l.length cap, .slice pa ps.length pc] 84)
    have hR2 := hide ((HR.out.below hbn hg2).below hb2 (by simp; omega))
    have hP2 : Hid (0 < ps.length → ∃ gp, pa = some ⟨gp, 0, none⟩ ∧ gp < w2.heap.size ∧ gp < w1.heap.size ∧ RowPP w2 gp ps) := by
      intro hn
      obtain ⟨gp, e1, e2, e3⟩ := HP.out hn
      exact ⟨gp, e1, by omega, e2, (e3.below hbn e2).below hb2 (by simp; omega)⟩
    have Hf := hide hf
    have HB2 := hide hB2
    have HX2 := hide hX2
    have hg3 : g < w2.heap.size := by omega
    clear hb2 hB2 hf hX2 hY2 hbn x0 xf HR HP
    go_wp2
    have hk : ∀ (k : Nat), w.heap.size ≠ k → ∀ u v, ((w2.setCell ⟨w.heap.size, 0, none⟩ u).setCell ⟨w.heap.size, 1, none⟩ v).heap[k]? = w2.heap[k]? := by
      intro k hne u v
      rw [Below.heap_setCell _ _ _ _ (fun e => hne e.symm), Below.heap_setCell _ _ _ _ (fun e => hne e.symm)]
    refine bodyPost_ret (v := .agg #[.slice (some ⟨g, 0, none⟩) l.length cap, .slice pa ps.length pc]) (by simp [results, Tryz.results50, go_sem, x2]) rfl ⟨?_, .inr (.inr ⟨hs4, l, ps, Hj.out, Hz.out, .inr ⟨Hf.out, g, cap, pa, pc, rfl, hcap, ?_, hR2.out.keep (hk g hgne _ _), ?_, fun gp e => by rw [heap_set_size, heap_set_size]; have := Hgp.out gp e; omega⟩⟩)⟩
    · exact (HB2.out.setCell (Nat.le_refl _) _).setCell (Nat.le_refl _) _
    · rw [heap_set_size, heap_set_size]; exact hg3
    · intro hn
      obtain ⟨gp, e1, e2, _, e4⟩ := hP2.out hn
      subst e1
      refine ⟨gp, rfl, by rw [heap_set_size, heap_set_size]; exact e2, e4.keep (hk gp ?_ _ _)⟩
      intro e
      exact hpne.out (by rw [e])


/-- A right set. -/
structure SetR (ts : List Tk) (ps : List Pr) : Prop where
  tok : TsOk ts (cycI ts)
  prs : ∀ p ∈ ps, ∃ i j, PairT ts p i j
  len : ps.length ≤ 6
  ltr : ∀ t ∈ ts, letterB (t.nm.toNat : Int) = true
  n1 : 1 ≤ ts.length
abbrev jsL (ts : List Tk) : List Jb := jobsL (cycI ts) 0 ts
abbrev wideL (ts : List Tk) (ps : List Pr) : Nat := wideJ (jsL ts) ps (cycI ts) (cycI ts)
abbrev tabL (ts : List Tk) (ps : List Pr) : Tb := tabJ (jsL ts) ps (cycI ts) (wideL ts ps)
theorem tab_right {ts : List Tk} {ps : List Pr} (h : SetR ts ps) (hw : 0 < wideL ts ps) : ChkOk (tabL ts ps) := by
  obtain ⟨w1, w2, w3, w4⟩ := wide_pos hw
  refine ⟨plan_sound (jobs_of h.tok) h.tok.c1 h.tok.c2 hw w2 w3, fun f hf s hs => ?_⟩
  unfold tabJ at hf
  obtain ⟨f0, hf0, rfl⟩ := List.mem_map.1 hf
  obtain ⟨x, hx, rfl⟩ := List.mem_map.1 hs
  obtain ⟨i, hi, e⟩ := List.getElem_of_mem hf0
  obtain ⟨a1, a2, a3⟩ := plan_ok (jsL ts) ps (wideL ts ps) (cycI ts / wideL ts ps) 0 (costJ (jsL ts))
  have hlt : x.1 < (jsL ts).length := by
    have h3 := sch_at a1 i hi
    rw [← e] at hx
    exact (h3.each x hx).1
  show letterB ((jk (jsL ts) x.1).ltr.toNat : Int) = true
  have hm : jk (jsL ts) x.1 ∈ jsL ts := by rw [jk_get hlt]; exact List.getElem_mem _
  obtain ⟨q, hq, n, _, e2⟩ := (jobsL_mem _ _ _ _).1 hm
  rw [e2]
  exact h.ltr _ (List.getElem_mem _)

/-- What Compile refuses, and with what; what it answers. -/
def compE (l : List UInt8) (f : Nat × Nat) : Prop := knownR l = .error f ∨ ∃ ts ps, knownR l = .ok (ts, ps) ∧ SetR ts ps ∧ wideL ts ps = 0 ∧ f = (whyJ (jsL ts) (cycI ts), 0)
def compR (l x : List UInt8) : Prop := ∃ ts ps, knownR l = .ok (ts, ps) ∧ SetR ts ps ∧ 0 < wideL ts ps ∧ x = packB (tabL ts ps)

set_option maxRecDepth 100000 in
set_option maxHeartbeats 1000000 in
theorem compile1_any (s : ByteArray) (b : Nat) (w : World) (hm : s.size ≤ 9223372036854775807) (hc : w.cell? ⟨b, 0, none⟩ = some (.string s)) :
    Calls Tryz.prog 49 #[.pointer (some ⟨b, 0, none⟩)] w (WorkOut (compE s.data.toList) (compR s.data.toList) w) := by
  go_enter Tryz.func49, Tryz.ntmps49
  go_wp2_with fail
  refine (readSet_gp s _ hm).mono ?_
  rintro e w1 ⟨hb1, hcase⟩
  have hsz : s.data.toList.length = s.size := by simp
  rcases hcase with ⟨h1, rfl⟩ | ⟨h1, j, h2, rfl⟩ | ⟨h1, l, ps, h2, h3, ⟨f, h4, rfl⟩ | ⟨h4, g, cap, pa, pc, rfl, h5, h6, h7, h8, h9⟩⟩
  · refine ⟨rfl, hb1, .inl ⟨(1, 0), .inl ?_, rfl⟩⟩
    unfold knownR
    rw [if_pos (by omega)]
  · refine ⟨rfl, hb1, .inl ⟨(2, (tk (allToks s.data.toList) j).at_), .inl ?_, rfl⟩⟩
    unfold knownR
    rw [if_neg (by omega), h2]
  · exact ⟨rfl, hb1, .inl ⟨f, .inl (knownR_some (by omega) h2 h4), rfl⟩⟩
  · obtain ⟨b1, b2, b3, b4⟩ := pSet_bounds h2
    have hn6 : l.length ≤ 6 := by simpa using b3
    obtain ⟨r1, r2, r3⟩ := check_right h4 hn6 b4
    have HK := hide (knownR_none (by omega) h2 h4)
    have HSR : Hid (SetR (l.map Prod.fst) ps) := ⟨r1, r3, b4, pSet_name h2, b2⟩
    have hSA : SetAt l (cycI (l.map Prod.fst)) g pa ps w1 := ⟨h6, h7, hn6, r1, rfl, r2, h8, h9⟩
    have CP := hide (compile_any l (cycI (l.map Prod.fst)) g cap pa pc ps w1 hSA)
    have HB := hide hb1
    clear hSA h2 h3 h4 hb1 b1 b2 b3 b4 h5 h6 h7 h8 h9 r1 r2 r3 hn6
    go_wp2_with fail
    refine CP.out.mono ?_
    rintro e w2 ⟨hb2, hcase⟩
    have HB2 := hide (HB.out.trans (hb2.mono HB.out.size))
    clear hb2 CP
    rcases hcase with ⟨h0, rfl⟩ | ⟨h0, Pf, a, c, rfl, hF, hfs⟩
    · exact ⟨rfl, HB2.out, .inl ⟨_, .inr ⟨_, ps, HK.out, HSR.out, h0, rfl⟩, rfl⟩⟩
    · have hch := tab_right HSR.out h0
      have hpk := pack_any (tabL (l.map Prod.fst) ps) a c w2 (by have := fvA_own hF; rw [hfs] at this; exact this) hch.1
      have hPf : (tabL (l.map Prod.fst) ps).fs.length = Pf.length := by rw [← hfs]; simp
      rw [hPf] at hpk
      have Hpk := hide hpk
      have hR : Hid (compR s.data.toList (packB (tabL (l.map Prod.fst) ps))) := ⟨_, ps, HK.out, HSR.out, h0, rfl⟩
      clear hpk hch hPf hF hfs
      go_wp2_with fail
      refine Hpk.out.mono ?_
      rintro e w3 ⟨rfl, hb3⟩
      have HB3 := hide (HB2.out.trans (hb3.mono HB2.out.size))
      have hpb : Hid (bs (bodyB (tabL (l.map Prod.fst) ps) ++ sumL (bodyB (tabL (l.map Prod.fst) ps))) = bs (packB (tabL (l.map Prod.fst) ps))) := rfl
      generalize bs (bodyB (tabL (l.map Prod.fst) ps) ++ sumL (bodyB (tabL (l.map Prod.fst) ps))) = RR at *
      clear hb3 Hpk
      go_wp2
      go_ret
      exact ⟨HB3.out, .inr ⟨_, hR.out, by rw [← hpb.out]; rfl⟩⟩

set_option maxRecDepth 100000 in
set_option maxHeartbeats 1000000 in
theorem guard_compile (own : Nat) (ev : Int) (hev : ev = own) (b : Nat) (w : World) (E : Nat × Nat → Prop) (R : List UInt8 → Prop)
    (hw : ∀ W, Below w.heap.size w W → Calls Tryz.prog 49 #[.pointer (some ⟨b, 0, none⟩)] W (WorkOut E R W)) :
    Calls Tryz.prog 30 #[.int .i64 ev, .func (.func 49) #[] #[.pointer (some ⟨b, 0, none⟩)]] w (GOutG E R w) := by
  subst hev
  have hmf : ∀ (fn : Fn) (first cap : Array Value) (w : World), (Instr.makeFunc fn first cap).run Tryz.prog w = .ok (.func fn first cap) w := fun _ _ _ _ => rfl
  have HN := hide (G3.new w own)
  have HO := hide (own_new w own)
  have HB0 := hide (below_four w (.cells #[.int .i64 own] 28) (.cells #[.string ⟨#[]⟩] 9) (.cells #[.int .i64 0] 28) (.cells #[.int .i64 0] 3))
  have Hw := hide hw
  clear hw
  go_enter_defers Tryz.func30, Tryz.ntmps30
  go_wp2_with fail
  generalize (((w.alloc (.cells #[.int .i64 own] 28)).alloc (.cells #[.string ⟨#[]⟩] 9)).alloc (.cells #[.int .i64 0] 28)).alloc (.cells #[.int .i64 0] 3) = W at *
  refine (Hw.out W HB0.out).mono ?_
  rintro e w1 ⟨hb1, hcase⟩
  have HG1 := hide (HN.out.keep hb1)
  have HO1 := hide (blk_kept HO.out hb1)
  have HB1 := hide (HB0.out.trans (hb1.mono HB0.out.size))
  clear hb1
  rcases hcase with ⟨f, hf, rfl⟩ | ⟨x, hR, rfl⟩
  · refine leaves_cons (f := 63) (args := #[.pointer (some ⟨w.heap.size, 0, none⟩), .pointer (some ⟨w.heap.size + 1, 0, none⟩), .pointer (some ⟨w.heap.size + 1 + 1, 0, none⟩), .pointer (some ⟨w.heap.size + 1 + 2, 0, none⟩)]) (by simp) (by simp [go_sem]) ?_
    refine (catch_panicking w.heap.size own (w.heap.size + 1) f.1 f.2 w1 (by rw [blk_cell HO1.out]; rfl) HG1.out).mono ?_
    rintro e u' w'' ⟨rfl, rfl, hG, hB⟩
    have c0 := blk_cell hG.h0
    have c1 := blk_cell hG.h1
    have c2 := blk_cell hG.h2
    simp [Leaves, settle, results, Tryz.results30, go_sem, c0, c1, c2]
    exact ⟨HB1.out.trans (hB.mono (Nat.le_succ _)), .inl ⟨f, hf, rfl⟩⟩
  · have a0 := blk_cell HG1.out.h0
    have a1 := blk_cell HG1.out.h1
    have a2 := blk_cell HG1.out.h2
    have f0 := blk_frozen HG1.out.h0
    have f1 := blk_frozen HG1.out.h1
    have f2 := blk_frozen HG1.out.h2
    have HR := hide hR
    clear hR
    go_wp2
    refine leaves_cons (f := 63) (args := #[.pointer (some ⟨w.heap.size, 0, none⟩), .pointer (some ⟨w.heap.size + 1, 0, none⟩), .pointer (some ⟨w.heap.size + 1 + 1, 0, none⟩), .pointer (some ⟨w.heap.size + 1 + 2, 0, none⟩)]) (by simp) (by simp [go_sem]) ?_
    refine (catch_idle _ _ _ _ _).mono ?_
    rintro e u' w'' ⟨rfl, rfl, rfl⟩
    have hG : G3 (((w1.setCell ⟨w.heap.size + 1, 0, none⟩ (.string (bs x))).setCell ⟨w.heap.size + 1 + 1, 0, none⟩ (.int .i64 0)).setCell ⟨w.heap.size + 1 + 2, 0, none⟩ (.int .i64 0)) (w.heap.size + 1) (bs x) 0 0 := HG1.out.set (bs x) 0 0
    have HB := ((HB1.out.setCell (p := ⟨w.heap.size + 1, 0, none⟩) (Nat.le_add_right _ _) (.string (bs x))).setCell (p := ⟨w.heap.size + 1 + 1, 0, none⟩) (Nat.le_trans (Nat.le_succ _) (Nat.le_succ _)) (.int .i64 0)).setCell (p := ⟨w.heap.size + 1 + 2, 0, none⟩) (Nat.le_trans (Nat.le_succ _) (Nat.le_add_right _ _)) (.int .i64 0)
    generalize ((w1.setCell ⟨w.heap.size + 1, 0, none⟩ (.string (bs x))).setCell ⟨w.heap.size + 1 + 1, 0, none⟩ (.int .i64 0)).setCell ⟨w.heap.size + 1 + 2, 0, none⟩ (.int .i64 0) = w2 at *
    have c0 := blk_cell hG.h0
    have c1 := blk_cell hG.h1
    have c2 := blk_cell hG.h2
    simp [Leaves, settle, results, Tryz.results30, go_sem, c0, c1, c2]
    exact ⟨HB, .inr ⟨x, HR.out, rfl⟩⟩

set_option maxRecDepth 100000 in
set_option maxHeartbeats 1000000 in
theorem compile_out (s : ByteArray) (w : World) (hm : s.size ≤ 9223372036854775807) :
    Calls Tryz.prog 26 #[.string s] w (GOutG (compE s.data.toList) (compR s.data.toList) w) := by
  have hmf : ∀ (fn : Fn) (first cap : Array Value) (w : World), (Instr.makeFunc fn first cap).run Tryz.prog w = .ok (.func fn first cap) w := fun _ _ _ _ => rfl
  have hX := blk_cell (blk_new w #[.string s] 9) 0
  have HB0 := hide (below_new w (.cells #[.string s] 9))
  go_enter Tryz.func26, Tryz.ntmps26
  go_wp2_with fail
  refine (guard_compile 2 _ rfl w.heap.size _ (compE s.data.toList) (compR s.data.toList) (fun W hW => compile1_any s w.heap.size W hm ((hW.cell (p := ⟨w.heap.size, 0, none⟩) (by simp)).trans hX))).mono ?_
  rintro e w1 ⟨hb1, hcase⟩
  have HB := hide (HB0.out.trans (hb1.mono (by simp)))
  clear hb1 hX
  rcases hcase with ⟨f, hf, rfl⟩ | ⟨R, hR, rfl⟩
  · have Hf := hide hf
    clear hf
    go_wp2
    go_ret3
    exact ⟨HB.out, .inl ⟨f, Hf.out, rfl⟩⟩
  · have HR := hide hR
    clear hR
    go_wp2
    go_ret3
    exact ⟨HB.out, .inr ⟨R, HR.out, rfl⟩⟩
end Go.Proofs.YtbdffcjganlblaaGreatDoor

namespace Go.Proofs.YtbdffcjganlblaaGreatDoor
set_option linter.unusedVariables false
set_option linter.unusedSimpArgs false

/-- The job of a task by its number. -/
theorem job_of {cyc : Nat} {ts : List Tk} {i a : Nat} (hi : i < ts.length) (ha : a < cyc / (tsk ts i).P) : ∃ k, k < (jobsL cyc 0 ts).length ∧ (jk (jobsL cyc 0 ts) k).ltr = (tsk ts i).nm ∧ (jk (jobsL cyc 0 ts) k).num = a := by
  have hg : tsk ts i = ts[i] := by simp [tsk, List.getD_eq_getElem?_getD, hi]
  have hm : jobA (0 + i) ts[i] a ∈ jobsL cyc 0 ts := (jobsL_mem cyc ts 0 _).2 ⟨i, hi, a, by rw [← hg]; exact ha, rfl⟩
  obtain ⟨k, hk, e⟩ := List.getElem_of_mem hm
  refine ⟨k, hk, ?_, ?_⟩ <;> rw [jk_get hk, e]
  · rw [hg]; rfl
  · rfl

section
variable {ts : List Tk} {ps : List Pr} {cyc F : Nat} {P : List (Nat × Nat)} {L : List FSl}
end
end Go.Proofs.YtbdffcjganlblaaGreatDoor

namespace Go.Proofs.YtbdffcjganlblaaGreatDoor
open Go.RowKit
set_option linter.unusedVariables false
set_option linter.unusedSimpArgs false

abbrev flL (ts : List Tk) (ps : List Pr) : List FSl := flatF 0 (tabL ts ps).fs
theorem set_jobs {ts : List Tk} {ps : List Pr} (h : SetR ts ps) : 0 < (jsL ts).length := by
  have h0 : 0 < ts.length := h.n1
  have h1 := h.tok.each _ (tsk_mem h0)
  have h2 : (tsk ts 0).P ≤ cycI ts := Nat.le_of_dvd h.tok.c1 (Nat.dvd_of_mod_eq_zero h1.2.1)
  obtain ⟨k, hk, _⟩ := job_of (cyc := cycI ts) (a := 0) h0 (Nat.div_pos h2 h1.1)
  exact Nat.lt_of_le_of_lt (Nat.zero_le _) hk
theorem set_flat {ts : List Tk} {ps : List Pr} (h : SetR ts ps) (hw : 0 < wideL ts ps) : Flat (jsL ts) ps (wideL ts ps) (runJ (jsL ts) ps (cycI ts) (wideL ts ps)).1.flatten (flL ts ps) := flat_plan (wide_pos hw).2.2.1
theorem known_err {l : List UInt8} {f : Nat × Nat} (h : knownR l = .error f) : f.1 ≠ 0 := by
  unfold knownR at h
  split at h
  · cases h; decide
  · split at h
    · cases h; exact Nat.succ_ne_zero 1
    · split at h
      · rename_i h0
        cases h
        exact h0
      · split at h
        · cases h; decide
        · cases h
theorem comp_err {l : List UInt8} {f : Nat × Nat} (h : compE l f) : f.1 ≠ 0 := by
  rcases h with h | ⟨ts, ps, _, _, _, rfl⟩
  · exact known_err h
  · show whyJ _ _ ≠ 0
    unfold whyJ
    split <;> decide

end Go.Proofs.YtbdffcjganlblaaGreatDoor
