/-
  Own work. The program: Compile.
-/
import Derived.Test.YtbdffcjganlblaaGreatDoorPnLtoEqvA
import Derived.Test.YtbdffcjganlblaaGreatDoorEqvBtoLawC
import Derived.Test.YtbdffcjganlblaaGreatDoorEdAtoEdE
import Derived.Test.YtbdffcjganlblaaGreatDoorRows
import Derived.WalkKit
import Derived.WalkLawsBesides
import Derived.WalkSpells
import Derived.Maps.Keyed
import Derived.Maps.OwnOps
import Derived.DeepKeys4
import Derived.Test.YtbdffcjganlblaaGreatDoorRefXtoRefX
namespace Go.Proofs.YtbdffcjganlblaaGreatDoor
open Go.RowKit
set_option linter.unusedVariables false
set_option linter.unusedSimpArgs false

theorem pTask_name {l : List UInt8} {i : Nat} {t : Tk} {k : Nat} (h : pTask (allToks l) i = .ok (t, k)) : letterB (t.nm.toNat : Int) = true := by
  have hr : ∀ {nm : UInt8} {P O q0 q1 q2 j : Nat}, pRest (allToks l) nm P O q0 q1 q2 j = .ok (t, k) → t.nm = nm := fun h => by
    unfold pRest at h
    repeat (split at h; rotate_left; simp at h)
    injection h with h
    injection h with h1 h2
    rw [← h1]
  unfold pTask at h
  split at h
  · rename_i hn
    have hl := name_letter hn
    split at h
    · split at h
      · split at h
        · split at h
          · rw [hr h]; exact hl
          · simp at h
        · rw [hr h]; exact hl
      · simp at h
    · simp at h
  · simp at h
theorem pTasks_name {l : List UInt8} : ∀ (f i : Nat) (ts : List Tk) (k : Nat), pTasks f (allToks l) i = .ok (ts, k) → ∀ t ∈ ts, letterB (t.nm.toNat : Int) = true
  | 0, i, ts, k, h => by simp [pTasks] at h
  | f + 1, i, ts, k, h => by
    rw [pTasks] at h
    cases ht : pTask (allToks l) i with
    | error e => rw [ht] at h; simp at h
    | ok x =>
      obtain ⟨t, j⟩ := x
      rw [ht] at h
      simp only at h
      split at h
      · cases hr : pTasks f (allToks l) (j + 1) with
        | error e => rw [hr] at h; simp at h
        | ok y =>
          obtain ⟨ts', k'⟩ := y
          rw [hr] at h
          simp at h
          obtain ⟨rfl, rfl⟩ := h
          intro t' ht'
          rcases List.mem_cons.1 ht' with rfl | h'
          · exact pTask_name ht
          · exact pTasks_name f (j + 1) ts' k' hr t' h'
      · simp at h
        obtain ⟨rfl, rfl⟩ := h
        intro t' ht'
        simp at ht'
        rw [ht']
        exact pTask_name ht
theorem pSet_name {l : List UInt8} {ts : List Tk} {ps : List Pr} (h : pSet (allToks l) = .ok (ts, ps)) : ∀ t ∈ ts, letterB (t.nm.toNat : Int) = true := by
  unfold pSet at h
  cases h1 : pFirst (allToks l) with
  | error e => rw [h1] at h; simp at h
  | ok x =>
    obtain ⟨ts', j⟩ := x
    rw [h1] at h
    simp only at h
    cases h2 : pPairs 6 (allToks l) j with
    | error e => rw [h2] at h; simp at h
    | ok y =>
      obtain ⟨ps', k⟩ := y
      rw [h2] at h
      simp only at h
      split at h
      · simp at h
        obtain ⟨rfl, rfl⟩ := h
        unfold pFirst at h1
        split at h1
        · exact pTasks_name _ _ _ _ h1
        · simp at h1
      · simp at h

/-- What readSet answers: the pairs' row lies below. -/
def ReadOut2 (s : ByteArray) (w : World) (en : Ending) (w' : World) : Prop :=
  Below w.heap.size w w' ∧
  ((400 < s.size ∧ en = pan 1 0) ∨
   (s.size ≤ 400 ∧ ∃ j, pSet (allToks s.data.toList) = .error j ∧ en = pan 2 (tk (allToks s.data.toList) j).at_) ∨
   (s.size ≤ 400 ∧ ∃ l ps, pSet (allToks s.data.toList) = .ok (l.map Prod.fst, ps) ∧ ZOk l ∧
     ((∃ f, checkR l ps = some f ∧ en = pan f.1 f.2) ∨
      (checkR l ps = none ∧ ∃ g cap pa pc, en = .returned (.agg #[.slice (some ⟨g, 0, none⟩) l.length cap, .slice pa ps.length pc]) ∧ l.length ≤ cap ∧ g < w'.heap.size ∧ RowPT w' g l ∧ (0 < ps.length → ∃ gp, pa = some ⟨gp, 0, none⟩ ∧ gp < w'.heap.size ∧ RowPP w' gp ps) ∧ ∀ gp, pa = some ⟨gp, 0, none⟩ → gp < w'.heap.size))))


set_option maxRecDepth 100000 in
set_option maxHeartbeats 1000000 in
theorem readSet_gp (s : ByteArray) (w : World) (hm : s.size ≤ 9223372036854775807) :
    Calls Tryz.prog 50 #[.string s] w (ReadOut2 s w) := by
  have hB0 := hide (below_new w (.cells #[.slice none 0 0, .slice none 0 0] 84))
  have hX0 := hide (blk_new w #[.slice none 0 0, .slice none 0 0] 84)
  go_enter Tryz.func50, Tryz.ntmps50
  by_cases hl : 400 < s.size
  · have hl' : (400 : Int) < s.size := by omega
    go_wp2_with fail
    refine (refuse_any 1 0 _ rfl _).mono ?_
    rintro e w' ⟨rfl, rfl⟩
    exact ⟨rfl, hB0.out, .inl ⟨hl, rfl⟩⟩
  · have hl' : ¬ (400 : Int) < s.size := by omega
    have hs4 : s.size ≤ 400 := by omega
    go_wp2_with fail
    refine (parseSet_any s _ hs4).mono ?_
    rintro e w1 ⟨hb1, hcase⟩
    have hB1 := hB0.out.trans (hb1.mono (by simp))
    have hX1 := blk_keep hX0.out hb1
    rcases hcase with ⟨j, hj, rfl⟩ | ⟨l, ps, tv, pv, hj, hz, rfl, ht, hp⟩
    · exact ⟨rfl, hB1, .inr (.inl ⟨hs4, j, hj, rfl⟩)⟩
    obtain ⟨b1, b2, b3, b4⟩ := pSet_bounds hj
    have hn1 : 1 ≤ l.length := by simpa using b2
    have hn6 : l.length ≤ 6 := by simpa using b3
    obtain ⟨g, cap, rfl, hg1, hg2⟩ := own_form ht (by omega)
    obtain ⟨pa, pc, rfl⟩ := own_slice hp
    have hcap := own_cap ht
    have hsm : Hid (∀ k, k < l.length → (lk l k).1.small) := by
      intro k hk
      rw [lk_fst]
      exact b1 _ (tsk_mem (by simpa using hk))
    have HR := hide (rowPT_own ht)
    have HP := hide (hpp_of hp)
    have Hgp : Hid (∀ gp, pa = some ⟨gp, 0, none⟩ → gp < w1.heap.size) := fun gp e => (hp.lt gp (by rw [e]; rfl)).2
    have hpne : Hid (pa ≠ some ⟨w.heap.size, 0, none⟩) := by
      intro e
      subst e
      exact own_ge hp (k := w.heap.size) (by simp) rfl
    have hgne : w.heap.size ≠ g := by simp at hg1; omega
    have HB := hide hB1
    have HX := hide hX1
    have hsz := hB1.size
    have hxl := blk_lt hX1
    have Hj := hide hj
    have Hz := hide hz
    clear hb1 hB1 hX1 ht hp hj hz b1 b2 b3
    have x0 := blk_cell HX.out
    have xf := blk_frozen HX.out
    have hY := hide (blk_new w1 #[.slice (some ⟨g, 0, none⟩) l.length cap, .slice pa ps.length pc] 84)
    go_wp2_with fail
    refine (check_any l ps g cap pa pc _ (by simp; omega) (HR.out.below (below_new w1 _) hg2) hcap hn6 hsm.out Hz.out b4 (by
      intro hn
      obtain ⟨gp, e1, e2, e3⟩ := HP.out hn
      exact ⟨gp, e1, by simp; omega, e3.below (below_new w1 _) e2⟩) _ rfl).mono ?_
    rintro e w2 ⟨hb2, hcase⟩
    have hB2 := (HB.out.alloc hsz _).trans (hb2.mono (by simp; omega))
    rcases hcase with ⟨f, hf, rfl⟩ | ⟨hf, rfl⟩
    · exact ⟨rfl, hB2, .inr (.inr ⟨hs4, l, ps, Hj.out, Hz.out, .inl ⟨f, hf, rfl⟩⟩)⟩
    have hX2 : w2.heap[w.heap.size]? = some (.cells #[.slice none 0 0, .slice none 0 0] 84 (0, 0)) := by
      refine blk_keep ?_ hb2
      rw [Below.heap_alloc _ _ _ hxl]
      exact HX.out
    have hY2 := blk_keep hY.out hb2
    have x2 := blk_cell hX2
    have f2 := blk_frozen hX2
    have y2 := blk_cell hY2
    have yl := blk_lt hY2
    have hbn := below_new w1 (.cells #[.slice (some ⟨g, 0, none⟩) l.length cap, .slice pa ps.length pc] 84)
    have hR2 := hide ((HR.out.below hbn hg2).below hb2 (by simp; omega))
    have hP2 : Hid (0 < ps.length → ∃ gp, pa = some ⟨gp, 0, none⟩ ∧ gp < w2.heap.size ∧ gp < w1.heap.size ∧ RowPP w2 gp ps) := by
      intro hn
      obtain ⟨gp, e1, e2, e3⟩ := HP.out hn
      exact ⟨gp, e1, by omega, e2, (e3.below hbn e2).below hb2 (by simp; omega)⟩
    have Hf := hide hf
    have HB2 := hide hB2
    have HX2 := hide hX2
    have hg3 : g < w2.heap.size := by omega
    clear hb2 hB2 hf hX2 hY2 hbn x0 xf HR HP
    go_wp2
    have hk : ∀ (k : Nat), w.heap.size ≠ k → ∀ u v, ((w2.setCell ⟨w.heap.size, 0, none⟩ u).setCell ⟨w.heap.size, 1, none⟩ v).heap[k]? = w2.heap[k]? := by
      intro k hne u v
      rw [Below.heap_setCell _ _ _ _ (fun e => hne e.symm), Below.heap_setCell _ _ _ _ (fun e => hne e.symm)]
    refine bodyPost_ret (v := .agg #[.slice (some ⟨g, 0, none⟩) l.length cap, .slice pa ps.length pc]) (by simp [results, Tryz.results50, go_sem, x2]) rfl ⟨?_, .inr (.inr ⟨hs4, l, ps, Hj.out, Hz.out, .inr ⟨Hf.out, g, cap, pa, pc, rfl, hcap, ?_, hR2.out.keep (hk g hgne _ _), ?_, fun gp e => by rw [heap_set_size, heap_set_size]; have := Hgp.out gp e; omega⟩⟩)⟩
    · exact (HB2.out.setCell (Nat.le_refl _) _).setCell (Nat.le_refl _) _
    · rw [heap_set_size, heap_set_size]; exact hg3
    · intro hn
      obtain ⟨gp, e1, e2, _, e4⟩ := hP2.out hn
      subst e1
      refine ⟨gp, rfl, by rw [heap_set_size, heap_set_size]; exact e2, e4.keep (hk gp ?_ _ _)⟩
      intro e
      exact hpne.out (by rw [e])


/-- A right set. -/
structure SetR (ts : List Tk) (ps : List Pr) : Prop where
  tok : TsOk ts (cycI ts)
  prs : ∀ p ∈ ps, ∃ i j, PairT ts p i j
  len : ps.length ≤ 6
  ltr : ∀ t ∈ ts, letterB (t.nm.toNat : Int) = true
  n1 : 1 ≤ ts.length
abbrev jsL (ts : List Tk) : List Jb := jobsL (cycI ts) 0 ts
abbrev wideL (ts : List Tk) (ps : List Pr) : Nat := wideJ (jsL ts) ps (cycI ts) (cycI ts)
abbrev tabL (ts : List Tk) (ps : List Pr) : Tb := tabJ (jsL ts) ps (cycI ts) (wideL ts ps)
theorem tab_right {ts : List Tk} {ps : List Pr} (h : SetR ts ps) (hw : 0 < wideL ts ps) : ChkOk (tabL ts ps) := by
  obtain ⟨w1, w2, w3, w4⟩ := wide_pos hw
  refine ⟨plan_sound (jobs_of h.tok) h.tok.c1 h.tok.c2 hw w2 w3, fun f hf s hs => ?_⟩
  unfold tabJ at hf
  obtain ⟨f0, hf0, rfl⟩ := List.mem_map.1 hf
  obtain ⟨x, hx, rfl⟩ := List.mem_map.1 hs
  obtain ⟨i, hi, e⟩ := List.getElem_of_mem hf0
  obtain ⟨a1, a2, a3⟩ := plan_ok (jsL ts) ps (wideL ts ps) (cycI ts / wideL ts ps) 0 (costJ (jsL ts))
  have hlt : x.1 < (jsL ts).length := by
    have h3 := sch_at a1 i hi
    rw [← e] at hx
    exact (h3.each x hx).1
  show letterB ((jk (jsL ts) x.1).ltr.toNat : Int) = true
  have hm : jk (jsL ts) x.1 ∈ jsL ts := by rw [jk_get hlt]; exact List.getElem_mem _
  obtain ⟨q, hq, n, _, e2⟩ := (jobsL_mem _ _ _ _).1 hm
  rw [e2]
  exact h.ltr _ (List.getElem_mem _)

/-- What Compile refuses, and with what; what it answers. -/
def compE (l : List UInt8) (f : Nat × Nat) : Prop := knownR l = .error f ∨ ∃ ts ps, knownR l = .ok (ts, ps) ∧ SetR ts ps ∧ wideL ts ps = 0 ∧ f = (whyJ (jsL ts) (cycI ts), 0)
def compR (l x : List UInt8) : Prop := ∃ ts ps, knownR l = .ok (ts, ps) ∧ SetR ts ps ∧ 0 < wideL ts ps ∧ x = packB (tabL ts ps)

set_option maxRecDepth 100000 in
set_option maxHeartbeats 1000000 in
theorem compile1_any (s : ByteArray) (b : Nat) (w : World) (hm : s.size ≤ 9223372036854775807) (hc : w.cell? ⟨b, 0, none⟩ = some (.string s)) :
    Calls Tryz.prog 49 #[.pointer (some ⟨b, 0, none⟩)] w (WorkOut (compE s.data.toList) (compR s.data.toList) w) := by
  go_enter Tryz.func49, Tryz.ntmps49
  go_wp2_with fail
  refine (readSet_gp s _ hm).mono ?_
  rintro e w1 ⟨hb1, hcase⟩
  have hsz : s.data.toList.length = s.size := by simp
  rcases hcase with ⟨h1, rfl⟩ | ⟨h1, j, h2, rfl⟩ | ⟨h1, l, ps, h2, h3, ⟨f, h4, rfl⟩ | ⟨h4, g, cap, pa, pc, rfl, h5, h6, h7, h8, h9⟩⟩
  · refine ⟨rfl, hb1, .inl ⟨(1, 0), .inl ?_, rfl⟩⟩
    unfold knownR
    rw [if_pos (by omega)]
  · refine ⟨rfl, hb1, .inl ⟨(2, (tk (allToks s.data.toList) j).at_), .inl ?_, rfl⟩⟩
    unfold knownR
    rw [if_neg (by omega), h2]
  · exact ⟨rfl, hb1, .inl ⟨f, .inl (knownR_some (by omega) h2 h4), rfl⟩⟩
  · obtain ⟨b1, b2, b3, b4⟩ := pSet_bounds h2
    have hn6 : l.length ≤ 6 := by simpa using b3
    obtain ⟨r1, r2, r3⟩ := check_right h4 hn6 b4
    have HK := hide (knownR_none (by omega) h2 h4)
    have HSR : Hid (SetR (l.map Prod.fst) ps) := ⟨r1, r3, b4, pSet_name h2, b2⟩
    have hSA : SetAt l (cycI (l.map Prod.fst)) g pa ps w1 := ⟨h6, h7, hn6, r1, rfl, r2, h8, h9⟩
    have CP := hide (compile_any l (cycI (l.map Prod.fst)) g cap pa pc ps w1 hSA)
    have HB := hide hb1
    clear hSA h2 h3 h4 hb1 b1 b2 b3 b4 h5 h6 h7 h8 h9 r1 r2 r3 hn6
    go_wp2_with fail
    refine CP.out.mono ?_
    rintro e w2 ⟨hb2, hcase⟩
    have HB2 := hide (HB.out.trans (hb2.mono HB.out.size))
    clear hb2 CP
    rcases hcase with ⟨h0, rfl⟩ | ⟨h0, Pf, a, c, rfl, hF, hfs⟩
    · exact ⟨rfl, HB2.out, .inl ⟨_, .inr ⟨_, ps, HK.out, HSR.out, h0, rfl⟩, rfl⟩⟩
    · have hch := tab_right HSR.out h0
      have hpk := pack_any (tabL (l.map Prod.fst) ps) a c w2 (by have := fvA_own hF; rw [hfs] at this; exact this) hch.1
      have hPf : (tabL (l.map Prod.fst) ps).fs.length = Pf.length := by rw [← hfs]; simp
      rw [hPf] at hpk
      have Hpk := hide hpk
      have hR : Hid (compR s.data.toList (packB (tabL (l.map Prod.fst) ps))) := ⟨_, ps, HK.out, HSR.out, h0, rfl⟩
      clear hpk hch hPf hF hfs
      go_wp2_with fail
      refine Hpk.out.mono ?_
      rintro e w3 ⟨rfl, hb3⟩
      have HB3 := hide (HB2.out.trans (hb3.mono HB2.out.size))
      have hpb : Hid (bs (bodyB (tabL (l.map Prod.fst) ps) ++ sumL (bodyB (tabL (l.map Prod.fst) ps))) = bs (packB (tabL (l.map Prod.fst) ps))) := rfl
      generalize bs (bodyB (tabL (l.map Prod.fst) ps) ++ sumL (bodyB (tabL (l.map Prod.fst) ps))) = RR at *
      clear hb3 Hpk
      go_wp2
      go_ret
      exact ⟨HB3.out, .inr ⟨_, hR.out, by rw [← hpb.out]; rfl⟩⟩

set_option maxRecDepth 100000 in
set_option maxHeartbeats 1000000 in
theorem guard_compile (own : Nat) (ev : Int) (hev : ev = own) (b : Nat) (w : World) (E : Nat × Nat → Prop) (R : List UInt8 → Prop)
    (hw : ∀ W, Below w.heap.size w W → Calls Tryz.prog 49 #[.pointer (some ⟨b, 0, none⟩)] W (WorkOut E R W)) :
    Calls Tryz.prog 30 #[.int .i64 ev, .func (.func 49) #[] #[.pointer (some ⟨b, 0, none⟩)]] w (GOutG E R w) := by
  subst hev
  have hmf : ∀ (fn : Fn) (first cap : Array Value) (w : World), (Instr.makeFunc fn first cap).run Tryz.prog w = .ok (.func fn first cap) w := fun _ _ _ _ => rfl
  have HN := hide (G3.new w own)
  have HO := hide (own_new w own)
  have HB0 := hide (below_four w (.cells #[.int .i64 own] 28) (.cells #[.string ⟨#[]⟩] 9) (.cells #[.int .i64 0] 28) (.cells #[.int .i64 0] 3))
  have Hw := hide hw
  clear hw
  go_enter_defers Tryz.func30, Tryz.ntmps30
  go_wp2_with fail
  generalize (((w.alloc (.cells #[.int .i64 own] 28)).alloc (.cells #[.string ⟨#[]⟩] 9)).alloc (.cells #[.int .i64 0] 28)).alloc (.cells #[.int .i64 0] 3) = W at *
  refine (Hw.out W HB0.out).mono ?_
  rintro e w1 ⟨hb1, hcase⟩
  have HG1 := hide (HN.out.keep hb1)
  have HO1 := hide (blk_kept HO.out hb1)
  have HB1 := hide (HB0.out.trans (hb1.mono HB0.out.size))
  clear hb1
  rcases hcase with ⟨f, hf, rfl⟩ | ⟨x, hR, rfl⟩
  · refine leaves_cons (f := 63) (args := #[.pointer (some ⟨w.heap.size, 0, none⟩), .pointer (some ⟨w.heap.size + 1, 0, none⟩), .pointer (some ⟨w.heap.size + 1 + 1, 0, none⟩), .pointer (some ⟨w.heap.size + 1 + 2, 0, none⟩)]) (by simp) (by simp [go_sem]) ?_
    refine (catch_panicking w.heap.size own (w.heap.size + 1) f.1 f.2 w1 (by rw [blk_cell HO1.out]; rfl) HG1.out).mono ?_
    rintro e u' w'' ⟨rfl, rfl, hG, hB⟩
    have c0 := blk_cell hG.h0
    have c1 := blk_cell hG.h1
    have c2 := blk_cell hG.h2
    simp [Leaves, settle, results, Tryz.results30, go_sem, c0, c1, c2]
    exact ⟨HB1.out.trans (hB.mono (Nat.le_succ _)), .inl ⟨f, hf, rfl⟩⟩
  · have a0 := blk_cell HG1.out.h0
    have a1 := blk_cell HG1.out.h1
    have a2 := blk_cell HG1.out.h2
    have f0 := blk_frozen HG1.out.h0
    have f1 := blk_frozen HG1.out.h1
    have f2 := blk_frozen HG1.out.h2
    have HR := hide hR
    clear hR
    go_wp2
    refine leaves_cons (f := 63) (args := #[.pointer (some ⟨w.heap.size, 0, none⟩), .pointer (some ⟨w.heap.size + 1, 0, none⟩), .pointer (some ⟨w.heap.size + 1 + 1, 0, none⟩), .pointer (some ⟨w.heap.size + 1 + 2, 0, none⟩)]) (by simp) (by simp [go_sem]) ?_
    refine (catch_idle _ _ _ _ _).mono ?_
    rintro e u' w'' ⟨rfl, rfl, rfl⟩
    have hG : G3 (((w1.setCell ⟨w.heap.size + 1, 0, none⟩ (.string (bs x))).setCell ⟨w.heap.size + 1 + 1, 0, none⟩ (.int .i64 0)).setCell ⟨w.heap.size + 1 + 2, 0, none⟩ (.int .i64 0)) (w.heap.size + 1) (bs x) 0 0 := HG1.out.set (bs x) 0 0
    have HB := ((HB1.out.setCell (p := ⟨w.heap.size + 1, 0, none⟩) (Nat.le_add_right _ _) (.string (bs x))).setCell (p := ⟨w.heap.size + 1 + 1, 0, none⟩) (Nat.le_trans (Nat.le_succ _) (Nat.le_succ _)) (.int .i64 0)).setCell (p := ⟨w.heap.size + 1 + 2, 0, none⟩) (Nat.le_trans (Nat.le_succ _) (Nat.le_add_right _ _)) (.int .i64 0)
    generalize ((w1.setCell ⟨w.heap.size + 1, 0, none⟩ (.string (bs x))).setCell ⟨w.heap.size + 1 + 1, 0, none⟩ (.int .i64 0)).setCell ⟨w.heap.size + 1 + 2, 0, none⟩ (.int .i64 0) = w2 at *
    have c0 := blk_cell hG.h0
    have c1 := blk_cell hG.h1
    have c2 := blk_cell hG.h2
    simp [Leaves, settle, results, Tryz.results30, go_sem, c0, c1, c2]
    exact ⟨HB, .inr ⟨x, HR.out, rfl⟩⟩

set_option maxRecDepth 100000 in
set_option maxHeartbeats 1000000 in
theorem compile_out (s : ByteArray) (w : World) (hm : s.size ≤ 9223372036854775807) :
    Calls Tryz.prog 26 #[.string s] w (GOutG (compE s.data.toList) (compR s.data.toList) w) := by
  have hmf : ∀ (fn : Fn) (first cap : Array Value) (w : World), (Instr.makeFunc fn first cap).run Tryz.prog w = .ok (.func fn first cap) w := fun _ _ _ _ => rfl
  have hX := blk_cell (blk_new w #[.string s] 9) 0
  have HB0 := hide (below_new w (.cells #[.string s] 9))
  go_enter Tryz.func26, Tryz.ntmps26
  go_wp2_with fail
  refine (guard_compile 2 _ rfl w.heap.size _ (compE s.data.toList) (compR s.data.toList) (fun W hW => compile1_any s w.heap.size W hm ((hW.cell (p := ⟨w.heap.size, 0, none⟩) (by simp)).trans hX))).mono ?_
  rintro e w1 ⟨hb1, hcase⟩
  have HB := hide (HB0.out.trans (hb1.mono (by simp)))
  clear hb1 hX
  rcases hcase with ⟨f, hf, rfl⟩ | ⟨R, hR, rfl⟩
  · have Hf := hide hf
    clear hf
    go_wp2
    go_ret3
    exact ⟨HB.out, .inl ⟨f, Hf.out, rfl⟩⟩
  · have HR := hide hR
    clear hR
    go_wp2
    go_ret3
    exact ⟨HB.out, .inr ⟨R, HR.out, rfl⟩⟩
end Go.Proofs.YtbdffcjganlblaaGreatDoor

namespace Go.Proofs.YtbdffcjganlblaaGreatDoor
open Go.RowKit Go.Maps
open Go.ChangeMaps (setBlock heap_setBlock_same heap_setBlock_other)
set_option linter.unusedVariables false
set_option linter.unusedSimpArgs false

theorem laidOutM : laidOutB Tryz.prog = true := by kernel_rfl
theorem keyRow : (164 : TypeId) < Tryz.prog.types.size := of_decide_eq_true (by kernel_rfl)
theorem keyDeep : Tryz.prog.keyTypeAt (Tryz.prog.types.size + 1) 164 = true := by kernel_rfl
theorem keyWide : (match Tryz.prog.underlying 164 with | some (.array _ _) | some (.struct _) => true | _ => false) = true := by rw [Tryz.underlying164]
set_option maxRecDepth 100000 in
theorem keyLaw : Keyed Tryz.prog 164 := Keyed.of_law (deep_law_laid laidOutM (m := 2) (by omega) keyRow (by kernel_rfl) keyWide)
theorem keyCells : Tryz.prog.cellsOf 164 = 2 := by kernel_rfl
theorem keyCellB : Tryz.prog.cellsOf 5 = 1 := by kernel_rfl
theorem keyCellI : Tryz.prog.cellsOf 3 = 1 := by kernel_rfl

/-- A job's key. -/
abbrev JK := UInt8 × Nat
def keyV (k : JK) : Value := .agg #[.int .u8 k.1.toNat, .int .i64 k.2]
theorem keyV_inj {a b : JK} (h : keyV a = keyV b) : a = b := by
  unfold keyV at h
  simp at h
  obtain ⟨h1, h2⟩ := h
  have e1 : a.1 = b.1 := by
    apply UInt8.toNat_inj.1
    omega
  exact Prod.ext e1 (by omega)
theorem keyV_lits (d : Nat) (a b : Int) (h8 : (Lit.int .u8 a).wf = true) (h64 : (Lit.int .i64 b).wf = true) : Tryz.prog.keyLits (d + 2) 164 [.int .u8 a, .int .i64 b] = some [.int .u8 a, .int .i64 b] := by
  have e1 : ∀ d, Tryz.prog.keyLits (d + 1) 5 [.int .u8 a] = some [.int .u8 a] := fun d => by
    unfold Program.keyLits
    rw [Tryz.underlying5]
    exact if_pos ⟨rfl, h8⟩
  have e2 : ∀ d, Tryz.prog.keyLits (d + 1) 3 [.int .i64 b] = some [.int .i64 b] := fun d => by
    unfold Program.keyLits
    rw [Tryz.underlying3]
    exact if_pos ⟨rfl, h64⟩
  unfold Program.keyLits
  rw [Tryz.underlying164]
  simp only [List.length_cons, List.length_nil, keyCells]
  rw [if_pos ⟨trivial, by kernel_rfl⟩]
  simp [keyCellB, keyCellI, e1, e2]
theorem keyV_of (k : JK) (hk : k.2 ≤ 1000000) : ∃ kl, keyOf Tryz.prog 164 (keyV k) = some kl := by
  have hf : (keyV k).formed Tryz.prog 164 = true := by simp [keyV, Value.formed, Tryz.underlying164, keyCells]
  have h8 : (Lit.int .u8 (k.1.toNat : Int)).wf = true := WalkArith.wf_u8 (by have := k.1.toNat_lt; omega)
  have h64 : (Lit.int .i64 (k.2 : Int)).wf = true := WalkArith.wf_i64 (by omega)
  have hr : (0 : Nat) < Tryz.prog.types.size := of_decide_eq_true (by kernel_rfl)
  have hd := keyDeep
  unfold keyOf
  rw [Tryz.underlying164]
  simp only
  unfold Program.keyType
  rw [hd, hf]
  obtain ⟨d, e⟩ : ∃ d, Tryz.prog.types.size + 1 = d + 2 := ⟨Tryz.prog.types.size - 1, by
    generalize Tryz.prog.types.size = T at hr ⊢
    omega⟩
  rw [e]
  have hl := keyV_lits d k.1.toNat k.2 h8 h64
  rw [show (keyV k).cells.toList = [.int .u8 k.1.toNat, .int .i64 k.2] from rfl, hl]
  exact ⟨_, rfl⟩

/-- The map of jobs in block M: each job's key, and the block in which it lies. -/
def KMap (w : World) (M : Nat) (es : List (JK × Nat)) : Prop :=
  ∃ arr clock, w.heap[M]? = some (.map arr clock) ∧ arr.toList.map (fun e => (e.key, e.val)) = es.map (fun x => (keyV x.1, Value.pointer (some ⟨x.2, 0, none⟩))) ∧ es.length ≤ 1000
theorem KMap.keep {w w' : World} {M : Nat} {es : List (JK × Nat)} (h : KMap w M es) (hb : w'.heap[M]? = w.heap[M]?) : KMap w' M es := by
  obtain ⟨arr, clock, h1, h2⟩ := h
  exact ⟨arr, clock, by rw [hb]; exact h1, h2⟩
theorem KMap.made (w : World) : KMap (w.alloc (.map #[] 0)) w.heap.size [] := ⟨#[], 0, (MapKept.heap_alloc w _).1, rfl, by simp⟩
theorem KMap.lt {w : World} {M : Nat} {es : List (JK × Nat)} (h : KMap w M es) : M < w.heap.size := by
  obtain ⟨arr, clock, h1, _⟩ := h
  exact (Array.getElem?_eq_some_iff.1 h1).1
theorem KMap.noCells {w : World} {M : Nat} {es : List (JK × Nat)} (h : KMap w M es) (c : Array Value) (ty : TypeId) (fr : Nat × Nat) : w.heap[M]? ≠ some (.cells c ty fr) := by
  obtain ⟨arr, clock, h1, _⟩ := h
  rw [h1]
  simp
theorem kmap_keys {arr : Array MapEntry} {es : List (JK × Nat)} (h : arr.toList.map (fun e => (e.key, e.val)) = es.map (fun x => (keyV x.1, Value.pointer (some ⟨x.2, 0, none⟩)))) (hs : ∀ x ∈ es, x.1.2 ≤ 1000000) : ∀ e ∈ arr.toList, ∃ l, keyOf Tryz.prog 164 e.key = some l := by
  intro e he
  have : (e.key, e.val) ∈ arr.toList.map (fun e => (e.key, e.val)) := List.mem_map.2 ⟨e, he, rfl⟩
  rw [h] at this
  obtain ⟨x, hx, ex⟩ := List.mem_map.1 this
  simp only [Prod.mk.injEq] at ex
  rw [← ex.1]
  exact keyV_of x.1 (hs x hx)
theorem zeroJob (w : World) : (zeroValue 122).run Tryz.prog w = .ok (.pointer none) w := by kernel_rfl
/-- A look-up. -/
theorem KMap.look {w : World} {M : Nat} {es : List (JK × Nat)} (h : KMap w M es) (hs : ∀ x ∈ es, x.1.2 ≤ 1000000) (k : JK) (hk : k.2 ≤ 1000000) :
    ((∀ x ∈ es, x.1 ≠ k) ∧ (Instr.lookup 162 (.map (some M)) (keyV k) false).run Tryz.prog w = .ok (.pointer none) w) ∨
    ∃ (j : Nat) (x : JK × Nat), es[j]? = some x ∧ x.1 = k ∧ (Instr.lookup 162 (.map (some M)) (keyV k) false).run Tryz.prog w = .ok (.pointer (some ⟨x.2, 0, none⟩)) w := by
  obtain ⟨arr, clock, hb, he, hl⟩ := h
  obtain ⟨kl, hkl⟩ := keyV_of k hk
  rcases keyLaw.find w hkl arr.toList (kmap_keys he hs) with ⟨h1, h2⟩ | ⟨j, e0, h1, h2, h3⟩
  · left
    refine ⟨fun x hx ex => ?_, ?_⟩
    · have : (keyV x.1, Value.pointer (some ⟨x.2, 0, none⟩)) ∈ es.map (fun x => (keyV x.1, Value.pointer (some ⟨x.2, 0, none⟩))) := List.mem_map.2 ⟨x, hx, rfl⟩
      rw [← he] at this
      obtain ⟨e, hm, ee⟩ := List.mem_map.1 this
      simp only [Prod.mk.injEq] at ee
      exact h2 e hm (by rw [ee.1, ex])
    · simp [Instr.lookup, run_underlying Tryz.underlying162, MapKept.run_getObj_map hb, keyLaw.check w _ hkl, h1, zeroJob w, Result.andThen]
  · right
    have e1 : (arr.toList.map (fun e => (e.key, e.val)))[j]? = some (e0.key, e0.val) := by rw [List.getElem?_map, h2]; rfl
    rw [he, List.getElem?_map] at e1
    cases hx : es[j]? with
    | none => rw [hx] at e1; simp at e1
    | some x =>
      rw [hx] at e1
      simp only [Option.map_some, Option.some.injEq, Prod.mk.injEq] at e1
      refine ⟨j, x, hx, keyV_inj (e1.1.trans h3), ?_⟩
      simp [Instr.lookup, run_underlying Tryz.underlying162, MapKept.run_getObj_map hb, keyLaw.check w _ hkl, h1, Result.andThen]
      exact e1.2.symm
/-- A new key's store. -/
theorem KMap.store {w : World} {M : Nat} {es : List (JK × Nat)} (h : KMap w M es) (hs : ∀ x ∈ es, x.1.2 ≤ 1000000) (k : JK) (hk : k.2 ≤ 1000000) (hn : ∀ x ∈ es, x.1 ≠ k) (hl : es.length + 1 ≤ 1000) (A : Nat) :
    ∃ w', (Instr.mapUpdate 162 (.map (some M)) (keyV k) (.pointer (some ⟨A, 0, none⟩))).run Tryz.prog w = .ok () w' ∧ KMap w' M (es ++ [(k, A)]) ∧ w.grownBy w' (some M) := by
  obtain ⟨arr, clock, hb, he, _⟩ := h
  obtain ⟨kl, hkl⟩ := keyV_of k hk
  rcases keyLaw.find w hkl arr.toList (kmap_keys he hs) with ⟨h1, h2⟩ | ⟨j, e0, h1, h2, h3⟩
  · refine ⟨setBlock w M (.map (arr.push ⟨keyV k, .pointer (some ⟨A, 0, none⟩), clock⟩) (clock + 1)), ?_, ⟨_, _, heap_setBlock_same hb _, ?_, by simp; omega⟩, ⟨rfl, rfl, rfl, by simp [setBlock], fun i _ hi => heap_setBlock_other hb _ (fun e => hi (by rw [e]))⟩⟩
    · simp [Instr.mapUpdate, run_underlying Tryz.underlying162, MapKept.run_getObj_map hb, keyLaw.check w false hkl, h1, MapKept.run_setObj_map _ hb, Result.andThen, setBlock]
    · rw [Array.toList_push, List.map_append, he, List.map_append]
      rfl
  · exfalso
    have e1 : (arr.toList.map (fun e => (e.key, e.val)))[j]? = some (e0.key, e0.val) := by rw [List.getElem?_map, h2]; rfl
    rw [he, List.getElem?_map] at e1
    cases hx : es[j]? with
    | none => rw [hx] at e1; simp at e1
    | some x =>
      rw [hx] at e1
      simp only [Option.map_some, Option.some.injEq, Prod.mk.injEq] at e1
      exact hn x (List.mem_of_getElem? hx) (keyV_inj (e1.1.trans h3))

def jobV (nm : UInt8) (bud left : Nat) (want : Int) : Array Value := #[.int .u8 nm.toNat, .int .i64 bud, .int .i64 left, .int .i64 want]

/-! ### At the operation, for the walk -/
theorem wpList_look_at {P : Program} (w : World) {ops : Array Oper} {rest : List Oper} {o : Oper} {a : Act} {Q : Exit → Act → World → Prop}
    (hg : o.guard = none) (m x : Operand) (t : TypeId) (hop : o.op = Op.lookup t m x false) (mv xv v : Value) (hm : a.eval m = mv) (hx : a.eval x = xv)
    (hrun : (Instr.lookup t mv xv false).run P w = .ok v w) (hK : wpList P ops Q rest (a.put o.dst v) w) : wpList P ops Q (o :: rest) a w := by
  refine wpList_plain hg fun K' hK' => ?_
  unfold Oper.wp
  simp [execOp, hop, hm, hx, hrun, Result.andThen]
  exact hK' _ _ hK
theorem wpList_store_at {P : Program} (w : World) {ops : Array Oper} {rest : List Oper} {o : Oper} {a : Act} {Q : Exit → Act → World → Prop}
    (hg : o.guard = none) (m x v : Operand) (t : TypeId) (hop : o.op = Op.mapUpdate t m x v) (mv xv vv : Value) (hm : a.eval m = mv) (hx : a.eval x = xv) (hv : a.eval v = vv) (w' : World)
    (hrun : (Instr.mapUpdate t mv xv vv).run P w = .ok () w') (hK : wpList P ops Q rest (a.put o.dst undef) w') : wpList P ops Q (o :: rest) a w := by
  refine wpList_plain hg fun K' hK' => ?_
  unfold Oper.wp
  simp [execOp, hop, hm, hx, hv, hrun, Result.andThen]
  exact hK' _ _ hK
end Go.Proofs.YtbdffcjganlblaaGreatDoor

namespace Go.Proofs.YtbdffcjganlblaaGreatDoor
open Go.RowKit
set_option linter.unusedVariables false
set_option linter.unusedSimpArgs false

/-- A job's first slice, its last one, its budgets together. -/
structure Spt where
  fst : Int
  lst : Int
  cost : Nat
def isOf (x : FSl) (n : UInt8) (k : Nat) : Prop := x.2.nm = n ∧ x.2.job = k
instance (x : FSl) (n : UInt8) (k : Nat) : Decidable (isOf x n k) := by unfold isOf; infer_instance
def spotTo (l : List FSl) (n : UInt8) (k : Nat) : Nat → Spt
  | 0 => ⟨-1, -1, 0⟩
  | q + 1 => if isOf (fsk l q) n k then ⟨if (spotTo l n k q).fst < 0 then q else (spotTo l n k q).fst, q, (spotTo l n k q).cost + (fsk l q).2.bud⟩ else spotTo l n k q
def spotL (l : List FSl) (n : UInt8) (k : Nat) : Spt := spotTo l n k l.length
theorem spotTo_yes {l : List FSl} {n : UInt8} {k q : Nat} (h : isOf (fsk l q) n k) : spotTo l n k (q + 1) = ⟨if (spotTo l n k q).fst < 0 then q else (spotTo l n k q).fst, q, (spotTo l n k q).cost + (fsk l q).2.bud⟩ := by
  rw [spotTo, if_pos h]
theorem spotTo_no {l : List FSl} {n : UInt8} {k q : Nat} (h : ¬ isOf (fsk l q) n k) : spotTo l n k (q + 1) = spotTo l n k q := by
  rw [spotTo, if_neg h]
theorem spotTo_cost {l : List FSl} (hs : ∀ i, i < l.length → (fsk l i).small) (n : UInt8) (k : Nat) : ∀ q, q ≤ l.length → (spotTo l n k q).cost ≤ q * 9999
  | 0, _ => Nat.zero_le _
  | q + 1, h => by
    have ih := spotTo_cost hs n k q (by omega)
    have hb : (fsk l q).2.bud ≤ 9999 := (hs q (by omega)).2.2
    have e : (q + 1) * 9999 = q * 9999 + 9999 := Nat.succ_mul q 9999
    rw [spotTo, e]
    clear e hs
    generalize q * 9999 = z at *
    split
    · show (spotTo l n k q).cost + (fsk l q).2.bud ≤ z + 9999
      omega
    · omega

def sptV (p : Spt) : Array Value := #[.int .i64 p.fst, .int .i64 p.lst, .int .i64 p.cost]
structure SpX (w wr : World) (c f : Nat) (sv : Value) (p : Spt) : Prop where
  t : TBx w wr c f sv
  r : wr.heap[w.heap.size + 1]? = some (.cells #[.int .i64 0, .int .i64 0, .int .i64 0] 78 (0, 0))
  p : wr.heap[w.heap.size + 1 + 1]? = some (.cells (sptV p) 78 (0, 0))
section
variable {w wr : World} {c f : Nat} {sv : Value} {p : Spt}
theorem SpX.start (w : World) (c f : Nat) (sv : Value) : SpX w (((w.alloc (.cells #[.int .i64 c, .int .i64 f, sv] 39)).alloc (.cells #[.int .i64 0, .int .i64 0, .int .i64 0] 78)).alloc (.cells #[.int .i64 (-1), .int .i64 (-1), .int .i64 0] 78)) c f sv ⟨-1, -1, 0⟩ := by
  have h1 := blk_new (w.alloc (.cells #[.int .i64 c, .int .i64 f, sv] 39)) #[.int .i64 0, .int .i64 0, .int .i64 0] 78
  have h2 := blk_new ((w.alloc (.cells #[.int .i64 c, .int .i64 f, sv] 39)).alloc (.cells #[.int .i64 0, .int .i64 0, .int .i64 0] 78)) #[.int .i64 (-1), .int .i64 (-1), .int .i64 0] 78
  have h1' := blk_keep h1 (below_new _ (.cells #[.int .i64 (-1), .int .i64 (-1), .int .i64 0] 78))
  simp only [World.size_alloc] at h1' h2
  exact ⟨((TBx.start w c f sv).alloc _).alloc _, h1', h2⟩
theorem SpX.drew (h : SpX w wr c f sv p) : SpX w wr.drew c f sv p := ⟨h.t.drewN 1, h.r, h.p⟩
theorem SpX.set (h : SpX w wr c f sv p) (o : Nat) (v : Int) (q : Spt) (hq : (sptV p).setIfInBounds o (.int .i64 v) = sptV q) : SpX w (wr.setCell ⟨w.heap.size + 1 + 1, o, none⟩ (.int .i64 v)) c f sv q := by
  refine ⟨⟨?_, ?_⟩, ?_, ?_⟩
  · rw [Below.heap_setCell _ _ _ _ (by show w.heap.size ≠ w.heap.size + 1 + 1; omega)]
    exact h.t.h
  · exact h.t.b.setCell (by show w.heap.size ≤ w.heap.size + 1 + 1; omega) _
  · rw [Below.heap_setCell _ _ _ _ (by show w.heap.size + 1 ≠ w.heap.size + 1 + 1; omega)]
    exact h.r
  · rw [blk_set h.p, hq]
theorem SpX.cells (h : SpX w wr c f sv p) : wr.cell? ⟨w.heap.size + 1 + 1, 0, none⟩ = some (.int .i64 p.fst) ∧ wr.cell? ⟨w.heap.size + 1 + 1, 1, none⟩ = some (.int .i64 p.lst) ∧ wr.cell? ⟨w.heap.size + 1 + 1, 2, none⟩ = some (.int .i64 p.cost) := by
  refine ⟨?_, ?_, ?_⟩ <;> (rw [blk_cell h.p]; rfl)
end

end Go.Proofs.YtbdffcjganlblaaGreatDoor
