/-
  Own work. The law Compiles: planned.
-/
import Derived.Test.YtbdffcjganlblaaGreatDoorEdDtoEdF
import Derived.Test.YtbdffcjganlblaaGreatDoorChAtoEdB
import Derived.Test.YtbdffcjganlblaaGreatDoorPrBtoDsI
import Derived.Deep.RegionHeldLaw
import Derived.Test.YtbdffcjganlblaaGreatDoorRefMtoRefO
import Derived.Test.YtbdffcjganlblaaGreatDoorPnEtoSoA
namespace Go.Proofs.YtbdffcjganlblaaGreatDoor
open Go.RowKit
set_option linter.unusedVariables false
set_option linter.unusedSimpArgs false

abbrev flL (ts : List Tk) (ps : List Pr) : List FSl := flatF 0 (tabL ts ps).fs
theorem set_jobs {ts : List Tk} {ps : List Pr} (h : SetR ts ps) : 0 < (jsL ts).length := by
  have h0 : 0 < ts.length := h.n1
  have h1 := h.tok.each _ (tsk_mem h0)
  have h2 : (tsk ts 0).P ≤ cycI ts := Nat.le_of_dvd h.tok.c1 (Nat.dvd_of_mod_eq_zero h1.2.1)
  obtain ⟨k, hk, _⟩ := job_of (cyc := cycI ts) (a := 0) h0 (Nat.div_pos h2 h1.1)
  exact Nat.lt_of_le_of_lt (Nat.zero_le _) hk
theorem set_flat {ts : List Tk} {ps : List Pr} (h : SetR ts ps) (hw : 0 < wideL ts ps) : Flat (jsL ts) ps (wideL ts ps) (runJ (jsL ts) ps (cycI ts) (wideL ts ps)).1.flatten (flL ts ps) := flat_plan (wide_pos hw).2.2.1
theorem set_some {ts : List Tk} {ps : List Pr} (h : SetR ts ps) (hw : 0 < wideL ts ps) : 0 < (flL ts ps).length := by
  obtain ⟨a, b, ha, _⟩ := ((set_flat h hw).kept (jobs_of h.tok)).spot 0 (set_jobs h)
  exact Nat.lt_of_le_of_lt (Nat.zero_le _) ha
theorem known_err {l : List UInt8} {f : Nat × Nat} (h : knownR l = .error f) : f.1 ≠ 0 := by
  unfold knownR at h
  split at h
  · cases h; decide
  · split at h
    · cases h; exact Nat.succ_ne_zero 1
    · split at h
      · rename_i h0
        cases h
        exact h0
      · split at h
        · cases h; decide
        · cases h
theorem comp_err {l : List UInt8} {f : Nat × Nat} (h : compE l f) : f.1 ≠ 0 := by
  rcases h with h | ⟨ts, ps, _, _, _, rfl⟩
  · exact known_err h
  · show whyJ _ _ ≠ 0
    unfold whyJ
    split <;> decide

def PldOut (l : List UInt8) (w : World) (e : Ending) (w' : World) : Prop :=
  Below w.heap.size w w' ∧ ((∃ f : Nat × Nat, compE l f ∧ e = .returned (.tuple #[.agg #[.int .i64 0, .int .i64 0, .slice none 0 0], .int .i64 f.1, .int .i64 f.2, .bool true])) ∨
    (∃ ts ps gT cT, knownR l = .ok (ts, ps) ∧ SetR ts ps ∧ 0 < wideL ts ps ∧ e = .returned (.tuple #[.agg #[.int .i64 (cycI ts), .int .i64 (wideL ts ps), .slice (some ⟨gT, 0, none⟩) (flL ts ps).length cT], .int .i64 0, .int .i64 0, .bool true]) ∧ RowF w' gT (flL ts ps) ∧ gT < w'.heap.size ∧ w.heap.size ≤ gT))

set_option maxRecDepth 100000 in
set_option maxHeartbeats 4000000 in
theorem planned_any (s : ByteArray) (w : World) (hm : s.size ≤ 9223372036854775807) (ht : T10 w) :
    Calls Tryz.prog 95 #[.string s] w (PldOut s.data.toList w) := by
  have HB0 := hide (below_new w (.cells #[.int .i64 0, .int .i64 0, .slice none 0 0] 39))
  have HN0 := hide (blk_new w #[.int .i64 0, .int .i64 0, .slice none 0 0] 39)
  have Ht := hide ht
  clear ht
  go_enter Tryz.func95, Tryz.ntmps95
  go_wp2_with fail
  generalize w.alloc (.cells #[.int .i64 0, .int .i64 0, .slice none 0 0] 39) = w0 at *
  refine (compile_out s w0 hm).mono ?_
  rintro e w1 ⟨hb1, hcase⟩
  have HB1 := hide (HB0.out.trans (hb1.mono HB0.out.size))
  have HN1 := hide (blk_keep HN0.out hb1)
  have HT1 := hide (Ht.out.below HB1.out)
  clear hb1 HB0 HN0 Ht
  rcases hcase with ⟨f, hf, rfl⟩ | ⟨x, ⟨ts, ps, hkn, hset, hwd, rfl⟩, rfl⟩
  · have Hf := hide hf
    have hf0 : ¬ (f.1 : Int) = 0 := by have := comp_err hf; omega
    have n0 := blk_cell HN1.out
    have z0 := blk_frozen HN1.out
    have hee : ((ByteArray.mk #[]).toList == (ByteArray.mk #[]).toList) = true := by simp
    clear hf
    go_wp2_with (go_at_call 15; refine (num_any f.1 _).mono ?_; rintro e w' ⟨rfl, hw'⟩; replace hw' := hw'.symm; subst hw')
    have h3 := blk_set (blk_set (blk_set HN1.out 0 (.int .i64 0)) 1 (.int .i64 0)) 2 (.slice none 0 0)
    have HB3 := hide (below_set3 HB1.out (Nat.le_refl _) (.int .i64 0) (.int .i64 0) (.slice none 0 0))
    have c3 := blk_cell h3
    generalize ((w1.setCell ⟨w.heap.size, 0, none⟩ (.int .i64 0)).setCell ⟨w.heap.size, 1, none⟩ (.int .i64 0)).setCell ⟨w.heap.size, 2, none⟩ (.slice none 0 0) = w3 at *
    have c30 : w3.cell? ⟨w.heap.size, 0, none⟩ = some (.int .i64 0) := c3 0
    have c31 : w3.cell? ⟨w.heap.size, 1, none⟩ = some (.int .i64 0) := c3 1
    have c32 : w3.cell? ⟨w.heap.size, 2, none⟩ = some (.slice none 0 0) := c3 2
    clear c3 h3 n0 z0
    refine bodyPost_ret (v := .tuple #[.agg #[.int .i64 0, .int .i64 0, .slice none 0 0], .int .i64 f.1, .int .i64 f.2, .bool true]) (by simp [results, Tryz.results95, go_sem, c30, c31, c32]) rfl ?_
    exact ⟨HB3.out, .inl ⟨f, Hf.out, rfl⟩⟩
  · have hup : UnpOk (packB (tabL ts ps)) (tabL ts ps) := pack_unp (tab_right hset hwd)
    obtain ⟨htab, _⟩ := unp_tab hup
    have Hup := hide hup
    have Htab := hide htab
    have HSet := hide hset
    have HKn := hide hkn
    have HWd := hide hwd
    have HSome := hide (set_some hset hwd)
    have hl1 : (bs (packB (tabL ts ps))).size ≤ 9223372036854775807 := by rw [bs_size]; have := hup.1; omega
    have hl2 : (bs (tbTxt (tabL ts ps))).size ≤ 9223372036854775807 := by rw [bs_size]; have := htab.1; omega
    have CR : Hid (∀ W, Calls Tryz.prog 17 #[.string (bs (packB (tabL ts ps)))] W fun e w' => e = .returned (.tuple #[.string (bs (tbTxt (tabL ts ps))), .int .i64 0]) ∧ Below W.heap.size W w') := fun W => by
      refine (read_any _ W hl1).mono ?_
      rintro e w' ⟨hb, hcase⟩
      rw [bs_data] at hcase
      rcases hcase with ⟨f, ⟨_, hno⟩, _⟩ | ⟨x, ⟨t2, h2, rfl⟩, rfl⟩
      · exact absurd ⟨_, Hup.out⟩ hno
      · rw [← unp_one Hup.out h2]
        exact ⟨rfl, hb⟩
    have CT : Hid (∀ W, T10 W → Calls Tryz.prog 22 #[.string (bs (tbTxt (tabL ts ps)))] W fun e w' => ∃ gT cT, e = .returned (.tuple #[.agg #[.int .i64 (cycI ts), .int .i64 (wideL ts ps), .slice (some ⟨gT, 0, none⟩) (flL ts ps).length cT], .bool true]) ∧ RowF w' gT (flL ts ps) ∧ gT < w'.heap.size ∧ W.heap.size ≤ gT ∧ Below W.heap.size W w') := fun W hT => by
      refine (rReadTable_any _ W hl2 hT).mono ?_
      rintro e w' ⟨hb, hcase⟩
      rw [bs_data] at hcase
      rcases hcase with ⟨t2, sv, h2, rfl, how⟩ | ⟨hno, _⟩
      · have := tab_one Htab.out h2
        subst this
        obtain ⟨gT, cT, rfl, g1, g2⟩ := own_form how HSome.out
        exact ⟨gT, cT, rfl, rowF_own how, g2, g1, hb⟩
      · exact absurd ⟨_, Htab.out⟩ hno
    clear hup htab hset hkn hwd hl1 hl2 Hup Htab HSome
    have hcc : ((0 : Nat) : Int) = 0 := rfl
    generalize bs (packB (tabL ts ps)) = pk at *
    generalize bs (tbTxt (tabL ts ps)) = tx at *
    obtain ⟨L, hL⟩ : ∃ L, flL ts ps = L := ⟨_, rfl⟩
    rw [hL] at CT
    have HLe := hide hL
    clear hL
    obtain ⟨cy, hcy⟩ : ∃ c, cycI ts = c := ⟨_, rfl⟩
    obtain ⟨wd, hwd⟩ : ∃ c, wideL ts ps = c := ⟨_, rfl⟩
    rw [hcy] at CT
    rw [hwd] at CT
    have HCy := hide hcy
    have HWe := hide hwd
    clear hcy hwd
    go_upto_region 4 with (go_at_call 15; refine (num_any 0 _).mono ?_; rintro e w' ⟨rfl, hw'⟩; replace hw' := hw'.symm; subst hw')
    go_wp2_with fail
    refine (CR.out w1).mono ?_
    rintro e w2 ⟨rfl, hb2⟩
    have HB2 := hide (HB1.out.trans (hb2.mono HB1.out.size))
    have HN2 := hide (blk_keep HN1.out hb2)
    have HT2 := hide (HT1.out.below hb2)
    clear hb2 HB1 HN1 HT1 CR
    go_wp2_with fail
    refine (CT.out w2 HT2.out).mono ?_
    rintro e w3 ⟨gT, cT, rfl, hrow, hg1, hg2, hb3⟩
    have hb4 : Below w2.heap.size w2 (w3.alloc (.cells #[.int .i64 cy, .int .i64 wd, .slice (some ⟨gT, 0, none⟩) L.length cT] 39)) := hb3.alloc hb3.size _
    have HB4 := hide (HB2.out.trans (hb4.mono HB2.out.size))
    have HN4 := hide (blk_keep HN2.out hb4)
    have HR4 := hide (hrow.below (below_new w3 (.cells #[.int .i64 cy, .int .i64 wd, .slice (some ⟨gT, 0, none⟩) L.length cT] 39)) hg1)
    have hX4 := blk_new w3 #[.int .i64 cy, .int .i64 wd, .slice (some ⟨gT, 0, none⟩) L.length cT] 39
    have hg3 : w.heap.size < gT := Nat.lt_of_lt_of_le (blk_lt HN2.out) hg2
    have hg4 : gT < (w3.alloc (.cells #[.int .i64 cy, .int .i64 wd, .slice (some ⟨gT, 0, none⟩) L.length cT] 39)).heap.size := Nat.lt_of_lt_of_le hg1 (by simp)
    have hne : w.heap.size ≠ w3.heap.size := by have := blk_lt HN2.out; have := hb3.size; omega
    have HX4 := hide hX4
    clear hX4 hb3 hb4 hrow HN2 HB2 HT2 CT hg1 hg2
    go_upto_region 6 with fail
    generalize w3.alloc (.cells #[.int .i64 cy, .int .i64 wd, .slice (some ⟨gT, 0, none⟩) L.length cT] 39) = w4 at *
    generalize w3.heap.size = X at *
    have x0 : w4.cell? ⟨X, 0, none⟩ = some (.int .i64 cy) := blk_cell HX4.out 0
    have x1 : w4.cell? ⟨X, 1, none⟩ = some (.int .i64 wd) := blk_cell HX4.out 1
    have x2 : w4.cell? ⟨X, 2, none⟩ = some (.slice (some ⟨gT, 0, none⟩) L.length cT) := blk_cell HX4.out 2
    have n0 := blk_cell HN4.out
    have z0 := blk_frozen HN4.out
    have HK : Hid (∀ W : World, W.heap[X]? = w4.heap[X]? → W.cell? ⟨X, 0, none⟩ = some (.int .i64 cy) ∧ W.cell? ⟨X, 1, none⟩ = some (.int .i64 wd) ∧ W.cell? ⟨X, 2, none⟩ = some (.slice (some ⟨gT, 0, none⟩) L.length cT)) := fun W hW => by
      have h := HX4.out
      rw [← hW] at h
      exact ⟨blk_cell h 0, blk_cell h 1, blk_cell h 2⟩
    go_wp2_with fail
    go_region_with (first | (go_at_call 15; refine (num_any 0 _).mono ?_; rintro e w' ⟨rfl, hw'⟩; replace hw' := hw'.symm; subst hw'))
    all_goals
      go_wp2_with fail
      have h5 := blk_set (blk_set (blk_set HN4.out 0 (.int .i64 cy)) 1 (.int .i64 wd)) 2 (.slice (some ⟨gT, 0, none⟩) L.length cT)
      have HB5 := hide (below_set3 HB4.out (Nat.le_refl _) (.int .i64 cy) (.int .i64 wd) (.slice (some ⟨gT, 0, none⟩) L.length cT))
      have hg5 : (((w4.setCell ⟨w.heap.size, 0, none⟩ (.int .i64 cy)).setCell ⟨w.heap.size, 1, none⟩ (.int .i64 wd)).setCell ⟨w.heap.size, 2, none⟩ (.slice (some ⟨gT, 0, none⟩) L.length cT)).heap[gT]? = w4.heap[gT]? := by
        rw [Below.heap_setCell _ _ _ _ (show gT ≠ w.heap.size by omega), Below.heap_setCell _ _ _ _ (show gT ≠ w.heap.size by omega), Below.heap_setCell _ _ _ _ (show gT ≠ w.heap.size by omega)]
      have hs5 : w4.heap.size ≤ (((w4.setCell ⟨w.heap.size, 0, none⟩ (.int .i64 cy)).setCell ⟨w.heap.size, 1, none⟩ (.int .i64 wd)).setCell ⟨w.heap.size, 2, none⟩ (.slice (some ⟨gT, 0, none⟩) L.length cT)).heap.size := by simp [World.setCell]
      generalize ((w4.setCell ⟨w.heap.size, 0, none⟩ (.int .i64 cy)).setCell ⟨w.heap.size, 1, none⟩ (.int .i64 wd)).setCell ⟨w.heap.size, 2, none⟩ (.slice (some ⟨gT, 0, none⟩) L.length cT) = w5 at *
      have c50 : w5.cell? ⟨w.heap.size, 0, none⟩ = some (.int .i64 cy) := blk_cell h5 0
      have c51 : w5.cell? ⟨w.heap.size, 1, none⟩ = some (.int .i64 wd) := blk_cell h5 1
      have c52 : w5.cell? ⟨w.heap.size, 2, none⟩ = some (.slice (some ⟨gT, 0, none⟩) L.length cT) := blk_cell h5 2
      have HR5 : Hid (RowF w5.drew gT L) := HR4.out.keep hg5
      clear n0 z0 x0 x1 x2 h5 HN4 HX4 HK
      refine bodyPost_ret (v := .tuple #[.agg #[.int .i64 cy, .int .i64 wd, .slice (some ⟨gT, 0, none⟩) L.length cT], .int .i64 0, .int .i64 0, .bool true]) (by simp [results, Tryz.results95, go_sem, Act.put, c50, c51, c52]) rfl ?_
      refine ⟨HB5.out.drew, .inr ⟨ts, ps, gT, cT, HKn.out, HSet.out, HWd.out, ?_, ?_, ?_, ?_⟩⟩
      · rw [HCy.out, HWe.out, HLe.out]
      · rw [HLe.out]; exact HR5.out
      · show gT < w5.heap.size
        omega
      · omega
end Go.Proofs.YtbdffcjganlblaaGreatDoor

namespace Go.Proofs.YtbdffcjganlblaaGreatDoor
open Go.RowKit
set_option linter.unusedVariables false
set_option linter.unusedSimpArgs false

def jbCells (x : Jb) : List Value := [.int .i64 x.tsk, .int .i64 x.num, .int .i64 x.rel, .int .i64 x.dl, .int .i64 x.cost]
def jbRow (l : List Jb) : List Value := l.flatMap jbCells
theorem jbRow_app (a b : List Jb) : jbRow (a ++ b) = jbRow a ++ jbRow b := by simp [jbRow]
theorem jbRow_get (T : List Jb) : ∀ (j : Nat), j < T.length → ∀ o, o < 5 → (jbRow T)[j * 5 + o]? = (jbCells (jk T j))[o]? := by
  induction T with
  | nil => intro j h; simp at h
  | cons t r ih =>
    intro j hj o ho
    have e : jbRow (t :: r) = jbCells t ++ jbRow r := rfl
    have el : (jbCells t).length = 5 := rfl
    cases j with
    | zero => rw [e, List.getElem?_append_left (by omega)]; simp [jk]
    | succ j =>
      have := ih j (by simpa using hj) o ho
      rw [e, List.getElem?_append_right (by omega), el, show (j + 1) * 5 + o - 5 = j * 5 + o by omega, this]
      simp [jk]
/-- The jobs lie in block g. -/
def RowB (w : World) (g : Nat) (js : List Jb) : Prop := ∀ k, k < js.length →
  w.cell? ⟨g, k * 5, none⟩ = some (.int .i64 (jk js k).tsk) ∧ w.cell? ⟨g, k * 5 + 1, none⟩ = some (.int .i64 (jk js k).num) ∧ w.cell? ⟨g, k * 5 + 2, none⟩ = some (.int .i64 (jk js k).rel) ∧
  w.cell? ⟨g, k * 5 + 3, none⟩ = some (.int .i64 (jk js k).dl) ∧ w.cell? ⟨g, k * 5 + 4, none⟩ = some (.int .i64 (jk js k).cost)
theorem rowB_own {w : World} {base g cap : Nat} {l : List Jb} (h : w.ownsRow base 97 5 (.slice (some ⟨g, 0, none⟩) l.length cap) l.length (jbRow l)) : RowB w g l := by
  intro k hk
  have e : ∀ o, o < 5 → w.cell? ⟨g, k * 5 + o, none⟩ = (jbCells (jk l k))[o]? := fun o ho => by rw [h.cellAt _ (by omega)]; exact jbRow_get l k hk o ho
  have e0 := e 0 (by omega)
  simp only [Nat.add_zero] at e0
  rw [e0, e 1 (by omega), e 2 (by omega), e 3 (by omega), e 4 (by omega)]
  exact ⟨rfl, rfl, rfl, rfl, rfl⟩
theorem RowB.keep {w w' : World} {g : Nat} {l : List Jb} (h : RowB w g l) (hb : w'.heap[g]? = w.heap[g]?) : RowB w' g l := by
  intro k hk
  have e : ∀ o, w'.cell? ⟨g, o, none⟩ = w.cell? ⟨g, o, none⟩ := fun o => by simp only [World.cell?, hb]
  rw [e, e, e, e, e]
  exact h k hk
theorem RowB.below {w w' : World} {g B : Nat} {l : List Jb} (h : RowB w g l) (hb : Below B w w') (hg : g < B) : RowB w' g l := h.keep (hb.block g hg)
theorem Tryz.infoJob : (Tryz.prog.info? 97).map (fun i => (i.zero, i.size, i.bytes)) = some (some (.agg #[.int .i64 0, .int .i64 0, .int .i64 0, .int .i64 0, .int .i64 0]), 5, 40) := by kernel_rfl

theorem jobsT_take (cyc i : Nat) (t : Tk) {k : Nat} (h : k < cyc / t.P) : (jobsT cyc i t).take (k + 1) = (jobsT cyc i t).take k ++ [⟨t.nm, k, i, k * t.P + t.O, k * t.P + t.O + t.D, t.C⟩] := by
  rw [List.take_succ_eq_append_getElem (by rw [jobsT_len]; exact h)]
  simp [jobsT]
theorem jobsL_take (cyc : Nat) {ts : List Tk} {i : Nat} (h : i < ts.length) : jobsL cyc 0 (ts.take (i + 1)) = jobsL cyc 0 (ts.take i) ++ jobsT cyc i (tsk ts i) := by
  rw [List.take_succ_eq_append_getElem h, jobsL_snoc, Nat.zero_add, List.length_take, Nat.min_eq_left (by omega)]
  simp [tsk, List.getD_eq_getElem?_getD, h]
/-- The memory of Jobs. -/
structure JbW (w wr : World) (tv pv v : Value) (l : List Jb) : Prop where
  s : wr.heap[w.heap.size]? = some (.cells #[tv, pv] 53 (0, 0))
  ow : wr.ownsRow (w.heap.size + 1) 97 5 v l.length (jbRow l)
  b : Below w.heap.size w wr
section
variable {w wr : World} {tv pv v : Value} {l : List Jb}
theorem JbW.keep (h : JbW w wr tv pv v l) {w' : World} (hb : Below wr.heap.size wr w') : JbW w w' tv pv v l :=
  ⟨blk_keep h.s hb, owns_below h.ow hb, h.b.trans (hb.mono h.b.size)⟩
theorem JbW.push (h : JbW w wr tv pv v l) {o : Obj} {w2 : World} {v' : Value} {x : Jb} (hg : (wr.alloc o).grownBy w2 v.ownBlock) (ho : w2.ownsRow (w.heap.size + 1) 97 5 v' (l.length + 1) (jbRow l ++ jbCells x)) : JbW w w2 tv pv v' (l ++ [x]) := by
  have hlt := blk_lt h.s
  refine ⟨?_, ?_, ?_⟩
  · rw [hg.block w.heap.size (by simp; omega) (fun e => own_ge h.ow (Nat.lt_succ_self _) e.symm), Below.heap_alloc _ _ _ hlt]
    exact h.s
  · rw [jbRow_app, List.length_append]
    simpa [jbRow] using ho
  · exact (h.b.alloc h.b.size o).grown hg (by simp; omega) (fun k hk => by have := (h.ow.lt k hk).1; omega)
/-- A block beside the row. -/
theorem JbW.other (h : JbW w wr tv pv v l) {X : Nat} {c : Array Value} {ty : TypeId} {o : Obj} {w2 : World} (hX : wr.heap[X]? = some (.cells c ty (0, 0))) (hty : ty ≠ 97) (hg : (wr.alloc o).grownBy w2 v.ownBlock) : w2.heap[X]? = some (.cells c ty (0, 0)) := by
  have hlt := blk_lt hX
  have hne : v.ownBlock ≠ some X := fun e => by
    rcases h.ow.2 with ⟨e0, _⟩ | ⟨g, cap, cur, e0, _, h7, _⟩
    · rw [e0] at e
      simp [Value.ownBlock] at e
    · rw [e0] at e
      simp [Value.ownBlock] at e
      subst e
      rw [h7] at hX
      simp at hX
      exact hty hX.2.symm
  rw [hg.block X (by simp; omega) (fun e => hne e.symm), Below.heap_alloc _ _ _ hlt]
  exact hX
end

def JbOut (js : List Jb) (w : World) (en : Ending) (w' : World) : Prop := ∃ a c, en = .returned (.slice a js.length c) ∧ w'.ownsRow w.heap.size 97 5 (.slice a js.length c) js.length (jbRow js) ∧ Below w.heap.size w w'

set_option maxRecDepth 100000 in
set_option maxHeartbeats 4000000 in
theorem rSetJobs_any (ts : List Tk) (cyc g cap : Nat) (pa : Option Addr) (pm pc : Nat) (w : World) (hg : g < w.heap.size) (hr : RowT w g ts) (hn : ts.length ≤ 6) (hts : TsOk ts cyc) (hcy : cycI ts = cyc) :
    Calls Tryz.prog 55 #[.agg #[.slice (some ⟨g, 0, none⟩) ts.length cap, .slice pa pm pc]] w (JbOut (jobsL cyc 0 ts) w) := by
  obtain ⟨i0, hi0, hz0, hz1, hz2⟩ := info_parts Tryz.infoJob
  have hc1 := hts.c1
  have hc2 := hts.c2
  have HE : Hid (∀ k, k < ts.length → 1 ≤ (tsk ts k).P ∧ (tsk ts k).P ≤ 60 ∧ cyc % (tsk ts k).P = 0 ∧ (tsk ts k).O ≤ 60 ∧ (tsk ts k).D ≤ 60 ∧ (tsk ts k).C ≤ 60) := fun k hk => by
    have hm := tsk_mem hk
    have h5 := hts.each _ hm
    have h6 : (tsk ts k).P ≤ cyc := Nat.le_of_dvd (by omega) (Nat.dvd_of_mod_eq_zero h5.2.1)
    refine ⟨h5.1, by omega, h5.2.1, ?_, ?_, ?_⟩ <;> omega
  have hPk : ∀ k, k < ts.length → 1 ≤ (tsk ts k).P ∧ (tsk ts k).P ≤ 60 := fun k hk => ⟨(HE.out k hk).1, (HE.out k hk).2.1⟩
  have HR := hide hr
  have HC := hide hcy
  have HPk := hide hPk
  have HJL := hide (fun (l : List Tk) => jobsL_len hc2 l 0)
  have J0 : Hid (JbW w (w.alloc (.cells #[.slice (some ⟨g, 0, none⟩) ts.length cap, .slice pa pm pc] 53)) (.slice (some ⟨g, 0, none⟩) ts.length cap) (.slice pa pm pc) (.slice none 0 0) []) := ⟨blk_new _ _ _, World.ownsRow_nil _ _ _ _, below_new _ _⟩
  have s0 := blk_cell J0.out.s
  clear hr hts hcy hPk
  go_enter Tryz.func55, Tryz.ntmps55
  go_wp2_with fail
  generalize w.alloc (.cells #[.slice (some ⟨g, 0, none⟩) ts.length cap, .slice pa pm pc] 53) = wz at *
  have CC := hide (rCycle_any ts g cap (.slice pa pm pc) pa pm pc rfl wz (Nat.lt_of_lt_of_le hg J0.out.b.size) (HR.out.below J0.out.b hg) hn HPk.out)
  rw [HC.out] at CC
  refine CC.out.mono ?_
  rintro en w1 ⟨rfl, hb1⟩
  have J1 := hide (J0.out.keep hb1)
  clear hb1 CC J0 s0
  go_wp2_with fail
  go_loopw [3, 5] (fun lv iv wr => ∃ i : Nat, i ≤ ts.length ∧ iv = .int .i64 i ∧ JbW w wr (.slice (some ⟨g, 0, none⟩) ts.length cap) (.slice pa pm pc) lv (jobsL cyc 0 (ts.take i))) (fun _ iv _ => ts.length - (intOf iv).toNat)
  case atStart => exact ⟨0, by omega, rfl, J1.out⟩
  case round =>
    clear J1
    obtain ⟨i, hi, rfl, hJ⟩ := hrel
    have s0 := blk_cell hJ.s
    by_cases hlt : i < ts.length
    · have hlt' : (i : Int) < ts.length := by omega
      obtain ⟨e1, e2, e3, e4, e5, e6⟩ := HE.out i hlt
      obtain ⟨r0, r1, r2, r3, r4, r5, r6, r7, r8, r9⟩ := HR.out.below hJ.b hg i hlt
      have HJn := hide (jobsL_take cyc hlt)
      have HJ0 := hide hJ
      have hjl := HJL.out (ts.take i)
      rw [List.length_take, Nat.min_eq_left (by omega)] at hjl
      clear hJ
      generalize jobsL cyc 0 (ts.take i) = L0 at *
      generalize tsk ts i = t at *
      have HX := hide (blk_new wr (tkA t) 95)
      unfold tkA at HX
      have HJ1 := hide (HJ0.out.keep (below_new wr (.cells (tkA t) 95)))
      unfold tkA at HJ1
      have hHX := HX.out
      go_wp2_with fail
      generalize hwx : wr.alloc _ = wx at *
      clear hwx
      have hXlt : wr.heap.size < wx.heap.size := blk_lt hHX
      generalize wr.heap.size = X at *
      clear r0 r1 r2 r3 r4 r5 r6 r7 r8 r9 s0 HJ0 hHX
      have HQ : Hid (∀ k, k < cyc / t.P → k * t.P + t.P ≤ cyc) := fun k hk => by
        have h1 : (k + 1) * t.P ≤ cyc / t.P * t.P := Nat.mul_le_mul_right _ hk
        have h2 := Nat.div_mul_le_self cyc t.P
        rw [Nat.add_mul, Nat.one_mul] at h1
        omega
      have HQe : Hid (cyc / t.P * t.P = cyc) := Nat.div_mul_cancel (Nat.dvd_of_mod_eq_zero e3)
      have hN60 : cyc / t.P ≤ 60 := Nat.le_trans (Nat.div_le_self _ _) hc2
      have HTk := hide (fun k (hk : k < cyc / t.P) => jobsT_take cyc i t hk)
      have HTl := hide (jobsT_len cyc i t)
      clear e3
      generalize cyc / t.P = N at *
      go_loopw [3, 7] (fun lv kv wq => ∃ k : Nat, k ≤ N ∧ kv = .int .i64 k ∧ JbW w wq (.slice (some ⟨g, 0, none⟩) ts.length cap) (.slice pa pm pc) lv (L0 ++ (jobsT cyc i t).take k) ∧ wq.heap[X]? = some (.cells #[.int .u8 t.nm.toNat, .int .i64 t.P, .int .i64 t.O, .int .i64 t.C, .int .i64 t.D, .int .i64 t.q0, .int .i64 t.q1, .int .i64 t.q2, .int .i64 t.q3, .int .i64 t.q4] 95 (0, 0))) (fun _ kv _ => N - (intOf kv).toNat)
      case atStart => exact ⟨0, by omega, rfl, by rw [List.take_zero, List.append_nil]; exact HJ1.out, HX.out⟩
      case round =>
        clear HJ1 HX
        obtain ⟨k, hk, rfl, hJ, hX⟩ := hrel
        obtain ⟨x0, x1, x2, x3, x4, _⟩ := tkA_cells (t := t) hX
        have HX := hide hX
        by_cases hlt2 : k < N
        · obtain ⟨m, hM⟩ : ∃ m, m = k * t.P := ⟨_, rfl⟩
          have hm := HQ.out k hlt2
          rw [← hM] at hm
          have e0 : wrap64 ((k : Int) * (t.P : Int)) = (m : Int) := by rw [← Int.natCast_mul, ← hM]; exact w64 _ (by omega)
          have hd : decide (wrap64 ((k : Int) * (t.P : Int)) < (cyc : Int)) = true := by rw [e0, decide_eq_true_eq]; clear e0; omega
          have e1' : wrap64 (wrap64 ((k : Int) * (t.P : Int)) + (t.O : Int)) = ((m + t.O : Nat) : Int) := by
            rw [e0, ← Int.natCast_add]
            clear e0 hd
            exact w64 _ (by omega)
          have e2' : wrap64 (wrap64 (wrap64 ((k : Int) * (t.P : Int)) + (t.O : Int)) + (t.D : Int)) = ((m + t.O + t.D : Nat) : Int) := by
            rw [e1', ← Int.natCast_add]
            clear e0 e1' hd
            exact w64 _ (by omega)
          have E1 := hide e1'
          have E2 := hide e2'
          have HMm := hide hM
          have hlen : (L0 ++ (jobsT cyc i t).take k).length ≤ 1000 := by
            rw [List.length_append, List.length_take]
            omega
          have HNx : Hid (L0 ++ (jobsT cyc i t).take (k + 1) = (L0 ++ (jobsT cyc i t).take k) ++ [⟨t.nm, k, i, k * t.P + t.O, k * t.P + t.O + t.D, t.C⟩]) := by
            unfold Hid
            rw [HTk.out k hlt2, List.append_assoc]
          generalize L0 ++ (jobsT cyc i t).take k = Lk at *
          obtain ⟨va, vc, rfl⟩ := own_slice hJ.ow
          have ow := hJ.ow
          have hjs := hJ.b.size
          have HJ := hide hJ
          have hJs : w.heap.size + 1 ≤ wr.heap.size := blk_lt hJ.s
          clear hM e0 e1' e2' hm hJ hX
          go_wp2_with (at_builtin; refine Go.wpList_append_own_at _ rfl _ _ 90 rfl (w.heap.size + 1) 97 i0 _ 5 40 Tryz.underlying90 hi0 hz0 hz1 hz2 rfl (by decide) _ _ _ rfl (ow.alloc _) ⟨wr.heap.size, 0, none⟩ 1 1 [.int .i64 i, .int .i64 k, .int .i64 (wrap64 (wrap64 ((k : Int) * (t.P : Int)) + (t.O : Int))), .int .i64 (wrap64 (wrap64 (wrap64 ((k : Int) * (t.P : Int)) + (t.O : Int)) + (t.D : Int))), .int .i64 t.C] rfl rfl ?c1 ?c2 ?c3 ?c4 ?c5 ?_)
          case c1 => exact cells_new wr #[_, _, _, _, _] _ _ rfl
          case c2 => simp [Value.oneCell']
          case c3 => unfold maxLen; omega
          case c4 => omega
          case c5 => simp; omega
          intro v4 w4 hown4 hgr4 _ hloc4
          have HX4 := hide (HJ.out.other HX.out (by decide) hgr4)
          have HJ4 : Hid (JbW w w4 (.slice (some ⟨g, 0, none⟩) ts.length cap) (.slice pa pm pc) v4 (Lk ++ [⟨t.nm, k, i, k * t.P + t.O, k * t.P + t.O + t.D, t.C⟩])) := by
            refine HJ.out.push hgr4 ?_
            rw [E2.out, E1.out, HMm.out] at hown4
            exact hown4
          obtain ⟨va4, vc4, rfl⟩ := own_slice HJ4.out.ow
          clear hown4 hgr4 hloc4 HJ HX E1 E2 ow x0 x1 x2 x3 x4 hd
          go_wp2_with fail
          go_roundw
          case rel => exact ⟨k + 1, by omega, by go_num, by rw [HNx.out]; exact HJ4.out, HX4.out⟩
          case measure => simp [intOf]; omega
        · have hkN : k = N := by omega
          subst hkN
          have hd : decide (wrap64 ((k : Int) * (t.P : Int)) < (cyc : Int)) = false := by
            rw [← Int.natCast_mul, HQe.out, w64 _ (by omega), decide_eq_false_iff_not]
            omega
          have HJf : Hid (JbW w wr (.slice (some ⟨g, 0, none⟩) ts.length cap) (.slice pa pm pc) u3 (jobsL cyc 0 (ts.take (i + 1)))) := by
            unfold Hid
            rw [HJn.out]
            rw [List.take_of_length_le (by rw [HTl.out]; omega)] at hJ
            exact hJ
          clear hJ hX
          go_wp2_with fail
          go_roundw
          case rel => exact ⟨i + 1, by omega, by go_num, HJf.out⟩
          case measure => simp [intOf]; omega
    · have hlt' : ¬ (i : Int) < ts.length := by omega
      have hie : i = ts.length := by omega
      subst hie
      rw [List.take_length] at hJ
      obtain ⟨va, vc, rfl⟩ := own_slice hJ.ow
      have HJ := hide hJ
      clear hJ
      go_wp2_with fail
      go_ret
      exact ⟨va, vc, rfl, own_weak HJ.out.ow (Nat.le_succ _), HJ.out.b⟩
end Go.Proofs.YtbdffcjganlblaaGreatDoor
