/-
  Own work. The program's plan: newPlan.
-/
import Derived.Test.YtbdffcjganlblaaGreatDoorSoFtoPnH
import Derived.Test.YtbdffcjganlblaaGreatDoorTabBtoPlC
namespace Go.Proofs.YtbdffcjganlblaaGreatDoor
open Go.RowKit
set_option linter.unusedVariables false
set_option linter.unusedSimpArgs false

theorem NpW.start (l : List (Tk × Nat)) (cyc g cap : Nat) (pa : Option Addr) (pn pc : Nat) (w : World) : NpW l cyc g cap pa pn pc w 0 [] (fun _ => 0) [] (.slice none 0 0) (((w.alloc (.cells #[.slice (some ⟨g, 0, none⟩) l.length cap, .slice pa pn pc] 84)).alloc (.map #[] 0)).alloc (.cells #[.slice pa pn pc, .map (some (w.heap.size + 1)), .slice none 0 0, .slice none 0 0] 221)) := by
  have hm := SMap.made (w.alloc (.cells #[.slice (some ⟨g, 0, none⟩) l.length cap, .slice pa pn pc] 84))
  have e1 : (w.alloc (.cells #[.slice (some ⟨g, 0, none⟩) l.length cap, .slice pa pn pc] 84)).heap.size = w.heap.size + 1 := by simp
  rw [e1] at hm
  refine ⟨by simp [jobsL], ?_, ?_, fun k hk => by simp at hk, ⟨hm.keep (Below.heap_alloc _ _ _ (by simp)), (fun x hx => by simp at hx), (fun x hx => by simp at hx)⟩, World.ownsRow_nil _ _ _ _, by simp, (fun x hx => by simp at hx), (fun k hk => by simp at hk), (fun p q hp => by simp at hp), ?_⟩
  · rw [Below.heap_alloc _ _ _ (by simp; omega), Below.heap_alloc _ _ _ (by simp)]
    exact blk_new _ _ _
  · have := blk_new ((w.alloc (.cells #[.slice (some ⟨g, 0, none⟩) l.length cap, .slice pa pn pc] 84)).alloc (.map #[] 0)) #[.slice pa pn pc, .map (some (w.heap.size + 1)), .slice none 0 0, .slice none 0 0] 221
    simpa using this
  · exact (((Below.refl _ w).alloc (Nat.le_refl _) _).alloc (by simp) _).alloc (by simp; omega) _
theorem NpW.ltr {l : List (Tk × Nat)} {cyc g cap : Nat} {pa : Option Addr} {pn pc : Nat} {w : World} {i : Nat} {js : List Jb} {bl : Nat → Nat} {es : List (UInt8 × Value)} {c2 : Value} {wr : World} (h : NpW l cyc g cap pa pn pc w i js bl es c2 wr) : ∀ k, k < js.length → (jk js k).ltr ∈ es.map Prod.fst := fun k hk => by
  have hm : jk js k ∈ jobsL cyc 0 ((l.map Prod.fst).take i) := by rw [← h.is, jk_get hk]; exact List.getElem_mem _
  obtain ⟨q, hq, n, hn, e⟩ := (jobsL_mem _ _ _ _).1 hm
  rw [e, h.keys, List.map_take]
  have h2 : ((l.map Prod.fst).take i)[q].nm ∈ ((l.map Prod.fst).take i).map Tk.nm := List.mem_map.2 ⟨_, List.getElem_mem _, rfl⟩
  rw [List.map_take, List.map_map] at h2
  exact h2

/-- A new plan. -/
structure NpF (l : List (Tk × Nat)) (cyc : Nat) (pa : Option Addr) (pn pc : Nat) (w : World) (js : List Jb) (bl : Nat → Nat) (es : List (UInt8 × Value)) (c2 : Value) (Cm : List Nat) (wr : World) : Prop where
  is : js = jobsL cyc 0 (l.map Prod.fst)
  pln : wr.heap[w.heap.size + 2]? = some (.cells #[.slice pa pn pc, .map (some (w.heap.size + 1)), c2, .slice none 0 0] 221 (0, 0))
  jobs : JobsAt js bl (costJ js) wr
  map : MapAt js bl (w.heap.size + 1) es wr
  com : RowJ wr w.heap.size c2 bl Cm
  srt : Sorted js (List.range js.length) Cm
  keys : es.map Prod.fst = l.map (·.1.nm)
  apart : ∀ x ∈ es, ∀ b, x.2.ownBlock = some b → w.heap.size ≤ b
  low : ∀ k, k < js.length → w.heap.size < bl k
  inj : ∀ p q, p < js.length → q < js.length → bl p = bl q → p = q
  b : Below w.heap.size w wr
def NpOut (l : List (Tk × Nat)) (cyc : Nat) (pa : Option Addr) (pn pc : Nat) (w : World) (en : Ending) (w' : World) : Prop :=
  en = .returned (.pointer (some ⟨w.heap.size + 2, 0, none⟩)) ∧ ∃ js bl es c2 Cm, NpF l cyc pa pn pc w js bl es c2 Cm w'

set_option maxRecDepth 100000 in
set_option maxHeartbeats 8000000 in
theorem newPlan_any (l : List (Tk × Nat)) (cyc g cap : Nat) (pa : Option Addr) (pn pc : Nat) (w : World) (hg : g < w.heap.size) (hr : RowPT w g l) (hn : l.length ≤ 6) (hts : TsOk (l.map Prod.fst) cyc) (hcy : cycI (l.map Prod.fst) = cyc) :
    Calls Tryz.prog 154 #[.agg #[.slice (some ⟨g, 0, none⟩) l.length cap, .slice pa pn pc]] w (NpOut l cyc pa pn pc w) := by
  obtain ⟨i0, hi0, hz0, hz1, hz2⟩ := info_parts Tryz.infoJP
  have HN0 := hide (NpW.start l cyc g cap pa pn pc w)
  have hmk : ∀ W : World, (Instr.makeMap 217 none).run Tryz.prog W = .ok (.map (some W.heap.size)) (W.alloc (.map #[] 0)) := fun W => by simp [Instr.makeMap, run_underlying Tryz.underlying217]
  have HR := hide hr
  have HT := hide hts
  have HC := hide hcy
  have HW := hide (jobs_few hts)
  clear hr hts hcy
  go_enter Tryz.func154, Tryz.ntmps154
  go_wp2_with fail
  go_loopw [15] (fun iv wr => ∃ (i : Nat) (js : List Jb) (bl : Nat → Nat) (es : List (UInt8 × Value)) (c2 : Value), i ≤ l.length ∧ iv = .int .i64 i ∧ NpW l cyc g cap pa pn pc w i js bl es c2 wr) (fun iv _ => l.length - (intOf iv).toNat)
  case atStart => exact ⟨0, _, _, _, _, by omega, rfl, HN0.out⟩
  case round =>
    obtain ⟨i, js, bl, es, c2, hi, rfl, hW⟩ := hrel
    by_cases hlt : i < l.length
    · have hlt' : (i : Int) < l.length := by omega
      have hgw : g < wr.heap.size := Nat.lt_of_lt_of_le hg hW.b.size
      obtain ⟨r0, r1, r2, r3, r4, r5, r6, r7, r8, r9⟩ := (HR.out.keep (hW.b.block g hg)) i hlt
      have HW1 := hide hW
      clear hW
      generalize hx : lk l i = x at *
      have HX := hide hx
      clear hx
      have hxm : x.1 ∈ l.map Prod.fst := by
        rw [← HX.out]
        unfold lk
        rw [List.getD_eq_getElem?_getD, List.getElem?_eq_getElem hlt]
        exact List.mem_map.2 ⟨_, List.getElem_mem _, rfl⟩
      have hte := HT.out.each x.1 hxm
      have hc1 := HT.out.c1
      have hc2 := HT.out.c2
      have hP60 : x.1.P ≤ cyc := Nat.le_of_dvd (by omega) (Nat.dvd_of_mod_eq_zero hte.2.1)
      -- the task's own copy
      have HA := hide (HW1.out.keep (below_new wr (.cells (ptA x) 172)))
      have hX0 : (wr.alloc (.cells (ptA x) 172)).heap[wr.heap.size]? = some (.cells (ptA x) 172 (0, 0)) := blk_new _ _ _
      have HS : Hid (∀ W : World, W.heap[wr.heap.size]? = some (.cells (ptA x) 172 (0, 0)) → W.heap[w.heap.size]? = some (.cells #[.slice (some ⟨g, 0, none⟩) l.length cap, .slice pa pn pc] 84 (0, 0)) → (fun w' => (w'.cell? ⟨wr.heap.size, 0, none⟩ = some (.string (bs [x.1.nm])) ∧ w'.cell? ⟨wr.heap.size, 1, none⟩ = some (.int .i64 x.1.q0) ∧ w'.cell? ⟨wr.heap.size, 2, none⟩ = some (.int .i64 x.1.P) ∧ w'.cell? ⟨wr.heap.size, 3, none⟩ = some (.int .i64 x.1.q1) ∧ w'.cell? ⟨wr.heap.size, 4, none⟩ = some (.int .i64 x.1.O) ∧ w'.cell? ⟨wr.heap.size, 5, none⟩ = some (.int .i64 x.2) ∧ w'.cell? ⟨wr.heap.size, 6, none⟩ = some (.int .i64 x.1.C) ∧ w'.cell? ⟨wr.heap.size, 7, none⟩ = some (.int .i64 x.1.q3) ∧ w'.cell? ⟨wr.heap.size, 8, none⟩ = some (.int .i64 x.1.D) ∧ w'.cell? ⟨wr.heap.size, 9, none⟩ = some (.int .i64 x.1.q4)) ∧ w'.cell? ⟨w.heap.size, 0, none⟩ = some (.slice (some ⟨g, 0, none⟩) l.length cap) ∧ w'.cell? ⟨w.heap.size, 1, none⟩ = some (.slice pa pn pc)) W) := fun W h1 h2 => ⟨ptA_cells h1, by rw [blk_cell h2]; rfl, by rw [blk_cell h2]; rfl⟩
      have h0c := hide (HS.out ((wr.alloc (.cells (ptA x) 172)).drew) hX0 HA.out.set)
      have hgA : g < (wr.alloc (.cells (ptA x) 172)).heap.size := by simp; omega
      have HRA := hide ((HR.out.keep (HA.out.b.block g hg)))
      have CC := hide (cyc_any l g cap pa pn pc ((wr.alloc (.cells (ptA x) 172)).drew) hgA HRA.out hn (fun k hk => by
        have hm : (lk l k).1 ∈ l.map Prod.fst := by
          unfold lk
          rw [List.getD_eq_getElem?_getD, List.getElem?_eq_getElem hk]
          exact List.mem_map.2 ⟨_, List.getElem_mem _, rfl⟩
        have h5 := HT.out.each _ hm
        have h6 : (lk l k).1.P ≤ cyc := Nat.le_of_dvd (by omega) (Nat.dvd_of_mod_eq_zero h5.2.1)
        omega) (by rw [HC.out]; omega))
      rw [HC.out] at CC
      have CJ : Hid (∀ W, Calls Tryz.prog 172 #[.agg #[.string (bs [x.1.nm]), .int .i64 x.1.q0, .int .i64 x.1.P, .int .i64 x.1.q1, .int .i64 x.1.O, .int .i64 x.2, .int .i64 x.1.C, .int .i64 x.1.q3, .int .i64 x.1.D, .int .i64 x.1.q4], .int .i64 cyc, .int .i64 i] W (JiOut x i cyc W)) := fun W => jobsIn_any x cyc i W hte.1 (by omega) (by omega) (by omega) (by omega) hc2 (by omega)
      unfold ptA at HA hX0 HS h0c hgA HRA CC
      go_wp2_with fail
      clear r0 r1 r2 r3 r4 r5 r6 r7 r8 r9
      go_region_held_law (fun w' => (w'.cell? ⟨wr.heap.size, 0, none⟩ = some (.string (bs [x.1.nm])) ∧ w'.cell? ⟨wr.heap.size, 1, none⟩ = some (.int .i64 x.1.q0) ∧ w'.cell? ⟨wr.heap.size, 2, none⟩ = some (.int .i64 x.1.P) ∧ w'.cell? ⟨wr.heap.size, 3, none⟩ = some (.int .i64 x.1.q1) ∧ w'.cell? ⟨wr.heap.size, 4, none⟩ = some (.int .i64 x.1.O) ∧ w'.cell? ⟨wr.heap.size, 5, none⟩ = some (.int .i64 x.2) ∧ w'.cell? ⟨wr.heap.size, 6, none⟩ = some (.int .i64 x.1.C) ∧ w'.cell? ⟨wr.heap.size, 7, none⟩ = some (.int .i64 x.1.q3) ∧ w'.cell? ⟨wr.heap.size, 8, none⟩ = some (.int .i64 x.1.D) ∧ w'.cell? ⟨wr.heap.size, 9, none⟩ = some (.int .i64 x.1.q4)) ∧ w'.cell? ⟨w.heap.size, 0, none⟩ = some (.slice (some ⟨g, 0, none⟩) l.length cap) ∧ w'.cell? ⟨w.heap.size, 1, none⟩ = some (.slice pa pn pc)) (first | exact h0c.out | exact h8c | exact h9c)
        (first | (go_at_call 128; refine CC.out.mono ?_; rintro en w8 ⟨rfl, hb8⟩; have h8c := HS.out w8 (blk_keep hX0 ⟨hb8.os, hb8.tape, hb8.output, hb8.size, hb8.block⟩) (blk_keep HA.out.set ⟨hb8.os, hb8.tape, hb8.output, hb8.size, hb8.block⟩)) | (go_at_call 172; refine (CJ.out _).mono ?_; rintro en w9 ⟨v9, bt, rfl, hJ9⟩; have h9c := HS.out w9 (blk_keep (blk_keep hX0 ⟨hb8.os, hb8.tape, hb8.output, hb8.size, hb8.block⟩) hJ9.b) (blk_keep (blk_keep HA.out.set ⟨hb8.os, hb8.tape, hb8.output, hb8.size, hb8.block⟩) hJ9.b)))
      all_goals
        have N8 := HA.out.keep (⟨hb8.os, hb8.tape, hb8.output, hb8.size, hb8.block⟩ : Below (wr.alloc (.cells #[.string (bs [x.1.nm]), .int .i64 x.1.q0, .int .i64 x.1.P, .int .i64 x.1.q1, .int .i64 x.1.O, .int .i64 x.2, .int .i64 x.1.C, .int .i64 x.1.q3, .int .i64 x.1.D, .int .i64 x.1.q4] 172)).heap.size (wr.alloc (.cells #[.string (bs [x.1.nm]), .int .i64 x.1.q0, .int .i64 x.1.P, .int .i64 x.1.q1, .int .i64 x.1.O, .int .i64 x.2, .int .i64 x.1.C, .int .i64 x.1.q3, .int .i64 x.1.D, .int .i64 x.1.q4] 172)) w8)
        have N9 := N8.keep hJ9.b
        have hel : es.length = i := by
          have := congrArg List.length N9.keys
          rw [List.length_map, List.length_map, List.length_take] at this
          omega
        have hnm : x.1.nm ∉ es.map Prod.fst := by
          rw [N9.keys]
          intro hin
          obtain ⟨q, hq, e⟩ := List.getElem_of_mem hin
          have hq2 : q < i := by simp at hq; omega
          have hl0 : lk l i = l[i] := by unfold lk; rw [List.getD_eq_getElem?_getD, List.getElem?_eq_getElem hlt]; rfl
          have h6 := names_inj HT.out.name (i := q) (j := i) (by simp; omega) (by simpa using hlt) (by
            simp at e
            rw [← HX.out, hl0] at e
            simpa using e)
          omega
        have hm1 : 0 < cyc / x.1.P := Nat.div_pos hP60 hte.1
        have hm60 : cyc / x.1.P ≤ 60 := Nat.le_trans (Nat.div_le_self _ _) hc2
        obtain ⟨w10, hrun, hm10, hg10⟩ := SMap.store (w := w9.drew) (N9.map.m.keep (w' := w9.drew) rfl) x.1.nm (fun y hy e => hnm (List.mem_map.2 ⟨y, hy, e⟩)) (by omega) v9
        unfold ltV at hrun
        have hg10' : w9.grownBy w10 (some (w.heap.size + 1)) := ⟨hg10.os, hg10.tape, hg10.output, hg10.size, hg10.block⟩
        obtain ⟨ca, ccap, hc2v, _, _⟩ := N9.com.len
        rw [List.length_range] at hc2v
        have hc2e := hc2v
        subst hc2v
        obtain ⟨g9, cap9, cur9, hv9, _, hg9, _, _, _, hcl9⟩ := hJ9.row.form (by rw [List.length_range]; exact hm1)
        rw [List.length_range] at hv9 hcl9
        subst hv9
        have p1 : w9.cell? ⟨w.heap.size + 1 + 1, 1, none⟩ = some (.map (some (w.heap.size + 1))) := by rw [blk_cell N9.pln]; rfl
        have l0 := h9c.1.1
        have hpl10 : w10.heap[w.heap.size + 2]? = some (.cells #[.slice pa pn pc, .map (some (w.heap.size + 1)), .slice ca js.length ccap, .slice none 0 0] 221 (0, 0)) := by
          rw [hg10'.block _ (blk_lt N9.pln) (by simp)]
          exact N9.pln
        have p2 : w10.cell? ⟨w.heap.size + 1 + 1, 2, none⟩ = some (.slice ca js.length ccap) := by rw [blk_cell hpl10]; rfl
        have p2f : w10.frozen? ⟨w.heap.size + 1 + 1, 2, none⟩ = false := blk_frozen hpl10 2
        have hMne : (Value.slice ca js.length ccap).ownBlock ≠ some (w.heap.size + 1) := fun e => by
          obtain ⟨_, c, fr, e'⟩ := own_typed N9.com e
          exact N9.map.m.noCells _ _ _ e'
        have hPne : (Value.slice ca js.length ccap).ownBlock ≠ some (w.heap.size + 1 + 1) := fun e => by
          obtain ⟨_, c, fr, e'⟩ := own_typed N9.com e
          rw [show w.heap.size + 1 + 1 = w.heap.size + 2 from rfl, N9.pln] at e'
          simp at e'
        have hM8 := N8.map.m.lt
        have com10 : w10.ownsRow w.heap.size 226 1 (.slice ca js.length ccap) js.length (ptV bl (List.range js.length)) := by
          have := N9.com.kept hg10' (Or.inr hMne)
          rw [List.length_range] at this
          exact this
        have hg9l := (hJ9.row.lt g9 rfl).1
        have hcl10 : ∀ q u, (ptV bt (List.range (cyc / x.1.P)))[q]? = some u → w10.cell? ((⟨g9, 0, none⟩ : Addr).add q) = some u := fun q u hq => by
          have hql : q < cyc / x.1.P := by
            have := (List.getElem?_eq_some_iff.1 hq).1
            simpa [ptV] using this
          have e9 : ((⟨g9, 0, none⟩ : Addr).add q) = ⟨g9, q, none⟩ := by simp [Addr.add]; intro h; exact h.symm
          rw [e9, World.cell?_of_block (w := w9) (hg10'.block g9 (blk_lt hg9) (by simp; omega)), blk_cell hg9, hcl9 q hql, ← hq]
          simp [ptV, gd, hql]
        have hjl20 : js.length + cyc / x.1.P ≤ 1000 := by
          have h1 : js.length ≤ (jobsL cyc 0 (l.map Prod.fst)).length := by
            rw [N9.is]
            conv => rhs; rw [← List.take_append_drop i (l.map Prod.fst)]
            have : ∀ (a b : List Tk) (k : Nat), (jobsL cyc k a).length ≤ (jobsL cyc k (a ++ b)).length := by
              intro a
              induction a with
              | nil => intro b k; simp [jobsL]
              | cons t r ih =>
                intro b k
                simp only [List.cons_append, jobsL, List.length_append]
                have := ih b (k + 1)
                omega
            exact this _ _ 0
          have := HW.out
          omega
        have HPush := hide (fun (w11 : World) (c2' : Value) (ho : w11.ownsRow w.heap.size 226 1 c2' (js.length + cyc / x.1.P) (ptV bl (List.range js.length) ++ ptV bt (List.range (cyc / x.1.P)))) (hg11 : w10.grownBy w11 (Value.slice ca js.length ccap).ownBlock) (hloc : c2'.ownBlock = (Value.slice ca js.length ccap).ownBlock ∨ c2'.ownBlock = some w10.heap.size) => NpW.push N9 N8 hlt HX.out hJ9 (hm10) hg10' ho hg11 hloc hnm hm60 N9.ltr)
        have hsz10 : w.heap.size ≤ w10.heap.size := Nat.le_trans N9.b.size hg10'.size
        clear h9c h8c hb8 hJ9 N8 N9 hm10 hg10 hg10' hpl10 hg9 hcl9 hMne hel hnm HA HS h0c CC CJ hX0 hc2e
        go_wp2_with fail
        go_region
        all_goals
          clear hrun p1 l0 hmk
          generalize hMM : cyc / x.1.P = mm at *
          clear hMM
          go_wp2_with (at_builtin; refine Go.wpList_append_own_at _ rfl _ _ 218 rfl w.heap.size 226 i0 _ 1 8 Tryz.underlying218 hi0 hz0 hz1 hz2 rfl (by decide) _ _ _ rfl com10 ⟨g9, 0, none⟩ mm cap9 (ptV bt (List.range mm)) rfl ?c1 ?c2 ?c3 ?c4 ?c5 ?c6 ?_)
          case c1 => simp [ptV]
          case c2 => exact hcl10
          case c3 =>
            intro u hu
            obtain ⟨q, _, rfl⟩ := List.mem_map.1 hu
            rfl
          case c4 => unfold maxLen; omega
          case c5 => omega
          case c6 => exact hsz10
          intro v11 w11 hown11 hgr11 _ hloc11
          obtain ⟨g11, cap11, hv11, _, _⟩ := own_form hown11 (by omega)
          subst hv11
          have HN := hide (HPush.out w11 _ hown11 hgr11 hloc11)
          have hPlt : w.heap.size + 2 < w10.heap.size := World.block_lt_of_cell? w10 ⟨w.heap.size + 1 + 1, 2, none⟩ p2
          have q2 : w11.cell? ⟨w.heap.size + 1 + 1, 2, none⟩ = some (.slice ca js.length ccap) := by rw [World.cell?_of_block (w := w10) (hgr11.block _ hPlt (fun e => hPne e.symm))]; exact p2
          have q2f : w11.frozen? ⟨w.heap.size + 1 + 1, 2, none⟩ = false := by rw [World.frozen?_of_block (w := w10) (hgr11.block _ hPlt (fun e => hPne e.symm))]; exact p2f
          clear hown11 hgr11 hloc11 HPush p2 p2f com10 hcl10
          go_wp2_with fail
          go_roundw
          case rel => exact ⟨i + 1, _, _, _, _, by omega, by go_num, HN.out⟩
          case measure => simp [intOf]; omega
    · have hlt' : ¬ (i : Int) < l.length := by omega
      have hil : i = l.length := by omega
      have his := hW.is
      rw [hil, List.take_of_length_le (by simp)] at his
      have hkeys := hW.keys
      rw [hil, List.take_length] at hkeys
      have hjl : js.length ≤ 360 := by rw [his]; exact HW.out
      have CS := hide (sort_any js bl (costJ js) (List.range js.length) w.heap.size c2 wr hW.com hW.jobs (fun x hx => by simpa using hx) (by rw [List.length_range]; omega))
      have p2 : wr.cell? ⟨w.heap.size + 1 + 1, 2, none⟩ = some c2 := by rw [blk_cell hW.pln]; rfl
      obtain ⟨ca, ccap, hc2v, _, _⟩ := hW.com.len
      rw [List.length_range] at hc2v
      subst hc2v
      have HW1 := hide hW
      have His := hide his
      have Hkeys := hide hkeys
      clear hW his hkeys hil hmk
      go_wp2_with fail
      refine CS.out.mono ?_
      rintro en w1 ⟨rfl, ⟨Cm, hS, hR1⟩, hf1⟩
      have h0 := HW1.out
      have hMne : (Value.slice ca js.length ccap).ownBlock ≠ some (w.heap.size + 1) := fun e => by
        obtain ⟨_, c, fr, e'⟩ := own_typed h0.com e
        exact h0.map.m.noCells _ _ _ e'
      have hPne : (Value.slice ca js.length ccap).ownBlock ≠ some (w.heap.size + 2) := fun e => by
        obtain ⟨_, c, fr, e'⟩ := own_typed h0.com e
        rw [h0.pln] at e'
        simp at e'
      have HF : Hid (NpF l cyc pa pn pc w js bl es (.slice ca js.length ccap) Cm w1) :=
        ⟨His.out, hf1.blk h0.pln hPne, h0.jobs.keep hf1 (fun k hk e => own_not_job h0.com h0.jobs hk e), h0.map.keep hf1 hMne (fun x hx b hb e => (h0.apart x hx b hb).2 e), hR1, hS, Hkeys.out, (fun x hx b hb => (h0.apart x hx b hb).1), h0.low, h0.inj, h0.b.trans (hf1.below h0.b.size (fun k hk e => by have := (h0.com.lt k e).1; omega))⟩
      clear hS hR1 hf1 h0 HW1 CS p2 hMne hPne
      go_wp2_with fail
      go_ret
      exact ⟨rfl, js, bl, es, _, Cm, HF.out⟩
end Go.Proofs.YtbdffcjganlblaaGreatDoor

namespace Go.Proofs.YtbdffcjganlblaaGreatDoor
open Go.RowKit
set_option linter.unusedVariables false
set_option linter.unusedSimpArgs false

/-- Ahead of the frame that begins at s. -/
structure PInv (js : List Jb) (s : Nat) (left : Nat → Nat) (L Cm : List Nat) : Prop where
  nod : (L ++ Cm).Nodup
  iff : ∀ k, (k ∈ L ∨ k ∈ Cm) ↔ k < js.length ∧ 0 < left k
  rel : ∀ k ∈ L, (jk js k).rel ≤ s
  srt : Srt (relK js) Cm 0 Cm.length
  lo : ∀ k, left k ≤ costJ js k
section
variable {js : List Jb} {cyc s : Nat} {ps : List Pr} {left : Nat → Nat} {L Cm : List Nat}
theorem PInv.start (hj : JsOk js cyc) (hS : Sorted js (List.range js.length) Cm) : PInv js 0 (costJ js) [] Cm := by
  refine ⟨by rw [List.nil_append]; exact hS.perm.nodup_iff.2 List.nodup_range, fun k => ?_, (fun k hk => by simp at hk), hS.srt, fun k => Nat.le_refl _⟩
  rw [hS.perm.mem_iff]
  constructor
  · rintro (h | h)
    · simp at h
    · have h5 : k < js.length := by simpa using h
      exact ⟨h5, hj.cost k h5⟩
  · intro h
    exact .inr (by simpa using h.1)
theorem PInv.released (h : PInv js s left L Cm) {i : Nat} {L' : List Nat} (hp : L'.Perm (L ++ Cm.take i)) (h1 : ∀ x ∈ Cm.take i, (jk js x).rel ≤ s) (h2 : ∀ x ∈ Cm.drop i, s < (jk js x).rel) : RdyL js left s L' := by
  have hn := h.nod
  rw [← List.take_append_drop i Cm, ← List.append_assoc] at hn
  refine ⟨hp.nodup_iff.2 (List.nodup_append.1 hn).1, fun k => ?_⟩
  rw [hp.mem_iff, List.mem_append]
  constructor
  · rintro (h5 | h5)
    · have h6 := (h.iff k).1 (.inl h5)
      exact ⟨h6.1, h.rel k h5, h6.2⟩
    · have h6 := (h.iff k).1 (.inr (List.mem_of_mem_take h5))
      exact ⟨h6.1, h1 k h5, h6.2⟩
  · rintro ⟨a1, a2, a3⟩
    rcases (h.iff k).2 ⟨a1, a3⟩ with h5 | h5
    · exact .inl h5
    · rw [← List.take_append_drop i Cm, List.mem_append] at h5
      rcases h5 with h5 | h5
      · exact .inr h5
      · have := h2 k h5
        omega
theorem srt_drop {key : Nat → Nat} {C : List Nat} (h : Srt key C 0 C.length) (i : Nat) : Srt key (C.drop i) 0 (C.drop i).length := fun q h1 h2 => by
  rw [List.length_drop] at h2
  have e : ∀ q, gd (C.drop i) q = gd C (i + q) := fun q => by simp [gd, List.getD_eq_getElem?_getD]
  rw [e, e]
  exact h (i + q) (by omega) (by omega)
theorem PInv.filled (h : PInv js s left L Cm) {i : Nat} {L2 : List Nat} {e f : Nat} (h1 : ∀ x ∈ Cm.take i, (jk js x).rel ≤ s) (h2 : ∀ x ∈ Cm.drop i, s < (jk js x).rel) (hR : RdyL js (fillJ js ps s e f s left).2 s L2) {s2 : Nat} (hs : s ≤ s2) : PInv js s2 (fillJ js ps s e f s left).2 L2 (Cm.drop i) := by
  obtain ⟨⟨f1, f2, f3⟩, f4, f5⟩ := fill_ok js ps s e f s left
  have hlate : ∀ k, s < (jk js k).rel → (fillJ js ps s e f s left).2 k = left k := fun k hk => by
    have h6 := f4 k
    rcases Nat.eq_zero_or_pos (gvn k (fillJ js ps s e f s left).1) with h7 | h7
    · omega
    · obtain ⟨x, hx, ex⟩ := gvn_pos h7
      have h8 := (f1 x hx).2.1
      rw [ex] at h8
      omega
  have hn := h.nod
  have hnC := (List.nodup_append.1 hn).2.1
  refine ⟨?_, fun k => ?_, fun k hk => Nat.le_trans ((hR.iff k).1 hk).2.1 hs, srt_drop h.srt i, fun k => ?_⟩
  · rw [List.nodup_append]
    refine ⟨hR.nod, hnC.sublist (List.drop_sublist _ _), fun a ha b hb e => ?_⟩
    have h5 := ((hR.iff a).1 ha).2.1
    have h6 := h2 b hb
    rw [← e] at h6
    omega
  · rw [hR.iff k]
    constructor
    · rintro (⟨a1, a2, a3⟩ | h5)
      · exact ⟨a1, a3⟩
      · have h6 := (h.iff k).1 (.inr (List.mem_of_mem_drop h5))
        exact ⟨h6.1, by rw [hlate k (h2 k h5)]; exact h6.2⟩
    · rintro ⟨a1, a2⟩
      by_cases hr : (jk js k).rel ≤ s
      · exact .inl ⟨a1, hr, a2⟩
      · right
        rw [hlate k (by omega)] at a2
        rcases (h.iff k).2 ⟨a1, a2⟩ with h5 | h5
        · exact absurd (h.rel k h5) hr
        · rw [← List.take_append_drop i Cm, List.mem_append] at h5
          rcases h5 with h5 | h5
          · exact absurd (h1 k h5) hr
          · exact h5
  · have h6 := f4 k
    have := h.lo k
    omega
theorem PInv.done (h : PInv js s left L Cm) : (decide (Cm.length = 0) && decide (L.length = 0)) = allJ js left := by
  rw [Bool.eq_iff_iff]
  unfold allJ
  rw [Bool.and_eq_true, decide_eq_true_eq, decide_eq_true_eq, List.all_eq_true]
  constructor
  · rintro ⟨h1, h2⟩ k hk
    have e1 := List.length_eq_zero_iff.1 h1
    have e2 := List.length_eq_zero_iff.1 h2
    subst e1 e2
    have := (h.iff k).2
    simp at hk
    rcases Nat.eq_zero_or_pos (left k) with h5 | h5
    · simp [h5]
    · have := this ⟨hk, h5⟩
      simp at this
  · intro h5
    have hno : ∀ k, ¬ (k ∈ L ∨ k ∈ Cm) := fun k hk => by
      obtain ⟨a1, a2⟩ := (h.iff k).1 hk
      have := h5 k (by simpa using a1)
      simp at this
      omega
    refine ⟨?_, ?_⟩
    · rw [List.length_eq_zero_iff]
      cases Cm with
      | nil => rfl
      | cons x r => exact absurd (.inr (by simp)) (hno x)
    · rw [List.length_eq_zero_iff]
      cases L with
      | nil => rfl
      | cons x r => exact absurd (.inl (by simp)) (hno x)
end
/-- The pairs of a set, among its tasks. -/
structure PrOk (l : List (Tk × Nat)) (cyc : Nat) (ps : List Pr) : Prop where
  a : ∀ p ∈ ps, p.a ∈ l.map (·.1.nm)
  b : ∀ p ∈ ps, p.b ∈ l.map (·.1.nm)
  bef : ∀ p ∈ ps, p.ap = false → ∀ i j, (hi : i < l.length) → (hj : j < l.length) → l[i].1.nm = p.a → l[j].1.nm = p.b → l[i].1.P = l[j].1.P
  len : ps.length ≤ 6
theorem NpF.ps {l : List (Tk × Nat)} {cyc : Nat} {pa : Option Addr} {pn pc : Nat} {w : World} {js : List Jb} {bl : Nat → Nat} {es : List (UInt8 × Value)} {c2 : Value} {Cm : List Nat} {wr : World} (h : NpF l cyc pa pn pc w js bl es c2 Cm wr) {ps : List Pr} (hp : PrOk l cyc ps) : PsOk js es ps := by
  have hin : ∀ c, c ∈ l.map (·.1.nm) → ∃ x ∈ es, x.1 = c := fun c hc => by
    rw [← h.keys] at hc
    obtain ⟨x, hx, e⟩ := List.mem_map.1 hc
    exact ⟨x, hx, e⟩
  refine ⟨fun p hpp => hin _ (hp.a p hpp), fun p hpp => hin _ (hp.b p hpp), fun p hpp hap k hk hkb => ?_⟩
  have hm : jk js k ∈ jobsL cyc 0 (l.map Prod.fst) := by rw [← h.is, jk_get hk]; exact List.getElem_mem _
  obtain ⟨q, hq, n, hn, e⟩ := (jobsL_mem _ _ _ _).1 hm
  obtain ⟨i, hi, ei⟩ := List.getElem_of_mem (hp.a p hpp)
  have hi' : i < l.length := by simpa using hi
  have hq' : q < l.length := by simpa using hq
  have ea : l[i].1.nm = p.a := by simpa using ei
  have eb : l[q].1.nm = p.b := by
    rw [e] at hkb
    simpa [jobA] using hkb
  have hP := hp.bef p hpp hap i q hi' hq' ea eb
  have him : i < (l.map Prod.fst).length := by simpa using hi'
  have hx := (jobsL_mem cyc (l.map Prod.fst) 0 (jobA (0 + i) (l.map Prod.fst)[i] n)).2 ⟨i, him, n, by
    have h7 : (l.map Prod.fst)[i].P = (l.map Prod.fst)[q].P := by simpa using hP
    rw [h7]
    exact hn, rfl⟩
  rw [← h.is] at hx
  obtain ⟨j, hj, ej⟩ := List.getElem_of_mem hx
  refine ⟨j, hj, ?_, ?_⟩
  · rw [jk_get hj, ej]
    simpa [jobA] using ea
  · rw [jk_get hj, ej, e]
    rfl
/-- A new plan is one at work. -/
theorem NpF.pl {l : List (Tk × Nat)} {cyc : Nat} {pa : Option Addr} {pc : Nat} {w : World} {js : List Jb} {bl : Nat → Nat} {es : List (UInt8 × Value)} {c2 : Value} {Cm : List Nat} {wr : World} {ps : List Pr} (h : NpF l cyc pa ps.length pc w js bl es c2 Cm wr) (hp : PrOk l cyc ps) (hts : TsOk (l.map Prod.fst) cyc) (hpa : PairsAt w pa ps) (hgp : ∀ gp, pa = some ⟨gp, 0, none⟩ → gp < w.heap.size) :
    PlS js cyc ps bl (costJ js) (w.heap.size + 2) (w.heap.size + 1) es pa pc c2 wr.heap.size (.slice none 0 0) [] wr ∧ ComAt w.heap.size wr.heap.size (w.heap.size + 2) js bl c2 Cm wr := by
  have hPl := blk_lt h.pln
  have hjl : ∀ k, k < js.length → bl k < wr.heap.size := fun k hk => blk_lt (h.jobs k hk)
  have hjP : ∀ k, k < js.length → bl k ≠ w.heap.size + 2 := fun k hk e => by
    have := h.jobs k hk
    rw [e, h.pln] at this
    simp at this
  have hty : ∀ {b0 : Nat} {u : Value} {T : List Nat}, RowJ wr b0 u bl T → ∀ b, u.ownBlock = some b → b < wr.heap.size ∧ b ≠ w.heap.size + 2 := fun hr b hb => ⟨(hr.lt b hb).2, fun e => by
    obtain ⟨_, c, fr, e'⟩ := own_typed hr hb
    rw [e, h.pln] at e'
    simp at e'⟩
  refine ⟨⟨⟨h.pln, World.ownsRow_nil _ _ _ _⟩, h.jobs, h.map, hpa.keep (Below.frm h.b) (fun gp hg hX => by have := hgp gp hg; omega), hp_nil _, ⟨hPl, ⟨h.map.m.lt, by omega⟩, fun x hx b hb => ?_, fun k hk => ⟨hjl k hk, hjP k hk⟩, fun gp hg => ?_, h.inj⟩, Nat.le_refl _, (fun x hx => by simp at hx), by rw [h.is]; exact jobs_of hts, h.ps hp, hp.len⟩, ?_⟩
  · obtain ⟨T, r1, _⟩ := h.map.each x hx
    exact hty r1 b hb
  · have h5 := hgp gp hg
    exact ⟨by omega, by omega, fun k hk e => by have := h.low k hk; omega⟩
  · obtain ⟨a, cap, e1, e2, e3⟩ := h.com.len
    refine ⟨a, cap, e1, e2, e3, fun h0 => ?_⟩
    obtain ⟨g, cap', cur, hv, _, hg, _, _, _, hcl⟩ := h.com.form h0
    rw [e1] at hv
    injection hv with hv _ _
    obtain ⟨t1, t2⟩ := hty h.com g (by rw [e1, hv]; rfl)
    refine ⟨g, 0, hv, (h.com.lt g (by rw [e1, hv]; rfl)).1, t1, t2, t1, fun k hk e => own_not_job h.com h.jobs hk (by rw [e1, hv, ← e]; rfl), fun q hq => ?_⟩
    rw [Nat.zero_add, blk_cell hg]
    exact hcl q hq
end Go.Proofs.YtbdffcjganlblaaGreatDoor
