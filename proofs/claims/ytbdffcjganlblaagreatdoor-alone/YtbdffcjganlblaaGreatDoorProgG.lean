/-
  Own work. The program's parser: the walk of parseSet.
-/
import Derived.Test.YtbdffcjganlblaaGreatDoorProgF
import Derived.Deep.DeepCutAuto
namespace Go.Proofs.YtbdffcjganlblaaGreatDoor
open Go.RowKit
set_option linter.unusedVariables false
set_option linter.unusedSimpArgs false

theorem Tryz.infoPTask : (Tryz.prog.info? 172).map (fun i => (i.zero, i.size, i.bytes)) = some (some (.agg #[.string ⟨#[]⟩, .int .i64 0, .int .i64 0, .int .i64 0, .int .i64 0, .int .i64 0, .int .i64 0, .int .i64 0, .int .i64 0, .int .i64 0]), 10, 88) := by kernel_rfl
theorem Tryz.infoPPair : (Tryz.prog.info? 175).map (fun i => (i.zero, i.size, i.bytes)) = some (some (.agg #[.string ⟨#[]⟩, .string ⟨#[]⟩, .int .i64 0, .string ⟨#[]⟩, .int .i64 0]), 5, 64) := by kernel_rfl

def ParseOut (s : ByteArray) (w : World) (en : Ending) (w' : World) : Prop :=
  Below w.heap.size w w' ∧
  ((∃ j, pSet (allToks s.data.toList) = .error j ∧ en = pan 2 (tk (allToks s.data.toList) j).at_) ∨
   (∃ l ps tv pv, pSet (allToks s.data.toList) = .ok (l.map Prod.fst, ps) ∧ ZOk l ∧ en = .returned (.agg #[tv, pv]) ∧ w'.ownsRow w.heap.size 172 10 tv l.length (ptRow l) ∧ w'.ownsRow w.heap.size 175 5 pv ps.length (ppRow ps)))

theorem zok_snoc {l : List (Tk × Nat)} (h : ZOk l) {t : Tk} {z : Nat} (hz : z = t.q2 ∨ t.O = 0) : ZOk (l ++ [(t, z)]) := by
  intro x hx
  rcases List.mem_append.1 hx with h' | h'
  · exact h x h'
  · simp at h'; subst h'; exact hz

theorem qw_start {w w2 : World} {b : Nat} {s : ByteArray} {j : Nat} (hrs : RS 2 w2 b s j) (h1 : w.heap.size < b) (hgw : w.grownBy w2 none) (hY2 : w2.heap[w.heap.size]? = some (.cells #[.slice none 0 0, .slice none 0 0] 84 (0, 0))) (x : Tk × Nat) :
    QW w ((w2.alloc (.cells #[.string (bs [x.1.nm]), .int .i64 x.1.q0, .int .i64 x.1.P, .int .i64 x.1.q1, .int .i64 x.1.O, .int .i64 x.2, .int .i64 x.1.C, .int .i64 x.1.q3, .int .i64 x.1.D, .int .i64 x.1.q4] 172)).alloc (.cells #[.slice (some ⟨w2.heap.size, 0, none⟩) 1 1, .slice none 0 0] 84)) b (w2.heap.size + 1) s j (.slice (some ⟨w2.heap.size, 0, none⟩) 1 1) 1 (ptRow [x]) (.slice none 0 0) 0 [] := by
  have hlt := blk_lt hrs.h
  have hX : ((w2.alloc (.cells #[.string (bs [x.1.nm]), .int .i64 x.1.q0, .int .i64 x.1.P, .int .i64 x.1.q1, .int .i64 x.1.O, .int .i64 x.2, .int .i64 x.1.C, .int .i64 x.1.q3, .int .i64 x.1.D, .int .i64 x.1.q4] 172)).alloc (.cells #[.slice (some ⟨w2.heap.size, 0, none⟩) 1 1, .slice none 0 0] 84)).heap[w2.heap.size + 1]? = some (.cells #[.slice (some ⟨w2.heap.size, 0, none⟩) 1 1, .slice none 0 0] 84 (0, 0)) := by
    simpa using blk_new (w2.alloc (.cells #[.string (bs [x.1.nm]), .int .i64 x.1.q0, .int .i64 x.1.P, .int .i64 x.1.q1, .int .i64 x.1.O, .int .i64 x.2, .int .i64 x.1.C, .int .i64 x.1.q3, .int .i64 x.1.D, .int .i64 x.1.q4] 172)) #[.slice (some ⟨w2.heap.size, 0, none⟩) 1 1, .slice none 0 0] 84
  refine ⟨(hrs.alloc _).alloc _, hX, ?_, ?_, World.ownsRow_nil _ _ _ _, grownBy_alloc' (grownBy_alloc' hgw _) _, h1, by omega, by simp, by simp [Value.ownBlock], by simp [Value.ownBlock], by simp [Value.ownBlock]⟩
  · rw [Below.heap_alloc _ _ _ (by simp; omega), Below.heap_alloc _ _ _ (by omega)]; exact hY2
  · exact (World.ownsRow_lit (base := b + 1) (size := 10) w2 #[.string (bs [x.1.nm]), .int .i64 x.1.q0, .int .i64 x.1.P, .int .i64 x.1.q1, .int .i64 x.1.O, .int .i64 x.2, .int .i64 x.1.C, .int .i64 x.1.q3, .int .i64 x.1.D, .int .i64 x.1.q4] 1 (by omega) (by decide) rfl).alloc _

set_option maxRecDepth 100000 in
set_option maxHeartbeats 2000000 in
theorem parseSet_any (s : ByteArray) (w : World) (hs : s.size ≤ 400) :
    Calls Tryz.prog 83 #[.string s] w (ParseOut s w) := by
  obtain ⟨it, hti, htz0, htz1, htz2⟩ := info_parts Tryz.infoPTask
  obtain ⟨ip, hpi, hpz0, hpz1, hpz2⟩ := info_parts Tryz.infoPPair
  go_enter Tryz.func83, Tryz.ntmps83
  go_wp2_with fail
  refine (newReader_any 2 _ rfl s _ (by omega)).mono ?_
  rintro e w1 ⟨hb, hcase⟩
  have hbw : Below w.heap.size w w1 := (below_new w _).trans (hb.mono (by simp))
  have hY := blk_kept (blk_new w _ _) hb
  have hsz := hb.size
  simp only [World.size_alloc] at hsz hcase
  rcases hcase with ⟨h1, rfl⟩ | ⟨h1, rfl⟩
  · refine ⟨rfl, hbw, .inl ⟨0, ?_, rfl⟩⟩
    obtain ⟨x1, x2, x3, x4, x5⟩ := x_no h1
    unfold pSet pFirst
    rw [x1]; rfl
  go_wp2_with fail
  refine (takeTask_any h1).mono ?_
  rintro e w2 hG
  rcases bad_or_good (allToks s.data.toList) (pTaskR (allToks s.data.toList) 0) with ⟨j, hbad⟩ | ⟨t, j, hgood⟩
  · obtain ⟨rfl, hg⟩ := gout_bad hG hbad
    have hbel := below_grown (grownBy_new (grown_below hbw) hg (by omega))
    obtain ⟨k, hk, hat⟩ := first_bad hbad
    exact ⟨rfl, hbel, .inl ⟨k, hk, by rw [hat]; rfl⟩⟩
  obtain ⟨v, rfl, ⟨z, rfl, hz⟩, hrs, hg⟩ := gout_good hG hgood
  have hP := hide (taskP_first hgood.1)
  have hZ : Hid (ZOk [(t, z)]) := by
    intro x hx
    simp at hx
    subst hx
    exact hz
  have hgw := grownBy_new (grown_below hbw) hg (by omega)
  have hY2 : w2.heap[w.heap.size]? = some (.cells #[.slice none 0 0, .slice none 0 0] 84 (0, 0)) := by
    rw [hg.block _ (blk_lt hY) (by simp)]; exact hY
  have hsz2 := hg.size
  clear hG hgood hbw hY h1 hb hz
  have Q0 := hide (qw_start hrs (by omega) hgw hY2 (t, z))
  clear hg hgw hY2 hrs
  obtain ⟨b, hbb⟩ : ∃ b, b = w.heap.size + 1 := ⟨_, rfl⟩
  rw [← hbb] at Q0
  unfold ptRaw
  go_wp2_with fail
  simp only [← hbb]
  have Hbb := hide hbb
  clear hbb
  go_loopw [11] (fun _ wr => ∃ (i : Nat) (l : List (Tk × Nat)) (tv : Value), QW w wr b (w2.heap.size + 1) s i tv l.length (ptRow l) (.slice none 0 0) 0 [] ∧ TaskP (allToks s.data.toList) i (l.map Prod.fst) ∧ ZOk l) (fun _ wr => 7 - lenOf (wr.cell? ⟨w2.heap.size + 1, 0, none⟩))
  case atStart => exact ⟨j, [(t, z)], _, Q0.out, hP.out, hZ.out⟩
  case round =>
    clear Q0 hP hZ hsz hsz2
    generalize w2.heap.size + 1 = X at *
    obtain ⟨i, l, tv, Q, hP, hZ⟩ := hrel
    have hn1 := hP.1
    have hn6 := hP.2.1
    simp only [List.length_map] at hn1 hn6
    obtain ⟨g0, c0, rfl, hg1, hg2⟩ := own_form Q.ot (by omega)
    have HL : Hid (lenOf (wr.cell? ⟨X, 0, none⟩) = l.length) := by
      unfold Hid
      rw [Q.cells.1]
      rfl
    have HP := hide hP
    have HZ := hide hZ
    obtain ⟨x1, x2, x3, x4, x5⟩ := Q.cells
    have hst := s_task s.data.toList i
    unfold seesP at hst
    have Hst := hide hst
    have HQ := hide Q
    clear hP hZ hst hg1 hg2
    go_wp2_with fail
    refine (sees_any Q.rs wTask).mono ?_
    clear Q
    rintro e w' ⟨rfl, rfl⟩
    rw [Hst.out]
    clear Hst
    by_cases hm : l.length < 6 ∧ sees (tk (allToks s.data.toList) i) wTask = true
    · obtain ⟨h6, hsee⟩ := hm
      rw [hsee]
      have h6' : (l.length : Int) < 6 := by omega
      have hmore := hide (taskP_more HP.out (by simpa using h6) hsee)
      clear hsee
      go_wp2_with fail
      rcases bad_or_good (allToks s.data.toList) (pTaskR (allToks s.data.toList) i) with ⟨k, hbad⟩ | ⟨t1, k, hgood⟩
      · have hbb := hide hbad
        clear hbad
        go_region_dies
        all_goals
          refine (takeTask_bad HQ.out.drew.rs hbb.out).mono ?_
          rintro e w9 ⟨rfl, hg⟩
          exact ⟨rfl, below_grown (grownBy_new HQ.out.drew.g hg (by have := HQ.out.h1; omega)), .inl ⟨k, hmore.out.2 k hbb.out, rfl⟩⟩
      · have hgg := hide hgood
        clear hgood
        have hmo := hide (hmore.out.1 t1 k hgg.out.1)
        clear hmore
        have hlb := HQ.out.h1
        have hlX := HQ.out.h2
        go_region_law (first | (refine step_append_own rfl (.tmp 20) (.tmp 23) 81 rfl (b + 1) 172 it _ 10 88 Tryz.underlying81 hti htz0 htz1 htz2 rfl (by decide) _ _ _ rfl (ot9.alloc _) ⟨w9.heap.size, 0, none⟩ 1 1 (ptC (t1, z1)) rfl rfl (cells_new w9 #[_, _, _, _, _, _, _, _, _, _] _ _ rfl) (by simp [ptC, Value.oneCell']) (by unfold maxLen; omega) (by omega) (by simp; omega) ?_; intro v' w10 hown10 hgr; obtain ⟨g', cap', rfl, _, _⟩ := own_form hown10 (by omega); have Q10 := HQ9.out.pushT hgr hown10; have u0 := HQ9.out.grow hgr (.inl rfl); have u1 := blk_cell u0.2.1 0; have u2 := blk_frozen u0.2.1 0; have HQ10 := hide Q10; clear Q10 u0 hown10 hgr) | (go_simp; go_at_call 120; refine (takeTask_good HQ.out.drew.rs hgg.out).mono ?_; rintro e w9 ⟨z1, rfl, hz1, hrs9, hg9⟩; have Q9 := HQ.out.drew.call hrs9 hg9; obtain ⟨y1, y2, y3, y4, y5⟩ := Q9.cells; have HQ9 := hide Q9; have ot9 := Q9.ot; have hl9 := Q9.h3; clear Q9 hrs9 hg9; unfold ptRaw))
        all_goals
          go_wp2
          go_roundw
          case rel => exact ⟨k, l ++ [(t1, z1)], _, by rw [List.length_append]; show QW _ _ _ _ _ _ _ (l.length + 1) _ _ _ _; unfold ptRow; rw [List.flatMap_append]; simpa [ptRow] using HQ10.out, by rw [List.map_append]; exact hmo.out, zok_snoc HZ.out hz1⟩
          case measure => rw [HL.out, HQ10.out.cells.1]; show 7 - (l.length + 1) < 7 - l.length; omega
    · have hexit := hide (taskP_done HP.out (by simpa using hm))
      have hcs : sees (tk (allToks s.data.toList) i) wTask = false ∨ (sees (tk (allToks s.data.toList) i) wTask = true ∧ ¬ (l.length : Int) < 6) := by
        cases hq : sees (tk (allToks s.data.toList) i) wTask
        · exact .inl rfl
        · right
          refine ⟨rfl, ?_⟩
          intro h
          exact hm ⟨by omega, hq⟩
      clear hm
      rcases hcs with hcs | ⟨hcs, h6'⟩
      all_goals
        rw [hcs]
        clear hcs
        go_wp2_with fail
        clear x1 x2 x3 x4 x5
        try clear h6'
        go_loopw [26] (fun _ wr => ∃ (i : Nat) (ps : List Pr) (pv : Value), QW w wr b X s i (.slice (some ⟨g0, 0, none⟩) l.length c0) l.length (ptRow l) pv ps.length (ppRow ps) ∧ PairP (allToks s.data.toList) i (l.map Prod.fst) ps) (fun _ wr => 7 - lenOf (wr.cell? ⟨X, 1, none⟩))
        case atStart => exact ⟨i, [], _, HQ.out, pairP_start hexit.out⟩
        case round =>
          clear HQ hexit HL HP
          obtain ⟨i, ps, pv, Q, hP⟩ := hrel
          have hm6 := hP.1
          obtain ⟨pa, pc, rfl⟩ := own_slice Q.op
          have HL : Hid (lenOf (wr.cell? ⟨X, 1, none⟩) = ps.length) := by
            unfold Hid
            rw [Q.cells.2.1]
            rfl
          have HP := hide hP
          obtain ⟨x1, x2, x3, x4, x5⟩ := Q.cells
          have HQ := hide Q
          clear hP
          go_wp2_with fail
          refine (seesPair_any Q.rs).mono ?_
          clear Q
          rintro e w' ⟨rfl, rfl⟩
          rw [s_before, s_apart]
          by_cases hm : (sees (tk (allToks s.data.toList) i) wBefore || sees (tk (allToks s.data.toList) i) wApart) = true ∧ ps.length < 6
          · obtain ⟨hsee, h6⟩ := hm
            have h6' : (ps.length : Int) < 6 := by omega
            have hmore := hide (pairP_more HP.out h6 hsee)
            have Hsee := hide hsee
            rw [hsee]
            clear hsee
            go_wp2_with fail
            rcases bad_or_good (allToks s.data.toList) (pPairR (allToks s.data.toList) i) with ⟨k, hbad⟩ | ⟨p1, k, hgood⟩
            · have hbb := hide hbad
              clear hbad
              go_region_dies
              all_goals
                refine (takePair_bad HQ.out.drew.rs Hsee.out hbb.out).mono ?_
                rintro e w9 ⟨rfl, hg⟩
                exact ⟨rfl, below_grown (grownBy_new HQ.out.drew.g hg (by have := HQ.out.h1; omega)), .inl ⟨k, hmore.out.2 k hbb.out, rfl⟩⟩
            · have hgg := hide hgood
              clear hgood
              have hmo := hide (hmore.out.1 p1 k hgg.out.1)
              clear hmore
              have hlb := HQ.out.h1
              have hlX := HQ.out.h2
              go_region_law (first | (refine step_append_own rfl (.tmp 35) (.tmp 38) 82 rfl (b + 1) 175 ip _ 5 64 Tryz.underlying82 hpi hpz0 hpz1 hpz2 rfl (by decide) _ _ _ rfl (op9.alloc _) ⟨w9.heap.size, 0, none⟩ 1 1 (ppC p1) rfl rfl (cells_new w9 #[_, _, _, _, _] _ _ rfl) (by simp [ppC, Value.oneCell']) (by unfold maxLen; omega) (by omega) (by simp; omega) ?_; intro v' w10 hown10 hgr; obtain ⟨g', cap', rfl, _, _⟩ := own_form hown10 (by omega); have Q10 := HQ9.out.pushP hgr hown10; have u0 := HQ9.out.grow hgr (.inr rfl); have u1 := blk_cell u0.2.1 1; have u2 := blk_frozen u0.2.1 1; have HQ10 := hide Q10; clear Q10 u0 hown10 hgr) | (go_simp; go_at_call 123; refine (takePair_good HQ.out.drew.rs Hsee.out hgg.out).mono ?_; rintro e w9 ⟨rfl, hrs9, hg9⟩; have Q9 := HQ.out.drew.call hrs9 hg9; obtain ⟨y1, y2, y3, y4, y5⟩ := Q9.cells; have HQ9 := hide Q9; have op9 := Q9.op; have hl9 := Q9.h3; clear Q9 hrs9 hg9; unfold ppRaw))
              all_goals
                go_wp2
                go_roundw
                case rel => exact ⟨k, ps ++ [p1], _, by rw [List.length_append]; show QW _ _ _ _ _ _ _ _ _ _ (ps.length + 1) _; unfold ppRow; rw [List.flatMap_append]; simpa [ppRow] using HQ10.out, hmo.out⟩
                case measure => rw [HL.out, HQ10.out.cells.2.1]; show 7 - (ps.length + 1) < 7 - ps.length; omega
          · have hexit := hide (pairP_done HP.out (by simpa using hm))
            have hcs : (sees (tk (allToks s.data.toList) i) wBefore || sees (tk (allToks s.data.toList) i) wApart) = false ∨ ((sees (tk (allToks s.data.toList) i) wBefore || sees (tk (allToks s.data.toList) i) wApart) = true ∧ ¬ (ps.length : Int) < 6) := by
              cases hq : (sees (tk (allToks s.data.toList) i) wBefore || sees (tk (allToks s.data.toList) i) wApart)
              · exact .inl rfl
              · right
                refine ⟨rfl, ?_⟩
                intro h
                exact hm ⟨hq, by omega⟩
            clear hm
            rcases hcs with hcs | ⟨hcs, h6'⟩
            all_goals
              rw [hcs]
              clear hcs
              go_wp2_with fail
              refine (takeEnd_any HQ.out.rs).mono ?_
              rintro e w' hcase
              rcases hcase with ⟨hk, rfl, hg⟩ | ⟨hk, rfl, rfl⟩
              · exact ⟨rfl, below_grown (grownBy_trans HQ.out.g hg), .inl ⟨i, hexit.out.2 hk, rfl⟩⟩
              · have hset := hide (hexit.out.1 hk)
                clear hk hexit
                have hh1 := HQ.out.h1
                have hh2 := HQ.out.h2
                have hne1 : ¬ w.heap.size = X := by omega
                have hne2 : ¬ X = w.heap.size := by omega
                go_wp2
                refine bodyPost_ret (v := .agg #[.slice (some ⟨g0, 0, none⟩) l.length c0, .slice pa ps.length pc]) (by simp [results, Tryz.results83, go_sem, x4]) rfl ⟨?_, .inr ⟨l, ps, _, _, hset.out, HZ.out, rfl, ?_, ?_⟩⟩
                · exact below_grown (grownBy_setNew (grownBy_setNew HQ.out.g (Nat.le_refl _) _ _) (Nat.le_refl _) _ _)
                · exact own_weak (ownsRow_setCell_below (ownsRow_setCell_below HQ.out.ot (by show w.heap.size < b + 1; omega) _) (by show w.heap.size < b + 1; omega) _) (by omega)
                · exact own_weak (ownsRow_setCell_below (ownsRow_setCell_below HQ.out.op (by show w.heap.size < b + 1; omega) _) (by show w.heap.size < b + 1; omega) _) (by omega)
end Go.Proofs.YtbdffcjganlblaaGreatDoor
