/-
  Own work. The program's parser: the walk of parseSet.
-/
import Derived.Test.YtbdffcjganlblaaGreatDoorMProgFtoRefV
import Derived.Deep.DeepCutAuto
import Derived.Test.YtbdffcjganlblaaGreatDoorMRefMtoRefO
namespace Go.Proofs.YtbdffcjganlblaaGreatDoor
open Go.RowKit
set_option linter.unusedVariables false
set_option linter.unusedSimpArgs false

theorem Tryz.infoPTask : (Tryz.prog.info? 172).map (fun i => (i.zero, i.size, i.bytes)) = some (some (.agg #[.string ⟨#[]⟩, .int .i64 0, .int .i64 0, .int .i64 0, .int .i64 0, .int .i64 0, .int .i64 0, .int .i64 0, .int .i64 0, .int .i64 0]), 10, 88) := by kernel_rfl
theorem Tryz.infoPPair : (Tryz.prog.info? 175).map (fun i => (i.zero, i.size, i.bytes)) = some (some (.agg #[.string ⟨#[]⟩, .string ⟨#[]⟩, .int .i64 0, .string ⟨#[]⟩, .int .i64 0]), 5, 64) := by kernel_rfl

def ParseOut (s : ByteArray) (w : World) (en : Ending) (w' : World) : Prop :=
  Below w.heap.size w w' ∧
  ((∃ j, pSet (allToks s.data.toList) = .error j ∧ en = pan 2 (tk (allToks s.data.toList) j).at_) ∨
   (∃ l ps tv pv, pSet (allToks s.data.toList) = .ok (l.map Prod.fst, ps) ∧ ZOk l ∧ en = .returned (.agg #[tv, pv]) ∧ w'.ownsRow w.heap.size 172 10 tv l.length (ptRow l) ∧ w'.ownsRow w.heap.size 175 5 pv ps.length (ppRow ps)))

theorem zok_snoc {l : List (Tk × Nat)} (h : ZOk l) {t : Tk} {z : Nat} (hz : z = t.q2 ∨ t.O = 0) : ZOk (l ++ [(t, z)]) := by
  intro x hx
  rcases List.mem_append.1 hx with h' | h'
  · exact h x h'
  · simp at h'; subst h'; exact hz

theorem qw_start {w w2 : World} {b : Nat} {s : ByteArray} {j : Nat} (hrs : RS 2 w2 b s j) (h1 : w.heap.size < b) (hgw : w.grownBy w2 none) (hY2 : w2.heap[w.heap.size]? = some (.cells #[.slice none 0 0, .slice none 0 0] 84 (0, 0))) (x : Tk × Nat) :
    QW w ((w2.alloc (.cells #[.string (bs [x.1.nm]), .int .i64 x.1.q0, .int .i64 x.1.P, .int .i64 x.1.q1, .int .i64 x.1.O, .int .i64 x.2, .int .i64 x.1.C, .int .i64 x.1.q3, .int .i64 x.1.D, .int .i64 x.1.q4] 172)).alloc (.cells #[.slice (some ⟨w2.heap.size, 0, none⟩) 1 1, .slice none 0 0] 84)) b (w2.heap.size + 1) s j (.slice (some ⟨w2.heap.size, 0, none⟩) 1 1) 1 (ptRow [x]) (.slice none 0 0) 0 [] := by
  have hlt := blk_lt hrs.h
  have hX : ((w2.alloc (.cells #[.string (bs [x.1.nm]), .int .i64 x.1.q0, .int .i64 x.1.P, .int .i64 x.1.q1, .int .i64 x.1.O, .int .i64 x.2, .int .i64 x.1.C, .int .i64 x.1.q3, .int .i64 x.1.D, .int .i64 x.1.q4] 172)).alloc (.cells #[.slice (some ⟨w2.heap.size, 0, none⟩) 1 1, .slice none 0 0] 84)).heap[w2.heap.size + 1]? = some (.cells #[.slice (some ⟨w2.heap.size, 0, none⟩) 1 1, .slice none 0 0] 84 (0, 0)) := by
    simpa using blk_new (w2.alloc (.cells #[.string (bs [x.1.nm]), .int .i64 x.1.q0, .int .i64 x.1.P, .int .i64 x.1.q1, .int .i64 x.1.O, .int .i64 x.2, .int .i64 x.1.C, .int .i64 x.1.q3, .int .i64 x.1.D, .int .i64 x.1.q4] 172)) #[.slice (some ⟨w2.heap.size, 0, none⟩) 1 1, .slice none 0 0] 84
  refine ⟨(hrs.alloc _).alloc _, hX, ?_, ?_, World.ownsRow_nil _ _ _ _, grownBy_alloc' (grownBy_alloc' hgw _) _, h1, by omega, by simp, by simp [Value.ownBlock], by simp [Value.ownBlock], by simp [Value.ownBlock]⟩
  · rw [Below.heap_alloc _ _ _ (by simp; omega), Below.heap_alloc _ _ _ (by omega)]; exact hY2
  · exact (World.ownsRow_lit (base := b + 1) (size := 10) w2 #[.string (bs [x.1.nm]), .int .i64 x.1.q0, .int .i64 x.1.P, .int .i64 x.1.q1, .int .i64 x.1.O, .int .i64 x.2, .int .i64 x.1.C, .int .i64 x.1.q3, .int .i64 x.1.D, .int .i64 x.1.q4] 1 (by omega) (by decide) rfl).alloc _

set_option maxRecDepth 100000 in
set_option maxHeartbeats 2000000 in
theorem parseSet_any (s : ByteArray) (w : World) (hs : s.size ≤ 400) :
    Calls Tryz.prog 83 #[.string s] w (ParseOut s w) := by
  obtain ⟨it, hti, htz0, htz1, htz2⟩ := info_parts Tryz.infoPTask
  obtain ⟨ip, hpi, hpz0, hpz1, hpz2⟩ := info_parts Tryz.infoPPair
  go_enter Tryz.func83, Tryz.ntmps83
  go_wp2_with fail
  refine (newReader_any 2 _ rfl s _ (by omega)).mono ?_
  rintro e w1 ⟨hb, hcase⟩
  have hbw : Below w.heap.size w w1 := (below_new w _).trans (hb.mono (by simp))
  have hY := blk_kept (blk_new w _ _) hb
  have hsz := hb.size
  simp only [World.size_alloc] at hsz hcase
  rcases hcase with ⟨h1, rfl⟩ | ⟨h1, rfl⟩
  · refine ⟨rfl, hbw, .inl ⟨0, ?_, rfl⟩⟩
    obtain ⟨x1, x2, x3, x4, x5⟩ := x_no h1
    unfold pSet pFirst
    rw [x1]; rfl
  go_wp2_with fail
  refine (takeTask_any h1).mono ?_
  rintro e w2 hG
  rcases bad_or_good (allToks s.data.toList) (pTaskR (allToks s.data.toList) 0) with ⟨j, hbad⟩ | ⟨t, j, hgood⟩
  · obtain ⟨rfl, hg⟩ := gout_bad hG hbad
    have hbel := below_grown (grownBy_new (grown_below hbw) hg (by omega))
    obtain ⟨k, hk, hat⟩ := first_bad hbad
    exact ⟨rfl, hbel, .inl ⟨k, hk, by rw [hat]; rfl⟩⟩
  obtain ⟨v, rfl, ⟨z, rfl, hz⟩, hrs, hg⟩ := gout_good hG hgood
  have hP := hide (taskP_first hgood.1)
  have hZ : Hid (ZOk [(t, z)]) := by
    intro x hx
    simp at hx
    subst hx
    exact hz
  have hgw := grownBy_new (grown_below hbw) hg (by omega)
  have hY2 : w2.heap[w.heap.size]? = some (.cells #[.slice none 0 0, .slice none 0 0] 84 (0, 0)) := by
    rw [hg.block _ (blk_lt hY) (by simp)]; exact hY
  have hsz2 := hg.size
  clear hG hgood hbw hY h1 hb hz
  have Q0 := hide (qw_start hrs (by omega) hgw hY2 (t, z))
  clear hg hgw hY2 hrs
  obtain ⟨b, hbb⟩ : ∃ b, b = w.heap.size + 1 := ⟨_, rfl⟩
  rw [← hbb] at Q0
  unfold ptRaw
  go_wp2_with fail
  simp only [← hbb]
  have Hbb := hide hbb
  clear hbb
  go_loopw [11] (fun _ wr => ∃ (i : Nat) (l : List (Tk × Nat)) (tv : Value), QW w wr b (w2.heap.size + 1) s i tv l.length (ptRow l) (.slice none 0 0) 0 [] ∧ TaskP (allToks s.data.toList) i (l.map Prod.fst) ∧ ZOk l) (fun _ wr => 7 - lenOf (wr.cell? ⟨w2.heap.size + 1, 0, none⟩))
  case atStart => exact ⟨j, [(t, z)], _, Q0.out, hP.out, hZ.out⟩
  case round =>
    clear Q0 hP hZ hsz hsz2
    generalize w2.heap.size + 1 = X at *
    obtain ⟨i, l, tv, Q, hP, hZ⟩ := hrel
    have hn1 := hP.1
    have hn6 := hP.2.1
    simp only [List.length_map] at hn1 hn6
    obtain ⟨g0, c0, rfl, hg1, hg2⟩ := own_form Q.ot (by omega)
    have HL : Hid (lenOf (wr.cell? ⟨X, 0, none⟩) = l.length) := by
      unfold Hid
      rw [Q.cells.1]
      rfl
    have HP := hide hP
    have HZ := hide hZ
    obtain ⟨x1, x2, x3, x4, x5⟩ := Q.cells
    have hst := s_task s.data.toList i
    unfold seesP at hst
    have Hst := hide hst
    have HQ := hide Q
    clear hP hZ hst hg1 hg2
    go_wp2_with fail
    refine (sees_any Q.rs wTask).mono ?_
    clear Q
    rintro e w' ⟨rfl, rfl⟩
    rw [Hst.out]
    clear Hst
    by_cases hm : l.length < 6 ∧ sees (tk (allToks s.data.toList) i) wTask = true
    · obtain ⟨h6, hsee⟩ := hm
      rw [hsee]
      have h6' : (l.length : Int) < 6 := by omega
      have hmore := hide (taskP_more HP.out (by simpa using h6) hsee)
      clear hsee
      go_wp2_with fail
      rcases bad_or_good (allToks s.data.toList) (pTaskR (allToks s.data.toList) i) with ⟨k, hbad⟩ | ⟨t1, k, hgood⟩
      · have hbb := hide hbad
        clear hbad
        go_region_dies
        all_goals
          refine (takeTask_bad HQ.out.drew.rs hbb.out).mono ?_
          rintro e w9 ⟨rfl, hg⟩
          exact ⟨rfl, below_grown (grownBy_new HQ.out.drew.g hg (by have := HQ.out.h1; omega)), .inl ⟨k, hmore.out.2 k hbb.out, rfl⟩⟩
      · have hgg := hide hgood
        clear hgood
        have hmo := hide (hmore.out.1 t1 k hgg.out.1)
        clear hmore
        have hlb := HQ.out.h1
        have hlX := HQ.out.h2
        go_region_law (first | (refine step_append_own rfl (.tmp 20) (.tmp 23) 81 rfl (b + 1) 172 it _ 10 88 Tryz.underlying81 hti htz0 htz1 htz2 rfl (by decide) _ _ _ rfl (ot9.alloc _) ⟨w9.heap.size, 0, none⟩ 1 1 (ptC (t1, z1)) rfl rfl (cells_new w9 #[_, _, _, _, _, _, _, _, _, _] _ _ rfl) (by simp [ptC, Value.oneCell']) (by unfold maxLen; omega) (by omega) (by simp; omega) ?_; intro v' w10 hown10 hgr; obtain ⟨g', cap', rfl, _, _⟩ := own_form hown10 (by omega); have Q10 := HQ9.out.pushT hgr hown10; have u0 := HQ9.out.grow hgr (.inl rfl); have u1 := blk_cell u0.2.1 0; have u2 := blk_frozen u0.2.1 0; have HQ10 := hide Q10; clear Q10 u0 hown10 hgr) | (go_simp; go_at_call 120; refine (takeTask_good HQ.out.drew.rs hgg.out).mono ?_; rintro e w9 ⟨z1, rfl, hz1, hrs9, hg9⟩; have Q9 := HQ.out.drew.call hrs9 hg9; obtain ⟨y1, y2, y3, y4, y5⟩ := Q9.cells; have HQ9 := hide Q9; have ot9 := Q9.ot; have hl9 := Q9.h3; clear Q9 hrs9 hg9; unfold ptRaw))
        all_goals
          go_wp2
          go_roundw
          case rel => exact ⟨k, l ++ [(t1, z1)], _, by rw [List.length_append]; show QW _ _ _ _ _ _ _ (l.length + 1) _ _ _ _; unfold ptRow; rw [List.flatMap_append]; simpa [ptRow] using HQ10.out, by rw [List.map_append]; exact hmo.out, zok_snoc HZ.out hz1⟩
          case measure => rw [HL.out, HQ10.out.cells.1]; show 7 - (l.length + 1) < 7 - l.length; omega
    · have hexit := hide (taskP_done HP.out (by simpa using hm))
      have hcs : sees (tk (allToks s.data.toList) i) wTask = false ∨ (sees (tk (allToks s.data.toList) i) wTask = true ∧ ¬ (l.length : Int) < 6) := by
        cases hq : sees (tk (allToks s.data.toList) i) wTask
        · exact .inl rfl
        · right
          refine ⟨rfl, ?_⟩
          intro h
          exact hm ⟨by omega, hq⟩
      clear hm
      rcases hcs with hcs | ⟨hcs, h6'⟩
      all_goals
        rw [hcs]
        clear hcs
        go_wp2_with fail
        clear x1 x2 x3 x4 x5
        try clear h6'
        go_loopw [26] (fun _ wr => ∃ (i : Nat) (ps : List Pr) (pv : Value), QW w wr b X s i (.slice (some ⟨g0, 0, none⟩) l.length c0) l.length (ptRow l) pv ps.length (ppRow ps) ∧ PairP (allToks s.data.toList) i (l.map Prod.fst) ps) (fun _ wr => 7 - lenOf (wr.cell? ⟨X, 1, none⟩))
        case atStart => exact ⟨i, [], _, HQ.out, pairP_start hexit.out⟩
        case round =>
          clear HQ hexit HL HP
          obtain ⟨i, ps, pv, Q, hP⟩ := hrel
          have hm6 := hP.1
          obtain ⟨pa, pc, rfl⟩ := own_slice Q.op
          have HL : Hid (lenOf (wr.cell? ⟨X, 1, none⟩) = ps.length) := by
            unfold Hid
            rw [Q.cells.2.1]
            rfl
          have HP := hide hP
          obtain ⟨x1, x2, x3, x4, x5⟩ := Q.cells
          have HQ := hide Q
          clear hP
          go_wp2_with fail
          refine (seesPair_any Q.rs).mono ?_
          clear Q
          rintro e w' ⟨rfl, rfl⟩
          rw [s_before, s_apart]
          by_cases hm : (sees (tk (allToks s.data.toList) i) wBefore || sees (tk (allToks s.data.toList) i) wApart) = true ∧ ps.length < 6
          · obtain ⟨hsee, h6⟩ := hm
            have h6' : (ps.length : Int) < 6 := by omega
            have hmore := hide (pairP_more HP.out h6 hsee)
            have Hsee := hide hsee
            rw [hsee]
            clear hsee
            go_wp2_with fail
            rcases bad_or_good (allToks s.data.toList) (pPairR (allToks s.data.toList) i) with ⟨k, hbad⟩ | ⟨p1, k, hgood⟩
            · have hbb := hide hbad
              clear hbad
              go_region_dies
              all_goals
                refine (takePair_bad HQ.out.drew.rs Hsee.out hbb.out).mono ?_
                rintro e w9 ⟨rfl, hg⟩
                exact ⟨rfl, below_grown (grownBy_new HQ.out.drew.g hg (by have := HQ.out.h1; omega)), .inl ⟨k, hmore.out.2 k hbb.out, rfl⟩⟩
            · have hgg := hide hgood
              clear hgood
              have hmo := hide (hmore.out.1 p1 k hgg.out.1)
              clear hmore
              have hlb := HQ.out.h1
              have hlX := HQ.out.h2
              go_region_law (first | (refine step_append_own rfl (.tmp 35) (.tmp 38) 82 rfl (b + 1) 175 ip _ 5 64 Tryz.underlying82 hpi hpz0 hpz1 hpz2 rfl (by decide) _ _ _ rfl (op9.alloc _) ⟨w9.heap.size, 0, none⟩ 1 1 (ppC p1) rfl rfl (cells_new w9 #[_, _, _, _, _] _ _ rfl) (by simp [ppC, Value.oneCell']) (by unfold maxLen; omega) (by omega) (by simp; omega) ?_; intro v' w10 hown10 hgr; obtain ⟨g', cap', rfl, _, _⟩ := own_form hown10 (by omega); have Q10 := HQ9.out.pushP hgr hown10; have u0 := HQ9.out.grow hgr (.inr rfl); have u1 := blk_cell u0.2.1 1; have u2 := blk_frozen u0.2.1 1; have HQ10 := hide Q10; clear Q10 u0 hown10 hgr) | (go_simp; go_at_call 123; refine (takePair_good HQ.out.drew.rs Hsee.out hgg.out).mono ?_; rintro e w9 ⟨rfl, hrs9, hg9⟩; have Q9 := HQ.out.drew.call hrs9 hg9; obtain ⟨y1, y2, y3, y4, y5⟩ := Q9.cells; have HQ9 := hide Q9; have op9 := Q9.op; have hl9 := Q9.h3; clear Q9 hrs9 hg9; unfold ppRaw))
              all_goals
                go_wp2
                go_roundw
                case rel => exact ⟨k, ps ++ [p1], _, by rw [List.length_append]; show QW _ _ _ _ _ _ _ _ _ _ (ps.length + 1) _; unfold ppRow; rw [List.flatMap_append]; simpa [ppRow] using HQ10.out, hmo.out⟩
                case measure => rw [HL.out, HQ10.out.cells.2.1]; show 7 - (ps.length + 1) < 7 - ps.length; omega
          · have hexit := hide (pairP_done HP.out (by simpa using hm))
            have hcs : (sees (tk (allToks s.data.toList) i) wBefore || sees (tk (allToks s.data.toList) i) wApart) = false ∨ ((sees (tk (allToks s.data.toList) i) wBefore || sees (tk (allToks s.data.toList) i) wApart) = true ∧ ¬ (ps.length : Int) < 6) := by
              cases hq : (sees (tk (allToks s.data.toList) i) wBefore || sees (tk (allToks s.data.toList) i) wApart)
              · exact .inl rfl
              · right
                refine ⟨rfl, ?_⟩
                intro h
                exact hm ⟨hq, by omega⟩
            clear hm
            rcases hcs with hcs | ⟨hcs, h6'⟩
            all_goals
              rw [hcs]
              clear hcs
              go_wp2_with fail
              refine (takeEnd_any HQ.out.rs).mono ?_
              rintro e w' hcase
              rcases hcase with ⟨hk, rfl, hg⟩ | ⟨hk, rfl, rfl⟩
              · exact ⟨rfl, below_grown (grownBy_trans HQ.out.g hg), .inl ⟨i, hexit.out.2 hk, rfl⟩⟩
              · have hset := hide (hexit.out.1 hk)
                clear hk hexit
                have hh1 := HQ.out.h1
                have hh2 := HQ.out.h2
                have hne1 : ¬ w.heap.size = X := by omega
                have hne2 : ¬ X = w.heap.size := by omega
                go_wp2
                refine bodyPost_ret (v := .agg #[.slice (some ⟨g0, 0, none⟩) l.length c0, .slice pa ps.length pc]) (by simp [results, Tryz.results83, go_sem, x4]) rfl ⟨?_, .inr ⟨l, ps, _, _, hset.out, HZ.out, rfl, ?_, ?_⟩⟩
                · exact below_grown (grownBy_setNew (grownBy_setNew HQ.out.g (Nat.le_refl _) _ _) (Nat.le_refl _) _ _)
                · exact own_weak (ownsRow_setCell_below (ownsRow_setCell_below HQ.out.ot (by show w.heap.size < b + 1; omega) _) (by show w.heap.size < b + 1; omega) _) (by omega)
                · exact own_weak (ownsRow_setCell_below (ownsRow_setCell_below HQ.out.op (by show w.heap.size < b + 1; omega) _) (by show w.heap.size < b + 1; omega) _) (by omega)
end Go.Proofs.YtbdffcjganlblaaGreatDoor

namespace Go.Proofs.YtbdffcjganlblaaGreatDoor
open Go.RowKit
set_option linter.unusedVariables false
set_option linter.unusedSimpArgs false

def lk (l : List (Tk × Nat)) (k : Nat) : Tk × Nat := l.getD k (⟨0, 0, 0, 0, 0, 0, 0, 0, 0, 0⟩, 0)

def RowPT (w : World) (g : Nat) (l : List (Tk × Nat)) : Prop := ∀ k, k < l.length →
  w.cell? ⟨g, k * 10, none⟩ = some (.string (bs [(lk l k).1.nm])) ∧ w.cell? ⟨g, k * 10 + 1, none⟩ = some (.int .i64 (lk l k).1.q0) ∧ w.cell? ⟨g, k * 10 + 2, none⟩ = some (.int .i64 (lk l k).1.P) ∧
  w.cell? ⟨g, k * 10 + 3, none⟩ = some (.int .i64 (lk l k).1.q1) ∧ w.cell? ⟨g, k * 10 + 4, none⟩ = some (.int .i64 (lk l k).1.O) ∧ w.cell? ⟨g, k * 10 + 5, none⟩ = some (.int .i64 (lk l k).2) ∧
  w.cell? ⟨g, k * 10 + 6, none⟩ = some (.int .i64 (lk l k).1.C) ∧ w.cell? ⟨g, k * 10 + 7, none⟩ = some (.int .i64 (lk l k).1.q3) ∧ w.cell? ⟨g, k * 10 + 8, none⟩ = some (.int .i64 (lk l k).1.D) ∧ w.cell? ⟨g, k * 10 + 9, none⟩ = some (.int .i64 (lk l k).1.q4)
def RowPP (w : World) (g : Nat) (ps : List Pr) : Prop := ∀ k, k < ps.length →
  w.cell? ⟨g, k * 5, none⟩ = some (.string (bs (if (psk ps k).ap then [97, 112, 97, 114, 116] else [98, 101, 102, 111, 114, 101]))) ∧ w.cell? ⟨g, k * 5 + 1, none⟩ = some (.string (bs [(psk ps k).a])) ∧ w.cell? ⟨g, k * 5 + 2, none⟩ = some (.int .i64 (psk ps k).q0) ∧
  w.cell? ⟨g, k * 5 + 3, none⟩ = some (.string (bs [(psk ps k).b])) ∧ w.cell? ⟨g, k * 5 + 4, none⟩ = some (.int .i64 (psk ps k).q1)

theorem ptRow_get (T : List (Tk × Nat)) : ∀ (j : Nat), j < T.length → ∀ o, o < 10 → (ptRow T)[j * 10 + o]? = (ptC (lk T j))[o]? := by
  induction T with
  | nil => intro j h; simp at h
  | cons t r ih =>
    intro j hj o ho
    have e : ptRow (t :: r) = ptC t ++ ptRow r := rfl
    have el : (ptC t).length = 10 := rfl
    cases j with
    | zero => rw [e, List.getElem?_append_left (by omega)]; simp [lk]
    | succ j =>
      have := ih j (by simpa using hj) o ho
      rw [e, List.getElem?_append_right (by omega), el, show (j + 1) * 10 + o - 10 = j * 10 + o by omega, this]
      simp [lk]
theorem ppRow_get (T : List Pr) : ∀ (j : Nat), j < T.length → ∀ o, o < 5 → (ppRow T)[j * 5 + o]? = (ppC (psk T j))[o]? := by
  induction T with
  | nil => intro j h; simp at h
  | cons t r ih =>
    intro j hj o ho
    have e : ppRow (t :: r) = ppC t ++ ppRow r := rfl
    have el : (ppC t).length = 5 := rfl
    cases j with
    | zero => rw [e, List.getElem?_append_left (by omega)]; simp [psk]
    | succ j =>
      have := ih j (by simpa using hj) o ho
      rw [e, List.getElem?_append_right (by omega), el, show (j + 1) * 5 + o - 5 = j * 5 + o by omega, this]
      simp [psk]
theorem rowPT_own {w : World} {base g cap : Nat} {l : List (Tk × Nat)} (h : w.ownsRow base 172 10 (.slice (some ⟨g, 0, none⟩) l.length cap) l.length (ptRow l)) : RowPT w g l := by
  intro k hk
  have e : ∀ o, o < 10 → w.cell? ⟨g, k * 10 + o, none⟩ = (ptC (lk l k))[o]? := fun o ho => by rw [h.cellAt _ (by omega)]; exact ptRow_get l k hk o ho
  have e0 := e 0 (by omega)
  simp only [Nat.add_zero] at e0
  rw [e0, e 1 (by omega), e 2 (by omega), e 3 (by omega), e 4 (by omega), e 5 (by omega), e 6 (by omega), e 7 (by omega), e 8 (by omega), e 9 (by omega)]
  exact ⟨rfl, rfl, rfl, rfl, rfl, rfl, rfl, rfl, rfl, rfl⟩
theorem rowPP_own {w : World} {base g cap : Nat} {ps : List Pr} (h : w.ownsRow base 175 5 (.slice (some ⟨g, 0, none⟩) ps.length cap) ps.length (ppRow ps)) : RowPP w g ps := by
  intro k hk
  have e : ∀ o, o < 5 → w.cell? ⟨g, k * 5 + o, none⟩ = (ppC (psk ps k))[o]? := fun o ho => by rw [h.cellAt _ (by omega)]; exact ppRow_get ps k hk o ho
  have e0 := e 0 (by omega)
  simp only [Nat.add_zero] at e0
  rw [e0, e 1 (by omega), e 2 (by omega), e 3 (by omega), e 4 (by omega)]
  exact ⟨rfl, rfl, rfl, rfl, rfl⟩
theorem RowPT.below {w w' : World} {g B : Nat} {ts : List (Tk × Nat)} (h : RowPT w g ts) (hb : Below B w w') (hg : g < B) : RowPT w' g ts := by
  intro k hk
  have e : ∀ o, w'.cell? ⟨g, o, none⟩ = w.cell? ⟨g, o, none⟩ := fun o => hb.cell (p := ⟨g, o, none⟩) hg
  rw [e, e, e, e, e, e, e, e, e, e]
  exact h k hk
theorem RowPP.below {w w' : World} {g B : Nat} {ps : List Pr} (h : RowPP w g ps) (hb : Below B w w') (hg : g < B) : RowPP w' g ps := by
  intro k hk
  have e : ∀ o, w'.cell? ⟨g, o, none⟩ = w.cell? ⟨g, o, none⟩ := fun o => hb.cell (p := ⟨g, o, none⟩) hg
  rw [e, e, e, e, e]
  exact h k hk

/-- The first of the first m tasks that has the name; -1: none. -/
def findL (l : List (Tk × Nat)) (c : UInt8) : Nat → Nat → Int
  | 0, _ => -1
  | f + 1, k => if (lk l k).1.nm = c then k else findL l c f (k + 1)

theorem bs_one_eq (a c : UInt8) : ((bs [a]).toList == (bs [c]).toList) = decide (a = c) := by
  rw [ByteArray.toList_eq, ByteArray.toList_eq, bs_data, bs_data]
  by_cases h : a = c <;> simp [h]

set_option maxRecDepth 100000 in
set_option maxHeartbeats 1000000 in
theorem findTask_any (l : List (Tk × Nat)) (g m cap : Nat) (c : UInt8) (q : Nat) (w : World) (hg : g < w.heap.size) (hr : RowPT w g l) (hm : m ≤ l.length) (hn : l.length ≤ 6) :
    Calls Tryz.prog 125 #[.slice (some ⟨g, 0, none⟩) m cap, .agg #[.string (bs [c]), .int .i64 q]] w fun e w' => e = .returned (.int .i64 (findL l c m 0)) ∧ Below w.heap.size w w' := by
  have hX := hide (blk_new w #[.string (bs [c]), .int .i64 q] 170)
  have Hb := hide (below_new w (.cells #[.string (bs [c]), .int .i64 q] 170))
  have Hr := hide hr
  clear hr
  go_enter Tryz.func125, Tryz.ntmps125
  go_wp2
  go_loopw [9] (fun i wr => ∃ k : Nat, k ≤ m ∧ i = .int .i64 k ∧ Hid (findL l c m 0 = findL l c (m - k) k) ∧ wr.heap[w.heap.size]? = some (.cells #[.string (bs [c]), .int .i64 q] 170 (0, 0)) ∧ Below w.heap.size w wr) (fun i _ => m - (intOf i).toNat)
  case atStart => exact ⟨0, by omega, rfl, rfl, hX.out, Hb.out⟩
  case round =>
    clear hX Hb
    obtain ⟨k, hk, rfl, hf, hx, hb⟩ := hrel
    have xc := blk_cell hx
    have hxl := blk_lt hx
    have Hx := hide hx
    have Hb := hide hb
    clear hx hb
    by_cases hlt : k < m
    · obtain ⟨r0, r1, r2, r3, r4, r5, r6, r7, r8, r9⟩ := Hr.out.below Hb.out hg k (by omega)
      have hgw : g < wr.heap.size := by omega
      have hfs : findL l c (m - k) k = if (lk l k).1.nm = c then (k : Int) else findL l c (m - (k + 1)) (k + 1) := by
        rw [show m - k = (m - (k + 1)) + 1 by omega, findL]
      have Hfs := hide hfs
      clear hfs
      by_cases hc : (lk l k).1.nm = c
      · have hbq : ((bs [(lk l k).1.nm]).toList == (bs [c]).toList) = true := by rw [bs_one_eq]; simpa using hc
        have Hc := hide hc
        clear hc
        generalize lk l k = x at *
        go_wp2
        go_ret
        refine ⟨ret_int ?_, Hb.out.alloc (by omega) _⟩
        rw [hf.out, Hfs.out, if_pos Hc.out]
      · have hbq : ((bs [(lk l k).1.nm]).toList == (bs [c]).toList) = false := by rw [bs_one_eq]; simpa using hc
        have Hc := hide hc
        clear hc
        generalize lk l k = x at *
        go_wp2
        go_roundw
        case rel => exact ⟨k + 1, by omega, by go_num, by unfold Hid; rw [hf.out, Hfs.out, if_neg Hc.out], by rw [Below.heap_alloc _ _ _ hxl]; exact Hx.out, Hb.out.alloc (by omega) _⟩
        case measure => simp [intOf]; omega
    · go_wp2
      go_ret
      refine ⟨ret_int ?_, Hb.out⟩
      rw [hf.out, show m - k = 0 by omega, findL]

def LieOut (v q : Nat) (lo hi : Int) (w : World) (e : Ending) (w' : World) : Prop :=
  Below w.heap.size w w' ∧ ((((v : Int) < lo ∨ hi < v) ∧ e = pan 4 q) ∨ ((lo ≤ (v : Int) ∧ (v : Int) ≤ hi) ∧ e = .returned (.tuple #[])))

set_option maxRecDepth 100000 in
set_option maxHeartbeats 1000000 in
theorem mustLie_any (v q : Nat) (lo hi : Int) (w : World) :
    Calls Tryz.prog 151 #[.agg #[.int .i64 v, .int .i64 q], .int .i64 lo, .int .i64 hi] w (LieOut v q lo hi w) := by
  by_cases h1 : (v : Int) < lo
  · go_enter Tryz.func151, Tryz.ntmps151
    go_wp2_with fail
    refine (refuse_any 4 q _ rfl _).mono ?_
    rintro e w' ⟨rfl, rfl⟩
    exact ⟨rfl, below_new _ _, .inl ⟨.inl h1, rfl⟩⟩
  · by_cases h2 : hi < (v : Int)
    · go_enter Tryz.func151, Tryz.ntmps151
      go_wp2_with fail
      refine (refuse_any 4 q _ rfl _).mono ?_
      rintro e w' ⟨rfl, rfl⟩
      exact ⟨rfl, below_new _ _, .inl ⟨.inr h2, rfl⟩⟩
    · go_enter Tryz.func151, Tryz.ntmps151
      go_wp2
      go_end0
      exact ⟨below_new _ _, .inr ⟨⟨by omega, by omega⟩, rfl⟩⟩

set_option maxRecDepth 100000 in
set_option maxHeartbeats 1000000 in
theorem pgcd_any (a b : Nat) (w : World) (ha : a ≤ 100000) (hb : b ≤ 100000) :
    Calls Tryz.prog 171 #[.int .i64 a, .int .i64 b] w fun e w' => e = .returned (.int .i64 (Nat.gcd a b)) ∧ Below w.heap.size w w' := by
  go_enter Tryz.func171, Tryz.ntmps171
  go_wp2
  go_loopw [0, 1] (fun p q wr => ∃ x y : Nat, x ≤ 100000 ∧ y ≤ 100000 ∧ p = .int .i64 x ∧ q = .int .i64 y ∧ Hid (Nat.gcd a b = Nat.gcd x y) ∧ Below w.heap.size w wr) (fun _ q _ => (intOf q).toNat)
  case atStart => exact ⟨a, b, ha, hb, rfl, rfl, rfl, Below.refl _ _⟩
  case round =>
    obtain ⟨x, y, hx, hy, rfl, rfl, hg, hbw⟩ := hrel
    have Hbw := hide hbw
    clear hbw
    by_cases h0 : y = 0
    · have h0' : ((y : Int) != 0) = false := by simp; omega
      have H0 := hide h0
      clear h0
      go_wp2
      go_ret
      refine ⟨ret_int ?_, Hbw.out⟩
      rw [hg.out, H0.out, Nat.gcd_zero_right]
    · have h0' : ((y : Int) != 0) = true := by rw [bne_iff_ne]; omega
      have h0'' : ¬ (y : Int) = 0 := by omega
      have hlt : x % y < y := Nat.mod_lt _ (by omega)
      have Hlt := hide hlt
      have Hg : Hid (Nat.gcd x y = Nat.gcd y (x % y)) := by unfold Hid; rw [Nat.gcd_comm x y, Nat.gcd_rec y x, Nat.gcd_comm]
      clear h0 hlt
      go_wp2
      go_quiet (fail)
      go_wp2
      refine ⟨⟨y, x % y, hy, by have := Hlt.out; omega, rfl, by go_num, by unfold Hid; rw [hg.out, Hg.out], below_drewN Hbw.out _⟩, ?_⟩
      have := Hlt.out
      simp only [intOf]
      omega

def ptA (x : Tk × Nat) : Array Value := #[.string (bs [x.1.nm]), .int .i64 x.1.q0, .int .i64 x.1.P, .int .i64 x.1.q1, .int .i64 x.1.O, .int .i64 x.2, .int .i64 x.1.C, .int .i64 x.1.q3, .int .i64 x.1.D, .int .i64 x.1.q4]
theorem ptA_cells {w : World} {X : Nat} {x : Tk × Nat} {ty : TypeId} (h : w.heap[X]? = some (.cells (ptA x) ty (0, 0))) :
    w.cell? ⟨X, 0, none⟩ = some (.string (bs [x.1.nm])) ∧ w.cell? ⟨X, 1, none⟩ = some (.int .i64 x.1.q0) ∧ w.cell? ⟨X, 2, none⟩ = some (.int .i64 x.1.P) ∧ w.cell? ⟨X, 3, none⟩ = some (.int .i64 x.1.q1) ∧ w.cell? ⟨X, 4, none⟩ = some (.int .i64 x.1.O) ∧
    w.cell? ⟨X, 5, none⟩ = some (.int .i64 x.2) ∧ w.cell? ⟨X, 6, none⟩ = some (.int .i64 x.1.C) ∧ w.cell? ⟨X, 7, none⟩ = some (.int .i64 x.1.q3) ∧ w.cell? ⟨X, 8, none⟩ = some (.int .i64 x.1.D) ∧ w.cell? ⟨X, 9, none⟩ = some (.int .i64 x.1.q4) := by
  simp only [blk_cell h]
  exact ⟨rfl, rfl, rfl, rfl, rfl, rfl, rfl, rfl, rfl, rfl⟩

def TimesOut (t : Tk) (w : World) (e : Ending) (w' : World) : Prop :=
  Below w.heap.size w w' ∧ ((0 ≤ timedI t ∧ e = pan 4 (timedI t).toNat) ∨ (timedI t < 0 ∧ e = .returned (.tuple #[])))

set_option maxRecDepth 100000 in
set_option maxHeartbeats 1000000 in
theorem checkTimes_any (x : Tk × Nat) (w : World) (hs : x.1.small) (hz : x.2 = x.1.q2 ∨ x.1.O = 0) :
    Calls Tryz.prog 126 #[.agg (ptA x)] w (TimesOut x.1 w) := by
  obtain ⟨s1, s2, s3, s4⟩ := hs
  have hT : Hid (timedI x.1 = if x.1.P < 1 ∨ 60 < x.1.P then (x.1.q1 : Int)
    else if x.1.P ≤ x.1.O then x.1.q2
    else if x.1.C < 1 ∨ (x.1.P : Int) - x.1.O < x.1.C then x.1.q3
    else if x.1.D < x.1.C ∨ (x.1.P : Int) - x.1.O < x.1.D then x.1.q4
    else -1) := rfl
  have hX := blk_new w (ptA x) 172
  have hb0 := below_new w (.cells (ptA x) 172)
  have HX := hide hX
  have HB := hide hb0
  have Hz := hide hz
  clear hX hb0 hz
  have hptA : ptA x = #[.string (bs [x.1.nm]), .int .i64 x.1.q0, .int .i64 x.1.P, .int .i64 x.1.q1, .int .i64 x.1.O, .int .i64 x.2, .int .i64 x.1.C, .int .i64 x.1.q3, .int .i64 x.1.D, .int .i64 x.1.q4] := rfl
  rw [hptA]
  clear hptA
  go_enter Tryz.func126, Tryz.ntmps126
  go_wp2_with fail
  refine (mustLie_any x.1.P x.1.q1 _ _ _).mono ?_
  rintro e w1 ⟨hb, hcase⟩
  have hB1 := HB.out.trans (hb.mono (by simp))
  have hX1 := blk_keep HX.out hb
  rcases hcase with ⟨h1, rfl⟩ | ⟨h1, rfl⟩
  · refine ⟨rfl, hB1, .inl ?_⟩
    rw [hT.out, if_pos (by omega)]
    exact ⟨by omega, by simp; rfl⟩
  have H1 := hide h1
  have HX1 := hide hX1
  have HB1 := hide hB1
  obtain ⟨c0, c1, c2, c3, c4, c5, c6, c7, c8, c9⟩ := ptA_cells hX1
  clear hb hB1 hX1 h1 HX HB
  go_wp2_with fail
  refine (mustLie_any x.1.O x.2 _ _ _).mono ?_
  rintro e w2 ⟨hb, hcase⟩
  have hB2 := HB1.out.trans (hb.mono HB1.out.size)
  have hX2 := blk_keep HX1.out hb
  rcases hcase with ⟨h1, rfl⟩ | ⟨h1, rfl⟩
  · have g1 := H1.out
    refine ⟨rfl, hB2, .inl ?_⟩
    rw [hT.out, if_neg (by omega), if_pos (by omega)]
    have hq : x.2 = x.1.q2 := by
      rcases Hz.out with h | h
      · exact h
      · omega
    exact ⟨by omega, by rw [hq]; simp; rfl⟩
  have H2 := hide h1
  have HX2 := hide hX2
  have HB2 := hide hB2
  clear c0 c1 c2 c3 c4 c5 c6 c7 c8 c9
  obtain ⟨c0, c1, c2, c3, c4, c5, c6, c7, c8, c9⟩ := ptA_cells hX2
  clear hb hB2 hX2 h1 HX1 HB1
  go_wp2_with fail
  refine (mustLie_any x.1.C x.1.q3 _ _ _).mono ?_
  rintro e w3 ⟨hb, hcase⟩
  have hB3 := HB2.out.trans (hb.mono HB2.out.size)
  have hX3 := blk_keep HX2.out hb
  rcases hcase with ⟨h1, rfl⟩ | ⟨h1, rfl⟩
  · have g1 := H1.out
    have g2 := H2.out
    refine ⟨rfl, hB3, .inl ?_⟩
    rw [hT.out, if_neg (by omega), if_neg (by omega), if_pos (by omega)]
    exact ⟨by omega, by simp; rfl⟩
  have H3 := hide h1
  have HX3 := hide hX3
  have HB3 := hide hB3
  clear c0 c1 c2 c3 c4 c5 c6 c7 c8 c9
  obtain ⟨c0, c1, c2, c3, c4, c5, c6, c7, c8, c9⟩ := ptA_cells hX3
  clear hb hB3 hX3 h1 HX2 HB2
  go_wp2_with fail
  refine (mustLie_any x.1.D x.1.q4 _ _ _).mono ?_
  rintro e w4 ⟨hb, hcase⟩
  have hB4 := HB3.out.trans (hb.mono HB3.out.size)
  have g1 := H1.out
  have g2 := H2.out
  have g3 := H3.out
  rcases hcase with ⟨h1, rfl⟩ | ⟨h1, rfl⟩
  · refine ⟨rfl, hB4, .inl ?_⟩
    rw [hT.out, if_neg (by omega), if_neg (by omega), if_neg (by omega), if_pos (by omega)]
    exact ⟨by omega, by simp; rfl⟩
  have hneg := hide (show timedI x.1 < 0 by rw [hT.out, if_neg (by omega), if_neg (by omega), if_neg (by omega), if_neg (by omega)]; omega)
  have HB4 := hide hB4
  clear hb hB4 g1 g2 g3 h1
  go_wp2
  go_end0
  exact ⟨HB4.out, .inr ⟨hneg.out, rfl⟩⟩

set_option maxRecDepth 100000 in
set_option maxHeartbeats 1000000 in
theorem lcm_any (a b : Nat) (w : World) (ha1 : 1 ≤ a) (ha : a ≤ 60) (hb : b ≤ 60) :
    Calls Tryz.prog 153 #[.int .i64 a, .int .i64 b] w fun e w' => e = .returned (.int .i64 (a / Nat.gcd a b * b : Nat)) ∧ Below w.heap.size w w' := by
  have hgp : 0 < Nat.gcd a b := Nat.gcd_pos_of_pos_left _ (by omega)
  have hd0 : ¬ ((Nat.gcd a b : Nat) : Int) = 0 := by omega
  have hle : a / Nat.gcd a b ≤ 60 := Nat.le_trans (Nat.div_le_self _ _) ha
  obtain ⟨L, hL⟩ : ∃ L, L = a / Nat.gcd a b * b := ⟨_, rfl⟩
  have hw : wrap64 (wrap64 ((a : Int) / (Nat.gcd a b : Nat)) * b) = (L : Int) := by rw [hL]; exact lcm_wrap a (Nat.gcd a b) b hle hb
  rw [← hL]
  clear hL hle hgp
  go_enter Tryz.func153, Tryz.ntmps153
  go_wp2_with fail
  refine (pgcd_any a b _ (by omega) (by omega)).mono ?_
  rintro e w1 ⟨rfl, hb1⟩
  have Hb := hide hb1
  clear hb1
  go_wp2
  go_ret
  exact ⟨ret_int hw, Hb.out⟩
end Go.Proofs.YtbdffcjganlblaaGreatDoor

namespace Go.Proofs.YtbdffcjganlblaaGreatDoor
open Go.RowKit
set_option linter.unusedVariables false
set_option linter.unusedSimpArgs false

theorem lk_fst (l : List (Tk × Nat)) (k : Nat) : (lk l k).1 = tsk (l.map Prod.fst) k := by
  unfold lk tsk
  rw [List.getD_eq_getElem?_getD, List.getD_eq_getElem?_getD, List.getElem?_map]
  cases l[k]? <;> rfl

set_option maxRecDepth 100000 in
set_option maxHeartbeats 1000000 in
theorem cycle_any (l : List (Tk × Nat)) (g cap : Nat) (pa : Option Addr) (pm pc : Nat) (w : World) (hg : g < w.heap.size) (hr : RowPT w g l) (hn : l.length ≤ 6) (hP : ∀ k, k < l.length → 1 ≤ (lk l k).1.P ∧ (lk l k).1.P ≤ 60) :
    Calls Tryz.prog 128 #[.agg #[.slice (some ⟨g, 0, none⟩) l.length cap, .slice pa pm pc]] w fun e w' => (∃ v : Nat, e = .returned (.int .i64 v) ∧ (60 < v ↔ cycI (l.map Prod.fst) = 0)) ∧ Below w.heap.size w w' := by
  have Hb := hide (below_new w (.cells #[.slice (some ⟨g, 0, none⟩) l.length cap, .slice pa pm pc] 84))
  have Hr := hide hr
  have HP := hide hP
  have Hc : Hid (cycI (l.map Prod.fst) = cycF (l.map Prod.fst) (l.map Prod.fst).length 0 1) := rfl
  have hml : Hid ((l.map Prod.fst).length = l.length) := by simp [Hid]
  clear hr hP
  go_enter Tryz.func128, Tryz.ntmps128
  go_wp2
  go_loopw [3, 9] (fun x i wr => ∃ (k h : Nat), k ≤ l.length ∧ i = .int .i64 k ∧ x = .int .i64 h ∧ 1 ≤ h ∧ h ≤ 60 ∧ Below w.heap.size w wr ∧ Hid (cycI (l.map Prod.fst) = cycF (l.map Prod.fst) (l.length - k) k h)) (fun _ i _ => l.length - (intOf i).toNat)
  case atStart => exact ⟨0, 1, by omega, rfl, rfl, by omega, by omega, Hb.out, by unfold Hid; rw [Hc.out, hml.out]; rfl⟩
  case round =>
    clear Hb Hc hml
    obtain ⟨k, h, hk, rfl, rfl, hh1, hh2, hbw, hf⟩ := hrel
    have Hb := hide hbw
    have hsz := hbw.size
    clear hbw
    by_cases hlt : k < l.length
    · obtain ⟨r0, r1, r2, r3, r4, r5, r6, r7, r8, r9⟩ := Hr.out.below Hb.out hg k hlt
      have hgw : g < wr.heap.size := by omega
      obtain ⟨hP1, hP2⟩ := HP.out k hlt
      have hfs : cycF (l.map Prod.fst) (l.length - k) k h = if 60 < h / Nat.gcd h (lk l k).1.P * (lk l k).1.P then 0 else cycF (l.map Prod.fst) (l.length - (k + 1)) (k + 1) (h / Nat.gcd h (lk l k).1.P * (lk l k).1.P) := by
        rw [lk_fst, show l.length - k = (l.length - (k + 1)) + 1 by omega, cycF]
      have hpos := lcm_pos h (lk l k).1.P hh1 hP1
      have Hfs := hide hfs
      clear hfs
      generalize lk l k = x at *
      go_wp2_with fail
      refine (lcm_any h x.1.P _ hh1 hh2 hP2).mono ?_
      rintro e w1 ⟨rfl, hb1⟩
      have Hb1 := hide (Hb.out.trans (((below_new wr _).trans (hb1.mono (by simp))).mono (by omega)))
      clear hb1
      generalize h / Nat.gcd h x.1.P * x.1.P = L at *
      by_cases h60 : 60 < L
      · have h60' : (60 : Int) < L := by omega
        go_wp2
        go_ret
        refine ⟨⟨L, rfl, ?_⟩, Hb1.out⟩
        rw [hf.out, Hfs.out, if_pos h60]
        exact ⟨fun _ => rfl, fun _ => h60⟩
      · have h60' : ¬ (60 : Int) < L := by omega
        go_wp2
        go_roundw
        case rel => exact ⟨k + 1, L, by omega, by go_num, rfl, by omega, by omega, Hb1.out, by unfold Hid; rw [hf.out, Hfs.out, if_neg h60]⟩
        case measure => simp [intOf]; omega
    · go_wp2
      go_ret
      refine ⟨⟨h, rfl, ?_⟩, Hb.out⟩
      rw [hf.out, show l.length - k = 0 by omega, cycF]
      omega

def FindOut (l : List (Tk × Nat)) (c : UInt8) (q : Nat) (w : World) (e : Ending) (w' : World) : Prop :=
  Below w.heap.size w w' ∧ ((findL l c l.length 0 < 0 ∧ e = pan 3 q) ∨ (0 ≤ findL l c l.length 0 ∧ e = .returned (.int .i64 (findL l c l.length 0))))

set_option maxRecDepth 100000 in
set_option maxHeartbeats 1000000 in
theorem mustFind_any (l : List (Tk × Nat)) (g cap : Nat) (pa : Option Addr) (pm pc : Nat) (c : UInt8) (q : Nat) (w : World) (hg : g < w.heap.size) (hr : RowPT w g l) (hn : l.length ≤ 6) :
    Calls Tryz.prog 152 #[.agg #[.slice (some ⟨g, 0, none⟩) l.length cap, .slice pa pm pc], .agg #[.string (bs [c]), .int .i64 q]] w (FindOut l c q w) := by
  have Hr := hide hr
  clear hr
  go_enter Tryz.func152, Tryz.ntmps152
  go_wp2_with fail
  refine (findTask_any l g l.length cap c q _ (by simp; omega) ((Hr.out.below (below_new w _) hg).below (below_new _ _) (by simp; omega)) (Nat.le_refl _) hn).mono ?_
  rintro e w1 ⟨rfl, hb1⟩
  have hB := hide (((below_new w _).alloc (by simp) _).trans (hb1.mono (by simp; omega)))
  have hX : w1.heap[w.heap.size + 1]? = some (.cells #[.string (bs [c]), .int .i64 q] 170 (0, 0)) := by
    refine blk_keep ?_ hb1
    simpa using blk_new (w.alloc _) _ _
  have xc := blk_cell hX
  clear hb1 hX
  by_cases h0 : findL l c l.length 0 < 0
  · have H0 := hide h0
    go_wp2_with fail
    refine (refuse_any 3 q _ rfl _).mono ?_
    rintro e w' ⟨rfl, rfl⟩
    exact ⟨rfl, hB.out, .inl ⟨H0.out, rfl⟩⟩
  · have H0 : Hid (0 ≤ findL l c l.length 0) := by unfold Hid; omega
    go_wp2
    go_ret
    exact ⟨hB.out, .inr ⟨H0.out, rfl⟩⟩

/-- What is wrong with a pair. -/
def pE (l : List (Tk × Nat)) (p : Pr) : Option (Nat × Nat) :=
  if findL l p.a l.length 0 < 0 then some (3, p.q0)
  else if findL l p.b l.length 0 < 0 then some (3, p.q1)
  else if findL l p.a l.length 0 = findL l p.b l.length 0 then some (5, p.q1)
  else if p.ap = false ∧ (lk l (findL l p.a l.length 0).toNat).1.P ≠ (lk l (findL l p.b l.length 0).toNat).1.P then some (5, p.q1)
  else none

def COut (E : Option (Nat × Nat)) (w : World) (e : Ending) (w' : World) : Prop :=
  Below w.heap.size w w' ∧ ((∃ f, E = some f ∧ e = pan f.1 f.2) ∨ (E = none ∧ e = .returned (.tuple #[])))

theorem findL_lt (l : List (Tk × Nat)) (c : UInt8) : ∀ (f k : Nat), findL l c f k < k + f ∧ -1 ≤ findL l c f k
  | 0, k => by simp [findL]; omega
  | f + 1, k => by
    rw [findL]
    have := findL_lt l c f (k + 1)
    split
    · omega
    · omega

def pW (p : Pr) : List UInt8 := if p.ap then [97, 112, 97, 114, 116] else [98, 101, 102, 111, 114, 101]
def ppA (p : Pr) : Array Value := #[.string (bs (pW p)), .string (bs [p.a]), .int .i64 p.q0, .string (bs [p.b]), .int .i64 p.q1]

set_option maxRecDepth 100000 in
set_option maxHeartbeats 1000000 in
theorem checkPair_any (l : List (Tk × Nat)) (g cap : Nat) (pa : Option Addr) (pm pc : Nat) (p : Pr) (w : World) (hg : g < w.heap.size) (hr : RowPT w g l) (hn : l.length ≤ 6) :
    Calls Tryz.prog 127 #[.agg #[.slice (some ⟨g, 0, none⟩) l.length cap, .slice pa pm pc], .agg #[.string (bs (pW p)), .string (bs [p.a]), .int .i64 p.q0, .string (bs [p.b]), .int .i64 p.q1]] w (COut (pE l p) w) := by
  have Hr := hide hr
  have hE : Hid (pE l p = if findL l p.a l.length 0 < 0 then some (3, p.q0)
    else if findL l p.b l.length 0 < 0 then some (3, p.q1)
    else if findL l p.a l.length 0 = findL l p.b l.length 0 then some (5, p.q1)
    else if p.ap = false ∧ (lk l (findL l p.a l.length 0).toNat).1.P ≠ (lk l (findL l p.b l.length 0).toNat).1.P then some (5, p.q1)
    else none) := rfl
  have hfa := findL_lt l p.a l.length 0
  have hfb := findL_lt l p.b l.length 0
  have hW : ((bs (pW p)).toList == [98, 101, 102, 111, 114, 101]) = !p.ap := by
    rw [ByteArray.toList_eq, bs_data]
    unfold pW
    cases p.ap <;> rfl
  clear hr
  go_enter Tryz.func127, Tryz.ntmps127
  go_wp2_with fail
  refine (mustFind_any l g cap pa pm pc p.a p.q0 _ (by simp; omega) ((Hr.out.below (below_new w _) hg).below (below_new _ _) (by simp; omega)) hn).mono ?_
  rintro e w1 ⟨hb1, hcase⟩
  have hB := ((below_new w _).alloc (by simp) _).trans (hb1.mono (by simp; omega))
  have hX : w1.heap[w.heap.size]? = some (.cells #[.slice (some ⟨g, 0, none⟩) l.length cap, .slice pa pm pc] 84 (0, 0)) := by
    refine blk_keep ?_ hb1
    rw [Below.heap_alloc _ _ _ (by simp)]
    exact blk_new _ _ _
  have hY : w1.heap[w.heap.size + 1]? = some (.cells (ppA p) 175 (0, 0)) := by
    refine blk_keep ?_ hb1
    simpa [ppA] using blk_new (w.alloc _) _ _
  have hR1 := Hr.out.below hB hg
  rcases hcase with ⟨h1, rfl⟩ | ⟨h1, rfl⟩
  · exact ⟨rfl, hB, .inl ⟨(3, p.q0), by rw [hE.out, if_pos h1], rfl⟩⟩
  have hsz := hB.size
  have xc := blk_cell hX
  have yc := blk_cell hY
  unfold ppA at yc
  have HX := hide hX
  have HY := hide hY
  have HB := hide hB
  have HR1 := hide hR1
  have H1 := hide h1
  clear hb1 hX hY hB hR1 h1
  go_wp2_with fail
  refine (mustFind_any l g cap pa pm pc p.b p.q1 _ (by omega) HR1.out hn).mono ?_
  rintro e w2 ⟨hb2, hcase⟩
  have hB2 := HB.out.trans (hb2.mono hsz)
  have hX2 := blk_keep HX.out hb2
  have hY2 := blk_keep HY.out hb2
  have hR2 := HR1.out.below hb2 (by omega)
  rcases hcase with ⟨h2, rfl⟩ | ⟨h2, rfl⟩
  · have h1 := H1.out
    exact ⟨rfl, hB2, .inl ⟨(3, p.q1), by rw [hE.out, if_neg (by omega), if_pos h2], rfl⟩⟩
  obtain ⟨na, hna⟩ := Int.eq_ofNat_of_zero_le H1.out
  obtain ⟨nb, hnb⟩ := Int.eq_ofNat_of_zero_le h2
  rw [hna] at hfa ⊢
  rw [hnb] at hfb ⊢
  have hE2 : Hid (pE l p = if na = nb then some (5, p.q1) else if p.ap = false ∧ (lk l na).1.P ≠ (lk l nb).1.P then some (5, p.q1) else none) := by
    unfold Hid
    rw [hE.out, hna, hnb, if_neg (by omega), if_neg (by omega)]
    simp only [Int.toNat_natCast]
    by_cases h : na = nb
    · rw [if_pos h, if_pos (by omega)]
    · rw [if_neg h, if_neg (by omega)]
  clear xc yc hna hnb h2
  have xc := blk_cell hX2
  have yc := blk_cell hY2
  unfold ppA at yc
  have ra := (hR2 na (by omega)).2.2.1
  have rb := (hR2 nb (by omega)).2.2.1
  have hna6 : na < l.length := by omega
  have hnb6 : nb < l.length := by omega
  have HB2 := hide hB2
  clear hb2 hX2 hY2 hR2 hB2 HX HY HB HR1 H1 hE hfa hfb
  have hnot : ∀ (x : Bool) (w : World), (Op.unary .not (.bool x)).run Tryz.prog w = .ok (.bool (!x)) w := fun _ _ => rfl
  by_cases he : na = nb
  · have he1 : ((na : Int) == nb) = true := by simp; omega
    have HE := hide (show pE l p = some (5, p.q1) by rw [hE2.out, if_pos he])
    clear he hE2
    go_wp2_with fail
    refine (refuse_any 5 p.q1 _ rfl _).mono ?_
    rintro e w' ⟨rfl, rfl⟩
    exact ⟨rfl, HB2.out, .inl ⟨(5, p.q1), HE.out, rfl⟩⟩
  · have he1 : ((na : Int) == nb) = false := by simp; omega
    have hE3 : Hid (pE l p = if p.ap = false ∧ (lk l na).1.P ≠ (lk l nb).1.P then some (5, p.q1) else none) := by unfold Hid; rw [hE2.out, if_neg he]
    clear he hE2
    cases hap : p.ap
    · rw [hap] at hW
      simp only [Bool.not_false] at hW
      by_cases hP : (lk l na).1.P = (lk l nb).1.P
      · have hP1 : (((lk l na).1.P : Int) == (lk l nb).1.P) = true := by simp; omega
        have HE := hide (show pE l p = none by rw [hE3.out, if_neg (by intro h; exact h.2 hP)])
        clear hP hE3 hap
        go_wp2
        go_quiet (fail)
        go_wp2
        go_end0
        exact ⟨below_drewN HB2.out _, .inr ⟨HE.out, rfl⟩⟩
      · have hP1 : (((lk l na).1.P : Int) == (lk l nb).1.P) = false := by simp; omega
        have HE := hide (show pE l p = some (5, p.q1) by rw [hE3.out, if_pos ⟨hap, hP⟩])
        clear hP hE3 hap
        go_wp2
        go_quiet (fail)
        go_wp2_with fail
        refine (refuse_any 5 p.q1 _ rfl _).mono ?_
        rintro e w' ⟨rfl, rfl⟩
        exact ⟨rfl, below_drewN HB2.out _, .inl ⟨(5, p.q1), HE.out, rfl⟩⟩
    · rw [hap] at hW
      simp only [Bool.not_true] at hW
      have HE := hide (show pE l p = none by rw [hE3.out, if_neg (by rw [hap]; simp)])
      clear hE3 hap
      cases hP1 : (((lk l na).1.P : Int) == (lk l nb).1.P)
      all_goals
        go_wp2
        go_quiet (fail)
        go_wp2
        go_end0
        exact ⟨below_drewN HB2.out _, .inr ⟨HE.out, rfl⟩⟩
end Go.Proofs.YtbdffcjganlblaaGreatDoor
