/-
  Own work. The program's parser: a pair; the reader, new.
-/
import Derived.Test.YtbdffcjganlblaaGreatDoorProgD
namespace Go.Proofs.YtbdffcjganlblaaGreatDoor
open Go.RowKit
set_option linter.unusedVariables false
set_option linter.unusedSimpArgs false
section
variable {w wk : World} {ty : TypeId} {c d : Array Value} {b : Nat} {s : ByteArray} {i : Nat} {er : Nat}

/-- A pair whose word stands at i. -/
def pPairR (T : List PT) (i : Nat) : Except Nat (Pr × Nat) := pPair T (!(sees (tk T i) wBefore)) (i + 1)

theorem pair_word (l : List UInt8) (j : Nat) (h : (sees (tk (allToks l) j) wBefore || sees (tk (allToks l) j) wApart) = true) : (tk (allToks l) j).tx = if !(sees (tk (allToks l) j) wBefore) then [97, 112, 97, 114, 116] else [98, 101, 102, 111, 114, 101] := by
  cases hb : sees (tk (allToks l) j) wBefore
  · rw [hb] at h
    simp only [Bool.false_or] at h
    rw [← s_apart] at h
    unfold seesP at h
    rw [ByteArray.toList_eq, bs_data, ByteArray.toList_eq] at h
    have : (tk (allToks l) j).tx = wApart.data.toList := by simpa using h
    rw [this]; rfl
  · rw [← s_before] at hb
    unfold seesP at hb
    rw [ByteArray.toList_eq, bs_data, ByteArray.toList_eq] at hb
    have : (tk (allToks l) j).tx = wBefore.data.toList := by simpa using hb
    rw [this]; rfl

theorem token_text (a : Value) (x : ByteArray) (c : Value) (w : World) : (Instr.field 188 (.agg #[a, .string x, c]) 1).run Tryz.prog w = .ok (.string x) w := by
  simp [Instr.field, run_underlying Tryz.underlying188, go_sem, asAgg]

set_option maxRecDepth 100000 in
set_option maxHeartbeats 4000000 in
theorem takePair_any (h : RS er w b s i) (hw : (sees (tk (allToks s.data.toList) i) wBefore || sees (tk (allToks s.data.toList) i) wApart) = true) :
    Calls Tryz.prog 123 #[.pointer (some ⟨b, 0, none⟩)] w (GOut er s b w (pPairR (allToks s.data.toList) i) PV) := by
  have hfin : (tk (allToks s.data.toList) i).fin = false := by
    have h1 : (tk (allToks s.data.toList) i).k = 119 := by
      simp only [Bool.or_eq_true, sees, Bool.and_eq_true, beq_iff_eq] at hw
      rcases hw with hw | hw <;> exact hw.1
    unfold PT.fin
    rw [h1]; rfl
  have Htx := hide (pair_word _ _ hw)
  have S0 := Sp.start h 175 #[.string ⟨#[]⟩, .string ⟨#[]⟩, .int .i64 0, .string ⟨#[]⟩, .int .i64 0] #[.string ⟨#[]⟩, .string ⟨#[]⟩, .int .i64 0, .string ⟨#[]⟩, .int .i64 0]
  clear h hw
  generalize hap : (!(sees (tk (allToks s.data.toList) i) wBefore)) = ap at *
  have Hap := hide hap
  clear hap
  have hfield := fun a x c w => token_text a x c w
  go_enter Tryz.func123, Tryz.ntmps123
  go_wp2_with fail
  refine (take_any S0.rs hfin).mono ?_
  rintro e w1 ⟨hg, hcase⟩
  have hgw := grownBy_trans S0.g hg
  rcases hcase with ⟨h1, rfl⟩ | ⟨h1, rfl⟩
  · obtain ⟨x1, x2, x3, x4, x5⟩ := x_no h1
    exact ⟨rfl, hgw, .inl ⟨i + 1, rfl, .inl (by simp [pPairR, pPair, x2])⟩⟩
  have S1 := S0.call h1 hg
  obtain ⟨x1, x2, x3, x4⟩ := S1.cells
  clear hg hgw h1 S0 hfin
  unfold pv
  go_wp2_with fail
  have S1 := S1.set 0 (.string (bs (tk (allToks s.data.toList) i).tx)) (c' := #[.string (bs (tk (allToks s.data.toList) i).tx), .string ⟨#[]⟩, .int .i64 0, .string ⟨#[]⟩, .int .i64 0]) rfl
  clear x1 x2 x3 x4
  refine (takeName_any S1.rs).mono ?_
  rintro e w2 ⟨hg, hcase⟩
  have hgw := grownBy_trans S1.g hg
  rw [isNameP_eq] at hcase
  rcases hcase with ⟨h0, rfl⟩ | ⟨h0, h1, rfl⟩ | ⟨h0, h1, rfl⟩
  · exact ⟨rfl, hgw, .inl ⟨i + 1, rfl, .inl (by simp [pPairR, pPair, h0])⟩⟩
  · obtain ⟨x1, x2, x3, x4, x5⟩ := x_no h1
    exact ⟨rfl, hgw, .inl ⟨i + 1 + 1, rfl, .inl (by simp [pPairR, pPair, h0, x2, x4])⟩⟩
  have F2 := hide h0
  have S2 := S1.call h1 hg
  obtain ⟨x1, x2, x3, x4⟩ := S2.cells
  clear hg hgw h0 h1 S1
  go_wp2_with fail
  have S2 := S2.set 1 (.string (bs (tk (allToks s.data.toList) (i + 1)).tx)) (c' := #[.string (bs (tk (allToks s.data.toList) i).tx), .string (bs (tk (allToks s.data.toList) (i + 1)).tx), .int .i64 0, .string ⟨#[]⟩, .int .i64 0]) rfl
  have S2 := S2.set 2 (.int .i64 (tk (allToks s.data.toList) (i + 1)).at_) (c' := #[.string (bs (tk (allToks s.data.toList) i).tx), .string (bs (tk (allToks s.data.toList) (i + 1)).tx), .int .i64 (tk (allToks s.data.toList) (i + 1)).at_, .string ⟨#[]⟩, .int .i64 0]) rfl
  clear x1 x2 x3 x4
  refine (takeName_any S2.rs).mono ?_
  rintro e w3 ⟨hg, hcase⟩
  have hgw := grownBy_trans S2.g hg
  rw [isNameP_eq] at hcase
  rcases hcase with ⟨h0, rfl⟩ | ⟨h0, h1, rfl⟩ | ⟨h0, h1, rfl⟩
  · exact ⟨rfl, hgw, .inl ⟨i + 1 + 1, rfl, .inl (by simp [pPairR, pPair, F2.out, h0])⟩⟩
  · obtain ⟨x1, x2, x3, x4, x5⟩ := x_no h1
    exact ⟨rfl, hgw, .inl ⟨i + 1 + 1 + 1, rfl, .inl (by simp [pPairR, pPair, F2.out, h0, x2, x4])⟩⟩
  have F3 := hide h0
  have S3 := S2.call h1 hg
  obtain ⟨x1, x2, x3, x4⟩ := S3.cells
  clear hg hgw h0 h1 S2
  go_wp2_with fail
  have S3 := S3.set 3 (.string (bs (tk (allToks s.data.toList) (i + 1 + 1)).tx)) (c' := #[.string (bs (tk (allToks s.data.toList) i).tx), .string (bs (tk (allToks s.data.toList) (i + 1)).tx), .int .i64 (tk (allToks s.data.toList) (i + 1)).at_, .string (bs (tk (allToks s.data.toList) (i + 1 + 1)).tx), .int .i64 0]) rfl
  have S3 := S3.set 4 (.int .i64 (tk (allToks s.data.toList) (i + 1 + 1)).at_) (c' := #[.string (bs (tk (allToks s.data.toList) i).tx), .string (bs (tk (allToks s.data.toList) (i + 1)).tx), .int .i64 (tk (allToks s.data.toList) (i + 1)).at_, .string (bs (tk (allToks s.data.toList) (i + 1 + 1)).tx), .int .i64 (tk (allToks s.data.toList) (i + 1 + 1)).at_]) rfl
  clear x1 x2 x3 x4
  refine (takeText_any S3.rs ⟨#[59]⟩ (by rw [ByteArray.toList_eq]; decide)).mono ?_
  rintro e w4 ⟨hg, hcase⟩
  have hgw := grownBy_trans S3.g hg
  rw [seesP_semi] at hcase
  rcases hcase with ⟨h0, rfl⟩ | ⟨h0, h1, rfl⟩ | ⟨h0, h1, rfl⟩
  · exact ⟨rfl, hgw, .inl ⟨i + 1 + 1 + 1, rfl, .inl (by simp [pPairR, pPair, F2.out, F3.out, h0])⟩⟩
  · exact ⟨rfl, hgw, .inl ⟨i + 1 + 1 + 1 + 1, rfl, .inr ⟨⟨_, by simp [pPairR, pPair, F2.out, F3.out, h0]; rfl⟩, h1⟩⟩⟩
  have F4 := hide h0
  have S4 := S3.call h1 hg
  obtain ⟨x1, x2, x3, x4⟩ := S4.cells
  clear hg hgw h0 h1 S3
  have hbb := S4.hb
  have hn1 := hide (name_tx F2.out)
  have hn2 := hide (name_tx F3.out)
  go_wp2
  refine bodyPost_ret (v := ppRaw (tk (allToks s.data.toList) i).tx (tk (allToks s.data.toList) (i + 1)).tx (tk (allToks s.data.toList) (i + 1)).at_ (tk (allToks s.data.toList) (i + 1 + 1)).tx (tk (allToks s.data.toList) (i + 1 + 1)).at_) (by simp [results, Tryz.results123, go_sem, x3, ppRaw]) rfl ⟨?_, .inr ⟨(⟨nameB (tk (allToks s.data.toList) (i + 1)), nameB (tk (allToks s.data.toList) (i + 1 + 1)), ap, (tk (allToks s.data.toList) (i + 1)).at_, (tk (allToks s.data.toList) (i + 1 + 1)).at_⟩ : Pr), i + 1 + 1 + 1 + 1, _, by simp [pPairR, pPair, F2.out, F3.out, F4.out, Hap.out], ?_, rfl, ?_⟩⟩
  · have Y : ∀ (wz : World) (o : Nat) (v : Value), w.grownBy wz (some b) → w.grownBy (wz.setCell ⟨w.heap.size, o, none⟩ v) (some b) := fun wz o v hz => grownBy_setNew hz (Nat.le_refl _) o v
    exact Y _ _ _ (Y _ _ _ (Y _ _ _ (Y _ _ _ (Y _ _ _ S4.g))))
  · have Y : ∀ (wz : World) (o : Nat) (v : Value), RS er wz b s (i + 1 + 1 + 1 + 1) → RS er (wz.setCell ⟨w.heap.size, o, none⟩ v) b s (i + 1 + 1 + 1 + 1) := fun wz o v hz => hz.set (by omega) o v
    exact Y _ _ _ (Y _ _ _ (Y _ _ _ (Y _ _ _ (Y _ _ _ S4.rs))))
  · unfold PV
    rw [Htx.out, hn1.out, hn2.out]

set_option maxRecDepth 100000 in
set_option maxHeartbeats 1000000 in
theorem newReader_any (er : Nat) (ev : Int) (hev : ev = er) (s : ByteArray) (w : World) (hs : s.size ≤ 800) :
    Calls Tryz.prog 100 #[.string s, .int .i64 ev] w fun en w' => Below w.heap.size w w' ∧ (((tk (allToks s.data.toList) 0).k = 120 ∧ en = pan er (tk (allToks s.data.toList) 0).at_) ∨ (RS er w' w.heap.size s 0 ∧ en = .returned (.pointer (some ⟨w.heap.size, 0, none⟩)))) := by
  subst hev
  have hn : Hid (tk (allToks s.data.toList) 0 = nextTok s.data.toList 0) := (toks_next _ _ 0).1
  have h0 : Hid (0 < (allToks s.data.toList).length) := toks_ne _ _ _
  go_enter Tryz.func100, Tryz.ntmps100
  go_wp2_with fail
  refine (tokenFrom_any er s w.heap.size 0 _ hs (by omega) (by simp [go_sem]) (by simp [go_sem]) (by simp)).mono ?_
  rintro e w1 ⟨hb, hcase⟩
  rw [← hn.out] at hcase
  have hbw : Below w.heap.size w w1 := (below_new w _).trans (hb.mono (by simp))
  have hX := blk_kept (blk_new w _ _) hb
  rcases hcase with ⟨h1, rfl⟩ | ⟨h1, rfl⟩
  · exact ⟨rfl, hbw, .inl ⟨h1, rfl⟩⟩
  · have xc := blk_cell hX
    have xf := blk_frozen hX
    have hset : RS er (((w1.setCell ⟨w.heap.size, 2, none⟩ (.int .i64 (kc (tk (allToks s.data.toList) 0).k))).setCell ⟨w.heap.size, 3, none⟩ (.string (bs (tk (allToks s.data.toList) 0).tx))).setCell ⟨w.heap.size, 4, none⟩ (.int .i64 (tk (allToks s.data.toList) 0).at_)) w.heap.size s 0 := by
      refine ⟨?_, h0.out, h1, hs⟩
      rw [blk_set (blk_set (blk_set hX 2 _) 3 _) 4 _]
      rfl
    have Hset := hide hset
    have Hb := hide (((hbw.setCell (p := ⟨w.heap.size, 2, none⟩) (Nat.le_refl _) (.int .i64 (kc (tk (allToks s.data.toList) 0).k))).setCell (p := ⟨w.heap.size, 3, none⟩) (Nat.le_refl _) (.string (bs (tk (allToks s.data.toList) 0).tx))).setCell (p := ⟨w.heap.size, 4, none⟩) (Nat.le_refl _) (.int .i64 (tk (allToks s.data.toList) 0).at_))
    clear hX hset hbw hb h1 hn
    unfold pv
    go_wp2
    go_ret
    exact ⟨Hb.out, .inr ⟨Hset.out, rfl⟩⟩
end
end Go.Proofs.YtbdffcjganlblaaGreatDoor
