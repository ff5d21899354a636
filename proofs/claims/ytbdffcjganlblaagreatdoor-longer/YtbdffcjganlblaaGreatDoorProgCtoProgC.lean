/-
  Own work. strconv.Atoi at few digits; the program's reader: takeName, takeNumber, takeEnd, seesPair.
-/
import Derived.Test.YtbdffcjganlblaaGreatDoorProgAtoProgB
namespace Go.Proofs.YtbdffcjganlblaaGreatDoor
open Go.RowKit
set_option linter.unusedVariables false
set_option linter.unusedSimpArgs false

theorem bytes_named (s : ByteArray) (w : World) : ∃ (W : World) (cap : Nat), (convert 9 64 (.string s)).run Tryz.prog w = .ok (.slice (some ⟨w.heap.size, 0, none⟩) s.size cap) W ∧ Below w.heap.size w W ∧
    ∀ j, (hj : j < s.size) → W.cell? ⟨w.heap.size, j, none⟩ = some (.int .u8 (s[j].toNat : Int)) := by
  refine ⟨_, _, run_bytes_of_string w 9 64 5 s Tryz.underlying9 Tryz.underlying64 Tryz.underlying5, ?_, ?_⟩
  · exact (Below.refl _ _).drew.alloc (Nat.le_refl _) _
  · intro j hj
    have hb : (w.drew.alloc (.cells (bytesRow s (grownCap w s.size 0 5)) 5 ((bytesRow s (grownCap w s.size 0 5)).size, (bytesRow s (grownCap w s.size 0 5)).size + 1))).heap[w.heap.size]? = some (.cells (bytesRow s (grownCap w s.size 0 5)) 5 ((bytesRow s (grownCap w s.size 0 5)).size, (bytesRow s (grownCap w s.size 0 5)).size + 1)) := by
      show (w.heap.push _)[w.heap.size]? = _
      simp
    simp only [World.cell?, hb]
    exact bytesRow_at s _ j hj

set_option maxRecDepth 100000 in
set_option maxHeartbeats 1000000 in
theorem iatoi_any (s : ByteArray) (w : World) (h1 : 1 ≤ s.size) (h4 : s.size ≤ 4) (hd : ∀ c ∈ s.data.toList, digitB (c.toNat : Int) = true) :
    Calls Tryz.prog 164 #[.string s] w fun e w' => e = .returned (.tuple #[.int .i64 (dval s.data.toList), .nilIface]) ∧ Below w.heap.size w w' := by
  obtain ⟨W, cap, hcv, hb, hc⟩ := bytes_named s w
  have hdig : Hid (∀ j, (hj : j < s.size) → 48 ≤ s[j].toNat ∧ s[j].toNat ≤ 57) := by
    intro j hj
    have := hd s[j] (by
      have : s[j] = s.data.toList[j]'(by simpa using hj) := rfl
      rw [this]; exact List.getElem_mem _)
    simp only [digitB, Bool.and_eq_true, decide_eq_true_eq] at this
    omega
  have hdl : Hid (∀ k, k ≤ s.size → dval (s.data.toList.take k) < 10000) := by
    intro k hk
    have h := dval_lt (s.data.toList.take k) (by
      intro c hc
      have := hd c (List.mem_of_mem_take hc)
      simp only [digitB, Bool.and_eq_true, decide_eq_true_eq] at this
      omega)
    have h3 : 10 ^ (s.data.toList.take k).length ≤ 10 ^ 4 := Nat.pow_le_pow_right (by omega) (by simp; omega)
    omega
  have h0 : (0 : Int) < s.size := by omega
  have h19 : (s.size : Int) < 19 := by omega
  have hs0 := hdig.out 0 (by omega)
  have hm1 : ((s[0].toNat : Int) == 45) = false := by simp; omega
  have hm2 : ((s[0].toNat : Int) == 43) = false := by simp; omega
  have Hb := hide hb
  have Hc := hide hc
  clear hb hc hd hs0
  go_enter Tryz.func164, Tryz.ntmps164
  go_wp2
  go_loop [6, 49] (fun n i => ∃ k d : Nat, k ≤ s.size ∧ i = .int .i64 k ∧ n = .int .i64 d ∧ d < 10000 ∧ Hid (d = dval (s.data.toList.take k))) (fun _ i => s.size - (intOf i).toNat)
  case atStart => exact ⟨0, 0, by omega, rfl, rfl, by omega, by simp [Hid, dval]⟩
  case round =>
    obtain ⟨k, d, hk, rfl, rfl, hd4, hdv⟩ := hrel
    by_cases hlt : k < s.size
    · have hcell := Hc.out k hlt
      obtain ⟨hb1, hb2⟩ := hdig.out k hlt
      have hb1' : (48 : Int) ≤ s[k].toNat := by omega
      have hb2' : (s[k].toNat : Int) ≤ 57 := by omega
      have hsn : Hid (dval (s.data.toList.take (k + 1)) = 10 * d + (s[k].toNat - 48)) := by
        unfold Hid
        have := take_more s 0 k (by omega) hlt
        simp only [List.drop_zero, Nat.sub_zero] at this
        rw [this, dval_snoc, ← hdv.out]
      have hbnd := hdl.out (k + 1) (by omega)
      rw [hsn.out] at hbnd
      go_wp2
      go_round
      case rel => exact ⟨k + 1, 10 * d + (s[k].toNat - 48), by omega, by go_num, by go_num, hbnd, by rw [hsn.out]; rfl⟩
      case measure => simp [intOf]; omega
    · go_wp2
      go_ret2
      refine ⟨?_, Hb.out⟩
      have hfull : dval s.data.toList = d := by
        rw [hdv.out, List.take_of_length_le (by simp; omega)]
      rw [hfull]
      rfl

set_option maxRecDepth 100000 in
set_option maxHeartbeats 1000000 in
theorem atoi_any (s : ByteArray) (w : World) (h1 : 1 ≤ s.size) (h4 : s.size ≤ 4) (hd : ∀ c ∈ s.data.toList, digitB (c.toNat : Int) = true) :
    Calls Tryz.prog 143 #[.string s] w fun e w' => e = .returned (.tuple #[.int .i64 (dval s.data.toList), .nilIface]) ∧ Below w.heap.size w w' := by
  have H := hide (iatoi_any s w h1 h4 hd)
  clear hd h1 h4
  generalize dval s.data.toList = d at *
  go_enter Tryz.func143, Tryz.ntmps143
  go_wp2_with fail
  refine H.out.mono ?_
  rintro e w' ⟨rfl, hb⟩
  have Hb := hide hb
  clear hb
  go_wp2
  go_ret2
  exact ⟨rfl, Hb.out⟩

section
variable {w : World} {b : Nat} {s : ByteArray} {i : Nat} {er : Nat}

theorem RS.set (h : RS er w b s i) {X : Nat} (hX : b ≠ X) (o : Nat) (v : Value) : RS er (w.setCell ⟨X, o, none⟩ v) b s i := h.keep (Below.heap_setCell _ _ _ _ hX)

theorem tok_digits {l : List UInt8} {q : Nat} (hk : (tokAt l q).k = 110) : 1 ≤ (tokAt l q).tx.length ∧ (tokAt l q).tx.length ≤ 4 ∧ ∀ c ∈ (tokAt l q).tx, digitB (c.toNat : Int) = true := by
  revert hk
  unfold tokAt
  split
  · intro hk; simp at hk
  · rename_i c r hd
    split
    · rename_i hg
      intro hk
      simp only at hk
      simp [signB, hk] at hg
    · split
      · intro hk; simp at hk
      · split
        · rename_i h4
          intro _
          have := lead_le digitB (c :: r)
          refine ⟨by simp only [List.length_take]; omega, by simp only [List.length_take]; omega, ?_⟩
          exact mem_lead digitB (c :: r) _ (Nat.le_refl _)
        · intro hk; simp at hk

def isNameP (t : PT) : Bool := kc t.k == 1 && t.tx.length == 1

set_option maxRecDepth 100000 in
set_option maxHeartbeats 1000000 in
theorem takeName_any (h : RS er w b s i) :
    Calls Tryz.prog 150 #[.pointer (some ⟨b, 0, none⟩)] w (StepOut er s b w (isNameP (tk (allToks s.data.toList) i)) i (.agg #[.string (bs (tk (allToks s.data.toList) i).tx), .int .i64 (tk (allToks s.data.toList) i).at_])) := by
  obtain ⟨⟨c0, ce⟩, c1, c2, c3, f0⟩ := h.cells
  have hlt := blk_lt h.h
  have H := hide h
  have hfin : Hid (isNameP (tk (allToks s.data.toList) i) = true → (tk (allToks s.data.toList) i).fin = false) := by
    intro hn
    cases hq : (tk (allToks s.data.toList) i).fin
    · rfl
    · have := tk_fin_tx _ _ hq
      simp [isNameP, this] at hn
  have hbz : (bs (tk (allToks s.data.toList) i).tx).size = (tk (allToks s.data.toList) i).tx.length := bs_size _
  clear h
  cases hN : isNameP (tk (allToks s.data.toList) i)
  · have hS : Hid (isNameP (tk (allToks s.data.toList) i) = false) := hN
    have hcase : ((kc (tk (allToks s.data.toList) i).k : Int) != 1) = true ∨ (((kc (tk (allToks s.data.toList) i).k : Int) != 1) = false ∧ (((bs (tk (allToks s.data.toList) i).tx).size : Int) != 1) = true) := by
      rw [hbz]
      simp only [isNameP, Bool.and_eq_false_iff, beq_eq_false_iff_ne, ne_eq] at hN
      simp only [bne_iff_ne, ne_eq, bne_eq_false_iff_eq]
      omega
    clear hN hbz
    rcases hcase with h1 | ⟨h1, h2⟩
    all_goals
      go_enter Tryz.func150, Tryz.ntmps150
      go_wp2_with fail
      refine (refuseNext_any (H.out.alloc _)).mono ?_
      rintro e w' ⟨rfl, hg⟩
      exact ⟨rfl, grownBy_trans (World.grownBy_alloc _ _ _) (grownBy_none hg), .inl ⟨rfl, rfl⟩⟩
  · have hS : Hid (isNameP (tk (allToks s.data.toList) i) = true) := hN
    have Hf := hide (hfin.out hN)
    have h1 : ((kc (tk (allToks s.data.toList) i).k : Int) != 1) = false := by
      simp only [isNameP, Bool.and_eq_true, beq_iff_eq] at hN
      simp only [bne_eq_false_iff_eq]
      omega
    have h2 : (((bs (tk (allToks s.data.toList) i).tx).size : Int) != 1) = false := by
      rw [hbz]
      simp only [isNameP, Bool.and_eq_true, beq_iff_eq] at hN
      simp only [bne_eq_false_iff_eq]
      omega
    clear hN hbz hfin
    go_enter Tryz.func150, Tryz.ntmps150
    go_wp2_with fail
    refine (take_any (H.out.alloc _) Hf.out).mono ?_
    rintro e w1 ⟨hg, hcase⟩
    have hgw : w.grownBy w1 (some b) := grownBy_trans (World.grownBy_alloc w _ _) hg
    have hY : w1.heap[w.heap.size]? = some (.cells #[.string ⟨#[]⟩, .int .i64 0] 170 (0, 0)) := by
      rw [hg.block _ (by simp) (by simp; omega)]
      exact blk_new _ _ _
    rcases hcase with ⟨h3, rfl⟩ | ⟨h3, rfl⟩
    · exact ⟨rfl, hgw, .inr (.inl ⟨rfl, h3, rfl⟩)⟩
    · have yc := blk_cell hY
      have yf := blk_frozen hY
      have hl1 := blk_lt hY
      have Hr := hide h3
      have Hg := hide hgw
      clear hY hg hgw h3 c0 ce c1 c2 c3 f0 H h1 h2
      unfold pv
      go_wp2
      refine bodyPost_ret (v := .agg #[.string (bs (tk (allToks s.data.toList) i).tx), .int .i64 (tk (allToks s.data.toList) i).at_]) (by simp [results, Tryz.results150, go_sem, yc, hl1]) rfl ⟨?_, .inr (.inr ⟨rfl, ?_, rfl⟩)⟩
      · exact grownBy_alloc' (grownBy_setNew (grownBy_setNew Hg.out (Nat.le_refl _) _ _) (Nat.le_refl _) _ _) _
      · exact ((Hr.out.set (by omega) _ _).set (by omega) _ _).alloc _

set_option maxRecDepth 100000 in
set_option maxHeartbeats 1000000 in
theorem takeNumber_any (h : RS er w b s i) :
    Calls Tryz.prog 102 #[.pointer (some ⟨b, 0, none⟩)] w (StepOut er s b w ((tk (allToks s.data.toList) i).k == 110) i (.agg #[.int .i64 (tk (allToks s.data.toList) i).N, .int .i64 (tk (allToks s.data.toList) i).at_])) := by
  obtain ⟨⟨c0, ce⟩, c1, c2, c3, f0⟩ := h.cells
  have hlt := blk_lt h.h
  have hkk := h.hk
  have H := hide h
  clear h
  cases hN : ((tk (allToks s.data.toList) i).k == 110)
  · have h1 : ((kc (tk (allToks s.data.toList) i).k : Int) != 2) = true := by
      simp only [beq_eq_false_iff_ne, ne_eq] at hN
      rw [bne_iff_ne]
      unfold kc
      split
      · decide
      · split
        · decide
        · decide
    clear hN hkk
    go_enter Tryz.func102, Tryz.ntmps102
    go_wp2_with fail
    refine (refuseNext_any (H.out.alloc _)).mono ?_
    rintro e w' ⟨rfl, hg⟩
    exact ⟨rfl, grownBy_trans (World.grownBy_alloc _ _ _) (grownBy_none hg), .inl ⟨rfl, rfl⟩⟩
  · have hk : (tk (allToks s.data.toList) i).k = 110 := by simpa using hN
    have h1 : ((kc (tk (allToks s.data.toList) i).k : Int) != 2) = false := by rw [hk]; rfl
    have Hf : Hid ((tk (allToks s.data.toList) i).fin = false) := by unfold Hid PT.fin; rw [hk]; rfl
    have hNe : Hid ((tk (allToks s.data.toList) i).N = dval (tk (allToks s.data.toList) i).tx) := by unfold Hid PT.N; rw [hk]; rfl
    obtain ⟨ht1, ht4, htd⟩ : 1 ≤ (tk (allToks s.data.toList) i).tx.length ∧ (tk (allToks s.data.toList) i).tx.length ≤ 4 ∧ ∀ c ∈ (tk (allToks s.data.toList) i).tx, digitB (c.toNat : Int) = true := by
      rcases tk_form s.data.toList i with ⟨q, hq⟩ | hq
      · rw [hq] at hk ⊢
        exact tok_digits hk
      · rw [hq] at hk; simp at hk
    have hat := hide (fun W => atoi_any (bs (tk (allToks s.data.toList) i).tx) W (by rw [bs_size]; exact ht1) (by rw [bs_size]; exact ht4) (by rw [bs_data]; exact htd))
    rw [bs_data, ← hNe.out] at hat
    clear hN hkk hk hNe ht1 ht4 htd
    go_enter Tryz.func102, Tryz.ntmps102
    go_wp2_with fail
    refine (take_any (H.out.alloc _) Hf.out).mono ?_
    rintro e w1 ⟨hg, hcase⟩
    have hgw : w.grownBy w1 (some b) := grownBy_trans (World.grownBy_alloc w _ _) hg
    have hY : w1.heap[w.heap.size]? = some (.cells #[.int .i64 0, .int .i64 0] 145 (0, 0)) := by
      rw [hg.block _ (by simp) (by simp; omega)]
      exact blk_new _ _ _
    rcases hcase with ⟨h3, rfl⟩ | ⟨h3, rfl⟩
    · exact ⟨rfl, hgw, .inr (.inl ⟨rfl, h3, rfl⟩)⟩
    · have hl1 := blk_lt hY
      have Hr := hide h3
      have Hg := hide hgw
      have HY := hide hY
      clear hY hg hgw h3 c0 ce c1 c2 c3 f0 H h1
      unfold pv
      go_wp2_with fail
      refine (hat.out _).mono ?_
      rintro e w2 ⟨rfl, hb2⟩
      have hX := blk_kept (blk_new w1 _ _) hb2
      have hb12 : Below w1.heap.size w1 w2 := (below_new w1 _).trans (hb2.mono (by simp))
      have hY2 := blk_kept HY.out hb12
      have Hr2 := hide (Hr.out.below hb12)
      have Hg2 := hide (grownBy_trans Hg.out (grownBy_none (row := some b) (grown_below hb12)))
      have xc := blk_cell hX
      have yc := blk_cell hY2
      have yf := blk_frozen hY2
      have hl2 := blk_lt hY2
      have hl3 := blk_lt hX
      clear hb2 hX hb12 hY2 Hr Hg HY hat
      go_wp2
      refine bodyPost_ret (v := .agg #[.int .i64 (tk (allToks s.data.toList) i).N, .int .i64 (tk (allToks s.data.toList) i).at_]) (by simp [results, Tryz.results102, go_sem, yc, hl2]) rfl ⟨?_, .inr (.inr ⟨rfl, ?_, rfl⟩)⟩
      · exact grownBy_setNew (grownBy_setNew Hg2.out (Nat.le_refl _) _ _) (Nat.le_refl _) _ _
      · exact (Hr2.out.set (by omega) _ _).set (by omega) _ _

set_option maxRecDepth 100000 in
set_option maxHeartbeats 400000 in
theorem seesEnd_any (h : RS er w b s i) :
    Calls Tryz.prog 103 #[.pointer (some ⟨b, 0, none⟩)] w fun en w' => en = .returned (.bool ((tk (allToks s.data.toList) i).k == 101)) ∧ w' = w := by
  obtain ⟨⟨c0, ce⟩, c1, c2, c3, f0⟩ := h.cells
  have hk : Hid (((kc (tk (allToks s.data.toList) i).k : Int) == 0) = ((tk (allToks s.data.toList) i).k == 101)) := by
    unfold Hid
    rw [Bool.eq_iff_iff]
    simp only [beq_iff_eq]
    unfold kc
    split
    · rename_i h1; simp [h1]
    · rename_i h1
      split
      · simp [h1]
      · split <;> simp [h1]
  clear h
  go_enter Tryz.func103, Tryz.ntmps103
  go_wp2
  go_ret
  exact ⟨by rw [← hk.out]; rfl, rfl⟩

set_option maxRecDepth 100000 in
set_option maxHeartbeats 400000 in
theorem takeEnd_any (h : RS er w b s i) :
    Calls Tryz.prog 124 #[.pointer (some ⟨b, 0, none⟩)] w fun en w' => ((tk (allToks s.data.toList) i).k ≠ 101 ∧ en = pan er (tk (allToks s.data.toList) i).at_ ∧ w.grownBy w' none) ∨ ((tk (allToks s.data.toList) i).k = 101 ∧ en = .returned (.tuple #[]) ∧ w' = w) := by
  have H := hide h
  clear h
  cases hk : ((tk (allToks s.data.toList) i).k == 101)
  · have Hk := hide hk
    clear hk
    go_enter Tryz.func124, Tryz.ntmps124
    go_wp2_with fail
    refine (seesEnd_any H.out).mono ?_
    rintro e w' ⟨rfl, rfl⟩
    rw [Hk.out]
    go_wp2_with fail
    refine (refuseNext_any H.out).mono ?_
    rintro e w' ⟨rfl, hg⟩
    exact ⟨rfl, .inl ⟨by simpa using Hk.out, rfl, hg⟩⟩
  · have Hk := hide hk
    clear hk
    go_enter Tryz.func124, Tryz.ntmps124
    go_wp2_with fail
    refine (seesEnd_any H.out).mono ?_
    rintro e w' ⟨rfl, rfl⟩
    rw [Hk.out]
    go_wp2
    go_end0
    exact .inr ⟨by simpa using Hk.out, rfl, rfl⟩

set_option maxRecDepth 100000 in
set_option maxHeartbeats 400000 in
theorem seesPair_any (h : RS er w b s i) :
    Calls Tryz.prog 122 #[.pointer (some ⟨b, 0, none⟩)] w fun en w' => en = .returned (.bool (seesP (tk (allToks s.data.toList) i) wBefore || seesP (tk (allToks s.data.toList) i) wApart)) ∧ w' = w := by
  have H := hide h
  clear h
  cases h1 : seesP (tk (allToks s.data.toList) i) wBefore
  · have H1 : Hid (((bs (tk (allToks s.data.toList) i).tx).toList == wBefore.toList) = false) := h1
    clear h1
    go_enter Tryz.func122, Tryz.ntmps122
    go_wp2_with fail
    refine (sees_any H.out wBefore).mono ?_
    rintro e w' ⟨rfl, rfl⟩
    rw [H1.out]
    go_wp2_with fail
    refine (sees_any H.out wApart).mono ?_
    rintro e w' ⟨rfl, rfl⟩
    go_wp2
    go_ret
    exact ⟨rfl, rfl⟩
  · have H1 : Hid (((bs (tk (allToks s.data.toList) i).tx).toList == wBefore.toList) = true) := h1
    clear h1
    go_enter Tryz.func122, Tryz.ntmps122
    go_wp2_with fail
    refine (sees_any H.out wBefore).mono ?_
    rintro e w' ⟨rfl, rfl⟩
    rw [H1.out]
    go_wp2
    go_ret
    exact ⟨rfl, rfl⟩
end
end Go.Proofs.YtbdffcjganlblaaGreatDoor
