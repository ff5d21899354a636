/-
  Own work. The program's sort: merging in place.
-/
import Derived.Test.YtbdffcjganlblaaGreatDoorSrBtoSoC
namespace Go.Proofs.YtbdffcjganlblaaGreatDoor
open Go.RowKit
set_option linter.unusedVariables false
set_option linter.unusedSimpArgs false

/-- The row behind a merge. -/
structure MrgOut (js : List Jb) (bl : Nat → Nat) (L : List Nat) (base : Nat) (v : Value) (a b : Nat) (L' : List Nat) (w w' : World) : Prop where
  row : RowJ w' base v bl L'
  srt : Srt (relK js) L' a b
  mov : Mov L L' a b
  f : Frm (fun k => v.ownBlock = some k) w w'

set_option maxRecDepth 100000 in
set_option maxHeartbeats 8000000 in
theorem symFirst_any (js : List Jb) (bl left : Nat → Nat) (L : List Nat) (base : Nat) (v : Value) (w : World) (hv : RowJ w base v bl L) (hj : JobsAt js bl left w) (hL : ∀ x ∈ L, x < js.length) (a b : Nat) (hab : a + 1 < b) (hb : b ≤ L.length) (hn : L.length ≤ 100000) (hs : Srt (relK js) L (a + 1) b) :
    Calls Tryz.prog 208 #[v, .int .i64 a, .int .i64 (a + 1 : Nat), .int .i64 b, cmpF] w fun e w' => e = .returned (.tuple #[]) ∧ ∃ L', MrgOut js bl L base v a b L' w w' := by
  obtain ⟨va, vcap, hvf, _, _⟩ := hv.len
  subst hvf
  have HV := hide hv
  have HJ := hide hj
  have HL := hide hL
  have HS := hide hs
  clear hv hj hL hs
  have h1 : (((a + 1 : Nat) : Int) - a == 1) = true := by simp; omega
  go_enter Tryz.func208, Tryz.ntmps208
  go_wp2_with fail
  clear h1
  go_loopw [10, 11] (fun iv jv wr => ∃ i j : Nat, iv = .int .i64 i ∧ jv = .int .i64 j ∧ a + 1 ≤ i ∧ i ≤ j ∧ j ≤ b ∧ wr.heap = w.heap ∧ Frm (fun _ => False) w wr ∧ (∀ q, a + 1 ≤ q → q < i → relK js (gd L q) < relK js (gd L a)) ∧ (∀ q, j ≤ q → q < b → ¬ relK js (gd L q) < relK js (gd L a))) (fun iv jv _ => (intOf jv).toNat - (intOf iv).toNat)
  case atStart => exact ⟨a + 1, b, by go_num, rfl, by omega, by omega, by omega, rfl, Frm.refl _ _, (fun q h1 h2 => by omega), (fun q h1 h2 => by omega)⟩
  case round =>
    obtain ⟨i, j, rfl, rfl, hi1, hij, hjb, hh, hf, hlo, hhi⟩ := hrel
    have Hh := hide hh
    have Hf := hide hf
    have Hlo := hide hlo
    have Hhi := hide hhi
    clear hh hf hlo hhi
    by_cases hlt : i < j
    · have hlt' : (i : Int) < j := by omega
      obtain ⟨h, hh⟩ : ∃ h, h = (i + j) / 2 := ⟨_, rfl⟩
      have eH : ((i : Int) + j) / 2 = (h : Int) := by omega
      have hi2 : i ≤ h := by omega
      have hj2 : h < j := by omega
      have EH := hide eH
      clear eH hh
      obtain ⟨g, cap, cur, hvv, _, hg, hc1, _, _, hcell⟩ := HV.out.form (by omega)
      injection hvv with e1 e2 e3
      subst e1
      subst e3
      clear e2
      have ce : ∀ o, wr.cell? ⟨g, o, none⟩ = w.cell? ⟨g, o, none⟩ := fun o => by simp only [World.cell?, Hh.out]
      have ch : wr.cell? ⟨g, h, none⟩ = some (.pointer (some ⟨bl (gd L h), 0, none⟩)) := by rw [ce, blk_cell hg]; exact hcell h (by omega)
      have ca : wr.cell? ⟨g, a, none⟩ = some (.pointer (some ⟨bl (gd L a), 0, none⟩)) := by rw [ce, blk_cell hg]; exact hcell a (by omega)
      have kh := HL.out _ (gd_mem (L := L) (i := h) (by omega))
      have ka := HL.out _ (gd_mem (L := L) (i := a) (by omega))
      have CQ : Hid (∀ x, Calls Tryz.prog 190 #[.pointer (some ⟨bl (gd L h), 0, none⟩), .pointer (some ⟨bl (gd L a), 0, none⟩)] (wr.drewN x) fun e w' => e = .returned (.int .i64 (cmpI (relK js (gd L h)) (relK js (gd L a)))) ∧ ∃ n, w' = wr.drewN n) := fun x => (relCmp_any js bl left (wr.drewN x) (HJ.out.same Hh.out) _ _ kh ka).mono (fun e w' h => ⟨h.1, by
        obtain ⟨n, hn⟩ := h.2
        exact ⟨x + n, by rw [hn]; exact World.drewN_drewN _ _ _⟩⟩)
      have hcmp := cmpI_lt (relK js (gd L h)) (relK js (gd L a))
      have hh1 : (h : Int) < L.length := by omega
      have ha1 : (a : Int) < L.length := by omega
      by_cases hk : relK js (gd L h) < relK js (gd L a)
      · have hcd : decide (cmpI (relK js (gd L h)) (relK js (gd L a)) < 0) = true := decide_eq_true (hcmp.2 (by omega))
        have Hlo2 : Hid (∀ q, a + 1 ≤ q → q < h + 1 → relK js (gd L q) < relK js (gd L a)) := fun q h1 h2 => Nat.lt_of_le_of_lt (HS.out.le h1 h (by omega) (by omega)) hk
        clear hk hcmp hg hcell ce Hlo
        generalize bl (gd L h) = bh at *
        generalize bl (gd L a) = ba at *
        generalize cmpI (relK js (gd L h)) (relK js (gd L a)) = cc at *
        go_wp2_with fail
        rw [EH.out]
        go_quiet (first | (go_at_call 190; exact CQ.out _))
        go_wp2_with fail
        go_roundw
        case rel => exact ⟨h + 1, j, by go_num, rfl, by omega, by omega, hjb, Hh.out, Hf.out.trans (Frm.sames rfl rfl rfl rfl), Hlo2.out, Hhi.out⟩
        case measure => simp [intOf]; omega
      · have hcd : decide (cmpI (relK js (gd L h)) (relK js (gd L a)) < 0) = false := decide_eq_false (fun h => hk (by have := hcmp.1 h; omega))
        have Hhi2 : Hid (∀ q, h ≤ q → q < b → ¬ relK js (gd L q) < relK js (gd L a)) := fun q h1 h2 h3 => hk (Nat.lt_of_le_of_lt (HS.out.le (i := h) (by omega) q h1 h2) h3)
        clear hk hcmp hg hcell ce Hhi
        generalize bl (gd L h) = bh at *
        generalize bl (gd L a) = ba at *
        generalize cmpI (relK js (gd L h)) (relK js (gd L a)) = cc at *
        go_wp2_with fail
        rw [EH.out]
        go_quiet (first | (go_at_call 190; exact CQ.out _))
        go_wp2_with fail
        go_roundw
        case rel => exact ⟨i, h, rfl, by go_num, hi1, hi2, by omega, Hh.out, Hf.out.trans (Frm.sames rfl rfl rfl rfl), Hlo.out, Hhi2.out⟩
        case measure => simp [intOf]; omega
    · have hlt' : ¬ (i : Int) < j := by omega
      have hje : j = i := by omega
      subst hje
      have hR0 : RowJ wr base (.slice va L.length vcap) bl L := ⟨HV.out.1, by rw [Hh.out]; exact HV.out.2⟩
      have HR0 := hide hR0
      have HFin : Hid (Srt (relK js) (upM L a (j - 1 - a)) a b) := merge_first HS.out hb hi1 hjb Hlo.out Hhi.out
      clear Hlo Hhi hR0
      go_wp2_with fail
      go_loopw [13] (fun kv wr2 => ∃ t : Nat, kv = .int .i64 (a + t : Nat) ∧ a + t + 1 ≤ j ∧ RowJ wr2 base (.slice va L.length vcap) bl (upM L a t) ∧ Frm (fun k => (Value.slice va L.length vcap).ownBlock = some k) w wr2) (fun kv _ => j - (intOf kv).toNat)
      case atStart => exact ⟨0, rfl, by omega, HR0.out, Hf.out.wide (fun k _ hx => hx.elim)⟩
      case round =>
        obtain ⟨t, rfl, ht, hr, hf⟩ := hrel
        by_cases hlt2 : a + t + 1 < j
        · obtain ⟨k, hk⟩ : ∃ k, k = a + t := ⟨_, rfl⟩
          have hl2 := upM_len L a t
          have HS2 : Hid (upM L a (t + 1) = swp (upM L a t) k (k + 1)) := by unfold Hid; rw [hk]; rfl
          have Hk := hide hk
          rw [← hk]
          have hk1 : k + 1 < L.length := by omega
          have hkj : k + 1 < j := by omega
          have hkt : (k : Int) < (j : Int) - 1 := by omega
          clear hk
          generalize upM L a t = L2 at *
          obtain ⟨g, cap, cur, hvv, _, hg, hc1, _, _, hcell⟩ := hr.form (by omega)
          injection hvv with e1 e2 e3
          subst e1
          subst e3
          clear e2
          have ca : wr.cell? ⟨g, k, none⟩ = some (.pointer (some ⟨bl (gd L2 k), 0, none⟩)) := by rw [blk_cell hg]; exact hcell _ (by omega)
          have cb : wr.cell? ⟨g, k + 1, none⟩ = some (.pointer (some ⟨bl (gd L2 (k + 1)), 0, none⟩)) := by rw [blk_cell hg]; exact hcell _ (by omega)
          have fz := blk_frozen hg
          have hX : (wr.setCell ⟨g, k, none⟩ (.pointer (some ⟨bl (gd L2 (k + 1)), 0, none⟩))).cell? ⟨g, k + 1, none⟩ = some (.pointer (some ⟨bl (gd L2 (k + 1)), 0, none⟩)) := by
            rw [blk_cell (blk_set hg _ _), Array.getElem?_setIfInBounds, if_neg (by omega)]
            exact hcell _ (by omega)
          have fz2 := blk_frozen (blk_set hg k (.pointer (some ⟨bl (gd L2 (k + 1)), 0, none⟩)))
          have HS3 : Hid (RowJ ((wr.setCell ⟨g, k, none⟩ (.pointer (some ⟨bl (gd L2 (k + 1)), 0, none⟩))).setCell ⟨g, k + 1, none⟩ (.pointer (some ⟨bl (gd L2 k), 0, none⟩))) base (.slice (some ⟨g, 0, none⟩) L.length vcap) bl (swp L2 k (k + 1))) := by
            unfold Hid
            have hle : L.length = L2.length := hl2.symm
            rw [hle] at hr ⊢
            have h1 := hr.set (i := k) (by omega) (gd L2 (k + 1))
            have h2 := RowJ.set (L := L2.set k (gd L2 (k + 1))) (by simpa using h1) (i := k + 1) (by simp; omega) (gd L2 k)
            unfold swp
            simpa using h2
          have HF3 : Hid (Frm (fun k => (Value.slice (some ⟨g, 0, none⟩) L.length vcap).ownBlock = some k) w ((wr.setCell ⟨g, k, none⟩ (.pointer (some ⟨bl (gd L2 (k + 1)), 0, none⟩))).setCell ⟨g, k + 1, none⟩ (.pointer (some ⟨bl (gd L2 k), 0, none⟩)))) := (hf.setCell (p := ⟨g, k, none⟩) (by simp [Value.ownBlock]) _).setCell (p := ⟨g, k + 1, none⟩) (by simp [Value.ownBlock]) _
          have hb1 : (k : Int) + 1 < L.length := by omega
          have hb2 : (k : Int) < L.length := by omega
          clear hg hcell hr hf hl2 hlt2 ht
          generalize bl (gd L2 k) = pa at *
          generalize bl (gd L2 (k + 1)) = pb at *
          go_wp2_with fail
          go_region
          all_goals
            go_wp2_with fail
            go_roundw
            case rel =>
              have hk := Hk.out
              exact ⟨t + 1, by rw [hk]; go_num, by omega, by rw [HS2.out]; exact HS3.out, ⟨HF3.out.os, HF3.out.tape, HF3.out.output, HF3.out.size, HF3.out.block⟩⟩
            case measure => simp [intOf]; omega
        · have hte : t = j - 1 - a := by omega
          have hlt3 : ¬ ((a + t : Nat) : Int) < (j : Int) - 1 := by omega
          have HOut : Hid (MrgOut js bl L base (.slice va L.length vcap) a b (upM L a t) w wr) := ⟨hr, by rw [hte]; exact HFin.out, upM_mov L a a b t (Nat.le_refl _) (by omega) hb, hf⟩
          clear hr hf hte
          go_wp2_with fail
          refine bodyPost_ret (results_none rfl _ _ _) rfl ?_
          exact ⟨rfl, _, HOut.out⟩

set_option maxRecDepth 100000 in
set_option maxHeartbeats 8000000 in
theorem symLast_any (js : List Jb) (bl left : Nat → Nat) (L : List Nat) (base : Nat) (v : Value) (w : World) (hv : RowJ w base v bl L) (hj : JobsAt js bl left w) (hL : ∀ x ∈ L, x < js.length) (a m : Nat) (ham : a + 1 < m) (hb : m + 1 ≤ L.length) (hn : L.length ≤ 100000) (hs : Srt (relK js) L a m) :
    Calls Tryz.prog 208 #[v, .int .i64 a, .int .i64 m, .int .i64 (m + 1 : Nat), cmpF] w fun e w' => e = .returned (.tuple #[]) ∧ ∃ L', MrgOut js bl L base v a (m + 1) L' w w' := by
  obtain ⟨va, vcap, hvf, _, _⟩ := hv.len
  subst hvf
  have HV := hide hv
  have HJ := hide hj
  have HL := hide hL
  have HS := hide hs
  clear hv hj hL hs
  have h0 : ((m : Int) - a == 1) = false := by simp; omega
  have h1 : (((m + 1 : Nat) : Int) - m == 1) = true := by simp; omega
  go_enter Tryz.func208, Tryz.ntmps208
  go_wp2_with fail
  clear h1 h0
  go_loopw [14, 15] (fun iv jv wr => ∃ i j : Nat, iv = .int .i64 i ∧ jv = .int .i64 j ∧ a ≤ i ∧ i ≤ j ∧ j ≤ m ∧ wr.heap = w.heap ∧ Frm (fun _ => False) w wr ∧ (∀ q, a ≤ q → q < i → ¬ relK js (gd L m) < relK js (gd L q)) ∧ (∀ q, j ≤ q → q < m → relK js (gd L m) < relK js (gd L q))) (fun iv jv _ => (intOf jv).toNat - (intOf iv).toNat)
  case atStart => exact ⟨a, m, rfl, rfl, by omega, by omega, by omega, rfl, Frm.refl _ _, (fun q h1 h2 => by omega), (fun q h1 h2 => by omega)⟩
  case round =>
    obtain ⟨i, j, rfl, rfl, hi1, hij, hjb, hh, hf, hlo, hhi⟩ := hrel
    have Hh := hide hh
    have Hf := hide hf
    have Hlo := hide hlo
    have Hhi := hide hhi
    clear hh hf hlo hhi
    by_cases hlt : i < j
    · have hlt' : (i : Int) < j := by omega
      obtain ⟨h, hh⟩ : ∃ h, h = (i + j) / 2 := ⟨_, rfl⟩
      have eH : ((i : Int) + j) / 2 = (h : Int) := by omega
      have hi2 : i ≤ h := by omega
      have hj2 : h < j := by omega
      have EH := hide eH
      clear eH hh
      obtain ⟨g, cap, cur, hvv, _, hg, hc1, _, _, hcell⟩ := HV.out.form (by omega)
      injection hvv with e1 e2 e3
      subst e1
      subst e3
      clear e2
      have ce : ∀ o, wr.cell? ⟨g, o, none⟩ = w.cell? ⟨g, o, none⟩ := fun o => by simp only [World.cell?, Hh.out]
      have ch : wr.cell? ⟨g, h, none⟩ = some (.pointer (some ⟨bl (gd L h), 0, none⟩)) := by rw [ce, blk_cell hg]; exact hcell h (by omega)
      have ca : wr.cell? ⟨g, m, none⟩ = some (.pointer (some ⟨bl (gd L m), 0, none⟩)) := by rw [ce, blk_cell hg]; exact hcell m (by omega)
      have kh := HL.out _ (gd_mem (L := L) (i := h) (by omega))
      have ka := HL.out _ (gd_mem (L := L) (i := m) (by omega))
      have CQ : Hid (∀ x, Calls Tryz.prog 190 #[.pointer (some ⟨bl (gd L m), 0, none⟩), .pointer (some ⟨bl (gd L h), 0, none⟩)] (wr.drewN x) fun e w' => e = .returned (.int .i64 (cmpI (relK js (gd L m)) (relK js (gd L h)))) ∧ ∃ n, w' = wr.drewN n) := fun x => (relCmp_any js bl left (wr.drewN x) (HJ.out.same Hh.out) _ _ ka kh).mono (fun e w' h => ⟨h.1, by
        obtain ⟨n, hn⟩ := h.2
        exact ⟨x + n, by rw [hn]; exact World.drewN_drewN _ _ _⟩⟩)
      have hcmp := cmpI_lt (relK js (gd L m)) (relK js (gd L h))
      have hh1 : (h : Int) < L.length := by omega
      have ha1 : (m : Int) < L.length := by omega
      by_cases hk : relK js (gd L m) < relK js (gd L h)
      · have hcd : decide (cmpI (relK js (gd L m)) (relK js (gd L h)) < 0) = true := decide_eq_true (hcmp.2 (by omega))
        have Hhi2 : Hid (∀ q, h ≤ q → q < m → relK js (gd L m) < relK js (gd L q)) := fun q h1 h2 => Nat.lt_of_lt_of_le hk (HS.out.le (i := h) (by omega) q h1 h2)
        clear hk hcmp hg hcell ce Hhi
        generalize bl (gd L h) = bh at *
        generalize bl (gd L m) = ba at *
        generalize cmpI (relK js (gd L m)) (relK js (gd L h)) = cc at *
        go_wp2_with fail
        rw [EH.out]
        go_quiet (first | (go_at_call 190; exact CQ.out _))
        go_wp2_with fail
        go_roundw
        case rel => exact ⟨i, h, rfl, by go_num, hi1, hi2, by omega, Hh.out, Hf.out.trans (Frm.sames rfl rfl rfl rfl), Hlo.out, Hhi2.out⟩
        case measure => simp [intOf]; omega
      · have hcd : decide (cmpI (relK js (gd L m)) (relK js (gd L h)) < 0) = false := decide_eq_false (fun h => hk (by have := hcmp.1 h; omega))
        have Hlo2 : Hid (∀ q, a ≤ q → q < h + 1 → ¬ relK js (gd L m) < relK js (gd L q)) := fun q h1 h2 h3 => hk (Nat.lt_of_lt_of_le h3 (HS.out.le h1 h (by omega) (by omega)))
        clear hk hcmp hg hcell ce Hlo
        generalize bl (gd L h) = bh at *
        generalize bl (gd L m) = ba at *
        generalize cmpI (relK js (gd L m)) (relK js (gd L h)) = cc at *
        go_wp2_with fail
        rw [EH.out]
        go_quiet (first | (go_at_call 190; exact CQ.out _))
        go_wp2_with fail
        go_roundw
        case rel => exact ⟨h + 1, j, by go_num, rfl, by omega, by omega, hjb, Hh.out, Hf.out.trans (Frm.sames rfl rfl rfl rfl), Hlo2.out, Hhi.out⟩
        case measure => simp [intOf]; omega
    · have hlt' : ¬ (i : Int) < j := by omega
      have hje : j = i := by omega
      subst hje
      have hR0 : RowJ wr base (.slice va L.length vcap) bl L := ⟨HV.out.1, by rw [Hh.out]; exact HV.out.2⟩
      have HR0 := hide hR0
      have HFin : Hid (Srt (relK js) (dnM L m (m - j)) a (m + 1)) := merge_last HS.out (by omega) hi1 hjb Hlo.out Hhi.out
      clear Hlo Hhi hR0
      go_wp2_with fail
      go_loopw [17] (fun kv wr2 => ∃ t : Nat, kv = .int .i64 (m - t : Nat) ∧ t + j ≤ m ∧ RowJ wr2 base (.slice va L.length vcap) bl (dnM L m t) ∧ Frm (fun k => (Value.slice va L.length vcap).ownBlock = some k) w wr2) (fun kv _ => (intOf kv).toNat)
      case atStart => exact ⟨0, rfl, by omega, HR0.out, Hf.out.wide (fun k _ hx => hx.elim)⟩
      case round =>
        obtain ⟨t, rfl, ht, hr, hf⟩ := hrel
        obtain ⟨k, hk⟩ : ∃ k, k = m - t := ⟨_, rfl⟩
        rw [← hk]
        by_cases hlt2 : j < k
        · have hl2 := dnM_len L m t
          have HS2 : Hid (dnM L m (t + 1) = swp (dnM L m t) k (k - 1)) := by unfold Hid; rw [hk]; rfl
          have Hk := hide hk
          have hk1 : k < L.length := by omega
          have hkt : (j : Int) < (k : Int) := by omega
          have htm : t + 1 + j ≤ m := by omega
          have hmk : (k - 1) = m - (t + 1) := by omega
          have Hmk := hide hmk
          clear hk hmk
          generalize dnM L m t = L2 at *
          obtain ⟨g, cap, cur, hvv, _, hg, hc1, _, _, hcell⟩ := hr.form (by omega)
          injection hvv with e1 e2 e3
          subst e1
          subst e3
          clear e2
          have ca : wr.cell? ⟨g, k, none⟩ = some (.pointer (some ⟨bl (gd L2 k), 0, none⟩)) := by rw [blk_cell hg]; exact hcell _ (by omega)
          have cb : wr.cell? ⟨g, k - 1, none⟩ = some (.pointer (some ⟨bl (gd L2 (k - 1)), 0, none⟩)) := by rw [blk_cell hg]; exact hcell _ (by omega)
          have fz := blk_frozen hg
          have hX : (wr.setCell ⟨g, k, none⟩ (.pointer (some ⟨bl (gd L2 (k - 1)), 0, none⟩))).cell? ⟨g, k - 1, none⟩ = some (.pointer (some ⟨bl (gd L2 (k - 1)), 0, none⟩)) := by
            rw [blk_cell (blk_set hg _ _), Array.getElem?_setIfInBounds, if_neg (by omega)]
            exact hcell _ (by omega)
          have fz2 := blk_frozen (blk_set hg k (.pointer (some ⟨bl (gd L2 (k - 1)), 0, none⟩)))
          have HS3 : Hid (RowJ ((wr.setCell ⟨g, k, none⟩ (.pointer (some ⟨bl (gd L2 (k - 1)), 0, none⟩))).setCell ⟨g, k - 1, none⟩ (.pointer (some ⟨bl (gd L2 k), 0, none⟩))) base (.slice (some ⟨g, 0, none⟩) L.length vcap) bl (swp L2 k (k - 1))) := by
            unfold Hid
            have hle : L.length = L2.length := hl2.symm
            rw [hle] at hr ⊢
            have h1 := hr.set (i := k) (by omega) (gd L2 (k - 1))
            have h2 := RowJ.set (L := L2.set k (gd L2 (k - 1))) (by simpa using h1) (i := k - 1) (by simp; omega) (gd L2 k)
            unfold swp
            simpa using h2
          have HF3 : Hid (Frm (fun k => (Value.slice (some ⟨g, 0, none⟩) L.length vcap).ownBlock = some k) w ((wr.setCell ⟨g, k, none⟩ (.pointer (some ⟨bl (gd L2 (k - 1)), 0, none⟩))).setCell ⟨g, k - 1, none⟩ (.pointer (some ⟨bl (gd L2 k), 0, none⟩)))) := (hf.setCell (p := ⟨g, k, none⟩) (by simp [Value.ownBlock]) _).setCell (p := ⟨g, k - 1, none⟩) (by simp [Value.ownBlock]) _
          have hb1 : (k : Int) - 1 < L.length := by omega
          have hb0 : 0 ≤ (k : Int) - 1 := by omega
          have hb2 : (k : Int) < L.length := by omega
          clear hg hcell hr hf hl2 ht
          generalize bl (gd L2 k) = pa at *
          generalize bl (gd L2 (k - 1)) = pb at *
          go_wp2_with fail
          go_region
          all_goals
            go_wp2_with fail
            go_roundw
            case rel => exact ⟨t + 1, by rw [← Hmk.out]; go_num, htm, by rw [HS2.out]; exact HS3.out, ⟨HF3.out.os, HF3.out.tape, HF3.out.output, HF3.out.size, HF3.out.block⟩⟩
            case measure => simp [intOf]; omega
        · have hte : t = m - j := by omega
          have hlt3 : ¬ (j : Int) < (k : Int) := by omega
          have HOut : Hid (MrgOut js bl L base (.slice va L.length vcap) a (m + 1) (dnM L m t) w wr) := ⟨hr, by rw [hte]; exact HFin.out, dnM_mov L m a (m + 1) t (by omega) (by omega) hb, hf⟩
          clear hr hf hte hk
          go_wp2_with fail
          refine bodyPost_ret (results_none rfl _ _ _) rfl ?_
          exact ⟨rfl, _, HOut.out⟩
end Go.Proofs.YtbdffcjganlblaaGreatDoor
