/-
  Own work. The program's sort: merging in place, the third way.
-/
import Derived.Test.YtbdffcjganlblaaGreatDoorMSrBtoSoD
import Derived.Deep.DeepCutAuto
import Derived.Test.YtbdffcjganlblaaGreatDoorMDsDtoSoA
namespace Go.Proofs.YtbdffcjganlblaaGreatDoor
open Go.RowKit
set_option linter.unusedVariables false
set_option linter.unusedSimpArgs false

/-- No rotation where one of the two blocks is empty. -/
theorem tgt_none {L : List Nat} {s m e : Nat} (h : s = m ∨ e = m) (hs : s ≤ m) (q : Nat) : gd L q = tgt L s m e q := by
  unfold tgt
  rcases h with rfl | rfl
  · by_cases h1 : s ≤ q ∧ q < s + (e - s)
    · rw [if_pos h1]
      congr 1
      omega
    · rw [if_neg h1, if_neg (by omega)]
  · rw [Nat.sub_self, if_neg (by omega)]
    split
    · congr 1
    · rfl
abbrev symF : Nat := 208
/-- What a merge asks, and does. -/
def SymP (js : List Jb) (bl left : Nat → Nat) (base : Nat) (v : Value) (N : Nat) : Prop :=
  ∀ (L : List Nat) (a m b : Nat) (w : World), RowJ w base v bl L → JobsAt js bl left w → (∀ x ∈ L, x < js.length) → a < m → m < b → b ≤ L.length → L.length ≤ 100000 → Srt (relK js) L a m → Srt (relK js) L m b → b - a ≤ N →
    Calls Tryz.prog symF #[v, .int .i64 a, .int .i64 m, .int .i64 b, cmpF] w fun e w' => e = .returned (.tuple #[]) ∧ ∃ L', MrgOut js bl L base v a b L' w w'

theorem row_typed {w : World} {base : Nat} {u : Value} {bl : Nat → Nat} {T : List Nat} (h : RowJ w base u bl T) {b : Nat} (hb : u.ownBlock = some b) : base ≤ b ∧ ∃ c fr, w.heap[b]? = some (.cells c 226 fr) := by
  rcases h.2 with ⟨rfl, _⟩ | ⟨g, cap, cur, rfl, h4, h5, h6⟩
  · simp [Value.ownBlock] at hb
  · simp [Value.ownBlock] at hb
    subst hb
    exact ⟨h4, _, _, h5⟩
/-- Ahead of the two merges of the halves; between them. -/
structure StA (js : List Jb) (bl : Nat → Nat) (L : List Nat) (base : Nat) (v : Value) (a r mid e b : Nat) (w : World) (L1 : List Nat) (w1 : World) : Prop where
  row : RowJ w1 base v bl L1
  hv : Halves (relK js) L1 a r mid e b
  mov : Mov L L1 a b
  f : Frm (fun k => v.ownBlock = some k) w w1
structure StB (js : List Jb) (bl : Nat → Nat) (L : List Nat) (base : Nat) (v : Value) (a mid e b : Nat) (w : World) (L1 : List Nat) (w1 : World) : Prop where
  row : RowJ w1 base v bl L1
  s1 : Srt (relK js) L1 a mid
  s2 : Srt (relK js) L1 mid e
  s3 : Srt (relK js) L1 e b
  cross : ∀ i j, a ≤ i → i < mid → mid ≤ j → j < b → relK js (gd L1 i) ≤ relK js (gd L1 j)
  mov : Mov L L1 a b
  f : Frm (fun k => v.ownBlock = some k) w w1
section
variable {js : List Jb} {bl left : Nat → Nat} {L : List Nat} {base : Nat} {v : Value} {a r mid e b : Nat} {w : World} {L1 : List Nat} {w1 : World}
theorem StA.none (h : StA js bl L base v a r mid e b w L1 w1) (hn : ¬ (a < r ∧ r < mid)) (har : a ≤ r) (hrm : r ≤ mid) : StB js bl L base v a mid e b w L1 w1 := by
  refine ⟨h.row, ?_, h.hv.s3, h.hv.s4, h.hv.cross, h.mov, h.f⟩
  rcases (show r = a ∨ r = mid by omega) with e1 | e1
  · rw [← e1]; exact h.hv.s2
  · rw [← e1]; exact h.hv.s1
theorem StA.some (h : StA js bl L base v a r mid e b w L1 w1) (har : a ≤ mid) (hmb : mid ≤ b) (hme : mid ≤ e) (hb : b ≤ L.length) {L2 : List Nat} {w2 : World} (ho : MrgOut js bl L1 base v a mid L2 w1 w2) : StB js bl L base v a mid e b w L2 w2 := by
  have hl := h.mov.len
  exact ⟨ho.row, ho.srt, h.hv.s3.same (fun i h1 _ => ho.mov.out i (.inr h1)), h.hv.s4.same (fun i h1 _ => ho.mov.out i (.inr (by omega))), cross_mov har hmb (by omega) (.inl ho.mov) h.hv.cross, h.mov.trans (ho.mov.wide (Nat.le_refl _) hmb), h.f.trans ho.f⟩
theorem StB.none (h : StB js bl L base v a mid e b w L1 w1) (hn : ¬ (mid < e ∧ e < b)) (hme : mid ≤ e) (heb : e ≤ b) : MrgOut js bl L base v a b L1 w w1 := by
  refine ⟨h.row, merged (L2 := L1) h.s1 ?_ h.cross, h.mov, h.f⟩
  rcases (show e = mid ∨ e = b by omega) with e1 | e1
  · rw [← e1]; exact h.s3
  · rw [← e1]; exact h.s2
theorem StB.some (h : StB js bl L base v a mid e b w L1 w1) (har : a ≤ mid) (hmb : mid ≤ b) (hb : b ≤ L.length) {L2 : List Nat} {w2 : World} (ho : MrgOut js bl L1 base v mid b L2 w1 w2) : MrgOut js bl L base v a b L2 w w2 := by
  have hl := h.mov.len
  exact ⟨ho.row, merged (L2 := L2) (h.s1.same (fun i _ h2 => ho.mov.out i (.inl h2))) ho.srt (cross_mov har hmb (by omega) (.inr ho.mov) h.cross), h.mov.trans (ho.mov.wide har (Nat.le_refl _)), h.f.trans ho.f⟩
end

set_option maxRecDepth 100000 in
set_option maxHeartbeats 16000000 in
theorem sym_step (js : List Jb) (bl left : Nat → Nat) (base : Nat) (v : Value) (N : Nat) (ih : SymP js bl left base v N) : SymP js bl left base v (N + 1) := by
  intro L a m b w hv hj hL ham hmb hb hn hs1 hs2 hN
  by_cases hA : m = a + 1
  · subst hA
    exact symFirst_any js bl left L base v w hv hj hL a b (by omega) hb hn hs2
  by_cases hB : b = m + 1
  · subst hB
    exact symLast_any js bl left L base v w hv hj hL a m (by omega) hb hn hs1
  obtain ⟨va, vcap, hvf, _, _⟩ := hv.len
  subst hvf
  have HV := hide hv
  have HJ := hide hj
  have HL := hide hL
  have H1 := hide hs1
  have H2 := hide hs2
  have IH := hide ih
  clear hv hj hL hs1 hs2 ih
  have h0 : ((m : Int) - a == 1) = false := by simp; omega
  have h1 : ((b : Int) - m == 1) = false := by simp; omega
  obtain ⟨mid, hmid⟩ : ∃ x, x = (a + b) / 2 := ⟨_, rfl⟩
  have eM : ((a : Int) + b) / 2 = (mid : Int) := by omega
  have hm1 : a + 2 ≤ mid := by omega
  have hm2 : mid + 2 ≤ b := by omega
  have hm3 : 2 * mid ≤ a + b := by omega
  have hm4 : a + b ≤ 2 * mid + 1 := by omega
  have EM := hide eM
  clear eM hmid
  go_enter Tryz.func208, Tryz.ntmps208
  obtain ⟨lo, hi, hlohi⟩ : ∃ lo hi : Nat, (mid < m ∧ lo = mid + m - b ∧ hi = mid) ∨ (¬ mid < m ∧ lo = a ∧ hi = m) := by
    by_cases h : mid < m
    · exact ⟨_, _, .inl ⟨h, rfl, rfl⟩⟩
    · exact ⟨_, _, .inr ⟨h, rfl, rfl⟩⟩
  have hlo : lo = a ∨ lo + b = mid + m := by omega
  have hhi : hi = m ∨ hi = mid := by omega
  have hb1 : a ≤ lo := by omega
  have hb2 : lo ≤ hi := by omega
  have hb3 : hi ≤ m := by omega
  have hb4 : hi ≤ mid := by omega
  have hb5 : mid + m ≤ b + lo := by omega
  have HBd := hide (And.intro hlo hhi)
  clear hlo hhi
  have HLH := hide hlohi
  have hcs : (mid : Int) < m ∨ ¬ (mid : Int) < m := by omega
  clear hlohi
  have hpn : mid + m = (mid + m - 1) + 1 := by omega
  obtain ⟨p, hp⟩ : ∃ p, p = mid + m - 1 := ⟨_, rfl⟩
  have eP : ((mid : Int) + m - 1) = (p : Int) := by omega
  have EP := hide eP
  have hp1 : p + 1 = mid + m := by omega
  have HP1 := hide hp1
  clear hpn eP hp hp1
  rcases hcs with hc' | hc'
  all_goals
    go_upto_if 140 with fail
    rw [EM.out]
    go_wp2_with fail
    rw [EP.out]
    clear h0 h1
    go_loopw [20, 21] (fun sv rv wr => ∃ s r : Nat, sv = .int .i64 s ∧ rv = .int .i64 r ∧ lo ≤ s ∧ s ≤ r ∧ r ≤ hi ∧ wr.heap = w.heap ∧ Frm (fun _ => False) w wr ∧ (∀ q, lo ≤ q → q < s → ¬ relK js (gd L (p - q)) < relK js (gd L q)) ∧ (∀ q, r ≤ q → q < hi → relK js (gd L (p - q)) < relK js (gd L q))) (fun sv rv _ => (intOf rv).toNat - (intOf sv).toNat)
    case atStart =>
      have h9 := HLH.out
      exact ⟨lo, hi, by simp; omega, by simp; omega, Nat.le_refl _, hb2, Nat.le_refl _, rfl, Frm.refl _ _, (fun q h1 h2 => by omega), (fun q h1 h2 => by omega)⟩
    case round =>
      obtain ⟨s, r, rfl, rfl, hs1, hsr, hr1, hh, hf, hlo, hhi⟩ := hrel
      have Hh := hide hh
      have Hf := hide hf
      have Hlo := hide hlo
      have Hhi := hide hhi
      clear hh hf hlo hhi
      by_cases hlt : s < r
      · have hlt' : (s : Int) < r := by omega
        have hp1 := HP1.out
        obtain ⟨c, hc⟩ : ∃ c, c = (s + r) / 2 := ⟨_, rfl⟩
        have eC : ((s : Int) + r) / 2 = (c : Int) := by omega
        have hc1 : s ≤ c := by omega
        have hc2 : c < r := by omega
        have EC := hide eC
        clear eC hc
        have hpc1 : m ≤ p - c := by omega
        have hpc2 : p - c < b := by omega
        obtain ⟨g, cap, cur, hvv, _, hg, _, _, _, hcell⟩ := HV.out.form (by omega)
        injection hvv with e1 e2 e3
        subst e1
        subst e3
        clear e2
        have ce : ∀ o, wr.cell? ⟨g, o, none⟩ = w.cell? ⟨g, o, none⟩ := fun o => by simp only [World.cell?, Hh.out]
        have ch : wr.cell? ⟨g, p - c, none⟩ = some (.pointer (some ⟨bl (gd L (p - c)), 0, none⟩)) := by rw [ce, blk_cell hg]; exact hcell _ (by omega)
        have ca : wr.cell? ⟨g, c, none⟩ = some (.pointer (some ⟨bl (gd L c), 0, none⟩)) := by rw [ce, blk_cell hg]; exact hcell _ (by omega)
        have kh := HL.out _ (gd_mem (L := L) (i := p - c) (by omega))
        have ka := HL.out _ (gd_mem (L := L) (i := c) (by omega))
        have CQ : Hid (∀ x, Calls Tryz.prog 190 #[.pointer (some ⟨bl (gd L (p - c)), 0, none⟩), .pointer (some ⟨bl (gd L c), 0, none⟩)] (wr.drewN x) fun e w' => e = .returned (.int .i64 (cmpI (relK js (gd L (p - c))) (relK js (gd L c)))) ∧ ∃ n, w' = wr.drewN n) := fun x => (relCmp_any js bl left (wr.drewN x) (HJ.out.same Hh.out) _ _ kh ka).mono (fun e w' h => ⟨h.1, by
          obtain ⟨n, hn⟩ := h.2
          exact ⟨x + n, by rw [hn]; exact World.drewN_drewN _ _ _⟩⟩)
        have hcmp := cmpI_lt (relK js (gd L (p - c))) (relK js (gd L c))
        have hx1 : (p : Int) - c < L.length := by omega
        have hx0 : 0 ≤ (p : Int) - c := by omega
        have hx2 : (c : Int) < L.length := by omega
        by_cases hk : relK js (gd L (p - c)) < relK js (gd L c)
        · have hcd : decide (cmpI (relK js (gd L (p - c))) (relK js (gd L c)) < 0) = true := decide_eq_true (hcmp.2 (by omega))
          have Hhi2 : Hid (∀ q, c ≤ q → q < hi → relK js (gd L (p - q)) < relK js (gd L q)) := fun q h1 h2 => by
            have g1 := H1.out.le (i := c) (by omega) q h1 (by omega)
            have g2 := H2.out.le (i := p - q) (by omega) (p - c) (by omega) (by omega)
            omega
          clear hk hcmp hg hcell ce Hhi kh ka
          generalize bl (gd L (p - c)) = bh at *
          generalize bl (gd L c) = ba at *
          generalize cmpI (relK js (gd L (p - c))) (relK js (gd L c)) = cc at *
          go_wp2_with fail
          rw [EC.out]
          go_quiet (first | (go_at_call 190; exact CQ.out _))
          go_wp2_with fail
          go_roundw
          case rel => exact ⟨s, c, rfl, by go_num, hs1, hc1, by omega, Hh.out, Hf.out.trans (Frm.sames rfl rfl rfl rfl), Hlo.out, Hhi2.out⟩
          case measure => simp [intOf]; omega
        · have hcd : decide (cmpI (relK js (gd L (p - c))) (relK js (gd L c)) < 0) = false := decide_eq_false (fun h => hk (by have := hcmp.1 h; omega))
          have Hlo2 : Hid (∀ q, lo ≤ q → q < c + 1 → ¬ relK js (gd L (p - q)) < relK js (gd L q)) := fun q h1 h2 => by
            have g1 := H1.out.le (i := q) (by omega) c (by omega) (by omega)
            have g2 := H2.out.le (i := p - c) (by omega) (p - q) (by omega) (by omega)
            omega
          clear hk hcmp hg hcell ce Hlo kh ka
          generalize bl (gd L (p - c)) = bh at *
          generalize bl (gd L c) = ba at *
          generalize cmpI (relK js (gd L (p - c))) (relK js (gd L c)) = cc at *
          go_wp2_with fail
          rw [EC.out]
          go_quiet (first | (go_at_call 190; exact CQ.out _))
          go_wp2_with fail
          go_roundw
          case rel => exact ⟨c + 1, r, by go_num, rfl, by omega, by omega, hr1, Hh.out, Hf.out.trans (Frm.sames rfl rfl rfl rfl), Hlo2.out, Hhi.out⟩
          case measure => simp [intOf]; omega
      · have hlt' : ¬ (s : Int) < r := by omega
        have hse : r = s := by omega
        subst hse
        obtain ⟨e, he⟩ : ∃ e, e = mid + m - r := ⟨_, rfl⟩
        have hem : m ≤ e := by omega
        have heb : e ≤ b := by omega
        have hea : mid ≤ e := by omega
        have EE : Hid (((mid : Int) + m - r) = (e : Int)) := by unfold Hid; omega
        have HE := hide he
        have hR0 : RowJ wr base (.slice va L.length vcap) bl L := ⟨HV.out.1, by rw [Hh.out]; exact HV.out.2⟩
        have hF0 : Frm (fun k => (Value.slice va L.length vcap).ownBlock = some k) w wr := Hf.out.wide (fun k _ hx => hx.elim)
        have HHv : Hid (∀ L1, (∀ q, gd L1 q = tgt L r m e q) → Halves (relK js) L1 a r mid e b) := fun L1 hg => by
          have hp1 := HP1.out
          refine halves H1.out H2.out (by omega) (by omega) hb HE.out (by omega) (by omega) (by omega) heb HBd.out.1 HBd.out.2 hs1 hr1 (fun q h1 h2 => ?_) (fun q h1 h2 => ?_) hg
          · rw [show mid + m - 1 - q = p - q by omega]
            exact Hlo.out q h1 h2
          · rw [show mid + m - 1 - q = p - q by omega]
            exact Hhi.out q h1 h2
        have CR : Hid (∀ E : Int, E = e → r < m → m < e → Calls Tryz.prog 210 #[.slice va L.length vcap, .int .i64 r, .int .i64 m, .int .i64 E, cmpF] wr fun en w' => en = .returned (.tuple #[]) ∧ ∃ L', RotOut bl L base (.slice va L.length vcap) r m e L' wr w') := fun E h1 h2 h3 => by
          subst h1
          exact rotate_any bl L base _ wr hR0 r m e h2 h3 (by omega) hn
        have HR0 := hide hR0
        have HF0 := hide hF0
        clear Hlo Hhi hR0 hF0 he Hh
        have hb1x : a ≤ r := by omega
        have hrt : (r < m ∧ m < e) ∨ (r < m ∧ ¬ m < e) ∨ ¬ r < m := by omega
        have hjob : ∀ {w1 : World}, Frm (fun k => (Value.slice va L.length vcap).ownBlock = some k) w w1 → JobsAt js bl left w1 := fun hf => HJ.out.keep hf (fun k hk e => by
          obtain ⟨_, c, fr, e'⟩ := row_typed HV.out e
          rw [HJ.out k hk] at e'
          simp at e')
        have C1 : Hid (∀ L1 w1, StA js bl L base (.slice va L.length vcap) a r mid e b w L1 w1 → a < r → r < mid → Calls Tryz.prog symF #[.slice va L.length vcap, .int .i64 a, .int .i64 r, .int .i64 mid, cmpF] w1 fun en w' => en = .returned (.tuple #[]) ∧ ∃ L2, StB js bl L base (.slice va L.length vcap) a mid e b w L2 w') := fun L1 w1 h h1 h2 => by
          have hl := h.mov.len
          refine (IH.out L1 a r mid w1 h.row (hjob h.f) (fun x hx => HL.out x (h.mov.perm.mem_iff.1 hx)) h1 h2 (by omega) (by omega) h.hv.s1 h.hv.s2 (by omega)).mono ?_
          rintro en w' ⟨rfl, L2, ho⟩
          exact ⟨rfl, L2, h.some (by omega) (by omega) hea hb ho⟩
        have C2 : Hid (∀ L1 w1, StB js bl L base (.slice va L.length vcap) a mid e b w L1 w1 → mid < e → e < b → Calls Tryz.prog symF #[.slice va L.length vcap, .int .i64 mid, .int .i64 e, .int .i64 b, cmpF] w1 fun en w' => en = .returned (.tuple #[]) ∧ ∃ L2, MrgOut js bl L base (.slice va L.length vcap) a b L2 w w') := fun L1 w1 h h1 h2 => by
          have hl := h.mov.len
          refine (IH.out L1 mid e b w1 h.row (hjob h.f) (fun x hx => HL.out x (h.mov.perm.mem_iff.1 hx)) h1 h2 (by omega) (by omega) h.s2 h.s3 (by omega)).mono ?_
          rintro en w' ⟨rfl, L2, ho⟩
          exact ⟨rfl, L2, h.some (by omega) (by omega) hb ho⟩
        have hrm : r ≤ mid := by omega
        have D1 : Hid (∀ L1 w1, StA js bl L base (.slice va L.length vcap) a r mid e b w L1 w1 → ¬ (a < r ∧ r < mid) → StB js bl L base (.slice va L.length vcap) a mid e b w L1 w1) := fun L1 w1 h hn => h.none hn hb1x hrm
        have D2 : Hid (∀ L1 w1, StB js bl L base (.slice va L.length vcap) a mid e b w L1 w1 → ¬ (mid < e ∧ e < b) → MrgOut js bl L base (.slice va L.length vcap) a b L1 w w1) := fun L1 w1 h hn => h.none hn hea heb
        clear hjob IH HV HJ HL H1 H2
        go_upto_region 39 with fail
        rw [EE.out]
        rcases hrt with ⟨ht1, ht2⟩ | ⟨ht1, ht2⟩ | ht1
        · have c1 : (r : Int) < m := by omega
          have c2 : (m : Int) < e := by omega
          go_wp2_with fail
          refine (CR.out _ rfl ht1 ht2).mono ?_
          rintro en w1 ⟨rfl, L1, hR⟩
          have HA : Hid (StA js bl L base (.slice va L.length vcap) a r mid e b w L1 w1) := ⟨hR.row, HHv.out L1 hR.gd, hR.mov.wide hb1x heb, HF0.out.trans hR.f⟩
          clear hR CR HR0 HF0 HHv
          go_upto_region 41 with fail
          rcases (show (a < r ∧ r < mid) ∨ (a < r ∧ ¬ r < mid) ∨ ¬ a < r by omega) with ⟨p1, p2⟩ | ⟨p1, p2⟩ | p1
          · have c3 : (a : Int) < r := by omega
            have c4 : (r : Int) < mid := by omega
            go_wp2_with fail
            refine (C1.out _ _ HA.out p1 p2).mono ?_
            rintro en w2 ⟨rfl, L2, hB⟩
            have HB := hide hB
            clear hB HA C1 D1
            go_upto_region 43 with fail
            rcases (show (mid < e ∧ e < b) ∨ (mid < e ∧ ¬ e < b) ∨ ¬ mid < e by omega) with ⟨q1, q2⟩ | ⟨q1, q2⟩ | q1
            · have c5 : (mid : Int) < e := by omega
              have c6 : (e : Int) < b := by omega
              go_wp2_with fail
              refine (C2.out _ _ HB.out q1 q2).mono ?_
              rintro en w3 ⟨rfl, L3, hO⟩
              have HO := hide hO
              clear hO
              go_wp2_with fail
              go_end0
              exact ⟨rfl, L3, HO.out⟩
            · have c5 : (mid : Int) < e := by omega
              have c6 : ¬ (e : Int) < b := by omega
              have HO := hide (D2.out _ _ HB.out (fun h => q2 h.2))
              go_wp2_with fail
              go_end0
              exact ⟨rfl, _, HO.out⟩
            · have c5 : ¬ (mid : Int) < e := by omega
              have HO := hide (D2.out _ _ HB.out (fun h => q1 h.1))
              go_wp2_with fail
              go_end0
              exact ⟨rfl, _, HO.out⟩
          · have c3 : (a : Int) < r := by omega
            have c4 : ¬ (r : Int) < mid := by omega
            have HB := hide (D1.out _ _ HA.out (fun h => p2 h.2))
            clear HA C1 D1
            go_upto_region 43 with fail
            rcases (show (mid < e ∧ e < b) ∨ (mid < e ∧ ¬ e < b) ∨ ¬ mid < e by omega) with ⟨q1, q2⟩ | ⟨q1, q2⟩ | q1
            · have c5 : (mid : Int) < e := by omega
              have c6 : (e : Int) < b := by omega
              go_wp2_with fail
              refine (C2.out _ _ HB.out q1 q2).mono ?_
              rintro en w3 ⟨rfl, L3, hO⟩
              have HO := hide hO
              clear hO
              go_wp2_with fail
              go_end0
              exact ⟨rfl, L3, HO.out⟩
            · have c5 : (mid : Int) < e := by omega
              have c6 : ¬ (e : Int) < b := by omega
              have HO := hide (D2.out _ _ HB.out (fun h => q2 h.2))
              go_wp2_with fail
              go_end0
              exact ⟨rfl, _, HO.out⟩
            · have c5 : ¬ (mid : Int) < e := by omega
              have HO := hide (D2.out _ _ HB.out (fun h => q1 h.1))
              go_wp2_with fail
              go_end0
              exact ⟨rfl, _, HO.out⟩
          · have c3 : ¬ (a : Int) < r := by omega
            have HB := hide (D1.out _ _ HA.out (fun h => p1 h.1))
            clear HA C1 D1
            go_upto_region 43 with fail
            rcases (show (mid < e ∧ e < b) ∨ (mid < e ∧ ¬ e < b) ∨ ¬ mid < e by omega) with ⟨q1, q2⟩ | ⟨q1, q2⟩ | q1
            · have c5 : (mid : Int) < e := by omega
              have c6 : (e : Int) < b := by omega
              go_wp2_with fail
              refine (C2.out _ _ HB.out q1 q2).mono ?_
              rintro en w3 ⟨rfl, L3, hO⟩
              have HO := hide hO
              clear hO
              go_wp2_with fail
              go_end0
              exact ⟨rfl, L3, HO.out⟩
            · have c5 : (mid : Int) < e := by omega
              have c6 : ¬ (e : Int) < b := by omega
              have HO := hide (D2.out _ _ HB.out (fun h => q2 h.2))
              go_wp2_with fail
              go_end0
              exact ⟨rfl, _, HO.out⟩
            · have c5 : ¬ (mid : Int) < e := by omega
              have HO := hide (D2.out _ _ HB.out (fun h => q1 h.1))
              go_wp2_with fail
              go_end0
              exact ⟨rfl, _, HO.out⟩
        · have c1 : (r : Int) < m := by omega
          have c2 : ¬ (m : Int) < e := by omega
          have HA : Hid (StA js bl L base (.slice va L.length vcap) a r mid e b w L wr) := ⟨HR0.out, HHv.out L (fun q => tgt_none (.inr (by omega)) (by omega) q), Mov.refl _ _ _, HF0.out⟩
          clear CR HR0 HF0 HHv
          go_upto_region 41 with fail
          rcases (show (a < r ∧ r < mid) ∨ (a < r ∧ ¬ r < mid) ∨ ¬ a < r by omega) with ⟨p1, p2⟩ | ⟨p1, p2⟩ | p1
          · have c3 : (a : Int) < r := by omega
            have c4 : (r : Int) < mid := by omega
            go_wp2_with fail
            refine (C1.out _ _ HA.out p1 p2).mono ?_
            rintro en w2 ⟨rfl, L2, hB⟩
            have HB := hide hB
            clear hB HA C1 D1
            go_upto_region 43 with fail
            rcases (show (mid < e ∧ e < b) ∨ (mid < e ∧ ¬ e < b) ∨ ¬ mid < e by omega) with ⟨q1, q2⟩ | ⟨q1, q2⟩ | q1
            · have c5 : (mid : Int) < e := by omega
              have c6 : (e : Int) < b := by omega
              go_wp2_with fail
              refine (C2.out _ _ HB.out q1 q2).mono ?_
              rintro en w3 ⟨rfl, L3, hO⟩
              have HO := hide hO
              clear hO
              go_wp2_with fail
              go_end0
              exact ⟨rfl, L3, HO.out⟩
            · have c5 : (mid : Int) < e := by omega
              have c6 : ¬ (e : Int) < b := by omega
              have HO := hide (D2.out _ _ HB.out (fun h => q2 h.2))
              go_wp2_with fail
              go_end0
              exact ⟨rfl, _, HO.out⟩
            · have c5 : ¬ (mid : Int) < e := by omega
              have HO := hide (D2.out _ _ HB.out (fun h => q1 h.1))
              go_wp2_with fail
              go_end0
              exact ⟨rfl, _, HO.out⟩
          · have c3 : (a : Int) < r := by omega
            have c4 : ¬ (r : Int) < mid := by omega
            have HB := hide (D1.out _ _ HA.out (fun h => p2 h.2))
            clear HA C1 D1
            go_upto_region 43 with fail
            rcases (show (mid < e ∧ e < b) ∨ (mid < e ∧ ¬ e < b) ∨ ¬ mid < e by omega) with ⟨q1, q2⟩ | ⟨q1, q2⟩ | q1
            · have c5 : (mid : Int) < e := by omega
              have c6 : (e : Int) < b := by omega
              go_wp2_with fail
              refine (C2.out _ _ HB.out q1 q2).mono ?_
              rintro en w3 ⟨rfl, L3, hO⟩
              have HO := hide hO
              clear hO
              go_wp2_with fail
              go_end0
              exact ⟨rfl, L3, HO.out⟩
            · have c5 : (mid : Int) < e := by omega
              have c6 : ¬ (e : Int) < b := by omega
              have HO := hide (D2.out _ _ HB.out (fun h => q2 h.2))
              go_wp2_with fail
              go_end0
              exact ⟨rfl, _, HO.out⟩
            · have c5 : ¬ (mid : Int) < e := by omega
              have HO := hide (D2.out _ _ HB.out (fun h => q1 h.1))
              go_wp2_with fail
              go_end0
              exact ⟨rfl, _, HO.out⟩
          · have c3 : ¬ (a : Int) < r := by omega
            have HB := hide (D1.out _ _ HA.out (fun h => p1 h.1))
            clear HA C1 D1
            go_upto_region 43 with fail
            rcases (show (mid < e ∧ e < b) ∨ (mid < e ∧ ¬ e < b) ∨ ¬ mid < e by omega) with ⟨q1, q2⟩ | ⟨q1, q2⟩ | q1
            · have c5 : (mid : Int) < e := by omega
              have c6 : (e : Int) < b := by omega
              go_wp2_with fail
              refine (C2.out _ _ HB.out q1 q2).mono ?_
              rintro en w3 ⟨rfl, L3, hO⟩
              have HO := hide hO
              clear hO
              go_wp2_with fail
              go_end0
              exact ⟨rfl, L3, HO.out⟩
            · have c5 : (mid : Int) < e := by omega
              have c6 : ¬ (e : Int) < b := by omega
              have HO := hide (D2.out _ _ HB.out (fun h => q2 h.2))
              go_wp2_with fail
              go_end0
              exact ⟨rfl, _, HO.out⟩
            · have c5 : ¬ (mid : Int) < e := by omega
              have HO := hide (D2.out _ _ HB.out (fun h => q1 h.1))
              go_wp2_with fail
              go_end0
              exact ⟨rfl, _, HO.out⟩
        · have c1 : ¬ (r : Int) < m := by omega
          have HA : Hid (StA js bl L base (.slice va L.length vcap) a r mid e b w L wr) := ⟨HR0.out, HHv.out L (fun q => tgt_none (.inl (by omega)) (by omega) q), Mov.refl _ _ _, HF0.out⟩
          clear CR HR0 HF0 HHv
          go_upto_region 41 with fail
          rcases (show (a < r ∧ r < mid) ∨ (a < r ∧ ¬ r < mid) ∨ ¬ a < r by omega) with ⟨p1, p2⟩ | ⟨p1, p2⟩ | p1
          · have c3 : (a : Int) < r := by omega
            have c4 : (r : Int) < mid := by omega
            go_wp2_with fail
            refine (C1.out _ _ HA.out p1 p2).mono ?_
            rintro en w2 ⟨rfl, L2, hB⟩
            have HB := hide hB
            clear hB HA C1 D1
            go_upto_region 43 with fail
            rcases (show (mid < e ∧ e < b) ∨ (mid < e ∧ ¬ e < b) ∨ ¬ mid < e by omega) with ⟨q1, q2⟩ | ⟨q1, q2⟩ | q1
            · have c5 : (mid : Int) < e := by omega
              have c6 : (e : Int) < b := by omega
              go_wp2_with fail
              refine (C2.out _ _ HB.out q1 q2).mono ?_
              rintro en w3 ⟨rfl, L3, hO⟩
              have HO := hide hO
              clear hO
              go_wp2_with fail
              go_end0
              exact ⟨rfl, L3, HO.out⟩
            · have c5 : (mid : Int) < e := by omega
              have c6 : ¬ (e : Int) < b := by omega
              have HO := hide (D2.out _ _ HB.out (fun h => q2 h.2))
              go_wp2_with fail
              go_end0
              exact ⟨rfl, _, HO.out⟩
            · have c5 : ¬ (mid : Int) < e := by omega
              have HO := hide (D2.out _ _ HB.out (fun h => q1 h.1))
              go_wp2_with fail
              go_end0
              exact ⟨rfl, _, HO.out⟩
          · have c3 : (a : Int) < r := by omega
            have c4 : ¬ (r : Int) < mid := by omega
            have HB := hide (D1.out _ _ HA.out (fun h => p2 h.2))
            clear HA C1 D1
            go_upto_region 43 with fail
            rcases (show (mid < e ∧ e < b) ∨ (mid < e ∧ ¬ e < b) ∨ ¬ mid < e by omega) with ⟨q1, q2⟩ | ⟨q1, q2⟩ | q1
            · have c5 : (mid : Int) < e := by omega
              have c6 : (e : Int) < b := by omega
              go_wp2_with fail
              refine (C2.out _ _ HB.out q1 q2).mono ?_
              rintro en w3 ⟨rfl, L3, hO⟩
              have HO := hide hO
              clear hO
              go_wp2_with fail
              go_end0
              exact ⟨rfl, L3, HO.out⟩
            · have c5 : (mid : Int) < e := by omega
              have c6 : ¬ (e : Int) < b := by omega
              have HO := hide (D2.out _ _ HB.out (fun h => q2 h.2))
              go_wp2_with fail
              go_end0
              exact ⟨rfl, _, HO.out⟩
            · have c5 : ¬ (mid : Int) < e := by omega
              have HO := hide (D2.out _ _ HB.out (fun h => q1 h.1))
              go_wp2_with fail
              go_end0
              exact ⟨rfl, _, HO.out⟩
          · have c3 : ¬ (a : Int) < r := by omega
            have HB := hide (D1.out _ _ HA.out (fun h => p1 h.1))
            clear HA C1 D1
            go_upto_region 43 with fail
            rcases (show (mid < e ∧ e < b) ∨ (mid < e ∧ ¬ e < b) ∨ ¬ mid < e by omega) with ⟨q1, q2⟩ | ⟨q1, q2⟩ | q1
            · have c5 : (mid : Int) < e := by omega
              have c6 : (e : Int) < b := by omega
              go_wp2_with fail
              refine (C2.out _ _ HB.out q1 q2).mono ?_
              rintro en w3 ⟨rfl, L3, hO⟩
              have HO := hide hO
              clear hO
              go_wp2_with fail
              go_end0
              exact ⟨rfl, L3, HO.out⟩
            · have c5 : (mid : Int) < e := by omega
              have c6 : ¬ (e : Int) < b := by omega
              have HO := hide (D2.out _ _ HB.out (fun h => q2 h.2))
              go_wp2_with fail
              go_end0
              exact ⟨rfl, _, HO.out⟩
            · have c5 : ¬ (mid : Int) < e := by omega
              have HO := hide (D2.out _ _ HB.out (fun h => q1 h.1))
              go_wp2_with fail
              go_end0
              exact ⟨rfl, _, HO.out⟩

theorem sym_any (js : List Jb) (bl left : Nat → Nat) (base : Nat) (v : Value) : ∀ N, SymP js bl left base v N
  | 0 => fun L a m b w _ _ _ h1 h2 _ _ _ _ h3 => by omega
  | N + 1 => sym_step js bl left base v N (sym_any js bl left base v N)
end Go.Proofs.YtbdffcjganlblaaGreatDoor

namespace Go.Proofs.YtbdffcjganlblaaGreatDoor
open Go.RowKit
set_option linter.unusedVariables false
set_option linter.unusedSimpArgs false

/-- In order by the releases, and the same jobs. -/
structure Sorted (js : List Jb) (L L' : List Nat) : Prop where
  perm : L'.Perm L
  srt : Srt (relK js) L' 0 L'.length

end Go.Proofs.YtbdffcjganlblaaGreatDoor

namespace Go.Proofs.YtbdffcjganlblaaGreatDoor
open Go.RowKit
set_option linter.unusedVariables false
set_option linter.unusedSimpArgs false

/-- In order within blocks of bs. -/
def SrtB (key : Nat → Nat) (L : List Nat) (bs lo hi : Nat) : Prop := ∀ i, lo ≤ i → i + 1 < hi → (i + 1) % bs ≠ 0 → key (gd L i) ≤ key (gd L (i + 1))
theorem mod_in {a bs x : Nat} (h : a % bs = 0) (h1 : a < x) (h2 : x < a + bs) : x % bs ≠ 0 := by
  obtain ⟨d, rfl⟩ : ∃ d, x = a + d := ⟨x - a, by omega⟩
  rw [Nat.add_mod, h, Nat.zero_add, Nat.mod_mod, Nat.mod_eq_of_lt (by omega)]
  omega
section
variable {key : Nat → Nat} {L L' : List Nat} {bs a b n : Nat}
theorem SrtB.block {lo hi : Nat} (h : SrtB key L bs lo hi) (ha : a % bs = 0) (hlo : lo ≤ a) (hb : b ≤ hi) (hab : b ≤ a + bs) : Srt key L a b := fun i h1 h2 => h i (by omega) (by omega) (mod_in ha (by omega) (by omega))
theorem SrtB.more (h : SrtB key L bs 0 a) (ha : a % bs = 0) (hs : Srt key L a b) : SrtB key L bs 0 b := fun i h1 h2 h3 => by
  rcases Nat.lt_trichotomy (i + 1) a with h4 | h4 | h4
  · exact h i h1 h4 h3
  · rw [h4] at h3
    exact absurd ha h3
  · exact hs i (by omega) h2
theorem SrtB.same {lo hi : Nat} (h : SrtB key L bs lo hi) (e : ∀ i, lo ≤ i → i < hi → gd L' i = gd L i) : SrtB key L' bs lo hi := fun i h1 h2 h3 => by
  rw [e i h1 (by omega), e (i + 1) (by omega) h2]
  exact h i h1 h2 h3
theorem SrtB.sub {lo hi lo' hi' : Nat} (h : SrtB key L bs lo hi) (h1 : lo ≤ lo') (h2 : hi' ≤ hi) : SrtB key L bs lo' hi' := fun i a1 a2 a3 => h i (by omega) (by omega) a3
end
/-- Between two merges: the first ones in blocks of two, the others still in blocks of one. -/
structure BlkW (js : List Jb) (bl left : Nat → Nat) (L : List Nat) (base : Nat) (v : Value) (b1 b2 a : Nat) (w : World) (L' : List Nat) (wr : World) : Prop where
  row : RowJ wr base v bl L'
  mov : Mov L L' 0 L.length
  s1 : SrtB (relK js) L' b2 0 a
  s2 : SrtB (relK js) L' b1 a L.length
  f : Frm (fun k => v.ownBlock = some k) w wr
section
variable {js : List Jb} {bl left : Nat → Nat} {L : List Nat} {base : Nat} {v : Value} {b1 b2 a b : Nat} {w : World} {L' : List Nat} {wr : World}
theorem BlkW.step (h : BlkW js bl left L base v b1 b2 a w L' wr) (ha : a % b2 = 0) (hab : a ≤ b) (hb : b ≤ L.length) {L2 : List Nat} {w2 : World} (ho : MrgOut js bl L' base v a b L2 wr w2) : BlkW js bl left L base v b1 b2 b w L2 w2 := by
  have hl := h.mov.len
  refine ⟨ho.row, h.mov.trans (ho.mov.wide (Nat.zero_le _) hb), ?_, ?_, h.f.trans ho.f⟩
  · exact (h.s1.same (fun i _ h2 => ho.mov.out i (.inl h2))).more ha ho.srt
  · exact (h.s2.sub hab (Nat.le_refl _)).same (fun i h1 _ => ho.mov.out i (.inr h1))
theorem BlkW.jobs (h : BlkW js bl left L base v b1 b2 a w L' wr) (hj : JobsAt js bl left w) (hv : RowJ w base v bl L) : JobsAt js bl left wr :=
  hj.keep h.f (fun k hk e => by
    obtain ⟨_, c, fr, e'⟩ := row_typed hv e
    rw [hj k hk] at e'
    simp at e')
theorem BlkW.mem (h : BlkW js bl left L base v b1 b2 a w L' wr) (hL : ∀ x ∈ L, x < js.length) : ∀ x ∈ L', x < js.length := fun x hx => hL x (h.mov.perm.mem_iff.1 hx)
end
set_option maxRecDepth 100000 in
set_option maxHeartbeats 16000000 in
theorem stable_any (js : List Jb) (bl left : Nat → Nat) (L : List Nat) (base : Nat) (v : Value) (w : World) (hv : RowJ w base v bl L) (hj : JobsAt js bl left w) (hL : ∀ x ∈ L, x < js.length) (hn : L.length ≤ 100000) :
    Calls Tryz.prog 201 #[v, .int .i64 L.length, cmpF] w fun e w' => e = .returned (.tuple #[]) ∧ (∃ L', Sorted js L L' ∧ RowJ w' base v bl L') ∧ Frm (fun k => v.ownBlock = some k) w w' := by
  have CI : Hid (∀ (b1 b2 a b : Nat) (L' : List Nat) (wr : World) (A B : Int), BlkW js bl left L base v b1 b2 a w L' wr → A = a → B = b → a % b2 = 0 → a ≤ b → b ≤ L.length → Calls Tryz.prog 207 #[v, .int .i64 A, .int .i64 B, cmpF] wr fun e w' => e = .returned (.tuple #[]) ∧ ∃ L2, BlkW js bl left L base v b1 b2 b w L2 w') := fun b1 b2 a b L' wr A B h e1 e2 ha hab hb => by
    subst e1 e2
    have hl := h.mov.len
    refine (insSort_any js bl left L' base v wr h.row (h.jobs hj hv) (h.mem hL) a b hab (by omega) (by omega)).mono ?_
    rintro e w' ⟨rfl, ho, hf⟩
    obtain ⟨s1, s2⟩ := insS_all (relK js) L' hab (by omega)
    exact ⟨rfl, _, h.step ha hab hb ⟨ho, s1, s2, hf⟩⟩
  have CM : Hid (∀ (b1 b2 a m b : Nat) (L' : List Nat) (wr : World) (A M B : Int), BlkW js bl left L base v b1 b2 a w L' wr → A = a → M = m → B = b → a % b2 = 0 → a % b1 = 0 → m = a + b1 → m < b → 0 < b1 → b ≤ m + b1 → b ≤ L.length → Calls Tryz.prog symF #[v, .int .i64 A, .int .i64 M, .int .i64 B, cmpF] wr fun e w' => e = .returned (.tuple #[]) ∧ ∃ L2, BlkW js bl left L base v b1 b2 b w L2 w') := fun b1 b2 a m b L' wr A M B h e1 e2 e3 ha ha1 hm hmb h0 hb1 hb => by
    subst e1 e2 e3
    have hl := h.mov.len
    refine (sym_any js bl left base v (b - a) L' a m b wr h.row (h.jobs hj hv) (h.mem hL) (by omega) hmb (by omega) (by omega) (h.s2.block ha1 (Nat.le_refl _) (by omega) (by omega)) (h.s2.block (by rw [hm, Nat.add_mod_right]; exact ha1) (by omega) hb hb1) (Nat.le_refl _)).mono ?_
    rintro e w' ⟨rfl, L2, ho⟩
    exact ⟨rfl, L2, h.step ha (by omega) hb ho⟩
  have H0 : Hid (BlkW js bl left L base v 1 20 0 w L w) := ⟨hv, Mov.refl _ _ _, fun i h1 h2 => by omega, fun i h1 h2 h3 => absurd (Nat.mod_one _) h3, Frm.refl _ _⟩
  clear hv hj hL
  go_enter Tryz.func201, Tryz.ntmps201
  go_wp2_with fail
  go_loopw [7, 8] (fun av bv wr => ∃ (a : Nat) (L' : List Nat), av = .int .i64 a ∧ bv = .int .i64 (a + 20 : Nat) ∧ a % 20 = 0 ∧ a ≤ L.length ∧ BlkW js bl left L base v 1 20 a w L' wr) (fun av _ _ => L.length - (intOf av).toNat)
  case atStart => exact ⟨0, L, rfl, rfl, rfl, Nat.zero_le _, H0.out⟩
  case round =>
    clear H0
    obtain ⟨a, L', rfl, rfl, ha, hal, hB⟩ := hrel
    have HB := hide hB
    clear hB
    by_cases hlt : a + 20 ≤ L.length
    · have hlt' : ((a + 20 : Nat) : Int) ≤ L.length := by omega
      have HA := hide ha
      clear ha
      go_wp2_with fail
      refine (CI.out 1 20 a (a + 20) L' wr _ _ HB.out rfl rfl HA.out (by omega) hlt).mono ?_
      rintro e w1 ⟨rfl, L2, hB2⟩
      have HB2 := hide hB2
      clear hB2 HB
      go_wp2_with fail
      go_roundw
      case rel => exact ⟨a + 20, L2, rfl, by go_num, by have := HA.out; omega, hlt, HB2.out⟩
      case measure => simp [intOf]; omega
    · have hlt' : ¬ ((a + 20 : Nat) : Int) ≤ L.length := by omega
      have HA := hide ha
      clear ha
      go_wp2_with fail
      refine (CI.out 1 20 a L.length L' wr _ _ HB.out rfl rfl HA.out hal (Nat.le_refl _)).mono ?_
      rintro e w1 ⟨rfl, L2, hB2⟩
      have HB2 := hide hB2
      clear hB2 HB HA CI
      go_wp2_with fail
      go_loopw [6] (fun sv wr => ∃ (bs : Nat) (L' : List Nat), sv = .int .i64 bs ∧ 0 < bs ∧ bs ≤ 200000 ∧ RowJ wr base v bl L' ∧ Mov L L' 0 L.length ∧ SrtB (relK js) L' bs 0 L.length ∧ Frm (fun k => v.ownBlock = some k) w wr) (fun sv _ => L.length - (intOf sv).toNat)
      case atStart => exact ⟨20, L2, rfl, by omega, by omega, HB2.out.row, HB2.out.mov, HB2.out.s1, HB2.out.f⟩
      case round =>
        clear HB2
        obtain ⟨bs, L', rfl, hb0, hb2, hr, hm, hs, hf⟩ := hrel
        by_cases hlt2 : bs < L.length
        · have hlt2' : (bs : Int) < L.length := by omega
          have H1 : Hid (BlkW js bl left L base v bs (2 * bs) 0 w L' wr) := ⟨hr, hm, fun i h1 h2 => by omega, hs, hf⟩
          clear hr hm hs hf
          go_wp2_with fail
          go_loopw [7, 8] (fun av bv wr => ∃ (a : Nat) (L' : List Nat), av = .int .i64 a ∧ bv = .int .i64 (a + 2 * bs : Nat) ∧ a % (2 * bs) = 0 ∧ a ≤ L.length ∧ BlkW js bl left L base v bs (2 * bs) a w L' wr) (fun av _ _ => L.length - (intOf av).toNat)
          case atStart => exact ⟨0, L', rfl, by go_num, Nat.zero_mod _, Nat.zero_le _, H1.out⟩
          case round =>
            clear H1
            obtain ⟨a, L', rfl, rfl, ha, hal, hB⟩ := hrel
            have HB := hide hB
            have HA := hide ha
            have HA1 : Hid (a % bs = 0) := by
              unfold Hid
              have h1 := Nat.dvd_of_mod_eq_zero ha
              exact Nat.mod_eq_zero_of_dvd (Nat.dvd_trans (Nat.dvd_mul_left bs 2) h1)
            clear hB ha
            by_cases hlt3 : a + 2 * bs ≤ L.length
            · have hlt3' : ((a + 2 * bs : Nat) : Int) ≤ L.length := by omega
              go_wp2_with fail
              refine (CM.out bs (2 * bs) a (a + bs) (a + 2 * bs) L' wr _ _ _ HB.out rfl (by go_num) rfl HA.out HA1.out rfl (by omega) hb0 (by omega) hlt3).mono ?_
              rintro e w1 ⟨rfl, L2, hB2⟩
              have HB2 := hide hB2
              clear hB2 HB
              go_wp2_with fail
              go_roundw
              case rel => exact ⟨a + 2 * bs, L2, rfl, by go_num, by have := HA.out; rw [Nat.add_mod_right]; exact this, hlt3, HB2.out⟩
              case measure => simp [intOf]; omega
            · have hlt3' : ¬ ((a + 2 * bs : Nat) : Int) ≤ L.length := by omega
              by_cases hlt4 : a + bs < L.length
              · have hlt4' : (a : Int) + bs < L.length := by omega
                go_wp2_with fail
                refine (CM.out bs (2 * bs) a (a + bs) L.length L' wr _ _ _ HB.out rfl (by go_num) rfl HA.out HA1.out rfl hlt4 hb0 (by omega) (Nat.le_refl _)).mono ?_
                rintro e w1 ⟨rfl, L2, hB2⟩
                have HB2 := hide hB2
                clear hB2 HB
                go_wp2_with fail
                go_roundw
                case rel => exact ⟨2 * bs, L2, by go_num, by omega, by omega, HB2.out.row, HB2.out.mov, HB2.out.s1, HB2.out.f⟩
                case measure => simp [intOf]; omega
              · have hlt4' : ¬ (a : Int) + bs < L.length := by omega
                have HS : Hid (SrtB (relK js) L' (2 * bs) 0 L.length) := HB.out.s1.more HA.out (HB.out.s2.block HA1.out (Nat.le_refl _) (Nat.le_refl _) (by omega))
                go_wp2_with fail
                go_roundw
                case rel => exact ⟨2 * bs, L', by go_num, by omega, by omega, HB.out.row, HB.out.mov, HS.out, HB.out.f⟩
                case measure => simp [intOf]; omega
        · have hlt2' : ¬ (bs : Int) < L.length := by omega
          have HS : Hid (Sorted js L L') := ⟨hm.perm, by rw [hm.len]; exact hs.block (Nat.zero_mod _) (Nat.le_refl _) (Nat.le_refl _) (by omega)⟩
          have HR := hide hr
          have HF := hide hf
          clear hr hm hs hf
          go_wp2_with fail
          go_end0
          exact ⟨rfl, ⟨L', HS.out, HR.out⟩, HF.out⟩

set_option maxRecDepth 100000 in
set_option maxHeartbeats 4000000 in
theorem sort_any (js : List Jb) (bl left : Nat → Nat) (L : List Nat) (base : Nat) (v : Value) (w : World) (hv : RowJ w base v bl L) (hj : JobsAt js bl left w) (hL : ∀ x ∈ L, x < js.length) (hn : L.length ≤ 100000) :
    Calls Tryz.prog 173 #[v] w fun e w' => e = .returned (.tuple #[]) ∧ (∃ L', Sorted js L L' ∧ RowJ w' base v bl L') ∧ Frm (fun k => v.ownBlock = some k) w w' := by
  have CS := hide (stable_any js bl left L base v w hv hj hL hn)
  obtain ⟨va, vcap, hvf, _, _⟩ := hv.len
  subst hvf
  clear hv hj hL
  have CF : Hid (Calls Tryz.prog 189 #[.slice va L.length vcap, cmpF] w fun e w' => e = .returned (.tuple #[]) ∧ (∃ L', Sorted js L L' ∧ RowJ w' base (.slice va L.length vcap) bl L') ∧ Frm (fun k => (Value.slice va L.length vcap).ownBlock = some k) w w') := by
    go_enter Tryz.func189, Tryz.ntmps189
    go_wp2_with fail
    refine CS.out.mono ?_
    rintro e w1 ⟨rfl, ho, hf⟩
    have HO := hide ho
    have HF := hide hf
    clear ho hf CS
    go_wp2_with fail
    go_end0
    exact ⟨rfl, HO.out, HF.out⟩
  go_enter Tryz.func173, Tryz.ntmps173
  go_wp2_with fail
  refine CF.out.mono ?_
  rintro e w1 ⟨rfl, ho, hf⟩
  have HO := hide ho
  have HF := hide hf
  clear ho hf CF
  go_wp2_with fail
  go_end0
  exact ⟨rfl, HO.out, HF.out⟩
end Go.Proofs.YtbdffcjganlblaaGreatDoor
