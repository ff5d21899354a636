/-
  Own work. The document's unit by unit: Greedy.
-/
import Derived.Test.YtbdffcjganlblaaGreatDoorMDsDtoSoA
import Derived.Test.YtbdffcjganlblaaGreatDoorMGrAtoDsE
import Derived.Test.YtbdffcjganlblaaGreatDoorMMtBtoHeA
namespace Go.Proofs.YtbdffcjganlblaaGreatDoor
open Go.RowKit
set_option linter.unusedVariables false
set_option linter.unusedSimpArgs false

section
variable {w : World} {tv pv : Value} {js : List Jb} {gL gF : Nat} {left : Nat → Nat} {wr : World}
end
end Go.Proofs.YtbdffcjganlblaaGreatDoor

namespace Go.Proofs.YtbdffcjganlblaaGreatDoor
open Go.RowKit
set_option linter.unusedVariables false
set_option linter.unusedSimpArgs false

/-- What a trace counts up to. -/
structure MetS (js : List Jb) (cyc T : Nat) (s : List UInt8) (full : Bool) (A tm : Nat → Nat → Nat) : Prop where
  z : A 0 0 = 0
  step : ∀ c k, k < js.length → A c (k + 1) = A c k + tm c k
  row : ∀ c, A c js.length = A (c + 1) 0
  fin : ∀ c, T ≤ c * cyc → A c 0 = cP (fun u => !(s.getD u 0 == 46)) s.length
  most : ∀ c k, k < js.length → tm c k ≤ (jk js k).cost
  just : full = true → ∀ c k, k < js.length → c * cyc + (jk js k).dl ≤ T → tm c k = (jk js k).cost
  is : ∀ c k, k < js.length → tm c k = tms s (jk js k).ltr (c * cyc + (jk js k).rel) (c * cyc + (jk js k).dl)
  low : ∀ c k, A c k ≤ 400
  len : s.length = T

theorem Trc.met {js : List Jb} {ps : List Pr} {cyc F T : Nat} {P : List (Nat × Nat)} {L : List FSl} {s : List UInt8} (h : Trc js ps cyc F P L s) (hT : s.length = T) (hT4 : T ≤ 400) (full : Bool) (hf : full = true → ∀ u, u < s.length → s.getD u 0 = barU L F (u % cyc)) :
    MetS js cyc T s full (allT P L F cyc s) (fun c k => tms s (jk js k).ltr (c * cyc + (jk js k).rel) (c * cyc + (jk js k).dl)) :=
  ⟨allT_zero P L F cyc s, fun c k hk => h.step c hk, fun c => h.row c, fun c hc => h.fin (by rw [hT]; exact hc), fun c k hk => h.most c hk, fun h1 c k hk hd => h.just (hf h1) hk (by rw [hT]; exact hd), fun c k hk => rfl, fun c k => Nat.le_trans (cP_low _ _) (by rw [hT]; exact hT4), hT⟩

set_option maxRecDepth 100000 in
set_option maxHeartbeats 16000000 in
theorem met_yes (ts : List Tk) (cyc g cap : Nat) (pa : Option Addr) (pm pc : Nat) (s : ByteArray) (T : Nat) (full : Bool) (A tm : Nat → Nat → Nat) (w : World) (hg : g < w.heap.size) (hr : RowT w g ts) (hn : ts.length ≤ 6) (hts : TsOk ts cyc) (hcy : cycI ts = cyc) (hne : 0 < (jobsL cyc 0 ts).length) (hT : T ≤ 400)
    (hM : MetS (jobsL cyc 0 ts) cyc T s.data.toList full A tm) :
    Calls Tryz.prog 28 #[.agg #[.slice (some ⟨g, 0, none⟩) ts.length cap, .slice pa pm pc], .string s, .int .i64 T, .bool full] w fun e w' => e = .returned (.bool true) ∧ Below w.heap.size w w' := by
  have hc1 := hts.c1
  have hc2 := hts.c2
  have hjs := jobs_of hts
  have hj360 := jobs_few hts
  have hsl : s.size = T := by rw [← hM.len]; simp
  have HPk : Hid (∀ k, k < ts.length → 1 ≤ (tsk ts k).P ∧ (tsk ts k).P ≤ 60) := fun k hk => by
    have h5 := hts.each _ (tsk_mem hk)
    have h6 : (tsk ts k).P ≤ cyc := Nat.le_of_dvd (by omega) (Nat.dvd_of_mod_eq_zero h5.2.1)
    omega
  have hS := blk_new w #[.slice (some ⟨g, 0, none⟩) ts.length cap, .slice pa pm pc] 53
  have HB0 := hide (below_new w (.cells #[.slice (some ⟨g, 0, none⟩) ts.length cap, .slice pa pm pc] 53))
  have HS := hide hS
  have s0 := blk_cell hS
  have HR := hide hr
  have CJ := hide (fun W (hW : Below w.heap.size w W) => rSetJobs_any ts cyc g cap pa pm pc W (Nat.lt_of_lt_of_le hg hW.size) (hr.below hW hg) hn hts hcy)
  have CC := hide (fun W (hW : Below w.heap.size w W) => rCycle_any ts g cap (.slice pa pm pc) pa pm pc rfl W (Nat.lt_of_lt_of_le hg hW.size) (hr.below hW hg) hn HPk.out)
  rw [hcy] at CC
  have HSm : Hid (∀ k, k < (jobsL cyc 0 ts).length → (jk (jobsL cyc 0 ts) k).rel ≤ 60 ∧ (jk (jobsL cyc 0 ts) k).dl ≤ 60 ∧ (jk (jobsL cyc 0 ts) k).cost ≤ 60 ∧ (jk (jobsL cyc 0 ts) k).tsk < ts.length ∧ (tsk ts (jk (jobsL cyc 0 ts) k).tsk).nm = (jk (jobsL cyc 0 ts) k).ltr) := fun k hk => by
    have h1 := hjs.win k hk
    have h2 := hjs.cyc k hk
    obtain ⟨t1, t2, t3, _⟩ := job_task hk
    exact ⟨by omega, by omega, by omega, t1, t2.symm⟩
  have HM := hide hM
  clear hr hts hcy hS hjs hM
  generalize jobsL cyc 0 ts = js at *
  go_enter Tryz.func28, Tryz.ntmps28
  go_wp2_with fail
  generalize w.alloc (.cells #[.slice (some ⟨g, 0, none⟩) ts.length cap, .slice pa pm pc] 53) = w0 at *
  refine (CJ.out w0 HB0.out).mono ?_
  rintro e w1 ⟨la, lc, rfl, hown, hb1⟩
  have HB1 := hide (HB0.out.trans (hb1.mono HB0.out.size))
  have HS1 := hide (blk_keep HS.out hb1)
  have s1 := blk_cell HS1.out
  obtain ⟨gL, lcap, hv, hgL1, hgL2⟩ := own_form hown (by omega)
  injection hv with e1 _ e3
  subst e1 e3
  have HRB := hide (rowB_own hown)
  clear hb1 hown HB0 HS s0 CJ
  go_wp2_with fail
  refine (CC.out w1 HB1.out).mono ?_
  rintro e w2 ⟨rfl, hb2⟩
  have HB2 := hide (HB1.out.trans (hb2.mono HB1.out.size))
  have HS2 := hide (blk_keep HS1.out hb2)
  have HRB2 := hide (HRB.out.below hb2 hgL2)
  have hgL3 : gL < w2.heap.size := Nat.lt_of_lt_of_le hgL2 hb2.size
  clear hb2 HB1 HS1 s1 CC HRB hgL2
  go_wp2_with fail
  go_loopw [9, 12] (fun av cv wr => ∃ c : Nat, c ≤ T ∧ cv = .int .i64 c ∧ av = .int .i64 (A c 0) ∧ Below w2.heap.size w2 wr) (fun _ cv _ => T - (intOf cv).toNat)
  case atStart => exact ⟨0, by omega, rfl, by rw [HM.out.z]; rfl, Below.refl _ _⟩
  case round =>
    obtain ⟨c, hcT, rfl, rfl, hb⟩ := hrel
    have HB := hide hb
    clear hb
    obtain ⟨q, hq⟩ : ∃ q, c * cyc = q := ⟨_, rfl⟩
    have hqi : (c : Int) * (cyc : Int) = (q : Int) := by rw [← hq, Int.natCast_mul]
    have hqc : c ≤ q := by rw [← hq]; exact Nat.le_mul_of_pos_right c hc1
    have hq9 : q ≤ 24000 := by rw [← hq]; exact Nat.le_trans (Nat.mul_le_mul hcT hc2) (by omega)
    have Hq := hide hq
    clear hq
    by_cases hlt : q < T
    · have hlt' : (q : Int) < (T : Int) := by omega
      have hlow := HM.out.low c 0
      go_wp2_with fail
      go_loopw [9, 13] (fun av kv wr => ∃ k : Nat, k ≤ js.length ∧ kv = .int .i64 k ∧ av = .int .i64 (A c k) ∧ Below w2.heap.size w2 wr) (fun _ kv _ => js.length - (intOf kv).toNat)
      case atStart => exact ⟨0, by omega, rfl, rfl, HB.out⟩
      case round =>
        clear HB
        obtain ⟨k, hk, rfl, rfl, hb⟩ := hrel
        have HB := hide hb
        clear hb
        by_cases hkl : k < js.length
        · have hkl' : (k : Int) < js.length := by omega
          obtain ⟨m1, m2, m3, m4, m5⟩ := HSm.out k hkl
          have hBw := HB2.out.trans (HB.out.mono HB2.out.size)
          have s0 := blk_cell (blk_keep HS2.out HB.out)
          obtain ⟨j0, j1, j2, j3, j4⟩ := HRB2.out.below HB.out hgL3 k hkl
          obtain ⟨r0, _⟩ := HR.out.below hBw hg _ m4
          rw [m5] at r0
          have htk' : ((jk js k).tsk : Int) < ts.length := by omega
          have hlow2 := HM.out.low c k
          have hmost := HM.out.most c k hkl
          have hst := HM.out.step c k hkl
          have his := HM.out.is c k hkl
          have hjust : full = true → q + (jk js k).dl ≤ T → tm c k = (jk js k).cost := fun h1 h2 => HM.out.just h1 c k hkl (by rw [Hq.out]; exact h2)
          rw [Hq.out] at his
          have CTm : Hid (∀ x, Calls Tryz.prog 56 #[.string s, .int .u8 (jk js k).ltr.toNat, .int .i64 ((q : Int) + ((jk js k).rel : Int)), .int .i64 ((q : Int) + ((jk js k).dl : Int))] (wr.drewN x) fun e w' => e = .returned (.int .i64 (tm c k)) ∧ ∃ n, w' = wr.drewN n) := fun x => by
            have := times_any s (jk js k).ltr (q + (jk js k).rel) (q + (jk js k).dl) (wr.drewN x) (by omega) (by omega) (by omega)
            rw [← his, Int.natCast_add, Int.natCast_add] at this
            exact this.mono (fun e w' h => ⟨h.1, x, h.2⟩)
          clear his hBw m5
          go_wp2_with fail
          go_quiet (first | (go_at_call 56; exact CTm.out _))
          generalize hwv : World.drewN wr _ = wv
          have HBv : Hid (Below w2.heap.size w2 wv) := by rw [← hwv]; exact below_drewN HB.out _
          clear hwv HB s0 j0 j1 j2 j3 j4 r0 CTm
          have HSt := hide hst
          have HJu := hide hjust
          clear hst hjust
          obtain ⟨j0, j1, j2, j3, j4⟩ := HRB2.out.below HBv.out hgL3 k hkl
          generalize hAk : A c k = ak at *
          generalize htm : tm c k = tt at *
          clear hAk htm
          have p1 : ¬ (((jk js k).cost : Int) < (tt : Int)) := by omega
          have d1 : decide (((jk js k).cost : Int) < (tt : Int)) = false := decide_eq_false p1
          cases full with
          | false =>
            go_wp2_with fail
            go_roundw
            case rel => exact ⟨k + 1, by omega, by go_num, by rw [HSt.out, Int.natCast_add], HBv.out⟩
            case measure => simp [intOf]; omega
          | true =>
            by_cases hdl : q + (jk js k).dl ≤ T
            · have hdl' : (q : Int) + ((jk js k).dl : Int) ≤ (T : Int) := by omega
              have heq := HJu.out rfl hdl
              have p2 : ¬ ((tt : Int) < ((jk js k).cost : Int)) := by omega
              clear heq
              go_wp2_with fail
              go_roundw
              case rel => exact ⟨k + 1, by omega, by go_num, by rw [HSt.out, Int.natCast_add], HBv.out⟩
              case measure => simp [intOf]; omega
            · have hdl' : ¬ (q : Int) + ((jk js k).dl : Int) ≤ (T : Int) := by omega
              go_wp2_with fail
              go_roundw
              case rel => exact ⟨k + 1, by omega, by go_num, by rw [HSt.out, Int.natCast_add], HBv.out⟩
              case measure => simp [intOf]; omega
        · have hkl' : ¬ (k : Int) < js.length := by omega
          have hke : k = js.length := by omega
          subst hke
          rw [HM.out.row c]
          go_wp2_with fail
          go_roundw
          case rel => exact ⟨c + 1, by omega, by go_num, rfl, HB.out⟩
          case measure => simp [intOf]; omega
    · have hlt' : ¬ (q : Int) < (T : Int) := by omega
      rw [HM.out.fin c (by rw [Hq.out]; omega)]
      have HBw := hide (HB2.out.trans (HB.out.mono HB2.out.size))
      have HLen := hide HM.out.len
      clear HM HB HS2 HRB2 HSm HR
      have hlow3 := cP_low (fun u => !(s.data.toList.getD u 0 == 46)) s.data.toList.length
      rw [HLen.out] at hlow3 ⊢
      obtain ⟨N, hN⟩ : ∃ N, cP (fun u => !(s.data.toList.getD u 0 == 46)) T = N := ⟨_, rfl⟩
      rw [hN] at hlow3 ⊢
      have HN := hide hN
      clear hN
      go_wp2_with fail
      go_loopw [9, 15] (fun av iv wr => ∃ i R : Nat, i ≤ T ∧ iv = .int .i64 i ∧ av = .int .i64 R ∧ Hid (R + cP (fun u => !(s.data.toList.getD u 0 == 46)) i = N) ∧ Below w.heap.size w wr) (fun _ iv _ => T - (intOf iv).toNat)
      case atStart => exact ⟨0, _, by omega, rfl, rfl, rfl, HBw.out⟩
      case round =>
        clear HBw
        obtain ⟨i, R, hi, rfl, rfl, hR0, hb⟩ := hrel
        have hR := hR0.out
        clear hR0
        have HB := hide hb
        clear hb
        by_cases hil : i < T
        · have hil' : (i : Int) < s.size := by omega
          have hill : i < s.size := by omega
          have hll : i < s.data.toList.length := by rw [HLen.out]; exact hil
          have he : s[i] = s.data.toList.getD i 0 := by
            rw [List.getD_eq_getElem?_getD, List.getElem?_eq_getElem hll]
            simp [ByteArray.getElem_eq_getElem_data]
          have hst := cP_step (fun u => !(s.data.toList.getD u 0 == 46)) i
          by_cases hc : s.data.toList.getD i 0 = 46
          · have hc' : (((s[i]).toNat : Int) == 46) = true := by rw [he, hc]; rfl
            rw [if_neg (by rw [hc]; decide)] at hst
            have HR2 : Hid (R + cP (fun u => !(s.data.toList.getD u 0 == 46)) (i + 1) = N) := by unfold Hid; omega
            clear he hc hst hR
            go_wp2_with fail
            go_roundw
            case rel => exact ⟨i + 1, R, by omega, by go_num, rfl, HR2, HB.out⟩
            case measure => simp [intOf]; omega
          · have hc' : (((s[i]).toNat : Int) == 46) = false := by
              rw [he, beq_eq_false_iff_ne]
              intro h
              apply hc
              apply UInt8.toNat_inj.1
              show _ = 46
              omega
            rw [if_pos (by simp only [Bool.not_eq_true', beq_eq_false_iff_ne]; exact hc)] at hst
            have hmono : ∀ m n, n ≤ m → cP (fun u => !(s.data.toList.getD u 0 == 46)) n ≤ cP (fun u => !(s.data.toList.getD u 0 == 46)) m := fun m => by
              induction m with
              | zero => intro n h; rw [show n = 0 by omega]; exact Nat.le_refl _
              | succ m ih =>
                intro n h
                by_cases e : n = m + 1
                · rw [e]; exact Nat.le_refl _
                · exact Nat.le_trans (ih n (by omega)) (by rw [cP_step]; omega)
            have h3 := hmono T (i + 1) hil
            rw [HN.out] at h3
            have HR2 : Hid (R - 1 + cP (fun u => !(s.data.toList.getD u 0 == 46)) (i + 1) = N) := by unfold Hid; omega
            have hR1 : 1 ≤ R := by omega
            have hR9 : R ≤ 400 := by omega
            clear he hc hst hR h3 hmono
            go_wp2_with fail
            go_roundw
            case rel => exact ⟨i + 1, R - 1, by omega, by go_num, by go_num, HR2, HB.out⟩
            case measure => simp [intOf]; omega
        · have hil' : ¬ (i : Int) < s.size := by omega
          have hie : i = T := by omega
          have hR0 : R = 0 := by rw [hie, HN.out] at hR; omega
          subst hR0
          have hsz : (s.size : Int) = (T : Int) := by omega
          clear hR
          go_wp2_with fail
          go_ret
          exact ⟨rfl, HB.out⟩
end Go.Proofs.YtbdffcjganlblaaGreatDoor
