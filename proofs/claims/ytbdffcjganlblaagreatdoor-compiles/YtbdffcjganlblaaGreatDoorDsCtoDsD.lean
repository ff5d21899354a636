/-
  Own work. The document's flow: one unit more.
-/
import Derived.Test.YtbdffcjganlblaaGreatDoorEdCtoDsB
import Derived.Test.YtbdffcjganlblaaGreatDoorEdDtoEdF
import Derived.Deep.DeepCutAuto
namespace Go.Proofs.YtbdffcjganlblaaGreatDoor
open Go.RowKit
set_option linter.unusedVariables false
set_option linter.unusedSimpArgs false

def GiveOut (js : List Jb) (F n P gL gH gU gS cL cH cU fuel k : Nat) (s : FS) (w : World) (e : Ending) (w' : World) : Prop := ∃ b s', giveP js.length n F (fitJ js F) fuel k s = (b, s') ∧ e = .returned (.bool b) ∧ FlM js F n P gL gH gU gS cL cH cU s' w' ∧ Frm (fun x => x = gH ∨ x = gU ∨ x = gS) w w'
/-- What give does. -/
def GiveS (js : List Jb) (F n P gL gH gU gS cL cH cU cS fuel : Nat) : Prop :=
  ∀ (k : Nat) (s : FS) (w : World), k < js.length → FlM js F n P gL gH gU gS cL cH cU s w → Fair js.length n F (fitJ js F) s → unseen s n < fuel →
    Calls Tryz.prog 159 #[.pointer (some ⟨P, 0, none⟩), .int .i64 k, .slice (some ⟨gS, 0, none⟩) n cS] w (GiveOut js F n P gL gH gU gS cL cH cU fuel k s w)

theorem rng_step {j n : Nat} (h : j < n) : List.range' j (n - j) = j :: List.range' (j + 1) (n - (j + 1)) := by
  obtain ⟨m, hm⟩ : ∃ m, n - j = m + 1 := ⟨n - j - 1, by omega⟩
  rw [hm, List.range'_succ, show n - (j + 1) = m by omega]

set_option maxRecDepth 100000 in
set_option maxHeartbeats 16000000 in
theorem give_step (js : List Jb) (F n P gL gH gU gS cL cH cU cS fuel : Nat) (hF : F ≤ 60) (hn : n ≤ 60) (hJ : js.length ≤ 1000) (hsm : ∀ k, k < js.length → (jk js k).rel ≤ 1000 ∧ (jk js k).dl ≤ 1000) (ih : GiveS js F n P gL gH gU gS cL cH cU cS fuel) : GiveS js F n P gL gH gU gS cL cH cU cS (fuel + 1) := by
  intro k s w hk hM hFr hun
  have IH := hide ih
  have HM := hide hM
  have HFr := hide hFr
  have HSm := hide hsm
  have hd1 := hM.d1
  have hd2 := hM.d2
  have hd3 := hM.d3
  obtain ⟨JN, hJN⟩ : ∃ x, x = js.length * n := ⟨_, rfl⟩
  have HJN := hide hJN
  have hJNb : JN ≤ 60000 := by rw [hJN]; exact Nat.mul_le_mul hJ hn
  obtain ⟨q, hq⟩ : ∃ x, x = k * n := ⟨_, rfl⟩
  have HQ := hide hq
  have hqJ : q + n ≤ JN := by
    have h1 : (k + 1) * n ≤ js.length * n := Nat.mul_le_mul_right n hk
    rw [Nat.add_mul, Nat.one_mul] at h1
    omega
  clear ih hM hFr hsm hJN hq
  go_enter Tryz.func159, Tryz.ntmps159
  go_wp2_with fail
  go_loopw [7] (fun jv wr => ∃ (j : Nat) (s1 : FS), j ≤ n ∧ jv = .int .i64 j ∧ FlM js F n P gL gH gU gS cL cH cU s1 wr ∧ Fair js.length n F (fitJ js F) s1 ∧ unseen s1 n < fuel + 1 ∧ giveP js.length n F (fitJ js F) (fuel + 1) k s = frmL (giveP js.length n F (fitJ js F) fuel) js.length F (fitJ js F) k (List.range' j (n - j)) s1 ∧ Frm (fun x => x = gH ∨ x = gU ∨ x = gS) w wr) (fun jv _ => n - (intOf jv).toNat)
  case atStart => exact ⟨0, s, Nat.zero_le _, rfl, HM.out, HFr.out, hun, by rw [Nat.sub_zero, ← List.range_eq_range']; rfl, Frm.refl _ _⟩
  case round =>
    clear HM HFr hun
    obtain ⟨j, s1, hj, rfl, hM1, hF1, hu1, hg1, hf1⟩ := hrel
    obtain ⟨c0, c1, c2, c3, c4⟩ := hM1.cells
    by_cases hlt : j < n
    · have hlt' : (j : Int) < n := by omega
      rw [rng_step hlt, frmL] at hg1
      have CF := hide (rfits_any js F n P gL gH gU gS cL cH cU s1 wr hM1 k j hk hlt hF hn (HSm.out k hk).1 (HSm.out k hk).2)
      have HM1 := hide hM1
      have HF1 := hide hF1
      have HG1 := hide hg1
      have Hf1 := hide hf1
      clear hM1 hF1 hg1 hf1
      go_wp2_with fail
      refine CF.out.mono ?_
      rintro e w2 ⟨rfl, dn, rfl⟩
      have HM2 := hide (HM1.out.same (w' := wr.drewN dn) rfl)
      have Hf2 : Hid (Frm (fun x => x = gH ∨ x = gU ∨ x = gS) w (wr.drewN dn)) := Hf1.out.trans (Frm.sames rfl rfl rfl rfl)
      clear HM1 Hf1 CF c0 c1 c2 c3 c4
      generalize wr.drewN dn = w2 at *
      obtain ⟨c0, c1, c2, c3, c4⟩ := HM2.out.cells
      have c5 := HM2.out.sn.cell hlt
      have c5f := HM2.out.sn.loose
      cases hft : fitJ js F k j with
      | false =>
        have HG2 : Hid (giveP js.length n F (fitJ js F) (fuel + 1) k s = frmL (giveP js.length n F (fitJ js F) fuel) js.length F (fitJ js F) k (List.range' (j + 1) (n - (j + 1))) s1) := by
          unfold Hid
          rw [HG1.out, if_neg (by rw [hft]; simp)]
        clear HG1 hft
        go_wp2_with fail
        go_roundw
        case rel => exact ⟨j + 1, s1, hlt, by go_num, HM2.out, HF1.out, hu1, HG2.out, Hf2.out⟩
        case measure => simp [intOf]; omega
      | true =>
        cases hsn : s1.seen j with
        | true =>
          have HG2 : Hid (giveP js.length n F (fitJ js F) (fuel + 1) k s = frmL (giveP js.length n F (fitJ js F) fuel) js.length F (fitJ js F) k (List.range' (j + 1) (n - (j + 1))) s1) := by
            unfold Hid
            rw [HG1.out, if_neg (by rw [hsn]; simp)]
          rw [hsn] at c5
          clear HG1 hft hsn
          go_wp2_with fail
          go_roundw
          case rel => exact ⟨j + 1, s1, hlt, by go_num, HM2.out, HF1.out, hu1, HG2.out, Hf2.out⟩
          case measure => simp [intOf]; omega
        | false =>
          have HG2 := HG1.out
          rw [if_pos ⟨hft, hsn⟩] at HG2
          have HFt := hide hft
          have HSn := hide hsn
          rw [hsn] at c5
          have HM3 := hide (HM2.out.setS hlt)
          have Hf3 : Hid (Frm (fun x => x = gH ∨ x = gU ∨ x = gS) w (w2.setCell ⟨gS, j, none⟩ (.bool true))) := Hf2.out.setCell (p := ⟨gS, j, none⟩) (.inr (.inr rfl)) _
          have hFj := HF1.out.room j hlt
          by_cases hus : s1.used j < F
          · have hus' : (s1.used j : Int) < F := by omega
            rw [if_pos hus] at HG2
            have HG3 := hide HG2
            clear HG2 HG1 HM2 Hf2 hft hsn hus c0 c1 c2 c3 c4
            go_upto_region 7 with fail
            clear c5 c5f
            generalize w2.setCell ⟨gS, j, none⟩ (.bool true) = w3 at *
            obtain ⟨c0, c1, c2, c3, c4⟩ := HM3.out.cells
            have c6 := HM3.out.u.cell hlt
            go_quiet (fail)
            generalize hw4 : World.drewN w3 _ = w4
            have HM4 : Hid (FlM js F n P gL gH gU gS cL cH cU ⟨s1.has, s1.used, setB s1.seen j⟩ w4) := by rw [← hw4]; exact HM3.out.same rfl
            have Hf4 : Hid (Frm (fun x => x = gH ∨ x = gU ∨ x = gS) w w4) := by rw [← hw4]; exact Hf3.out.trans (Frm.sames rfl rfl rfl rfl)
            clear hw4 HM3 Hf3 c0 c1 c2 c3 c4 c6
            obtain ⟨c0, c1, c2, c3, c4⟩ := HM4.out.cells
            have c6 := HM4.out.u.cell hlt
            have c6f := HM4.out.u.loose
            have HM5 := hide (HM4.out.setU hlt)
            have Hf5 : Hid (Frm (fun x => x = gH ∨ x = gU ∨ x = gS) w (w4.setCell ⟨gU, j, none⟩ (.int .i64 (s1.used j + 1)))) := Hf4.out.setCell (p := ⟨gU, j, none⟩) (.inr (.inl rfl)) _
            clear HM4 Hf4
            go_upto_region 9 with fail
            generalize w4.setCell ⟨gU, j, none⟩ _ = w5 at *
            clear c0 c1 c2 c3 c4 c6 c6f
            obtain ⟨c0, c1, c2, c3, c4⟩ := HM5.out.cells
            have hhas := HM5.out.has hk hlt
            have c7f := HM5.out.h.loose
            have HM6 := hide (HM5.out.setH (v := s1.has k j + 1) hk hlt (fun a i => add2_at s1.has k j a i))
            have hhle := HF1.out.le hk hlt
            rw [← HQ.out] at hhas HM6
            rw [← HJN.out] at c3
            have hkn : (k : Int) * (n : Int) = (q : Int) := by rw [HQ.out, Int.natCast_mul]
            have Hf6 : Hid (Frm (fun x => x = gH ∨ x = gU ∨ x = gS) w (w5.setCell ⟨gH, q + j, none⟩ (.int .i64 ((s1.has k j + 1 : Nat) : Int)))) := Hf5.out.setCell (p := ⟨gH, q + j, none⟩) (.inl rfl) _
            clear HM5 Hf5
            go_region
            all_goals
              go_wp2_with fail
              go_ret
              exact ⟨true, _, HG3.out, rfl, HM6.out.same rfl, Hf6.out.drew⟩
          · have hus' : ¬ (s1.used j : Int) < F := by omega
            rw [if_neg hus] at HG2
            have HG3 := hide HG2
            have HFs : Hid (Fair js.length n F (fitJ js F) ⟨s1.has, s1.used, setB s1.seen j⟩) := fair_seen HF1.out rfl rfl
            have hun : unseen ⟨s1.has, s1.used, setB s1.seen j⟩ n < fuel := by
              have := unseen_set (s := s1) (n := n) hlt hsn s1.has s1.used
              omega
            have hdu := hide (decide_eq_false hus)
            clear HG2 HG1 HM2 Hf2 hft hsn hus c0 c1 c2 c3 c4
            go_upto_region 7 with fail
            clear c5 c5f
            generalize w2.setCell ⟨gS, j, none⟩ (.bool true) = w3 at *
            obtain ⟨c0, c1, c2, c3, c4⟩ := HM3.out.cells
            have c6 := HM3.out.u.cell hlt
            go_quiet (fail)
            simp only [hdu.out]
            generalize hw4 : World.drewN w3 _ = w4
            have HM4 : Hid (FlM js F n P gL gH gU gS cL cH cU ⟨s1.has, s1.used, setB s1.seen j⟩ w4) := by rw [← hw4]; exact HM3.out.same rfl
            have Hf4 : Hid (Frm (fun x => x = gH ∨ x = gU ∨ x = gS) w w4) := by rw [← hw4]; exact Hf3.out.trans (Frm.sames rfl rfl rfl rfl)
            clear hw4 HM3 Hf3 c0 c1 c2 c3 c4 c6 hdu
            have HJ0 : Hid (jobL (giveP js.length n F (fitJ js F) fuel) k j (List.range js.length) ⟨s1.has, s1.used, setB s1.seen j⟩ = jobL (giveP js.length n F (fitJ js F) fuel) k j (List.range' 0 (js.length - 0)) ⟨s1.has, s1.used, setB s1.seen j⟩) := by unfold Hid; rw [Nat.sub_zero, ← List.range_eq_range']
            have hs2 : Hid ((⟨s1.has, s1.used, setB s1.seen j⟩ : FS).seen j = true) := by simp [Hid, setB]
            generalize (⟨s1.has, s1.used, setB s1.seen j⟩ : FS) = s2 at *
            go_wp2_with fail
            go_loopw [9] (fun mv wr => ∃ (m : Nat) (s3 : FS), m ≤ js.length ∧ mv = .int .i64 m ∧ FlM js F n P gL gH gU gS cL cH cU s3 wr ∧ Fair js.length n F (fitJ js F) s3 ∧ unseen s3 n < fuel ∧ s3.seen j = true ∧ jobL (giveP js.length n F (fitJ js F) fuel) k j (List.range js.length) s2 = jobL (giveP js.length n F (fitJ js F) fuel) k j (List.range' m (js.length - m)) s3 ∧ Frm (fun x => x = gH ∨ x = gU ∨ x = gS) w wr) (fun mv _ => js.length - (intOf mv).toNat)
            case atStart => exact ⟨0, s2, Nat.zero_le _, rfl, HM4.out, HFs.out, hun, hs2.out, HJ0.out, Hf4.out⟩
            case round =>
              clear HM4 HFs hun hs2 HJ0 Hf4
              obtain ⟨m, s3, hm, rfl, hM3, hF3, hu3, hs3, hg3, hf3⟩ := hrel
              obtain ⟨c0, c1, c2, c3, c4⟩ := hM3.cells
              by_cases hml : m < js.length
              · have hml' : (m : Int) < js.length := by omega
                rw [rng_step hml, jobL] at hg3
                obtain ⟨r, hr⟩ : ∃ x, x = m * n := ⟨_, rfl⟩
                have HR := hide hr
                have hrJ : r + n ≤ JN := by
                  have h1 : (m + 1) * n ≤ js.length * n := Nat.mul_le_mul_right n hml
                  rw [Nat.add_mul, Nat.one_mul] at h1
                  have := HJN.out
                  omega
                have hmn : (m : Int) * (n : Int) = (r : Int) := by rw [hr, Int.natCast_mul]
                have hhas := hM3.has hml hlt
                rw [← hr] at hhas
                rw [← HJN.out] at c3
                have hhle := hF3.le hml hlt
                have HM3 := hide hM3
                have HF3 := hide hF3
                have HS3 := hide hs3
                have Hf3 := hide hf3
                clear hM3 hF3 hs3 hf3 hr
                by_cases hpos : 0 < s3.has m j
                · have hpos' : (0 : Int) < s3.has m j := by omega
                  rw [if_pos hpos] at hg3
                  have HG4 := hide hg3
                  clear hg3
                  go_wp2_with fail
                  go_quiet (fail)
                  generalize hw4 : World.drewN wr _ = w4
                  have HM4 : Hid (FlM js F n P gL gH gU gS cL cH cU s3 w4) := by rw [← hw4]; exact HM3.out.same rfl
                  have Hf4 : Hid (Frm (fun x => x = gH ∨ x = gU ∨ x = gS) w w4) := by rw [← hw4]; exact Hf3.out.trans (Frm.sames rfl rfl rfl rfl)
                  clear hw4 HM3 Hf3 hhas c0 c1 c2 c3 c4
                  go_wp2_with fail
                  refine (IH.out m s3 w4 hml HM4.out HF3.out hu3).mono ?_
                  rintro e w5 ⟨b, s4, hb4, rfl, hM5, hf5⟩
                  have HM5 := hide hM5
                  have Hf5 := hide (Hf4.out.trans hf5)
                  have SP := giveP_any js.length n F (fitJ js F) fuel m s3 hml HF3.out hu3
                  rw [hb4] at SP
                  have HG5 := HG4.out
                  rw [hb4] at HG5
                  clear HM4 Hf4 hM5 hf5 hb4 HG4
                  cases b with
                  | false =>
                    obtain ⟨T, _⟩ := SP.2 rfl
                    have HG6 : Hid (jobL (giveP js.length n F (fitJ js F) fuel) k j (List.range js.length) s2 = jobL (giveP js.length n F (fitJ js F) fuel) k j (List.range' (m + 1) (js.length - (m + 1))) s4) := HG5
                    have HF4 : Hid (Fair js.length n F (fitJ js F) s4) := fair_seen HF3.out T.has T.used
                    have hu4 : unseen s4 n < fuel := Nat.lt_of_le_of_lt (unseen_mono T.mono n) hu3
                    have HS4 : Hid (s4.seen j = true) := T.mono j HS3.out
                    clear SP T HG5 HF3 HS3
                    go_wp2_with fail
                    go_roundw
                    case rel => exact ⟨m + 1, s4, hml, by go_num, HM5.out, HF4.out, hu4, HS4.out, HG6.out, Hf5.out⟩
                    case measure => simp [intOf]; omega
                  | true =>
                    have G := SP.1 rfl
                    obtain ⟨x, hx⟩ : ∃ x, s4.has m j = x + 1 := ⟨s4.has m j - 1, by
                      have := G.kept j hlt HS3.out m
                      simp only at this
                      omega⟩
                    have HG6 : Hid (giveP js.length n F (fitJ js F) (fuel + 1) k s = (true, ⟨add2 (sub2 s4.has m j) k j, s4.used, s4.seen⟩)) := by
                      unfold Hid
                      rw [HG3.out, HG5]
                    have hxle : x + 1 ≤ 60 := by
                      have := G.fair.le hml hlt
                      simp only at this
                      omega
                    have hyle : sub2 s4.has m j k j ≤ 60 := by
                      have := G.fair.le hk hlt
                      simp only at this
                      rw [sub2_at]
                      split <;> omega
                    have HM6 := hide (HM5.out.setH (v := x) (has' := sub2 s4.has m j) hml hlt (fun a i => by rw [sub2_at, hx]; rfl))
                    have hhas := HM5.out.has hml hlt
                    rw [hx] at hhas
                    obtain ⟨c0, c1, c2, c3, c4⟩ := HM5.out.cells
                    have c7f := HM5.out.h.loose
                    rw [← HR.out] at hhas HM6
                    rw [← HJN.out] at c3
                    have Hf6 : Hid (Frm (fun x => x = gH ∨ x = gU ∨ x = gS) w ((w5.setCell ⟨gH, r + j, none⟩ (.int .i64 x)).drew)) := (Hf5.out.setCell (p := ⟨gH, r + j, none⟩) (.inl rfl) _).drew
                    have HM7 : Hid (FlM js F n P gL gH gU gS cL cH cU ⟨sub2 s4.has m j, s4.used, s4.seen⟩ ((w5.setCell ⟨gH, r + j, none⟩ (.int .i64 x)).drew)) := HM6.out.same rfl
                    clear SP G HG5 HG3 HM5 Hf5 HM6 HF3 HS3 IH
                    have Hhx := hide hx
                    clear hx
                    go_upto_region 17 with fail
                    go_region
                    all_goals
                      go_upto_region 18 with fail
                      generalize (w5.setCell ⟨gH, r + j, none⟩ (.int .i64 x)).drew = w6 at *
                      clear c0 c1 c2 c3 c4 hhas c7f
                      obtain ⟨c0, c1, c2, c3, c4⟩ := HM7.out.cells
                      rw [← HJN.out] at c3
                      have hhas := HM7.out.has hk hlt
                      have c7f := HM7.out.h.loose
                      have HM8 := hide (HM7.out.setH (v := sub2 s4.has m j k j + 1) hk hlt (fun a i => add2_at (sub2 s4.has m j) k j a i))
                      rw [← HQ.out] at hhas HM8
                      have hkn : (k : Int) * (n : Int) = (q : Int) := by rw [HQ.out, Int.natCast_mul]
                      have Hf8 : Hid (Frm (fun x => x = gH ∨ x = gU ∨ x = gS) w (w6.setCell ⟨gH, q + j, none⟩ (.int .i64 ((sub2 s4.has m j k j + 1 : Nat) : Int)))) := Hf6.out.setCell (p := ⟨gH, q + j, none⟩) (.inl rfl) _
                      clear HM7 Hf6
                      simp only at hhas HM8
                      generalize sub2 s4.has m j k j = y at *
                      go_region
                      all_goals
                        go_wp2_with fail
                        go_ret
                        exact ⟨true, _, HG6.out, rfl, HM8.out.same rfl, Hf8.out.drew⟩
                · have hpos' : ¬ (0 : Int) < s3.has m j := by omega
                  rw [if_neg hpos] at hg3
                  have HG4 := hide hg3
                  clear hg3 hpos
                  go_wp2_with fail
                  go_quiet (fail)
                  generalize hw4 : World.drewN wr _ = w4
                  have HM4 : Hid (FlM js F n P gL gH gU gS cL cH cU s3 w4) := by rw [← hw4]; exact HM3.out.same rfl
                  have Hf4 : Hid (Frm (fun x => x = gH ∨ x = gU ∨ x = gS) w w4) := by rw [← hw4]; exact Hf3.out.trans (Frm.sames rfl rfl rfl rfl)
                  clear hw4 HM3 Hf3 hhas c0 c1 c2 c3 c4
                  go_wp2_with fail
                  go_roundw
                  case rel => exact ⟨m + 1, s3, hml, by go_num, HM4.out, HF3.out, hu3, HS3.out, HG4.out, Hf4.out⟩
                  case measure => simp [intOf]; omega
              · have hml' : ¬ (m : Int) < js.length := by omega
                have hme : m = js.length := by omega
                rw [hme, Nat.sub_self] at hg3
                have HG5 : Hid (giveP js.length n F (fitJ js F) (fuel + 1) k s = frmL (giveP js.length n F (fitJ js F) fuel) js.length F (fitJ js F) k (List.range' (j + 1) (n - (j + 1))) s3) := by
                  unfold Hid
                  rw [HG3.out, hg3]
                  rfl
                have HM3 := hide hM3
                have HF3 := hide hF3
                have Hf3 := hide hf3
                clear hM3 hF3 hs3 hf3 hg3 hme
                go_wp2_with fail
                go_roundw
                case rel => exact ⟨j + 1, s3, hlt, by go_num, HM3.out, HF3.out, by omega, HG5.out, Hf3.out⟩
                case measure => simp [intOf]; omega
    · have hlt' : ¬ (j : Int) < n := by omega
      have hje : j = n := by omega
      rw [hje, Nat.sub_self] at hg1
      have HG1 : Hid (giveP js.length n F (fitJ js F) (fuel + 1) k s = (false, s1)) := hg1
      have HM1 := hide hM1
      have Hf1 := hide hf1
      clear hM1 hF1 hg1 hf1 hje
      go_wp2_with fail
      go_ret
      exact ⟨false, s1, HG1.out, rfl, HM1.out, Hf1.out⟩
theorem rgive_any (js : List Jb) (F n P gL gH gU gS cL cH cU cS : Nat) (hF : F ≤ 60) (hn : n ≤ 60) (hJ : js.length ≤ 1000) (hsm : ∀ k, k < js.length → (jk js k).rel ≤ 1000 ∧ (jk js k).dl ≤ 1000) : ∀ fuel, GiveS js F n P gL gH gU gS cL cH cU cS fuel
  | 0 => fun k s w _ _ _ h => by omega
  | fuel + 1 => give_step js F n P gL gH gU gS cL cH cU cS fuel hF hn hJ hsm (rgive_any js F n P gL gH gU gS cL cH cU cS hF hn hJ hsm fuel)
end Go.Proofs.YtbdffcjganlblaaGreatDoor

namespace Go.Proofs.YtbdffcjganlblaaGreatDoor
open Go.RowKit
set_option linter.unusedVariables false
set_option linter.unusedSimpArgs false

/-! ### Unit by unit: pure -/
def fs0 : FS := ⟨fun _ _ => 0, fun _ => 0, fun _ => false⟩
/-- The jobs ahead of k have all that they need, job k has u. -/
structure KpR (J n F : Nat) (fit : Nat → Nat → Bool) (cost : Nat → Nat) (k u : Nat) (s : FS) : Prop where
  fair : Fair J n F fit s
  low : ∀ a, a < k → sumN (fun j => s.has a j) n = cost a
  now : sumN (fun j => s.has k j) n = u
  high : ∀ a, k < a → a < J → sumN (fun j => s.has a j) n = 0
/-- The jobs ahead of k have all that they need, the others nothing. -/
structure KpO (J n F : Nat) (fit : Nat → Nat → Bool) (cost : Nat → Nat) (k : Nat) (s : FS) : Prop where
  fair : Fair J n F fit s
  low : ∀ a, a < k → sumN (fun j => s.has a j) n = cost a
  high : ∀ a, k ≤ a → a < J → sumN (fun j => s.has a j) n = 0
theorem kpR_start {J n F : Nat} {fit : Nat → Nat → Bool} {cost : Nat → Nat} : KpO J n F fit cost 0 fs0 :=
  ⟨⟨fun _ _ _ _ _ => rfl, fun _ _ => sumN_zero _, fun _ _ => Nat.zero_le _⟩, fun a h => by omega, fun _ _ _ => sumN_zero _⟩
section
variable {J n F : Nat} {fit : Nat → Nat → Bool} {cost : Nat → Nat} {k u : Nat} {s t : FS}
theorem KpR.seen (h : KpR J n F fit cost k u s) (z : Nat → Bool) : KpR J n F fit cost k u ⟨s.has, s.used, z⟩ :=
  ⟨fair_seen h.fair rfl rfl, h.low, h.now, h.high⟩
theorem KpO.now (h : KpO J n F fit cost k s) (hk : k < J) : KpR J n F fit cost k 0 s := ⟨h.fair, h.low, h.high k (Nat.le_refl _) hk, fun a h1 h2 => h.high a (by omega) h2⟩
theorem KpR.next (h : KpR J n F fit cost k (cost k) s) : KpO J n F fit cost (k + 1) s :=
  ⟨h.fair, fun a ha => by
    by_cases e : a = k
    · rw [e]; exact h.now
    · exact h.low a (by omega), fun a h1 h2 => h.high a (by omega) h2⟩
theorem KpR.got (h : KpR J n F fit cost k u s) (hk : k < J) (hg : Got J n F fit k s t) : KpR J n F fit cost k (u + 1) t :=
  ⟨hg.fair, fun a ha => by rw [hg.rows a (by omega), h.low a ha, if_neg (by omega)]; rfl, by rw [hg.rows k hk, h.now, if_pos rfl], fun a h1 h2 => by rw [hg.rows a h2, h.high a h1 h2, if_neg (by omega)]⟩
theorem KpR.no (h : KpR J n F fit cost k u s) (hk : k < J) (hu : u < cost k) (hs : ∀ j, s.seen j = false) {fuel : Nat} (hn : n < fuel) (hf : (giveP J n F fit fuel k s).1 = false) : ¬ Flows J n F fit cost := by
  refine give_no hk h.fair hs hn (fun a ha => ?_) (by rw [h.now]; exact hu) hf
  rcases Nat.lt_trichotomy a k with h1 | h1 | h1
  · rw [h.low a h1]; exact Nat.le_refl _
  · rw [h1, h.now]; omega
  · rw [h.high a h1 ha]; exact Nat.zero_le _
theorem KpO.yes (h : KpO J n F fit cost J s) : Flows J n F fit cost :=
  ⟨s.has, h.fair.fits, fun j hj => by rw [h.fair.sums j hj]; exact h.fair.room j hj, h.low⟩
theorem unseen_new (has : Nat → Nat → Nat) (used : Nat → Nat) (m : Nat) : unseen ⟨has, used, fun _ => false⟩ m ≤ m := by
  induction m with
  | zero => exact Nat.le_refl _
  | succ m ih =>
    unfold unseen at ih ⊢
    rw [sumN]
    simp only [Bool.false_eq_true, if_false] at ih ⊢
    omega
end

/-! ### Memory -/
theorem Tryz.infoBool : (Tryz.prog.info? 4).map (fun i => (i.zero, i.size, i.bytes)) = some (some (.bool false), 1, 1) := by kernel_rfl
def falsA (c : Nat) : Array Value := madeCells (Value.bool false).cells c
theorem falsA_at (c j : Nat) (h : j < c) : (falsA c)[j]? = some (.bool false) := by
  simp [falsA, madeCells, h, Value.cells, Nat.mod_one]
theorem make_bools (c : Nat) (hc : c ≤ 1000) (w : World) : (Instr.makeSlice 208 (.int .i64 c) (.int .i64 c)).run Tryz.prog w = .ok (.slice (some ⟨w.heap.size, 0, none⟩) c c) (w.alloc (.cells (falsA c) 4)) := by
  obtain ⟨i0, hi, hz0, hz1, hz2⟩ := info_parts Tryz.infoBool
  have := run_make (P := Tryz.prog) w 208 4 i0 _ Tryz.underlying208 hi hz0 .i64 .i64 c c (by omega) (by omega) (by rw [hz2]; omega) (by omega)
  rw [hz1] at this
  simpa [falsA] using this
theorem make_many (c : Nat) (hc : c ≤ 100000) (w : World) : (Instr.makeSlice 25 (.int .i64 c) (.int .i64 c)).run Tryz.prog w = .ok (.slice (some ⟨w.heap.size, 0, none⟩) c c) (w.alloc (.cells (zerosA c) 3)) := by
  obtain ⟨i0, hi, hz0, hz1, hz2⟩ := info_parts Tryz.infoInt
  have := run_make (P := Tryz.prog) w 25 3 i0 _ Tryz.underlying25 hi hz0 .i64 .i64 c c (by omega) (by omega) (by rw [hz2]; omega) (by omega)
  rw [hz1] at this
  simpa [zerosA] using this
/-- The flow in memory, from unit to unit. -/
structure FlW (js : List Jb) (F n base P gL gH gU cL cH cU : Nat) (s : FS) (w : World) : Prop where
  p : w.heap[P]? = some (.cells #[.slice (some ⟨gL, 0, none⟩) js.length cL, .int .i64 F, .int .i64 n, .slice (some ⟨gH, 0, none⟩) (js.length * n) cH, .slice (some ⟨gU, 0, none⟩) n cU] 206 (0, 0))
  l : RowB w gL js
  hl : gL < w.heap.size
  h : RowV w gH 3 (js.length * n) (fun q => .int .i64 (s.has (q / n) (q % n)))
  u : RowV w gU 3 n (fun j => .int .i64 (s.used j))
  d1 : P ≠ gH ∧ P ≠ gU
  d2 : gL ≠ gH ∧ gL ≠ gU
  d3 : gH ≠ gU
  lo : base ≤ gH ∧ base ≤ gU
section
variable {js : List Jb} {F n base P gL gH gU cL cH cU : Nat} {s : FS} {w w' : World}
theorem FlW.seen (h : FlW js F n base P gL gH gU cL cH cU s w) : FlM js F n P gL gH gU w.heap.size cL cH cU ⟨s.has, s.used, fun _ => false⟩ (w.alloc (.cells (falsA n) 4)) := by
  have ha : ∀ {b : Nat}, b < w.heap.size → (w.alloc (.cells (falsA n) 4)).heap[b]? = w.heap[b]? := fun hb => Below.heap_alloc _ _ _ hb
  have hp := blk_lt h.p
  have hH := h.h.lt
  have hU := h.u.lt
  have hl := h.hl
  exact ⟨by rw [ha hp]; exact h.p, h.l.keep (ha hl), by simp; omega, h.h.keep (ha hH), h.u.keep (ha hU), ⟨_, blk_new _ _ _, fun i hi => falsA_at n i hi⟩, ⟨h.d1.1, h.d1.2, by omega⟩, ⟨h.d2.1, h.d2.2, by omega⟩, ⟨h.d3, by omega, by omega⟩⟩
theorem FlM.drop {gS : Nat} (h : FlM js F n P gL gH gU gS cL cH cU s w) (hlo : base ≤ gH ∧ base ≤ gU) : FlW js F n base P gL gH gU cL cH cU s w :=
  ⟨h.p, h.l, h.hl, h.h, h.u, ⟨h.d1.1, h.d1.2.1⟩, ⟨h.d2.1, h.d2.2.1⟩, h.d3.1, hlo⟩
end
theorem three_new (w : World) (a b c : Array Value) (ta tb tc : TypeId) : (((w.alloc (.cells a ta)).alloc (.cells b tb)).alloc (.cells c tc)).heap[w.heap.size]? = some (.cells a ta (0, 0)) ∧ (((w.alloc (.cells a ta)).alloc (.cells b tb)).alloc (.cells c tc)).heap[w.heap.size + 1]? = some (.cells b tb (0, 0)) ∧ (((w.alloc (.cells a ta)).alloc (.cells b tb)).alloc (.cells c tc)).heap[w.heap.size + 1 + 1]? = some (.cells c tc (0, 0)) := by
  refine ⟨?_, ?_, ?_⟩
  · rw [Below.heap_alloc _ _ _ (by simp; omega), Below.heap_alloc _ _ _ (by simp)]
    exact blk_new _ _ _
  · rw [Below.heap_alloc _ _ _ (by simp)]
    simpa using blk_new (w.alloc (.cells a ta)) b tb
  · simpa using blk_new ((w.alloc (.cells a ta)).alloc (.cells b tb)) c tc
theorem zero_row {w : World} {g m : Nat} {ty : TypeId} (h : w.heap[g]? = some (.cells (zerosA m) ty (0, 0))) : RowV w g ty m (fun _ => .int .i64 ((0 : Nat) : Int)) := ⟨_, h, fun i hi => zerosA_at m i hi⟩

set_option maxRecDepth 100000 in
set_option maxHeartbeats 8000000 in
theorem rKept_any (ts : List Tk) (cyc g cap : Nat) (pa : Option Addr) (pm pc F : Nat) (w : World) (hg : g < w.heap.size) (hr : RowT w g ts) (hn : ts.length ≤ 6) (hts : TsOk ts cyc) (hcy : cycI ts = cyc) (hF : 1 ≤ F) (hdv : cyc % F = 0) (hne : 0 < (jobsL cyc 0 ts).length) :
    Calls Tryz.prog 134 #[.agg #[.slice (some ⟨g, 0, none⟩) ts.length cap, .slice pa pm pc], .int .i64 F] w (BoolPost (Flows (jobsL cyc 0 ts).length (cyc / F) F (fitJ (jobsL cyc 0 ts) F) (costJ (jobsL cyc 0 ts))) w) := by
  have hc1 := hts.c1
  have hc2 := hts.c2
  have hjs := jobs_of hts
  have hj360 := jobs_few hts
  have HPk : Hid (∀ k, k < ts.length → 1 ≤ (tsk ts k).P ∧ (tsk ts k).P ≤ 60) := fun k hk => by
    have h5 := hts.each _ (tsk_mem hk)
    have h6 : (tsk ts k).P ≤ cyc := Nat.le_of_dvd (by omega) (Nat.dvd_of_mod_eq_zero h5.2.1)
    omega
  have hFc : F ≤ cyc := Nat.le_of_dvd (by omega) (Nat.dvd_of_mod_eq_zero hdv)
  have hS := blk_new w #[.slice (some ⟨g, 0, none⟩) ts.length cap, .slice pa pm pc] 53
  have HB0 := hide (below_new w (.cells #[.slice (some ⟨g, 0, none⟩) ts.length cap, .slice pa pm pc] 53))
  have HS := hide hS
  have s0 := blk_cell hS
  have HR := hide hr
  have CJ := hide (fun W (hW : Below w.heap.size w W) => rSetJobs_any ts cyc g cap pa pm pc W (Nat.lt_of_lt_of_le hg hW.size) (hr.below hW hg) hn hts hcy)
  have CC := hide (fun W (hW : Below w.heap.size w W) => rCycle_any ts g cap (.slice pa pm pc) pa pm pc rfl W (Nat.lt_of_lt_of_le hg hW.size) (hr.below hW hg) hn HPk.out)
  rw [hcy] at CC
  have HJs := hide hjs
  have hF0 : ¬ (F : Int) = 0 := by omega
  have hdiv := hide (div_wrap cyc F (by omega))
  have hn60 : cyc / F ≤ 60 := Nat.le_trans (Nat.div_le_self _ _) hc2
  have hn1 : 1 ≤ cyc / F := Nat.div_pos hFc (by omega)
  have HSm : Hid (∀ k, k < (jobsL cyc 0 ts).length → (jk (jobsL cyc 0 ts) k).rel ≤ 1000 ∧ (jk (jobsL cyc 0 ts) k).dl ≤ 1000 ∧ (jk (jobsL cyc 0 ts) k).cost ≤ 1000) := fun k hk => by
    have h1 := hjs.win k hk
    have h2 := hjs.cyc k hk
    omega
  clear hr hts hcy hS hjs hdv
  generalize jobsL cyc 0 ts = js at *
  generalize cyc / F = n at *
  obtain ⟨JN, hJN⟩ : ∃ x, x = js.length * n := ⟨_, rfl⟩
  have HJN := hide hJN
  have hJNb : JN ≤ 60000 := by rw [hJN]; exact Nat.le_trans (Nat.mul_le_mul hj360 hn60) (by omega)
  have hJn : (js.length : Int) * (n : Int) = (JN : Int) := by rw [hJN, Int.natCast_mul]
  clear hJN
  go_enter Tryz.func134, Tryz.ntmps134
  go_wp2_with fail
  generalize w.alloc (.cells #[.slice (some ⟨g, 0, none⟩) ts.length cap, .slice pa pm pc] 53) = w0 at *
  refine (CJ.out w0 HB0.out).mono ?_
  rintro e w1 ⟨la, lc, rfl, hown, hb1⟩
  have HB1 := hide (HB0.out.trans (hb1.mono HB0.out.size))
  have HS1 := hide (blk_keep HS.out hb1)
  have s1 := blk_cell HS1.out
  obtain ⟨gL, lcap, hv, hgL1, hgL2⟩ := own_form hown (by omega)
  injection hv with e1 _ e3
  subst e1 e3
  have HRB := hide (rowB_own hown)
  clear hb1 hown HB0 HS s0 CJ
  go_wp2_with fail
  refine (CC.out w1 HB1.out).mono ?_
  rintro e w2 ⟨rfl, hb2⟩
  have HB2 := hide (HB1.out.trans (hb2.mono HB1.out.size))
  have HRB2 := hide (HRB.out.below hb2 hgL2)
  have hgL3 : gL < w2.heap.size := Nat.lt_of_lt_of_le hgL2 hb2.size
  clear hb2 HB1 HS1 s1 CC HRB
  go_upto_region 3 with fail
  rw [hdiv.out]
  have hmk1 := make_many JN (by omega)
  have hmk2 := make_many n (by omega)
  go_cut [7] (fun pv wc => ∃ P gH gU cH cU, pv = .pointer (some ⟨P, 0, none⟩) ∧ FlW js F n w.heap.size P gL gH gU lc cH cU fs0 wc ∧ Below w.heap.size w wc)
  case first =>
    have HB3 : Hid (∀ a b c : Obj, Below w.heap.size w (((w2.alloc a).alloc b).alloc c).drew) := fun a b c => (((HB2.out.alloc HB2.out.size a).alloc (by simp; have := HB2.out.size; omega) b).alloc (by simp; have := HB2.out.size; omega) c).drew
    have HL3 : Hid (∀ a b c : Obj, RowB (((w2.alloc a).alloc b).alloc c).drew gL js ∧ gL < (((w2.alloc a).alloc b).alloc c).drew.heap.size) := fun a b c => ⟨HRB2.out.keep (by
      show (((w2.alloc a).alloc b).alloc c).heap[gL]? = _
      rw [Below.heap_alloc _ _ _ (by simp; omega), Below.heap_alloc _ _ _ (by simp; omega), Below.heap_alloc _ _ _ hgL3]), by
      show gL < (((w2.alloc a).alloc b).alloc c).heap.size
      simp
      omega⟩
    have hb2 := HB2.out.size
    go_region
    all_goals
      go_wp2_with fail
      go_meet
      case rel =>
        obtain ⟨t1, t2, t3⟩ := three_new w2 _ _ _ _ _ _
        first
        | (refine ⟨_, w2.heap.size, w2.heap.size + 1, _, _, rfl, ⟨by rw [← HJN.out]; exact t3, (HL3.out _ _ _).1, (HL3.out _ _ _).2, by rw [← HJN.out]; exact zero_row t1, zero_row t2, ⟨by omega, by omega⟩, ⟨by omega, by omega⟩, by omega, ⟨by omega, by omega⟩⟩, HB3.out _ _ _⟩; done)
        | (refine ⟨_, w2.heap.size + 1, w2.heap.size, _, _, rfl, ⟨by rw [← HJN.out]; exact t3, (HL3.out _ _ _).1, (HL3.out _ _ _).2, by rw [← HJN.out]; exact zero_row t2, zero_row t1, ⟨by omega, by omega⟩, ⟨by omega, by omega⟩, by omega, ⟨by omega, by omega⟩⟩, HB3.out _ _ _⟩; done)
  case rest =>
    obtain ⟨P, gH, gU, cH, cU, rfl, hW3, hB3⟩ := hcut
    have HW3 := hide hW3
    have HB3 := hide hB3
    clear hW3 hB3 HB2 HRB2 hmk1 hmk2 hgL3
    have HGv := hide (fun gS cS => rgive_any js F n P gL gH gU gS lc cH cU cS (by omega) hn60 (by omega) (fun k hk => ⟨(HSm.out k hk).1, (HSm.out k hk).2.1⟩) (n + 1))
    have HGp := hide (giveP_any js.length n F (fitJ js F) (n + 1))
    have hmk3 := make_bools n (by omega)
    have HK0 : Hid (KpO js.length n F (fitJ js F) (costJ js) 0 fs0) := kpR_start
    go_wp2_with fail
    go_loopw [8] (fun kv wr => ∃ (k : Nat) (s : FS), k ≤ js.length ∧ kv = .int .i64 k ∧ FlW js F n w.heap.size P gL gH gU lc cH cU s wr ∧ KpO js.length n F (fitJ js F) (costJ js) k s ∧ Below w.heap.size w wr) (fun kv _ => js.length - (intOf kv).toNat)
    case atStart => exact ⟨0, fs0, Nat.zero_le _, rfl, HW3.out, HK0.out, HB3.out⟩
    case round =>
      clear HW3 HB3 HK0
      obtain ⟨k, s, hk, rfl, hW, hK, hB⟩ := hrel
      by_cases hlt : k < js.length
      · have hlt' : (k : Int) < js.length := by omega
        have hcst : Hid (costJ js k = (jk js k).cost) := rfl
        have hc1000 := (HSm.out k hlt).2.2
        have HW := hide hW
        have HK := hide (hK.now hlt)
        have HB := hide hB
        clear hW hK hB
        go_wp2_with fail
        go_loopw [9] (fun uv wr => ∃ (u : Nat) (s : FS), u ≤ (jk js k).cost ∧ uv = .int .i64 u ∧ FlW js F n w.heap.size P gL gH gU lc cH cU s wr ∧ KpR js.length n F (fitJ js F) (costJ js) k u s ∧ Below w.heap.size w wr) (fun uv _ => (jk js k).cost - (intOf uv).toNat)
        case atStart => exact ⟨0, s, Nat.zero_le _, rfl, HW.out, HK.out, HB.out⟩
        case round =>
          clear HW HK HB
          obtain ⟨u, s, hu, rfl, hW, hK, hB⟩ := hrel
          obtain ⟨q0, q1, q2, q3, q4⟩ := hW.l k hlt
          have HK := hide hK
          by_cases hul : u < (jk js k).cost
          · have hul' : (u : Int) < (jk js k).cost := by omega
            have hM := hW.seen
            have hG := HGv.out wr.heap.size n k ⟨s.has, s.used, fun _ => false⟩ _ hlt hM (fair_seen hK.fair rfl rfl) (by have := unseen_new s.has s.used n; omega)
            have CG := hide hG
            have hBa := hide (hB.alloc hB.size (.cells (falsA n) 4))
            have hlo := hW.lo
            have hbs := hB.size
            clear hM hG hW hK hB
            go_wp2_with fail
            generalize wr.alloc (.cells (falsA n) 4) = wa at *
            generalize wr.heap.size = gS at *
            refine CG.out.mono ?_
            rintro e w5 ⟨b, s', hb', rfl, hM', hf'⟩
            have SP := HGp.out k ⟨s.has, s.used, fun _ => false⟩ hlt (fair_seen HK.out.fair rfl rfl) (by have := unseen_new s.has s.used n; omega)
            rw [hb'] at SP
            have HW5 := hide (hM'.drop hlo)
            have HB5 : Hid (Below w.heap.size w w5) := hBa.out.trans (hf'.below hBa.out.size (fun x hx hX => by omega))
            clear hM' hf' CG hBa
            cases b with
            | true =>
              have HK5 := hide ((HK.out.seen (fun _ => false)).got hlt (SP.1 rfl))
              clear SP hb' HK
              go_wp2_with fail
              go_roundw
              case rel => exact ⟨u + 1, s', by omega, by go_num, HW5.out, HK5.out, HB5.out⟩
              case measure => simp [intOf]; omega
            | false =>
              have HNo : Hid (¬ Flows js.length n F (fitJ js F) (costJ js)) := (HK.out.seen (fun _ => false)).no hlt (by rw [hcst.out]; exact hul) (fun _ => rfl) (Nat.lt_succ_self n) (by rw [hb'])
              clear SP hb' HK
              go_wp2_with fail
              go_ret
              exact ⟨false, rfl, ⟨fun h => (by cases h), fun h => absurd h HNo.out⟩, HB5.out⟩
          · have hul' : ¬ (u : Int) < (jk js k).cost := by omega
            have hue : u = costJ js k := by rw [hcst.out]; omega
            have HK2 : Hid (KpO js.length n F (fitJ js F) (costJ js) (k + 1) s) := by
              have := HK.out
              rw [hue] at this
              exact this.next
            have HW := hide hW
            have HB := hide hB
            clear hW hK hB HK hue
            go_wp2_with fail
            go_roundw
            case rel => exact ⟨k + 1, s, by omega, by go_num, HW.out, HK2.out, HB.out⟩
            case measure => simp [intOf]; omega
      · have hlt' : ¬ (k : Int) < js.length := by omega
        have hke : k = js.length := by omega
        subst hke
        have HY := hide hK.yes
        have HB := hide hB
        clear hK hB hW
        go_wp2_with fail
        go_ret
        exact ⟨true, rfl, ⟨fun _ => HY.out, fun _ => rfl⟩, HB.out⟩

set_option maxRecDepth 100000 in
set_option maxHeartbeats 4000000 in
theorem rWidest_any (ts : List Tk) (cyc g cap : Nat) (pa : Option Addr) (pm pc : Nat) (w : World) (hg : g < w.heap.size) (hr : RowT w g ts) (hn : ts.length ≤ 6) (hts : TsOk ts cyc) (hcy : cycI ts = cyc) (hne : 0 < (jobsL cyc 0 ts).length) :
    Calls Tryz.prog 96 #[.agg #[.slice (some ⟨g, 0, none⟩) ts.length cap, .slice pa pm pc]] w fun e w' => e = .returned (.int .i64 (wideJ (jobsL cyc 0 ts) [] cyc cyc)) ∧ Below w.heap.size w w' := by
  have hc1 := hts.c1
  have hc2 := hts.c2
  have HPk : Hid (∀ k, k < ts.length → 1 ≤ (tsk ts k).P ∧ (tsk ts k).P ≤ 60) := fun k hk => by
    have h5 := hts.each _ (tsk_mem hk)
    have h6 : (tsk ts k).P ≤ cyc := Nat.le_of_dvd (by omega) (Nat.dvd_of_mod_eq_zero h5.2.1)
    omega
  have hS := blk_new w #[.slice (some ⟨g, 0, none⟩) ts.length cap, .slice pa pm pc] 53
  have HB0 := hide (below_new w (.cells #[.slice (some ⟨g, 0, none⟩) ts.length cap, .slice pa pm pc] 53))
  have HS := hide hS
  have s0 := blk_cell hS
  have CK : Hid (∀ F W, 1 ≤ F → cyc % F = 0 → Below w.heap.size w W → Calls Tryz.prog 134 #[.agg #[.slice (some ⟨g, 0, none⟩) ts.length cap, .slice pa pm pc], .int .i64 (F : Nat)] W fun e w' => e = .returned (.bool (goesJ (jobsL cyc 0 ts) [] cyc F)) ∧ Below W.heap.size W w') := fun F W h1 h2 hW => by
    refine (rKept_any ts cyc g cap pa pm pc F W (Nat.lt_of_lt_of_le hg hW.size) (hr.below hW hg) hn hts hcy h1 h2 hne).mono ?_
    rintro e w' ⟨b, rfl, hb, hbw⟩
    refine ⟨?_, hbw⟩
    have := goes_iff (jobs_of hts) h1 h2
    have hbb : b = goesJ (jobsL cyc 0 ts) [] cyc F := by
      rw [Bool.eq_iff_iff, hb, this]
    rw [hbb]
  have CC := hide (fun W (hW : Below w.heap.size w W) => rCycle_any ts g cap (.slice pa pm pc) pa pm pc rfl W (Nat.lt_of_lt_of_le hg hW.size) (hr.below hW hg) hn HPk.out)
  rw [hcy] at CC
  clear hr hts hcy hS
  generalize jobsL cyc 0 ts = js at *
  go_enter Tryz.func96, Tryz.ntmps96
  go_wp2_with fail
  generalize w.alloc (.cells #[.slice (some ⟨g, 0, none⟩) ts.length cap, .slice pa pm pc] 53) = w0 at *
  refine (CC.out w0 HB0.out).mono ?_
  rintro e w1 ⟨rfl, hb1⟩
  have HB1 := hide (HB0.out.trans (hb1.mono HB0.out.size))
  have HS1 := hide (blk_keep HS.out hb1)
  clear hb1 HB0 HS s0 CC
  go_wp2_with fail
  go_loopw [4] (fun fv wr => ∃ f : Nat, f ≤ cyc ∧ fv = .int .i64 f ∧ wideJ js [] cyc cyc = wideJ js [] cyc f ∧ Below w.heap.size w wr ∧ wr.heap[w.heap.size]? = some (.cells #[.slice (some ⟨g, 0, none⟩) ts.length cap, .slice pa pm pc] 53 (0, 0))) (fun fv _ => (intOf fv).toNat)
  case atStart => exact ⟨cyc, Nat.le_refl _, rfl, rfl, HB1.out, HS1.out⟩
  case round =>
    clear HB1 HS1
    obtain ⟨f, hf, rfl, hw, hB, hS⟩ := hrel
    have HW := hide hw
    have HB := hide hB
    have HS := hide hS
    have s0 := blk_cell hS
    clear hw hB hS
    by_cases hf1 : 1 ≤ f
    · obtain ⟨f', rfl⟩ : ∃ f', f = f' + 1 := ⟨f - 1, by omega⟩
      have hf1' : (1 : Int) ≤ ((f' + 1 : Nat) : Int) := by omega
      have hf2 : ¬ ((f' + 1 : Nat) : Int) = 0 := by omega
      have hmod : (cyc : Int) % ((f' + 1 : Nat) : Int) = ((cyc % (f' + 1) : Nat) : Int) := by rw [Int.natCast_emod]
      have hst : Hid (wideJ js [] cyc (f' + 1) = if cyc % (f' + 1) = 0 ∧ goesJ js [] cyc (f' + 1) = true then f' + 1 else wideJ js [] cyc f') := by unfold Hid; rw [wideJ]
      by_cases hd : cyc % (f' + 1) = 0
      · have hd' : ((cyc : Int) % ((f' : Int) + 1) == 0) = true := by
          have := hmod
          rw [Int.natCast_add] at this
          rw [show ((f' : Int) + 1) = (f' : Int) + ((1 : Nat) : Int) from rfl, this, hd]
          rfl
        have CK1 := hide (CK.out (f' + 1) wr hf1 hd HB.out)
        have Hd := hide hd
        rw [Int.natCast_add] at CK1
        clear hmod hd
        go_wp2_with fail
        refine CK1.out.mono ?_
        rintro e w2 ⟨rfl, hb2⟩
        have HB2 := hide (HB.out.trans (hb2.mono HB.out.size))
        have HS2 := hide (blk_keep HS.out hb2)
        clear hb2 HB HS CK1 s0
        cases hgo : goesJ js [] cyc (f' + 1) with
        | true =>
          have HR : Hid (wideJ js [] cyc cyc = f' + 1) := by unfold Hid; rw [HW.out, hst.out, if_pos ⟨Hd.out, hgo⟩]
          clear hgo
          go_wp2_with fail
          go_ret
          exact ⟨ret_int (by rw [HR.out]; rfl), HB2.out⟩
        | false =>
          have HR : Hid (wideJ js [] cyc cyc = wideJ js [] cyc f') := by unfold Hid; rw [HW.out, hst.out, if_neg (by rw [hgo]; simp)]
          clear hgo
          go_wp2_with fail
          go_roundw
          case rel => exact ⟨f', by omega, by go_num, HR.out, HB2.out, HS2.out⟩
          case measure => simp [intOf]
      · have hd' : ((cyc : Int) % ((f' : Int) + 1) == 0) = false := by
          have := hmod
          rw [Int.natCast_add] at this
          rw [show ((f' : Int) + 1) = (f' : Int) + ((1 : Nat) : Int) from rfl, this, beq_eq_false_iff_ne]
          omega
        have HR : Hid (wideJ js [] cyc cyc = wideJ js [] cyc f') := by unfold Hid; rw [HW.out, hst.out, if_neg (fun h => hd h.1)]
        clear hmod hd
        go_wp2_with fail
        go_roundw
        case rel => exact ⟨f', by omega, by go_num, HR.out, HB.out, HS.out⟩
        case measure => simp [intOf]
    · have hf0 : f = 0 := by omega
      subst hf0
      go_wp2_with fail
      go_ret
      exact ⟨ret_int (by rw [HW.out]; rfl), HB.out⟩
end Go.Proofs.YtbdffcjganlblaaGreatDoor
