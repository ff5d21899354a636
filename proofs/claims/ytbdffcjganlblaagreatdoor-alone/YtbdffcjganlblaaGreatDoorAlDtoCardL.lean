/-
  Own work. The law Alone: its walk.
-/
import Derived.Test.YtbdffcjganlblaaGreatDoorLawOtoAlC
import Derived.Lib.LaidTab
import Derived.MakeChecks
import Derived.Stop.LaidErr
import Derived.Test.YtbdffcjganlblaaGreatDoorTie
import Derived.Test.YtbdffcjganlblaaGreatDoorCards
import Derived.SevenTiedAt
namespace Go.Proofs.YtbdffcjganlblaaGreatDoor
open Go.RowKit
set_option linter.unusedVariables false
set_option linter.unusedSimpArgs false

/-- Run, where all is in order. -/
theorem run_fine (pk : List UInt8) (t : Tb) (hu : UnpOk pk t) (tk : Int) (cs : List Int) (ca : Option Addr) (ccap : Nat) (w : World) (hk : ticksOk tk cs) (hca : CostsIn w ca cs) :
    Calls Tryz.prog 18 #[.string (bs pk), .int .i64 tk, .slice ca cs.length ccap] w fun e w' => e = .returned (.tuple #[.string (bs (prT (flatF 0 t.fs) t.cyc t.fr cs tk.toNat).out), .int .i64 0]) ∧ Below w.heap.size w w' := by
  have hl := hk.2.2.1
  refine (run_out (bs pk) tk cs ca ccap w (by rw [bs_size]; have := hu.1; omega) (by omega) hca.1).mono ?_
  rintro e w' ⟨hb, hcase⟩
  rw [bs_data] at hcase
  rcases hcase with ⟨f, hf, rfl⟩ | ⟨x, ⟨t2, h2, _, rfl⟩, rfl⟩
  · exfalso
    rcases hf with ⟨_, h⟩ | ⟨_, _, h⟩
    · exact h ⟨t, hu⟩
    · exact h hk
  · have := unp_one hu h2
    subst this
    exact ⟨rfl, hb⟩

def moreE (l : List FSl) (nm : UInt8) (k : Nat) : Nat := if nmK l k == nm then 1 else 0
theorem cost_ticks {l : List FSl} {cyc fr : Nat} (G : Goes l cyc fr) (hc : cyc ≤ 60) {A : Int} (hA : ticksOk A []) (e : Nat → Nat) (he : ∀ k, e k ≤ 1) (h40 : cntTo l l.length ≤ 40) : ticksOk A (costL l e (cntTo l l.length)) := by
  refine ⟨hA.1, hA.2.1, by rw [costL_len]; exact h40, fun k hk => ?_⟩
  rw [costL_len] at hk
  rw [costL_get l e hk]
  have := budK_cyc G hk
  have := he k
  omega
theorem moreE_le (l : List FSl) (nm : UInt8) (k : Nat) : moreE l nm k ≤ 1 := by
  unfold moreE
  split <;> omega

set_option maxRecDepth 100000 in
set_option maxHeartbeats 16000000 in
theorem alone_any (b off len cap : Nat) (w : World) (hl : len ≤ cap) (hc : cap ≤ 9223372036854775807) (hb : b < w.heap.size) (ht : T10 w) (hr : ∀ k, k < len → OpAt w b off k) :
    Calls Tryz.prog 9 #[.slice (some ⟨b, off, none⟩) len cap] w fun e w' => e = .returned (.bool true) ∧ Below w.heap.size w w' := by
  obtain ⟨i0, hi, hz0, hz1, hz2⟩ := info_parts Tryz.infoInt
  have Hr := hide hr
  have Ht := hide ht
  clear hr ht
  go_enter Tryz.func9, Tryz.ntmps9
  go_wp2
  go_loopw [3] (fun i wr => ∃ k : Nat, k ≤ len ∧ i = .int .i64 k ∧ Below w.heap.size w wr) (fun i _ => len - (intOf i).toNat)
  case atStart => exact ⟨0, by omega, rfl, Below.refl _ _⟩
  case round =>
    obtain ⟨k, hk, rfl, hbw⟩ := hrel
    have Hb := hide hbw
    have hsz := hbw.size
    have hbw' : b < wr.heap.size := by omega
    have hex : ¬ ((k : Int) < len) ∨ ((k : Int) < len ∧ ¬ ((k : Int) < 1152921504606846976)) ∨ ((k : Int) < len ∧ (k : Int) < 1152921504606846976) := by omega
    rcases hex with hlt' | ⟨hlt', hk60⟩ | ⟨hlt', hk60⟩
    · clear hbw
      go_wp2
      go_ret
      exact ⟨rfl, Hb.out⟩
    · clear hbw
      go_wp2
      go_ret
      exact ⟨rfl, Hb.out⟩
    · obtain ⟨K, A, B, C, s, la, ln, lc, r0, r1, r2, r3, r4, r5, hs⟩ := Hr.out k (by omega)
      have e : ∀ o, wr.cell? ⟨b, o, none⟩ = w.cell? ⟨b, o, none⟩ := fun o => hbw.cell (p := ⟨b, o, none⟩) hb
      rw [← e] at r0 r1 r2 r3 r4 r5
      have HX0 := hide (blk_new wr #[.int .i64 K, .int .i64 A, .int .i64 B, .int .i64 C, .string s, .slice la ln lc] 27)
      have HB0 := hide (hbw.alloc hbw.size (.cells #[.int .i64 K, .int .i64 A, .int .i64 B, .int .i64 C, .string s, .slice la ln lc] 27))
      have HT0 := hide (Ht.out.below HB0.out)
      clear e hbw
      go_wp2_with fail
      generalize wr.alloc (.cells #[.int .i64 K, .int .i64 A, .int .i64 B, .int .i64 C, .string s, .slice la ln lc] 27) = w0 at *
      generalize wr.heap.size = X at *
      refine (write_any s _ hs).mono ?_
      rintro e w1 ⟨hb1, hcase⟩
      have HX1 := hide (blk_keep HX0.out hb1)
      have HB1 := hide (HB0.out.trans (hb1.mono HB0.out.size))
      have HT1 := hide (HT0.out.below hb1)
      have x1 := blk_cell HX1.out
      clear hb1 HX0 HB0 HT0 r0 r1 r2 r3 r4 r5
      rcases hcase with ⟨f, ⟨hf8, hno⟩, rfl⟩ | ⟨x, ⟨t, htb, rfl⟩, rfl⟩
      · rw [hf8]
        have Hno := hide hno
        clear hf8 hno
        go_wp2_with fail
        refine (rReadTable_any s w1 hs HT1.out).mono ?_
        rintro e w2 ⟨hb2, hcase⟩
        rcases hcase with ⟨t, sv, ht, rfl, how⟩ | ⟨_, c, f, a, n, kk, rfl⟩
        · exact absurd ⟨t, ht⟩ Hno.out
        · have hb3 := hb2.alloc hb2.size (.cells #[.int .i64 c, .int .i64 f, .slice a n kk] 39)
          have HX3 := hide (blk_keep HX1.out hb3)
          have HB3 := hide (HB1.out.trans (hb3.mono HB1.out.size))
          have x3 := blk_cell HX3.out
          have x2 := blk_cell (blk_keep HX1.out hb2)
          have HTk := hide (rTicks_any A [] none 0 (w2.alloc (.cells #[.int .i64 c, .int .i64 f, .slice a n kk] 39)) (.inl rfl) (by simp))
          clear hb2 hb3 HX1 HB1 x1 HT1
          go_wp2_with fail
          generalize w2.alloc (.cells #[.int .i64 c, .int .i64 f, .slice a n kk] 39) = w3 at *
          refine HTk.out.mono ?_
          rintro e w4 ⟨bb, rfl, _, hb4⟩
          have HB4 := hide (HB3.out.trans (hb4.mono HB3.out.size))
          clear hb4 HTk HX3 HB3 x3 x2
          go_wp2_with (go_at_call 15; refine (num_any 8 _).mono ?_; rintro e w' ⟨rfl, hw'⟩; replace hw' := hw'.symm; subst hw')
          go_roundw
          case rel => exact ⟨k + 1, by omega, by go_num, HB4.out⟩
          case measure => simp [intOf]; omega
      · have Htb := hide htb
        have hup : Hid (UnpOk (packB t) t) := pack_unp (tab_fine htb)
        clear htb
        generalize packB t = pk at *
        go_wp2_with fail
        refine (rReadTable_any s w1 hs HT1.out).mono ?_
        rintro e w2 ⟨hb2, hcase⟩
        rcases hcase with ⟨t', sv, ht', rfl, how⟩ | ⟨hno, _⟩
        · have := tab_one Htb.out ht'
          subst this
          clear ht'
          obtain ⟨sa, sc, rfl⟩ := own_slice how
          have hb3 := hb2.alloc hb2.size (.cells #[.int .i64 t.cyc, .int .i64 t.fr, .slice sa (flatF 0 t.fs).length sc] 39)
          have HX3 := hide (blk_keep HX1.out hb3)
          have HB3 := hide (HB1.out.trans (hb3.mono HB1.out.size))
          have HD3 := hide (blk_new w2 #[.int .i64 t.cyc, .int .i64 t.fr, .slice sa (flatF 0 t.fs).length sc] 39)
          have HO3 := hide (owns_below how (below_new w2 (.cells #[.int .i64 t.cyc, .int .i64 t.fr, .slice sa (flatF 0 t.fs).length sc] 39)))
          have x3 := blk_cell HX3.out
          have x2 := blk_cell (blk_keep HX1.out hb2)
          have HTk := hide (rTicks_any A [] none 0 (w2.alloc (.cells #[.int .i64 t.cyc, .int .i64 t.fr, .slice sa (flatF 0 t.fs).length sc] 39)) (.inl rfl) (by simp))
          have hnot : ∀ (x : Bool) (w : World), (Op.unary .not (.bool x)).run Tryz.prog w = .ok (.bool (!x)) w := fun _ _ => rfl
          clear hb2 hb3 HX1 HB1 x1 HT1 how
          go_wp2_with fail
          generalize w2.alloc (.cells #[.int .i64 t.cyc, .int .i64 t.fr, .slice sa (flatF 0 t.fs).length sc] 39) = w3 at *
          generalize w2.heap.size = D5 at *
          refine HTk.out.mono ?_
          rintro e w4 ⟨bb, rfl, hbb, hb4⟩
          have HX4 := hide (blk_keep HX3.out hb4)
          have HB4 := hide (HB3.out.trans (hb4.mono HB3.out.size))
          have HD4 := hide (blk_keep HD3.out hb4)
          have HO4 := hide (owns_below HO3.out hb4)
          have d4 := blk_cell HD4.out
          clear hb4 HTk HX3 HB3 HD3 HO3 x3 x2
          cases bb with
          | false =>
            clear hbb HO4
            go_wp2_with (go_at_call 15; refine (num_any 0 _).mono ?_; rintro e w' ⟨rfl, hw'⟩; replace hw' := hw'.symm; subst hw')
            go_roundw
            case rel => exact ⟨k + 1, by omega, by go_num, HB4.out⟩
            case measure => simp [intOf]; omega
          | true =>
            have Hok := hide (hbb.1 rfl)
            clear hbb
            by_cases hl0 : (flatF 0 t.fs).length = 0
            · have hl0' : ¬ (0 : Int) < ((flatF 0 t.fs).length : Int) := by omega
              generalize (flatF 0 t.fs).length = LL at *
              clear HO4
              go_wp2_with (go_at_call 15; refine (num_any 0 _).mono ?_; rintro e w' ⟨rfl, hw'⟩; replace hw' := hw'.symm; subst hw')
              go_roundw
              case rel => exact ⟨k + 1, by omega, by go_num, HB4.out⟩
              case measure => simp [intOf]; omega
            · have hl0' : (0 : Int) < ((flatF 0 t.fs).length : Int) := by omega
              have hS := Htb.out.2.2.1
              obtain ⟨g, cap', hv, hg0, hg⟩ := own_form HO4.out (by omega)
              injection hv with e1 _ e3
              subst e1 e3
              have hll := flat_len hS
              have hcyc := hS.c2
              have Hsm : Hid (∀ i, i < (flatF 0 t.fs).length → (fsk (flatF 0 t.fs) i).small) := fun i hi => (job_small hS i hi).2.2
              have hGo := hide (goes_of_sound hS)
              have Hltr : Hid (∀ i, i < (flatF 0 t.fs).length → (fsk (flatF 0 t.fs) i).2.nm ≠ 33) := fun i hi => by
                have hm : fsk (flatF 0 t.fs) i ∈ flatF 0 t.fs := by rw [← fsk_eq hi]; exact List.getElem_mem _
                obtain ⟨_, _, f, hf, hx⟩ := flatF_mem t.fs 0 _ hm
                exact letter_33 ((pTab_small Htb.out.1 Htb.out.2.1).2 f hf _ hx)
              have hrow := rowF_own HO4.out
              have HR4 := hide hrow
              have HJb := hide (rJobs_any t.cyc t.fr (flatF 0 t.fs) g sc w4 hg hrow (by omega) Hsm.out)
              clear hrow hS hl0
              generalize hLN : (flatF 0 t.fs).length = LN at *
              have HLN := hide hLN
              clear hLN
              go_wp2_with fail
              refine (num_any 0 _).mono ?_
              rintro e w' ⟨rfl, hw'⟩
              replace hw' := hw'.symm
              subst hw'
              go_upto_if 70 with fail
              refine wp_cond_split rfl (fun h => ?yes0) (fun h => ?no0)
              case no0 =>
                exfalso
                (try simp at h) <;> omega
              clear h
              go_wp2_with fail
              refine HJb.out.mono ?_
              rintro e w5 ⟨rfl, hb5⟩
              have hLN := HLN.out
              clear HLN
              subst hLN
              have HX5 := hide (blk_keep HX4.out hb5)
              have HB5 := hide (HB4.out.trans (hb5.mono HB4.out.size))
              have HD5 := hide (blk_keep HD4.out hb5)
              have HR5 := hide (HR4.out.below hb5 hg)
              have hg5 : g < w5.heap.size := Nat.lt_of_lt_of_le hg hb5.size
              clear hb5 HJb HX4 HB4 HD4 HR4 HO4 d4 hg0 hg
              by_cases h40 : cntTo (flatF 0 t.fs) (flatF 0 t.fs).length ≤ 40
              · have h40' : (cntTo (flatF 0 t.fs) (flatF 0 t.fs).length : Int) ≤ 40 := by omega
                obtain ⟨q0, q1, q2, q3⟩ := HR5.out 0 (by omega)
                simp only [Nat.zero_mul, Nat.zero_add] at q1
                have d5 := blk_cell HD5.out
                have HK0 := hide (cost_ticks hGo.out hcyc Hok.out (fun _ => 0) (fun _ => by omega) h40)
                have HK1 := hide (cost_ticks hGo.out hcyc Hok.out (moreE (flatF 0 t.fs) (fsk (flatF 0 t.fs) 0).2.nm) (fun k => moreE_le _ _ k) h40)
                generalize hN : cntTo (flatF 0 t.fs) (flatF 0 t.fs).length = N at *
                have HN := hide hN
                clear hN q0 q2 q3
                generalize hnm : (fsk (flatF 0 t.fs) 0).2.nm = nm0 at *
                have Hnm := hide hnm
                clear hnm
                go_upto_if 74 with fail
                refine wp_cond_split rfl (fun h => ?yes1) (fun h => ?no1)
                case no1 =>
                  exfalso
                  (try simp at h) <;> omega
                clear h
                go_wp2_with fail
                clear q1 d5
                go_loopw [12, 13, 14, 15] (fun fv mv i _ wr => ∃ j : Nat, j ≤ N ∧ i = .int .i64 j ∧ CL2 w5 wr fv (costL (flatF 0 t.fs) (fun _ => 0) j) mv (costL (flatF 0 t.fs) (moreE (flatF 0 t.fs) nm0) j)) (fun _ _ i _ _ => N - (intOf i).toNat)
                case atStart => exact ⟨0, by omega, rfl, CL2.start w5⟩
                case round =>
                  obtain ⟨j, hj, rfl, hC⟩ := hrel
                  by_cases hjl : j < N
                  · have hjl' : (j : Int) < N := by omega
                    have d6 := blk_cell (blk_keep HD5.out hC.b)
                    have HCo := hide (rCosts_any t.cyc t.fr (flatF 0 t.fs) g sc wr (Nat.lt_of_lt_of_le hg5 hC.b.size) (HR5.out.below hC.b hg5) (by omega) Hsm.out j (by rw [HN.out]; exact hjl) nm0)
                    have hbj := budK_cyc hGo.out (k := j) (by rw [HN.out]; exact hjl)
                    have hs0 : Hid (costL (flatF 0 t.fs) (fun _ => 0) (j + 1) = costL (flatF 0 t.fs) (fun _ => 0) j ++ [(budK (flatF 0 t.fs) j : Int)]) := costL_snoc _ _ _
                    have hs1 : Hid (costL (flatF 0 t.fs) (moreE (flatF 0 t.fs) nm0) (j + 1) = costL (flatF 0 t.fs) (moreE (flatF 0 t.fs) nm0) j ++ [((budK (flatF 0 t.fs) j + moreE (flatF 0 t.fs) nm0 j : Nat) : Int)]) := costL_snoc _ _ _
                    have hme : Hid (moreE (flatF 0 t.fs) nm0 j = if nmK (flatF 0 t.fs) j == nm0 then 1 else 0) := rfl
                    have hF := costL_len (flatF 0 t.fs) (fun _ => 0) j
                    have hM := costL_len (flatF 0 t.fs) (moreE (flatF 0 t.fs) nm0) j
                    have HC := hide hC
                    clear hC
                    generalize hFF : costL (flatF 0 t.fs) (fun _ => 0) j = F at *
                    generalize hMM : costL (flatF 0 t.fs) (moreE (flatF 0 t.fs) nm0) j = M at *
                    clear hFF hMM
                    generalize moreE (flatF 0 t.fs) nm0 j = ME at *
                    generalize hBD : budK (flatF 0 t.fs) j = BD at *
                    clear hBD
                    generalize hMB : (nmK (flatF 0 t.fs) j == nm0) = MB at *
                    clear hMB
                    go_wp2_with fail
                    refine HCo.out.mono ?_
                    rintro e w8 ⟨rfl, hb8⟩
                    have HC8 := hide (HC.out.keep hb8)
                    have ow1 := HC8.out.ofl
                    have hsz8 := HC8.out.b.size
                    have HF := hide hF
                    have HM := hide hM
                    rw [hF] at ow1
                    clear hb8 HC HCo d6 hF hM
                    go_wp2_with (at_builtin; refine Go.wpList_append_own_at _ rfl _ _ 25 rfl w5.heap.size 3 i0 _ 1 8 Tryz.underlying25 hi hz0 hz1 hz2 rfl (by decide) _ _ _ rfl (ow1.alloc _) ⟨w8.heap.size, 0, none⟩ 1 1 [.int .i64 BD] rfl rfl ?c1 ?c2 ?c3 ?c4 ?c5 ?_)
                    case c1 => exact cells_new w8 #[_] _ _ rfl
                    case c2 => simp [Value.oneCell']
                    case c3 => unfold maxLen; omega
                    case c4 => omega
                    case c5 => simp; omega
                    intro v1 w9 hown1 hgr1 _ hloc1
                    have HC9 := hide (HC8.out.push (x := BD) hgr1 hown1 (by rw [HF.out]) rfl hloc1)
                    clear hown1 hgr1 hloc1 ow1 HC8
                    have ow2 := HC9.out.omo
                    have hsz9 := HC9.out.b.size
                    rw [HM.out] at ow2
                    go_upto_if 96 with fail
                    cases MB with
                    | true =>
                      refine wp_cond_true rfl ?_
                      have hme2 : Hid (((BD + ME : Nat) : Int) = (BD : Int) + 1) := by unfold Hid; rw [hme.out]; simp
                      go_wp2_with (at_builtin; refine Go.wpList_append_own_at _ rfl _ _ 25 rfl w5.heap.size 3 i0 _ 1 8 Tryz.underlying25 hi hz0 hz1 hz2 rfl (by decide) _ _ _ rfl (ow2.alloc _) ⟨w9.heap.size, 0, none⟩ 1 1 [.int .i64 ((BD : Int) + 1)] rfl rfl ?d1 ?d2 ?d3 ?d4 ?d5 ?_)
                      try (case d1 => exact cells_new w9 #[_] _ _ rfl)
                      case d2 => simp [Value.oneCell']
                      case d3 => unfold maxLen; omega
                      case d4 => omega
                      case d5 => first | omega | (simp; omega)
                      intro v2 wA hown2 hgr2 _ hloc2
                      have HCA := hide (HC9.out.swap.push (x := (BD : Int) + 1) hgr2 hown2 (by rw [HM.out]) rfl hloc2).swap
                      clear hown2 hgr2 hloc2 ow2 HC9
                      go_wp2
                      go_roundw
                      case rel => exact ⟨j + 1, by omega, by go_num, by rw [hs0.out, hs1.out, hme2.out]; exact HCA⟩
                      case measure => simp [intOf]; omega
                    | false =>
                      refine wp_cond_false rfl ?_
                      have hme2 : Hid (((BD + ME : Nat) : Int) = (BD : Int)) := by unfold Hid; rw [hme.out]; simp
                      go_wp2_with (at_builtin; refine Go.wpList_append_own_at _ rfl _ _ 25 rfl w5.heap.size 3 i0 _ 1 8 Tryz.underlying25 hi hz0 hz1 hz2 rfl (by decide) _ _ _ rfl (ow2.alloc _) ⟨w9.heap.size, 0, none⟩ 1 1 [.int .i64 BD] rfl rfl ?e1 ?e2 ?e3 ?e4 ?e5 ?_)
                      case e1 => exact cells_new w9 #[_] _ _ rfl
                      case e2 => simp [Value.oneCell']
                      case e3 => unfold maxLen; omega
                      case e4 => omega
                      case e5 => first | omega | (simp; omega)
                      intro v2 wA hown2 hgr2 _ hloc2
                      have HCA := hide (HC9.out.swap.push (x := (BD : Int)) hgr2 hown2 (by rw [HM.out]) rfl hloc2).swap
                      clear hown2 hgr2 hloc2 ow2 HC9
                      go_wp2
                      go_roundw
                      case rel => exact ⟨j + 1, by omega, by go_num, by rw [hs0.out, hs1.out, hme2.out]; exact HCA⟩
                      case measure => simp [intOf]; omega
                  · have hjl' : ¬ (j : Int) < N := by omega
                    have hje : j = N := by omega
                    rw [hje] at hC
                    obtain ⟨fa, fc, rfl, hfi, _⟩ := hC.one.form
                    obtain ⟨ma, mc, rfl, hmi, _⟩ := hC.swap.one.form
                    have hLB := out_full hGo.out Hltr.out A.toNat
                    have hLN := out_nil hGo.out Hltr.out A.toNat
                    have hLM := out_more hGo.out Hltr.out (moreE (flatF 0 t.fs) nm0) A.toNat
                    have hMK : t.cyc ≤ A.toNat → 33 ∈ (prT (flatF 0 t.fs) t.cyc t.fr (costL (flatF 0 t.fs) (moreE (flatF 0 t.fs) nm0) (cntTo (flatF 0 t.fs) (flatF 0 t.fs).length)) A.toNat).out := fun hu => out_mark hGo.out Hltr.out (moreE (flatF 0 t.fs) nm0) (m := 0) (by omega) (by unfold moreE; rw [nmK_num (by omega), Hnm.out]; simp) hu
                    rw [HN.out] at hLB hLM hMK
                    have hA0 := Hok.out.1
                    have hA4 := Hok.out.2.1
                    have hVl := pr_len hGo.out (by omega) Hsm.out HK1.out.2.2.2 A.toNat
                    have hUl := pr_len hGo.out (by omega) Hsm.out HK0.out.2.2.2 A.toNat
                    have R1 := hide (run_fine pk t hup.out A _ fa fc wr HK0.out hfi)
                    have R2 := hide (fun W (hW : Below wr.heap.size wr W) => run_fine pk t hup.out A _ ma mc W HK1.out (hmi.low hW))
                    have R3 := hide (fun W => run_fine pk t hup.out A [] none 0 W Hok.out ⟨.inl rfl, fun b off e => by cases e⟩)
                    rw [hLB] at R1 hUl
                    rw [hLN.1] at R3
                    have hno33 := hLN.2
                    rw [hLN.1] at hno33
                    have hFl := costL_len (flatF 0 t.fs) (fun _ => 0) N
                    have hMl := costL_len (flatF 0 t.fs) (moreE (flatF 0 t.fs) nm0) N
                    have HXr := hide (blk_keep HX5.out hC.b)
                    have HDr := hide (blk_keep HD5.out hC.b)
                    have HBr := hide (HB5.out.trans (hC.b.mono HB5.out.size))
                    generalize (prT (flatF 0 t.fs) t.cyc t.fr (costL (flatF 0 t.fs) (moreE (flatF 0 t.fs) nm0) N) A.toNat).out = SV at *
                    generalize barL (flatF 0 t.fs) t.cyc t.fr A.toNat = LB at *
                    have hbb : bareL LB = LB := bareL_same hno33
                    have Bu : Hid (∀ W, Calls Tryz.prog 21 #[.string (bs LB)] W fun e w' => e = .returned (.string (bs LB)) ∧ w' = W) := fun W => by
                      have := bare_any (bs LB) W (by rw [bs_size]; omega)
                      rw [bs_data, hbb] at this
                      exact this
                    have Bv : Hid (∀ W, Calls Tryz.prog 21 #[.string (bs SV)] W fun e w' => e = .returned (.string (bs LB)) ∧ w' = W) := fun W => by
                      have := bare_any (bs SV) W (by rw [bs_size]; omega)
                      rw [bs_data, hLM] at this
                      exact this
                    have Ou : Hid (∀ W, Calls Tryz.prog 25 #[.string (bs LB)] W fun e w' => e = .returned (.bool false) ∧ w' = W) := fun W => by
                      have := over_any (bs LB) W (by rw [bs_size]; omega)
                      rw [bs_data, decide_eq_false hno33] at this
                      exact this
                    have Ov : Hid (t.cyc ≤ A.toNat → ∀ W, Calls Tryz.prog 25 #[.string (bs SV)] W fun e w' => e = .returned (.bool true) ∧ w' = W) := fun hu W => by
                      have := over_any (bs SV) W (by rw [bs_size]; omega)
                      rw [bs_data, decide_eq_true (hMK hu)] at this
                      exact this
                    have xr := blk_cell HXr.out
                    clear hC hfi hmi hLB hLN hLM hMK hno33 hVl hUl hbb hje HX5 HD5 HB5 HR5 HK0 HK1 Hsm hGo Hltr
                    generalize (costL (flatF 0 t.fs) (fun _ => 0) N).length = FL at *
                    generalize (costL (flatF 0 t.fs) (moreE (flatF 0 t.fs) nm0) N).length = ML at *
                    clear hFl hMl
                    generalize bs LB = SU at *
                    generalize bs SV = SW at *
                    have hss : (SU.toList == SU.toList) = true := by simp
                    go_wp2_with fail
                    refine R1.out.mono ?_
                    rintro e w6 ⟨rfl, hb6⟩
                    have HX6 := hide (blk_keep HXr.out hb6)
                    have HD6 := hide (blk_keep HDr.out hb6)
                    have HB6 := hide (HBr.out.trans (hb6.mono HBr.out.size))
                    have R2' := hide (R2.out w6 hb6)
                    have x6 := blk_cell HX6.out
                    clear hb6 R1 R2 HXr HDr HBr xr
                    go_wp2_with fail
                    refine R2'.out.mono ?_
                    rintro e w7 ⟨rfl, hb7⟩
                    have HX7 := hide (blk_keep HX6.out hb7)
                    have HD7 := hide (blk_keep HD6.out hb7)
                    have HB7 := hide (HB6.out.trans (hb7.mono HB6.out.size))
                    have x7 := blk_cell HX7.out
                    clear hb7 R2' HX6 HD6 HB6 x6
                    go_wp2_with fail
                    refine (R3.out w7).mono ?_
                    rintro e w8 ⟨rfl, hb8⟩
                    have HX8 := hide (blk_keep HX7.out hb8)
                    have HD8 := hide (blk_keep HD7.out hb8)
                    have HB8 := hide (HB7.out.trans (hb8.mono HB7.out.size))
                    have x8 := blk_cell HX8.out
                    have d8 := blk_cell HD8.out
                    clear hb8 R3 HX7 HD7 HB7 x7
                    go_wp2_with fail
                    refine (Bu.out w8).mono ?_
                    rintro e w' ⟨rfl, hw'⟩
                    replace hw' := hw'.symm
                    subst hw'
                    go_wp2_with fail
                    refine (Bv.out w8).mono ?_
                    rintro e w' ⟨rfl, hw'⟩
                    replace hw' := hw'.symm
                    subst hw'
                    go_wp2_with fail
                    refine (Ou.out w8).mono ?_
                    rintro e w' ⟨rfl, hw'⟩
                    replace hw' := hw'.symm
                    subst hw'
                    clear Bu Bv Ou
                    go_upto_if 157 with (go_at_call 15; refine (num_any 0 _).mono ?_; rintro e w' ⟨rfl, hw'⟩; replace hw' := hw'.symm; subst hw')
                    refine wp_cond_split rfl (fun h => ?yes157) (fun h => ?no157)
                    case yes157 =>
                      exfalso
                      simp at h
                    clear h
                    by_cases hAc : (t.cyc : Int) ≤ A
                    · have Ov2 := hide (Ov.out (by omega))
                      clear Ov
                      go_upto_if 162 with fail
                      refine wp_cond_split rfl (fun h => ?yes162) (fun h => ?no162)
                      case no162 =>
                        exfalso
                        (try simp at h) <;> omega
                      clear h
                      go_wp2_with fail
                      refine (Ov2.out w8).mono ?_
                      rintro e w' ⟨rfl, hw'⟩
                      replace hw' := hw'.symm
                      subst hw'
                      go_upto_if 166 with fail
                      refine wp_cond_false rfl ?_
                      go_wp2_with fail
                      refine (num_any 0 _).mono ?_
                      rintro e w' ⟨rfl, hw'⟩
                      replace hw' := hw'.symm
                      subst hw'
                      go_wp2_with fail
                      go_roundw
                      case rel => exact ⟨k + 1, by omega, by go_num, HB8.out⟩
                      case measure => simp [intOf]; omega
                    · clear Ov
                      go_upto_if 162 with fail
                      refine wp_cond_split rfl (fun h => ?yes163) (fun h => ?no163)
                      case yes163 =>
                        exfalso
                        (try simp at h) <;> omega
                      clear h
                      go_wp2_with fail
                      refine (num_any 0 _).mono ?_
                      rintro e w' ⟨rfl, hw'⟩
                      replace hw' := hw'.symm
                      subst hw'
                      go_wp2_with fail
                      go_roundw
                      case rel => exact ⟨k + 1, by omega, by go_num, HB8.out⟩
                      case measure => simp [intOf]; omega
              · have h40' : ¬ (cntTo (flatF 0 t.fs) (flatF 0 t.fs).length : Int) ≤ 40 := by omega
                generalize cntTo (flatF 0 t.fs) (flatF 0 t.fs).length = N at *
                go_upto_if 74 with fail
                refine wp_cond_split rfl (fun h => ?yes2) (fun h => ?no2)
                case yes2 =>
                  exfalso
                  (try simp at h) <;> omega
                clear h
                go_wp2_with (go_at_call 15; refine (num_any 0 _).mono ?_; rintro e w' ⟨rfl, hw'⟩; replace hw' := hw'.symm; subst hw')
                go_roundw
                case rel => exact ⟨k + 1, by omega, by go_num, HB5.out⟩
                case measure => simp [intOf]; omega
        · exact absurd ⟨t, Htb.out⟩ hno
end Go.Proofs.YtbdffcjganlblaaGreatDoor

namespace Go.Proofs.YtbdffcjganlblaaGreatDoor
open Go.ChangeShapes Go.WideShapes Go.ChangeAt Go.RowKit Go.Deep
set_option linter.unusedVariables false
set_option linter.unusedSimpArgs false

set_option maxRecDepth 100000 in
set_option maxHeartbeats 1000000 in
theorem alone_empty (a : Option Addr) (cap : Nat) (w : World) :
    Calls Tryz.prog 9 #[.slice a 0 cap] w fun e w' => e = .returned (.bool true) ∧ Below w.heap.size w w' := by
  go_enter Tryz.func9, Tryz.ntmps9
  go_wp2
  go_loopw [3] (fun i wr => i = .int .i64 0 ∧ Below w.heap.size w wr) (fun _ _ => 0)
  case atStart => exact ⟨rfl, Below.refl _ _⟩
  case round =>
    obtain ⟨rfl, hbw⟩ := hrel
    have Hb := hide hbw
    clear hbw
    go_wp2
    go_ret
    exact ⟨rfl, Hb.out⟩

/-- The door's own heap meets the row's condition. -/
theorem door_met_alone (os : Os) (args : Array Value) : laidMetH Tryz.prog Rows.aloneRow.laid ((World.doorLaid Tryz.prog 4000 os).forCall (fun _ _ => 0) ⟨#[], args, []⟩).memory :=
  laidMetH_of_parts3 (fuel := 8) (laidMet_of_run' 8 (by kernel_rfl) (by kernel_rfl)) (by kernel_rfl) (by kernel_rfl)

theorem tab_of_alone {W : World} (h : laidMetH Tryz.prog Rows.aloneRow.laid W) : T10 W := by
  rw [MakeChecks.laidMetH_plain _ _ _ (by kernel_rfl)] at h
  have h3 : laidMet Tryz.prog (("internal/strconv.uint64pow10", Lib.tabData .u64 Lib.pow10Tab) :: [("strconv.ErrRange", Rows.laid_strconv_ErrRange), ("strconv.ErrSyntax", Rows.laid_strconv_ErrSyntax)]) W := h.tail.tail
  exact Lib.tabIs_of_head (g := 0) (by kernel_rfl) (by kernel_rfl) Tryz.underlying238 Tryz.underlying212 (by kernel_rfl) (by kernel_rfl) h3

set_option maxRecDepth 100000 in
theorem lifted_alone (os : Os) (started : os.Started) (H : Type) (enc : TypeId × Value → H) :
    ReturnsInHanded {} Tryz.checked os 9 .any (fun w args => (Rows.aloneSpec.pre enc Tryz.prog Tryz.f9 [] false w args ∧ laidMetH Tryz.prog Rows.aloneRow.laid w) ∧ sizedMet enc Tryz.prog Tryz.f9 (OpenSpec.ofChange Rows.aloneSpec) false w args)
      (Rows.aloneSpec.post enc Tryz.prog Tryz.f9 false true false false) := by
  refine returnsInHanded_of_change_and (C := Tryz.checked) (X := fun w _ => laidMetH Tryz.prog Rows.aloneRow.laid w) (fun _ _ _ hh h => h.of_heap hh) own started (by kernel_rfl) Tryz.func9
    (ChangeSpec.witness_shaped (enc := enc) (C := Tryz.checked) (os := os) (X := fun w _ => laidMetH Tryz.prog Rows.aloneRow.laid w) false (World.doorLaid Tryz.prog 4000 os) #[.slice none 0 0] 8 rfl (World.shaped_of_RefB (by kernel_rfl) (by kernel_rfl)) (by kernel_rfl) (by kernel_rfl) (by kernel_rfl) (door_met_alone os _)) ?_
  intro W base args ds gs before hval0 hW _ _ hL _
  have hval : ∀ (j : Nat) t v, Tryz.f9.params[j]? = some t → args[j]? = some v → Value.okWide Tryz.prog W .any base t v := hval0
  have hW' := hW
  obtain ⟨p, q, hA0, hV, rfl, hfz, hnd⟩ := hW
  have hA : DataW.TrodAll enc Tryz.prog W 0 (fun _ => true) true Tryz.f9.params.toList args.toList ds p := hA0
  rw [Tryz.params9] at hA hval
  obtain ⟨v0, d0, rfl, rfl, h0⟩ := trodAll_one hA
  obtain ⟨rfl, rfl⟩ := trodVars_none hV
  have h0k := h0
  obtain ⟨fuel, hf⟩ := h0
  have hT := tab_of_alone hL
  clear hA0 hval0 hL
  simp only [List.append_nil] at hW'
  have hlt : ∀ x ∈ p, x.block < W.heap.size := fun x hx => by simpa using hW'.lt x hx
  obtain ⟨a0, len, cap, rfl⟩ := okWide_slice Tryz.underlying22 (hval 0 22 v0 rfl rfl)
  have walk : Calls Tryz.prog 9 #[.slice a0 len cap] W fun e w' => e = .returned (.bool true) ∧ Below W.heap.size W w' := by
    rcases open_slice Tryz.underlying22 hf with ⟨hcs, _⟩ | ⟨a, len', cap', m, n, D, Pl, hcs, _, hl, hm, hmm, _, hel⟩
    · simp [Value.cells] at hcs
      obtain ⟨rfl, rfl, rfl⟩ := hcs
      exact alone_empty none 0 W
    · simp [Value.cells] at hcs
      obtain ⟨rfl, rfl, rfl⟩ := hcs
      simp only [if_true] at hmm
      subst hmm
      by_cases h0 : len = 0
      · subst h0
        exact alone_empty _ _ W
      · obtain ⟨b, off, spot⟩ := a
        rw [cellsOp] at hel
        obtain ⟨cs0, hc0, _⟩ := hel 0 (by omega)
        obtain ⟨_, hlen0, hcell0⟩ := World.cells?_some hc0
        have c0raw := hcell0 0 (by omega)
        rw [List.getElem?_eq_getElem (by omega)] at c0raw
        have hspot : spot = none := by simpa [Addr.add] using World.cell?_spot c0raw
        subst hspot
        have hb : b < W.heap.size := by
          have h1 : ((⟨b, off, none⟩ : Addr).add (0 * 6)).add 0 = ⟨b, off, none⟩ := by simp [Addr.add]
          rw [h1] at c0raw
          exact lt_of_cell c0raw rfl
        refine alone_any b off len _ W hl (by simpa [maxLen] using hm) hb hT ?_
        intro k hk
        obtain ⟨cs, hc, ht⟩ := hel k (by omega)
        exact opAt_of hc ht
  refine walk.mono fun e W' ⟨he, hb⟩ => ?_
  subst he
  exact ⟨_, rfl, ⟨_, _, _, [], _, [], hW', trodAll_mk1 (shut_bool Tryz.underlying4 true), trodAll_mk1 (Below.trod laidOut (by kernel_rfl) (of_decide_eq_true (by kernel_rfl)) h0k hb hlt), rfl, hb.frame _, fun h => by cases h⟩⟩

theorem alone_holds : Rows.AloneSaid :=
  OpenClaim.holds_of_wide 9 Tryz.f9 rfl rfl rfl rfl rfl rfl rfl ⟨rfl, rfl, rfl, rfl, rfl⟩ rfl rfl rfl rfl rfl (by kernel_rfl) Tryz.func9 (by kernel_rfl)
    (of_decide_eq_true (by kernel_rfl)) (by unfold Func.isWrapper; first | (rw [if_pos (by decide +kernel)]; kernel_rfl) | (rw [if_neg (by decide +kernel)]; exact ⟨rfl, rfl⟩))
    (fun os started H enc _ => lifted_alone os started H enc)
end Go.Proofs.YtbdffcjganlblaaGreatDoor

namespace Go.Proofs.YtbdffcjganlblaaGreatDoor
open Go
set_option linter.unusedVariables false
set_option linter.unusedSimpArgs false

theorem alone_card : Rows.AloneCardSaid :=
  Claim7.holds_tied_plain_at .later [] [.data, .data, .data, .sentinel, .sentinel] true (true, "f8202f4384898f234408c0db4087acf334feb7b99cd7a1d9d489d3e84b640a0b") true
    alone_holds (fun _ h => by cases h) (by kernel_rfl) (fun _ h => by cases h) alone_row_tie rfl ⟨rfl, rfl⟩ (by kernel_rfl) rfl
    (fun f fn hf hfn => by
      obtain rfl : f = 9 := Option.some.inj ((show Tryz.prog.funcNamed Rows.aloneRow.func = some 9 by kernel_rfl).symm.trans hf) |>.symm
      obtain rfl : fn = Tryz.f9 := (Option.some.inj (Tryz.func9.symm.trans hfn)).symm
      exact ⟨by kernel_rfl, fun j t ht => by
        rw [Tryz.params9] at ht
        have hm : t ∈ [22] := by simpa using Array.mem_of_getElem? ht
        have hall : ([22].all fun u => !Tryz.prog.wantsStandIn u) = true := by kernel_rfl
        exact (show Tryz.prog.wantsStandIn t = false by simpa using List.all_eq_true.1 hall t hm)⟩)
    (by kernel_rfl)
#print axioms alone_card
end Go.Proofs.YtbdffcjganlblaaGreatDoor
