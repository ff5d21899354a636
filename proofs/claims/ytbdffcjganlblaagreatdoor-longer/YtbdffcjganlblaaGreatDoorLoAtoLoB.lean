/-
  Own work. The law Longer: its walk.
-/
import Derived.Test.YtbdffcjganlblaaGreatDoorLawRtoPrF
import Derived.MakeChecks
import Derived.Stop.LaidErr
import Derived.SizedLaws
namespace Go.Proofs.YtbdffcjganlblaaGreatDoor
open Go.RowKit
set_option linter.unusedVariables false
set_option linter.unusedSimpArgs false

/-- Two runs of one table: the longer one begins with the shorter one. -/
theorem longer_out {t : Tb} (h : ChkOk t) {A B : Int} {cs : List Int} (hA : ticksOk A cs) (hB : ticksOk B cs) (hAB : A ≤ B) :
    ∃ SA SB : List UInt8, (prT (flatF 0 t.fs) t.cyc t.fr cs A.toNat).out = SA ∧ (prT (flatF 0 t.fs) t.cyc t.fr cs B.toNat).out = SB ∧ SA.length ≤ SB.length ∧ SB.take SA.length = SA ∧ ((bareL SA).length : Int) = A ∧ SB.length ≤ 100000 := by
  have hG := goes_of_sound h.1
  have hn : ∀ i, i < (flatF 0 t.fs).length → (fsk (flatF 0 t.fs) i).2.nm ≠ 33 := fun i hi => by
    have hm : fsk (flatF 0 t.fs) i ∈ flatF 0 t.fs := by rw [← fsk_eq hi]; exact List.getElem_mem _
    obtain ⟨_, _, f, hf, hx⟩ := flatF_mem t.fs 0 _ hm
    exact letter_33 (h.2 f hf _ hx)
  obtain ⟨r, hr⟩ := pr_longer (flatF 0 t.fs) t.cyc t.fr cs A.toNat (B.toNat - A.toNat)
  have e : A.toNat + (B.toNat - A.toNat) = B.toNat := by omega
  rw [e] at hr
  have hl := pr_len hG (by have := flat_len h.1; omega) (fun i hi => (job_small h.1 i hi).2.2) hB.2.2.2 B.toNat
  have hb := (pr_ticks (cyc := t.cyc) (fr := t.fr) hn cs A.toNat).2
  have hB4 := hB.2.1
  refine ⟨_, _, rfl, rfl, ?_, ?_, ?_, ?_⟩
  · rw [hr, List.length_append]; omega
  · rw [hr]; simp
  · rw [hb]
    have := hA.1
    omega
  · omega

set_option maxRecDepth 100000 in
set_option maxHeartbeats 8000000 in
theorem longer_any (b off len cap : Nat) (w : World) (hl : len ≤ cap) (hc : cap ≤ 9223372036854775807) (hb : b < w.heap.size) (hr : ∀ k, k < len → OpL w b off k) :
    Calls Tryz.prog 8 #[.slice (some ⟨b, off, none⟩) len cap] w fun e w' => e = .returned (.bool true) ∧ Below w.heap.size w w' := by
  have Hr := hide hr
  clear hr
  go_enter Tryz.func8, Tryz.ntmps8
  go_wp2
  go_loopw [3] (fun i wr => ∃ k : Nat, k ≤ len ∧ i = .int .i64 k ∧ Below w.heap.size w wr) (fun i _ => len - (intOf i).toNat)
  case atStart => exact ⟨0, by omega, rfl, Below.refl _ _⟩
  case round =>
    obtain ⟨k, hk, rfl, hbw⟩ := hrel
    have Hb := hide hbw
    have hsz := hbw.size
    have hbw' : b < wr.heap.size := by omega
    have hex : ¬ ((k : Int) < len) ∨ ((k : Int) < len ∧ ¬ ((k : Int) < 1152921504606846976)) ∨ ((k : Int) < len ∧ (k : Int) < 1152921504606846976) := by omega
    rcases hex with hlt' | ⟨hlt', hk60⟩ | ⟨hlt', hk60⟩
    · clear hbw
      go_wp2_with fail
      refine (alive_any wr).mono ?_
      rintro e w1 ⟨rfl, hb1⟩
      have HB1 := hide (Hb.out.trans (hb1.mono Hb.out.size))
      clear hb1
      go_wp2
      go_ret
      exact ⟨rfl, HB1.out⟩
    · clear hbw
      go_wp2_with fail
      refine (alive_any wr).mono ?_
      rintro e w1 ⟨rfl, hb1⟩
      have HB1 := hide (Hb.out.trans (hb1.mono Hb.out.size))
      clear hb1
      go_wp2
      go_ret
      exact ⟨rfl, HB1.out⟩
    · obtain ⟨K, A, B, C, s, la, lc, cs, r0, r1, r2, r3, r4, r5, hs, hca, hcl⟩ := Hr.out k (by omega)
      have e : ∀ o, wr.cell? ⟨b, o, none⟩ = w.cell? ⟨b, o, none⟩ := fun o => hbw.cell (p := ⟨b, o, none⟩) hb
      rw [← e] at r0 r1 r2 r3 r4 r5
      have HX0 := hide (blk_new wr #[.int .i64 K, .int .i64 A, .int .i64 B, .int .i64 C, .string s, .slice la cs.length lc] 27)
      have HB0 := hide (hbw.alloc hbw.size (.cells #[.int .i64 K, .int .i64 A, .int .i64 B, .int .i64 C, .string s, .slice la cs.length lc] 27))
      have Hca := hide hca
      clear e hbw hca
      go_wp2_with fail
      generalize wr.alloc (.cells #[.int .i64 K, .int .i64 A, .int .i64 B, .int .i64 C, .string s, .slice la cs.length lc] 27) = w0 at *
      generalize wr.heap.size = X at *
      refine (write_any s _ hs).mono ?_
      rintro e w1 ⟨hb1, hcase⟩
      have HX1 := hide (blk_keep HX0.out hb1)
      have HB1 := hide (HB0.out.trans (hb1.mono HB0.out.size))
      have x1 := blk_cell HX1.out
      have CT1 := hide (rTicks_any A cs la lc w1 (Hca.out.below HB1.out) (by omega))
      have hnot : ∀ (x : Bool) (w : World), (Op.unary .not (.bool x)).run Tryz.prog w = .ok (.bool (!x)) w := fun _ _ => rfl
      clear hb1 HX0 HB0 r0 r1 r2 r3 r4 r5
      rcases hcase with ⟨f, ⟨hf8, hno⟩, rfl⟩ | ⟨x, ⟨t, htb, rfl⟩, rfl⟩
      · rw [hf8]
        clear hf8 hno
        go_wp2_with fail
        refine CT1.out.mono ?_
        rintro e w2 ⟨p, rfl, _, hb2⟩
        have HX2 := hide (blk_keep HX1.out hb2)
        have HB2 := hide (HB1.out.trans (hb2.mono HB1.out.size))
        have x2 := blk_cell HX2.out
        have CT2 := hide (rTicks_any B cs la lc w2 (Hca.out.below HB2.out) (by omega))
        clear hb2 HX1 HB1 x1 CT1
        go_wp2_with fail
        refine CT2.out.mono ?_
        rintro e w3 ⟨q, rfl, _, hb3⟩
        have HB3 := hide (HB2.out.trans (hb3.mono HB2.out.size))
        clear hb3 HX2 HB2 x2 CT2
        go_wp2_with (go_at_call 15; refine (num_any 8 _).mono ?_; rintro e w' ⟨rfl, hw'⟩; replace hw' := hw'.symm; subst hw')
        go_roundw
        case rel => exact ⟨k + 1, by omega, by go_num, HB3.out⟩
        case measure => simp [intOf]; omega
      · have hch := tab_fine htb
        have hup : Hid (UnpOk (packB t) t) := pack_unp hch
        have hne := bs_ne (x := packB t) (by have := pack_len t; omega)
        have Hch := hide hch
        have HRg := hide (fun (T : Int) (W : World) (hk : ticksOk T cs) (hW : CostsAt W la cs) => run_good (packB t) t hup.out T cs la lc W hk hW)
        clear htb hch hup
        generalize bs (packB t) = PK at *
        go_wp2_with fail
        refine CT1.out.mono ?_
        rintro e w2 ⟨p, rfl, hp, hb2⟩
        have HX2 := hide (blk_keep HX1.out hb2)
        have HB2 := hide (HB1.out.trans (hb2.mono HB1.out.size))
        have x2 := blk_cell HX2.out
        have CT2 := hide (rTicks_any B cs la lc w2 (Hca.out.below HB2.out) (by omega))
        clear hb2 HX1 HB1 x1 CT1
        go_wp2_with fail
        refine CT2.out.mono ?_
        rintro e w3 ⟨q, rfl, hq, hb3⟩
        have HX3 := hide (blk_keep HX2.out hb3)
        have HB3 := hide (HB2.out.trans (hb3.mono HB2.out.size))
        have x3 := blk_cell HX3.out
        clear hb3 HX2 HB2 x2 CT2
        cases p with
        | false =>
          clear hp hq HRg
          go_wp2_with (go_at_call 15; refine (num_any 0 _).mono ?_; rintro e w' ⟨rfl, hw'⟩; replace hw' := hw'.symm; subst hw')
          go_roundw
          case rel => exact ⟨k + 1, by omega, by go_num, HB3.out⟩
          case measure => simp [intOf]; omega
        | true =>
          cases q with
          | false =>
            clear hp hq HRg
            go_wp2_with (go_at_call 15; refine (num_any 0 _).mono ?_; rintro e w' ⟨rfl, hw'⟩; replace hw' := hw'.symm; subst hw')
            go_roundw
            case rel => exact ⟨k + 1, by omega, by go_num, HB3.out⟩
            case measure => simp [intOf]; omega
          | true =>
            have hkA := hp.1 rfl
            have hkB := hq.1 rfl
            by_cases hAB : A ≤ B
            · obtain ⟨SA, SB, eA, eB, l1, l2, l3, l4⟩ := longer_out Hch.out hkA hkB hAB
              have R1 := hide (HRg.out A w3 hkA (Hca.out.below HB3.out))
              have R2 := hide (fun W hW => HRg.out B W hkB hW)
              rw [eA] at R1
              rw [eB] at R2
              have hx : (bs SB).extract 0 (bs SA).size = bs SA := by rw [bs_ext, bs_size, l2]
              have hle : decide (((bs SB).size : Int) < ((bs SA).size : Int)) = false := by rw [bs_size, bs_size, decide_eq_false_iff_not]; omega
              have hle2 : (bs SA).size ≤ (bs SB).size := by rw [bs_size, bs_size]; exact l1
              have hmx : (bs SB).size ≤ 100000 := by rw [bs_size]; exact l4
              have CB : Hid (∀ W, Calls Tryz.prog 21 #[.string (bs SA)] W fun e w' => e = .returned (.string (bs (bareL SA))) ∧ w' = W) := fun W => by
                have := bare_any (bs SA) W (by omega)
                rw [bs_data] at this
                exact this
              have hba : (((bs (bareL SA)).size : Int) != A) = false := by rw [bs_size, l3]; simp
              clear eA eB l1 l2 l3 l4 hp hq HRg
              generalize bs (bareL SA) = SX at *
              generalize bs SA = SSA at *
              generalize bs SB = SSB at *
              have hss : (SSA.toList == SSA.toList) = true := by simp
              go_wp2_with (go_at_call 15; refine (num_any 0 _).mono ?_; rintro e w' ⟨rfl, hw'⟩; replace hw' := hw'.symm; subst hw')
              refine R1.out.mono ?_
              rintro e w4 ⟨rfl, hb4⟩
              have HX4 := hide (blk_keep HX3.out hb4)
              have HB4 := hide (HB3.out.trans (hb4.mono HB3.out.size))
              have x4 := blk_cell HX4.out
              have R3 := hide (R2.out w4 (Hca.out.below HB4.out))
              clear hb4 HX3 HB3 x3 R1 R2
              go_wp2_with fail
              refine R3.out.mono ?_
              rintro e w5 ⟨rfl, hb5⟩
              have HX5 := hide (blk_keep HX4.out hb5)
              have HB5 := hide (HB4.out.trans (hb5.mono HB4.out.size))
              have x5 := blk_cell HX5.out
              clear hb5 HX4 HB4 x4 R3
              go_wp2_with fail
              go_quiet (first | (go_at_call 15; go_must (exact Calls.quiet_of_same (num_any 0 _))) | (go_at_call 21; go_must (exact Calls.quiet_of_same (CB.out _))))
              generalize hw6 : World.drewN w5 _ = w6
              have HB6 : Hid (Below w.heap.size w w6) := by rw [← hw6]; exact below_drewN HB5.out _
              clear hw6 HX5 HB5 x5 CB
              go_upto_if 107 with fail
              refine wp_cond_split rfl (fun h => ?yes107) (fun h => ?no107)
              case yes107 =>
                exfalso
                (try simp at h) <;> omega
              clear h
              go_upto_if 113 with (go_at_call 15; refine (num_any 0 _).mono ?_; rintro e w' ⟨rfl, hw'⟩; replace hw' := hw'.symm; subst hw')
              refine wp_cond_split rfl (fun h => ?yes113) (fun h => ?no113)
              case yes113 =>
                exfalso
                simp at h
              clear h
              go_wp2_with fail
              go_roundw
              case rel => exact ⟨k + 1, by omega, by go_num, HB6.out⟩
              case measure => simp [intOf]; omega
            · have hAB' : ¬ A ≤ B := hAB
              clear hp hq HRg hAB
              go_upto_if 58 with (go_at_call 15; refine (num_any 0 _).mono ?_; rintro e w' ⟨rfl, hw'⟩; replace hw' := hw'.symm; subst hw')
              refine wp_cond_split rfl (fun h => ?yes58) (fun h => ?no58)
              case yes58 =>
                exfalso
                (try simp at h) <;> omega
              clear h
              go_wp2_with (go_at_call 15; refine (num_any 0 _).mono ?_; rintro e w' ⟨rfl, hw'⟩; replace hw' := hw'.symm; subst hw')
              go_roundw
              case rel => exact ⟨k + 1, by omega, by go_num, HB3.out⟩
              case measure => simp [intOf]; omega
set_option maxRecDepth 100000 in
set_option maxHeartbeats 1000000 in
theorem longer_empty (a : Option Addr) (cap : Nat) (w : World) :
    Calls Tryz.prog 8 #[.slice a 0 cap] w fun e w' => e = .returned (.bool true) ∧ Below w.heap.size w w' := by
  go_enter Tryz.func8, Tryz.ntmps8
  go_wp2
  go_loopw [3] (fun i wr => i = .int .i64 0 ∧ Below w.heap.size w wr) (fun _ _ => 0)
  case atStart => exact ⟨rfl, Below.refl _ _⟩
  case round =>
    obtain ⟨rfl, hbw⟩ := hrel
    have Hb := hide hbw
    clear hbw
    go_wp2_with fail
    refine (alive_any wr).mono ?_
    rintro e w1 ⟨rfl, hb1⟩
    have HB1 := hide (Hb.out.trans (hb1.mono Hb.out.size))
    clear hb1
    go_wp2
    go_ret
    exact ⟨rfl, HB1.out⟩
end Go.Proofs.YtbdffcjganlblaaGreatDoor

namespace Go.Proofs.YtbdffcjganlblaaGreatDoor
open Go.ChangeShapes Go.WideShapes Go.ChangeAt Go.RowKit Go.Deep
set_option linter.unusedVariables false
set_option linter.unusedSimpArgs false

/-- The door's own heap meets the row's condition. -/
theorem door_met_longer (os : Os) (args : Array Value) : laidMetH Tryz.prog Rows.longerRow.laid ((World.doorLaid Tryz.prog 4000 os).forCall (fun _ _ => 0) ⟨#[], args, []⟩).memory :=
  laidMetH_of_parts3 (fuel := 8) (laidMet_of_run' 8 (by kernel_rfl) (by kernel_rfl)) (by kernel_rfl) (by kernel_rfl)

set_option maxRecDepth 100000 in
theorem lifted_longer (os : Os) (started : os.Started) (H : Type) (enc : TypeId × Value → H) :
    ReturnsInHanded {} Tryz.checked os 8 .any (fun w args => (Rows.longerSpec.pre enc Tryz.prog Tryz.f8 [] false w args ∧ laidMetH Tryz.prog Rows.longerRow.laid w) ∧ sizedMet enc Tryz.prog Tryz.f8 (OpenSpec.ofChange Rows.longerSpec) false w args)
      (Rows.longerSpec.post enc Tryz.prog Tryz.f8 false true false false) := by
  refine returnsInHanded_of_change_and (C := Tryz.checked) (X := fun w _ => laidMetH Tryz.prog Rows.longerRow.laid w) (fun _ _ _ hh h => h.of_heap hh) own started (by kernel_rfl) Tryz.func8
    (ChangeSpec.witness_shaped (enc := enc) (C := Tryz.checked) (os := os) (X := fun w _ => laidMetH Tryz.prog Rows.longerRow.laid w) false (World.doorLaid Tryz.prog 4000 os) #[.slice none 0 0] 8 rfl (World.shaped_of_RefB (by kernel_rfl) (by kernel_rfl)) (by kernel_rfl) (by kernel_rfl) (by kernel_rfl) (door_met_longer os _)) ?_
  intro W base args ds gs before hval0 hW _ hsz hL _
  have hval : ∀ (j : Nat) t v, Tryz.f8.params[j]? = some t → args[j]? = some v → Value.okWide Tryz.prog W .any base t v := hval0
  have hW' := hW
  obtain ⟨p, q, hA0, hV, rfl, hfz, hnd⟩ := hW
  have hA : DataW.TrodAll enc Tryz.prog W 0 (fun _ => true) true Tryz.f8.params.toList args.toList ds p := hA0
  rw [Tryz.params8] at hA hval
  obtain ⟨v0, d0, rfl, rfl, h0⟩ := trodAll_one hA
  obtain ⟨rfl, rfl⟩ := trodVars_none hV
  have h0k := h0
  obtain ⟨fuel, hf⟩ := h0
  clear hA0 hval0 hL
  simp only [List.append_nil] at hW'
  have hlt : ∀ x ∈ p, x.block < W.heap.size := fun x hx => by simpa using hW'.lt x hx
  obtain ⟨a0, len, cap, rfl⟩ := okWide_slice Tryz.underlying22 (hval 0 22 v0 rfl rfl)
  have walk : Calls Tryz.prog 8 #[.slice a0 len cap] W fun e w' => e = .returned (.bool true) ∧ Below W.heap.size W w' := by
    rcases open_slice Tryz.underlying22 hf with ⟨hcs, _⟩ | ⟨a, len', cap', m, n, D, Pl, hcs, _, hl, hm, hmm, hdd, hel⟩
    · simp [Value.cells] at hcs
      obtain ⟨rfl, rfl, rfl⟩ := hcs
      exact longer_empty none 0 W
    · simp [Value.cells] at hcs
      obtain ⟨rfl, rfl, rfl⟩ := hcs
      simp only [if_true] at hmm
      subst hmm
      by_cases h0 : len = 0
      · subst h0
        exact longer_empty _ _ W
      · obtain ⟨b, off, spot⟩ := a
        rw [cellsOp] at hel
        obtain ⟨cs0, hc0, _⟩ := hel 0 (by omega)
        obtain ⟨_, hlen0, hcell0⟩ := World.cells?_some hc0
        have c0raw := hcell0 0 (by omega)
        rw [List.getElem?_eq_getElem (by omega)] at c0raw
        have hspot : spot = none := by simpa [Addr.add] using World.cell?_spot c0raw
        subst hspot
        have hb : b < W.heap.size := by
          have h1 : ((⟨b, off, none⟩ : Addr).add (0 * 6)).add 0 = ⟨b, off, none⟩ := by simp [Addr.add]
          rw [h1] at c0raw
          exact lt_of_cell c0raw rfl
        refine longer_any b off len _ W hl (by simpa [maxLen] using hm) hb ?_
        intro k hk
        obtain ⟨cs, hc, ht⟩ := hel k (by omega)
        refine opL_of hc ht (fun n hn => ?_)
        obtain ⟨sp, hd0⟩ : ∃ sp, d0 = .slice ((List.range len).map D) sp := ⟨_, congrArg Prod.fst hdd⟩
        have hm2 : n ∈ DataW.weights Tryz.prog 22 d0 := by
          rw [hd0]
          simp only [DataW.weights, Tryz.underlying22]
          exact List.mem_cons_of_mem _ (List.mem_append_left _ (weights_all (List.mem_map.2 ⟨k, List.mem_range.2 hk, rfl⟩) hn))
        simpa using List.all_eq_true.1 hsz n (DataW.weights_mem_each (j := 0) (t := 22) (d := d0) rfl rfl n hm2)
  refine walk.mono fun e W' ⟨he, hb⟩ => ?_
  subst he
  exact ⟨_, rfl, ⟨_, _, _, [], _, [], hW', trodAll_mk1 (shut_bool Tryz.underlying4 true), trodAll_mk1 (Below.trod laidOut (by kernel_rfl) (of_decide_eq_true (by kernel_rfl)) h0k hb hlt), rfl, hb.frame _, fun h => by cases h⟩⟩

theorem longer_holds : Rows.LongerSaid :=
  OpenClaim.holds_of_wide 8 Tryz.f8 rfl rfl rfl rfl rfl rfl rfl ⟨rfl, rfl, rfl, rfl, rfl⟩ rfl rfl rfl rfl rfl (by kernel_rfl) Tryz.func8 (by kernel_rfl)
    (of_decide_eq_true (by kernel_rfl)) (by unfold Func.isWrapper; first | (rw [if_pos (by decide +kernel)]; kernel_rfl) | (rw [if_neg (by decide +kernel)]; exact ⟨rfl, rfl⟩))
    (fun os started H enc _ => lifted_longer os started H enc)
end Go.Proofs.YtbdffcjganlblaaGreatDoor
