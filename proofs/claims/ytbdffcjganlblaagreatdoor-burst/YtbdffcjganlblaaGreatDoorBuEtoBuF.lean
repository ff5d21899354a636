/-
  Own work. The law Burst: its walk.
-/
import Derived.Test.YtbdffcjganlblaaGreatDoorLawRtoBuD
import Derived.MakeChecks
import Derived.Stop.LaidErr
import Derived.SizedLaws
namespace Go.Proofs.YtbdffcjganlblaaGreatDoor
open Go.RowKit
set_option linter.unusedVariables false
set_option linter.unusedSimpArgs false

/-- What comes of a packed table by turned bits is none. -/
theorem burst_none {pk d : List UInt8} {t : Tb} (h : UnpOk pk t) (hl : d.length = pk.length) {p : Nat} (hg : ∀ j, j < d.length → GoodB pk p j (d.getD j 0).toNat) (hne : d ≠ pk) : ¬ ∃ t', UnpOk d t' := by
  rintro ⟨t', h'⟩
  obtain ⟨_, b1, e1, _⟩ := h
  obtain ⟨_, b2, e2, _⟩ := h'
  refine hne (burst_no e2 e1 hl p (fun i hi ho => ?_))
  rw [bitsL_get d i hi, bitsL_get pk i (by omega)]
  have := hg (i / 8) (by omega) (i % 8) (by omega) (by omega)
  rw [this]
theorem bs_eqb (a b : List UInt8) : ((bs a).toList == (bs b).toList) = decide (a = b) := by
  rw [ByteArray.toList_eq, ByteArray.toList_eq, bs_data, bs_data]
  by_cases h : a = b
  · simp [h]
  · rw [decide_eq_false h]
    simpa using h

set_option maxRecDepth 100000 in
set_option maxHeartbeats 8000000 in
theorem burst_any (b off len cap : Nat) (w : World) (hl : len ≤ cap) (hc : cap ≤ 9223372036854775807) (hb : b < w.heap.size) (hr : ∀ k, k < len → OpL w b off k) :
    Calls Tryz.prog 6 #[.slice (some ⟨b, off, none⟩) len cap] w fun e w' => e = .returned (.bool true) ∧ Below w.heap.size w w' := by
  have Hr := hide hr
  clear hr
  go_enter Tryz.func6, Tryz.ntmps6
  go_wp2
  go_loopw [3] (fun i wr => ∃ k : Nat, k ≤ len ∧ i = .int .i64 k ∧ Below w.heap.size w wr) (fun i _ => len - (intOf i).toNat)
  case atStart => exact ⟨0, by omega, rfl, Below.refl _ _⟩
  case round =>
    obtain ⟨k, hk, rfl, hbw⟩ := hrel
    have Hb := hide hbw
    have hsz := hbw.size
    have hbw' : b < wr.heap.size := by omega
    have hex : ¬ ((k : Int) < len) ∨ ((k : Int) < len ∧ ¬ ((k : Int) < 1152921504606846976)) ∨ ((k : Int) < len ∧ (k : Int) < 1152921504606846976) := by omega
    rcases hex with hlt' | ⟨hlt', hk60⟩ | ⟨hlt', hk60⟩
    · clear hbw
      go_wp2_with fail
      refine (alive_any wr).mono ?_
      rintro e w1 ⟨rfl, hb1⟩
      have HB1 := hide (Hb.out.trans (hb1.mono Hb.out.size))
      clear hb1
      go_wp2
      go_ret
      exact ⟨rfl, HB1.out⟩
    · clear hbw
      go_wp2_with fail
      refine (alive_any wr).mono ?_
      rintro e w1 ⟨rfl, hb1⟩
      have HB1 := hide (Hb.out.trans (hb1.mono Hb.out.size))
      clear hb1
      go_wp2
      go_ret
      exact ⟨rfl, HB1.out⟩
    · obtain ⟨K, A, B, C, s, la, lc, cs, r0, r1, r2, r3, r4, r5, hs, hca, hcl⟩ := Hr.out k (by omega)
      have e : ∀ o, wr.cell? ⟨b, o, none⟩ = w.cell? ⟨b, o, none⟩ := fun o => hbw.cell (p := ⟨b, o, none⟩) hb
      rw [← e] at r0 r1 r2 r3 r4 r5
      have HX0 := hide (blk_new wr #[.int .i64 K, .int .i64 A, .int .i64 B, .int .i64 C, .string s, .slice la cs.length lc] 27)
      have HB0 := hide (hbw.alloc hbw.size (.cells #[.int .i64 K, .int .i64 A, .int .i64 B, .int .i64 C, .string s, .slice la cs.length lc] 27))
      clear e hbw hca
      go_wp2_with fail
      generalize wr.alloc (.cells #[.int .i64 K, .int .i64 A, .int .i64 B, .int .i64 C, .string s, .slice la cs.length lc] 27) = w0 at *
      generalize wr.heap.size = X at *
      refine (write_any s _ hs).mono ?_
      rintro e w1 ⟨hb1, hcase⟩
      have HX1 := hide (blk_keep HX0.out hb1)
      have HB1 := hide (HB0.out.trans (hb1.mono HB0.out.size))
      have x1 := blk_cell HX1.out
      have hnot : ∀ (x : Bool) (w : World), (Op.unary .not (.bool x)).run Tryz.prog w = .ok (.bool (!x)) w := fun _ _ => rfl
      clear hb1 HX0 HB0 r0 r1 r2 r3 r4 r5
      rcases hcase with ⟨f, ⟨hf8, hno⟩, rfl⟩ | ⟨x, ⟨t, htb, rfl⟩, rfl⟩
      · rw [hf8]
        clear hf8 hno
        go_wp2_with (go_at_call 15; refine (num_any 8 _).mono ?_; rintro e w' ⟨rfl, hw'⟩; replace hw' := hw'.symm; subst hw')
        go_roundw
        case rel => exact ⟨k + 1, by omega, by go_num, HB1.out⟩
        case measure => simp [intOf]; omega
      · have hch := tab_fine htb
        have hup : Hid (UnpOk (packB t) t) := pack_unp hch
        have hne := bs_ne (x := packB t) (by have := pack_len t; omega)
        have hle := hup.out.1
        have hsz1 : (bs (packB t)).size = (packB t).length := bs_size _
        have Hs1 := hide hsz1
        have hsz2 : (bs (packB t)).size ≤ 246 := by omega
        clear htb hch hsz1
        by_cases hA : 0 ≤ A ∧ A < 8 * ((bs (packB t)).size : Int) + 32
        · obtain ⟨hA0, hA1⟩ := hA
          obtain ⟨p, rfl⟩ : ∃ p : Nat, A = p := ⟨A.toNat, by omega⟩
          have CF := hide (flipped_any (packB t) p B w1 (by omega) (by omega))
          generalize hpk : packB t = pk at *
          clear hpk
          go_upto_if 48 with (go_at_call 15; refine (num_any 0 _).mono ?_; rintro e w' ⟨rfl, hw'⟩; replace hw' := hw'.symm; subst hw')
          refine wp_cond_split rfl (fun h => ?yes48) (fun h => ?no48)
          case no48 =>
            exfalso
            (try simp at h) <;> omega
          clear h
          go_wp2_with fail
          refine CF.out.mono ?_
          rintro e w2 ⟨⟨d, rfl, hdl, hdg⟩, hb2⟩
          have HB2 := hide (HB1.out.trans (hb2.mono HB1.out.size))
          have hds : (bs d).size ≤ 9223372036854775807 := by rw [bs_size]; omega
          have HN : Hid (d ≠ pk → ¬ ∃ t', UnpOk d t') := fun hne => burst_none hup.out hdl hdg hne
          have CR := hide (read_any (bs d) w2 hds)
          have CU := hide (fun W => run_out (bs d) 1 [] none 0 W hds (by simp) (.inl rfl))
          rw [bs_data] at CR CU
          have heq := bs_eqb d pk
          clear hb2 hdl hdg CF x1 HX1 HB1
          go_wp2_with fail
          refine CR.out.mono ?_
          rintro e w3 ⟨hb3, hcase⟩
          have HB3 := hide (HB2.out.trans (hb3.mono HB2.out.size))
          obtain ⟨y, n, rfl, hy⟩ : ∃ (y : ByteArray) (n : Nat), e = .returned (.tuple #[.string y, .int .i64 n]) ∧ (d ≠ pk → y = ⟨#[]⟩ ∧ n = 8) := by
            rcases hcase with ⟨f, ⟨hf, _⟩, rfl⟩ | ⟨x, ⟨t', ht', rfl⟩, rfl⟩
            · exact ⟨_, f.1, rfl, fun _ => ⟨rfl, hf⟩⟩
            · exact ⟨_, 0, rfl, fun hne => absurd ⟨t', ht'⟩ (HN.out hne)⟩
          have Hy := hide hy
          clear hb3 hcase hy HB2 CR
          go_wp2_with fail
          refine (CU.out w3).mono ?_
          rintro e w4 ⟨hb4, hcase⟩
          have HB4 := hide (HB3.out.trans (hb4.mono HB3.out.size))
          obtain ⟨z, m, rfl, hz⟩ : ∃ (z : ByteArray) (m : Nat), e = .returned (.tuple #[.string z, .int .i64 m]) ∧ (d ≠ pk → z = ⟨#[]⟩ ∧ m = 8) := by
            rcases hcase with ⟨f, hf, rfl⟩ | ⟨x, ⟨t', ht', _⟩, rfl⟩
            · refine ⟨_, f.1, rfl, fun hne => ⟨rfl, ?_⟩⟩
              rcases hf with ⟨h1, _⟩ | ⟨_, h1, _⟩
              · exact h1
              · exact absurd h1 (HN.out hne)
            · exact ⟨_, 0, rfl, fun hne => absurd ⟨t', ht'⟩ (HN.out hne)⟩
          have Hz := hide hz
          clear hb4 hcase hz HB3 CU
          by_cases hdp : d = pk
          · rw [decide_eq_true hdp] at heq
            clear hdp Hy Hz HN
            go_wp2_with (go_at_call 15; refine (num_any 0 _).mono ?_; rintro e w' ⟨rfl, hw'⟩; replace hw' := hw'.symm; subst hw')
            go_roundw
            case rel => exact ⟨k + 1, by omega, by go_num, HB4.out⟩
            case measure => simp [intOf]; omega
          · rw [decide_eq_false hdp] at heq
            obtain ⟨rfl, rfl⟩ := Hy.out hdp
            obtain ⟨rfl, rfl⟩ := Hz.out hdp
            clear hdp Hy Hz HN
            go_upto_region 12 with (go_at_call 15; refine (num_any 8 _).mono ?_; rintro e w' ⟨rfl, hw'⟩; replace hw' := hw'.symm; subst hw')
            go_wp2_with (go_at_call 15; refine (num_any 0 _).mono ?_; rintro e w' ⟨rfl, hw'⟩; replace hw' := hw'.symm; subst hw')
            go_roundw
            case rel => exact ⟨k + 1, by omega, by go_num, HB4.out⟩
            case measure => simp [intOf]; omega
        · clear Hs1 hup
          generalize bs (packB t) = PK at *
          by_cases hA0 : 0 ≤ A
          · have hA1 : ¬ A < 8 * (PK.size : Int) + 32 := fun h => hA ⟨hA0, h⟩
            clear hA
            go_upto_if 48 with (go_at_call 15; refine (num_any 0 _).mono ?_; rintro e w' ⟨rfl, hw'⟩; replace hw' := hw'.symm; subst hw')
            refine wp_cond_split rfl (fun h => ?yesA) (fun h => ?noA)
            case yesA =>
              exfalso
              (try simp at h) <;> omega
            clear h
            go_wp2_with (go_at_call 15; refine (num_any 0 _).mono ?_; rintro e w' ⟨rfl, hw'⟩; replace hw' := hw'.symm; subst hw')
            go_roundw
            case rel => exact ⟨k + 1, by omega, by go_num, HB1.out⟩
            case measure => simp [intOf]; omega
          · have hA0' : decide (0 ≤ A) = false := by simpa using hA0
            have hA2 : A < 0 := by omega
            clear hA hA0
            go_upto_if 48 with (go_at_call 15; refine (num_any 0 _).mono ?_; rintro e w' ⟨rfl, hw'⟩; replace hw' := hw'.symm; subst hw')
            refine wp_cond_split rfl (fun h => ?yesB) (fun h => ?noB)
            case yesB =>
              exfalso
              (try simp at h) <;> omega
            clear h
            go_wp2_with (go_at_call 15; refine (num_any 0 _).mono ?_; rintro e w' ⟨rfl, hw'⟩; replace hw' := hw'.symm; subst hw')
            go_roundw
            case rel => exact ⟨k + 1, by omega, by go_num, HB1.out⟩
            case measure => simp [intOf]; omega
set_option maxRecDepth 100000 in
set_option maxHeartbeats 1000000 in
theorem burst_empty (a : Option Addr) (cap : Nat) (w : World) :
    Calls Tryz.prog 6 #[.slice a 0 cap] w fun e w' => e = .returned (.bool true) ∧ Below w.heap.size w w' := by
  go_enter Tryz.func6, Tryz.ntmps6
  go_wp2
  go_loopw [3] (fun i wr => i = .int .i64 0 ∧ Below w.heap.size w wr) (fun _ _ => 0)
  case atStart => exact ⟨rfl, Below.refl _ _⟩
  case round =>
    obtain ⟨rfl, hbw⟩ := hrel
    have Hb := hide hbw
    clear hbw
    go_wp2_with fail
    refine (alive_any wr).mono ?_
    rintro e w1 ⟨rfl, hb1⟩
    have HB1 := hide (Hb.out.trans (hb1.mono Hb.out.size))
    clear hb1
    go_wp2
    go_ret
    exact ⟨rfl, HB1.out⟩
end Go.Proofs.YtbdffcjganlblaaGreatDoor

namespace Go.Proofs.YtbdffcjganlblaaGreatDoor
open Go.ChangeShapes Go.WideShapes Go.ChangeAt Go.RowKit Go.Deep
set_option linter.unusedVariables false
set_option linter.unusedSimpArgs false

/-- The door's own heap meets the row's condition. -/
theorem door_met_burst (os : Os) (args : Array Value) : laidMetH Tryz.prog Rows.burstRow.laid ((World.doorLaid Tryz.prog 4000 os).forCall (fun _ _ => 0) ⟨#[], args, []⟩).memory :=
  laidMetH_of_parts3 (fuel := 8) (laidMet_of_run' 8 (by kernel_rfl) (by kernel_rfl)) (by kernel_rfl) (by kernel_rfl)

set_option maxRecDepth 100000 in
theorem lifted_burst (os : Os) (started : os.Started) (H : Type) (enc : TypeId × Value → H) :
    ReturnsInHanded {} Tryz.checked os 6 .any (fun w args => (Rows.burstSpec.pre enc Tryz.prog Tryz.f6 [] false w args ∧ laidMetH Tryz.prog Rows.burstRow.laid w) ∧ sizedMet enc Tryz.prog Tryz.f6 (OpenSpec.ofChange Rows.burstSpec) false w args)
      (Rows.burstSpec.post enc Tryz.prog Tryz.f6 false true false false) := by
  refine returnsInHanded_of_change_and (C := Tryz.checked) (X := fun w _ => laidMetH Tryz.prog Rows.burstRow.laid w) (fun _ _ _ hh h => h.of_heap hh) own started (by kernel_rfl) Tryz.func6
    (ChangeSpec.witness_shaped (enc := enc) (C := Tryz.checked) (os := os) (X := fun w _ => laidMetH Tryz.prog Rows.burstRow.laid w) false (World.doorLaid Tryz.prog 4000 os) #[.slice none 0 0] 8 rfl (World.shaped_of_RefB (by kernel_rfl) (by kernel_rfl)) (by kernel_rfl) (by kernel_rfl) (by kernel_rfl) (door_met_burst os _)) ?_
  intro W base args ds gs before hval0 hW _ hsz hL _
  have hval : ∀ (j : Nat) t v, Tryz.f6.params[j]? = some t → args[j]? = some v → Value.okWide Tryz.prog W .any base t v := hval0
  have hW' := hW
  obtain ⟨p, q, hA0, hV, rfl, hfz, hnd⟩ := hW
  have hA : DataW.TrodAll enc Tryz.prog W 0 (fun _ => true) true Tryz.f6.params.toList args.toList ds p := hA0
  rw [Tryz.params6] at hA hval
  obtain ⟨v0, d0, rfl, rfl, h0⟩ := trodAll_one hA
  obtain ⟨rfl, rfl⟩ := trodVars_none hV
  have h0k := h0
  obtain ⟨fuel, hf⟩ := h0
  clear hA0 hval0 hL
  simp only [List.append_nil] at hW'
  have hlt : ∀ x ∈ p, x.block < W.heap.size := fun x hx => by simpa using hW'.lt x hx
  obtain ⟨a0, len, cap, rfl⟩ := okWide_slice Tryz.underlying22 (hval 0 22 v0 rfl rfl)
  have walk : Calls Tryz.prog 6 #[.slice a0 len cap] W fun e w' => e = .returned (.bool true) ∧ Below W.heap.size W w' := by
    rcases open_slice Tryz.underlying22 hf with ⟨hcs, _⟩ | ⟨a, len', cap', m, n, D, Pl, hcs, _, hl, hm, hmm, hdd, hel⟩
    · simp [Value.cells] at hcs
      obtain ⟨rfl, rfl, rfl⟩ := hcs
      exact burst_empty none 0 W
    · simp [Value.cells] at hcs
      obtain ⟨rfl, rfl, rfl⟩ := hcs
      simp only [if_true] at hmm
      subst hmm
      by_cases h0 : len = 0
      · subst h0
        exact burst_empty _ _ W
      · obtain ⟨b, off, spot⟩ := a
        rw [cellsOp] at hel
        obtain ⟨cs0, hc0, _⟩ := hel 0 (by omega)
        obtain ⟨_, hlen0, hcell0⟩ := World.cells?_some hc0
        have c0raw := hcell0 0 (by omega)
        rw [List.getElem?_eq_getElem (by omega)] at c0raw
        have hspot : spot = none := by simpa [Addr.add] using World.cell?_spot c0raw
        subst hspot
        have hb : b < W.heap.size := by
          have h1 : ((⟨b, off, none⟩ : Addr).add (0 * 6)).add 0 = ⟨b, off, none⟩ := by simp [Addr.add]
          rw [h1] at c0raw
          exact lt_of_cell c0raw rfl
        refine burst_any b off len _ W hl (by simpa [maxLen] using hm) hb ?_
        intro k hk
        obtain ⟨cs, hc, ht⟩ := hel k (by omega)
        refine opL_of hc ht (fun n hn => ?_)
        obtain ⟨sp, hd0⟩ : ∃ sp, d0 = .slice ((List.range len).map D) sp := ⟨_, congrArg Prod.fst hdd⟩
        have hm2 : n ∈ DataW.weights Tryz.prog 22 d0 := by
          rw [hd0]
          simp only [DataW.weights, Tryz.underlying22]
          exact List.mem_cons_of_mem _ (List.mem_append_left _ (weights_all (List.mem_map.2 ⟨k, List.mem_range.2 hk, rfl⟩) hn))
        simpa using List.all_eq_true.1 hsz n (DataW.weights_mem_each (j := 0) (t := 22) (d := d0) rfl rfl n hm2)
  refine walk.mono fun e W' ⟨he, hb⟩ => ?_
  subst he
  exact ⟨_, rfl, ⟨_, _, _, [], _, [], hW', trodAll_mk1 (shut_bool Tryz.underlying4 true), trodAll_mk1 (Below.trod laidOut (by kernel_rfl) (of_decide_eq_true (by kernel_rfl)) h0k hb hlt), rfl, hb.frame _, fun h => by cases h⟩⟩

theorem burst_holds : Rows.BurstSaid :=
  OpenClaim.holds_of_wide 6 Tryz.f6 rfl rfl rfl rfl rfl rfl rfl ⟨rfl, rfl, rfl, rfl, rfl⟩ rfl rfl rfl rfl rfl (by kernel_rfl) Tryz.func6 (by kernel_rfl)
    (of_decide_eq_true (by kernel_rfl)) (by unfold Func.isWrapper; first | (rw [if_pos (by decide +kernel)]; kernel_rfl) | (rw [if_neg (by decide +kernel)]; exact ⟨rfl, rfl⟩))
    (fun os started H enc _ => lifted_burst os started H enc)
end Go.Proofs.YtbdffcjganlblaaGreatDoor
