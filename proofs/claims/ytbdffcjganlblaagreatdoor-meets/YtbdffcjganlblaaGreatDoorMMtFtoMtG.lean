/-
  Own work. The law Meets: its walk.
-/
import Derived.Test.YtbdffcjganlblaaGreatDoorMCmBtoLoA
import Derived.MakeChecks
import Derived.Stop.LaidErr
import Derived.SizedLaws
namespace Go.Proofs.YtbdffcjganlblaaGreatDoor
open Go.RowKit
set_option linter.unusedVariables false
set_option linter.unusedSimpArgs false

set_option maxRecDepth 100000 in
set_option maxHeartbeats 8000000 in
theorem meets_any (b off len cap : Nat) (w : World) (hl : len ≤ cap) (hc : cap ≤ 9223372036854775807) (hb : b < w.heap.size) (hr : ∀ k, k < len → OpL w b off k) :
    Calls Tryz.prog 11 #[.slice (some ⟨b, off, none⟩) len cap] w fun e w' => e = .returned (.bool true) ∧ Below w.heap.size w w' := by
  have Hr := hide hr
  clear hr
  go_enter Tryz.func11, Tryz.ntmps11
  go_wp2
  go_loopw [3] (fun i wr => ∃ k : Nat, k ≤ len ∧ i = .int .i64 k ∧ Below w.heap.size w wr) (fun i _ => len - (intOf i).toNat)
  case atStart => exact ⟨0, by omega, rfl, Below.refl _ _⟩
  case round =>
    obtain ⟨k, hk, rfl, hbw⟩ := hrel
    have Hb := hide hbw
    have hsz := hbw.size
    have hbw' : b < wr.heap.size := by omega
    have hex : ¬ ((k : Int) < len) ∨ ((k : Int) < len ∧ ¬ ((k : Int) < 1152921504606846976)) ∨ ((k : Int) < len ∧ (k : Int) < 1152921504606846976) := by omega
    rcases hex with hlt' | ⟨hlt', hk60⟩ | ⟨hlt', hk60⟩
    · clear hbw
      go_wp2_with fail
      refine (alive_any wr).mono ?_
      rintro e w1 ⟨rfl, hb1⟩
      have HB1 := hide (Hb.out.trans (hb1.mono Hb.out.size))
      clear hb1
      go_wp2
      go_ret
      exact ⟨rfl, HB1.out⟩
    · clear hbw
      go_wp2_with fail
      refine (alive_any wr).mono ?_
      rintro e w1 ⟨rfl, hb1⟩
      have HB1 := hide (Hb.out.trans (hb1.mono Hb.out.size))
      clear hb1
      go_wp2
      go_ret
      exact ⟨rfl, HB1.out⟩
    · obtain ⟨K, A, B, C, s, la, lc, cs, r0, r1, r2, r3, r4, r5, hs, hca, hcl⟩ := Hr.out k (by omega)
      have e : ∀ o, wr.cell? ⟨b, o, none⟩ = w.cell? ⟨b, o, none⟩ := fun o => hbw.cell (p := ⟨b, o, none⟩) hb
      rw [← e] at r0 r1 r2 r3 r4 r5
      have HX0 := hide (blk_new wr #[.int .i64 K, .int .i64 A, .int .i64 B, .int .i64 C, .string s, .slice la cs.length lc] 27)
      have HB0 := hide (hbw.alloc hbw.size (.cells #[.int .i64 K, .int .i64 A, .int .i64 B, .int .i64 C, .string s, .slice la cs.length lc] 27))
      have Hca := hide hca
      clear e hbw hca
      go_wp2_with fail
      generalize wr.alloc (.cells #[.int .i64 K, .int .i64 A, .int .i64 B, .int .i64 C, .string s, .slice la cs.length lc] 27) = w0 at *
      generalize wr.heap.size = X at *
      have CT := hide (fun W => rTicks_any A [] none 0 W (.inl rfl) (by simp))
      refine (compile_out s w0 hs).mono ?_
      rintro e w1 ⟨hb1, hcase⟩
      have HX1 := hide (blk_keep HX0.out hb1)
      have HB1 := hide (HB0.out.trans (hb1.mono HB0.out.size))
      have x1 := blk_cell HX1.out
      clear hb1 HX0 HB0 r0 r1 r2 r3 r4 r5
      rcases hcase with ⟨f, hf, rfl⟩ | ⟨x, ⟨ts, ps, hkn, hset, hwd, rfl⟩, rfl⟩
      · have hf0 : ¬ (f.1 : Int) = 0 := by have := comp_err hf; omega
        clear hf
        go_wp2_with fail
        refine (rKnown_any s w1 hs).mono ?_
        rintro e w2 ⟨hb2, hcase⟩
        have HX2 := hide (blk_keep HX1.out hb2)
        have HB2 := hide (HB1.out.trans (hb2.mono HB1.out.size))
        clear hb2 HX1 HB1 x1
        have hform : ∃ a1 n1 c1 a2 n2 c2, ∃ q1 q2 : Nat, e = .returned (.tuple #[.agg #[.slice a1 n1 c1, .slice a2 n2 c2], .int .i64 q1, .int .i64 q2]) := by
          rcases hcase with ⟨f2, _, rfl⟩ | ⟨ts2, ps2, tv, pv, _, rfl, ht, hp⟩
          · exact ⟨none, 0, 0, none, 0, 0, _, _, rfl⟩
          · obtain ⟨a1, c1, rfl⟩ := own_slice ht
            obtain ⟨a2, c2, rfl⟩ := own_slice hp
            exact ⟨_, _, _, _, _, _, 0, 0, rfl⟩
        obtain ⟨a1, n1, c1, a2, n2, c2, q1, q2, rfl⟩ := hform
        clear hcase
        have hb3 : Below w2.heap.size w2 (w2.alloc (.cells #[.slice a1 n1 c1, .slice a2 n2 c2] 53)) := below_new _ _
        have HX3 := hide (blk_keep HX2.out hb3)
        have HB3 := hide (HB2.out.trans (hb3.mono HB2.out.size))
        clear hb3 HX2 HB2
        go_upto_region 7 with fail
        generalize w2.alloc (.cells #[.slice a1 n1 c1, .slice a2 n2 c2] 53) = w3 at *
        have x3 := blk_cell HX3.out
        go_wp2_with fail
        refine (CT.out w3).mono ?_
        rintro e w4 ⟨p, rfl, _, hb4⟩
        have HB4 := hide (HB3.out.trans (hb4.mono HB3.out.size))
        clear hb4 HB3 HX3 x3 CT
        obtain ⟨f1, f2⟩ := f
        simp only at hf0 ⊢
        have hf1 : ((f1 : Int) == 0) = false := by rw [beq_eq_false_iff_ne]; exact hf0
        go_upto_region 8 with fail
        go_wp2_with fail
        refine (num_any f1 _).mono ?_
        rintro e w' ⟨rfl, hw'⟩
        replace hw' := hw'.symm
        subst hw'
        go_upto_region 10 with fail
        go_wp2_with fail
        refine (num_any f1 _).mono ?_
        rintro e w' ⟨rfl, hw'⟩
        replace hw' := hw'.symm
        subst hw'
        go_upto_region 19 with fail
        go_wp2_with fail
        refine (num_any f1 _).mono ?_
        rintro e w' ⟨rfl, hw'⟩
        replace hw' := hw'.symm
        subst hw'
        go_wp2_with fail
        go_roundw
        case rel => exact ⟨k + 1, by omega, by go_num, HB4.out⟩
        case measure => simp [intOf]; omega
      · have hch := tab_right hset hwd
        have hup : Hid (UnpOk (packB (tabL ts ps)) (tabL ts ps)) := pack_unp hch
        have hne := bs_ne (x := packB (tabL ts ps)) (by have := pack_len (tabL ts ps); omega)
        have CK := hide (fun W => known_ok s W hs hkn hset.n1)
        have CR := hide (fun (cs : List Int) (ca : Option Addr) (ccap : Nat) (W : World) (hk : ticksOk A cs) (hW : CostsAt W ca cs) => run_good (packB (tabL ts ps)) (tabL ts ps) hup.out A cs ca ccap W hk hW)
        have HSet := hide hset
        have HWd := hide hwd
        clear hkn hset hwd hch hup
        generalize bs (packB (tabL ts ps)) = PK at *
        go_wp2_with fail
        refine (CK.out _).mono ?_
        rintro e w2 ⟨hb2, g, cap2, pa, pc, rfl, hK⟩
        have hb3 : Below w2.heap.size w2 (w2.alloc (.cells #[.slice (some ⟨g, 0, none⟩) ts.length cap2, .slice pa ps.length pc] 53)) := below_new _ _
        have HX3 := hide (blk_keep (blk_keep HX1.out hb2) hb3)
        have HS3 := hide (blk_new w2 #[.slice (some ⟨g, 0, none⟩) ts.length cap2, .slice pa ps.length pc] 53)
        have HK3 := hide (hK.keep hb3)
        have hb2' := HB1.out.trans (hb2.mono HB1.out.size)
        have HB3 := hide (hb2'.trans (hb3.mono hb2'.size))
        clear hb2 hb2' hb3 hK HX1 HB1 x1 CK
        go_upto_region 7 with fail
        generalize w2.alloc (.cells #[.slice (some ⟨g, 0, none⟩) ts.length cap2, .slice pa ps.length pc] 53) = w3 at *
        generalize w2.heap.size = Y at *
        have x3 := blk_cell HX3.out
        go_wp2_with fail
        refine (CT.out w3).mono ?_
        rintro e w4 ⟨p, rfl, hp, hb4⟩
        have HX4 := hide (blk_keep HX3.out hb4)
        have HS4 := hide (blk_keep HS3.out hb4)
        have HK4 := hide (HK3.out.keep hb4)
        have HB4 := hide (HB3.out.trans (hb4.mono HB3.out.size))
        clear hb4 HB3 HX3 HS3 HK3 x3 CT
        cases p with
        | false =>
          clear hp CR HX4 HS4 HK4 HSet HWd
          go_upto_region 8 with fail
          go_wp2_with fail
          refine (num_any 0 _).mono ?_
          rintro e w' ⟨rfl, hw'⟩
          replace hw' := hw'.symm
          subst hw'
          go_upto_region 10 with fail
          go_wp2_with fail
          refine (num_any 0 _).mono ?_
          rintro e w' ⟨rfl, hw'⟩
          replace hw' := hw'.symm
          subst hw'
          go_upto_region 19 with fail
          go_wp2_with fail
          refine (num_any 0 _).mono ?_
          rintro e w' ⟨rfl, hw'⟩
          replace hw' := hw'.symm
          subst hw'
          go_wp2_with fail
          go_roundw
          case rel => exact ⟨k + 1, by omega, by go_num, HB4.out⟩
          case measure => simp [intOf]; omega
        | true =>
          have Hk := hide (hp.1 rfl)
          clear hp
          obtain ⟨T, hT⟩ : ∃ T : Nat, A = T := ⟨A.toNat, by have := Hk.out.1; omega⟩
          subst hT
          have hT4 : T ≤ 400 := by have := Hk.out.2.1; omega
          have Hk2 : Hid (ticksOk (T : Int) [1, 0]) := ⟨Hk.out.1, Hk.out.2.1, by decide, fun k hk => by
            have : k = 0 ∨ k = 1 := by simp at hk; omega
            rcases this with rfl | rfl <;> decide⟩
          have CM1 : Hid (∀ W, KnM W g ts pa ps → Calls Tryz.prog 28 #[.agg #[.slice (some ⟨g, 0, none⟩) ts.length cap2, .slice pa ps.length pc], .string (bs (prT (flatF 0 (tabL ts ps).fs) (tabL ts ps).cyc (tabL ts ps).fr [] (T : Int).toNat).out), .int .i64 T, .bool true] W fun e w' => e = .returned (.bool true) ∧ Below W.heap.size W w') := fun W hW => by
            obtain ⟨A1, t1, h1⟩ := met_full HSet.out HWd.out hT4
            exact met_yes ts (cycI ts) g cap2 pa ps.length pc _ T true A1 t1 W hW.hg hW.t HSet.out.tok.len HSet.out.tok rfl (set_jobs HSet.out) hT4 (by rw [bs_data]; exact h1)
          have CM2 : Hid (∀ W, KnM W g ts pa ps → Calls Tryz.prog 28 #[.agg #[.slice (some ⟨g, 0, none⟩) ts.length cap2, .slice pa ps.length pc], .string (bs (prT (flatF 0 (tabL ts ps).fs) (tabL ts ps).cyc (tabL ts ps).fr [1, 0] (T : Int).toNat).out), .int .i64 T, .bool false] W fun e w' => e = .returned (.bool true) ∧ Below W.heap.size W w') := fun W hW => by
            obtain ⟨A1, t1, h1⟩ := met_less HSet.out HWd.out hT4
            exact met_yes ts (cycI ts) g cap2 pa ps.length pc _ T false A1 t1 W hW.hg hW.t HSet.out.tok.len HSet.out.tok rfl (set_jobs HSet.out) hT4 (by rw [bs_data]; exact h1)
          have CR1 := hide (fun W => CR.out [] none 0 W Hk.out (.inl rfl))
          have CR2 := hide (fun a cap W hW => CR.out [1, 0] a cap W Hk2.out hW)
          clear CR Hk Hk2 HSet HWd
          generalize bs (prT (flatF 0 (tabL ts ps).fs) (tabL ts ps).cyc (tabL ts ps).fr [] (T : Int).toNat).out = S1 at *
          generalize bs (prT (flatF 0 (tabL ts ps).fs) (tabL ts ps).cyc (tabL ts ps).fr [1, 0] (T : Int).toNat).out = S2 at *
          have x4 := blk_cell HX4.out
          have s4 := blk_cell HS4.out
          go_upto_region 8 with fail
          go_wp2_with fail
          refine (num_any 0 _).mono ?_
          rintro e w' ⟨rfl, hw'⟩
          replace hw' := hw'.symm
          subst hw'
          go_upto_region 10 with fail
          go_wp2_with fail
          refine (num_any 0 _).mono ?_
          rintro e w' ⟨rfl, hw'⟩
          replace hw' := hw'.symm
          subst hw'
          go_wp2_with fail
          refine (CR1.out _).mono ?_
          rintro e w5 ⟨rfl, hb5⟩
          have HX5 := hide (blk_keep HX4.out hb5)
          have HS5 := hide (blk_keep HS4.out hb5)
          have HK5 := hide (HK4.out.keep hb5)
          have HB5 := hide (HB4.out.trans (hb5.mono HB4.out.size))
          have x5 := blk_cell HX5.out
          have s5 := blk_cell HS5.out
          clear hb5 HX4 HS4 HK4 HB4 x4 s4
          go_wp2_with fail
          refine (CM1.out _ HK5.out).mono ?_
          rintro e w6 ⟨rfl, hb6⟩
          have HX6 := hide (blk_keep HX5.out hb6)
          have HS6 := hide (blk_keep HS5.out hb6)
          have HK6 := hide (HK5.out.keep hb6)
          have HB6 := hide (HB5.out.trans (hb6.mono HB5.out.size))
          have x6 := blk_cell HX6.out
          have s6 := blk_cell HS6.out
          clear hb6 HX5 HS5 HK5 HB5 x5 s5
          have hnot : ∀ (x : Bool) (w : World), (Op.unary .not (.bool x)).run Tryz.prog w = .ok (.bool (!x)) w := fun _ _ => rfl
          go_wp2_with fail
          refine (num_any 0 _).mono ?_
          rintro e w' ⟨rfl, hw'⟩
          replace hw' := hw'.symm
          subst hw'
          go_upto_region 15 with fail
          go_upto_region 16 with fail
          have hb7 : Below w6.heap.size w6 (w6.alloc (.cells #[.int .i64 1, .int .i64 0] 3)) := below_new _ _
          have c7 := blk_new w6 #[.int .i64 1, .int .i64 0] 3
          have HC7 : Hid (CostsAt (w6.alloc (.cells #[.int .i64 1, .int .i64 0] 3)) (some ⟨w6.heap.size, 0, none⟩) [1, 0]) := .inr ⟨_, 0, rfl, blk_lt c7, fun k hk => by
            have : k = 0 ∨ k = 1 := by simp at hk; omega
            rcases this with rfl | rfl <;> exact blk_cell c7 _⟩
          have HX7 := hide (blk_keep HX6.out hb7)
          have HS7 := hide (blk_keep HS6.out hb7)
          have HK7 := hide (HK6.out.keep hb7)
          have HB7 := hide (HB6.out.trans (hb7.mono HB6.out.size))
          clear hb7 c7 HX6 HS6 HK6 HB6 x6 s6
          generalize w6.alloc (.cells #[.int .i64 1, .int .i64 0] 3) = w7 at *
          generalize w6.heap.size = Z at *
          have x7 := blk_cell HX7.out
          have s7 := blk_cell HS7.out
          go_wp2_with fail
          refine (CR2.out _ _ _ HC7.out).mono ?_
          rintro e w8 ⟨rfl, hb8⟩
          have HX8 := hide (blk_keep HX7.out hb8)
          have HS8 := hide (blk_keep HS7.out hb8)
          have HK8 := hide (HK7.out.keep hb8)
          have HB8 := hide (HB7.out.trans (hb8.mono HB7.out.size))
          have x8 := blk_cell HX8.out
          have s8 := blk_cell HS8.out
          clear hb8 HX7 HS7 HK7 HB7 x7 s7
          go_wp2_with fail
          refine (CM2.out _ HK8.out).mono ?_
          rintro e w9 ⟨rfl, hb9⟩
          have HX9 := hide (blk_keep HX8.out hb9)
          have HS9 := hide (blk_keep HS8.out hb9)
          have HK9 := hide (HK8.out.keep hb9)
          have HB9 := hide (HB8.out.trans (hb9.mono HB8.out.size))
          have x9 := blk_cell HX9.out
          have s9 := blk_cell HS9.out
          clear hb9 HX8 HS8 HK8 HB8 x8 s8
          go_wp2_with fail
          refine (num_any 0 _).mono ?_
          rintro e w' ⟨rfl, hw'⟩
          replace hw' := hw'.symm
          subst hw'
          go_upto_region 20 with fail
          go_wp2_with fail
          refine (num_any 0 _).mono ?_
          rintro e w' ⟨rfl, hw'⟩
          replace hw' := hw'.symm
          subst hw'
          go_wp2_with fail
          go_roundw
          case rel => exact ⟨k + 1, by omega, by go_num, HB9.out⟩
          case measure => simp [intOf]; omega
set_option maxRecDepth 100000 in
set_option maxHeartbeats 1000000 in
theorem meets_empty (a : Option Addr) (cap : Nat) (w : World) :
    Calls Tryz.prog 11 #[.slice a 0 cap] w fun e w' => e = .returned (.bool true) ∧ Below w.heap.size w w' := by
  go_enter Tryz.func11, Tryz.ntmps11
  go_wp2
  go_loopw [3] (fun i wr => i = .int .i64 0 ∧ Below w.heap.size w wr) (fun _ _ => 0)
  case atStart => exact ⟨rfl, Below.refl _ _⟩
  case round =>
    obtain ⟨rfl, hbw⟩ := hrel
    have Hb := hide hbw
    clear hbw
    go_wp2_with fail
    refine (alive_any wr).mono ?_
    rintro e w1 ⟨rfl, hb1⟩
    have HB1 := hide (Hb.out.trans (hb1.mono Hb.out.size))
    clear hb1
    go_wp2
    go_ret
    exact ⟨rfl, HB1.out⟩
end Go.Proofs.YtbdffcjganlblaaGreatDoor

namespace Go.Proofs.YtbdffcjganlblaaGreatDoor
open Go.ChangeShapes Go.WideShapes Go.ChangeAt Go.RowKit Go.Deep
set_option linter.unusedVariables false
set_option linter.unusedSimpArgs false

/-- The door's own heap meets the row's condition. -/
theorem door_met_meets (os : Os) (args : Array Value) : laidMetH Tryz.prog Rows.meetsRow.laid ((World.doorLaid Tryz.prog 4000 os).forCall (fun _ _ => 0) ⟨#[], args, []⟩).memory :=
  laidMetH_of_parts3 (fuel := 8) (laidMet_of_run' 8 (by kernel_rfl) (by kernel_rfl)) (by kernel_rfl) (by kernel_rfl)

set_option maxRecDepth 100000 in
theorem lifted_meets (os : Os) (started : os.Started) (H : Type) (enc : TypeId × Value → H) :
    ReturnsInHanded {} Tryz.checked os 11 .any (fun w args => (Rows.meetsSpec.pre enc Tryz.prog Tryz.f11 [] false w args ∧ laidMetH Tryz.prog Rows.meetsRow.laid w) ∧ sizedMet enc Tryz.prog Tryz.f11 (OpenSpec.ofChange Rows.meetsSpec) false w args)
      (Rows.meetsSpec.post enc Tryz.prog Tryz.f11 false true false false) := by
  refine returnsInHanded_of_change_and (C := Tryz.checked) (X := fun w _ => laidMetH Tryz.prog Rows.meetsRow.laid w) (fun _ _ _ hh h => h.of_heap hh) own started (by kernel_rfl) Tryz.func11
    (ChangeSpec.witness_shaped (enc := enc) (C := Tryz.checked) (os := os) (X := fun w _ => laidMetH Tryz.prog Rows.meetsRow.laid w) false (World.doorLaid Tryz.prog 4000 os) #[.slice none 0 0] 8 rfl (World.shaped_of_RefB (by kernel_rfl) (by kernel_rfl)) (by kernel_rfl) (by kernel_rfl) (by kernel_rfl) (door_met_meets os _)) ?_
  intro W base args ds gs before hval0 hW _ hsz hL _
  have hval : ∀ (j : Nat) t v, Tryz.f11.params[j]? = some t → args[j]? = some v → Value.okWide Tryz.prog W .any base t v := hval0
  have hW' := hW
  obtain ⟨p, q, hA0, hV, rfl, hfz, hnd⟩ := hW
  have hA : DataW.TrodAll enc Tryz.prog W 0 (fun _ => true) true Tryz.f11.params.toList args.toList ds p := hA0
  rw [Tryz.params11] at hA hval
  obtain ⟨v0, d0, rfl, rfl, h0⟩ := trodAll_one hA
  obtain ⟨rfl, rfl⟩ := trodVars_none hV
  have h0k := h0
  obtain ⟨fuel, hf⟩ := h0
  clear hA0 hval0 hL
  simp only [List.append_nil] at hW'
  have hlt : ∀ x ∈ p, x.block < W.heap.size := fun x hx => by simpa using hW'.lt x hx
  obtain ⟨a0, len, cap, rfl⟩ := okWide_slice Tryz.underlying22 (hval 0 22 v0 rfl rfl)
  have walk : Calls Tryz.prog 11 #[.slice a0 len cap] W fun e w' => e = .returned (.bool true) ∧ Below W.heap.size W w' := by
    rcases open_slice Tryz.underlying22 hf with ⟨hcs, _⟩ | ⟨a, len', cap', m, n, D, Pl, hcs, _, hl, hm, hmm, hdd, hel⟩
    · simp [Value.cells] at hcs
      obtain ⟨rfl, rfl, rfl⟩ := hcs
      exact meets_empty none 0 W
    · simp [Value.cells] at hcs
      obtain ⟨rfl, rfl, rfl⟩ := hcs
      simp only [if_true] at hmm
      subst hmm
      by_cases h0 : len = 0
      · subst h0
        exact meets_empty _ _ W
      · obtain ⟨b, off, spot⟩ := a
        rw [cellsOp] at hel
        obtain ⟨cs0, hc0, _⟩ := hel 0 (by omega)
        obtain ⟨_, hlen0, hcell0⟩ := World.cells?_some hc0
        have c0raw := hcell0 0 (by omega)
        rw [List.getElem?_eq_getElem (by omega)] at c0raw
        have hspot : spot = none := by simpa [Addr.add] using World.cell?_spot c0raw
        subst hspot
        have hb : b < W.heap.size := by
          have h1 : ((⟨b, off, none⟩ : Addr).add (0 * 6)).add 0 = ⟨b, off, none⟩ := by simp [Addr.add]
          rw [h1] at c0raw
          exact lt_of_cell c0raw rfl
        refine meets_any b off len _ W hl (by simpa [maxLen] using hm) hb ?_
        intro k hk
        obtain ⟨cs, hc, ht⟩ := hel k (by omega)
        refine opL_of hc ht (fun n hn => ?_)
        obtain ⟨sp, hd0⟩ : ∃ sp, d0 = .slice ((List.range len).map D) sp := ⟨_, congrArg Prod.fst hdd⟩
        have hm2 : n ∈ DataW.weights Tryz.prog 22 d0 := by
          rw [hd0]
          simp only [DataW.weights, Tryz.underlying22]
          exact List.mem_cons_of_mem _ (List.mem_append_left _ (weights_all (List.mem_map.2 ⟨k, List.mem_range.2 hk, rfl⟩) hn))
        simpa using List.all_eq_true.1 hsz n (DataW.weights_mem_each (j := 0) (t := 22) (d := d0) rfl rfl n hm2)
  refine walk.mono fun e W' ⟨he, hb⟩ => ?_
  subst he
  exact ⟨_, rfl, ⟨_, _, _, [], _, [], hW', trodAll_mk1 (shut_bool Tryz.underlying4 true), trodAll_mk1 (Below.trod laidOut (by kernel_rfl) (of_decide_eq_true (by kernel_rfl)) h0k hb hlt), rfl, hb.frame _, fun h => by cases h⟩⟩

theorem meets_holds : Rows.MeetsSaid :=
  OpenClaim.holds_of_wide 11 Tryz.f11 rfl rfl rfl rfl rfl rfl rfl ⟨rfl, rfl, rfl, rfl, rfl⟩ rfl rfl rfl rfl rfl (by kernel_rfl) Tryz.func11 (by kernel_rfl)
    (of_decide_eq_true (by kernel_rfl)) (by unfold Func.isWrapper; first | (rw [if_pos (by decide +kernel)]; kernel_rfl) | (rw [if_neg (by decide +kernel)]; exact ⟨rfl, rfl⟩))
    (fun os started H enc _ => lifted_meets os started H enc)
end Go.Proofs.YtbdffcjganlblaaGreatDoor
