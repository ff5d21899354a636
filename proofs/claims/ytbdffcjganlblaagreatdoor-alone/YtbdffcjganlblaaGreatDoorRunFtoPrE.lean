/-
  Own work. The document's run: the trace.
-/
import Derived.Test.YtbdffcjganlblaaGreatDoorRunAtoRunE
import Derived.Deep.RegionHeldLaw
import Derived.Deep.DeepCutAuto
import Derived.Test.YtbdffcjganlblaaGreatDoorTbE
namespace Go.Proofs.YtbdffcjganlblaaGreatDoor
open Go.RowKit
set_option linter.unusedVariables false
set_option linter.unusedSimpArgs false

theorem wr64 {n : Int} (h1 : -9223372036854775808 ≤ n) (h2 : n ≤ 9223372036854775807) : IntKind.i64.wrap n = n := by
  rw [IntKind.wrap_i64]
  omega
theorem cntTo_mono (l : List FSl) (a : Nat) : ∀ d, cntTo l a ≤ cntTo l (a + d)
  | 0 => Nat.le_refl _
  | d + 1 => by
    have := cntTo_mono l a d
    rw [← Nat.add_assoc, cntTo]
    split <;> omega
theorem numI_lt {l : List FSl} {i : Nat} (hi : i < l.length) : numI l i < cntTo l l.length := by
  obtain ⟨m, hm, hmi, hs, _⟩ := spotI_fst hi
  unfold numI
  rw [hm]
  have h1 : (spotI l m).fst = m := by rw [spotI_same hs, hm]
  have h2 : cntTo l (m + 1) = cntTo l m + 1 := by rw [cntTo, if_pos h1]
  have h3 := cntTo_mono l (m + 1) (l.length - (m + 1))
  rw [show m + 1 + (l.length - (m + 1)) = l.length by omega] at h3
  simp only [Int.toNat_natCast]
  omega
theorem startI_le {l : List FSl} (hn : l.length ≤ 300) (hs : ∀ i, i < l.length → (fsk l i).small) {f i : Nat} (hf : f ≤ 60) (hi : i < l.length) : startI l f i ≤ 3003600 := by
  have h1 := Nat.mul_le_mul (hs i hi).1 hf
  have h2 := usedJ_le hs (fsk l i).1 i (by omega)
  unfold startI
  generalize (fsk l i).1 * f = A at *
  omega
theorem CostsAt.below {w w' : World} {a : Option Addr} {cs : List Int} (h : CostsAt w a cs) (hb : Below w.heap.size w w') : CostsAt w' a cs := by
  rcases h with h | ⟨b, off, h1, h2, h3⟩
  · exact .inl h
  · exact .inr ⟨b, off, h1, Nat.lt_of_lt_of_le h2 hb.size, fun k hk => (hb.cell (p := ⟨b, off + k, none⟩) h2).trans (h3 k hk)⟩

theorem TrX.start {w w1 : World} {c f : Nat} {sv : Value} (hT : TBx w w1 c f sv) (n : Nat) (hn : n ≤ 1000) : TrX w (w1.alloc (.cells (zerosA n) 3)) c f sv w1.heap.size n (fun _ => 0) := by
  have hb := blk_new w1 (zerosA n) 3
  refine ⟨hT.alloc _, ?_, blk_frozen hb, blk_lt hT.h, by simp⟩
  intro j hj
  rw [blk_cell hb, zerosA_at n j hj]

set_option maxRecDepth 100000 in
set_option maxHeartbeats 8000000 in
theorem rTrace_any (c f : Nat) (l : List FSl) (g cap tk : Nat) (cs : List Int) (a : Option Addr) (ccap : Nat) (w : World) (hg : g < w.heap.size) (hr : RowF w g l) (hn : l.length ≤ 300) (hs : ∀ k, k < l.length → (fsk l k).small)
    (hc1 : 1 ≤ c) (hc2 : c ≤ 60) (hf1 : 1 ≤ f) (hf2 : f ≤ 60) (htk : tk ≤ 400) (hca : CostsAt w a cs) (hcl : cs.length ≤ 40) (hcb : ∀ k, k < cs.length → 0 ≤ cs.getD k 0 ∧ cs.getD k 0 ≤ 400) :
    Calls Tryz.prog 99 #[.agg #[.int .i64 c, .int .i64 f, .slice (some ⟨g, 0, none⟩) l.length cap], .int .i64 tk, .slice a cs.length ccap] w fun e w' => e = .returned (.string (bs (trcL l c f cs tk).2)) ∧ Below w.heap.size w w' := by
  have Hr := hide hr
  have Hs := hide hs
  have Hca := hide hca
  have Hcb := hide hcb
  have H0 := hide (TBx.start w c f (.slice (some ⟨g, 0, none⟩) l.length cap))
  have hnl := cntTo_le l l.length
  have hmk := make_ints (cntTo l l.length) (by omega)
  have HJb := hide (rJobs_any c f l g cap (w.alloc (.cells #[.int .i64 c, .int .i64 f, .slice (some ⟨g, 0, none⟩) l.length cap] 39)) (by simp; omega) (hr.below (below_new w _) hg) hn hs)
  have HFine := hide (fun u => trc_fine hn hs hcb c f u)
  clear hr hs hca hcb
  go_enter Tryz.func99, Tryz.ntmps99
  go_wp2_with fail
  generalize w.alloc (.cells #[.int .i64 c, .int .i64 f, .slice (some ⟨g, 0, none⟩) l.length cap] 39) = W0 at *
  refine HJb.out.mono ?_
  rintro e w1 ⟨rfl, hb1⟩
  have HX := hide (TrX.start (H0.out.keep hb1) (cntTo l l.length) (by omega))
  clear hb1 H0 HJb
  generalize hN : cntTo l l.length = n at *
  have HN := hide hN
  clear hN
  go_wp2_with fail
  generalize w1.alloc (.cells (zerosA n) 3) = w2 at *
  generalize w1.heap.size = X at *
  clear hmk
  go_loopw [7, 10] (fun sv uv wr => ∃ q : Nat, q ≤ tk ∧ uv = .int .i64 q ∧ sv = .string (bs (trcL l c f cs q).2) ∧ TrX w wr c f (.slice (some ⟨g, 0, none⟩) l.length cap) X n (trcL l c f cs q).1) (fun _ uv _ => tk - (intOf uv).toNat)
  case atStart => exact ⟨0, by omega, rfl, rfl, HX.out⟩
  case round =>
    clear HX
    obtain ⟨q, hq, rfl, rfl, hT⟩ := hrel
    obtain ⟨x0, x1, x2⟩ := hT.t.cells
    have HT := hide hT
    by_cases hlt : q < tk
    · have hlt' : (q : Int) < tk := by omega
      have hlen := trc_len l c f cs q
      have hww : w.heap.size < wr.heap.size := blk_lt hT.t.h
      have hwg : g < wr.heap.size := by omega
      have hR := Hr.out.below hT.t.b hg
      have hmod : ((q : Int) % c) = ((q % c : Nat) : Int) := by simp
      have hml := Nat.mod_lt q (show 0 < c by omega)
      have hc0 : ¬ (c : Int) = 0 := by omega
      have HAt := hide (fun W (hW : Below wr.heap.size wr W) => (rat_any c f l g cap (q % c) W (by have := hW.size; omega) (hR.below hW hwg) hn Hs.out hf1 hf2 (by omega)).mono (fun e w' h => (⟨h.1, hW.trans (h.2.mono hW.size)⟩ : e = .returned (atV l f (q % c)) ∧ Below wr.heap.size wr w')))
      have HR := hide hR
      have HK : Hid (∀ W, Below wr.heap.size wr W → W.cell? ⟨w.heap.size, 0, none⟩ = some (.int .i64 c) ∧ W.cell? ⟨w.heap.size, 1, none⟩ = some (.int .i64 f) ∧ W.cell? ⟨w.heap.size, 2, none⟩ = some (.slice (some ⟨g, 0, none⟩) l.length cap) ∧ Below wr.heap.size wr W) := fun W hW => ⟨(hW.cell (p := ⟨w.heap.size, 0, none⟩) hww).trans x0, (hW.cell (p := ⟨w.heap.size, 1, none⟩) hww).trans x1, (hW.cell (p := ⟨w.heap.size, 2, none⟩) hww).trans x2, hW⟩
      have hstep : Hid (trcL l c f cs (q + 1) = tickL l c f cs q (trcL l c f cs q)) := rfl
      have hfn := hide (HFine.out q)
      rw [← hmod] at HAt
      clear hmod
      generalize trcL l c f cs q = TR at *
      have bA := hide ((Below.refl wr.heap.size wr).drew)
      clear hT hR
      rcases atTo_spec l f (q % c) l.length with ⟨hat, _⟩ | ⟨i, hat, hil, hhit, _⟩
      · have hv : Hid (atV l f (q % c) = .tuple #[.int .i64 (-1), .bool false]) := by unfold Hid atV atL; rw [hat]
        have hst2 : Hid (trcL l c f cs (q + 1) = (TR.1, TR.2 ++ [46])) := by unfold Hid; rw [hstep.out, tickL, show atL l f (q % c) = none from hat]
        rw [hv.out] at HAt
        obtain ⟨X1, a1, z1, e1⟩ := add_named2 (bs TR.2) ⟨#[46]⟩ (by rw [bs_size, show (ByteArray.size ⟨#[46]⟩) = 1 from rfl]; omega)
        have EX : Hid (X1 = bs (TR.2 ++ [46])) := by unfold Hid; rw [← bs_list X1, e1, bs_data]
        clear hat hstep hv e1 z1
        go_wp2_with fail
        go_region_held_law (fun w' => w'.cell? ⟨w.heap.size, 0, none⟩ = some (.int .i64 c) ∧ w'.cell? ⟨w.heap.size, 1, none⟩ = some (.int .i64 f) ∧ w'.cell? ⟨w.heap.size, 2, none⟩ = some (.slice (some ⟨g, 0, none⟩) l.length cap) ∧ Below wr.heap.size wr w') (first | exact HK.out _ bA.out | exact HK.out _ hb8)
          (first | (go_at_call 137; refine (HAt.out _ ?hw).mono ?_; (case hw => (first | exact bA.out)); rintro e w8 ⟨rfl, hb8⟩))
        all_goals
          have HT8 := hide (HT.out.keep hb8)
          clear HK HAt HT HR x0 x1 x2
          go_wp2
          go_roundw
          case rel => exact ⟨q + 1, by omega, by go_num, by rw [hst2.out, EX.out], HT8.out.ext (by rw [hst2.out])⟩
          case measure => simp [intOf]; omega
      · have hv : Hid (atV l f (q % c) = .tuple #[.int .i64 i, .bool (decide (q % c + 1 = endI l f (q % c / f) i))]) := by unfold Hid atV atL; rw [hat]
        have hst2 : Hid (trcL l c f cs (q + 1) = (lessL (numI l i) (begunL l c f cs q i TR.1), TR.2 ++ ranL (fsk l i).2.nm (numI l i) (begunL l c f cs q i TR.1) ++ markL l c f q i (lessL (numI l i) (begunL l c f cs q i TR.1)))) := by unfold Hid; rw [hstep.out, tickL, show atL l f (q % c) = some i from hat]
        have hmk : Hid (∀ L, markL l c f q i L = if q % c + 1 = endI l f (q % c / f) i ∧ (i : Int) = (spotI l i).lst ∧ 0 < L (numI l i) then [33, (fsk l i).2.nm] else []) := fun L => rfl
        rw [hv.out] at HAt
        generalize hEd : decide (q % c + 1 = endI l f (q % c / f) i) = E at *
        have HEd := hide hEd
        clear hat hstep hv hhit hEd
        go_wp2_with fail
        go_region_held_law (fun w' => w'.cell? ⟨w.heap.size, 0, none⟩ = some (.int .i64 c) ∧ w'.cell? ⟨w.heap.size, 1, none⟩ = some (.int .i64 f) ∧ w'.cell? ⟨w.heap.size, 2, none⟩ = some (.slice (some ⟨g, 0, none⟩) l.length cap) ∧ Below wr.heap.size wr w') (first | exact HK.out _ bA.out | exact HK.out _ hb8)
          (first | (go_at_call 137; refine (HAt.out _ ?hw).mono ?_; (case hw => (first | exact bA.out)); rintro e w8 ⟨rfl, hb8⟩))
        have HT8 := hide (HT.out.keep hb8)
        have HR8 := hide (HR.out.below hb8 hwg)
        have hww8 : w.heap.size < w8.heap.size := by have := hb8.size; omega
        have hwg8 : g < w8.heap.size := by have := hb8.size; omega
        clear HK HAt HT HR x0 x1 x2 hb8 bA hww hwg
        obtain ⟨x0, x1, x2⟩ := HT8.out.t.cells
        obtain ⟨k0, k1, k2, k3⟩ := HR8.out i hil
        obtain ⟨m, hm, hmi, hsm, _⟩ := spotI_fst hil
        have HSp := hide (fun W' hW' => rspot_kept c f l g cap w8 hwg8 HR8.out hn Hs.out i hil W' hW')
        rw [hm] at HSp
        have HK : Hid (∀ W, Below w8.heap.size w8 W → W.cell? ⟨w.heap.size, 0, none⟩ = some (.int .i64 c) ∧ W.cell? ⟨w.heap.size, 1, none⟩ = some (.int .i64 f) ∧ W.cell? ⟨w.heap.size, 2, none⟩ = some (.slice (some ⟨g, 0, none⟩) l.length cap) ∧ W.cell? ⟨g, i * 4 + 1, none⟩ = some (.int .u8 (fsk l i).2.nm.toNat) ∧ W.cell? ⟨g, i * 4 + 2, none⟩ = some (.int .i64 (fsk l i).2.job)) := fun W hW => ⟨(hW.cell (p := ⟨w.heap.size, 0, none⟩) hww8).trans x0, (hW.cell (p := ⟨w.heap.size, 1, none⟩) hww8).trans x1, (hW.cell (p := ⟨w.heap.size, 2, none⟩) hww8).trans x2, (hW.cell (p := ⟨g, i * 4 + 1, none⟩) hwg8).trans k1, (hW.cell (p := ⟨g, i * 4 + 2, none⟩) hwg8).trans k2⟩
        have bA := hide ((Below.refl w8.heap.size w8).drew)
        have bB := hide ((below_new w8 (.cells #[.int .i64 0, .int .i64 0, .int .i64 0] 78)).drew)
        have nB : Hid ((w8.alloc (.cells #[.int .i64 0, .int .i64 0, .int .i64 0] 78)).drew.heap[w8.heap.size]? = some (.cells #[.int .i64 0, .int .i64 0, .int .i64 0] 78 (0, 0))) := blk_new w8 _ _
        have hil' : (i : Int) < l.length := by omega
        have hi0 : ¬ (i : Int) < 0 := by omega
        have Hm := hide hm
        have Hsm := hide hsm
        clear hm hsm k0 k3
        go_wp2_with fail
        go_cut [13] (fun v wc => ∃ Y, v = .pointer (some ⟨Y, 0, none⟩) ∧ wc.heap[Y]? = some (.cells #[.int .i64 m, .int .i64 (spotI l i).lst, .int .i64 (spotI l i).cost] 78 (0, 0)) ∧ Y ≠ X ∧ w.heap.size < Y ∧ TrX w wc c f (.slice (some ⟨g, 0, none⟩) l.length cap) X n TR.1)
        case first =>
          go_region_held_law (fun w' => w'.cell? ⟨w.heap.size, 0, none⟩ = some (.int .i64 c) ∧ w'.cell? ⟨w.heap.size, 1, none⟩ = some (.int .i64 f) ∧ w'.cell? ⟨w.heap.size, 2, none⟩ = some (.slice (some ⟨g, 0, none⟩) l.length cap) ∧ w'.cell? ⟨g, i * 4 + 1, none⟩ = some (.int .u8 (fsk l i).2.nm.toNat) ∧ w'.cell? ⟨g, i * 4 + 2, none⟩ = some (.int .i64 (fsk l i).2.job)) (first | exact HK.out _ bA.out | exact HK.out _ bB.out | exact HK.out _ hb9 | exact HK.out _ (hb9.alloc hb9.size _) | exact HK.out _ (below_set3 hb9 (Nat.le_refl _) _ _ _))
            (first | (go_at_call 47; refine (HSp.out _ ?hw).mono ?_; (case hw => (first | exact bA.out | exact bB.out)); rintro e w9 ⟨rfl, hb9, hc9⟩; try (have h9 := hc9 w8.heap.size _ nB.out; have c90 := blk_cell h9 0; have c91 := blk_cell h9 1; have c92 := blk_cell h9 2; have z9 := blk_frozen h9)))
          · go_wp2_with fail
            go_meet
            case rel => exact ⟨_, rfl, blk_new _ _ _, by have := HT8.out.lt; have := hb9.size; omega, by have := hb9.size; omega, (HT8.out.keep hb9).keep (below_new _ _)⟩
          · go_wp2_with fail
            go_meet
            case rel => exact ⟨_, rfl, by rw [blk_set (blk_set (blk_set h9 _ _) _ _) _ _]; rfl, by have := HT8.out.lt; omega, hww8, HT8.out.keep (below_set3 hb9 (Nat.le_refl _) _ _ _)⟩
        case rest =>
          clear HK HSp bA bB nB x0 x1 x2 k1 k2 HT8 HR8 hww8 hwg8
          obtain ⟨Y, rfl, hY, hYX, hYw, hT⟩ := hcut
          have HY := hide hY
          have HT := hide hT
          have hwg9 : g < wc.heap.size := by have := hT.t.b.size; omega
          have HNum := hide (rnum_any c f l g cap hn Hs.out i wc hil hwg9 (Hr.out.below hT.t.b hg))
          obtain ⟨x0, x1, x2⟩ := hT.t.cells
          clear hT hY
          go_wp2_with fail
          refine HNum.out.mono ?_
          rintro e w10 ⟨rfl, hb10⟩
          have HT10 := hide (HT.out.keep hb10)
          have HY10 := hide (blk_keep HY.out hb10)
          clear hb10 HNum HT HY x0 x1 x2 hwg9
          obtain ⟨x0, x1, x2⟩ := HT10.out.t.cells
          have y0 := blk_cell HY10.out 0
          have hww10 : w.heap.size < w10.heap.size := blk_lt HT10.out.t.h
          have hY10 : Y < w10.heap.size := blk_lt HY10.out
          have hSTb := startI_le hn Hs.out (i := m) hf2 (by omega)
          have HSt := hide (fun W (hW : Below w10.heap.size w10 W) => (rstart_any c f l g cap m W (by omega) (by have := hW.size; omega) ((Hr.out.below HT10.out.t.b hg).below hW (by omega)) hn Hs.out hf2).mono (fun e w' h => (⟨h.1, hW.trans (h.2.mono hW.size)⟩ : e = .returned (.int .i64 (startI l f m)) ∧ Below w10.heap.size w10 w')))
          have HK : Hid (∀ W, Below w10.heap.size w10 W → W.cell? ⟨w.heap.size, 0, none⟩ = some (.int .i64 c) ∧ W.cell? ⟨w.heap.size, 1, none⟩ = some (.int .i64 f) ∧ W.cell? ⟨w.heap.size, 2, none⟩ = some (.slice (some ⟨g, 0, none⟩) l.length cap) ∧ W.cell? ⟨Y, 0, none⟩ = some (.int .i64 m)) := fun W hW => ⟨(hW.cell (p := ⟨w.heap.size, 0, none⟩) hww10).trans x0, (hW.cell (p := ⟨w.heap.size, 1, none⟩) hww10).trans x1, (hW.cell (p := ⟨w.heap.size, 2, none⟩) hww10).trans x2, (hW.cell (p := ⟨Y, 0, none⟩) hY10).trans y0⟩
          have bA := hide ((Below.refl w10.heap.size w10).drew)
          obtain ⟨U, hU⟩ : ∃ U, U = q % c := ⟨_, rfl⟩
          have hqm : (q : Int) % (c : Int) = (U : Int) := by rw [hU]; simp
          have hUc : U ≤ 60 := by omega
          have HU := hide hU
          clear hU y0
          generalize hST : startI l f m = ST at *
          have HST := hide hST
          clear hST
          go_wp2_with fail
          go_region_held_law (fun w' => w'.cell? ⟨w.heap.size, 0, none⟩ = some (.int .i64 c) ∧ w'.cell? ⟨w.heap.size, 1, none⟩ = some (.int .i64 f) ∧ w'.cell? ⟨w.heap.size, 2, none⟩ = some (.slice (some ⟨g, 0, none⟩) l.length cap) ∧ w'.cell? ⟨Y, 0, none⟩ = some (.int .i64 m)) (first | exact HK.out _ bA.out | exact HK.out _ hb11)
            (first | (go_at_call 138; refine (HSt.out _ ?hw).mono ?_; (case hw => (first | exact bA.out)); rintro e w11 ⟨rfl, hb11⟩))
          all_goals
            have HT11 := hide (HT10.out.keep hb11)
            have HY11 := hide (blk_keep HY10.out hb11)
            clear hb11 HSt HK bA HT10 HY10 x0 x1 x2 hww10 hY10
            have hv15 : IntKind.i64.wrap ((q : Int).tmod (c : Int) - (ST : Int)) = (U : Int) - (ST : Int) := by
              rw [Int.tmod_eq_emod_of_nonneg (by omega), hqm]
              exact wr64 (by omega) (by omega)
            generalize IntKind.i64.wrap ((q : Int).tmod (c : Int) - (ST : Int)) = V15 at hv15 ⊢
            have HV15 := hide hv15
            clear hv15
            go_upto_if 66 with fail
            go_cut [15] (fun _ wc => wc.heap[Y]? = some (.cells #[.int .i64 m, .int .i64 (spotI l i).lst, .int .i64 (spotI l i).cost] 78 (0, 0)) ∧ TrX w wc c f (.slice (some ⟨g, 0, none⟩) l.length cap) X n (begunL l c f cs q i TR.1))
            case first =>
              have hbd : Hid (begunL l c f cs q i TR.1 = if (U : Int) = (ST : Int) then setL TR.1 (numI l i) (wantsL cs (q / c * n + numI l i) (spotI l i).cost) else TR.1) := by
                unfold Hid begunL
                rw [Hm.out, ← HU.out, show ((m : Int).toNat) = m from rfl, HST.out, HN.out]
              by_cases hz0 : U = ST
              · have hz : (V15 == 0) = true := by rw [HV15.out, hz0]; simp
                have hbd2 : Hid (begunL l c f cs q i TR.1 = setL TR.1 (numI l i) (wantsL cs (q / c * n + numI l i) (spotI l i).cost)) := by unfold Hid; rw [hbd.out, if_pos (by rw [hz0])]
                have hkn := numI_lt hil
                rw [HN.out] at hkn
                have hkn' : (numI l i : Int) < n := by omega
                obtain ⟨x0, x1, x2⟩ := HT11.out.t.cells
                have y2 : w11.cell? ⟨Y, 2, none⟩ = some (.int .i64 (spotI l i).cost) := by rw [blk_cell HY11.out]; rfl
                have l0 := HT11.out.l _ hkn
                have lf := HT11.out.fz (numI l i)
                obtain ⟨D, hD⟩ : ∃ D, D = q / c := ⟨_, rfl⟩
                obtain ⟨DN, hDN⟩ : ∃ DN, DN = D * n := ⟨_, rfl⟩
                have hdq : D ≤ q := by rw [hD]; exact Nat.div_le_self q c
                have hdn : DN ≤ 400 * 300 := by rw [hDN]; exact Nat.mul_le_mul (by omega) (by omega)
                have hw1 : IntKind.i64.wrap (IntKind.i64.wrap (IntKind.i64.wrap ((q : Int).tdiv (c : Int)) * (n : Int)) + (numI l i : Int)) = ((q / c * n + numI l i : Nat) : Int) := by
                  have e1 : IntKind.i64.wrap ((q : Int).tdiv (c : Int)) = (D : Int) := by
                    rw [Int.tdiv_eq_ediv_of_nonneg (by omega), ← Int.natCast_ediv, ← hD]
                    exact wr64 (by omega) (by omega)
                  have e2 : IntKind.i64.wrap ((D : Int) * (n : Int)) = (DN : Int) := by
                    rw [← Int.natCast_mul, ← hDN]
                    exact wr64 (by omega) (by omega)
                  rw [e1, e2, ← hD, ← hDN]
                  have e3 : (DN : Int) + (numI l i : Int) = ((DN + numI l i : Nat) : Int) := by omega
                  rw [e3]
                  exact wr64 (by omega) (by omega)
                have hMM : q / c * n + numI l i ≤ 1000000 := by rw [← hD, ← hDN]; omega
                have HWt : Hid (∀ W, Below w.heap.size w W → Calls Tryz.prog 139 #[.slice a cs.length ccap, .int .i64 (IntKind.i64.wrap (IntKind.i64.wrap (IntKind.i64.wrap ((q : Int).tdiv (c : Int)) * (n : Int)) + (numI l i : Int))), .int .i64 (spotI l i).cost] W fun e w' => e = .returned (.int .i64 (wantsL cs (q / c * n + numI l i) (spotI l i).cost)) ∧ w' = W) := fun W hW => by
                  rw [hw1]
                  exact rWants_any cs a ccap (q / c * n + numI l i) (spotI l i).cost W (Hca.out.below hW) (by omega) (Nat.le_trans hMM (by omega))
                have bT := hide HT11.out.t.b.drew
                have HT12 := hide (HT11.out.set (numI l i) (wantsL cs (q / c * n + numI l i) (spotI l i).cost))
                generalize wantsL cs (q / c * n + numI l i) (spotI l i).cost = VW at *
                clear hbd hw1 hdn hdq hz0 hMM hD hDN
                have hXw := HT11.out.gt
                have x0s : (w11.setCell ⟨X, numI l i, none⟩ (.int .i64 VW)).cell? ⟨w.heap.size, 0, none⟩ = some (.int .i64 c) := by
                  rw [set_other (by intro e; injection e with e1 _; omega)]
                  exact x0
                have y2s : (w11.setCell ⟨X, numI l i, none⟩ (.int .i64 VW)).cell? ⟨Y, 2, none⟩ = some (.int .i64 (spotI l i).cost) := by
                  rw [set_other (by intro e; injection e with e1 _; exact hYX e1.symm)]
                  exact y2
                have HT12d : Hid (TrX w (w11.setCell ⟨X, numI l i, none⟩ (.int .i64 VW)).drew c f (.slice (some ⟨g, 0, none⟩) l.length cap) X n (setL TR.1 (numI l i) VW)) := ⟨HT12.out.t.drewN 1, HT12.out.l, HT12.out.fz, HT12.out.gt, HT12.out.lt⟩
                have HY12 : Hid ((w11.setCell ⟨X, numI l i, none⟩ (.int .i64 VW)).drew.heap[Y]? = some (.cells #[.int .i64 m, .int .i64 (spotI l i).lst, .int .i64 (spotI l i).cost] 78 (0, 0))) := by
                  show (w11.setCell ⟨X, numI l i, none⟩ (.int .i64 VW)).heap[Y]? = _
                  rw [Below.heap_setCell _ _ _ _ hYX]
                  exact HY11.out
                clear HT12 hkn x1 x2
                go_wp2_with fail
                go_region_held_law (fun w' => w'.cell? ⟨w.heap.size, 0, none⟩ = some (.int .i64 c) ∧ w'.cell? ⟨Y, 2, none⟩ = some (.int .i64 (spotI l i).cost)) (first | exact ⟨x0, y2⟩ | exact ⟨x0s, y2s⟩)
                  (first | (go_at_call 139; refine (HWt.out _ ?hw).mono ?_; (case hw => (first | exact bT.out)); rintro e w12 ⟨rfl, hw12⟩; subst hw12))
                all_goals
                  go_wp2_with fail
                  go_meet
                  case rel => exact ⟨HY12.out, by rw [hbd2.out]; exact HT12d.out⟩
              · have hz : (V15 == 0) = false := by rw [HV15.out]; simp; omega
                have hbd2 : Hid (begunL l c f cs q i TR.1 = TR.1) := by unfold Hid; rw [hbd.out, if_neg (by omega)]
                go_wp2_with fail
                go_meet
                case rel => exact ⟨HY11.out, by rw [hbd2.out]; exact HT11.out⟩
            case rest =>
              clear HT11 HY11 HV15 hUc hqm
              obtain ⟨hY, hT⟩ := hcut
              have hL1f := fine_begun hn Hs.out Hcb.out c f q i hfn.out (numI l i)
              generalize hL1 : begunL l c f cs q i TR.1 = L1 at *
              clear hL1
              have hkn := numI_lt hil
              rw [HN.out] at hkn
              have hkn' : (numI l i : Int) < n := by omega
              have hwcg : g < wc.heap.size := by have := hT.t.b.size; omega
              obtain ⟨k0, k1, k2, k3⟩ := (Hr.out.below hT.t.b hg) i hil
              obtain ⟨x0, x1, x2⟩ := hT.t.cells
              have bN := below_new wc (.cells #[.int .u8 (fsk l i).2.nm.toNat] 5)
              have hcv := bytes1 (fsk l i).2.nm (wc.alloc (.cells #[.int .u8 (fsk l i).2.nm.toNat] 5)) wc.heap.size (by rw [blk_cell (blk_new wc _ _)]; rfl)
              have HT13 := hide (hT.keep bN)
              have HY13 := hide (blk_keep hY bN)
              have l0 := (hT.keep bN).l _ hkn
              have lf := (hT.keep bN).fz (numI l i)
              have hrn : Hid (ranL (fsk l i).2.nm (numI l i) L1 = if 0 < L1 (numI l i) then [(fsk l i).2.nm] else [46]) := rfl
              have hls : Hid (lessL (numI l i) L1 = if 0 < L1 (numI l i) then setL L1 (numI l i) (L1 (numI l i) - 1) else L1) := rfl
              clear hY hT k0 k2 k3
              go_upto_if 94 with fail
              go_cut [7] (fun sv wd => sv = .string (bs (TR.2 ++ ranL (fsk l i).2.nm (numI l i) L1)) ∧ wd.heap[Y]? = some (.cells #[.int .i64 m, .int .i64 (spotI l i).lst, .int .i64 (spotI l i).cost] 78 (0, 0)) ∧ TrX w wd c f (.slice (some ⟨g, 0, none⟩) l.length cap) X n (lessL (numI l i) L1))
              case first =>
                clear k1 x0 x1 x2 hcv bN
                by_cases hp : 0 < L1 (numI l i)
                · have e1 : Hid (ranL (fsk l i).2.nm (numI l i) L1 = [(fsk l i).2.nm]) := by unfold Hid; rw [hrn.out, if_pos hp]
                  have e2 : Hid (lessL (numI l i) L1 = setL L1 (numI l i) (L1 (numI l i) - 1)) := by unfold Hid; rw [hls.out, if_pos hp]
                  obtain ⟨X1, a1, z1, ee1⟩ := add_named2 (bs TR.2) ⟨#[(fsk l i).2.nm]⟩ (by rw [bs_size, show (ByteArray.size ⟨#[(fsk l i).2.nm]⟩) = 1 from rfl]; omega)
                  have EX : Hid (X1 = bs (TR.2 ++ [(fsk l i).2.nm])) := by unfold Hid; rw [← bs_list X1, ee1, bs_data]
                  have HT14 := hide (HT13.out.set (numI l i) (L1 (numI l i) - 1))
                  have HY14 : Hid (((wc.alloc (.cells #[.int .u8 (fsk l i).2.nm.toNat] 5)).setCell ⟨X, numI l i, none⟩ (.int .i64 (L1 (numI l i) - 1))).heap[Y]? = some (.cells #[.int .i64 m, .int .i64 (spotI l i).lst, .int .i64 (spotI l i).cost] 78 (0, 0))) := by
                    unfold Hid
                    rw [Below.heap_setCell _ _ _ _ hYX]
                    exact HY13.out
                  clear ee1 z1
                  go_wp2_with fail
                  go_meet
                  case rel => exact ⟨by rw [e1.out, EX.out], HY14.out, by rw [e2.out]; exact HT14.out⟩
                · have e1 : Hid (ranL (fsk l i).2.nm (numI l i) L1 = [46]) := by unfold Hid; rw [hrn.out, if_neg hp]
                  have e2 : Hid (lessL (numI l i) L1 = L1) := by unfold Hid; rw [hls.out, if_neg hp]
                  obtain ⟨X1, a1, z1, ee1⟩ := add_named2 (bs TR.2) ⟨#[46]⟩ (by rw [bs_size, show (ByteArray.size ⟨#[46]⟩) = 1 from rfl]; omega)
                  have EX : Hid (X1 = bs (TR.2 ++ [46])) := by unfold Hid; rw [← bs_list X1, ee1, bs_data]
                  clear ee1 z1
                  go_wp2_with fail
                  go_meet
                  case rel => exact ⟨by rw [e1.out, EX.out], HY13.out, by rw [e2.out]; exact HT13.out⟩
              case rest =>
                clear HT13 HY13 l0 lf k1 x0 x1 x2 hcv bN
                obtain ⟨rfl, hY, hT⟩ := hcut
                have y1 : wc.cell? ⟨Y, 1, none⟩ = some (.int .i64 (spotI l i).lst) := by rw [blk_cell hY]; rfl
                have l2 := hT.l _ hkn
                have HT := hide hT
                have hS2 : (TR.2 ++ ranL (fsk l i).2.nm (numI l i) L1).length ≤ 3 * q + 1 := by
                  have : (ranL (fsk l i).2.nm (numI l i) L1).length = 1 := by rw [hrn.out]; split <;> rfl
                  rw [List.length_append, this]
                  omega
                clear hT hY hrn hls hL1f
                generalize TR.2 ++ ranL (fsk l i).2.nm (numI l i) L1 = S2 at *
                generalize lessL (numI l i) L1 = L2 at *
                have hmk2 := hmk.out L2
                have fin : Hid (∀ M, markL l c f q i L2 = M → trcL l c f cs (q + 1) = (L2, S2 ++ M)) := fun M hM => by rw [hst2.out, hM]
                have hnoE : Hid (E = false → markL l c f q i L2 = []) := fun h => by
                  rw [hmk2, if_neg]
                  rintro ⟨h1, _⟩
                  rw [← HEd.out] at h
                  simp at h
                  exact h h1
                have hyes : Hid (E = true → (i : Int) = (spotI l i).lst → 0 < L2 (numI l i) → markL l c f q i L2 = [33, (fsk l i).2.nm]) := fun h h2 h3 => by
                  rw [hmk2, if_pos]
                  rw [← HEd.out] at h
                  exact ⟨by simpa using h, h2, h3⟩
                have hnoI : Hid (¬ (i : Int) = (spotI l i).lst → markL l c f q i L2 = []) := fun h => by rw [hmk2, if_neg (fun z => h z.2.1)]
                have hnoL : Hid (¬ 0 < L2 (numI l i) → markL l c f q i L2 = []) := fun h => by rw [hmk2, if_neg (fun z => h z.2.2)]
                clear hmk2 hmk hst2 HEd hfn
                cases E with
                | false =>
                  have hf0 := hide (fin.out _ (hnoE.out rfl))
                  clear fin hnoE hyes hnoI hnoL
                  go_wp2_with fail
                  go_roundw
                  case rel => exact ⟨q + 1, by omega, by go_num, by rw [hf0.out, List.append_nil], HT.out.ext (by rw [hf0.out])⟩
                  case measure => simp [intOf]; omega
                | true =>
                  by_cases hi : (i : Int) = (spotI l i).lst
                  · have hi' : ((i : Int) == (spotI l i).lst) = true := by simpa using hi
                    by_cases hp : 0 < L2 (numI l i)
                    · have hf0 := hide (fin.out _ (hyes.out rfl hi hp))
                      obtain ⟨X1, a1, z1, ee1⟩ := add_named2 (bs S2) ⟨#[33]⟩ (by rw [bs_size, show (ByteArray.size ⟨#[33]⟩) = 1 from rfl]; omega)
                      rw [bs_size, show (ByteArray.size ⟨#[33]⟩) = 1 from rfl] at z1
                      obtain ⟨X2, a2, z2, ee2⟩ := add_named2 X1 ⟨#[(fsk l i).2.nm]⟩ (by rw [show (ByteArray.size ⟨#[(fsk l i).2.nm]⟩) = 1 from rfl]; omega)
                      have EX : Hid (X2 = bs (S2 ++ [33, (fsk l i).2.nm])) := by
                        unfold Hid
                        rw [← bs_list X2, ee2, ee1, bs_data]
                        simp
                      clear fin hnoE hyes hnoI hnoL ee1 ee2 z1 z2 hi
                      go_wp2_with fail
                      go_roundw
                      case rel => exact ⟨q + 1, by omega, by go_num, by rw [hf0.out, EX.out], HT.out.ext (by rw [hf0.out])⟩
                      case measure => simp [intOf]; omega
                    · have hf0 := hide (fin.out _ (hnoL.out hp))
                      clear fin hnoE hyes hnoI hnoL hi
                      go_wp2_with fail
                      go_roundw
                      case rel => exact ⟨q + 1, by omega, by go_num, by rw [hf0.out, List.append_nil], HT.out.ext (by rw [hf0.out])⟩
                      case measure => simp [intOf]; omega
                  · have hi' : ((i : Int) == (spotI l i).lst) = false := by simpa using hi
                    have hf0 := hide (fin.out _ (hnoI.out hi))
                    clear fin hnoE hyes hnoI hnoL hi
                    go_wp2_with fail
                    go_roundw
                    case rel => exact ⟨q + 1, by omega, by go_num, by rw [hf0.out, List.append_nil], HT.out.ext (by rw [hf0.out])⟩
                    case measure => simp [intOf]; omega
    · have hlt' : ¬ (q : Int) < tk := by omega
      have hqe : q = tk := by omega
      subst hqe
      clear hT
      generalize hRR : bs (trcL l c f cs q).2 = RR at *
      have HRR := hide hRR
      clear hRR
      go_wp2
      go_ret
      exact ⟨by rw [HRR.out]; rfl, HT.out.t.b⟩
end Go.Proofs.YtbdffcjganlblaaGreatDoor

namespace Go.Proofs.YtbdffcjganlblaaGreatDoor
open Go.RowKit
set_option linter.unusedVariables false
set_option linter.unusedSimpArgs false

set_option maxRecDepth 100000 in
set_option maxHeartbeats 1000000 in
theorem rJobs_nil (c f : Nat) (w : World) : Calls Tryz.prog 23 #[.agg #[.int .i64 c, .int .i64 f, .slice none 0 0]] w fun e w' => e = .returned (.int .i64 0) ∧ Below w.heap.size w w' := by
  have H0 := hide (TBx.start w c f (.slice none 0 0))
  go_enter Tryz.func23, Tryz.ntmps23
  go_wp2_with fail
  go_loopw [3, 4] (fun n i wr => i = .int .i64 0 ∧ n = .int .i64 0 ∧ TBx w wr c f (.slice none 0 0)) (fun _ _ _ => 0)
  case atStart => exact ⟨rfl, rfl, H0.out⟩
  case round =>
    clear H0
    obtain ⟨rfl, rfl, hT⟩ := hrel
    obtain ⟨x0, x1, x2⟩ := hT.cells
    have HT := hide hT
    clear hT
    go_wp2
    go_ret
    exact ⟨rfl, HT.out.b⟩

set_option maxRecDepth 100000 in
set_option maxHeartbeats 1000000 in
theorem rat_nil (c f u : Nat) (w : World) (hf1 : 1 ≤ f) (hf2 : f ≤ 60) (hu : u ≤ 60) : Calls Tryz.prog 137 #[.agg #[.int .i64 c, .int .i64 f, .slice none 0 0], .int .i64 u] w fun e w' => e = .returned (.tuple #[.int .i64 (-1), .bool false]) ∧ Below w.heap.size w w' := by
  have H0 := hide (TBx.start w c f (.slice none 0 0))
  obtain ⟨e1, e2⟩ := quo_wraps u f (by omega)
  have hb := frame_base u f
  generalize u / f = J at *
  generalize J * f = M at *
  go_enter Tryz.func137, Tryz.ntmps137
  go_wp2_with fail
  rw [e1, e2]
  clear e1 e2
  go_loopw [7, 8] (fun fv i wr => i = .int .i64 0 ∧ TBx w wr c f (.slice none 0 0)) (fun _ _ _ => 0)
  case atStart => exact ⟨rfl, H0.out⟩
  case round =>
    clear H0
    obtain ⟨rfl, hT⟩ := hrel
    obtain ⟨x0, x1, x2⟩ := hT.cells
    have HT := hide hT
    clear hT
    go_wp2
    exact bodyPost_ret (v := .tuple #[.int .i64 (-1), .bool false]) (by simp [results, Tryz.results137, go_sem]) rfl ⟨rfl, HT.out.b⟩

set_option maxRecDepth 100000 in
set_option maxHeartbeats 4000000 in
theorem rTrace_nil (c f tk : Nat) (cs : List Int) (a : Option Addr) (ccap : Nat) (w : World) (hc1 : 1 ≤ c) (hc2 : c ≤ 60) (hf1 : 1 ≤ f) (hf2 : f ≤ 60) (htk : tk ≤ 400) :
    Calls Tryz.prog 99 #[.agg #[.int .i64 c, .int .i64 f, .slice none 0 0], .int .i64 tk, .slice a cs.length ccap] w fun e w' => e = .returned (.string (bs (trcL [] c f cs tk).2)) ∧ Below w.heap.size w w' := by
  have H0 := hide (TBx.start w c f (.slice none 0 0))
  have HJb := hide (rJobs_nil c f (w.alloc (.cells #[.int .i64 c, .int .i64 f, .slice none 0 0] 39)))
  have hmk : ∀ w : World, (Instr.makeSlice 25 (.int .i64 0) (.int .i64 0)).run Tryz.prog w = .ok (.slice (some ⟨w.heap.size, 0, none⟩) 0 0) (w.alloc (.cells (zerosA 0) 3)) := fun w => make_ints 0 (by omega) w
  go_enter Tryz.func99, Tryz.ntmps99
  go_wp2_with fail
  generalize w.alloc (.cells #[.int .i64 c, .int .i64 f, .slice none 0 0] 39) = W0 at *
  refine HJb.out.mono ?_
  rintro e w1 ⟨rfl, hb1⟩
  have H1 := hide (H0.out.keep hb1)
  clear hb1 HJb H0
  have H2 := hide (H1.out.alloc (.cells (zerosA 0) 3))
  go_wp2_with fail
  generalize w1.alloc (.cells (zerosA 0) 3) = w2 at *
  generalize w1.heap.size = X at *
  clear hmk H1
  go_loopw [7, 10] (fun sv uv wr => ∃ q : Nat, q ≤ tk ∧ uv = .int .i64 q ∧ sv = .string (bs (trcL [] c f cs q).2) ∧ TBx w wr c f (.slice none 0 0)) (fun _ uv _ => tk - (intOf uv).toNat)
  case atStart => exact ⟨0, by omega, rfl, rfl, H2.out⟩
  case round =>
    clear H2
    obtain ⟨q, hq, rfl, rfl, hT⟩ := hrel
    obtain ⟨x0, x1, x2⟩ := hT.cells
    have HT := hide hT
    by_cases hlt : q < tk
    · have hlt' : (q : Int) < tk := by omega
      have hlen := trc_len [] c f cs q
      have hww : w.heap.size < wr.heap.size := blk_lt hT.h
      have hml := Nat.mod_lt q (show 0 < c by omega)
      have hmod : ((q : Int) % c) = ((q % c : Nat) : Int) := by simp
      have hc0 : ¬ (c : Int) = 0 := by omega
      have HAt := hide (fun W (hW : Below wr.heap.size wr W) => (rat_nil c f (q % c) W hf1 hf2 (by omega)).mono (fun e w' h => (⟨h.1, hW.trans (h.2.mono hW.size)⟩ : e = .returned (.tuple #[.int .i64 (-1), .bool false]) ∧ Below wr.heap.size wr w')))
      have HK : Hid (∀ W, Below wr.heap.size wr W → W.cell? ⟨w.heap.size, 0, none⟩ = some (.int .i64 c) ∧ W.cell? ⟨w.heap.size, 1, none⟩ = some (.int .i64 f) ∧ W.cell? ⟨w.heap.size, 2, none⟩ = some (.slice none 0 0) ∧ Below wr.heap.size wr W) := fun W hW => ⟨(hW.cell (p := ⟨w.heap.size, 0, none⟩) hww).trans x0, (hW.cell (p := ⟨w.heap.size, 1, none⟩) hww).trans x1, (hW.cell (p := ⟨w.heap.size, 2, none⟩) hww).trans x2, hW⟩
      have hst2 : Hid (trcL [] c f cs (q + 1) = ((trcL [] c f cs q).1, (trcL [] c f cs q).2 ++ [46])) := rfl
      rw [← hmod] at HAt
      clear hmod
      generalize trcL [] c f cs q = TR at *
      have bA := hide ((Below.refl wr.heap.size wr).drew)
      obtain ⟨X1, a1, z1, e1⟩ := add_named2 (bs TR.2) ⟨#[46]⟩ (by rw [bs_size, show (ByteArray.size ⟨#[46]⟩) = 1 from rfl]; omega)
      have EX : Hid (X1 = bs (TR.2 ++ [46])) := by unfold Hid; rw [← bs_list X1, e1, bs_data]
      clear hT e1 z1
      go_wp2_with fail
      go_region_held_law (fun w' => w'.cell? ⟨w.heap.size, 0, none⟩ = some (.int .i64 c) ∧ w'.cell? ⟨w.heap.size, 1, none⟩ = some (.int .i64 f) ∧ w'.cell? ⟨w.heap.size, 2, none⟩ = some (.slice none 0 0) ∧ Below wr.heap.size wr w') (first | exact HK.out _ bA.out | exact HK.out _ hb8)
        (first | (go_at_call 137; refine (HAt.out _ ?hw).mono ?_; (case hw => (first | exact bA.out)); rintro e w8 ⟨rfl, hb8⟩))
      all_goals
        have HT8 := hide (HT.out.keep hb8)
        clear HK HAt HT x0 x1 x2
        go_wp2
        go_roundw
        case rel => exact ⟨q + 1, by omega, by go_num, by rw [hst2.out, EX.out], HT8.out⟩
        case measure => simp [intOf]; omega
    · have hlt' : ¬ (q : Int) < tk := by omega
      have hqe : q = tk := by omega
      subst hqe
      clear hT
      generalize hRR : bs (trcL [] c f cs q).2 = RR at *
      have HRR := hide hRR
      clear hRR
      go_wp2
      go_ret
      exact ⟨by rw [HRR.out]; rfl, HT.out.b⟩
end Go.Proofs.YtbdffcjganlblaaGreatDoor

namespace Go.Proofs.YtbdffcjganlblaaGreatDoor
set_option linter.unusedVariables false
set_option linter.unusedSimpArgs false

/-! ### Slices that lie one behind the other -/
/-- The slices stand in the order of their frames, and their budgets fit. -/
structure Goes (l : List FSl) (cyc fr : Nat) : Prop where
  ris : ∀ i, i + 1 < l.length → (fsk l i).1 ≤ (fsk l (i + 1)).1
  bud : ∀ i, i < l.length → 1 ≤ (fsk l i).2.bud
  fit : ∀ i, i < l.length → usedJ (l.take i) (fsk l i).1 + (fsk l i).2.bud ≤ fr
  ends : ∀ i, i < l.length → ((fsk l i).1 + 1) * fr ≤ cyc
  fr1 : 1 ≤ fr
  c1 : 1 ≤ cyc
/-- Where slice i ends. -/
def stopI (l : List FSl) (fr i : Nat) : Nat := startI l fr i + (fsk l i).2.bud
theorem mul_next (a f : Nat) : (a + 1) * f = a * f + f := Nat.succ_mul a f
theorem Goes.fin_frame {l : List FSl} {cyc fr : Nat} (G : Goes l cyc fr) {i : Nat} (h : i < l.length) : stopI l fr i ≤ ((fsk l i).1 + 1) * fr := by
  have := G.fit i h
  unfold stopI startI
  rw [mul_next]
  omega
theorem Goes.fin_cyc {l : List FSl} {cyc fr : Nat} (G : Goes l cyc fr) {i : Nat} (h : i < l.length) : stopI l fr i ≤ cyc := Nat.le_trans (G.fin_frame h) (G.ends i h)
theorem Goes.start_fin {l : List FSl} {cyc fr : Nat} (G : Goes l cyc fr) {i : Nat} (h : i < l.length) : startI l fr i < stopI l fr i := by
  have := G.bud i h
  unfold stopI
  omega
theorem Goes.next {l : List FSl} {cyc fr : Nat} (G : Goes l cyc fr) {i : Nat} (h : i + 1 < l.length) : stopI l fr i ≤ startI l fr (i + 1) := by
  by_cases e : (fsk l i).1 = (fsk l (i + 1)).1
  · have h1 := usedJ_next (l := l) (q := i) (j := (fsk l (i + 1)).1) (by omega)
    rw [if_pos e] at h1
    unfold stopI startI
    rw [h1, e]
    omega
  · have h1 := G.ris i h
    have h2 : (fsk l i).1 + 1 ≤ (fsk l (i + 1)).1 := by omega
    have h3 := Nat.mul_le_mul_right fr h2
    have h4 := G.fin_frame (i := i) (by omega)
    show stopI l fr i ≤ (fsk l (i + 1)).1 * fr + _
    omega
theorem Goes.apart {l : List FSl} {cyc fr : Nat} (G : Goes l cyc fr) {i : Nat} : ∀ d, i + 1 + d < l.length → stopI l fr i ≤ startI l fr (i + 1 + d)
  | 0, h => Goes.next G h
  | d + 1, h => by
    have ih := Goes.apart G (i := i) d (by omega)
    have h1 := G.next (i := i + 1 + d) (by omega)
    have h2 := G.start_fin (i := i + 1 + d) (by omega)
    have e : i + 1 + (d + 1) = i + 1 + d + 1 := by omega
    rw [e]
    omega
theorem Goes.lt {l : List FSl} {cyc fr : Nat} (G : Goes l cyc fr) {i k : Nat} (h : i < k) (hk : k < l.length) : stopI l fr i ≤ startI l fr k := by
  have := G.apart (i := i) (k - (i + 1)) (by omega)
  rwa [show i + 1 + (k - (i + 1)) = k by omega] at this
theorem Goes.frame {l : List FSl} {cyc fr : Nat} (G : Goes l cyc fr) {i u : Nat} (h : i < l.length) (h1 : startI l fr i ≤ u) (h2 : u < stopI l fr i) : u / fr = (fsk l i).1 := by
  have h3 := G.fin_frame h
  have h4 : (fsk l i).1 * fr ≤ startI l fr i := by unfold startI; omega
  have f0 : 0 < fr := G.fr1
  apply Nat.le_antisymm
  · exact Nat.le_of_lt_succ ((Nat.div_lt_iff_lt_mul f0).2 (by show u < ((fsk l i).1 + 1) * fr; omega))
  · exact (Nat.le_div_iff_mul_le f0).2 (by omega)
theorem Goes.hit {l : List FSl} {cyc fr : Nat} (G : Goes l cyc fr) {i u : Nat} (h : i < l.length) (h1 : startI l fr i ≤ u) (h2 : u < stopI l fr i) : hitI l fr u i := by
  have e := G.frame h h1 h2
  refine ⟨e.symm, ?_⟩
  rw [e]
  exact h2
theorem Goes.atu {l : List FSl} {cyc fr : Nat} (G : Goes l cyc fr) {i u : Nat} (h : i < l.length) (h1 : startI l fr i ≤ u) (h2 : u < stopI l fr i) : atL l fr u = some i := by
  have hh := G.hit h h1 h2
  have e := G.frame h h1 h2
  rcases atTo_spec l fr u l.length with ⟨_, hn⟩ | ⟨k, hk, hkl, hkh, hkn⟩
  · exact absurd hh (hn i h)
  · have : k = i := by
      rcases Nat.lt_trichotomy k i with h5 | h5 | h5
      · exfalso
        obtain ⟨a, b⟩ := hkh
        have : endI l fr (u / fr) k = stopI l fr k := by rw [← a]; rfl
        have := G.lt h5 h
        omega
      · exact h5
      · exact absurd hh (hkn i h5)
    rw [← this]
    exact hk
theorem used_low {l : List FSl} {fr : Nat} {u : Nat} : ∀ q, q ≤ l.length → (∀ k, k < q → ¬ hitI l fr u k) → u / fr * fr + usedJ (l.take q) (u / fr) ≤ u
  | 0, _, _ => by simp [usedJ]; exact Nat.div_mul_le_self u fr
  | q + 1, h, hn => by
    have ih := used_low q (by omega) (fun k hk => hn k (by omega))
    rw [usedJ_next (by omega)]
    split
    · rename_i e
      have : ¬ u < endI l fr (u / fr) q := fun h' => hn q (by omega) ⟨e, h'⟩
      unfold endI at this
      omega
    · omega
theorem at_some {l : List FSl} {fr : Nat} {i u : Nat} (h : atL l fr u = some i) : i < l.length ∧ startI l fr i ≤ u ∧ u < stopI l fr i ∧ endI l fr (u / fr) i = stopI l fr i := by
  rcases atTo_spec l fr u l.length with ⟨h1, _⟩ | ⟨k, hk, hkl, hkh, hkn⟩
  · have e : atL l fr u = none := h1
    rw [e] at h
    cases h
  · have e : atL l fr u = some k := hk
    rw [e] at h
    obtain rfl : k = i := by injection h
    obtain ⟨a, b⟩ := hkh
    have e2 : endI l fr (u / fr) k = stopI l fr k := by rw [← a]; rfl
    refine ⟨hkl, ?_, by omega, e2⟩
    have := used_low (l := l) (fr := fr) (u := u) k (by omega) hkn
    unfold startI
    rw [a]
    exact this
theorem at_none {l : List FSl} {fr : Nat} {u : Nat} (h : ∀ i, i < l.length → startI l fr i ≤ u → ¬ u < stopI l fr i) : atL l fr u = none := by
  cases e : atL l fr u with
  | none => rfl
  | some i =>
    obtain ⟨a, b, c, _⟩ := at_some e
    exact absurd c (h i a b)

/-! ### The jobs by their numbers -/
/-- The first slices of the jobs, among the first q. -/
def firsts (l : List FSl) : Nat → List Nat
  | 0 => []
  | q + 1 => if (spotI l q).fst = q then firsts l q ++ [q] else firsts l q
theorem firsts_len (l : List FSl) : ∀ q, (firsts l q).length = cntTo l q
  | 0 => rfl
  | q + 1 => by
    rw [firsts, cntTo]
    split
    · simp [firsts_len l q]
    · exact firsts_len l q
theorem firsts_pre (l : List FSl) (q : Nat) : ∀ d, ∃ r, firsts l (q + d) = firsts l q ++ r
  | 0 => ⟨[], by simp⟩
  | d + 1 => by
    obtain ⟨r, h⟩ := firsts_pre l q d
    rw [← Nat.add_assoc, firsts]
    split
    · exact ⟨r ++ [q + d], by rw [h, List.append_assoc]⟩
    · exact ⟨r, h⟩
/-- The first slice of job number k. -/
def jobI (l : List FSl) (k : Nat) : Nat := (firsts l l.length).getD k 0
theorem jobI_first {l : List FSl} {m : Nat} (hm : m < l.length) (h : (spotI l m).fst = m) : jobI l (cntTo l m) = m := by
  obtain ⟨r, hr⟩ := firsts_pre l (m + 1) (l.length - (m + 1))
  rw [show m + 1 + (l.length - (m + 1)) = l.length by omega] at hr
  have e : firsts l (m + 1) = firsts l m ++ [m] := by rw [firsts, if_pos h]
  unfold jobI
  rw [hr, e, ← firsts_len l m]
  simp [List.getD_eq_getElem?_getD]
theorem spotI_self {l : List FSl} {i m : Nat} (h : (spotI l i).fst = (m : Int)) (hs : sameJ l i m) : (spotI l m).fst = m := by
  rw [spotI_same hs, h]
theorem jobI_num {l : List FSl} {i : Nat} (hi : i < l.length) : (spotI l i).fst = (jobI l (numI l i) : Int) ∧ jobI l (numI l i) ≤ i ∧ sameJ l i (jobI l (numI l i)) ∧ ∀ k, k < jobI l (numI l i) → ¬ sameJ l i k := by
  obtain ⟨m, hm, hmi, hs, hn⟩ := spotI_fst hi
  have e : jobI l (numI l i) = m := by
    unfold numI
    rw [hm]
    exact jobI_first (by omega) (spotI_self hm hs)
  rw [e]
  exact ⟨hm, hmi, hs, hn⟩
theorem sameJ_iff {l : List FSl} {i k : Nat} (hi : i < l.length) (hk : k < l.length) : numI l i = numI l k ↔ sameJ l i k := by
  constructor
  · intro h
    obtain ⟨_, _, a, _⟩ := jobI_num hi
    obtain ⟨_, _, b, _⟩ := jobI_num hk
    rw [h] at a
    exact ⟨b.1.symm.trans a.1, b.2.symm.trans a.2⟩
  · intro h
    unfold numI
    rw [spotI_same h]
def budK (l : List FSl) (k : Nat) : Nat := (spotI l (jobI l k)).cost
def nmK (l : List FSl) (k : Nat) : UInt8 := (fsk l (jobI l k)).2.nm
theorem budK_num {l : List FSl} {i : Nat} (hi : i < l.length) : budK l (numI l i) = (spotI l i).cost := by
  unfold budK
  rw [spotI_same (jobI_num hi).2.2.1]
theorem nmK_num {l : List FSl} {i : Nat} (hi : i < l.length) : nmK l (numI l i) = (fsk l i).2.nm := (jobI_num hi).2.2.1.1
/-- What job k has had in the first q slices. -/
def hadK (l : List FSl) (k q : Nat) : Nat := (spotTo l (fsk l (jobI l k)).2.nm (fsk l (jobI l k)).2.job q).cost
theorem hadK_all (l : List FSl) (k : Nat) : hadK l k l.length = budK l k := rfl
theorem isOf_num {l : List FSl} {i q : Nat} (hi : i < l.length) (hq : q < l.length) : isOf (fsk l q) (fsk l (jobI l (numI l i))).2.nm (fsk l (jobI l (numI l i))).2.job ↔ numI l q = numI l i := by
  obtain ⟨_, _, a, _⟩ := jobI_num hi
  rw [eq_comm, sameJ_iff hi hq, a.1, a.2]
  exact Iff.rfl
theorem hadK_next {l : List FSl} {i q : Nat} (hi : i < l.length) (hq : q < l.length) : hadK l (numI l i) (q + 1) = hadK l (numI l i) q + if numI l q = numI l i then (fsk l q).2.bud else 0 := by
  unfold hadK
  by_cases h : numI l q = numI l i
  · rw [if_pos h, spotTo_yes ((isOf_num hi hq).2 h)]
  · rw [if_neg h, spotTo_no (fun h' => h ((isOf_num hi hq).1 h'))]
    rfl
theorem hadK_mono {l : List FSl} {i : Nat} (hi : i < l.length) (q : Nat) : ∀ d, q + d ≤ l.length → hadK l (numI l i) q ≤ hadK l (numI l i) (q + d)
  | 0, _ => Nat.le_refl _
  | d + 1, h => by
    have := hadK_mono hi q d (by omega)
    rw [← Nat.add_assoc, hadK_next hi (by omega)]
    omega
theorem hadK_le {l : List FSl} {i q : Nat} (hi : i < l.length) (hq : q ≤ l.length) : hadK l (numI l i) q ≤ budK l (numI l i) := by
  have := hadK_mono hi q (l.length - q) (by omega)
  rwa [show q + (l.length - q) = l.length by omega, hadK_all] at this
theorem num_surj {l : List FSl} : ∀ q, q ≤ l.length → ∀ k, k < cntTo l q → ∃ i, i < q ∧ numI l i = k ∧ jobI l k = i
  | 0, _, k, h => by simp [cntTo] at h
  | q + 1, hq, k, h => by
    rw [cntTo] at h
    split at h
    · rename_i e
      by_cases hk : k = cntTo l q
      · refine ⟨q, by omega, ?_, by rw [hk]; exact jobI_first (m := q) (by omega) e⟩
        unfold numI
        rw [e, hk]
        rfl
      · obtain ⟨i, a, b, c⟩ := num_surj (l := l) q (by omega) k (by omega)
        exact ⟨i, by omega, b, c⟩
    · obtain ⟨i, a, b, c⟩ := num_surj (l := l) q (by omega) k h
      exact ⟨i, by omega, b, c⟩
end Go.Proofs.YtbdffcjganlblaaGreatDoor

namespace Go.Proofs.YtbdffcjganlblaaGreatDoor
set_option linter.unusedVariables false
set_option linter.unusedSimpArgs false

/-! ### The program's run, as a walk over the jobs' numbers -/
structure PZ where
  left : Nat → Nat
  want : Nat → Int
  beg : Nat
  out : List UInt8
def setN (L : Nat → Nat) (k v : Nat) : Nat → Nat := fun j => if j = k then v else L j
def prBegin (l : List FSl) (cs : List Int) (k : Nat) (x : PZ) : PZ := ⟨setN x.left k (budK l k), setL x.want k (wantsL cs x.beg (budK l k)), x.beg + 1, x.out⟩
def prGive (l : List FSl) (k : Nat) (x : PZ) : PZ :=
  if x.want k = 0 then ⟨setN x.left k (x.left k - 1), x.want, x.beg, x.out ++ [46]⟩
  else ⟨setN x.left k (x.left k - 1), setL x.want k (x.want k - 1), x.beg, x.out ++ [nmK l k] ++ if x.left k - 1 = 0 ∧ 0 < x.want k - 1 then [33, nmK l k] else []⟩
def prTick (l : List FSl) (cs : List Int) (U : Option Nat) (x : PZ) : PZ :=
  match U with
  | none => ⟨x.left, x.want, x.beg, x.out ++ [46]⟩
  | some k => prGive l k (if x.left k = 0 then prBegin l cs k x else x)
def unitL (l : List FSl) (fr p : Nat) : Option Nat := (atL l fr p).map (numI l)
def prT (l : List FSl) (cyc fr : Nat) (cs : List Int) : Nat → PZ
  | 0 => ⟨fun _ => 0, fun _ => 0, 0, []⟩
  | u + 1 => prTick l cs (unitL l fr (u % cyc)) (prT l cyc fr cs u)

/-- What job k has had at the time p of the cycle, where slice i is the first that has not ended. -/
def usedK (l : List FSl) (fr i p k : Nat) : Nat := hadK l k i + if i < l.length ∧ numI l i = k then p - startI l fr i else 0
/-- How many jobs have begun in the cycle by then. -/
def begK (l : List FSl) (fr i p : Nat) : Nat := if i < l.length ∧ startI l fr i < p then cntTo l (i + 1) else cntTo l i
structure PI (l : List FSl) (fr c p i : Nat) (x : PZ) : Prop where
  i1 : i ≤ l.length
  i2 : ∀ k, k < i → stopI l fr k ≤ p
  i3 : i < l.length → p < stopI l fr i
  beg : x.beg = c * cntTo l l.length + begK l fr i p
  left : ∀ k, k < l.length → x.left (numI l k) = if usedK l fr i p (numI l k) = 0 then 0 else budK l (numI l k) - usedK l fr i p (numI l k)

theorem PI.none {l : List FSl} {cyc fr : Nat} (G : Goes l cyc fr) {c p i : Nat} {x : PZ} (h : PI l fr c p i x) (hg : i < l.length → p < startI l fr i) (o : List UInt8) : atL l fr p = none ∧ PI l fr c (p + 1) i ⟨x.left, x.want, x.beg, o⟩ ∧ ∀ k, usedK l fr i (p + 1) k = usedK l fr i p k := by
  have hu : ∀ k, usedK l fr i (p + 1) k = usedK l fr i p k := by
    intro k
    unfold usedK
    by_cases hc : i < l.length ∧ numI l i = k
    · have := hg hc.1
      rw [if_pos hc, if_pos hc]
      omega
    · rw [if_neg hc, if_neg hc]
  refine ⟨?_, ⟨h.i1, fun k hk => by have := h.i2 k hk; omega, fun hi => by have := hg hi; have := G.start_fin hi; omega, ?_, ?_⟩, hu⟩
  · apply at_none
    intro k hk h1 h2
    rcases Nat.lt_or_ge k i with h3 | h3
    · have := h.i2 k h3
      omega
    · have h4 := hg (by omega)
      rcases Nat.lt_or_ge i k with h5 | h5
      · have := G.lt h5 hk
        have := G.start_fin (i := i) (by omega)
        omega
      · have : k = i := by omega
        subst this
        omega
  · rw [h.beg]
    unfold begK
    by_cases hi : i < l.length
    · have := hg hi
      rw [if_neg (by omega), if_neg (by omega)]
    · rw [if_neg (by omega), if_neg (by omega)]
  · intro k hk
    rw [hu]
    exact h.left k hk
/-- Behind the tick of slice i. -/
theorem used_next {l : List FSl} {fr : Nat} {p i : Nat} (hi : i < l.length) (h1 : startI l fr i ≤ p) (h2 : p < stopI l fr i) {k : Nat} (hk : k < l.length) :
    usedK l fr i (p + 1) (numI l k) = usedK l fr i p (numI l k) + if numI l i = numI l k then 1 else 0 := by
  unfold usedK
  by_cases h : numI l i = numI l k
  · rw [if_pos ⟨hi, h⟩, if_pos ⟨hi, h⟩, if_pos h]
    omega
  · rw [if_neg (fun x => h x.2), if_neg (fun x => h x.2), if_neg h]
theorem used_end {l : List FSl} {cyc fr : Nat} (G : Goes l cyc fr) {i : Nat} (hi : i < l.length) {k : Nat} (hk : k < l.length) : usedK l fr (i + 1) (stopI l fr i) (numI l k) = usedK l fr i (stopI l fr i) (numI l k) := by
  unfold usedK
  rw [hadK_next hk hi]
  by_cases h : numI l i = numI l k
  · rw [if_pos h, if_pos (show i < l.length ∧ numI l i = numI l k from ⟨hi, h⟩)]
    have : stopI l fr i - startI l fr i = (fsk l i).2.bud := by unfold stopI; omega
    rw [this]
    split
    · rename_i hc
      have := G.next hc.1
      omega
    · omega
  · rw [if_neg h, if_neg (show ¬ (i < l.length ∧ numI l i = numI l k) from fun x => h x.2)]
    split
    · rename_i hc
      have := G.next hc.1
      omega
    · omega
theorem used_lt {l : List FSl} {fr : Nat} {p i : Nat} (hi : i < l.length) (h1 : startI l fr i ≤ p) (h2 : p < stopI l fr i) : usedK l fr i p (numI l i) < budK l (numI l i) := by
  have h3 := hadK_next (q := i) hi hi
  rw [if_pos rfl] at h3
  have h4 := hadK_le (q := i + 1) hi hi
  unfold usedK
  rw [if_pos ⟨hi, rfl⟩]
  unfold stopI at h2
  omega
theorem had_zero {l : List FSl} {cyc fr : Nat} (G : Goes l cyc fr) {i : Nat} (hi : i < l.length) : hadK l (numI l i) i = 0 ↔ jobI l (numI l i) = i := by
  obtain ⟨_, h2, h3, h4⟩ := jobI_num hi
  constructor
  · intro h
    rcases Nat.lt_or_ge (jobI l (numI l i)) i with h5 | h5
    · exfalso
      have a1 := hadK_next (i := i) (q := jobI l (numI l i)) hi (by omega)
      have a2 : numI l (jobI l (numI l i)) = numI l i := ((sameJ_iff hi (by omega)).2 h3).symm
      rw [if_pos a2] at a1
      have a3 := G.bud (jobI l (numI l i)) (by omega)
      have a4 := hadK_mono hi (jobI l (numI l i) + 1) (i - (jobI l (numI l i) + 1)) (by omega)
      rw [show jobI l (numI l i) + 1 + (i - (jobI l (numI l i) + 1)) = i by omega] at a4
      omega
    · omega
  · intro h
    have key : ∀ q, q ≤ i → hadK l (numI l i) q = 0 := by
      intro q
      induction q with
      | zero => intro _; rfl
      | succ q ih =>
        intro hq
        rw [hadK_next hi (by omega), ih (by omega), if_neg]
        intro e
        exact h4 q (by omega) ((sameJ_iff hi (by omega)).1 e.symm)
    exact key i (Nat.le_refl _)
/-- The job of slice i begins at this tick. -/
theorem used_zero {l : List FSl} {cyc fr : Nat} (G : Goes l cyc fr) {p i : Nat} (hi : i < l.length) (h1 : startI l fr i ≤ p) (h2 : p < stopI l fr i) : usedK l fr i p (numI l i) = 0 ↔ p = startI l fr (jobI l (numI l i)) := by
  obtain ⟨_, a2, _, _⟩ := jobI_num hi
  unfold usedK
  rw [if_pos ⟨hi, rfl⟩]
  constructor
  · intro h
    have := (had_zero G hi).1 (by omega)
    rw [this]
    omega
  · intro h
    have : jobI l (numI l i) = i := by
      rcases Nat.lt_or_ge (jobI l (numI l i)) i with h5 | h5
      · exfalso
        have b1 := G.lt h5 hi
        have b2 := G.start_fin (i := jobI l (numI l i)) (by omega)
        omega
      · omega
    have h0 := (had_zero G hi).2 this
    rw [this] at h
    omega
theorem lst_spec (l : List FSl) (n : UInt8) (k : Nat) : ∀ q, (∀ i, i < q → isOf (fsk l i) n k → (i : Int) ≤ (spotTo l n k q).lst) ∧ ((spotTo l n k q).lst = -1 ∨ ∃ m : Nat, (spotTo l n k q).lst = m ∧ m < q ∧ isOf (fsk l m) n k)
  | 0 => ⟨fun i h => by omega, .inl rfl⟩
  | q + 1 => by
    obtain ⟨a, b⟩ := lst_spec l n k q
    by_cases h : isOf (fsk l q) n k
    · rw [spotTo_yes h]
      refine ⟨fun i hi _ => ?_, .inr ⟨q, rfl, by omega, h⟩⟩
      show (i : Int) ≤ (q : Int)
      omega
    · rw [spotTo_no h]
      refine ⟨fun i hi ho => ?_, ?_⟩
      · rcases Nat.lt_or_ge i q with h5 | h5
        · exact a i h5 ho
        · have : i = q := by omega
          subst this
          exact absurd ho h
      · rcases b with b | ⟨m, b1, b2, b3⟩
        · exact .inl b
        · exact .inr ⟨m, b1, by omega, b3⟩
/-- The job of slice i has had all behind it. -/
theorem had_all {l : List FSl} {cyc fr : Nat} (G : Goes l cyc fr) {i : Nat} (hi : i < l.length) : hadK l (numI l i) (i + 1) = budK l (numI l i) ↔ (i : Int) = (spotI l i).lst := by
  obtain ⟨a, b⟩ := lst_spec l (fsk l i).2.nm (fsk l i).2.job l.length
  have e : (spotI l i).lst = (spotTo l (fsk l i).2.nm (fsk l i).2.job l.length).lst := rfl
  rw [← e] at a b
  have ai := a i hi ⟨rfl, rfl⟩
  constructor
  · intro h
    rcases b with b | ⟨m, b1, b2, b3⟩
    · omega
    · rcases Nat.lt_or_ge i m with h5 | h5
      · exfalso
        have hm : numI l m = numI l i := ((sameJ_iff hi b2).2 b3).symm
        have c1 := hadK_next (i := i) (q := m) hi b2
        rw [if_pos hm] at c1
        have c2 := G.bud m b2
        have c3 := hadK_le (q := m + 1) hi (by omega)
        have c4 := hadK_mono hi (i + 1) (m - (i + 1)) (by omega)
        rw [show i + 1 + (m - (i + 1)) = m by omega] at c4
        omega
      · omega
  · intro h
    have key : ∀ d, i + 1 + d ≤ l.length → hadK l (numI l i) (i + 1 + d) = hadK l (numI l i) (i + 1) := by
      intro d
      induction d with
      | zero => intro _; rfl
      | succ d ih =>
        intro hd
        rw [← Nat.add_assoc, hadK_next hi (by omega), ih (by omega), if_neg, Nat.add_zero]
        intro e2
        have := a (i + 1 + d) (by omega) ((sameJ_iff hi (by omega)).1 e2.symm)
        omega
    have := key (l.length - (i + 1)) (by omega)
    rw [show i + 1 + (l.length - (i + 1)) = l.length by omega, hadK_all] at this
    exact this.symm
theorem used_full {l : List FSl} {cyc fr : Nat} (G : Goes l cyc fr) {p i : Nat} (hi : i < l.length) (h1 : startI l fr i ≤ p) (h2 : p < stopI l fr i) : usedK l fr i p (numI l i) + 1 = budK l (numI l i) ↔ p + 1 = stopI l fr i ∧ (i : Int) = (spotI l i).lst := by
  have h3 := hadK_next (q := i) hi hi
  rw [if_pos rfl] at h3
  have h4 := hadK_le (q := i + 1) hi hi
  have h5 := had_all G hi
  unfold usedK
  rw [if_pos ⟨hi, rfl⟩]
  unfold stopI at *
  constructor
  · intro h
    have : p + 1 = startI l fr i + (fsk l i).2.bud := by omega
    exact ⟨this, h5.1 (by omega)⟩
  · rintro ⟨a, b⟩
    have := h5.2 b
    omega
end Go.Proofs.YtbdffcjganlblaaGreatDoor

namespace Go.Proofs.YtbdffcjganlblaaGreatDoor
set_option linter.unusedVariables false
set_option linter.unusedSimpArgs false

theorem left_zero {l : List FSl} {cyc fr c p i : Nat} (G : Goes l cyc fr) {x : PZ} (h : PI l fr c p i x) (hi : i < l.length) (h1 : startI l fr i ≤ p) : x.left (numI l i) = 0 ↔ p = startI l fr (jobI l (numI l i)) := by
  have h2 := h.i3 hi
  have h3 := used_lt hi h1 h2
  rw [h.left i hi, ← used_zero G hi h1 h2]
  split
  · rename_i e
    exact ⟨fun _ => e, fun _ => rfl⟩
  · rename_i e
    exact ⟨fun _ => by omega, fun h' => absurd h' e⟩
theorem beg_num {l : List FSl} {cyc fr c p i : Nat} (G : Goes l cyc fr) {x : PZ} (h : PI l fr c p i x) (hi : i < l.length) (h1 : startI l fr i ≤ p) (h0 : x.left (numI l i) = 0) : x.beg = c * cntTo l l.length + numI l i ∧ jobI l (numI l i) = i ∧ p = startI l fr i := by
  have h2 := h.i3 hi
  have e := (left_zero G h hi h1).1 h0
  have e1 : jobI l (numI l i) = i := by
    have := (used_zero G hi h1 h2).2 e
    unfold usedK at this
    exact (had_zero G hi).1 (by omega)
  rw [e1] at e
  refine ⟨?_, e1, e⟩
  rw [h.beg]
  unfold begK
  rw [if_neg (by omega)]
  have := (jobI_num hi).1
  rw [e1] at this
  unfold numI
  rw [this]
  rfl
theorem cnt_next {l : List FSl} {i : Nat} (hi : i < l.length) : cntTo l (i + 1) = cntTo l i + if jobI l (numI l i) = i then 1 else 0 := by
  have h1 := (jobI_num hi).1
  rw [cntTo, h1]
  by_cases h : jobI l (numI l i) = i
  · rw [if_pos h, if_pos (by rw [h])]
  · rw [if_neg h, if_neg (by omega)]
    rfl
theorem setN_same (L : Nat → Nat) (k v : Nat) : setN L k v k = v := by simp [setN]
theorem setN_other {L : Nat → Nat} {k j : Nat} (v : Nat) (h : j ≠ k) : setN L k v j = L j := by simp [setN, h]
def prNow (l : List FSl) (cs : List Int) (k : Nat) (x : PZ) : PZ := if x.left k = 0 then prBegin l cs k x else x
theorem give_left (l : List FSl) (k : Nat) (x : PZ) : (prGive l k x).left = setN x.left k (x.left k - 1) ∧ (prGive l k x).beg = x.beg := by
  unfold prGive
  split <;> exact ⟨rfl, rfl⟩
theorem PI.some {l : List FSl} {cyc fr c p i : Nat} (G : Goes l cyc fr) {x : PZ} (h : PI l fr c p i x) (hi : i < l.length) (h1 : startI l fr i ≤ p) (cs : List Int) :
    atL l fr p = some i ∧ ∃ i', PI l fr c (p + 1) i' (prGive l (numI l i) (prNow l cs (numI l i) x)) ∧ (prGive l (numI l i) (prNow l cs (numI l i) x)).left (numI l i) = budK l (numI l i) - (usedK l fr i p (numI l i) + 1) ∧
      ∀ k, k < l.length → usedK l fr i' (p + 1) (numI l k) = usedK l fr i p (numI l k) + if numI l i = numI l k then 1 else 0 := by
  have h2 := h.i3 hi
  have hlt := used_lt hi h1 h2
  have hlz := left_zero G h hi h1
  have huz := used_zero G hi h1 h2
  have hli := h.left i hi
  obtain ⟨g1, g2⟩ := give_left l (numI l i) (prNow l cs (numI l i) x)
  have hnow : (prNow l cs (numI l i) x).left (numI l i) = budK l (numI l i) - usedK l fr i p (numI l i) := by
    unfold prNow
    by_cases e : x.left (numI l i) = 0
    · rw [if_pos e]
      have := huz.2 (hlz.1 e)
      rw [this]
      exact setN_same _ _ _
    · rw [if_neg e, hli]
      rw [if_neg (fun e2 => e (by rw [hli, if_pos e2]))]
  have hoth : ∀ k, k ≠ numI l i → (prNow l cs (numI l i) x).left k = x.left k := by
    intro k hk
    unfold prNow
    split
    · exact setN_other _ hk
    · rfl
  have hleft : ∀ k, k < l.length → (prGive l (numI l i) (prNow l cs (numI l i) x)).left (numI l k) = if usedK l fr i (p + 1) (numI l k) = 0 then 0 else budK l (numI l k) - usedK l fr i (p + 1) (numI l k) := by
    intro k hk
    rw [g1, used_next hi h1 h2 hk]
    by_cases e : numI l i = numI l k
    · rw [← e, setN_same, hnow, if_pos rfl, if_neg (by omega)]
      omega
    · rw [setN_other _ (fun e2 => e e2.symm), if_neg e, hoth _ (fun e2 => e e2.symm)]
      exact h.left k hk
  have hbeg : (prGive l (numI l i) (prNow l cs (numI l i) x)).beg = c * cntTo l l.length + cntTo l (i + 1) := by
    rw [g2]
    unfold prNow
    by_cases e : x.left (numI l i) = 0
    · obtain ⟨b1, b2, b3⟩ := beg_num G h hi h1 e
      rw [if_pos e]
      show x.beg + 1 = _
      have hb := h.beg
      unfold begK at hb
      rw [if_neg (by omega)] at hb
      rw [hb, cnt_next hi, if_pos b2]
      omega
    · rw [if_neg e, h.beg]
      unfold begK
      by_cases e2 : startI l fr i < p
      · rw [if_pos ⟨hi, e2⟩]
      · rw [if_neg (fun y => e2 y.2), cnt_next hi, if_neg]
        · rfl
        · intro e3
          apply e
          apply hlz.2
          rw [e3]
          omega
  refine ⟨G.atu hi h1 h2, ?_⟩
  have hlast : (prGive l (numI l i) (prNow l cs (numI l i) x)).left (numI l i) = budK l (numI l i) - (usedK l fr i p (numI l i) + 1) := by
    rw [g1, setN_same, hnow]
    omega
  by_cases e : p + 1 < stopI l fr i
  · refine ⟨i, ⟨h.i1, fun k hk => by have := h.i2 k hk; omega, fun _ => e, ?_, hleft⟩, hlast, fun k hk => used_next hi h1 h2 hk⟩
    rw [hbeg]
    unfold begK
    rw [if_pos ⟨hi, by omega⟩]
  · have e1 : p + 1 = stopI l fr i := by omega
    refine ⟨i + 1, ⟨hi, fun k hk => ?_, fun hi' => ?_, ?_, ?_⟩, hlast, fun k hk => by rw [e1, used_end G hi hk, ← e1]; exact used_next hi h1 h2 hk⟩
    · rcases Nat.lt_or_ge k i with h5 | h5
      · have := h.i2 k h5
        omega
      · have : k = i := by omega
        subst this
        omega
    · have := G.next hi'
      have := G.start_fin hi'
      omega
    · rw [hbeg]
      unfold begK
      rw [if_neg]
      rintro ⟨y1, y2⟩
      have := G.next y1
      omega
    · intro k hk
      rw [hleft k hk, e1, used_end G hi hk]
theorem PI.wrap {l : List FSl} {cyc fr c i : Nat} (G : Goes l cyc fr) {x : PZ} (h : PI l fr c cyc i x) : PI l fr (c + 1) 0 0 x := by
  have hi : i = l.length := by
    rcases Nat.lt_or_ge i l.length with h5 | h5
    · have := h.i3 h5
      have := G.fin_cyc h5
      omega
    · have := h.i1
      omega
  subst hi
  refine ⟨Nat.zero_le _, fun k hk => by omega, fun h0 => by have := G.start_fin h0; omega, ?_, ?_⟩
  · have hb := h.beg
    unfold begK at hb
    rw [if_neg (by omega)] at hb
    rw [hb, mul_next]
    unfold begK
    rw [if_neg (by omega)]
    rfl
  · intro k hk
    have := h.left k hk
    have eU : usedK l fr l.length cyc (numI l k) = budK l (numI l k) := by
      unfold usedK
      rw [if_neg (fun y => absurd y.1 (by omega)), Nat.add_zero, hadK_all]
    rw [eU] at this
    have h0 : usedK l fr 0 0 (numI l k) = 0 := by
      unfold usedK
      rw [show hadK l (numI l k) 0 = 0 from rfl, Nat.zero_sub]
      split <;> rfl
    rw [h0, if_pos rfl, this]
    split
    · rfl
    · omega
theorem PI.start (l : List FSl) {cyc fr : Nat} (G : Goes l cyc fr) : PI l fr 0 0 0 ⟨fun _ => 0, fun _ => 0, 0, []⟩ := by
  refine ⟨Nat.zero_le _, fun k hk => by omega, fun h0 => by have := G.start_fin h0; omega, ?_, ?_⟩
  · unfold begK
    rw [if_neg (by omega)]
    simp [cntTo]
  · intro k hk
    have h0 : usedK l fr 0 0 (numI l k) = 0 := by
      unfold usedK
      rw [show hadK l (numI l k) 0 = 0 from rfl, Nat.zero_sub]
      split <;> rfl
    rw [h0, if_pos rfl]

/-- How time goes on. -/
theorem time_next {cyc : Nat} (hc : 1 ≤ cyc) (u : Nat) : (u % cyc + 1 < cyc ∧ (u + 1) % cyc = u % cyc + 1 ∧ (u + 1) / cyc = u / cyc) ∨ (u % cyc + 1 = cyc ∧ (u + 1) % cyc = 0 ∧ (u + 1) / cyc = u / cyc + 1) := by
  have h1 := Nat.mod_lt u (show 0 < cyc by omega)
  have h2 := Nat.div_add_mod u cyc
  by_cases h : u % cyc + 1 < cyc
  · left
    have e : u + 1 = cyc * (u / cyc) + (u % cyc + 1) := by omega
    refine ⟨h, ?_, ?_⟩
    · rw [e, Nat.mul_add_mod, Nat.mod_eq_of_lt h]
    · rw [e, Nat.mul_add_div (by omega), Nat.div_eq_of_lt h]
      rfl
  · right
    have e0 : u % cyc + 1 = cyc := by omega
    have e : u + 1 = cyc * (u / cyc + 1) := by rw [Nat.mul_add]; omega
    refine ⟨e0, ?_, ?_⟩
    · rw [e, Nat.mul_mod_right]
    · rw [e, Nat.mul_div_cancel_left _ (by omega)]
/-- One tick, whichever it is. -/
theorem PI.tick {l : List FSl} {cyc fr c p i : Nat} (G : Goes l cyc fr) {x : PZ} (h : PI l fr c p i x) (cs : List Int) : ∃ i', PI l fr c (p + 1) i' (prTick l cs (unitL l fr p) x) := by
  by_cases hg : i < l.length ∧ startI l fr i ≤ p
  · obtain ⟨a, i', b, _⟩ := PI.some G h hg.1 hg.2 cs
    refine ⟨i', ?_⟩
    unfold unitL
    rw [a]
    exact b
  · obtain ⟨a, b, _⟩ := PI.none G h (fun hi => by omega) (x.out ++ [46])
    refine ⟨i, ?_⟩
    unfold unitL
    rw [a]
    exact b
theorem PI.all {l : List FSl} {cyc fr : Nat} (G : Goes l cyc fr) (cs : List Int) : ∀ u, ∃ i, PI l fr (u / cyc) (u % cyc) i (prT l cyc fr cs u)
  | 0 => ⟨0, by rw [Nat.zero_div, Nat.zero_mod]; exact PI.start l G⟩
  | u + 1 => by
    obtain ⟨i, h⟩ := PI.all G cs u
    obtain ⟨i', h'⟩ := PI.tick G h cs
    rcases time_next G.c1 u with ⟨_, a, b⟩ | ⟨e, a, b⟩
    · rw [a, b]
      exact ⟨i', h'⟩
    · rw [a, b]
      rw [e] at h'
      exact ⟨0, PI.wrap G h'⟩

/-- The program's run is the document's. -/
theorem pr_trc {l : List FSl} {cyc fr : Nat} (G : Goes l cyc fr) (cs : List Int) (hf : ∀ u i k, 0 ≤ begunL l cyc fr cs u i (trcL l cyc fr cs u).1 k) : ∀ u, (prT l cyc fr cs u).want = (trcL l cyc fr cs u).1 ∧ (prT l cyc fr cs u).out = (trcL l cyc fr cs u).2
  | 0 => ⟨rfl, rfl⟩
  | u + 1 => by
    obtain ⟨ih1, ih2⟩ := pr_trc G cs hf u
    obtain ⟨i, h⟩ := PI.all G cs u
    rw [trcL, prT, tickL]
    by_cases hg : i < l.length ∧ startI l fr i ≤ u % cyc
    · obtain ⟨hi, h1⟩ := hg
      have h2 := h.i3 hi
      obtain ⟨a, i', b, hlast, _⟩ := PI.some G h hi h1 cs
      have hee := (at_some a).2.2.2
      have eu : unitL l fr (u % cyc) = some (numI l i) := by unfold unitL; rw [a]; rfl
      rw [eu, a]
      show (prGive l (numI l i) (prNow l cs (numI l i) (prT l cyc fr cs u))).want = _ ∧ (prGive l (numI l i) (prNow l cs (numI l i) (prT l cyc fr cs u))).out = _
      have hb : (prNow l cs (numI l i) (prT l cyc fr cs u)).want = begunL l cyc fr cs u i (trcL l cyc fr cs u).1 ∧ (prNow l cs (numI l i) (prT l cyc fr cs u)).out = (trcL l cyc fr cs u).2 := by
        unfold prNow begunL
        have hf : (spotI l i).fst.toNat = jobI l (numI l i) := by rw [(jobI_num hi).1]; rfl
        rw [hf]
        by_cases e : (prT l cyc fr cs u).left (numI l i) = 0
        · obtain ⟨b1, b2, b3⟩ := beg_num G h hi h1 e
          rw [if_pos e, if_pos (by rw [← (left_zero G h hi h1).1 e])]
          refine ⟨?_, ih2⟩
          show setL (prT l cyc fr cs u).want (numI l i) (wantsL cs (prT l cyc fr cs u).beg (budK l (numI l i))) = _
          rw [ih1, b1, budK_num hi]
        · rw [if_neg e, if_neg (fun e2 => e ((left_zero G h hi h1).2 (by omega)))]
          exact ⟨ih1, ih2⟩
      generalize prNow l cs (numI l i) (prT l cyc fr cs u) = y at *
      obtain ⟨hb1, hb2⟩ := hb
      have hm : ((prGive l (numI l i) y).left (numI l i) = 0) ↔ (u % cyc + 1 = endI l fr (u % cyc / fr) i ∧ (i : Int) = (spotI l i).lst) := by
        rw [hlast, hee, ← used_full G hi h1 h2]
        have := used_lt hi h1 h2
        omega
      rw [(give_left l (numI l i) y).1, setN_same] at hm
      have hy := hf u i (numI l i)
      show (prGive l (numI l i) y).want = lessL (numI l i) (begunL l cyc fr cs u i (trcL l cyc fr cs u).1) ∧ (prGive l (numI l i) y).out = (trcL l cyc fr cs u).2 ++ ranL (fsk l i).2.nm (numI l i) (begunL l cyc fr cs u i (trcL l cyc fr cs u).1) ++ markL l cyc fr u i (lessL (numI l i) (begunL l cyc fr cs u i (trcL l cyc fr cs u).1))
      unfold markL
      rw [← hb1, ← hb2, ← nmK_num hi]
      rw [← hb1] at hy
      unfold prGive lessL ranL
      by_cases e : y.want (numI l i) = 0
      · rw [if_pos e]
        have e2 : ¬ 0 < y.want (numI l i) := by omega
        rw [if_neg e2, if_neg e2, if_neg (fun z => e2 z.2.2)]
        exact ⟨rfl, by simp⟩
      · rw [if_neg e]
        have e2 : 0 < y.want (numI l i) := by omega
        rw [if_pos e2, if_pos e2]
        refine ⟨rfl, ?_⟩
        have e3 : setL y.want (numI l i) (y.want (numI l i) - 1) (numI l i) = y.want (numI l i) - 1 := by simp [setL]
        rw [e3]
        show y.out ++ [nmK l (numI l i)] ++ _ = y.out ++ [nmK l (numI l i)] ++ _
        congr 1
        by_cases e4 : y.left (numI l i) - 1 = 0 ∧ 0 < y.want (numI l i) - 1
        · obtain ⟨z1, z2⟩ := hm.1 e4.1
          rw [if_pos e4, if_pos ⟨z1, z2, e4.2⟩]
        · rw [if_neg e4, if_neg]
          rintro ⟨z1, z2, z3⟩
          exact e4 ⟨hm.2 ⟨z1, z2⟩, z3⟩
    · obtain ⟨a, b, _⟩ := PI.none G h (fun hi => by omega) ((prT l cyc fr cs u).out ++ [46])
      have eu : unitL l fr (u % cyc) = none := by unfold unitL; rw [a]; rfl
      rw [eu, a]
      show (prT l cyc fr cs u).want = _ ∧ (prT l cyc fr cs u).out ++ [46] = _
      exact ⟨ih1, by rw [ih2]⟩
end Go.Proofs.YtbdffcjganlblaaGreatDoor

namespace Go.Proofs.YtbdffcjganlblaaGreatDoor
set_option linter.unusedVariables false
set_option linter.unusedSimpArgs false

/-! ### Traces without their marks -/
def bareL : List UInt8 → List UInt8
  | [] => []
  | c :: r => if c = 33 then bareL (r.drop 1) else c :: bareL r
termination_by l => l.length
decreasing_by all_goals simp; try omega
theorem bareL_nil : bareL [] = [] := by rw [bareL]
theorem bareL_mark (r : List UInt8) (c : UInt8) : bareL (33 :: c :: r) = bareL r := by rw [bareL]; simp
theorem bareL_one {c : UInt8} (h : c ≠ 33) (r : List UInt8) : bareL (c :: r) = c :: bareL r := by rw [bareL, if_neg h]
/-- No mark stands open at the end. -/
def Shut (a : List UInt8) : Prop := ∀ b, bareL (a ++ b) = bareL a ++ bareL b
theorem shut_nil : Shut [] := fun b => by simp [bareL_nil]
theorem Shut.one {a : List UInt8} (h : Shut a) {c : UInt8} (hc : c ≠ 33) : Shut (a ++ [c]) ∧ bareL (a ++ [c]) = bareL a ++ [c] := by
  have e : bareL (a ++ [c]) = bareL a ++ [c] := by rw [h, bareL_one hc, bareL_nil]
  refine ⟨fun b => ?_, e⟩
  rw [e, List.append_assoc, h, List.append_assoc]
  show bareL a ++ bareL (c :: b) = _
  rw [bareL_one hc]
  rfl
theorem Shut.mark {a : List UInt8} (h : Shut a) (c : UInt8) : Shut (a ++ [33, c]) ∧ bareL (a ++ [33, c]) = bareL a := by
  have e : bareL (a ++ [33, c]) = bareL a := by rw [h, bareL_mark, bareL_nil, List.append_nil]
  refine ⟨fun b => ?_, e⟩
  rw [e, List.append_assoc, h]
  show bareL a ++ bareL (33 :: c :: b) = _
  rw [bareL_mark]

/-! ### Jobs that get all that they have -/
def barU (l : List FSl) (fr p : Nat) : UInt8 := match unitL l fr p with | none => 46 | some k => nmK l k
def barL (l : List FSl) (cyc fr : Nat) : Nat → List UInt8
  | 0 => []
  | u + 1 => barL l cyc fr u ++ [barU l fr (u % cyc)]
structure AI (l : List FSl) (cyc fr : Nat) (e : Nat → Nat) (u : Nat) (x : PZ) : Prop where
  want : ∀ i, i < l.length → 0 < x.left (numI l i) → x.want (numI l i) = x.left (numI l i) + e (numI l i)
  shut : Shut x.out
  bare : bareL x.out = barL l cyc fr u
  bars : (∀ k, e k = 0) → 33 ∉ x.out
theorem setL_same (L : Nat → Int) (k : Nat) (v : Int) : setL L k v k = v := by simp [setL]
theorem setL_other {L : Nat → Int} {k j : Nat} (v : Int) (h : j ≠ k) : setL L k v j = L j := by simp [setL, h]
/-- What the tick of slice i writes. -/
def saysK (l : List FSl) (e : Nat → Nat) (k : Nat) (z : Prop) [Decidable z] : List UInt8 := if z ∧ 0 < e k then [33, nmK l k] else []
theorem AI.unit {l : List FSl} {cyc fr c p i u : Nat} (G : Goes l cyc fr) {x : PZ} (h : PI l fr c p i x) (hi : i < l.length) (h1 : startI l fr i ≤ p) (cs : List Int) (e : Nat → Nat)
    (hw : ∀ c i, i < l.length → wantsL cs (c * cntTo l l.length + numI l i) (budK l (numI l i)) = (budK l (numI l i) + e (numI l i) : Nat)) (ha : AI l cyc fr e u x) :
    (∀ k, k < l.length → 0 < (prGive l (numI l i) (prNow l cs (numI l i) x)).left (numI l k) → (prGive l (numI l i) (prNow l cs (numI l i) x)).want (numI l k) = (prGive l (numI l i) (prNow l cs (numI l i) x)).left (numI l k) + e (numI l k)) ∧
    (prGive l (numI l i) (prNow l cs (numI l i) x)).out = x.out ++ [nmK l (numI l i)] ++ if (prGive l (numI l i) (prNow l cs (numI l i) x)).left (numI l i) = 0 ∧ 0 < e (numI l i) then [33, nmK l (numI l i)] else [] := by
  have h2 := h.i3 hi
  have hlt := used_lt hi h1 h2
  have hy : 0 < (prNow l cs (numI l i) x).left (numI l i) ∧ (prNow l cs (numI l i) x).want (numI l i) = (prNow l cs (numI l i) x).left (numI l i) + e (numI l i) ∧ (prNow l cs (numI l i) x).out = x.out ∧
      ∀ k, k ≠ numI l i → (prNow l cs (numI l i) x).left k = x.left k ∧ (prNow l cs (numI l i) x).want k = x.want k := by
    unfold prNow
    by_cases e0 : x.left (numI l i) = 0
    · rw [if_pos e0]
      obtain ⟨b1, _, _⟩ := beg_num G h hi h1 e0
      refine ⟨?_, ?_, rfl, fun k hk => ⟨setN_other _ hk, setL_other _ hk⟩⟩
      · show 0 < setN x.left (numI l i) (budK l (numI l i)) (numI l i)
        rw [setN_same]
        omega
      · show setL x.want (numI l i) (wantsL cs x.beg (budK l (numI l i))) (numI l i) = setN x.left (numI l i) (budK l (numI l i)) (numI l i) + (e (numI l i) : Int)
        rw [setL_same, setN_same, b1, hw c i hi]
        omega
    · rw [if_neg e0]
      exact ⟨by omega, ha.want i hi (by omega), rfl, fun k hk => ⟨rfl, rfl⟩⟩
  generalize prNow l cs (numI l i) x = y at *
  obtain ⟨y1, y2, y3, y4⟩ := hy
  have hne : ¬ y.want (numI l i) = 0 := by omega
  have eG : prGive l (numI l i) y = ⟨setN y.left (numI l i) (y.left (numI l i) - 1), setL y.want (numI l i) (y.want (numI l i) - 1), y.beg, y.out ++ [nmK l (numI l i)] ++ if y.left (numI l i) - 1 = 0 ∧ 0 < y.want (numI l i) - 1 then [33, nmK l (numI l i)] else []⟩ := by
    unfold prGive
    rw [if_neg hne]
  rw [eG]
  refine ⟨fun k hk => ?_, ?_⟩
  · show 0 < setN y.left (numI l i) (y.left (numI l i) - 1) (numI l k) → setL y.want (numI l i) (y.want (numI l i) - 1) (numI l k) = setN y.left (numI l i) (y.left (numI l i) - 1) (numI l k) + (e (numI l k) : Int)
    by_cases e1 : numI l k = numI l i
    · rw [e1, setL_same, setN_same]
      intro _
      omega
    · rw [setL_other _ e1, setN_other _ e1, (y4 _ e1).1, (y4 _ e1).2]
      exact ha.want k hk
  · show y.out ++ [nmK l (numI l i)] ++ (if y.left (numI l i) - 1 = 0 ∧ 0 < y.want (numI l i) - 1 then [33, nmK l (numI l i)] else []) = x.out ++ [nmK l (numI l i)] ++ (if setN y.left (numI l i) (y.left (numI l i) - 1) (numI l i) = 0 ∧ 0 < e (numI l i) then [33, nmK l (numI l i)] else [])
    rw [setN_same, y3]
    congr 1
    have : (y.left (numI l i) - 1 = 0 ∧ 0 < y.want (numI l i) - 1) ↔ (y.left (numI l i) - 1 = 0 ∧ 0 < e (numI l i)) := by omega
    by_cases e1 : y.left (numI l i) - 1 = 0 ∧ 0 < e (numI l i)
    · rw [if_pos e1, if_pos (this.2 e1)]
    · rw [if_neg e1, if_neg (fun z => e1 (this.1 z))]
theorem AI.all {l : List FSl} {cyc fr : Nat} (G : Goes l cyc fr) (cs : List Int) (e : Nat → Nat) (hn : ∀ i, i < l.length → (fsk l i).2.nm ≠ 33)
    (hw : ∀ c i, i < l.length → wantsL cs (c * cntTo l l.length + numI l i) (budK l (numI l i)) = (budK l (numI l i) + e (numI l i) : Nat)) : ∀ u, AI l cyc fr e u (prT l cyc fr cs u)
  | 0 => ⟨fun i _ h => absurd h (by simp [prT]), shut_nil, bareL_nil, fun _ => by simp [prT]⟩
  | u + 1 => by
    have ih := AI.all G cs e hn hw u
    obtain ⟨i, h⟩ := PI.all G cs u
    rw [prT]
    by_cases hg : i < l.length ∧ startI l fr i ≤ u % cyc
    · obtain ⟨hi, h1⟩ := hg
      obtain ⟨a, i', b, hlast, _⟩ := PI.some G h hi h1 cs
      obtain ⟨c1, c2⟩ := AI.unit G h hi h1 cs e hw ih
      have eu : unitL l fr (u % cyc) = some (numI l i) := by unfold unitL; rw [a]; rfl
      have hnm : nmK l (numI l i) ≠ 33 := by rw [nmK_num hi]; exact hn i hi
      have eb : barL l cyc fr (u + 1) = barL l cyc fr u ++ [nmK l (numI l i)] := by
        rw [barL]
        unfold barU
        rw [eu]
      rw [eu]
      show AI l cyc fr e (u + 1) (prGive l (numI l i) (prNow l cs (numI l i) (prT l cyc fr cs u)))
      obtain ⟨s1, s2⟩ := ih.shut.one hnm
      by_cases hz : (prGive l (numI l i) (prNow l cs (numI l i) (prT l cyc fr cs u))).left (numI l i) = 0 ∧ 0 < e (numI l i)
      · rw [if_pos hz] at c2
        obtain ⟨s3, s4⟩ := s1.mark (nmK l (numI l i))
        refine ⟨c1, by rw [c2]; exact s3, by rw [c2, s4, s2, ih.bare, eb], fun h0 => ?_⟩
        have := h0 (numI l i)
        omega
      · rw [if_neg hz, List.append_nil] at c2
        refine ⟨c1, by rw [c2]; exact s1, by rw [c2, s2, ih.bare, eb], fun h0 => ?_⟩
        rw [c2, List.mem_append]
        rintro (h5 | h5)
        · exact ih.bars h0 h5
        · simp at h5
          exact hnm h5.symm
    · obtain ⟨a, b, _⟩ := PI.none G h (fun hi => by omega) ((prT l cyc fr cs u).out ++ [46])
      have eu : unitL l fr (u % cyc) = none := by unfold unitL; rw [a]; rfl
      have eb : barL l cyc fr (u + 1) = barL l cyc fr u ++ [46] := by
        rw [barL]
        unfold barU
        rw [eu]
      rw [eu]
      obtain ⟨s1, s2⟩ := ih.shut.one (show (46 : UInt8) ≠ 33 by decide)
      refine ⟨ih.want, s1, by rw [eb]; show bareL (_ ++ [46]) = _; rw [s2, ih.bare], fun h0 => ?_⟩
      show 33 ∉ (prT l cyc fr cs u).out ++ [46]
      rw [List.mem_append]
      rintro (h5 | h5)
      · exact ih.bars h0 h5
      · simp at h5
/-- A trace grows. -/
theorem pr_grows (l : List FSl) (cyc fr : Nat) (cs : List Int) (u : Nat) : ∃ r, (prT l cyc fr cs (u + 1)).out = (prT l cyc fr cs u).out ++ r := by
  rw [prT]
  cases unitL l fr (u % cyc) with
  | none => exact ⟨[46], rfl⟩
  | some k =>
    show ∃ r, (prGive l k (prNow l cs k (prT l cyc fr cs u))).out = _
    have ho : (prNow l cs k (prT l cyc fr cs u)).out = (prT l cyc fr cs u).out := by
      unfold prNow
      split <;> rfl
    unfold prGive
    split
    · exact ⟨[46], by rw [← ho]⟩
    · exact ⟨[nmK l k] ++ _, by rw [← ho]; exact List.append_assoc _ _ _⟩
theorem pr_keeps (l : List FSl) (cyc fr : Nat) (cs : List Int) (u : Nat) {c : UInt8} (h : c ∈ (prT l cyc fr cs u).out) : ∀ d, c ∈ (prT l cyc fr cs (u + d)).out
  | 0 => h
  | d + 1 => by
    obtain ⟨r, hr⟩ := pr_grows l cyc fr cs (u + d)
    rw [← Nat.add_assoc, hr, List.mem_append]
    exact .inl (pr_keeps l cyc fr cs u h d)
/-- A job that wants more is marked in the first cycle. -/
theorem marked_to {l : List FSl} {cyc fr : Nat} (G : Goes l cyc fr) (cs : List Int) (e : Nat → Nat) (hn : ∀ i, i < l.length → (fsk l i).2.nm ≠ 33)
    (hw : ∀ c i, i < l.length → wantsL cs (c * cntTo l l.length + numI l i) (budK l (numI l i)) = (budK l (numI l i) + e (numI l i) : Nat)) {m : Nat} (hm : m < l.length) (he : 0 < e (numI l m)) : ∀ u, u ≤ cyc → ∃ i, PI l fr 0 u i (prT l cyc fr cs u) ∧ (usedK l fr i u (numI l m) = budK l (numI l m) → 33 ∈ (prT l cyc fr cs u).out)
  | 0, _ => by
    refine ⟨0, PI.start l G, fun h => ?_⟩
    exfalso
    have h0 : usedK l fr 0 0 (numI l m) = 0 := by
      unfold usedK
      rw [show hadK l (numI l m) 0 = 0 from rfl, Nat.zero_sub]
      split <;> rfl
    have h3 := hadK_next (q := m) hm hm
    rw [if_pos rfl] at h3
    have h4 := hadK_le (q := m + 1) hm hm
    have h5 := G.bud m hm
    omega
  | u + 1, hu => by
    obtain ⟨i, h, hk⟩ := marked_to G cs e hn hw hm he u (by omega)
    have eu0 : u % cyc = u := Nat.mod_eq_of_lt (by omega)
    have ha := AI.all G cs e hn hw u
    by_cases hg : i < l.length ∧ startI l fr i ≤ u
    · obtain ⟨hi, h1⟩ := hg
      obtain ⟨a, i', b, hlast, hus⟩ := PI.some G h hi h1 cs
      obtain ⟨c1, c2⟩ := AI.unit G h hi h1 cs e hw ha
      have eu : unitL l fr (u % cyc) = some (numI l i) := by unfold unitL; rw [eu0, a]; rfl
      refine ⟨i', ?_, ?_⟩
      · rw [prT, eu]
        exact b
      · intro hf
        rw [hus m hm] at hf
        by_cases hs : numI l i = numI l m
        · rw [if_pos hs] at hf
          rw [prT, eu]
          show 33 ∈ (prGive l (numI l i) (prNow l cs (numI l i) (prT l cyc fr cs u))).out
          rw [hs] at hlast c2
          rw [hs, c2, if_pos ⟨by rw [hlast]; omega, he⟩]
          simp
        · rw [if_neg hs] at hf
          exact pr_keeps l cyc fr cs u (hk hf) 1
    · obtain ⟨a, b, hus⟩ := PI.none G h (fun hi => by omega) ((prT l cyc fr cs u).out ++ [46])
      have eu : unitL l fr (u % cyc) = none := by unfold unitL; rw [eu0, a]; rfl
      refine ⟨i, ?_, ?_⟩
      · rw [prT, eu]
        exact b
      · intro hf
        rw [hus] at hf
        exact pr_keeps l cyc fr cs u (hk hf) 1
theorem marked {l : List FSl} {cyc fr : Nat} (G : Goes l cyc fr) (cs : List Int) (e : Nat → Nat) (hn : ∀ i, i < l.length → (fsk l i).2.nm ≠ 33)
    (hw : ∀ c i, i < l.length → wantsL cs (c * cntTo l l.length + numI l i) (budK l (numI l i)) = (budK l (numI l i) + e (numI l i) : Nat)) {m : Nat} (hm : m < l.length) (he : 0 < e (numI l m)) {u : Nat} (hu : cyc ≤ u) : 33 ∈ (prT l cyc fr cs u).out := by
  obtain ⟨i, h, hk⟩ := marked_to G cs e hn hw hm he cyc (Nat.le_refl _)
  have hi : i = l.length := by
    rcases Nat.lt_or_ge i l.length with h5 | h5
    · have := h.i3 h5
      have := G.fin_cyc h5
      omega
    · have := h.i1
      omega
  subst hi
  have := pr_keeps l cyc fr cs cyc (hk (by unfold usedK; rw [if_neg (fun y => absurd y.1 (by omega)), Nat.add_zero, hadK_all])) (u - cyc)
  rwa [show cyc + (u - cyc) = u by omega] at this
end Go.Proofs.YtbdffcjganlblaaGreatDoor

namespace Go.Proofs.YtbdffcjganlblaaGreatDoor
set_option linter.unusedVariables false
set_option linter.unusedSimpArgs false

theorem goes_of_sound {t : Tb} (h : Sound t) : Goes (flatF 0 t.fs) t.cyc t.fr := by
  obtain ⟨f1, f2, n1, n2, hl⟩ := h.frames
  have hr := flatF_rises t.fs 0
  have hb := (budR_flat t.fr t.fs 0 [] (fun i _ => rfl)).2 h.bud
  refine ⟨?_, ?_, ?_, ?_, f1, h.c1⟩
  · intro i hi
    have := hr i (i + 1) (by omega) hi (by omega)
    rw [fsk_eq (by omega), fsk_eq hi] at this
    exact this
  · intro i hi
    have := (hb i hi).1
    rwa [fsk_eq hi] at this
  · intro i hi
    have := (hb i hi).2
    rwa [fsk_eq hi] at this
  · intro i hi
    have hm : fsk (flatF 0 t.fs) i ∈ flatF 0 t.fs := by rw [← fsk_eq hi]; exact List.getElem_mem _
    obtain ⟨_, h2, _⟩ := flatF_mem t.fs 0 _ hm
    have h3 := Nat.mul_le_mul_right t.fr (show (fsk (flatF 0 t.fs) i).1 + 1 ≤ t.fs.length by omega)
    rw [Nat.mul_comm t.fs.length, h.c3] at h3
    exact h3
/-- How many slices lie ahead of frame j. -/
def baseJ (fs : List (List Sl)) (j : Nat) : Nat := (flatF 0 (fs.take j)).length
theorem base_zero (fs : List (List Sl)) : baseJ fs 0 = 0 := by simp [baseJ, flatF]
theorem base_all (fs : List (List Sl)) : baseJ fs fs.length = (flatF 0 fs).length := by simp [baseJ]
theorem base_next {fs : List (List Sl)} {j : Nat} (hj : j < fs.length) : baseJ fs (j + 1) = baseJ fs j + (frk fs j).length := by
  unfold baseJ
  rw [flatF_len, flatF_len, List.take_succ_eq_append_getElem hj, frk_eq hj]
  simp
theorem base_le {fs : List (List Sl)} {j : Nat} (hj : j < fs.length) : baseJ fs j + (frk fs j).length ≤ (flatF 0 fs).length := by
  have h1 := flat_split fs j 0 hj
  have h2 := congrArg List.length h1
  simp only [List.length_append, List.length_map] at h2
  unfold baseJ
  omega
theorem flat_at {fs : List (List Sl)} {j k : Nat} (hj : j < fs.length) (hk : k < (frk fs j).length) : fsk (flatF 0 fs) (baseJ fs j + k) = (j, slk (frk fs j) k) := by
  have hlt : baseJ fs j + k < (flatF 0 fs).length := by have := base_le hj; omega
  have h1 := flat_split fs j 0 hj
  rw [← fsk_eq hlt]
  have e : (flatF 0 fs)[baseJ fs j + k]? = some (j, slk (frk fs j) k) := by
    rw [h1]
    unfold baseJ
    rw [List.getElem?_append_right (by omega), Nat.add_sub_cancel_left, List.getElem?_append_left (by simpa using hk), List.getElem?_map, List.getElem?_eq_getElem hk, slk_eq hk]
    simp
  rw [List.getElem?_eq_getElem hlt] at e
  exact Option.some.inj e
theorem used_none {l : List FSl} {j : Nat} (h : ∀ x ∈ l, x.1 ≠ j) : usedJ l j = 0 := by
  induction l with
  | nil => rfl
  | cons x r ih =>
    have h1 := h x (by simp)
    have h2 := ih (fun y hy => h y (by simp [hy]))
    simp [usedJ, h1, h2]
theorem used_base (fs : List (List Sl)) (j : Nat) (hj : j ≤ fs.length) : usedJ ((flatF 0 fs).take (baseJ fs j)) j = 0 := by
  have e : (flatF 0 fs).take (baseJ fs j) = flatF 0 (fs.take j) := by
    rcases Nat.lt_or_ge j fs.length with h | h
    · have h1 := flat_split fs j 0 h
      conv => lhs; rw [h1]
      unfold baseJ
      rw [List.take_left]
    · have : j = fs.length := by omega
      subst this
      rw [base_all, List.take_length, List.take_length]
  rw [e]
  apply used_none
  intro x hx
  obtain ⟨_, h2, _⟩ := flatF_mem (fs.take j) 0 x hx
  simp at h2
  omega
/-- Where slice k of frame j begins; and where the frame's last one ends. -/
def atK (fs : List (List Sl)) (fr j k : Nat) : Nat := j * fr + usedJ ((flatF 0 fs).take (baseJ fs j + k)) j
theorem atK_zero {fs : List (List Sl)} {fr j : Nat} (hj : j ≤ fs.length) : atK fs fr j 0 = j * fr := by
  unfold atK
  rw [Nat.add_zero, used_base fs j hj]
  rfl
theorem atK_start {fs : List (List Sl)} {fr j k : Nat} (hj : j < fs.length) (hk : k < (frk fs j).length) : startI (flatF 0 fs) fr (baseJ fs j + k) = atK fs fr j k := by
  unfold startI atK
  rw [flat_at hj hk]
theorem atK_next {fs : List (List Sl)} {fr j k : Nat} (hj : j < fs.length) (hk : k < (frk fs j).length) : atK fs fr j (k + 1) = atK fs fr j k + (slk (frk fs j) k).bud := by
  have hlt : baseJ fs j + k < (flatF 0 fs).length := by have := base_le hj; omega
  unfold atK
  rw [← Nat.add_assoc (baseJ fs j) k 1, usedJ_next hlt, flat_at hj hk]
  simp
  omega
theorem job_small {t : Tb} (h : Sound t) : ∀ i, i < (flatF 0 t.fs).length → (fsk (flatF 0 t.fs) i).2.job ≤ 9999 ∧ (fsk (flatF 0 t.fs) i).2.bud ≤ 60 ∧ (fsk (flatF 0 t.fs) i).small := by
  intro i hi
  have hm : fsk (flatF 0 t.fs) i ∈ flatF 0 t.fs := by rw [← fsk_eq hi]; exact List.getElem_mem _
  obtain ⟨_, h2, f, hf, hx⟩ := flatF_mem t.fs 0 _ hm
  obtain ⟨_, h3⟩ := h.small f hf
  obtain ⟨a, b, c⟩ := h3 _ hx
  obtain ⟨_, _, _, n2, _⟩ := h.frames
  exact ⟨by omega, c, by unfold FSl.small; omega⟩
theorem flat_len {t : Tb} (h : Sound t) : (flatF 0 t.fs).length ≤ 60 := by
  rw [flatF_len]
  exact h.frames.2.2.2.2
end Go.Proofs.YtbdffcjganlblaaGreatDoor
