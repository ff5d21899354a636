/-
  Own work. The program's run: the walk of run.
-/
import Derived.Test.YtbdffcjganlblaaGreatDoorPrDtoRnD
import Derived.Test.YtbdffcjganlblaaGreatDoorRnAtoRnE
import Derived.Test.YtbdffcjganlblaaGreatDoorTbMtoBuC
namespace Go.Proofs.YtbdffcjganlblaaGreatDoor
open Go.RowKit Go.Maps
set_option linter.unusedVariables false
set_option linter.unusedSimpArgs false

/-! ### One tick, in numbers -/
theorem tick_pz (l : List FSl) (cs : List Int) (k : Nat) (x : PZ) :
    (prTick l cs (some k) x).beg = nowB x.beg (x.left k) ∧ (prTick l cs (some k) x).out = x.out ++ giveO (nmK l k) (nowL (budK l k) (x.left k) - 1) (nowW cs x.beg (budK l k) (x.left k) (x.want k)) ∧
    (∀ j, (prTick l cs (some k) x).left j = if j = k then nowL (budK l k) (x.left k) - 1 else x.left j) ∧ ∀ j, (prTick l cs (some k) x).want j = if j = k then giveW (nowW cs x.beg (budK l k) (x.left k) (x.want k)) else x.want j := by
  have key : ∀ y : PZ, (prGive l k y).beg = y.beg ∧ (prGive l k y).out = y.out ++ giveO (nmK l k) (y.left k - 1) (y.want k) ∧ (∀ j, (prGive l k y).left j = if j = k then y.left k - 1 else y.left j) ∧ ∀ j, (prGive l k y).want j = if j = k then giveW (y.want k) else y.want j := by
    intro y
    unfold prGive giveO giveW
    by_cases h : y.want k = 0
    · rw [if_pos h]
      refine ⟨rfl, by rw [if_pos h], fun j => rfl, fun j => ?_⟩
      rw [if_pos h]
      by_cases e : j = k
      · rw [if_pos e, e]
      · rw [if_neg e]
    · rw [if_neg h]
      refine ⟨rfl, by rw [if_neg h, ← List.append_assoc], fun j => rfl, fun j => ?_⟩
      rw [if_neg h]
      rfl
  show (prGive l k (if x.left k = 0 then prBegin l cs k x else x)).beg = _ ∧ (prGive l k (if x.left k = 0 then prBegin l cs k x else x)).out = _ ∧ (∀ j, (prGive l k (if x.left k = 0 then prBegin l cs k x else x)).left j = _) ∧ ∀ j, (prGive l k (if x.left k = 0 then prBegin l cs k x else x)).want j = _
  unfold nowB nowL nowW
  by_cases h : x.left k = 0
  · rw [if_pos h, if_pos h, if_pos h, if_pos h]
    obtain ⟨a, b, c, d⟩ := key (prBegin l cs k x)
    have e1 : (prBegin l cs k x).left k = budK l k := setN_same _ _ _
    have e2 : (prBegin l cs k x).want k = wantsL cs x.beg (budK l k) := setL_same _ _ _
    rw [e1, e2] at b
    refine ⟨a, b, fun j => ?_, fun j => ?_⟩
    · rw [c j, e1]
      by_cases e : j = k
      · rw [if_pos e, if_pos e]
      · rw [if_neg e, if_neg e]
        exact setN_other _ e
    · rw [d j, e2]
      by_cases e : j = k
      · rw [if_pos e, if_pos e]
      · rw [if_neg e, if_neg e]
        exact setL_other _ e
  · rw [if_neg h, if_neg h, if_neg h, if_neg h]
    exact key x

structure RQ (w wr : World) (tv : Array Value) (csv : Value) (cyc fr : Nat) (l : List FSl) (P : List Nat) (x : PZ) : Prop where
  hx : wr.heap[w.heap.size]? = some (.cells tv 61 (0, 0))
  hr : IsRun w.heap.size (w.heap.size + 1) csv x.beg x.out wr
  hn : x.out = [] → ∃ bg p, wr.heap[w.heap.size + 1]? = some (.cells #[csv, .int .i64 bg, p, .slice none 0 0] 118 (0, 0))
  hu : ∃ arr, wr.heap[w.heap.size + 1 + 1 + 1]? = some (.cells arr 122 (0, 0)) ∧ ∀ u, u < cyc → arr[u]? = some (uvV l fr P l.length 0 u)
  hj : ∀ k, k < P.length → w.heap.size + 1 + 1 + 1 < P.getD k 0 ∧ wr.heap[P.getD k 0]? = some (.cells (jobV (nmK l k) (budK l k) (x.left k) (x.want k)) 166 (0, 0))
  inj : ∀ a b, a < P.length → b < P.length → P.getD a 0 = P.getD b 0 → a = b
  pl : P.length = cntTo l l.length
  bel : Below w.heap.size w wr
section
variable {w wr : World} {tv : Array Value} {csv : Value} {cyc fr : Nat} {l : List FSl} {P : List Nat} {x : PZ}
theorem RQ.start {w1 : World} (h : UX ((w.alloc (.cells tv 61)).alloc (.cells #[csv, .int .i64 0, .pointer none, .slice none 0 0] 118)) w1 tv cyc fr l l.length 0 l.length l.length P) : RQ w w1 tv csv cyc fr l P ⟨fun _ => 0, fun _ => 0, 0, []⟩ := by
  have h0 := blk_keep (blk_keep (blk_new w tv 61) (below_new _ (.cells #[csv, .int .i64 0, .pointer none, .slice none 0 0] 118))) h.bel
  have h1 := blk_keep (blk_new (w.alloc (.cells tv 61)) #[csv, .int .i64 0, .pointer none, .slice none 0 0] 118) h.bel
  simp only [World.size_alloc] at h1
  have hu := h.hu
  have hj := h.hj
  simp only [World.size_alloc] at hu hj
  refine ⟨h0, .inl ⟨by omega, .slice none 0 0, h1, World.ownsRow_nil _ _ _ _⟩, fun _ => ⟨0, .pointer none, h1⟩, hu, fun k hk => ⟨by have := (hj k hk).1; omega, (hj k hk).2⟩, h.inj, h.pl, ?_⟩
  exact (((below_new w _).alloc (by simp) _)).trans (h.bel.mono (by simp; omega))
theorem RQ.none (h : RQ w wr tv csv cyc fr l P x) {w' : World} (hr : IsRun w.heap.size (w.heap.size + 1) csv x.beg (x.out ++ [46]) w') (hb : Below w.heap.size wr w') (hk : KeepR (w.heap.size + 1) wr w') : RQ w w' tv csv cyc fr l P ⟨x.left, x.want, x.beg, x.out ++ [46]⟩ := by
  obtain ⟨arr, h1, h2⟩ := h.hu
  refine ⟨hk.blk h.hx (by omega) (by decide), hr, fun e => by simp at e, ⟨arr, hk.blk h1 (by omega) (by decide), h2⟩, fun k hkl => ⟨(h.hj k hkl).1, hk.blk (h.hj k hkl).2 (by have := (h.hj k hkl).1; omega) (by decide)⟩, h.inj, h.pl, h.bel.trans hb⟩
theorem RQ.jr (h : RQ w wr tv csv cyc fr l P x) {k : Nat} (hk : k < P.length) : JR w.heap.size (w.heap.size + 1) (P.getD k 0) csv x.beg x.out (nmK l k) (budK l k) (x.left k) (x.want k) wr := ⟨h.hr, (h.hj k hk).2⟩
theorem giveO_ne (nm : UInt8) (left : Nat) (want : Int) : giveO nm left want ≠ [] := by
  unfold giveO
  split <;> simp
theorem RQ.job (h : RQ w wr tv csv cyc fr l P x) {k : Nat} (hk : k < P.length) (cs : List Int) {w' : World}
    (hj : JR w.heap.size (w.heap.size + 1) (P.getD k 0) csv (nowB x.beg (x.left k)) (x.out ++ giveO (nmK l k) (nowL (budK l k) (x.left k) - 1) (nowW cs x.beg (budK l k) (x.left k) (x.want k))) (nmK l k) (budK l k) (nowL (budK l k) (x.left k) - 1) (giveW (nowW cs x.beg (budK l k) (x.left k) (x.want k))) w')
    (hb : Below w.heap.size wr w') (hkp : KeepJ (w.heap.size + 1) (P.getD k 0) wr w') : RQ w w' tv csv cyc fr l P (prTick l cs (some k) x) := by
  obtain ⟨arr, h1, h2⟩ := h.hu
  obtain ⟨t1, t2, t3, t4⟩ := tick_pz l cs k x
  have hgt := (h.hj k hk).1
  refine ⟨hkp.blk h.hx (by omega) (by omega) (by decide), by rw [t1, t2]; exact hj.r, fun e => ?_, ⟨arr, hkp.blk h1 (by omega) (by omega) (by decide), h2⟩, fun j hjl => ⟨(h.hj j hjl).1, ?_⟩, h.inj, h.pl, h.bel.trans hb⟩
  · rw [t2] at e
    exact absurd (List.append_eq_nil_iff.1 e).2 (giveO_ne _ _ _)
  · rw [t3 j, t4 j]
    by_cases e : j = k
    · subst e
      rw [if_pos rfl, if_pos rfl]
      exact hj.j
    · rw [if_neg e, if_neg e]
      exact hkp.blk (h.hj j hjl).2 (by have := (h.hj j hjl).1; omega) (fun e2 => e (h.inj j k hjl hk e2)) (by decide)
end
theorem uvV_all (l : List FSl) (fr : Nat) (P : List Nat) (u : Nat) : uvV l fr P l.length 0 u = match unitL l fr u with | some k => ptrP P k | none => .pointer none := by
  unfold uvV unitL atL
  cases atTo l fr u l.length with
  | some i => rfl
  | none =>
    simp only [Option.map_none]
    rw [if_neg (by omega)]

/-! ### Bounds -/
theorem pr_beg (l : List FSl) (cyc fr : Nat) (cs : List Int) : ∀ u, (prT l cyc fr cs u).beg ≤ u
  | 0 => Nat.le_refl _
  | u + 1 => by
    have ih := pr_beg l cyc fr cs u
    rw [prT]
    cases unitL l fr (u % cyc) with
    | none => show (prT l cyc fr cs u).beg ≤ u + 1; omega
    | some k =>
      rw [(tick_pz l cs k _).1]
      unfold nowB
      split <;> omega
theorem pr_begun {l : List FSl} {cyc fr : Nat} (hn : l.length ≤ 300) (hs : ∀ i, i < l.length → (fsk l i).small) {cs : List Int} (hc : ∀ k, k < cs.length → 0 ≤ cs.getD k 0 ∧ cs.getD k 0 ≤ 400) (u i k : Nat) : 0 ≤ begunL l cyc fr cs u i (trcL l cyc fr cs u).1 k := (fine_begun hn hs hc cyc fr u i (trc_fine hn hs hc cyc fr u) k).1
theorem pr_fine {l : List FSl} {cyc fr : Nat} (G : Goes l cyc fr) (hn : l.length ≤ 300) (hs : ∀ i, i < l.length → (fsk l i).small) {cs : List Int} (hc : ∀ k, k < cs.length → 0 ≤ cs.getD k 0 ∧ cs.getD k 0 ≤ 400) (hB : ∀ k, budK l k ≤ 599940) (u : Nat) {i : Nat} (hi : i < l.length) :
    1 ≤ nowL (budK l (numI l i)) ((prT l cyc fr cs u).left (numI l i)) ∧ nowL (budK l (numI l i)) ((prT l cyc fr cs u).left (numI l i)) ≤ 1000000 ∧ 0 ≤ nowW cs (prT l cyc fr cs u).beg (budK l (numI l i)) ((prT l cyc fr cs u).left (numI l i)) ((prT l cyc fr cs u).want (numI l i)) ∧ nowW cs (prT l cyc fr cs u).beg (budK l (numI l i)) ((prT l cyc fr cs u).left (numI l i)) ((prT l cyc fr cs u).want (numI l i)) ≤ 1000000000 := by
  have hb1 : 1 ≤ budK l (numI l i) := by
    have h3 := hadK_next (q := i) hi hi
    rw [if_pos rfl] at h3
    have h4 := hadK_le (q := i + 1) hi hi
    have h5 := G.bud i hi
    omega
  have hb2 := hB (numI l i)
  obtain ⟨j, hp⟩ := PI.all G cs u
  have hl := hp.left i hi
  have hl2 : (prT l cyc fr cs u).left (numI l i) ≤ budK l (numI l i) := by
    rw [hl]
    split <;> omega
  have hw := trc_fine hn hs hc cyc fr u (numI l i)
  rw [← (pr_trc G cs (fun u i k => pr_begun hn hs hc u i k) u).1] at hw
  have hwf := wants_fine hc (prT l cyc fr cs u).beg (budK l (numI l i)) (by omega)
  unfold nowL nowW
  split
  · exact ⟨hb1, by omega, hwf.1, by omega⟩
  · exact ⟨by omega, by omega, hw.1, by omega⟩
theorem pr_len {l : List FSl} {cyc fr : Nat} (G : Goes l cyc fr) (hn : l.length ≤ 300) (hs : ∀ i, i < l.length → (fsk l i).small) {cs : List Int} (hc : ∀ k, k < cs.length → 0 ≤ cs.getD k 0 ∧ cs.getD k 0 ≤ 400) (u : Nat) : (prT l cyc fr cs u).out.length ≤ 3 * u := by
  rw [(pr_trc G cs (fun u i k => pr_begun hn hs hc u i k) u).2]
  exact trc_len l cyc fr cs u
end Go.Proofs.YtbdffcjganlblaaGreatDoor

namespace Go.Proofs.YtbdffcjganlblaaGreatDoor
open Go.RowKit Go.Maps
set_option linter.unusedVariables false
set_option linter.unusedSimpArgs false

theorem CostsAt.low {w w' : World} {a : Option Addr} {cs : List Int} (h : CostsAt w a cs) (hb : Below w.heap.size w w') : CostsAt w' a cs := by
  rcases h with h | ⟨b, off, h1, h2, h3⟩
  · exact .inl h
  · exact .inr ⟨b, off, h1, Nat.lt_of_lt_of_le h2 hb.size, fun k hk => (hb.cell (p := ⟨b, off + k, none⟩) h2).trans (h3 k hk)⟩

/-- A slice of numbers with nothing in it may have any address. -/
def CostsIn (w : World) (a : Option Addr) (cs : List Int) : Prop := CostsAt w a cs ∧ ∀ b off, a = some ⟨b, off, none⟩ → b < w.heap.size

set_option maxRecDepth 100000 in
set_option maxHeartbeats 8000000 in
theorem run_any (t : Tb) (a : Option Addr) (cc : Nat) (w : World) (hr : FvA w a t.fs) (hS : Sound t) (tk : Nat) (htk : tk ≤ 400) (cs : List Int) (ca : Option Addr) (ccap : Nat) (hca : CostsAt w ca cs) (hcl : cs.length ≤ 40) (hcb : ∀ k, k < cs.length → 0 ≤ cs.getD k 0 ∧ cs.getD k 0 ≤ 400) :
    Calls Tryz.prog 39 #[.agg #[.int .i64 t.cyc, .int .i64 t.fr, .slice a t.fs.length cc], .int .i64 tk, .slice ca cs.length ccap] w fun e w' => e = .returned (.string (bs (prT (flatF 0 t.fs) t.cyc t.fr cs tk).out)) ∧ Below w.heap.size w w' := by
  have hc1 := hS.c1
  have hc2 := hS.c2
  have hll := flat_len hS
  have hG := hide (goes_of_sound hS)
  have Hsm : Hid (∀ i, i < (flatF 0 t.fs).length → (fsk (flatF 0 t.fs) i).small) := fun i hi => (job_small hS i hi).2.2
  have HBd : Hid (∀ k, budK (flatF 0 t.fs) k ≤ 599940) := fun k => hadK_small hS k _ (Nat.le_refl _)
  have Hcb := hide hcb
  have Hca := hide hca
  have HU := hide (units_any t a cc ((w.alloc (.cells #[.int .i64 t.cyc, .int .i64 t.fr, .slice a t.fs.length cc] 61)).alloc (.cells #[.slice ca cs.length ccap, .int .i64 0, .pointer none, .slice none 0 0] 118)) ((hr.below (below_new w _) (Nat.le_refl _)).below (below_new _ _) (Nat.le_refl _)) hS)
  have hx0 := blk_cell (blk_new w #[.int .i64 t.cyc, .int .i64 t.fr, .slice a t.fs.length cc] 61)
  clear hr hS hca hcb
  go_enter Tryz.func39, Tryz.ntmps39
  go_wp2_with fail
  refine HU.out.mono ?_
  rintro e w1 ⟨P, rfl, hU⟩
  have HQ := hide (RQ.start (csv := .slice ca cs.length ccap) hU)
  clear hU HU hx0
  go_wp2_with fail
  go_loopw [15] (fun i wr => ∃ q : Nat, q ≤ tk ∧ i = .int .i64 q ∧ RQ w wr #[.int .i64 t.cyc, .int .i64 t.fr, .slice a t.fs.length cc] (.slice ca cs.length ccap) t.cyc t.fr (flatF 0 t.fs) P (prT (flatF 0 t.fs) t.cyc t.fr cs q)) (fun i _ => 1000 - (intOf i).toNat)
  case atStart => exact ⟨0, by omega, rfl, HQ.out⟩
  case round =>
    clear HQ
    obtain ⟨q, hq, rfl, hQ⟩ := hrel
    have HQ := hide hQ
    by_cases hlt : q < tk
    · have hlt' : (q : Int) < tk := by omega
      have x := blk_cell hQ.hx
      obtain ⟨arr, ha1, ha2⟩ := hQ.hu
      have hml := Nat.mod_lt q (show 0 < t.cyc by omega)
      have hcu := blk_cell ha1 (q % t.cyc)
      rw [ha2 _ hml, uvV_all] at hcu
      have hi1 : 0 ≤ (q : Int) % t.cyc := by rw [← Int.natCast_emod]; exact Int.natCast_nonneg _
      have hi2 : (q : Int) % t.cyc < t.cyc := by rw [← Int.natCast_emod]; exact Int.ofNat_lt.2 hml
      have hi3 : ¬ (t.cyc : Int) = 0 := by omega
      have hbeg := pr_beg (flatF 0 t.fs) t.cyc t.fr cs q
      have hlen := pr_len hG.out (by omega) Hsm.out Hcb.out q
      have hstep : Hid (prT (flatF 0 t.fs) t.cyc t.fr cs (q + 1) = prTick (flatF 0 t.fs) cs (unitL (flatF 0 t.fs) t.fr (q % t.cyc)) (prT (flatF 0 t.fs) t.cyc t.fr cs q)) := rfl
      cases hun : unitL (flatF 0 t.fs) t.fr (q % t.cyc) with
      | none =>
        rw [hun] at hcu hstep
        simp only at hcu
        have HT := hide (tickN_any w.heap.size (w.heap.size + 1) (.slice ca cs.length ccap) _ _ wr hQ.hr (by omega))
        clear hQ ha1 ha2 hun
        go_wp2_with fail
        refine HT.out.mono ?_
        rintro e w2 ⟨rfl, h2, hb2, hk2⟩
        have HQ2 := hide (HQ.out.none h2 hb2 hk2)
        clear h2 hb2 hk2 HT HQ hcu x
        go_wp2_with fail
        go_roundw
        case rel => exact ⟨q + 1, by omega, by go_num, by rw [hstep.out]; exact HQ2.out⟩
        case measure => simp [intOf]; omega
      | some k =>
        rw [hun] at hcu hstep
        simp only [ptrP] at hcu
        obtain ⟨i, hi, hik⟩ : ∃ i, i < (flatF 0 t.fs).length ∧ numI (flatF 0 t.fs) i = k := by
          unfold unitL at hun
          cases hat : atL (flatF 0 t.fs) t.fr (q % t.cyc) with
          | none => rw [hat] at hun; simp at hun
          | some i =>
            rw [hat] at hun
            exact ⟨i, (at_some hat).1, by simpa using hun⟩
        obtain ⟨b1, b2, b3, b4⟩ := pr_fine hG.out (by omega) Hsm.out Hcb.out HBd.out q hi
        rw [hik] at b1 b2 b3 b4
        have hkP : k < P.length := by
          rw [hQ.pl, ← hik]
          exact num_lt_cnt hi (Nat.le_refl _)
        have hgt := (hQ.hj k hkP).1
        have HT := hide (tickJ_any w.heap.size (w.heap.size + 1) (P.getD k 0) ca cs ccap _ _ _ _ _ _ wr (hQ.jr hkP) (Hca.out.low hQ.bel) (fun h0 b off e => by
          rcases Hca.out with h | ⟨b', off', e', hb', _⟩
          · rw [h] at h0
            simp at h0
          · rw [e'] at e
            cases e
            omega) (by omega) (by omega) (by omega) b1 b2 b3 b4 (by omega))
        clear hQ ha1 ha2 hun b1 b2 b3 b4
        generalize hJ : P.getD k 0 = J at hcu HT hgt
        have HJ := hide hJ
        clear hJ
        go_wp2_with fail
        refine HT.out.mono ?_
        rintro e w2 ⟨rfl, h2, hb2, hk2⟩
        have HQ2 := hide (HQ.out.job hkP cs (by rw [HJ.out]; exact h2) hb2 (by rw [HJ.out]; exact hk2))
        clear h2 hb2 hk2 HT HQ hcu x
        go_wp2_with fail
        go_roundw
        case rel => exact ⟨q + 1, by omega, by go_num, by rw [hstep.out]; exact HQ2.out⟩
        case measure => simp [intOf]; omega
    · have hlt' : ¬ (q : Int) < tk := by omega
      have hqe : q = tk := by omega
      have HSt : Hid (Calls Tryz.prog 73 #[.pointer (some ⟨w.heap.size + 1, 2, none⟩)] wr fun e w' => e = .returned (.string (bs (prT (flatF 0 t.fs) t.cyc t.fr cs tk).out)) ∧ Below w.heap.size wr w') := by
        rw [hqe] at hQ
        by_cases h0 : (prT (flatF 0 t.fs) t.cyc t.fr cs tk).out = []
        · obtain ⟨bg, p, hb⟩ := hQ.hn h0
          rw [h0]
          exact string_none w.heap.size (w.heap.size + 1) _ bg p wr hb
        · exact string_some w.heap.size (w.heap.size + 1) _ _ _ wr hQ.hr h0
      generalize hRR : bs (prT (flatF 0 t.fs) t.cyc t.fr cs tk).out = RR at *
      have HRR := hide hRR
      clear hRR
      have HB := hide hQ.bel
      clear hQ HQ hqe
      go_wp2_with fail
      refine HSt.out.mono ?_
      rintro e w2 ⟨rfl, hb2⟩
      have HB2 := hide (HB.out.trans hb2)
      clear hb2 HSt HB
      go_wp2
      go_ret
      exact ⟨by rw [HRR.out]; rfl, HB2.out⟩
end Go.Proofs.YtbdffcjganlblaaGreatDoor

namespace Go.Proofs.YtbdffcjganlblaaGreatDoor
open Go.RowKit Go.Maps
set_option linter.unusedVariables false
set_option linter.unusedSimpArgs false

theorem CostsIn.low {w w' : World} {a : Option Addr} {cs : List Int} (h : CostsIn w a cs) (hb : Below w.heap.size w w') : CostsIn w' a cs := ⟨h.1.low hb, fun b off e => Nat.lt_of_lt_of_le (h.2 b off e) hb.size⟩
def rnE (l : List UInt8) (tk : Int) (cs : List Int) (f : Nat × Nat) : Prop := (f.1 = 8 ∧ ¬ ∃ t, UnpOk l t) ∨ (f.1 = 9 ∧ (∃ t, UnpOk l t) ∧ ¬ ticksOk tk cs)
def rnR (l : List UInt8) (tk : Int) (cs : List Int) (x : List UInt8) : Prop := ∃ t, UnpOk l t ∧ ticksOk tk cs ∧ x = (prT (flatF 0 t.fs) t.cyc t.fr cs tk.toNat).out

set_option maxRecDepth 100000 in
set_option maxHeartbeats 2000000 in
theorem run1_any (s : ByteArray) (tk : Int) (cs : List Int) (ca : Option Addr) (ccap b b2 b3 : Nat) (w : World) (hm : s.size ≤ 9223372036854775807) (hn : cs.length ≤ 9223372036854775807) (hca : CostsAt w ca cs) (hb : b < w.heap.size) (hb2 : b2 < w.heap.size) (hb3 : b3 < w.heap.size)
    (hc : w.cell? ⟨b, 0, none⟩ = some (.string s)) (hc2 : w.cell? ⟨b2, 0, none⟩ = some (.int .i64 tk)) (hc3 : w.cell? ⟨b3, 0, none⟩ = some (.slice ca cs.length ccap)) :
    Calls Tryz.prog 37 #[.pointer (some ⟨b, 0, none⟩), .pointer (some ⟨b2, 0, none⟩), .pointer (some ⟨b3, 0, none⟩)] w (WorkOut (rnE s.data.toList tk cs) (rnR s.data.toList tk cs) w) := by
  have Hca := hide hca
  clear hca
  go_enter Tryz.func37, Tryz.ntmps37
  go_wp2_with fail
  refine (unpack_any s _ hm).mono ?_
  rintro e w1 ⟨hb1, hcase⟩
  rcases hcase with ⟨p, rfl, hno⟩ | ⟨t, P, a, c, ht, hfs, rfl, hfm⟩
  · exact ⟨rfl, hb1, .inl ⟨(8, p), .inl ⟨rfl, hno⟩, rfl⟩⟩
  · have hS : Sound t := by
      obtain ⟨_, _, _, _, h⟩ := ht
      exact h.1
    have hPf : t.fs.length = P.length := by rw [hfs]; simp
    have hfv : FvA w1 a t.fs := by have := fvA_own hfm; rw [← hfs] at this; exact this
    have d2 := (hb1.cell (p := ⟨b2, 0, none⟩) hb2).trans hc2
    have d3 := (hb1.cell (p := ⟨b3, 0, none⟩) hb3).trans hc3
    have h2w : b2 < w1.heap.size := Nat.lt_of_lt_of_le hb2 hb1.size
    have h3w : b3 < w1.heap.size := Nat.lt_of_lt_of_le hb3 hb1.size
    rw [← hPf]
    have HB := hide (hb1.alloc hb1.size (.cells #[.int .i64 t.cyc, .int .i64 t.fr, .slice a t.fs.length c] 61))
    have Hca2 := hide (Hca.out.low HB.out)
    have Hfv := hide (hfv.below (below_new w1 (.cells #[.int .i64 t.cyc, .int .i64 t.fr, .slice a t.fs.length c] 61)) (Nat.le_refl _))
    have Ht := hide ht
    have HS := hide hS
    have hX := blk_new w1 #[.int .i64 t.cyc, .int .i64 t.fr, .slice a t.fs.length c] 61
    have hXl : w1.heap.size < (w1.alloc (.cells #[.int .i64 t.cyc, .int .i64 t.fr, .slice a t.fs.length c] 61)).heap.size := blk_lt hX
    have HX := hide hX
    clear ht hfs hfm hPf hfv hS hb1 hc hc2 hc3 hX Hca
    go_wp2_with fail
    refine (checkTicks_any tk cs ca ccap _ Hca2.out hn).mono ?_
    rintro e w2 ⟨hb2', hcase⟩
    have HB2 := hide (HB.out.trans (hb2'.mono (by have := HB.out.size; exact this)))
    rcases hcase with ⟨htk, rfl⟩ | ⟨htk, rfl⟩
    · have e2 := (hb2'.cell (p := ⟨b2, 0, none⟩) (by simp; omega)).trans ((below_new w1 (.cells #[.int .i64 t.cyc, .int .i64 t.fr, .slice a t.fs.length c] 61)).cell (p := ⟨b2, 0, none⟩) h2w |>.trans d2)
      have e3 := (hb2'.cell (p := ⟨b3, 0, none⟩) (by simp; omega)).trans ((below_new w1 (.cells #[.int .i64 t.cyc, .int .i64 t.fr, .slice a t.fs.length c] 61)).cell (p := ⟨b3, 0, none⟩) h3w |>.trans d3)
      have x := blk_cell (blk_keep HX.out hb2')
      obtain ⟨n, hn2⟩ : ∃ n : Nat, tk = n := ⟨tk.toNat, by have := htk.1; omega⟩
      have hn4 : n ≤ 400 := by have := htk.2.1; omega
      have HR := hide (run_any t a c w2 (Hfv.out.below hb2' (Nat.le_refl _)) HS.out n hn4 cs ca ccap (Hca2.out.low hb2') htk.2.2.1 htk.2.2.2)
      rw [← hn2] at HR
      have Htk := hide htk
      have Hn2 := hide hn2
      clear hb2' d2 d3 htk HX hn2 Hfv HB
      generalize hRR : bs (prT (flatF 0 t.fs) t.cyc t.fr cs n).out = RR at *
      have HRR := hide hRR
      clear hRR
      go_wp2_with fail
      refine HR.out.mono ?_
      rintro e w3 ⟨rfl, hb3'⟩
      have HB3 := hide (HB2.out.trans (hb3'.mono HB2.out.size))
      clear hb3' HR x e2 e3
      go_wp2
      go_ret
      exact ⟨HB3.out, .inr ⟨_, ⟨t, Ht.out, Htk.out, rfl⟩, by rw [show tk.toNat = n by rw [Hn2.out]; rfl, HRR.out]; rfl⟩⟩
    · exact ⟨rfl, HB2.out, .inl ⟨(9, 0), .inr ⟨rfl, ⟨t, Ht.out⟩, htk⟩, rfl⟩⟩

set_option maxRecDepth 100000 in
set_option maxHeartbeats 1000000 in
theorem guard_run (own : Nat) (ev : Int) (hev : ev = own) (b b2 b3 : Nat) (w : World) (E : Nat × Nat → Prop) (R : List UInt8 → Prop)
    (hw : ∀ W, Below w.heap.size w W → Calls Tryz.prog 37 #[.pointer (some ⟨b, 0, none⟩), .pointer (some ⟨b2, 0, none⟩), .pointer (some ⟨b3, 0, none⟩)] W (WorkOut E R W)) :
    Calls Tryz.prog 30 #[.int .i64 ev, .func (.func 37) #[] #[.pointer (some ⟨b, 0, none⟩), .pointer (some ⟨b2, 0, none⟩), .pointer (some ⟨b3, 0, none⟩)]] w (GOutG E R w) := by
  subst hev
  have hmf : ∀ (fn : Fn) (first cap : Array Value) (w : World), (Instr.makeFunc fn first cap).run Tryz.prog w = .ok (.func fn first cap) w := fun _ _ _ _ => rfl
  have HN := hide (G3.new w own)
  have HO := hide (own_new w own)
  have HB0 := hide (below_four w (.cells #[.int .i64 own] 28) (.cells #[.string ⟨#[]⟩] 9) (.cells #[.int .i64 0] 28) (.cells #[.int .i64 0] 3))
  have Hw := hide hw
  clear hw
  go_enter_defers Tryz.func30, Tryz.ntmps30
  go_wp2_with fail
  generalize (((w.alloc (.cells #[.int .i64 own] 28)).alloc (.cells #[.string ⟨#[]⟩] 9)).alloc (.cells #[.int .i64 0] 28)).alloc (.cells #[.int .i64 0] 3) = W at *
  refine (Hw.out W HB0.out).mono ?_
  rintro e w1 ⟨hb1, hcase⟩
  have HG1 := hide (HN.out.keep hb1)
  have HO1 := hide (blk_kept HO.out hb1)
  have HB1 := hide (HB0.out.trans (hb1.mono HB0.out.size))
  clear hb1
  rcases hcase with ⟨f, hf, rfl⟩ | ⟨x, hR, rfl⟩
  · refine leaves_cons (f := 63) (args := #[.pointer (some ⟨w.heap.size, 0, none⟩), .pointer (some ⟨w.heap.size + 1, 0, none⟩), .pointer (some ⟨w.heap.size + 1 + 1, 0, none⟩), .pointer (some ⟨w.heap.size + 1 + 2, 0, none⟩)]) (by simp) (by simp [go_sem]) ?_
    refine (catch_panicking w.heap.size own (w.heap.size + 1) f.1 f.2 w1 (by rw [blk_cell HO1.out]; rfl) HG1.out).mono ?_
    rintro e u' w'' ⟨rfl, rfl, hG, hB⟩
    have c0 := blk_cell hG.h0
    have c1 := blk_cell hG.h1
    have c2 := blk_cell hG.h2
    simp [Leaves, settle, results, Tryz.results30, go_sem, c0, c1, c2]
    exact ⟨HB1.out.trans (hB.mono (Nat.le_succ _)), .inl ⟨f, hf, rfl⟩⟩
  · have a0 := blk_cell HG1.out.h0
    have a1 := blk_cell HG1.out.h1
    have a2 := blk_cell HG1.out.h2
    have f0 := blk_frozen HG1.out.h0
    have f1 := blk_frozen HG1.out.h1
    have f2 := blk_frozen HG1.out.h2
    have HR := hide hR
    clear hR
    go_wp2
    refine leaves_cons (f := 63) (args := #[.pointer (some ⟨w.heap.size, 0, none⟩), .pointer (some ⟨w.heap.size + 1, 0, none⟩), .pointer (some ⟨w.heap.size + 1 + 1, 0, none⟩), .pointer (some ⟨w.heap.size + 1 + 2, 0, none⟩)]) (by simp) (by simp [go_sem]) ?_
    refine (catch_idle _ _ _ _ _).mono ?_
    rintro e u' w'' ⟨rfl, rfl, rfl⟩
    have hG : G3 (((w1.setCell ⟨w.heap.size + 1, 0, none⟩ (.string (bs x))).setCell ⟨w.heap.size + 1 + 1, 0, none⟩ (.int .i64 0)).setCell ⟨w.heap.size + 1 + 2, 0, none⟩ (.int .i64 0)) (w.heap.size + 1) (bs x) 0 0 := HG1.out.set (bs x) 0 0
    have HB := ((HB1.out.setCell (p := ⟨w.heap.size + 1, 0, none⟩) (Nat.le_add_right _ _) (.string (bs x))).setCell (p := ⟨w.heap.size + 1 + 1, 0, none⟩) (Nat.le_trans (Nat.le_succ _) (Nat.le_succ _)) (.int .i64 0)).setCell (p := ⟨w.heap.size + 1 + 2, 0, none⟩) (Nat.le_trans (Nat.le_succ _) (Nat.le_add_right _ _)) (.int .i64 0)
    generalize ((w1.setCell ⟨w.heap.size + 1, 0, none⟩ (.string (bs x))).setCell ⟨w.heap.size + 1 + 1, 0, none⟩ (.int .i64 0)).setCell ⟨w.heap.size + 1 + 2, 0, none⟩ (.int .i64 0) = w2 at *
    have c0 := blk_cell hG.h0
    have c1 := blk_cell hG.h1
    have c2 := blk_cell hG.h2
    simp [Leaves, settle, results, Tryz.results30, go_sem, c0, c1, c2]
    exact ⟨HB, .inr ⟨x, HR.out, rfl⟩⟩

set_option maxRecDepth 100000 in
set_option maxHeartbeats 800000 in
theorem run_out (s : ByteArray) (tk : Int) (cs : List Int) (ca : Option Addr) (ccap : Nat) (w : World) (hm : s.size ≤ 9223372036854775807) (hn : cs.length ≤ 9223372036854775807) (hca : CostsAt w ca cs) :
    Calls Tryz.prog 18 #[.string s, .int .i64 tk, .slice ca cs.length ccap] w (TwoOut (rnE s.data.toList tk cs) (rnR s.data.toList tk cs) w) := by
  have hmf : ∀ (fn : Fn) (first cap : Array Value) (w : World), (Instr.makeFunc fn first cap).run Tryz.prog w = .ok (.func fn first cap) w := fun _ _ _ _ => rfl
  have n1 := blk_new w #[.string s] 9
  have n2 := blk_new (w.alloc (.cells #[.string s] 9)) #[.int .i64 tk] 3
  have n3 := blk_new ((w.alloc (.cells #[.string s] 9)).alloc (.cells #[.int .i64 tk] 3)) #[.slice ca cs.length ccap] 25
  have m1 := blk_keep (blk_keep n1 (below_new _ (.cells #[.int .i64 tk] 3))) (below_new _ (.cells #[.slice ca cs.length ccap] 25))
  have m2 := blk_keep n2 (below_new _ (.cells #[.slice ca cs.length ccap] 25))
  simp only [World.size_alloc] at n3 m2
  have HB0 := hide (((below_new w (.cells #[.string s] 9)).alloc (by simp) (.cells #[.int .i64 tk] 3)).alloc (by simp; omega) (.cells #[.slice ca cs.length ccap] 25))
  have HG : Hid (Calls Tryz.prog 30 #[.int .i64 8, .func (.func 37) #[] #[.pointer (some ⟨w.heap.size, 0, none⟩), .pointer (some ⟨w.heap.size + 1, 0, none⟩), .pointer (some ⟨w.heap.size + 1 + 1, 0, none⟩)]] (((w.alloc (.cells #[.string s] 9)).alloc (.cells #[.int .i64 tk] 3)).alloc (.cells #[.slice ca cs.length ccap] 25)) (GOutG (rnE s.data.toList tk cs) (rnR s.data.toList tk cs) (((w.alloc (.cells #[.string s] 9)).alloc (.cells #[.int .i64 tk] 3)).alloc (.cells #[.slice ca cs.length ccap] 25)))) := by
    refine guard_run 8 _ rfl w.heap.size (w.heap.size + 1) (w.heap.size + 1 + 1) _ (rnE s.data.toList tk cs) (rnR s.data.toList tk cs) (fun W hW => ?_)
    have hsz := hW.size
    simp only [World.size_alloc] at hsz
    refine run1_any s tk cs ca ccap w.heap.size (w.heap.size + 1) (w.heap.size + 1 + 1) W hm hn ((hca.low HB0.out).low hW) (by omega) (by omega) (by omega) ?_ ?_ ?_
    · rw [blk_cell (blk_keep m1 hW)]; rfl
    · rw [blk_cell (blk_keep m2 hW)]; rfl
    · rw [blk_cell (blk_keep n3 hW)]; rfl
  clear n1 n2 n3 m1 m2 hca
  go_enter Tryz.func18, Tryz.ntmps18
  go_wp2_with fail
  refine HG.out.mono ?_
  rintro e w1 ⟨hb1, hcase⟩
  have HB := hide (HB0.out.trans (hb1.mono (by simp; omega)))
  clear hb1 HG
  rcases hcase with ⟨f, hf, rfl⟩ | ⟨R, hR, rfl⟩
  · have Hf := hide hf
    clear hf
    go_wp2
    go_ret2
    exact ⟨HB.out, .inl ⟨f, Hf.out, rfl⟩⟩
  · have HR := hide hR
    clear hR
    go_wp2
    go_ret2
    exact ⟨HB.out, .inr ⟨R, HR.out, rfl⟩⟩
end Go.Proofs.YtbdffcjganlblaaGreatDoor
