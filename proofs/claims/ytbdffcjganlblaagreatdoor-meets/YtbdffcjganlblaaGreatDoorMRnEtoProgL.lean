/-
  Own work. The program's run: the trace's string, and what the ticks must be.
-/
import Derived.Test.YtbdffcjganlblaaGreatDoorMProgJtoRnB
import Derived.Test.YtbdffcjganlblaaGreatDoorMProgBtoProgC
import Derived.Test.YtbdffcjganlblaaGreatDoorMTbFtoRnD
import Derived.Test.YtbdffcjganlblaaGreatDoorMPrCtoTbB
import Derived.Deep.DeepCutAuto
namespace Go.Proofs.YtbdffcjganlblaaGreatDoor
open Go.RowKit
set_option linter.unusedVariables false
set_option linter.unusedSimpArgs false

set_option maxHeartbeats 1000000 in
set_option maxRecDepth 100000 in
theorem string_some (B R : Nat) (cs : Value) (bg : Int) (l : List UInt8) (w : World) (h : IsRun B R cs bg l w) (h0 : l ≠ []) :
    Calls Tryz.prog 73 #[.pointer (some ⟨R, 2, none⟩)] w fun e w' => e = .returned (.string (bs l)) ∧ Below B w w' := by
  obtain ⟨p, hB, v, hbk, hown⟩ : ∃ p, RunAt B R cs bg p l w := by
    rcases h with h | h
    · exact ⟨_, h⟩
    · exact ⟨_, h⟩
  have hl0 : l.length ≠ 0 := by simpa using h0
  obtain ⟨g, cap, cur, rfl, hbg, hg, hnc, hcm, hcs, htake⟩ : ∃ g cap cur, v = .slice (some ⟨g, 0, none⟩) l.length cap ∧ B ≤ g ∧ w.heap[g]? = some (.cells cur 5 (0, 0)) ∧ l.length ≤ cap ∧ cap ≤ maxLen ∧ cur.size = cap * 1 ∧ cur.toList.take (l.length * 1) = bV l := by
    rcases hown.2 with ⟨_, hz⟩ | ⟨g, cap, cur, hv, r⟩
    · exact absurd hz hl0
    · exact ⟨g, cap, cur, hv, r⟩
  have c1 : w.drew.cell? ⟨R, 3, none⟩ = some (.slice (some ⟨g, 0, none⟩) l.length cap) := by
    have : w.drew.heap[R]? = some (.cells #[cs, .int .i64 bg, p, .slice (some ⟨g, 0, none⟩) l.length cap] 118 (0, 0)) := hbk
    rw [blk_cell this]; rfl
  have hSD : (Builtin.unsafeSliceData_ #[64] 161 #[.slice (some ⟨g, 0, none⟩) l.length cap]).run Tryz.prog w.drew = .ok (.pointer (some ⟨g, 0, none⟩)) w.drew :=
    Lib.run_unsafeSliceData_row _ _ _ _ _ _ (by omega)
  have hUS : (Builtin.unsafeString_ #[161, 3] 9 #[.pointer (some ⟨g, 0, none⟩), .int .i64 l.length]).run Tryz.prog w.drew = .ok (.string (bs l)) (w.drew.freeze ⟨g, 0, none⟩ l.length) := by
    refine Lib.run_unsafeString_row w.drew 161 3 9 5 Tryz.underlying161 Tryz.cellsU8 g cur.size (by have hg' : w.drew.heap[g]? = some (.cells cur 5 (0, 0)) := hg; simp [World.shape?, hg']) l h0 (by omega) (by unfold maxLen at hcm; omega) ?_
    intro j x hx
    have := hown.cells (g := g) rfl j (.int .u8 x.toNat) (by simp [bV, hx])
    exact this
  have HB := hide (Lib.below_freeze (Below.drew (Below.refl B w)) (p := ⟨g, 0, none⟩) hbg l.length)
  clear hown hbk h hg htake hcs hnc hcm
  generalize bs l = RR at *
  go_enter Tryz.func73, Tryz.ntmps73
  go_wp2
  go_region
  all_goals (go_wp2; go_ret; exact ⟨rfl, HB.out⟩)

set_option maxHeartbeats 1000000 in
set_option maxRecDepth 100000 in
theorem string_none (B R : Nat) (cs : Value) (bg : Int) (p : Value) (w : World) (hbk : w.heap[R]? = some (.cells #[cs, .int .i64 bg, p, .slice none 0 0] 118 (0, 0))) :
    Calls Tryz.prog 73 #[.pointer (some ⟨R, 2, none⟩)] w fun e w' => e = .returned (.string (bs [])) ∧ Below B w w' := by
  have hUS := fun (W : World) (q : Option Addr) => Lib.run_unsafeString_none (P := Tryz.prog) W 161 3 9 q
  have c1 : w.drew.cell? ⟨R, 3, none⟩ = some (.slice none 0 0) := by
    have : w.drew.heap[R]? = some (.cells #[cs, .int .i64 bg, p, .slice none 0 0] 118 (0, 0)) := hbk
    rw [blk_cell this]; rfl
  have hSD : (Builtin.unsafeSliceData_ #[64] 161 #[.slice none 0 0]).run Tryz.prog w.drew = .ok (.pointer none) w.drew := rfl
  have HB := hide (Below.drew (Below.refl B w))
  clear hbk
  go_enter Tryz.func73, Tryz.ntmps73
  go_wp2
  go_region
  all_goals (go_wp2; go_ret; exact ⟨rfl, HB.out⟩)

set_option maxRecDepth 100000 in
theorem isTicks_yes (n : Int) (w : World) (h : 0 ≤ n ∧ n ≤ 400) : Calls Tryz.prog 74 #[.int .i64 n] w fun e w' => e = .returned (.bool true) ∧ w' = w := by
  obtain ⟨h1, h2⟩ := h
  go_enter Tryz.func74, Tryz.ntmps74
  go_wp2
  go_ret
  exact ⟨rfl, rfl⟩
set_option maxRecDepth 100000 in
theorem isTicks_no (n : Int) (w : World) (h : ¬ (0 ≤ n ∧ n ≤ 400)) : Calls Tryz.prog 74 #[.int .i64 n] w fun e w' => e = .returned (.bool false) ∧ w' = w := by
  by_cases h1 : 0 ≤ n
  · have h2 : ¬ n ≤ 400 := fun x => h ⟨h1, x⟩
    clear h
    go_enter Tryz.func74, Tryz.ntmps74
    go_wp2
    go_ret
    exact ⟨rfl, rfl⟩
  · clear h
    go_enter Tryz.func74, Tryz.ntmps74
    go_wp2
    go_ret
    exact ⟨rfl, rfl⟩

set_option maxRecDepth 100000 in
set_option maxHeartbeats 2000000 in
theorem checkTicks_any (tk : Int) (cs : List Int) (a : Option Addr) (cap : Nat) (w : World) (hc : CostsAt w a cs) (hn : cs.length ≤ 9223372036854775807) :
    Calls Tryz.prog 38 #[.int .i64 tk, .slice a cs.length cap] w fun e w' => Below w.heap.size w w' ∧ ((ticksOk tk cs ∧ e = .returned (.tuple #[])) ∨ (¬ ticksOk tk cs ∧ e = pan 9 0)) := by
  have Hc := hide hc
  clear hc
  have hnot : ∀ (x : Bool) (w : World), (Op.unary .not (.bool x)).run Tryz.prog w = .ok (.bool (!x)) w := fun _ _ => rfl
  by_cases ht : 0 ≤ tk ∧ tk ≤ 400
  · have Ht := hide ht
    clear ht
    by_cases hl : cs.length ≤ 40
    · have hl' : ¬ (40 : Int) < cs.length := by omega
      go_enter Tryz.func38, Tryz.ntmps38
      go_wp2_with fail
      refine (isTicks_yes tk _ Ht.out).mono ?_
      rintro e w2 ⟨rfl, rfl⟩
      go_wp2_with fail
      go_loopw [17] (fun i wr => ∃ k : Nat, k ≤ cs.length ∧ i = .int .i64 k ∧ Below w2.heap.size w2 wr ∧ Hid (∀ i, i < k → 0 ≤ cs.getD i 0 ∧ cs.getD i 0 ≤ 400)) (fun i _ => 200 - (intOf i).toNat)
      case atStart => exact ⟨0, by omega, rfl, Below.refl _ _, fun i hi => by omega⟩
      case round =>
        obtain ⟨k, hk, rfl, hbw, hall⟩ := hrel
        have Hbw := hide hbw
        by_cases hkl : k < cs.length
        · have hkl' : (k : Int) < cs.length := by omega
          obtain ⟨x, off, rfl, hx, hr⟩ : ∃ b off, a = some ⟨b, off, none⟩ ∧ b < w2.heap.size ∧ ∀ k, k < cs.length → w2.cell? ⟨b, off + k, none⟩ = some (.int .i64 (cs.getD k 0)) := by
            rcases Hc.out with hc | hc
            · rw [hc] at hkl
              simp at hkl
            · exact hc
          have hcc := (hbw.cell (p := ⟨x, off + k, none⟩) hx).trans (hr k hkl)
          clear hr hbw
          generalize hV : cs.getD k 0 = V at *
          have HV := hide hV
          clear hV
          go_wp2_with fail
          by_cases hok : 0 ≤ V ∧ V ≤ 400
          · have Hok := hide hok
            refine (isTicks_yes V _ hok).mono ?_
            rintro e w' ⟨rfl, rfl⟩
            clear hok
            go_wp2
            go_roundw
            case rel =>
              refine ⟨k + 1, by omega, by go_num, Hbw.out, fun i hi => ?_⟩
              rcases Nat.lt_or_ge i k with h5 | h5
              · exact hall.out i h5
              · have : i = k := by omega
                subst this
                rw [HV.out]
                exact Hok.out
            case measure => simp [intOf]; omega
          · have Hok := hide hok
            refine (isTicks_no V _ hok).mono ?_
            rintro e w' ⟨rfl, rfl⟩
            clear hok
            go_wp2_with fail
            refine (refuse_any 9 0 _ rfl _).mono ?_
            rintro e w' ⟨rfl, rfl⟩
            refine ⟨rfl, Hbw.out, .inr ⟨?_, rfl⟩⟩
            intro hh
            have := hh.2.2.2 k hkl
            rw [HV.out] at this
            exact Hok.out this
        · have hkl' : ¬ (k : Int) < cs.length := by omega
          have hke : k = cs.length := by omega
          have Hke := hide hke
          clear hke
          clear hbw
          go_wp2
          go_end0
          exact ⟨Hbw.out, .inl ⟨⟨Ht.out.1, Ht.out.2, hl, fun i hi => hall.out i (by rw [Hke.out]; exact hi)⟩, rfl⟩⟩
    · have hl' : (40 : Int) < cs.length := by omega
      go_enter Tryz.func38, Tryz.ntmps38
      go_wp2_with fail
      refine (isTicks_yes tk _ Ht.out).mono ?_
      rintro e w' ⟨rfl, rfl⟩
      go_wp2_with fail
      refine (refuse_any 9 0 _ rfl _).mono ?_
      rintro e w' ⟨rfl, rfl⟩
      exact ⟨rfl, Below.refl _ _, .inr ⟨fun hh => hl hh.2.2.1, rfl⟩⟩
  · have Ht := hide ht
    go_enter Tryz.func38, Tryz.ntmps38
    go_wp2_with fail
    refine (isTicks_no tk _ ht).mono ?_
    rintro e w' ⟨rfl, rfl⟩
    clear ht
    go_wp2_with fail
    refine (refuse_any 9 0 _ rfl _).mono ?_
    rintro e w' ⟨rfl, rfl⟩
    exact ⟨rfl, Below.refl _ _, .inr ⟨fun hh => Ht.out ⟨hh.1, hh.2.1⟩, rfl⟩⟩
end Go.Proofs.YtbdffcjganlblaaGreatDoor

namespace Go.Proofs.YtbdffcjganlblaaGreatDoor
open Go.RowKit Go.Maps
set_option linter.unusedVariables false
set_option linter.unusedSimpArgs false

/-! ### One tick, in numbers -/
theorem tick_pz (l : List FSl) (cs : List Int) (k : Nat) (x : PZ) :
    (prTick l cs (some k) x).beg = nowB x.beg (x.left k) ∧ (prTick l cs (some k) x).out = x.out ++ giveO (nmK l k) (nowL (budK l k) (x.left k) - 1) (nowW cs x.beg (budK l k) (x.left k) (x.want k)) ∧
    (∀ j, (prTick l cs (some k) x).left j = if j = k then nowL (budK l k) (x.left k) - 1 else x.left j) ∧ ∀ j, (prTick l cs (some k) x).want j = if j = k then giveW (nowW cs x.beg (budK l k) (x.left k) (x.want k)) else x.want j := by
  have key : ∀ y : PZ, (prGive l k y).beg = y.beg ∧ (prGive l k y).out = y.out ++ giveO (nmK l k) (y.left k - 1) (y.want k) ∧ (∀ j, (prGive l k y).left j = if j = k then y.left k - 1 else y.left j) ∧ ∀ j, (prGive l k y).want j = if j = k then giveW (y.want k) else y.want j := by
    intro y
    unfold prGive giveO giveW
    by_cases h : y.want k = 0
    · rw [if_pos h]
      refine ⟨rfl, by rw [if_pos h], fun j => rfl, fun j => ?_⟩
      rw [if_pos h]
      by_cases e : j = k
      · rw [if_pos e, e]
      · rw [if_neg e]
    · rw [if_neg h]
      refine ⟨rfl, by rw [if_neg h, ← List.append_assoc], fun j => rfl, fun j => ?_⟩
      rw [if_neg h]
      rfl
  show (prGive l k (if x.left k = 0 then prBegin l cs k x else x)).beg = _ ∧ (prGive l k (if x.left k = 0 then prBegin l cs k x else x)).out = _ ∧ (∀ j, (prGive l k (if x.left k = 0 then prBegin l cs k x else x)).left j = _) ∧ ∀ j, (prGive l k (if x.left k = 0 then prBegin l cs k x else x)).want j = _
  unfold nowB nowL nowW
  by_cases h : x.left k = 0
  · rw [if_pos h, if_pos h, if_pos h, if_pos h]
    obtain ⟨a, b, c, d⟩ := key (prBegin l cs k x)
    have e1 : (prBegin l cs k x).left k = budK l k := setN_same _ _ _
    have e2 : (prBegin l cs k x).want k = wantsL cs x.beg (budK l k) := setL_same _ _ _
    rw [e1, e2] at b
    refine ⟨a, b, fun j => ?_, fun j => ?_⟩
    · rw [c j, e1]
      by_cases e : j = k
      · rw [if_pos e, if_pos e]
      · rw [if_neg e, if_neg e]
        exact setN_other _ e
    · rw [d j, e2]
      by_cases e : j = k
      · rw [if_pos e, if_pos e]
      · rw [if_neg e, if_neg e]
        exact setL_other _ e
  · rw [if_neg h, if_neg h, if_neg h, if_neg h]
    exact key x

structure RQ (w wr : World) (tv : Array Value) (csv : Value) (cyc fr : Nat) (l : List FSl) (P : List Nat) (x : PZ) : Prop where
  hx : wr.heap[w.heap.size]? = some (.cells tv 61 (0, 0))
  hr : IsRun w.heap.size (w.heap.size + 1) csv x.beg x.out wr
  hn : x.out = [] → ∃ bg p, wr.heap[w.heap.size + 1]? = some (.cells #[csv, .int .i64 bg, p, .slice none 0 0] 118 (0, 0))
  hu : ∃ arr, wr.heap[w.heap.size + 1 + 1 + 1]? = some (.cells arr 122 (0, 0)) ∧ ∀ u, u < cyc → arr[u]? = some (uvV l fr P l.length 0 u)
  hj : ∀ k, k < P.length → w.heap.size + 1 + 1 + 1 < P.getD k 0 ∧ wr.heap[P.getD k 0]? = some (.cells (jobV (nmK l k) (budK l k) (x.left k) (x.want k)) 166 (0, 0))
  inj : ∀ a b, a < P.length → b < P.length → P.getD a 0 = P.getD b 0 → a = b
  pl : P.length = cntTo l l.length
  bel : Below w.heap.size w wr
section
variable {w wr : World} {tv : Array Value} {csv : Value} {cyc fr : Nat} {l : List FSl} {P : List Nat} {x : PZ}
theorem RQ.start {w1 : World} (h : UX ((w.alloc (.cells tv 61)).alloc (.cells #[csv, .int .i64 0, .pointer none, .slice none 0 0] 118)) w1 tv cyc fr l l.length 0 l.length l.length P) : RQ w w1 tv csv cyc fr l P ⟨fun _ => 0, fun _ => 0, 0, []⟩ := by
  have h0 := blk_keep (blk_keep (blk_new w tv 61) (below_new _ (.cells #[csv, .int .i64 0, .pointer none, .slice none 0 0] 118))) h.bel
  have h1 := blk_keep (blk_new (w.alloc (.cells tv 61)) #[csv, .int .i64 0, .pointer none, .slice none 0 0] 118) h.bel
  simp only [World.size_alloc] at h1
  have hu := h.hu
  have hj := h.hj
  simp only [World.size_alloc] at hu hj
  refine ⟨h0, .inl ⟨by omega, .slice none 0 0, h1, World.ownsRow_nil _ _ _ _⟩, fun _ => ⟨0, .pointer none, h1⟩, hu, fun k hk => ⟨by have := (hj k hk).1; omega, (hj k hk).2⟩, h.inj, h.pl, ?_⟩
  exact (((below_new w _).alloc (by simp) _)).trans (h.bel.mono (by simp; omega))
theorem RQ.none (h : RQ w wr tv csv cyc fr l P x) {w' : World} (hr : IsRun w.heap.size (w.heap.size + 1) csv x.beg (x.out ++ [46]) w') (hb : Below w.heap.size wr w') (hk : KeepR (w.heap.size + 1) wr w') : RQ w w' tv csv cyc fr l P ⟨x.left, x.want, x.beg, x.out ++ [46]⟩ := by
  obtain ⟨arr, h1, h2⟩ := h.hu
  refine ⟨hk.blk h.hx (by omega) (by decide), hr, fun e => by simp at e, ⟨arr, hk.blk h1 (by omega) (by decide), h2⟩, fun k hkl => ⟨(h.hj k hkl).1, hk.blk (h.hj k hkl).2 (by have := (h.hj k hkl).1; omega) (by decide)⟩, h.inj, h.pl, h.bel.trans hb⟩
theorem RQ.jr (h : RQ w wr tv csv cyc fr l P x) {k : Nat} (hk : k < P.length) : JR w.heap.size (w.heap.size + 1) (P.getD k 0) csv x.beg x.out (nmK l k) (budK l k) (x.left k) (x.want k) wr := ⟨h.hr, (h.hj k hk).2⟩
theorem giveO_ne (nm : UInt8) (left : Nat) (want : Int) : giveO nm left want ≠ [] := by
  unfold giveO
  split <;> simp
theorem RQ.job (h : RQ w wr tv csv cyc fr l P x) {k : Nat} (hk : k < P.length) (cs : List Int) {w' : World}
    (hj : JR w.heap.size (w.heap.size + 1) (P.getD k 0) csv (nowB x.beg (x.left k)) (x.out ++ giveO (nmK l k) (nowL (budK l k) (x.left k) - 1) (nowW cs x.beg (budK l k) (x.left k) (x.want k))) (nmK l k) (budK l k) (nowL (budK l k) (x.left k) - 1) (giveW (nowW cs x.beg (budK l k) (x.left k) (x.want k))) w')
    (hb : Below w.heap.size wr w') (hkp : KeepJ (w.heap.size + 1) (P.getD k 0) wr w') : RQ w w' tv csv cyc fr l P (prTick l cs (some k) x) := by
  obtain ⟨arr, h1, h2⟩ := h.hu
  obtain ⟨t1, t2, t3, t4⟩ := tick_pz l cs k x
  have hgt := (h.hj k hk).1
  refine ⟨hkp.blk h.hx (by omega) (by omega) (by decide), by rw [t1, t2]; exact hj.r, fun e => ?_, ⟨arr, hkp.blk h1 (by omega) (by omega) (by decide), h2⟩, fun j hjl => ⟨(h.hj j hjl).1, ?_⟩, h.inj, h.pl, h.bel.trans hb⟩
  · rw [t2] at e
    exact absurd (List.append_eq_nil_iff.1 e).2 (giveO_ne _ _ _)
  · rw [t3 j, t4 j]
    by_cases e : j = k
    · subst e
      rw [if_pos rfl, if_pos rfl]
      exact hj.j
    · rw [if_neg e, if_neg e]
      exact hkp.blk (h.hj j hjl).2 (by have := (h.hj j hjl).1; omega) (fun e2 => e (h.inj j k hjl hk e2)) (by decide)
end
theorem uvV_all (l : List FSl) (fr : Nat) (P : List Nat) (u : Nat) : uvV l fr P l.length 0 u = match unitL l fr u with | some k => ptrP P k | none => .pointer none := by
  unfold uvV unitL atL
  cases atTo l fr u l.length with
  | some i => rfl
  | none =>
    simp only [Option.map_none]
    rw [if_neg (by omega)]

/-! ### Bounds -/
theorem pr_beg (l : List FSl) (cyc fr : Nat) (cs : List Int) : ∀ u, (prT l cyc fr cs u).beg ≤ u
  | 0 => Nat.le_refl _
  | u + 1 => by
    have ih := pr_beg l cyc fr cs u
    rw [prT]
    cases unitL l fr (u % cyc) with
    | none => show (prT l cyc fr cs u).beg ≤ u + 1; omega
    | some k =>
      rw [(tick_pz l cs k _).1]
      unfold nowB
      split <;> omega
theorem pr_begun {l : List FSl} {cyc fr : Nat} (hn : l.length ≤ 300) (hs : ∀ i, i < l.length → (fsk l i).small) {cs : List Int} (hc : ∀ k, k < cs.length → 0 ≤ cs.getD k 0 ∧ cs.getD k 0 ≤ 400) (u i k : Nat) : 0 ≤ begunL l cyc fr cs u i (trcL l cyc fr cs u).1 k := (fine_begun hn hs hc cyc fr u i (trc_fine hn hs hc cyc fr u) k).1
theorem pr_fine {l : List FSl} {cyc fr : Nat} (G : Goes l cyc fr) (hn : l.length ≤ 300) (hs : ∀ i, i < l.length → (fsk l i).small) {cs : List Int} (hc : ∀ k, k < cs.length → 0 ≤ cs.getD k 0 ∧ cs.getD k 0 ≤ 400) (hB : ∀ k, budK l k ≤ 599940) (u : Nat) {i : Nat} (hi : i < l.length) :
    1 ≤ nowL (budK l (numI l i)) ((prT l cyc fr cs u).left (numI l i)) ∧ nowL (budK l (numI l i)) ((prT l cyc fr cs u).left (numI l i)) ≤ 1000000 ∧ 0 ≤ nowW cs (prT l cyc fr cs u).beg (budK l (numI l i)) ((prT l cyc fr cs u).left (numI l i)) ((prT l cyc fr cs u).want (numI l i)) ∧ nowW cs (prT l cyc fr cs u).beg (budK l (numI l i)) ((prT l cyc fr cs u).left (numI l i)) ((prT l cyc fr cs u).want (numI l i)) ≤ 1000000000 := by
  have hb1 : 1 ≤ budK l (numI l i) := by
    have h3 := hadK_next (q := i) hi hi
    rw [if_pos rfl] at h3
    have h4 := hadK_le (q := i + 1) hi hi
    have h5 := G.bud i hi
    omega
  have hb2 := hB (numI l i)
  obtain ⟨j, hp⟩ := PI.all G cs u
  have hl := hp.left i hi
  have hl2 : (prT l cyc fr cs u).left (numI l i) ≤ budK l (numI l i) := by
    rw [hl]
    split <;> omega
  have hw := trc_fine hn hs hc cyc fr u (numI l i)
  rw [← (pr_trc G cs (fun u i k => pr_begun hn hs hc u i k) u).1] at hw
  have hwf := wants_fine hc (prT l cyc fr cs u).beg (budK l (numI l i)) (by omega)
  unfold nowL nowW
  split
  · exact ⟨hb1, by omega, hwf.1, by omega⟩
  · exact ⟨by omega, by omega, hw.1, by omega⟩
theorem pr_len {l : List FSl} {cyc fr : Nat} (G : Goes l cyc fr) (hn : l.length ≤ 300) (hs : ∀ i, i < l.length → (fsk l i).small) {cs : List Int} (hc : ∀ k, k < cs.length → 0 ≤ cs.getD k 0 ∧ cs.getD k 0 ≤ 400) (u : Nat) : (prT l cyc fr cs u).out.length ≤ 3 * u := by
  rw [(pr_trc G cs (fun u i k => pr_begun hn hs hc u i k) u).2]
  exact trc_len l cyc fr cs u
end Go.Proofs.YtbdffcjganlblaaGreatDoor

namespace Go.Proofs.YtbdffcjganlblaaGreatDoor
open Go.RowKit Go.Maps
set_option linter.unusedVariables false
set_option linter.unusedSimpArgs false

theorem CostsAt.low {w w' : World} {a : Option Addr} {cs : List Int} (h : CostsAt w a cs) (hb : Below w.heap.size w w') : CostsAt w' a cs := by
  rcases h with h | ⟨b, off, h1, h2, h3⟩
  · exact .inl h
  · exact .inr ⟨b, off, h1, Nat.lt_of_lt_of_le h2 hb.size, fun k hk => (hb.cell (p := ⟨b, off + k, none⟩) h2).trans (h3 k hk)⟩

set_option maxRecDepth 100000 in
set_option maxHeartbeats 8000000 in
theorem run_any (t : Tb) (a : Option Addr) (cc : Nat) (w : World) (hr : FvA w a t.fs) (hS : Sound t) (tk : Nat) (htk : tk ≤ 400) (cs : List Int) (ca : Option Addr) (ccap : Nat) (hca : CostsAt w ca cs) (hcl : cs.length ≤ 40) (hcb : ∀ k, k < cs.length → 0 ≤ cs.getD k 0 ∧ cs.getD k 0 ≤ 400) :
    Calls Tryz.prog 39 #[.agg #[.int .i64 t.cyc, .int .i64 t.fr, .slice a t.fs.length cc], .int .i64 tk, .slice ca cs.length ccap] w fun e w' => e = .returned (.string (bs (prT (flatF 0 t.fs) t.cyc t.fr cs tk).out)) ∧ Below w.heap.size w w' := by
  have hc1 := hS.c1
  have hc2 := hS.c2
  have hll := flat_len hS
  have hG := hide (goes_of_sound hS)
  have Hsm : Hid (∀ i, i < (flatF 0 t.fs).length → (fsk (flatF 0 t.fs) i).small) := fun i hi => (job_small hS i hi).2.2
  have HBd : Hid (∀ k, budK (flatF 0 t.fs) k ≤ 599940) := fun k => hadK_small hS k _ (Nat.le_refl _)
  have Hcb := hide hcb
  have Hca := hide hca
  have HU := hide (units_any t a cc ((w.alloc (.cells #[.int .i64 t.cyc, .int .i64 t.fr, .slice a t.fs.length cc] 61)).alloc (.cells #[.slice ca cs.length ccap, .int .i64 0, .pointer none, .slice none 0 0] 118)) ((hr.below (below_new w _) (Nat.le_refl _)).below (below_new _ _) (Nat.le_refl _)) hS)
  have hx0 := blk_cell (blk_new w #[.int .i64 t.cyc, .int .i64 t.fr, .slice a t.fs.length cc] 61)
  clear hr hS hca hcb
  go_enter Tryz.func39, Tryz.ntmps39
  go_wp2_with fail
  refine HU.out.mono ?_
  rintro e w1 ⟨P, rfl, hU⟩
  have HQ := hide (RQ.start (csv := .slice ca cs.length ccap) hU)
  clear hU HU hx0
  go_wp2_with fail
  go_loopw [15] (fun i wr => ∃ q : Nat, q ≤ tk ∧ i = .int .i64 q ∧ RQ w wr #[.int .i64 t.cyc, .int .i64 t.fr, .slice a t.fs.length cc] (.slice ca cs.length ccap) t.cyc t.fr (flatF 0 t.fs) P (prT (flatF 0 t.fs) t.cyc t.fr cs q)) (fun i _ => 1000 - (intOf i).toNat)
  case atStart => exact ⟨0, by omega, rfl, HQ.out⟩
  case round =>
    clear HQ
    obtain ⟨q, hq, rfl, hQ⟩ := hrel
    have HQ := hide hQ
    by_cases hlt : q < tk
    · have hlt' : (q : Int) < tk := by omega
      have x := blk_cell hQ.hx
      obtain ⟨arr, ha1, ha2⟩ := hQ.hu
      have hml := Nat.mod_lt q (show 0 < t.cyc by omega)
      have hcu := blk_cell ha1 (q % t.cyc)
      rw [ha2 _ hml, uvV_all] at hcu
      have hi1 : 0 ≤ (q : Int) % t.cyc := by rw [← Int.natCast_emod]; exact Int.natCast_nonneg _
      have hi2 : (q : Int) % t.cyc < t.cyc := by rw [← Int.natCast_emod]; exact Int.ofNat_lt.2 hml
      have hi3 : ¬ (t.cyc : Int) = 0 := by omega
      have hbeg := pr_beg (flatF 0 t.fs) t.cyc t.fr cs q
      have hlen := pr_len hG.out (by omega) Hsm.out Hcb.out q
      have hstep : Hid (prT (flatF 0 t.fs) t.cyc t.fr cs (q + 1) = prTick (flatF 0 t.fs) cs (unitL (flatF 0 t.fs) t.fr (q % t.cyc)) (prT (flatF 0 t.fs) t.cyc t.fr cs q)) := rfl
      cases hun : unitL (flatF 0 t.fs) t.fr (q % t.cyc) with
      | none =>
        rw [hun] at hcu hstep
        simp only at hcu
        have HT := hide (tickN_any w.heap.size (w.heap.size + 1) (.slice ca cs.length ccap) _ _ wr hQ.hr (by omega))
        clear hQ ha1 ha2 hun
        go_wp2_with fail
        refine HT.out.mono ?_
        rintro e w2 ⟨rfl, h2, hb2, hk2⟩
        have HQ2 := hide (HQ.out.none h2 hb2 hk2)
        clear h2 hb2 hk2 HT HQ hcu x
        go_wp2_with fail
        go_roundw
        case rel => exact ⟨q + 1, by omega, by go_num, by rw [hstep.out]; exact HQ2.out⟩
        case measure => simp [intOf]; omega
      | some k =>
        rw [hun] at hcu hstep
        simp only [ptrP] at hcu
        obtain ⟨i, hi, hik⟩ : ∃ i, i < (flatF 0 t.fs).length ∧ numI (flatF 0 t.fs) i = k := by
          unfold unitL at hun
          cases hat : atL (flatF 0 t.fs) t.fr (q % t.cyc) with
          | none => rw [hat] at hun; simp at hun
          | some i =>
            rw [hat] at hun
            exact ⟨i, (at_some hat).1, by simpa using hun⟩
        obtain ⟨b1, b2, b3, b4⟩ := pr_fine hG.out (by omega) Hsm.out Hcb.out HBd.out q hi
        rw [hik] at b1 b2 b3 b4
        have hkP : k < P.length := by
          rw [hQ.pl, ← hik]
          exact num_lt_cnt hi (Nat.le_refl _)
        have hgt := (hQ.hj k hkP).1
        have HT := hide (tickJ_any w.heap.size (w.heap.size + 1) (P.getD k 0) ca cs ccap _ _ _ _ _ _ wr (hQ.jr hkP) (Hca.out.low hQ.bel) (fun h0 b off e => by
          rcases Hca.out with h | ⟨b', off', e', hb', _⟩
          · rw [h] at h0
            simp at h0
          · rw [e'] at e
            cases e
            omega) (by omega) (by omega) (by omega) b1 b2 b3 b4 (by omega))
        clear hQ ha1 ha2 hun b1 b2 b3 b4
        generalize hJ : P.getD k 0 = J at hcu HT hgt
        have HJ := hide hJ
        clear hJ
        go_wp2_with fail
        refine HT.out.mono ?_
        rintro e w2 ⟨rfl, h2, hb2, hk2⟩
        have HQ2 := hide (HQ.out.job hkP cs (by rw [HJ.out]; exact h2) hb2 (by rw [HJ.out]; exact hk2))
        clear h2 hb2 hk2 HT HQ hcu x
        go_wp2_with fail
        go_roundw
        case rel => exact ⟨q + 1, by omega, by go_num, by rw [hstep.out]; exact HQ2.out⟩
        case measure => simp [intOf]; omega
    · have hlt' : ¬ (q : Int) < tk := by omega
      have hqe : q = tk := by omega
      have HSt : Hid (Calls Tryz.prog 73 #[.pointer (some ⟨w.heap.size + 1, 2, none⟩)] wr fun e w' => e = .returned (.string (bs (prT (flatF 0 t.fs) t.cyc t.fr cs tk).out)) ∧ Below w.heap.size wr w') := by
        rw [hqe] at hQ
        by_cases h0 : (prT (flatF 0 t.fs) t.cyc t.fr cs tk).out = []
        · obtain ⟨bg, p, hb⟩ := hQ.hn h0
          rw [h0]
          exact string_none w.heap.size (w.heap.size + 1) _ bg p wr hb
        · exact string_some w.heap.size (w.heap.size + 1) _ _ _ wr hQ.hr h0
      generalize hRR : bs (prT (flatF 0 t.fs) t.cyc t.fr cs tk).out = RR at *
      have HRR := hide hRR
      clear hRR
      have HB := hide hQ.bel
      clear hQ HQ hqe
      go_wp2_with fail
      refine HSt.out.mono ?_
      rintro e w2 ⟨rfl, hb2⟩
      have HB2 := hide (HB.out.trans hb2)
      clear hb2 HSt HB
      go_wp2
      go_ret
      exact ⟨by rw [HRR.out]; rfl, HB2.out⟩
end Go.Proofs.YtbdffcjganlblaaGreatDoor

namespace Go.Proofs.YtbdffcjganlblaaGreatDoor
open Go.RowKit
set_option linter.unusedVariables false
set_option linter.unusedSimpArgs false

theorem own_cap {w : World} {base : Nat} {e : TypeId} {size : Nat} {a : Option Addr} {n c : Nat} {xs : List Value} (h : w.ownsRow base e size (.slice a n c) n xs) : n ≤ c := by
  rcases h.2 with ⟨h1, h0⟩ | ⟨g, cap, cur, h1, _, _, _, h2, _⟩
  · omega
  · injection h1 with _ _ e3
    omega

theorem hpp_of {w : World} {base : Nat} {ps : List Pr} {pa : Option Addr} {pc : Nat} (h : w.ownsRow base 175 5 (.slice pa ps.length pc) ps.length (ppRow ps)) :
    0 < ps.length → ∃ gp, pa = some ⟨gp, 0, none⟩ ∧ gp < w.heap.size ∧ RowPP w gp ps := by
  intro hn
  obtain ⟨g, cap, e, h1, h2⟩ := own_form h hn
  injection e with e1 e2 e3
  subst e1
  exact ⟨g, rfl, h2, rowPP_own h⟩

theorem RowPT.keep {w w' : World} {g : Nat} {ts : List (Tk × Nat)} (h : RowPT w g ts) (hb : w'.heap[g]? = w.heap[g]?) : RowPT w' g ts := by
  intro k hk
  have e : ∀ o, w'.cell? ⟨g, o, none⟩ = w.cell? ⟨g, o, none⟩ := fun o => by simp only [World.cell?, hb]
  rw [e, e, e, e, e, e, e, e, e, e]
  exact h k hk
theorem RowPP.keep {w w' : World} {g : Nat} {ts : List Pr} (h : RowPP w g ts) (hb : w'.heap[g]? = w.heap[g]?) : RowPP w' g ts := by
  intro k hk
  have e : ∀ o, w'.cell? ⟨g, o, none⟩ = w.cell? ⟨g, o, none⟩ := fun o => by simp only [World.cell?, hb]
  rw [e, e, e, e, e]
  exact h k hk

end Go.Proofs.YtbdffcjganlblaaGreatDoor

namespace Go.Proofs.YtbdffcjganlblaaGreatDoor
open Go.RowKit
set_option linter.unusedVariables false
set_option linter.unusedSimpArgs false

theorem Tryz.infoStr : (Tryz.prog.info? 9).map (fun i => (i.zero, i.size, i.bytes)) = some (some (.string ⟨#[]⟩), 1, 16) := by kernel_rfl

end Go.Proofs.YtbdffcjganlblaaGreatDoor
