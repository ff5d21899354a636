/-
  Own work. A script's steps in memory.
-/
import Derived.Test.YtbdffcjganlblaaGreatDoorRefA
import Derived.ProofKit
import Derived.LaidMore
import Derived.OpenShut
import Derived.Stop.Joined
import Derived.Deep.Slices
import Derived.Test.YtbdffcjganlblaaGreatDoorTbM
namespace Go.Proofs.YtbdffcjganlblaaGreatDoor
open Go.ChangeShapes Go.WideShapes Go.ChangeAt Go.RowKit Go.Deep
set_option linter.unusedVariables false
set_option linter.unusedSimpArgs false

/-- One step of a script in memory. -/
def OpAt (w : World) (b off k : Nat) : Prop := ∃ (K A B C : Int) (s : ByteArray) (la : Option Addr) (ln lc : Nat), w.cell? ⟨b, off + k * 6, none⟩ = some (.int .i64 K) ∧ w.cell? ⟨b, off + k * 6 + 1, none⟩ = some (.int .i64 A) ∧ w.cell? ⟨b, off + k * 6 + 2, none⟩ = some (.int .i64 B) ∧
  w.cell? ⟨b, off + k * 6 + 3, none⟩ = some (.int .i64 C) ∧ w.cell? ⟨b, off + k * 6 + 4, none⟩ = some (.string s) ∧ w.cell? ⟨b, off + k * 6 + 5, none⟩ = some (.slice la ln lc) ∧ s.size ≤ 9223372036854775807

theorem own : ownKnob Tryz.prog.godebug = none := by kernel_rfl
theorem laidOut : laidOutB Tryz.prog = true := by kernel_rfl
theorem cellsOp : Tryz.prog.cellsOf 27 = 6 := by kernel_rfl
theorem cellsInt : Tryz.prog.cellsOf 3 = 1 := by kernel_rfl
theorem cellsStr : Tryz.prog.cellsOf 9 = 1 := by kernel_rfl
theorem cellsSl : Tryz.prog.cellsOf 25 = 1 := by kernel_rfl

theorem lt_of_cell {w : World} {b off : Nat} {o : Option Value} (h : w.cell? ⟨b, off, none⟩ = o) (ho : o.isSome = true) : b < w.heap.size := by
  rcases Nat.lt_or_ge b w.heap.size with h1 | h1
  · exact h1
  · rw [← h] at ho
    simp [World.cell?, Array.getElem?_eq_none h1] at ho

section
variable {H : Type} {enc : TypeId × Value → H} {w : World} {base : Nat} {spare : Nat → Bool} {held : Bool}

set_option maxRecDepth 100000 in
/-- One step of a script, opened. -/
theorem opAt_of {fuel : Nat} {cs : List Value} {x : DataW H × List MemPlace} {b off k : Nat} (hc : w.cells? base ((⟨b, off, none⟩ : Addr).add (k * 6)) 6 = some cs) (h : DataW.trod enc Tryz.prog w base spare held fuel 27 cs = some x) : OpAt w b off k := by
  obtain ⟨_, hlen, hcell⟩ := World.cells?_some hc
  obtain ⟨xs, n, _, _, _, hxl, hf⟩ := DataW.trod_struct Tryz.underlying27 h
  match cs, hlen with
  | [v0, v1, v2, v3, v4, v5], _ =>
    match xs, hxl with
    | [y0, y1, y2, y3, y4, y5], _ =>
      have g0 := hf 0 _ rfl
      have g1 := hf 1 _ rfl
      have g2 := hf 2 _ rfl
      have g3 := hf 3 _ rfl
      have g4 := hf 4 _ rfl
      have g5 := hf 5 _ rfl
      simp [cellsInt, cellsStr, cellsSl] at g0 g1 g2 g3 g4 g5
      obtain ⟨K, e0, _⟩ := DataW.trod_int Tryz.underlying3 g0
      obtain ⟨A, e1, _⟩ := DataW.trod_int Tryz.underlying3 g1
      obtain ⟨B, e2, _⟩ := DataW.trod_int Tryz.underlying3 g2
      obtain ⟨C, e3, _⟩ := DataW.trod_int Tryz.underlying3 g3
      obtain ⟨s, e4, _, hs⟩ := DataW.trod_string Tryz.underlying9 g4
      have e5 : ∃ la ln lc, v5 = .slice la ln lc := by
        rcases DataW.trod_slice Tryz.underlying25 g5 with ⟨h5, _⟩ | ⟨a, ln, lc, _, _, _, _, h5, _⟩
        · exact ⟨none, 0, 0, by simpa using h5⟩
        · exact ⟨some a, ln, lc, by simpa using h5⟩
      obtain ⟨la, ln, lc, rfl⟩ := e5
      simp at e0 e1 e2 e3 e4
      subst e0 e1 e2 e3 e4
      have cc : ∀ j v, w.cell? (((⟨b, off, none⟩ : Addr).add (k * 6)).add j) = some v → w.cell? ⟨b, off + k * 6 + j, none⟩ = some v := by
        intro j v hv
        rw [add_add] at hv
        rw [show off + k * 6 + j = off + (k * 6 + j) by omega]
        unfold Addr.add at hv
        by_cases h0 : k * 6 + j = 0
        · rw [if_pos h0] at hv
          rw [h0]
          exact hv
        · rw [if_neg h0] at hv
          exact hv
      refine ⟨K, A, B, C, s, la, ln, lc, ?_, ?_, ?_, ?_, ?_, ?_, hs⟩
      · simpa using cc 0 _ (by simpa using hcell 0 (by omega))
      · exact cc 1 _ (by simpa using hcell 1 (by omega))
      · exact cc 2 _ (by simpa using hcell 2 (by omega))
      · exact cc 3 _ (by simpa using hcell 3 (by omega))
      · exact cc 4 _ (by simpa using hcell 4 (by omega))
      · exact cc 5 _ (by simpa using hcell 5 (by omega))
end

end Go.Proofs.YtbdffcjganlblaaGreatDoor

namespace Go.Proofs.YtbdffcjganlblaaGreatDoor
open Go.RowKit
set_option linter.unusedVariables false
set_option linter.unusedSimpArgs false

/-! ### What is packed is unpacked; what is unpacked was packed -/
theorem tab_fine {l : List UInt8} {t : Tb} (h : TabOk l t) : ChkOk t := ⟨h.2.2.1, (pTab_small h.1 h.2.1).2⟩
theorem tab_one {l : List UInt8} {t t' : Tb} (h : TabOk l t) (h' : TabOk l t') : t = t' := by
  have := h.2.1
  rw [h'.2.1] at this
  exact (Option.some.inj this).symm
theorem pack_unp {t : Tb} (h : ChkOk t) : UnpOk (packB t) t := by
  refine ⟨?_, bodyB t, rfl, bTab_pack h.1, h⟩
  have := bodyB_len h.1
  unfold packB
  rw [List.length_append, show (sumL (bodyB t)).length = 4 from rfl]
  omega
theorem unp_one {l : List UInt8} {t t' : Tb} (h : UnpOk l t) (h' : UnpOk l t') : t = t' := by
  obtain ⟨_, b, e, h1, _⟩ := h
  obtain ⟨_, b', e', h1', _⟩ := h'
  have hl := congrArg List.length (e.symm.trans e')
  rw [List.length_append, List.length_append, show (sumL b).length = 4 from rfl, show (sumL b').length = 4 from rfl] at hl
  have hb : b = b' := by
    have := congrArg (List.take b.length) (e.symm.trans e')
    rw [List.take_left', List.take_append_of_le_length (by omega), show b.length = b'.length by omega, List.take_length] at this
    · exact this
    · rfl
  subst hb
  rw [h1] at h1'
  exact Option.some.inj h1'
theorem unp_tab {l : List UInt8} {t : Tb} (h : UnpOk l t) : TabOk (tbTxt t) t ∧ packB t = l := by
  obtain ⟨_, b, e, h1, h2, h3⟩ := h
  obtain ⟨f1, f2, f3, f4, f5⟩ := h2.frames
  have hc := h2.c2
  have hs := h2.small
  refine ⟨⟨tbTxt_len h2, pTab_txt t (by omega) (by omega) (fun x hx s hsx => ⟨h3 x hx s hsx, by have := (hs x hx).2 s hsx; omega, by have := (hs x hx).2 s hsx; omega⟩), h2, rfl⟩, ?_⟩
  unfold packB
  rw [bTab_inv h1, e]

set_option maxRecDepth 100000 in
theorem num_any (n : Nat) (w : World) : Calls Tryz.prog 15 #[.int .i64 n] w fun e w' => e = .returned (.int .i64 n) ∧ w' = w := by
  go_enter Tryz.func15, Tryz.ntmps15
  go_wp2
  go_ret
  exact ⟨rfl, rfl⟩

set_option maxRecDepth 100000 in
set_option maxHeartbeats 1000000 in
theorem writes_one (s : ByteArray) (w : World) (hm : s.size ≤ 9223372036854775807) (ht : T10 w) :
    Calls Tryz.prog 59 #[.string s] w fun e w' => e = .returned (.bool true) ∧ Below w.heap.size w w' := by
  have Ht := hide ht
  clear ht
  go_enter Tryz.func59, Tryz.ntmps59
  go_wp2_with fail
  refine (write_any s w hm).mono ?_
  rintro e w1 ⟨hb1, hcase⟩
  have HB1 := hide hb1
  have HT1 := hide (Ht.out.below hb1)
  clear hb1 Ht
  rcases hcase with ⟨f, ⟨hf8, hno⟩, rfl⟩ | ⟨x, ⟨t, ht, rfl⟩, rfl⟩
  · rw [hf8]
    have Hno := hide hno
    clear hno hf8
    go_wp2_with fail
    refine (rReadTable_any s w1 hm HT1.out).mono ?_
    rintro e w2 ⟨hb2, hcase⟩
    have HB2 := hide (HB1.out.trans (hb2.mono HB1.out.size))
    clear hb2 HT1
    rcases hcase with ⟨t, sv, ht, rfl, how⟩ | ⟨_, c, f, a, n, k, rfl⟩
    · exact absurd ⟨t, ht⟩ Hno.out
    · go_wp2_with (go_at_call 15; refine (num_any 8 _).mono ?_; rintro e w' ⟨rfl, rfl⟩)
      go_ret
      exact ⟨rfl, HB2.out.alloc HB2.out.size _⟩
  · have Ht := hide ht
    clear ht
    generalize hpk : packB t = pk at *
    have Hpk := hide hpk
    clear hpk
    go_wp2_with fail
    refine (rReadTable_any s w1 hm HT1.out).mono ?_
    rintro e w2 ⟨hb2, hcase⟩
    have HB2 := hide (HB1.out.trans (hb2.mono HB1.out.size))
    clear hb2 HT1 HB1
    rcases hcase with ⟨t', sv, ht', rfl, how⟩ | ⟨hno, _⟩
    · obtain ⟨sa, sc, rfl⟩ := own_slice how
      clear how ht'
      have hpl : (bs pk).size ≤ 9223372036854775807 := by
        rw [bs_size, ← Hpk.out]
        have := (pack_unp (tab_fine Ht.out)).1
        omega
      have HB3 := hide (HB2.out.alloc HB2.out.size (.cells #[.int .i64 t'.cyc, .int .i64 t'.fr, .slice sa (flatF 0 t'.fs).length sc] 39))
      have hsz3 := HB3.out.size
      generalize (flatF 0 t'.fs).length = n at *
      go_wp2_with fail
      refine (read_any (bs pk) _ hpl).mono ?_
      rintro e w4 ⟨hb4, hcase⟩
      have HB4 := hide (HB3.out.trans (hb4.mono HB3.out.size))
      clear hb4 HB3 HB2
      rw [bs_data] at hcase
      have hup : UnpOk pk t := by rw [← Hpk.out]; exact pack_unp (tab_fine Ht.out)
      rcases hcase with ⟨f, ⟨_, hno⟩, _⟩ | ⟨x, ⟨t2, h2, rfl⟩, rfl⟩
      · exact absurd ⟨t, hup⟩ hno
      · have := unp_one hup h2
        subst this
        have hxs : bs (tbTxt t) = s := by rw [Ht.out.2.2.2, bs_list]
        rw [hxs]
        have hss : (s.toList == s.toList) = true := by simp
        clear h2 hup hxs
        go_wp2_with (go_at_call 15; refine (num_any 0 _).mono ?_; rintro e w' ⟨rfl, rfl⟩)
        go_ret
        exact ⟨rfl, HB4.out⟩
    · exact absurd ⟨t, Ht.out⟩ hno

set_option maxRecDepth 100000 in
set_option maxHeartbeats 1000000 in
theorem reads_one (s : ByteArray) (w : World) (hm : s.size ≤ 9223372036854775807) (ht : T10 w) :
    Calls Tryz.prog 60 #[.string s] w fun e w' => e = .returned (.bool true) ∧ Below w.heap.size w w' := by
  have Ht := hide ht
  clear ht
  go_enter Tryz.func60, Tryz.ntmps60
  go_wp2_with fail
  refine (read_any s w hm).mono ?_
  rintro e w1 ⟨hb1, hcase⟩
  have HB1 := hide hb1
  have HT1 := hide (Ht.out.below hb1)
  clear hb1 Ht
  rcases hcase with ⟨f, ⟨hf8, _⟩, rfl⟩ | ⟨x, ⟨t, ht, rfl⟩, rfl⟩
  · rw [hf8]
    clear hf8
    go_wp2_with (go_at_call 15; refine (num_any 8 _).mono ?_; rintro e w' ⟨rfl, rfl⟩)
    go_ret
    exact ⟨rfl, HB1.out⟩
  · obtain ⟨htab, hpk⟩ := unp_tab ht
    have Htab := hide htab
    have Hpk := hide hpk
    have htl : (bs (tbTxt t)).size ≤ 800 := by rw [bs_size]; exact htab.1
    clear ht htab hpk
    generalize hTX : bs (tbTxt t) = TX at *
    have HTX : Hid (TX.data.toList = tbTxt t) := by unfold Hid; rw [← hTX, bs_data]
    clear hTX
    go_wp2_with (go_at_call 15; refine (num_any 0 _).mono ?_; rintro e w' ⟨rfl, rfl⟩)
    refine (rReadTable_any TX _ (by omega) HT1.out).mono ?_
    rintro e w2 ⟨hb2, hcase⟩
    have HB2 := hide (HB1.out.trans (hb2.mono HB1.out.size))
    clear hb2 HT1 HB1
    rcases hcase with ⟨t', sv, ht', rfl, how⟩ | ⟨hno, _⟩
    · obtain ⟨sa, sc, rfl⟩ := own_slice how
      clear how ht'
      have HB3 := hide (HB2.out.alloc HB2.out.size (.cells #[.int .i64 t'.cyc, .int .i64 t'.fr, .slice sa (flatF 0 t'.fs).length sc] 39))
      generalize (flatF 0 t'.fs).length = n at *
      go_wp2_with fail
      refine (write_any TX _ (by omega)).mono ?_
      rintro e w4 ⟨hb4, hcase⟩
      have HB4 := hide (HB3.out.trans (hb4.mono HB3.out.size))
      clear hb4 HB3 HB2
      rw [HTX.out] at hcase
      rcases hcase with ⟨f, ⟨_, hno⟩, _⟩ | ⟨x, ⟨t2, h2, rfl⟩, rfl⟩
      · exact absurd ⟨t, Htab.out⟩ hno
      · have := tab_one Htab.out h2
        subst this
        have hxs : bs (packB t) = s := by rw [Hpk.out, bs_list]
        rw [hxs]
        have hss : (s.toList == s.toList) = true := by simp
        clear h2 hxs
        go_wp2_with (go_at_call 15; refine (num_any 0 _).mono ?_; rintro e w' ⟨rfl, rfl⟩)
        go_ret
        exact ⟨rfl, HB4.out⟩
    · exact absurd ⟨t, by rw [HTX.out]; exact Htab.out⟩ hno
end Go.Proofs.YtbdffcjganlblaaGreatDoor

namespace Go.Proofs.YtbdffcjganlblaaGreatDoor
open Go.RowKit
set_option linter.unusedVariables false
set_option linter.unusedSimpArgs false

set_option maxRecDepth 100000 in
set_option maxHeartbeats 1000000 in
theorem plays_writes (s : ByteArray) (A B C : Int) (L : Value) (w : World) (hm : s.size ≤ 9223372036854775807) (ht : T10 w) :
    Calls Tryz.prog 29 #[.agg #[.int .i64 2, .int .i64 A, .int .i64 B, .int .i64 C, .string s, L]] w fun e w' => e = .returned (.bool true) ∧ Below w.heap.size w w' := by
  have hB := hide (below_new w (.cells #[.int .i64 2, .int .i64 A, .int .i64 B, .int .i64 C, .string s, L] 27))
  have Ht := hide (ht.below hB.out)
  clear ht
  go_enter Tryz.func29, Tryz.ntmps29
  go_wp2_with fail
  refine (writes_one s _ hm Ht.out).mono ?_
  rintro e w1 ⟨rfl, hb1⟩
  have HB1 := hide (hB.out.trans (hb1.mono (by simp)))
  clear hb1 hB Ht
  go_wp2
  go_ret
  exact ⟨rfl, HB1.out⟩

set_option maxRecDepth 100000 in
set_option maxHeartbeats 2000000 in
theorem upTo_writes (b off len cap : Nat) (w : World) (hl : len ≤ cap) (hc : cap ≤ 9223372036854775807) (hb : b < w.heap.size) (ht : T10 w) (hr : ∀ k, k < len → OpAt w b off k) :
    Calls Tryz.prog 13 #[.slice (some ⟨b, off, none⟩) len cap, .int .i64 2, .int .i64 2] w fun e w' => e = .returned (.int .i64 (-1)) ∧ Below w.heap.size w w' := by
  have Hr := hide hr
  have Ht := hide ht
  clear hr ht
  go_enter Tryz.func13, Tryz.ntmps13
  go_wp2
  go_loopw [7] (fun i wr => ∃ k : Nat, k ≤ len ∧ i = .int .i64 k ∧ Below w.heap.size w wr) (fun i _ => len - (intOf i).toNat)
  case atStart => exact ⟨0, by omega, rfl, Below.refl _ _⟩
  case round =>
    obtain ⟨k, hk, rfl, hbw⟩ := hrel
    have Hb := hide hbw
    have hsz := hbw.size
    have hbw' : b < wr.heap.size := by omega
    have hex : ¬ ((k : Int) < len) ∨ ((k : Int) < len ∧ ¬ ((k : Int) < 1152921504606846976)) ∨ ((k : Int) < len ∧ (k : Int) < 1152921504606846976) := by omega
    rcases hex with hlt' | ⟨hlt', hk60⟩ | ⟨hlt', hk60⟩
    · clear hbw
      go_wp2
      go_ret
      exact ⟨rfl, Hb.out⟩
    · clear hbw
      go_wp2
      go_ret
      exact ⟨rfl, Hb.out⟩
    · obtain ⟨K, A, B, C, s, la, ln, lc, r0, r1, r2, r3, r4, r5, hs⟩ := Hr.out k (by omega)
      have e : ∀ o, wr.cell? ⟨b, o, none⟩ = w.cell? ⟨b, o, none⟩ := fun o => hbw.cell (p := ⟨b, o, none⟩) hb
      rw [← e] at r0 r1 r2 r3 r4 r5
      have hB1 := hide (hbw.alloc hbw.size (.cells #[.int .i64 K, .int .i64 A, .int .i64 B, .int .i64 C, .string s, .slice la ln lc] 27))
      have Ht1 := hide (Ht.out.below hB1.out)
      clear e hbw
      have hcs : K = 2 ∨ ¬ (2 ≤ K) ∨ (2 ≤ K ∧ ¬ (K ≤ 2)) := by omega
      rcases hcs with rfl | h1 | ⟨h1, h2⟩
      · go_wp2_with fail
        refine (plays_writes s A B C _ _ hs Ht1.out).mono ?_
        rintro e w1 ⟨rfl, hb1⟩
        have HB := hide (hB1.out.trans (hb1.mono (by simp; omega)))
        clear hb1 r0 r1 r2 r3 r4 r5
        have hnot : ∀ (x : Bool) (w : World), (Op.unary .not (.bool x)).run Tryz.prog w = .ok (.bool (!x)) w := fun _ _ => rfl
        go_wp2
        go_roundw
        case rel => exact ⟨k + 1, by omega, by go_num, HB.out⟩
        case measure => simp [intOf]; omega
      · go_wp2
        go_roundw
        case rel => exact ⟨k + 1, by omega, by go_num, hB1.out⟩
        case measure => simp [intOf]; omega
      · go_wp2
        go_roundw
        case rel => exact ⟨k + 1, by omega, by go_num, hB1.out⟩
        case measure => simp [intOf]; omega

set_option maxRecDepth 100000 in
theorem writes_any (b off len cap : Nat) (w : World) (hl : len ≤ cap) (hc : cap ≤ 9223372036854775807) (hb : b < w.heap.size) (ht : T10 w) (hr : ∀ k, k < len → OpAt w b off k) :
    Calls Tryz.prog 4 #[.slice (some ⟨b, off, none⟩) len cap] w fun e w' => e = .returned (.bool true) ∧ Below w.heap.size w w' := by
  have H := hide (upTo_writes b off len cap w hl hc hb ht hr)
  clear ht hr
  go_enter Tryz.func4, Tryz.ntmps4
  go_wp2_with fail
  refine H.out.mono ?_
  rintro e w1 ⟨rfl, hb1⟩
  have HB := hide hb1
  clear hb1 H
  go_wp2
  go_ret
  exact ⟨rfl, HB.out⟩

set_option maxRecDepth 100000 in
set_option maxHeartbeats 1000000 in
theorem upTo_writes_empty (a : Option Addr) (cap : Nat) (w : World) :
    Calls Tryz.prog 13 #[.slice a 0 cap, .int .i64 2, .int .i64 2] w fun e w' => e = .returned (.int .i64 (-1)) ∧ Below w.heap.size w w' := by
  go_enter Tryz.func13, Tryz.ntmps13
  go_wp2
  go_loopw [7] (fun i wr => i = .int .i64 0 ∧ Below w.heap.size w wr) (fun _ _ => 0)
  case atStart => exact ⟨rfl, Below.refl _ _⟩
  case round =>
    obtain ⟨rfl, hbw⟩ := hrel
    have Hb := hide hbw
    clear hbw
    go_wp2
    go_ret
    exact ⟨rfl, Hb.out⟩

set_option maxRecDepth 100000 in
set_option maxHeartbeats 1000000 in
theorem writes_empty (a : Option Addr) (cap : Nat) (w : World) :
    Calls Tryz.prog 4 #[.slice a 0 cap] w fun e w' => e = .returned (.bool true) ∧ Below w.heap.size w w' := by
  go_enter Tryz.func4, Tryz.ntmps4
  go_wp2_with fail
  refine (upTo_writes_empty a cap w).mono ?_
  rintro e w1 ⟨rfl, hb1⟩
  have HB := hide hb1
  clear hb1
  go_wp2
  go_ret
  exact ⟨rfl, HB.out⟩

set_option maxRecDepth 100000 in
set_option maxHeartbeats 1000000 in
theorem plays_reads (s : ByteArray) (A B C : Int) (L : Value) (w : World) (hm : s.size ≤ 9223372036854775807) (ht : T10 w) :
    Calls Tryz.prog 29 #[.agg #[.int .i64 3, .int .i64 A, .int .i64 B, .int .i64 C, .string s, L]] w fun e w' => e = .returned (.bool true) ∧ Below w.heap.size w w' := by
  have hB := hide (below_new w (.cells #[.int .i64 3, .int .i64 A, .int .i64 B, .int .i64 C, .string s, L] 27))
  have Ht := hide (ht.below hB.out)
  clear ht
  go_enter Tryz.func29, Tryz.ntmps29
  go_wp2_with fail
  refine (reads_one s _ hm Ht.out).mono ?_
  rintro e w1 ⟨rfl, hb1⟩
  have HB1 := hide (hB.out.trans (hb1.mono (by simp)))
  clear hb1 hB Ht
  go_wp2
  go_ret
  exact ⟨rfl, HB1.out⟩

set_option maxRecDepth 100000 in
set_option maxHeartbeats 2000000 in
theorem upTo_reads (b off len cap : Nat) (w : World) (hl : len ≤ cap) (hc : cap ≤ 9223372036854775807) (hb : b < w.heap.size) (ht : T10 w) (hr : ∀ k, k < len → OpAt w b off k) :
    Calls Tryz.prog 13 #[.slice (some ⟨b, off, none⟩) len cap, .int .i64 3, .int .i64 3] w fun e w' => e = .returned (.int .i64 (-1)) ∧ Below w.heap.size w w' := by
  have Hr := hide hr
  have Ht := hide ht
  clear hr ht
  go_enter Tryz.func13, Tryz.ntmps13
  go_wp2
  go_loopw [7] (fun i wr => ∃ k : Nat, k ≤ len ∧ i = .int .i64 k ∧ Below w.heap.size w wr) (fun i _ => len - (intOf i).toNat)
  case atStart => exact ⟨0, by omega, rfl, Below.refl _ _⟩
  case round =>
    obtain ⟨k, hk, rfl, hbw⟩ := hrel
    have Hb := hide hbw
    have hsz := hbw.size
    have hbw' : b < wr.heap.size := by omega
    have hex : ¬ ((k : Int) < len) ∨ ((k : Int) < len ∧ ¬ ((k : Int) < 1152921504606846976)) ∨ ((k : Int) < len ∧ (k : Int) < 1152921504606846976) := by omega
    rcases hex with hlt' | ⟨hlt', hk60⟩ | ⟨hlt', hk60⟩
    · clear hbw
      go_wp2
      go_ret
      exact ⟨rfl, Hb.out⟩
    · clear hbw
      go_wp2
      go_ret
      exact ⟨rfl, Hb.out⟩
    · obtain ⟨K, A, B, C, s, la, ln, lc, r0, r1, r2, r3, r4, r5, hs⟩ := Hr.out k (by omega)
      have e : ∀ o, wr.cell? ⟨b, o, none⟩ = w.cell? ⟨b, o, none⟩ := fun o => hbw.cell (p := ⟨b, o, none⟩) hb
      rw [← e] at r0 r1 r2 r3 r4 r5
      have hB1 := hide (hbw.alloc hbw.size (.cells #[.int .i64 K, .int .i64 A, .int .i64 B, .int .i64 C, .string s, .slice la ln lc] 27))
      have Ht1 := hide (Ht.out.below hB1.out)
      clear e hbw
      have hcs : K = 3 ∨ ¬ (3 ≤ K) ∨ (3 ≤ K ∧ ¬ (K ≤ 3)) := by omega
      rcases hcs with rfl | h1 | ⟨h1, h2⟩
      · go_wp2_with fail
        refine (plays_reads s A B C _ _ hs Ht1.out).mono ?_
        rintro e w1 ⟨rfl, hb1⟩
        have HB := hide (hB1.out.trans (hb1.mono (by simp; omega)))
        clear hb1 r0 r1 r2 r3 r4 r5
        have hnot : ∀ (x : Bool) (w : World), (Op.unary .not (.bool x)).run Tryz.prog w = .ok (.bool (!x)) w := fun _ _ => rfl
        go_wp2
        go_roundw
        case rel => exact ⟨k + 1, by omega, by go_num, HB.out⟩
        case measure => simp [intOf]; omega
      · go_wp2
        go_roundw
        case rel => exact ⟨k + 1, by omega, by go_num, hB1.out⟩
        case measure => simp [intOf]; omega
      · go_wp2
        go_roundw
        case rel => exact ⟨k + 1, by omega, by go_num, hB1.out⟩
        case measure => simp [intOf]; omega

set_option maxRecDepth 100000 in
theorem reads_any (b off len cap : Nat) (w : World) (hl : len ≤ cap) (hc : cap ≤ 9223372036854775807) (hb : b < w.heap.size) (ht : T10 w) (hr : ∀ k, k < len → OpAt w b off k) :
    Calls Tryz.prog 5 #[.slice (some ⟨b, off, none⟩) len cap] w fun e w' => e = .returned (.bool true) ∧ Below w.heap.size w w' := by
  have H := hide (upTo_reads b off len cap w hl hc hb ht hr)
  clear ht hr
  go_enter Tryz.func5, Tryz.ntmps5
  go_wp2_with fail
  refine H.out.mono ?_
  rintro e w1 ⟨rfl, hb1⟩
  have HB := hide hb1
  clear hb1 H
  go_wp2
  go_ret
  exact ⟨rfl, HB.out⟩

set_option maxRecDepth 100000 in
set_option maxHeartbeats 1000000 in
theorem upTo_reads_empty (a : Option Addr) (cap : Nat) (w : World) :
    Calls Tryz.prog 13 #[.slice a 0 cap, .int .i64 3, .int .i64 3] w fun e w' => e = .returned (.int .i64 (-1)) ∧ Below w.heap.size w w' := by
  go_enter Tryz.func13, Tryz.ntmps13
  go_wp2
  go_loopw [7] (fun i wr => i = .int .i64 0 ∧ Below w.heap.size w wr) (fun _ _ => 0)
  case atStart => exact ⟨rfl, Below.refl _ _⟩
  case round =>
    obtain ⟨rfl, hbw⟩ := hrel
    have Hb := hide hbw
    clear hbw
    go_wp2
    go_ret
    exact ⟨rfl, Hb.out⟩

set_option maxRecDepth 100000 in
set_option maxHeartbeats 1000000 in
theorem reads_empty (a : Option Addr) (cap : Nat) (w : World) :
    Calls Tryz.prog 5 #[.slice a 0 cap] w fun e w' => e = .returned (.bool true) ∧ Below w.heap.size w w' := by
  go_enter Tryz.func5, Tryz.ntmps5
  go_wp2_with fail
  refine (upTo_reads_empty a cap w).mono ?_
  rintro e w1 ⟨rfl, hb1⟩
  have HB := hide hb1
  clear hb1
  go_wp2
  go_ret
  exact ⟨rfl, HB.out⟩
end Go.Proofs.YtbdffcjganlblaaGreatDoor
