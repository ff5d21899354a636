/-
  Own work. A script's steps in memory.
-/
import Derived.Test.YtbdffcjganlblaaGreatDoorRefA
import Derived.ProofKit
import Derived.LaidMore
import Derived.OpenShut
import Derived.Stop.Joined
import Derived.Deep.Slices
import Derived.Test.YtbdffcjganlblaaGreatDoorTbM
import Derived.Test.YtbdffcjganlblaaGreatDoorRnEtoRnH
import Derived.Test.YtbdffcjganlblaaGreatDoorRunFtoPrE
import Derived.ChangeSlices
import Derived.Lib.LaidTab
import Derived.MakeChecks
import Derived.Stop.LaidErr
import Derived.SizedLaws
import Derived.Test.YtbdffcjganlblaaGreatDoorTie
import Derived.Test.YtbdffcjganlblaaGreatDoorCards
import Derived.SevenTiedAt
namespace Go.Proofs.YtbdffcjganlblaaGreatDoor
open Go.ChangeShapes Go.WideShapes Go.ChangeAt Go.RowKit Go.Deep
set_option linter.unusedVariables false
set_option linter.unusedSimpArgs false

/-- One step of a script in memory. -/
def OpAt (w : World) (b off k : Nat) : Prop := ∃ (K A B C : Int) (s : ByteArray) (la : Option Addr) (ln lc : Nat), w.cell? ⟨b, off + k * 6, none⟩ = some (.int .i64 K) ∧ w.cell? ⟨b, off + k * 6 + 1, none⟩ = some (.int .i64 A) ∧ w.cell? ⟨b, off + k * 6 + 2, none⟩ = some (.int .i64 B) ∧
  w.cell? ⟨b, off + k * 6 + 3, none⟩ = some (.int .i64 C) ∧ w.cell? ⟨b, off + k * 6 + 4, none⟩ = some (.string s) ∧ w.cell? ⟨b, off + k * 6 + 5, none⟩ = some (.slice la ln lc) ∧ s.size ≤ 9223372036854775807

theorem own : ownKnob Tryz.prog.godebug = none := by kernel_rfl
theorem laidOut : laidOutB Tryz.prog = true := by kernel_rfl
theorem cellsOp : Tryz.prog.cellsOf 27 = 6 := by kernel_rfl
theorem cellsInt : Tryz.prog.cellsOf 3 = 1 := by kernel_rfl
theorem cellsStr : Tryz.prog.cellsOf 9 = 1 := by kernel_rfl
theorem cellsSl : Tryz.prog.cellsOf 25 = 1 := by kernel_rfl

theorem lt_of_cell {w : World} {b off : Nat} {o : Option Value} (h : w.cell? ⟨b, off, none⟩ = o) (ho : o.isSome = true) : b < w.heap.size := by
  rcases Nat.lt_or_ge b w.heap.size with h1 | h1
  · exact h1
  · rw [← h] at ho
    simp [World.cell?, Array.getElem?_eq_none h1] at ho

section
variable {H : Type} {enc : TypeId × Value → H} {w : World} {base : Nat} {spare : Nat → Bool} {held : Bool}

set_option maxRecDepth 100000 in
/-- One step of a script, opened. -/
theorem opAt_of {fuel : Nat} {cs : List Value} {x : DataW H × List MemPlace} {b off k : Nat} (hc : w.cells? base ((⟨b, off, none⟩ : Addr).add (k * 6)) 6 = some cs) (h : DataW.trod enc Tryz.prog w base spare held fuel 27 cs = some x) : OpAt w b off k := by
  obtain ⟨_, hlen, hcell⟩ := World.cells?_some hc
  obtain ⟨xs, n, _, _, _, hxl, hf⟩ := DataW.trod_struct Tryz.underlying27 h
  match cs, hlen with
  | [v0, v1, v2, v3, v4, v5], _ =>
    match xs, hxl with
    | [y0, y1, y2, y3, y4, y5], _ =>
      have g0 := hf 0 _ rfl
      have g1 := hf 1 _ rfl
      have g2 := hf 2 _ rfl
      have g3 := hf 3 _ rfl
      have g4 := hf 4 _ rfl
      have g5 := hf 5 _ rfl
      simp [cellsInt, cellsStr, cellsSl] at g0 g1 g2 g3 g4 g5
      obtain ⟨K, e0, _⟩ := DataW.trod_int Tryz.underlying3 g0
      obtain ⟨A, e1, _⟩ := DataW.trod_int Tryz.underlying3 g1
      obtain ⟨B, e2, _⟩ := DataW.trod_int Tryz.underlying3 g2
      obtain ⟨C, e3, _⟩ := DataW.trod_int Tryz.underlying3 g3
      obtain ⟨s, e4, _, hs⟩ := DataW.trod_string Tryz.underlying9 g4
      have e5 : ∃ la ln lc, v5 = .slice la ln lc := by
        rcases DataW.trod_slice Tryz.underlying25 g5 with ⟨h5, _⟩ | ⟨a, ln, lc, _, _, _, _, h5, _⟩
        · exact ⟨none, 0, 0, by simpa using h5⟩
        · exact ⟨some a, ln, lc, by simpa using h5⟩
      obtain ⟨la, ln, lc, rfl⟩ := e5
      simp at e0 e1 e2 e3 e4
      subst e0 e1 e2 e3 e4
      have cc : ∀ j v, w.cell? (((⟨b, off, none⟩ : Addr).add (k * 6)).add j) = some v → w.cell? ⟨b, off + k * 6 + j, none⟩ = some v := by
        intro j v hv
        rw [add_add] at hv
        rw [show off + k * 6 + j = off + (k * 6 + j) by omega]
        unfold Addr.add at hv
        by_cases h0 : k * 6 + j = 0
        · rw [if_pos h0] at hv
          rw [h0]
          exact hv
        · rw [if_neg h0] at hv
          exact hv
      refine ⟨K, A, B, C, s, la, ln, lc, ?_, ?_, ?_, ?_, ?_, ?_, hs⟩
      · simpa using cc 0 _ (by simpa using hcell 0 (by omega))
      · exact cc 1 _ (by simpa using hcell 1 (by omega))
      · exact cc 2 _ (by simpa using hcell 2 (by omega))
      · exact cc 3 _ (by simpa using hcell 3 (by omega))
      · exact cc 4 _ (by simpa using hcell 4 (by omega))
      · exact cc 5 _ (by simpa using hcell 5 (by omega))
end

end Go.Proofs.YtbdffcjganlblaaGreatDoor

namespace Go.Proofs.YtbdffcjganlblaaGreatDoor
open Go.RowKit
set_option linter.unusedVariables false
set_option linter.unusedSimpArgs false

/-! ### What is packed is unpacked; what is unpacked was packed -/
theorem tab_fine {l : List UInt8} {t : Tb} (h : TabOk l t) : ChkOk t := ⟨h.2.2.1, (pTab_small h.1 h.2.1).2⟩
theorem tab_one {l : List UInt8} {t t' : Tb} (h : TabOk l t) (h' : TabOk l t') : t = t' := by
  have := h.2.1
  rw [h'.2.1] at this
  exact (Option.some.inj this).symm
theorem pack_unp {t : Tb} (h : ChkOk t) : UnpOk (packB t) t := by
  refine ⟨?_, bodyB t, rfl, bTab_pack h.1, h⟩
  have := bodyB_len h.1
  unfold packB
  rw [List.length_append, show (sumL (bodyB t)).length = 4 from rfl]
  omega
theorem unp_one {l : List UInt8} {t t' : Tb} (h : UnpOk l t) (h' : UnpOk l t') : t = t' := by
  obtain ⟨_, b, e, h1, _⟩ := h
  obtain ⟨_, b', e', h1', _⟩ := h'
  have hl := congrArg List.length (e.symm.trans e')
  rw [List.length_append, List.length_append, show (sumL b).length = 4 from rfl, show (sumL b').length = 4 from rfl] at hl
  have hb : b = b' := by
    have := congrArg (List.take b.length) (e.symm.trans e')
    rw [List.take_left', List.take_append_of_le_length (by omega), show b.length = b'.length by omega, List.take_length] at this
    · exact this
    · rfl
  subst hb
  rw [h1] at h1'
  exact Option.some.inj h1'
theorem unp_tab {l : List UInt8} {t : Tb} (h : UnpOk l t) : TabOk (tbTxt t) t ∧ packB t = l := by
  obtain ⟨_, b, e, h1, h2, h3⟩ := h
  obtain ⟨f1, f2, f3, f4, f5⟩ := h2.frames
  have hc := h2.c2
  have hs := h2.small
  refine ⟨⟨tbTxt_len h2, pTab_txt t (by omega) (by omega) (fun x hx s hsx => ⟨h3 x hx s hsx, by have := (hs x hx).2 s hsx; omega, by have := (hs x hx).2 s hsx; omega⟩), h2, rfl⟩, ?_⟩
  unfold packB
  rw [bTab_inv h1, e]

set_option maxRecDepth 100000 in
theorem num_any (n : Nat) (w : World) : Calls Tryz.prog 15 #[.int .i64 n] w fun e w' => e = .returned (.int .i64 n) ∧ w' = w := by
  go_enter Tryz.func15, Tryz.ntmps15
  go_wp2
  go_ret
  exact ⟨rfl, rfl⟩

set_option maxRecDepth 100000 in
set_option maxHeartbeats 1000000 in
theorem writes_one (s : ByteArray) (w : World) (hm : s.size ≤ 9223372036854775807) (ht : T10 w) :
    Calls Tryz.prog 59 #[.string s] w fun e w' => e = .returned (.bool true) ∧ Below w.heap.size w w' := by
  have Ht := hide ht
  clear ht
  go_enter Tryz.func59, Tryz.ntmps59
  go_wp2_with fail
  refine (write_any s w hm).mono ?_
  rintro e w1 ⟨hb1, hcase⟩
  have HB1 := hide hb1
  have HT1 := hide (Ht.out.below hb1)
  clear hb1 Ht
  rcases hcase with ⟨f, ⟨hf8, hno⟩, rfl⟩ | ⟨x, ⟨t, ht, rfl⟩, rfl⟩
  · rw [hf8]
    have Hno := hide hno
    clear hno hf8
    go_wp2_with fail
    refine (rReadTable_any s w1 hm HT1.out).mono ?_
    rintro e w2 ⟨hb2, hcase⟩
    have HB2 := hide (HB1.out.trans (hb2.mono HB1.out.size))
    clear hb2 HT1
    rcases hcase with ⟨t, sv, ht, rfl, how⟩ | ⟨_, c, f, a, n, k, rfl⟩
    · exact absurd ⟨t, ht⟩ Hno.out
    · go_wp2_with (go_at_call 15; refine (num_any 8 _).mono ?_; rintro e w' ⟨rfl, rfl⟩)
      go_ret
      exact ⟨rfl, HB2.out.alloc HB2.out.size _⟩
  · have Ht := hide ht
    clear ht
    generalize hpk : packB t = pk at *
    have Hpk := hide hpk
    clear hpk
    go_wp2_with fail
    refine (rReadTable_any s w1 hm HT1.out).mono ?_
    rintro e w2 ⟨hb2, hcase⟩
    have HB2 := hide (HB1.out.trans (hb2.mono HB1.out.size))
    clear hb2 HT1 HB1
    rcases hcase with ⟨t', sv, ht', rfl, how⟩ | ⟨hno, _⟩
    · obtain ⟨sa, sc, rfl⟩ := own_slice how
      clear how ht'
      have hpl : (bs pk).size ≤ 9223372036854775807 := by
        rw [bs_size, ← Hpk.out]
        have := (pack_unp (tab_fine Ht.out)).1
        omega
      have HB3 := hide (HB2.out.alloc HB2.out.size (.cells #[.int .i64 t'.cyc, .int .i64 t'.fr, .slice sa (flatF 0 t'.fs).length sc] 39))
      have hsz3 := HB3.out.size
      generalize (flatF 0 t'.fs).length = n at *
      go_wp2_with fail
      refine (read_any (bs pk) _ hpl).mono ?_
      rintro e w4 ⟨hb4, hcase⟩
      have HB4 := hide (HB3.out.trans (hb4.mono HB3.out.size))
      clear hb4 HB3 HB2
      rw [bs_data] at hcase
      have hup : UnpOk pk t := by rw [← Hpk.out]; exact pack_unp (tab_fine Ht.out)
      rcases hcase with ⟨f, ⟨_, hno⟩, _⟩ | ⟨x, ⟨t2, h2, rfl⟩, rfl⟩
      · exact absurd ⟨t, hup⟩ hno
      · have := unp_one hup h2
        subst this
        have hxs : bs (tbTxt t) = s := by rw [Ht.out.2.2.2, bs_list]
        rw [hxs]
        have hss : (s.toList == s.toList) = true := by simp
        clear h2 hup hxs
        go_wp2_with (go_at_call 15; refine (num_any 0 _).mono ?_; rintro e w' ⟨rfl, rfl⟩)
        go_ret
        exact ⟨rfl, HB4.out⟩
    · exact absurd ⟨t, Ht.out⟩ hno

set_option maxRecDepth 100000 in
set_option maxHeartbeats 1000000 in
theorem reads_one (s : ByteArray) (w : World) (hm : s.size ≤ 9223372036854775807) (ht : T10 w) :
    Calls Tryz.prog 60 #[.string s] w fun e w' => e = .returned (.bool true) ∧ Below w.heap.size w w' := by
  have Ht := hide ht
  clear ht
  go_enter Tryz.func60, Tryz.ntmps60
  go_wp2_with fail
  refine (read_any s w hm).mono ?_
  rintro e w1 ⟨hb1, hcase⟩
  have HB1 := hide hb1
  have HT1 := hide (Ht.out.below hb1)
  clear hb1 Ht
  rcases hcase with ⟨f, ⟨hf8, _⟩, rfl⟩ | ⟨x, ⟨t, ht, rfl⟩, rfl⟩
  · rw [hf8]
    clear hf8
    go_wp2_with (go_at_call 15; refine (num_any 8 _).mono ?_; rintro e w' ⟨rfl, rfl⟩)
    go_ret
    exact ⟨rfl, HB1.out⟩
  · obtain ⟨htab, hpk⟩ := unp_tab ht
    have Htab := hide htab
    have Hpk := hide hpk
    have htl : (bs (tbTxt t)).size ≤ 800 := by rw [bs_size]; exact htab.1
    clear ht htab hpk
    generalize hTX : bs (tbTxt t) = TX at *
    have HTX : Hid (TX.data.toList = tbTxt t) := by unfold Hid; rw [← hTX, bs_data]
    clear hTX
    go_wp2_with (go_at_call 15; refine (num_any 0 _).mono ?_; rintro e w' ⟨rfl, rfl⟩)
    refine (rReadTable_any TX _ (by omega) HT1.out).mono ?_
    rintro e w2 ⟨hb2, hcase⟩
    have HB2 := hide (HB1.out.trans (hb2.mono HB1.out.size))
    clear hb2 HT1 HB1
    rcases hcase with ⟨t', sv, ht', rfl, how⟩ | ⟨hno, _⟩
    · obtain ⟨sa, sc, rfl⟩ := own_slice how
      clear how ht'
      have HB3 := hide (HB2.out.alloc HB2.out.size (.cells #[.int .i64 t'.cyc, .int .i64 t'.fr, .slice sa (flatF 0 t'.fs).length sc] 39))
      generalize (flatF 0 t'.fs).length = n at *
      go_wp2_with fail
      refine (write_any TX _ (by omega)).mono ?_
      rintro e w4 ⟨hb4, hcase⟩
      have HB4 := hide (HB3.out.trans (hb4.mono HB3.out.size))
      clear hb4 HB3 HB2
      rw [HTX.out] at hcase
      rcases hcase with ⟨f, ⟨_, hno⟩, _⟩ | ⟨x, ⟨t2, h2, rfl⟩, rfl⟩
      · exact absurd ⟨t, Htab.out⟩ hno
      · have := tab_one Htab.out h2
        subst this
        have hxs : bs (packB t) = s := by rw [Hpk.out, bs_list]
        rw [hxs]
        have hss : (s.toList == s.toList) = true := by simp
        clear h2 hxs
        go_wp2_with (go_at_call 15; refine (num_any 0 _).mono ?_; rintro e w' ⟨rfl, rfl⟩)
        go_ret
        exact ⟨rfl, HB4.out⟩
    · exact absurd ⟨t, by rw [HTX.out]; exact Htab.out⟩ hno
end Go.Proofs.YtbdffcjganlblaaGreatDoor

namespace Go.Proofs.YtbdffcjganlblaaGreatDoor
open Go.ChangeShapes Go.WideShapes Go.ChangeAt Go.RowKit Go.Deep
set_option linter.unusedVariables false
set_option linter.unusedSimpArgs false

/-! ### A step with its costs -/
def OpL (w : World) (b off k : Nat) : Prop := ∃ (K A B C : Int) (s : ByteArray) (la : Option Addr) (lc : Nat) (cs : List Int), w.cell? ⟨b, off + k * 6, none⟩ = some (.int .i64 K) ∧ w.cell? ⟨b, off + k * 6 + 1, none⟩ = some (.int .i64 A) ∧ w.cell? ⟨b, off + k * 6 + 2, none⟩ = some (.int .i64 B) ∧
  w.cell? ⟨b, off + k * 6 + 3, none⟩ = some (.int .i64 C) ∧ w.cell? ⟨b, off + k * 6 + 4, none⟩ = some (.string s) ∧ w.cell? ⟨b, off + k * 6 + 5, none⟩ = some (.slice la cs.length lc) ∧ s.size ≤ 9223372036854775807 ∧ CostsAt w la cs ∧ cs.length * 8 ≤ 140737488351232
theorem bytesInt : Tryz.prog.bytesOf 3 = 8 := by kernel_rfl
theorem weights_all {H : Type} {P : Program} {e : TypeId} {d : DataW H} {n : Nat} : ∀ {ds : List (DataW H)}, d ∈ ds → n ∈ d.weights P e → n ∈ DataW.weightsAll P e ds
  | [], h, _ => by simp at h
  | x :: r, h, hn => by
    simp only [DataW.weightsAll, List.mem_append]
    rcases List.mem_cons.1 h with rfl | h
    · exact .inl hn
    · exact .inr (weights_all h hn)

section
variable {H : Type} {enc : TypeId × Value → H} {w : World} {base : Nat} {spare : Nat → Bool} {held : Bool}
set_option maxRecDepth 100000 in
/-- One step of a script, opened. -/
theorem opL_of {fuel : Nat} {cs : List Value} {x : DataW H × List MemPlace} {b off k : Nat} (hc : w.cells? base ((⟨b, off, none⟩ : Addr).add (k * 6)) 6 = some cs) (h : DataW.trod enc Tryz.prog w base spare held fuel 27 cs = some x)
    (hz : ∀ n ∈ x.1.weights Tryz.prog 27, n ≤ reachBytes) : OpL w b off k := by
  obtain ⟨_, hlen, hcell⟩ := World.cells?_some hc
  obtain ⟨xs, n, _, hx, _, hxl, hf⟩ := DataW.trod_struct Tryz.underlying27 h
  match cs, hlen with
  | [v0, v1, v2, v3, v4, v5], _ =>
    match xs, hxl with
    | [y0, y1, y2, y3, y4, y5], _ =>
      have g0 := hf 0 _ rfl
      have g1 := hf 1 _ rfl
      have g2 := hf 2 _ rfl
      have g3 := hf 3 _ rfl
      have g4 := hf 4 _ rfl
      have g5 := hf 5 _ rfl
      simp [cellsInt, cellsStr, cellsSl] at g0 g1 g2 g3 g4 g5
      obtain ⟨K, e0, _⟩ := DataW.trod_int Tryz.underlying3 g0
      obtain ⟨A, e1, _⟩ := DataW.trod_int Tryz.underlying3 g1
      obtain ⟨B, e2, _⟩ := DataW.trod_int Tryz.underlying3 g2
      obtain ⟨C, e3, _⟩ := DataW.trod_int Tryz.underlying3 g3
      obtain ⟨s, e4, _, hs⟩ := DataW.trod_string Tryz.underlying9 g4
      obtain ⟨la, lc, cs, e5, hca, hcl⟩ : ∃ (la : Option Addr) (lc : Nat) (cs : List Int), v5 = .slice la cs.length lc ∧ CostsAt w la cs ∧ cs.length * 8 ≤ 140737488351232 := by
        rcases open_ints Tryz.underlying25 Tryz.underlying3 cellsInt g5 with ⟨hv, _⟩ | ⟨a, len, cap, zs, hv, _, hl, hm, hzl, hy5, hcells, _⟩
        · exact ⟨none, 0, [], by simpa using hv, .inl rfl, by simp⟩
        · have hle : len ≤ zs.length := by rw [hzl]; split <;> omega
          have hcl : (zs.take len).length = len := by simp; omega
          have hw : (zs.length) * 8 ≤ reachBytes := by
            apply hz
            rw [hx]
            simp only [DataW.weights, Tryz.underlying27]
            refine DataW.weights_mem_each (j := 5) (t := 25) (d := y5.1) rfl rfl _ ?_
            rw [hy5]
            simp only [DataW.weights, Tryz.underlying25, bytesInt, lits, List.length_map, List.length_take, List.length_drop]
            rw [show min len zs.length + (zs.length - len) = zs.length by omega]
            exact List.mem_cons_self
          refine ⟨some a, cap, zs.take len, by rw [hcl]; simpa using hv, ?_, by rw [hcl]; unfold reachBytes at hw; omega⟩
          by_cases h0 : len = 0
          · left
            rw [h0]
            simp
          · right
            obtain ⟨ab, ao, sp⟩ := a
            have c0 := hcells 0 (by omega)
            have hspot : sp = none := by simpa [Addr.add] using World.cell?_spot c0
            subst hspot
            have cc : ∀ j v, w.cell? ((⟨ab, ao, none⟩ : Addr).add j) = some v → w.cell? ⟨ab, ao + j, none⟩ = some v := by
              intro j v hv
              unfold Addr.add at hv
              by_cases h0 : j = 0
              · rw [if_pos h0] at hv
                rw [h0]
                exact hv
              · rw [if_neg h0] at hv
                exact hv
            refine ⟨ab, ao, rfl, lt_of_cell (cc 0 _ c0) rfl, fun i hi => ?_⟩
            rw [hcl] at hi
            have := cc i _ (hcells i (by omega))
            rw [this]
            simp [List.getD_eq_getElem?_getD, List.getElem?_take, hi]
      simp at e0 e1 e2 e3 e4
      subst e0 e1 e2 e3 e4 e5
      have cc : ∀ j v, w.cell? (((⟨b, off, none⟩ : Addr).add (k * 6)).add j) = some v → w.cell? ⟨b, off + k * 6 + j, none⟩ = some v := by
        intro j v hv
        rw [add_add] at hv
        rw [show off + k * 6 + j = off + (k * 6 + j) by omega]
        unfold Addr.add at hv
        by_cases h0 : k * 6 + j = 0
        · rw [if_pos h0] at hv
          rw [h0]
          exact hv
        · rw [if_neg h0] at hv
          exact hv
      refine ⟨K, A, B, C, s, la, lc, cs, ?_, ?_, ?_, ?_, ?_, ?_, hs, hca, hcl⟩
      · simpa using cc 0 _ (by simpa using hcell 0 (by omega))
      · exact cc 1 _ (by simpa using hcell 1 (by omega))
      · exact cc 2 _ (by simpa using hcell 2 (by omega))
      · exact cc 3 _ (by simpa using hcell 3 (by omega))
      · exact cc 4 _ (by simpa using hcell 4 (by omega))
      · exact cc 5 _ (by simpa using hcell 5 (by omega))
end

/-! ### The copy of the costs -/
def iV (l : List Int) : List Value := l.map (fun x => Value.int .i64 x)
structure CL (wa wr : World) (v : Value) (l : List Int) : Prop where
  ow : wr.ownsRow wa.heap.size 3 1 v l.length (iV l)
  b : Below wa.heap.size wa wr
theorem CL.start (wa : World) : CL wa wa (.slice none 0 0) [] := ⟨World.ownsRow_nil _ _ _ _, Below.refl _ _⟩
theorem CL.push {wa wr : World} {v v' : Value} {l : List Int} {x : Int} (h : CL wa wr v l) {o : Obj} {w2 : World} (hg : (wr.alloc o).grownBy w2 v.ownBlock) {n : Nat} {xs : List Value} (hown : w2.ownsRow wa.heap.size 3 1 v' n xs) (hn : n = l.length + 1) (hxs : xs = iV l ++ [.int .i64 x]) : CL wa w2 v' (l ++ [x]) := by
  subst hn hxs
  refine ⟨?_, ?_⟩
  · rw [show iV (l ++ [x]) = iV l ++ [.int .i64 x] by simp [iV], show (l ++ [x]).length = l.length + 1 by simp]
    exact hown
  · exact (h.b.alloc h.b.size o).grown hg (by have := h.b.size; simp; omega) (fun k hk => (h.ow.lt k hk).1)
theorem CL.keep {wa wr w' : World} {v : Value} {l : List Int} (h : CL wa wr v l) (hb : Below wr.heap.size wr w') : CL wa w' v l := ⟨owns_below h.ow hb, h.b.trans (hb.mono h.b.size)⟩
theorem CL.form {wa wr : World} {v : Value} {l : List Int} (h : CL wa wr v l) : ∃ a c, v = .slice a l.length c ∧ CostsIn wr a l ∧ ∀ k, k < l.length → ∃ g, a = some ⟨g, 0, none⟩ ∧ wr.cell? ⟨g, k, none⟩ = some (.int .i64 (l.getD k 0)) := by
  by_cases h0 : l.length = 0
  · have hl : l = [] := List.length_eq_zero_iff.1 h0
    rcases h.ow.2 with ⟨hv, _⟩ | ⟨g, cap, cur, hv, _, hg, _⟩
    · exact ⟨none, 0, by rw [hv, h0], ⟨.inl hl, fun b off e => by cases e⟩, fun k hk => by omega⟩
    · exact ⟨some ⟨g, 0, none⟩, cap, hv, ⟨.inl hl, fun b off e => by cases e; exact blk_lt hg⟩, fun k hk => by omega⟩
  · obtain ⟨g, cap, hv, _, hg⟩ := own_form h.ow (by omega)
    have hc : ∀ k, k < l.length → wr.cell? ⟨g, k, none⟩ = some (.int .i64 (l.getD k 0)) := by
      intro k hk
      have := h.ow
      rw [hv] at this
      rw [this.cellAt k (by omega)]
      simp [iV, hk, List.getD_eq_getElem?_getD]
    exact ⟨_, cap, hv, ⟨.inr ⟨g, 0, rfl, hg, fun k hk => by rw [Nat.zero_add]; exact hc k hk⟩, fun b off e => by cases e; exact hg⟩, fun k hk => ⟨g, rfl, hc k hk⟩⟩
end Go.Proofs.YtbdffcjganlblaaGreatDoor

namespace Go.Proofs.YtbdffcjganlblaaGreatDoor
open Go.RowKit
set_option linter.unusedVariables false
set_option linter.unusedSimpArgs false

set_option maxRecDepth 100000 in
set_option maxHeartbeats 8000000 in
theorem runs_bad (s : ByteArray) (K A B C : Int) (la : Option Addr) (lc : Nat) (cs : List Int) (w : World) (hms : s.size ≤ 9223372036854775807) (ht : T10 w) (hca : CostsAt w la cs) (hcl : cs.length * 8 ≤ 140737488351232) (hno : ¬ ∃ t, TabOk s.data.toList t) :
    Calls Tryz.prog 62 #[.agg #[.int .i64 K, .int .i64 A, .int .i64 B, .int .i64 C, .string s, .slice la cs.length lc]] w fun e w' => e = .returned (.bool true) ∧ Below w.heap.size w w' := by
  obtain ⟨i0, hi, hz0, hz1, hz2⟩ := info_parts Tryz.infoInt
  have Hno := hide hno
  have Hca := hide hca
  have HX0 := hide (blk_new w #[.int .i64 K, .int .i64 A, .int .i64 B, .int .i64 C, .string s, .slice la cs.length lc] 27)
  have HB0 := hide (below_new w (.cells #[.int .i64 K, .int .i64 A, .int .i64 B, .int .i64 C, .string s, .slice la cs.length lc] 27))
  have HT0 := hide (ht.below HB0.out)
  clear ht hno hca
  go_enter Tryz.func62, Tryz.ntmps62
  go_wp2_with fail
  refine (write_any s _ hms).mono ?_
  rintro e w1 ⟨hb1, hcase⟩
  have HX1 := hide (blk_keep HX0.out hb1)
  have HB1 := hide (HB0.out.trans (hb1.mono (by simp)))
  have HT1 := hide (HT0.out.below hb1)
  have x1 := blk_cell HX1.out
  clear hb1 HX0 HB0 HT0
  rcases hcase with ⟨f, ⟨hf8, _⟩, rfl⟩ | ⟨x, ⟨t, ht, rfl⟩, rfl⟩
  · rw [hf8]
    clear hf8
    go_wp2_with fail
    refine (rReadTable_any s w1 hms HT1.out).mono ?_
    rintro e w2 ⟨hb2, hcase⟩
    rcases hcase with ⟨t, sv, ht, rfl, how⟩ | ⟨_, c, f, a, n, k, rfl⟩
    · exact absurd ⟨t, ht⟩ Hno.out
    · have hb3 := hb2.alloc hb2.size (.cells #[.int .i64 c, .int .i64 f, .slice a n k] 39)
      have HX3 := hide (blk_keep HX1.out hb3)
      have HB3 := hide (HB1.out.trans (hb3.mono HB1.out.size))
      have x3 := blk_cell HX3.out
      have x2 := blk_cell (blk_keep HX1.out hb2)
      have hnot : ∀ (x : Bool) (w : World), (Op.unary .not (.bool x)).run Tryz.prog w = .ok (.bool (!x)) w := fun _ _ => rfl
      clear hb2 hb3 HX1 HB1 x1 HT1
      go_wp2_with (go_at_call 15; refine (num_any 8 _).mono ?_; rintro e w' ⟨rfl, hw'⟩; replace hw' := hw'.symm; subst hw')
      generalize w2.alloc (.cells #[.int .i64 c, .int .i64 f, .slice a n k] 39) = w3 at *
      refine (read_any s _ hms).mono ?_
      rintro e w4 ⟨hb4, hcase⟩
      have HXa := hide (blk_keep HX3.out hb4)
      have HBa := hide (HB3.out.trans (hb4.mono HB3.out.size))
      clear hb4 HX3 HB3 x3 x2
      rcases hcase with ⟨f, ⟨hf8, hnu⟩, rfl⟩ | ⟨x, _, rfl⟩
      · rw [hf8]
        clear hf8
        have Hnu := hide hnu
        clear hnu
        go_wp2_with (go_at_call 15; refine (num_any 8 _).mono ?_; rintro e w' ⟨rfl, hw'⟩; replace hw' := hw'.symm; subst hw')
        go_wp2_with fail
        go_loopw [9, 10] (fun cv i wr => ∃ k : Nat, k ≤ cs.length ∧ i = .int .i64 k ∧ CL w4 wr cv (cs.take k)) (fun _ i _ => cs.length - (intOf i).toNat)
        case atStart => exact ⟨0, by omega, rfl, by simpa using CL.start w4⟩
        case round =>
          obtain ⟨k, hk, rfl, hC⟩ := hrel
          have x := blk_cell (blk_keep HXa.out hC.b)
          by_cases hkl : k < cs.length
          · have hkl' : (k : Int) < cs.length := by omega
            obtain ⟨lb, lo, rfl, hlb, hlr⟩ : ∃ b off, la = some ⟨b, off, none⟩ ∧ b < w.heap.size ∧ ∀ k, k < cs.length → w.cell? ⟨b, off + k, none⟩ = some (.int .i64 (cs.getD k 0)) := by
              rcases Hca.out with hc | hc
              · rw [hc] at hkl
                simp at hkl
              · exact hc
            have hcc := ((HBa.out.trans (hC.b.mono HBa.out.size)).cell (p := ⟨lb, lo + k, none⟩) hlb).trans (hlr k hkl)
            have htk : Hid (cs.take (k + 1) = cs.take k ++ [cs.getD k 0]) := by
              unfold Hid
              rw [List.take_succ_eq_append_getElem hkl]
              simp [List.getD_eq_getElem?_getD, hkl]
            have ow := hC.ow
            have hsz := hC.b.size
            have hlk : (cs.take k).length = k := by simp; omega
            rw [hlk] at ow
            have HC := hide hC
            have Hlk := hide hlk
            clear hC hlr hlk
            generalize cs.getD k 0 = V at *
            go_wp2_with (at_builtin; refine wpList_append_own _ rfl _ _ 25 rfl w4.heap.size 3 i0 _ 1 8 Tryz.underlying25 hi hz0 hz1 hz2 rfl (by decide) _ _ _ rfl (ow.alloc _) ⟨wr.heap.size, 0, none⟩ 1 1 [.int .i64 V] rfl rfl ?c1 ?c2 ?c3 ?c4 ?c5 ?_)
            case c1 => exact cells_new wr #[_] _ _ rfl
            case c2 => simp [Value.oneCell']
            case c3 => unfold maxLen; omega
            case c4 => omega
            case c5 => simp; omega
            intro v' w2 hown2 hgr _
            have HC2 := hide (HC.out.push (x := V) hgr hown2 (by rw [Hlk.out]) rfl)
            clear hown2 hgr ow HC x hcc
            go_wp2
            go_roundw
            case rel => exact ⟨k + 1, by omega, by go_num, by rw [htk.out]; exact HC2.out⟩
            case measure => simp [intOf]; omega
          · have hkl' : ¬ (k : Int) < cs.length := by omega
            have hke : cs.take k = cs := List.take_of_length_le (by omega)
            rw [hke] at hC
            obtain ⟨ca, cc, rfl, hci, hcells⟩ := hC.form
            have HR := hide (run_out s A cs ca cc wr hms (by omega) hci.1)
            have HXr := hide (blk_keep HXa.out hC.b)
            have HBr := hide (HBa.out.trans (hC.b.mono HBa.out.size))
            have Hcells := hide hcells
            have hgs : ∀ g, ca = some ⟨g, 0, none⟩ → g < wr.heap.size := fun g e => hci.2 g 0 e
            have Hgs := hide hgs
            clear hC hke hci hcells hgs
            go_wp2_with fail
            refine HR.out.mono ?_
            rintro e w5 ⟨hb5, hcase⟩
            have HX5 := hide (blk_keep HXr.out hb5)
            have HB5 := hide (HBr.out.trans (hb5.mono HBr.out.size))
            have HC5 : Hid (∀ k, k < cs.length → ∃ g, ca = some ⟨g, 0, none⟩ ∧ g < w5.heap.size ∧ w5.cell? ⟨g, k, none⟩ = some (.int .i64 (cs.getD k 0))) := fun k hk => by
              obtain ⟨g, e, h⟩ := Hcells.out k hk
              have hg := Hgs.out g e
              exact ⟨g, e, Nat.lt_of_lt_of_le hg hb5.size, (hb5.cell (p := ⟨g, k, none⟩) hg).trans h⟩
            clear HR HXr HBr Hcells Hgs hb5 x
            obtain ⟨f, hf8, rfl⟩ : ∃ f : Nat × Nat, f.1 = 8 ∧ e = .returned (.tuple #[.string ⟨#[]⟩, .int .i64 f.1]) := by
              rcases hcase with ⟨f, hf, h⟩ | ⟨x, ⟨t, hu, _⟩, h⟩
              · refine ⟨f, ?_, h⟩
                rcases hf with ⟨h1, _⟩ | ⟨_, h1, _⟩
                · exact h1
                · exact absurd h1 Hnu.out
              · exact absurd ⟨t, hu⟩ Hnu.out
            rw [hf8]
            clear hf8 hcase
            go_wp2_with fail
            go_loopw [13] (fun i wr => ∃ k : Nat, k ≤ cs.length ∧ i = .int .i64 k ∧ Below w5.heap.size w5 wr) (fun i _ => cs.length - (intOf i).toNat)
            case atStart => exact ⟨0, by omega, rfl, Below.refl _ _⟩
            case round =>
              obtain ⟨k, hk, rfl, hbk⟩ := hrel
              have x := blk_cell (blk_keep HX5.out hbk)
              have HBk := hide (HB5.out.trans (hbk.mono HB5.out.size))
              by_cases hkl : k < cs.length
              · have hkl' : (k : Int) < cs.length := by omega
                obtain ⟨lb, lo, rfl, hlb, hlr⟩ : ∃ b off, la = some ⟨b, off, none⟩ ∧ b < w.heap.size ∧ ∀ k, k < cs.length → w.cell? ⟨b, off + k, none⟩ = some (.int .i64 (cs.getD k 0)) := by
                  rcases Hca.out with hc | hc
                  · rw [hc] at hkl
                    simp at hkl
                  · exact hc
                obtain ⟨g, rfl, hg, hgc⟩ := HC5.out k hkl
                have c1 := (hbk.cell (p := ⟨g, k, none⟩) hg).trans hgc
                have c2 := (HBk.out.cell (p := ⟨lb, lo + k, none⟩) hlb).trans (hlr k hkl)
                have Hbk := hide hbk
                clear hbk hlr hgc
                generalize cs.getD k 0 = V at *
                have hne : (V != V) = false := by simp
                go_wp2_with fail
                go_region
                all_goals
                  have Hd := hide (Hbk.out.drew)
                  clear x c1 c2
                  go_wp2
                  go_roundw
                  case rel => exact ⟨k + 1, by omega, by go_num, Hd.out⟩
                  case measure => simp [intOf]; omega
              · have hkl' : ¬ (k : Int) < cs.length := by omega
                have HXk := hide (blk_keep HX5.out hbk)
                have hss : ((ByteArray.mk #[]).toList == (ByteArray.mk #[]).toList) = true := by simp
                clear hbk x
                go_wp2_with (go_at_call 15; refine (num_any 8 _).mono ?_; rintro e w' ⟨rfl, hw'⟩; replace hw' := hw'.symm; subst hw')
                go_ret
                exact ⟨rfl, HBk.out⟩
      · clear Hca
        go_wp2_with (go_at_call 15; refine (num_any 0 _).mono ?_; rintro e w' ⟨rfl, hw'⟩; replace hw' := hw'.symm; subst hw')
        go_ret
        exact ⟨rfl, HBa.out⟩
  · exact absurd ⟨t, ht⟩ Hno.out

set_option maxRecDepth 100000 in
set_option maxHeartbeats 8000000 in
theorem runs_good (s : ByteArray) (K A B C : Int) (la : Option Addr) (lc : Nat) (cs : List Int) (w : World) (hm0 : s.size ≤ 9223372036854775807) (ht : T10 w) (hca : CostsAt w la cs) (hcl : cs.length * 8 ≤ 140737488351232) (t : Tb) (htb : TabOk s.data.toList t) :
    Calls Tryz.prog 62 #[.agg #[.int .i64 K, .int .i64 A, .int .i64 B, .int .i64 C, .string s, .slice la cs.length lc]] w fun e w' => e = .returned (.bool true) ∧ Below w.heap.size w w' := by
  obtain ⟨i0, hi, hz0, hz1, hz2⟩ := info_parts Tryz.infoInt
  have Htb := hide htb
  have Hca := hide hca
  have HX0 := hide (blk_new w #[.int .i64 K, .int .i64 A, .int .i64 B, .int .i64 C, .string s, .slice la cs.length lc] 27)
  have HB0 := hide (below_new w (.cells #[.int .i64 K, .int .i64 A, .int .i64 B, .int .i64 C, .string s, .slice la cs.length lc] 27))
  have HT0 := hide (ht.below HB0.out)
  clear ht htb hca
  go_enter Tryz.func62, Tryz.ntmps62
  go_wp2_with fail
  refine (write_any s _ hm0).mono ?_
  rintro e w1 ⟨hb1, hcase⟩
  have HX1 := hide (blk_keep HX0.out hb1)
  have HB1 := hide (HB0.out.trans (hb1.mono (by simp)))
  have HT1 := hide (HT0.out.below hb1)
  have x1 := blk_cell HX1.out
  clear hb1 HX0 HB0 HT0
  rcases hcase with ⟨f, ⟨_, hno⟩, rfl⟩ | ⟨x, ⟨t', ht', rfl⟩, rfl⟩
  · exact absurd ⟨t, Htb.out⟩ hno
  · have := tab_one Htb.out ht'
    subst this
    clear ht'
    generalize hpk : packB t = pk at *
    have Hpk := hide hpk
    clear hpk
    go_wp2_with fail
    refine (rReadTable_any s w1 hm0 HT1.out).mono ?_
    rintro e w2 ⟨hb2, hcase⟩
    rcases hcase with ⟨t', sv, ht', rfl, how⟩ | ⟨hno, _⟩
    · have := tab_one Htb.out ht'
      subst this
      clear ht'
      obtain ⟨sa, sc, rfl⟩ := own_slice how
      have hb3 := hb2.alloc hb2.size (.cells #[.int .i64 t.cyc, .int .i64 t.fr, .slice sa (flatF 0 t.fs).length sc] 39)
      have HXa := hide (blk_keep HX1.out hb3)
      have HBa := hide (HB1.out.trans (hb3.mono HB1.out.size))
      have HDa := hide (blk_new w2 #[.int .i64 t.cyc, .int .i64 t.fr, .slice sa (flatF 0 t.fs).length sc] 39)
      have HOa := hide (owns_below how (below_new w2 (.cells #[.int .i64 t.cyc, .int .i64 t.fr, .slice sa (flatF 0 t.fs).length sc] 39)))
      have hnot : ∀ (x : Bool) (w : World), (Op.unary .not (.bool x)).run Tryz.prog w = .ok (.bool (!x)) w := fun _ _ => rfl
      have hup : Hid (UnpOk pk t) := by unfold Hid; rw [← Hpk.out]; exact pack_unp (tab_fine Htb.out)
      have hms : (bs pk).size ≤ 9223372036854775807 := by
        rw [bs_size]
        have := hup.out.1
        omega
      have x2 := blk_cell (blk_keep HX1.out hb2)
      have hDw : w2.heap.size < (w2.alloc (.cells #[.int .i64 t.cyc, .int .i64 t.fr, .slice sa (flatF 0 t.fs).length sc] 39)).heap.size := by simp
      clear hb2 hb3 HX1 HB1 x1 HT1 how
      go_wp2_with (go_at_call 15; refine (num_any 0 _).mono ?_; rintro e w' ⟨rfl, hw'⟩; replace hw' := hw'.symm; subst hw')
      generalize w2.alloc (.cells #[.int .i64 t.cyc, .int .i64 t.fr, .slice sa (flatF 0 t.fs).length sc] 39) = w4 at *
      generalize w2.heap.size = D5 at *
      clear x2
      go_wp2_with fail
      go_loopw [9, 10] (fun cv i wr => ∃ k : Nat, k ≤ cs.length ∧ i = .int .i64 k ∧ CL w4 wr cv (cs.take k)) (fun _ i _ => cs.length - (intOf i).toNat)
      case atStart => exact ⟨0, by omega, rfl, by simpa using CL.start w4⟩
      case round =>
        obtain ⟨k, hk, rfl, hC⟩ := hrel
        have x := blk_cell (blk_keep HXa.out hC.b)
        by_cases hkl : k < cs.length
        · have hkl' : (k : Int) < cs.length := by omega
          obtain ⟨lb, lo, rfl, hlb, hlr⟩ : ∃ b off, la = some ⟨b, off, none⟩ ∧ b < w.heap.size ∧ ∀ k, k < cs.length → w.cell? ⟨b, off + k, none⟩ = some (.int .i64 (cs.getD k 0)) := by
            rcases Hca.out with hc | hc
            · rw [hc] at hkl
              simp at hkl
            · exact hc
          have hcc := ((HBa.out.trans (hC.b.mono HBa.out.size)).cell (p := ⟨lb, lo + k, none⟩) hlb).trans (hlr k hkl)
          have htk : Hid (cs.take (k + 1) = cs.take k ++ [cs.getD k 0]) := by
            unfold Hid
            rw [List.take_succ_eq_append_getElem hkl]
            simp [List.getD_eq_getElem?_getD, hkl]
          have ow := hC.ow
          have hsz := hC.b.size
          have hlk : (cs.take k).length = k := by simp; omega
          rw [hlk] at ow
          have HC := hide hC
          have Hlk := hide hlk
          clear hC hlr hlk
          generalize cs.getD k 0 = V at *
          go_wp2_with (at_builtin; refine wpList_append_own _ rfl _ _ 25 rfl w4.heap.size 3 i0 _ 1 8 Tryz.underlying25 hi hz0 hz1 hz2 rfl (by decide) _ _ _ rfl (ow.alloc _) ⟨wr.heap.size, 0, none⟩ 1 1 [.int .i64 V] rfl rfl ?c1 ?c2 ?c3 ?c4 ?c5 ?_)
          case c1 => exact cells_new wr #[_] _ _ rfl
          case c2 => simp [Value.oneCell']
          case c3 => unfold maxLen; omega
          case c4 => omega
          case c5 => simp; omega
          intro v' w2 hown2 hgr _
          have HC2 := hide (HC.out.push (x := V) hgr hown2 (by rw [Hlk.out]) rfl)
          clear hown2 hgr ow HC x hcc
          go_wp2
          go_roundw
          case rel => exact ⟨k + 1, by omega, by go_num, by rw [htk.out]; exact HC2.out⟩
          case measure => simp [intOf]; omega
        · have hkl' : ¬ (k : Int) < cs.length := by omega
          have hke : cs.take k = cs := List.take_of_length_le (by omega)
          rw [hke] at hC
          obtain ⟨ca, cc, rfl, hci, hcells⟩ := hC.form
          have HR := hide (run_out (bs pk) A cs ca cc wr hms (by omega) hci.1)
          have HXr := hide (blk_keep HXa.out hC.b)
          have HBr := hide (HBa.out.trans (hC.b.mono HBa.out.size))
          have Hcells := hide hcells
          have HDr := hide (blk_keep HDa.out hC.b)
          have HOr := hide (owns_below HOa.out hC.b)
          have hgs : ∀ g, ca = some ⟨g, 0, none⟩ → g < wr.heap.size := fun g e => hci.2 g 0 e
          have Hgs := hide hgs
          clear hC hke hci hcells hgs
          go_wp2_with fail
          refine HR.out.mono ?_
          rintro e w5 ⟨hb5, hcase⟩
          have HX5 := hide (blk_keep HXr.out hb5)
          have HD5 := hide (blk_keep HDr.out hb5)
          have HO5 := hide (owns_below HOr.out hb5)
          have HB5 := hide (HBr.out.trans (hb5.mono HBr.out.size))
          have HC5 : Hid (∀ k, k < cs.length → ∃ g, ca = some ⟨g, 0, none⟩ ∧ g < w5.heap.size ∧ w5.cell? ⟨g, k, none⟩ = some (.int .i64 (cs.getD k 0))) := fun k hk => by
            obtain ⟨g, e, h⟩ := Hcells.out k hk
            have hg := Hgs.out g e
            exact ⟨g, e, Nat.lt_of_lt_of_le hg hb5.size, (hb5.cell (p := ⟨g, k, none⟩) hg).trans h⟩
          clear HR HXr HBr Hcells Hgs hb5 x HDr HOr
          obtain ⟨y, nn, rfl, hy⟩ : ∃ (y : ByteArray) (nn : Nat), e = .returned (.tuple #[.string y, .int .i64 nn]) ∧ ((nn = 9 ∧ y = ⟨#[]⟩ ∧ ¬ ticksOk A cs) ∨ (nn = 0 ∧ ticksOk A cs ∧ y = bs (prT (flatF 0 t.fs) t.cyc t.fr cs A.toNat).out)) := by
            rw [bs_data] at hcase
            rcases hcase with ⟨f, hf, h⟩ | ⟨x, ⟨t2, hu, hk, hx⟩, h⟩
            · refine ⟨_, f.1, h, .inl ?_⟩
              rcases hf with ⟨_, h1⟩ | ⟨h1, _, h2⟩
              · exact absurd ⟨t, hup.out⟩ h1
              · exact ⟨h1, rfl, h2⟩
            · have := unp_one hup.out hu
              subst this
              exact ⟨_, 0, h, .inr ⟨rfl, hk, by rw [hx]⟩⟩
          have Hy := hide hy
          clear hy hcase
          go_wp2_with fail
          go_loopw [13] (fun i wr => ∃ k : Nat, k ≤ cs.length ∧ i = .int .i64 k ∧ Below w5.heap.size w5 wr) (fun i _ => cs.length - (intOf i).toNat)
          case atStart => exact ⟨0, by omega, rfl, Below.refl _ _⟩
          case round =>
            obtain ⟨k, hk, rfl, hbk⟩ := hrel
            have x := blk_cell (blk_keep HX5.out hbk)
            have HBk := hide (HB5.out.trans (hbk.mono HB5.out.size))
            by_cases hkl : k < cs.length
            · have hkl' : (k : Int) < cs.length := by omega
              obtain ⟨lb, lo, rfl, hlb, hlr⟩ : ∃ b off, la = some ⟨b, off, none⟩ ∧ b < w.heap.size ∧ ∀ k, k < cs.length → w.cell? ⟨b, off + k, none⟩ = some (.int .i64 (cs.getD k 0)) := by
                rcases Hca.out with hc | hc
                · rw [hc] at hkl
                  simp at hkl
                · exact hc
              obtain ⟨g, rfl, hg, hgc⟩ := HC5.out k hkl
              have c1 := (hbk.cell (p := ⟨g, k, none⟩) hg).trans hgc
              have c2 := (HBk.out.cell (p := ⟨lb, lo + k, none⟩) hlb).trans (hlr k hkl)
              have Hbk := hide hbk
              clear hbk hlr hgc
              generalize cs.getD k 0 = V at *
              have hne : (V != V) = false := by simp
              go_wp2_with fail
              go_region
              all_goals
                have Hd := hide (Hbk.out.drew)
                clear x c1 c2
                go_wp2
                go_roundw
                case rel => exact ⟨k + 1, by omega, by go_num, Hd.out⟩
                case measure => simp [intOf]; omega
            · have hkl' : ¬ (k : Int) < cs.length := by omega
              have HXk := hide (blk_keep HX5.out hbk)
              have HDk := hide (blk_keep HD5.out hbk)
              have HOk := hide (owns_below HO5.out hbk)
              clear hbk
              have HTk := hide (rTicks_any A cs la lc wr (Hca.out.below HBk.out) (by omega))
              go_wp2_with fail
              refine HTk.out.mono ?_
              rintro e w6 ⟨bb, rfl, hbb, hb6⟩
              have HX6 := hide (blk_keep HXk.out hb6)
              have HD6 := hide (blk_keep HDk.out hb6)
              have HO6 := hide (owns_below HOk.out hb6)
              have HB6 := hide (HBk.out.trans (hb6.mono HBk.out.size))
              have x6 := blk_cell HX6.out
              have d6 := blk_cell HD6.out
              clear HTk hb6 x HXk HDk HOk HBk
              cases bb with
              | false =>
                have hnt : ¬ ticksOk A cs := fun h => by have := hbb.2 h; cases this
                rcases Hy.out with ⟨rfl, rfl, _⟩ | ⟨_, h, _⟩
                · have hss : ((ByteArray.mk #[]).toList == (ByteArray.mk #[]).toList) = true := by simp
                  clear hbb
                  go_wp2_with (go_at_call 15; refine (num_any 9 _).mono ?_; rintro e w' ⟨rfl, hw'⟩; replace hw' := hw'.symm; subst hw')
                  go_ret
                  exact ⟨rfl, HB6.out⟩
                · exact absurd h hnt
              | true =>
                have hok := hbb.1 rfl
                rcases Hy.out with ⟨_, _, h⟩ | ⟨rfl, _, rfl⟩
                · exact absurd hok h
                · obtain ⟨m, rfl⟩ : ∃ m : Nat, A = m := ⟨A.toNat, by have := hok.1; omega⟩
                  have hm4 : m ≤ 400 := by have := hok.2.1; omega
                  obtain ⟨f1, f2, _, _, _⟩ := Htb.out.2.2.1.frames
                  have hc1 := Htb.out.2.2.1.c1
                  have hc2 := Htb.out.2.2.1.c2
                  have hGo := goes_of_sound Htb.out.2.2.1
                  have hlen := flat_len Htb.out.2.2.1
                  have hsm := fun i hi => (job_small Htb.out.2.2.1 i hi).2.2
                  have HTr : Hid (Calls Tryz.prog 99 #[.agg #[.int .i64 t.cyc, .int .i64 t.fr, .slice sa (flatF 0 t.fs).length sc], .int .i64 m, .slice la cs.length lc] w6 fun e w' => e = .returned (.string (bs (prT (flatF 0 t.fs) t.cyc t.fr cs (m : Int).toNat).out)) ∧ Below w6.heap.size w6 w') := by
                    have e0 : (prT (flatF 0 t.fs) t.cyc t.fr cs (m : Int).toNat).out = (trcL (flatF 0 t.fs) t.cyc t.fr cs m).2 := (pr_trc hGo cs (fun u i k => pr_begun (by omega) hsm hok.2.2.2 u i k) m).2
                    rw [e0]
                    rcases HO6.out.2 with ⟨hv, h0⟩ | ⟨g, cap, cur, hv, _, hg, _⟩
                    · have hl : flatF 0 t.fs = [] := List.length_eq_zero_iff.1 h0
                      rw [hv, hl]
                      exact rTrace_nil t.cyc t.fr m cs la lc w6 hc1 hc2 f1 f2 hm4
                    · have hown := HO6.out
                      rw [hv] at hown ⊢
                      exact rTrace_any t.cyc t.fr (flatF 0 t.fs) g cap m cs la lc w6 (blk_lt hg) (rowF_own hown) (by omega) hsm hc1 hc2 f1 f2 hm4 (Hca.out.below HB6.out) hok.2.2.1 hok.2.2.2
                  generalize bs (prT (flatF 0 t.fs) t.cyc t.fr cs (m : Int).toNat).out = RR at *
                  have hss : (RR.toList == RR.toList) = true := by simp
                  clear hbb hok hGo hsm
                  go_wp2_with fail
                  refine HTr.out.mono ?_
                  rintro e w7 ⟨rfl, hb7⟩
                  have HB7 := hide (HB6.out.trans (hb7.mono HB6.out.size))
                  clear hb7 HTr x6 d6
                  go_wp2_with (go_at_call 15; refine (num_any 0 _).mono ?_; rintro e w' ⟨rfl, hw'⟩; replace hw' := hw'.symm; subst hw')
                  go_ret
                  exact ⟨rfl, HB7.out⟩
    · exact absurd ⟨t, Htb.out⟩ hno
theorem runs_one (s : ByteArray) (K A B C : Int) (la : Option Addr) (lc : Nat) (cs : List Int) (w : World) (hms : s.size ≤ 9223372036854775807) (ht : T10 w) (hca : CostsAt w la cs) (hcl : cs.length * 8 ≤ 140737488351232) :
    Calls Tryz.prog 62 #[.agg #[.int .i64 K, .int .i64 A, .int .i64 B, .int .i64 C, .string s, .slice la cs.length lc]] w fun e w' => e = .returned (.bool true) ∧ Below w.heap.size w w' := by
  by_cases h : ∃ t, TabOk s.data.toList t
  · obtain ⟨t, h⟩ := h
    exact runs_good s K A B C la lc cs w hms ht hca hcl t h
  · exact runs_bad s K A B C la lc cs w hms ht hca hcl h
end Go.Proofs.YtbdffcjganlblaaGreatDoor

namespace Go.Proofs.YtbdffcjganlblaaGreatDoor
open Go.RowKit
set_option linter.unusedVariables false
set_option linter.unusedSimpArgs false

set_option maxRecDepth 100000 in
set_option maxHeartbeats 1000000 in
theorem plays_runs (s : ByteArray) (A B C : Int) (la : Option Addr) (lc : Nat) (cs : List Int) (w : World) (hm : s.size ≤ 9223372036854775807) (ht : T10 w) (hca : CostsAt w la cs) (hcl : cs.length * 8 ≤ 140737488351232) :
    Calls Tryz.prog 29 #[.agg #[.int .i64 5, .int .i64 A, .int .i64 B, .int .i64 C, .string s, .slice la cs.length lc]] w fun e w' => e = .returned (.bool true) ∧ Below w.heap.size w w' := by
  have hB := hide (below_new w (.cells #[.int .i64 5, .int .i64 A, .int .i64 B, .int .i64 C, .string s, .slice la cs.length lc] 27))
  have HR := hide (runs_one s 5 A B C la lc cs (w.alloc (.cells #[.int .i64 5, .int .i64 A, .int .i64 B, .int .i64 C, .string s, .slice la cs.length lc] 27)) hm (ht.below hB.out) (hca.below hB.out) hcl)
  have x := blk_cell (blk_new w #[.int .i64 5, .int .i64 A, .int .i64 B, .int .i64 C, .string s, .slice la cs.length lc] 27)
  clear ht hca
  go_enter Tryz.func29, Tryz.ntmps29
  go_wp2_with fail
  refine HR.out.mono ?_
  rintro e w1 ⟨rfl, hb1⟩
  have HB1 := hide (hB.out.trans (hb1.mono (by simp)))
  clear hb1 hB HR x
  go_wp2
  go_ret
  exact ⟨rfl, HB1.out⟩

set_option maxRecDepth 100000 in
set_option maxHeartbeats 2000000 in
theorem upTo_runs (b off len cap : Nat) (w : World) (hl : len ≤ cap) (hc : cap ≤ 9223372036854775807) (hb : b < w.heap.size) (ht : T10 w) (hr : ∀ k, k < len → OpL w b off k) :
    Calls Tryz.prog 13 #[.slice (some ⟨b, off, none⟩) len cap, .int .i64 5, .int .i64 5] w fun e w' => e = .returned (.int .i64 (-1)) ∧ Below w.heap.size w w' := by
  have Hr := hide hr
  have Ht := hide ht
  clear hr ht
  go_enter Tryz.func13, Tryz.ntmps13
  go_wp2
  go_loopw [7] (fun i wr => ∃ k : Nat, k ≤ len ∧ i = .int .i64 k ∧ Below w.heap.size w wr) (fun i _ => len - (intOf i).toNat)
  case atStart => exact ⟨0, by omega, rfl, Below.refl _ _⟩
  case round =>
    obtain ⟨k, hk, rfl, hbw⟩ := hrel
    have Hb := hide hbw
    have hsz := hbw.size
    have hbw' : b < wr.heap.size := by omega
    have hex : ¬ ((k : Int) < len) ∨ ((k : Int) < len ∧ ¬ ((k : Int) < 1152921504606846976)) ∨ ((k : Int) < len ∧ (k : Int) < 1152921504606846976) := by omega
    rcases hex with hlt' | ⟨hlt', hk60⟩ | ⟨hlt', hk60⟩
    · clear hbw
      go_wp2
      go_ret
      exact ⟨rfl, Hb.out⟩
    · clear hbw
      go_wp2
      go_ret
      exact ⟨rfl, Hb.out⟩
    · obtain ⟨K, A, B, C, s, la, lc, cs, r0, r1, r2, r3, r4, r5, hs, hca, hcl⟩ := Hr.out k (by omega)
      have e : ∀ o, wr.cell? ⟨b, o, none⟩ = w.cell? ⟨b, o, none⟩ := fun o => hbw.cell (p := ⟨b, o, none⟩) hb
      rw [← e] at r0 r1 r2 r3 r4 r5
      have hB1 := hide (hbw.alloc hbw.size (.cells #[.int .i64 K, .int .i64 A, .int .i64 B, .int .i64 C, .string s, .slice la cs.length lc] 27))
      have Ht1 := hide (Ht.out.below hB1.out)
      have Hca1 := hide (hca.below hB1.out)
      clear e hbw hca
      have hcs : K = 5 ∨ ¬ (5 ≤ K) ∨ (5 ≤ K ∧ ¬ (K ≤ 5)) := by omega
      rcases hcs with rfl | h1 | ⟨h1, h2⟩
      · go_wp2_with fail
        refine (plays_runs s A B C la lc cs _ hs Ht1.out Hca1.out hcl).mono ?_
        rintro e w1 ⟨rfl, hb1⟩
        have HB := hide (hB1.out.trans (hb1.mono (by simp; omega)))
        clear hb1 r0 r1 r2 r3 r4 r5 Hca1
        have hnot : ∀ (x : Bool) (w : World), (Op.unary .not (.bool x)).run Tryz.prog w = .ok (.bool (!x)) w := fun _ _ => rfl
        go_wp2
        go_roundw
        case rel => exact ⟨k + 1, by omega, by go_num, HB.out⟩
        case measure => simp [intOf]; omega
      · go_wp2
        go_roundw
        case rel => exact ⟨k + 1, by omega, by go_num, hB1.out⟩
        case measure => simp [intOf]; omega
      · go_wp2
        go_roundw
        case rel => exact ⟨k + 1, by omega, by go_num, hB1.out⟩
        case measure => simp [intOf]; omega

set_option maxRecDepth 100000 in
theorem runs_any (b off len cap : Nat) (w : World) (hl : len ≤ cap) (hc : cap ≤ 9223372036854775807) (hb : b < w.heap.size) (ht : T10 w) (hr : ∀ k, k < len → OpL w b off k) :
    Calls Tryz.prog 7 #[.slice (some ⟨b, off, none⟩) len cap] w fun e w' => e = .returned (.bool true) ∧ Below w.heap.size w w' := by
  have H := hide (upTo_runs b off len cap w hl hc hb ht hr)
  clear ht hr
  go_enter Tryz.func7, Tryz.ntmps7
  go_wp2_with fail
  refine H.out.mono ?_
  rintro e w1 ⟨rfl, hb1⟩
  have HB := hide hb1
  clear hb1 H
  go_wp2
  go_ret
  exact ⟨rfl, HB.out⟩

set_option maxRecDepth 100000 in
set_option maxHeartbeats 1000000 in
theorem upTo_runs_empty (a : Option Addr) (cap : Nat) (w : World) :
    Calls Tryz.prog 13 #[.slice a 0 cap, .int .i64 5, .int .i64 5] w fun e w' => e = .returned (.int .i64 (-1)) ∧ Below w.heap.size w w' := by
  go_enter Tryz.func13, Tryz.ntmps13
  go_wp2
  go_loopw [7] (fun i wr => i = .int .i64 0 ∧ Below w.heap.size w wr) (fun _ _ => 0)
  case atStart => exact ⟨rfl, Below.refl _ _⟩
  case round =>
    obtain ⟨rfl, hbw⟩ := hrel
    have Hb := hide hbw
    clear hbw
    go_wp2
    go_ret
    exact ⟨rfl, Hb.out⟩

set_option maxRecDepth 100000 in
set_option maxHeartbeats 1000000 in
theorem runs_empty (a : Option Addr) (cap : Nat) (w : World) :
    Calls Tryz.prog 7 #[.slice a 0 cap] w fun e w' => e = .returned (.bool true) ∧ Below w.heap.size w w' := by
  go_enter Tryz.func7, Tryz.ntmps7
  go_wp2_with fail
  refine (upTo_runs_empty a cap w).mono ?_
  rintro e w1 ⟨rfl, hb1⟩
  have HB := hide hb1
  clear hb1
  go_wp2
  go_ret
  exact ⟨rfl, HB.out⟩
end Go.Proofs.YtbdffcjganlblaaGreatDoor

namespace Go.Proofs.YtbdffcjganlblaaGreatDoor
open Go.ChangeShapes Go.WideShapes Go.ChangeAt Go.RowKit Go.Deep
set_option linter.unusedVariables false
set_option linter.unusedSimpArgs false

/-- The door's own heap meets the row's condition. -/
theorem door_met_runs (os : Os) (args : Array Value) : laidMetH Tryz.prog Rows.runsRow.laid ((World.doorLaid Tryz.prog 4000 os).forCall (fun _ _ => 0) ⟨#[], args, []⟩).memory :=
  laidMetH_of_parts3 (fuel := 8) (laidMet_of_run' 8 (by kernel_rfl) (by kernel_rfl)) (by kernel_rfl) (by kernel_rfl)

theorem tab_of_runs {W : World} (h : laidMetH Tryz.prog Rows.runsRow.laid W) : T10 W := by
  rw [MakeChecks.laidMetH_plain _ _ _ (by kernel_rfl)] at h
  have h3 : laidMet Tryz.prog (("internal/strconv.uint64pow10", Lib.tabData .u64 Lib.pow10Tab) :: [("strconv.ErrRange", Rows.laid_strconv_ErrRange), ("strconv.ErrSyntax", Rows.laid_strconv_ErrSyntax)]) W := h.tail.tail
  exact Lib.tabIs_of_head (g := 0) (by kernel_rfl) (by kernel_rfl) Tryz.underlying238 Tryz.underlying212 (by kernel_rfl) (by kernel_rfl) h3

set_option maxRecDepth 100000 in
theorem lifted_runs (os : Os) (started : os.Started) (H : Type) (enc : TypeId × Value → H) :
    ReturnsInHanded {} Tryz.checked os 7 .any (fun w args => (Rows.runsSpec.pre enc Tryz.prog Tryz.f7 [] false w args ∧ laidMetH Tryz.prog Rows.runsRow.laid w) ∧ sizedMet enc Tryz.prog Tryz.f7 (OpenSpec.ofChange Rows.runsSpec) false w args)
      (Rows.runsSpec.post enc Tryz.prog Tryz.f7 false true false false) := by
  refine returnsInHanded_of_change_and (C := Tryz.checked) (X := fun w _ => laidMetH Tryz.prog Rows.runsRow.laid w) (fun _ _ _ hh h => h.of_heap hh) own started (by kernel_rfl) Tryz.func7
    (ChangeSpec.witness_shaped (enc := enc) (C := Tryz.checked) (os := os) (X := fun w _ => laidMetH Tryz.prog Rows.runsRow.laid w) false (World.doorLaid Tryz.prog 4000 os) #[.slice none 0 0] 8 rfl (World.shaped_of_RefB (by kernel_rfl) (by kernel_rfl)) (by kernel_rfl) (by kernel_rfl) (by kernel_rfl) (door_met_runs os _)) ?_
  intro W base args ds gs before hval0 hW _ hsz hL _
  have hval : ∀ (j : Nat) t v, Tryz.f7.params[j]? = some t → args[j]? = some v → Value.okWide Tryz.prog W .any base t v := hval0
  have hW' := hW
  obtain ⟨p, q, hA0, hV, rfl, hfz, hnd⟩ := hW
  have hA : DataW.TrodAll enc Tryz.prog W 0 (fun _ => true) true Tryz.f7.params.toList args.toList ds p := hA0
  rw [Tryz.params7] at hA hval
  obtain ⟨v0, d0, rfl, rfl, h0⟩ := trodAll_one hA
  obtain ⟨rfl, rfl⟩ := trodVars_none hV
  have h0k := h0
  obtain ⟨fuel, hf⟩ := h0
  have hT := tab_of_runs hL
  clear hA0 hval0 hL
  simp only [List.append_nil] at hW'
  have hlt : ∀ x ∈ p, x.block < W.heap.size := fun x hx => by simpa using hW'.lt x hx
  obtain ⟨a0, len, cap, rfl⟩ := okWide_slice Tryz.underlying22 (hval 0 22 v0 rfl rfl)
  have walk : Calls Tryz.prog 7 #[.slice a0 len cap] W fun e w' => e = .returned (.bool true) ∧ Below W.heap.size W w' := by
    rcases open_slice Tryz.underlying22 hf with ⟨hcs, _⟩ | ⟨a, len', cap', m, n, D, Pl, hcs, _, hl, hm, hmm, hdd, hel⟩
    · simp [Value.cells] at hcs
      obtain ⟨rfl, rfl, rfl⟩ := hcs
      exact runs_empty none 0 W
    · simp [Value.cells] at hcs
      obtain ⟨rfl, rfl, rfl⟩ := hcs
      simp only [if_true] at hmm
      subst hmm
      by_cases h0 : len = 0
      · subst h0
        exact runs_empty _ _ W
      · obtain ⟨b, off, spot⟩ := a
        rw [cellsOp] at hel
        obtain ⟨cs0, hc0, _⟩ := hel 0 (by omega)
        obtain ⟨_, hlen0, hcell0⟩ := World.cells?_some hc0
        have c0raw := hcell0 0 (by omega)
        rw [List.getElem?_eq_getElem (by omega)] at c0raw
        have hspot : spot = none := by simpa [Addr.add] using World.cell?_spot c0raw
        subst hspot
        have hb : b < W.heap.size := by
          have h1 : ((⟨b, off, none⟩ : Addr).add (0 * 6)).add 0 = ⟨b, off, none⟩ := by simp [Addr.add]
          rw [h1] at c0raw
          exact lt_of_cell c0raw rfl
        refine runs_any b off len _ W hl (by simpa [maxLen] using hm) hb hT ?_
        intro k hk
        obtain ⟨cs, hc, ht⟩ := hel k (by omega)
        refine opL_of hc ht (fun n hn => ?_)
        obtain ⟨sp, hd0⟩ : ∃ sp, d0 = .slice ((List.range len).map D) sp := ⟨_, congrArg Prod.fst hdd⟩
        have hm2 : n ∈ DataW.weights Tryz.prog 22 d0 := by
          rw [hd0]
          simp only [DataW.weights, Tryz.underlying22]
          exact List.mem_cons_of_mem _ (List.mem_append_left _ (weights_all (List.mem_map.2 ⟨k, List.mem_range.2 hk, rfl⟩) hn))
        simpa using List.all_eq_true.1 hsz n (DataW.weights_mem_each (j := 0) (t := 22) (d := d0) rfl rfl n hm2)
  refine walk.mono fun e W' ⟨he, hb⟩ => ?_
  subst he
  exact ⟨_, rfl, ⟨_, _, _, [], _, [], hW', trodAll_mk1 (shut_bool Tryz.underlying4 true), trodAll_mk1 (Below.trod laidOut (by kernel_rfl) (of_decide_eq_true (by kernel_rfl)) h0k hb hlt), rfl, hb.frame _, fun h => by cases h⟩⟩

theorem runs_holds : Rows.RunsSaid :=
  OpenClaim.holds_of_wide 7 Tryz.f7 rfl rfl rfl rfl rfl rfl rfl ⟨rfl, rfl, rfl, rfl, rfl⟩ rfl rfl rfl rfl rfl (by kernel_rfl) Tryz.func7 (by kernel_rfl)
    (of_decide_eq_true (by kernel_rfl)) (by unfold Func.isWrapper; first | (rw [if_pos (by decide +kernel)]; kernel_rfl) | (rw [if_neg (by decide +kernel)]; exact ⟨rfl, rfl⟩))
    (fun os started H enc _ => lifted_runs os started H enc)
end Go.Proofs.YtbdffcjganlblaaGreatDoor

namespace Go.Proofs.YtbdffcjganlblaaGreatDoor
open Go
set_option linter.unusedVariables false
set_option linter.unusedSimpArgs false

theorem runs_card : Rows.RunsCardSaid :=
  Claim7.holds_tied_plain_at .later [] [.data, .data, .data, .sentinel, .sentinel] true (true, "f8202f4384898f234408c0db4087acf334feb7b99cd7a1d9d489d3e84b640a0b") true
    runs_holds (fun _ h => by cases h) (by kernel_rfl) (fun _ h => by cases h) runs_row_tie rfl ⟨rfl, rfl⟩ (by kernel_rfl) rfl
    (fun f fn hf hfn => by
      obtain rfl : f = 7 := Option.some.inj ((show Tryz.prog.funcNamed Rows.runsRow.func = some 7 by kernel_rfl).symm.trans hf) |>.symm
      obtain rfl : fn = Tryz.f7 := (Option.some.inj (Tryz.func7.symm.trans hfn)).symm
      exact ⟨by kernel_rfl, fun j t ht => by
        rw [Tryz.params7] at ht
        have hm : t ∈ [22] := by simpa using Array.mem_of_getElem? ht
        have hall : ([22].all fun u => !Tryz.prog.wantsStandIn u) = true := by kernel_rfl
        exact (show Tryz.prog.wantsStandIn t = false by simpa using List.all_eq_true.1 hall t hm)⟩)
    (by kernel_rfl)
#print axioms runs_card
end Go.Proofs.YtbdffcjganlblaaGreatDoor
