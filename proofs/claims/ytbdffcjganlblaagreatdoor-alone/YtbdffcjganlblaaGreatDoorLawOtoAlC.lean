/-
  Own work. A script's steps in memory.
-/
import Derived.Test.YtbdffcjganlblaaGreatDoorRefA
import Derived.ProofKit
import Derived.LaidMore
import Derived.OpenShut
import Derived.Stop.Joined
import Derived.Deep.Slices
import Derived.Test.YtbdffcjganlblaaGreatDoorTbM
import Derived.Test.YtbdffcjganlblaaGreatDoorRnEtoRnH
import Derived.Test.YtbdffcjganlblaaGreatDoorRunFtoPrE
import Derived.ChangeSlices
import Derived.Test.YtbdffcjganlblaaGreatDoorTbItoTbJ
import Derived.Test.YtbdffcjganlblaaGreatDoorRefT
import Derived.Test.YtbdffcjganlblaaGreatDoorRunAtoRunE
import Derived.Maps.AppendAt
namespace Go.Proofs.YtbdffcjganlblaaGreatDoor
open Go.ChangeShapes Go.WideShapes Go.ChangeAt Go.RowKit Go.Deep
set_option linter.unusedVariables false
set_option linter.unusedSimpArgs false

/-- One step of a script in memory. -/
def OpAt (w : World) (b off k : Nat) : Prop := ∃ (K A B C : Int) (s : ByteArray) (la : Option Addr) (ln lc : Nat), w.cell? ⟨b, off + k * 6, none⟩ = some (.int .i64 K) ∧ w.cell? ⟨b, off + k * 6 + 1, none⟩ = some (.int .i64 A) ∧ w.cell? ⟨b, off + k * 6 + 2, none⟩ = some (.int .i64 B) ∧
  w.cell? ⟨b, off + k * 6 + 3, none⟩ = some (.int .i64 C) ∧ w.cell? ⟨b, off + k * 6 + 4, none⟩ = some (.string s) ∧ w.cell? ⟨b, off + k * 6 + 5, none⟩ = some (.slice la ln lc) ∧ s.size ≤ 9223372036854775807

theorem own : ownKnob Tryz.prog.godebug = none := by kernel_rfl
theorem laidOut : laidOutB Tryz.prog = true := by kernel_rfl
theorem cellsOp : Tryz.prog.cellsOf 27 = 6 := by kernel_rfl
theorem cellsInt : Tryz.prog.cellsOf 3 = 1 := by kernel_rfl
theorem cellsStr : Tryz.prog.cellsOf 9 = 1 := by kernel_rfl
theorem cellsSl : Tryz.prog.cellsOf 25 = 1 := by kernel_rfl

theorem lt_of_cell {w : World} {b off : Nat} {o : Option Value} (h : w.cell? ⟨b, off, none⟩ = o) (ho : o.isSome = true) : b < w.heap.size := by
  rcases Nat.lt_or_ge b w.heap.size with h1 | h1
  · exact h1
  · rw [← h] at ho
    simp [World.cell?, Array.getElem?_eq_none h1] at ho

section
variable {H : Type} {enc : TypeId × Value → H} {w : World} {base : Nat} {spare : Nat → Bool} {held : Bool}

set_option maxRecDepth 100000 in
/-- One step of a script, opened. -/
theorem opAt_of {fuel : Nat} {cs : List Value} {x : DataW H × List MemPlace} {b off k : Nat} (hc : w.cells? base ((⟨b, off, none⟩ : Addr).add (k * 6)) 6 = some cs) (h : DataW.trod enc Tryz.prog w base spare held fuel 27 cs = some x) : OpAt w b off k := by
  obtain ⟨_, hlen, hcell⟩ := World.cells?_some hc
  obtain ⟨xs, n, _, _, _, hxl, hf⟩ := DataW.trod_struct Tryz.underlying27 h
  match cs, hlen with
  | [v0, v1, v2, v3, v4, v5], _ =>
    match xs, hxl with
    | [y0, y1, y2, y3, y4, y5], _ =>
      have g0 := hf 0 _ rfl
      have g1 := hf 1 _ rfl
      have g2 := hf 2 _ rfl
      have g3 := hf 3 _ rfl
      have g4 := hf 4 _ rfl
      have g5 := hf 5 _ rfl
      simp [cellsInt, cellsStr, cellsSl] at g0 g1 g2 g3 g4 g5
      obtain ⟨K, e0, _⟩ := DataW.trod_int Tryz.underlying3 g0
      obtain ⟨A, e1, _⟩ := DataW.trod_int Tryz.underlying3 g1
      obtain ⟨B, e2, _⟩ := DataW.trod_int Tryz.underlying3 g2
      obtain ⟨C, e3, _⟩ := DataW.trod_int Tryz.underlying3 g3
      obtain ⟨s, e4, _, hs⟩ := DataW.trod_string Tryz.underlying9 g4
      have e5 : ∃ la ln lc, v5 = .slice la ln lc := by
        rcases DataW.trod_slice Tryz.underlying25 g5 with ⟨h5, _⟩ | ⟨a, ln, lc, _, _, _, _, h5, _⟩
        · exact ⟨none, 0, 0, by simpa using h5⟩
        · exact ⟨some a, ln, lc, by simpa using h5⟩
      obtain ⟨la, ln, lc, rfl⟩ := e5
      simp at e0 e1 e2 e3 e4
      subst e0 e1 e2 e3 e4
      have cc : ∀ j v, w.cell? (((⟨b, off, none⟩ : Addr).add (k * 6)).add j) = some v → w.cell? ⟨b, off + k * 6 + j, none⟩ = some v := by
        intro j v hv
        rw [add_add] at hv
        rw [show off + k * 6 + j = off + (k * 6 + j) by omega]
        unfold Addr.add at hv
        by_cases h0 : k * 6 + j = 0
        · rw [if_pos h0] at hv
          rw [h0]
          exact hv
        · rw [if_neg h0] at hv
          exact hv
      refine ⟨K, A, B, C, s, la, ln, lc, ?_, ?_, ?_, ?_, ?_, ?_, hs⟩
      · simpa using cc 0 _ (by simpa using hcell 0 (by omega))
      · exact cc 1 _ (by simpa using hcell 1 (by omega))
      · exact cc 2 _ (by simpa using hcell 2 (by omega))
      · exact cc 3 _ (by simpa using hcell 3 (by omega))
      · exact cc 4 _ (by simpa using hcell 4 (by omega))
      · exact cc 5 _ (by simpa using hcell 5 (by omega))
end

end Go.Proofs.YtbdffcjganlblaaGreatDoor

namespace Go.Proofs.YtbdffcjganlblaaGreatDoor
open Go.RowKit
set_option linter.unusedVariables false
set_option linter.unusedSimpArgs false

/-! ### What is packed is unpacked; what is unpacked was packed -/
theorem tab_fine {l : List UInt8} {t : Tb} (h : TabOk l t) : ChkOk t := ⟨h.2.2.1, (pTab_small h.1 h.2.1).2⟩
theorem tab_one {l : List UInt8} {t t' : Tb} (h : TabOk l t) (h' : TabOk l t') : t = t' := by
  have := h.2.1
  rw [h'.2.1] at this
  exact (Option.some.inj this).symm
theorem pack_unp {t : Tb} (h : ChkOk t) : UnpOk (packB t) t := by
  refine ⟨?_, bodyB t, rfl, bTab_pack h.1, h⟩
  have := bodyB_len h.1
  unfold packB
  rw [List.length_append, show (sumL (bodyB t)).length = 4 from rfl]
  omega
theorem unp_one {l : List UInt8} {t t' : Tb} (h : UnpOk l t) (h' : UnpOk l t') : t = t' := by
  obtain ⟨_, b, e, h1, _⟩ := h
  obtain ⟨_, b', e', h1', _⟩ := h'
  have hl := congrArg List.length (e.symm.trans e')
  rw [List.length_append, List.length_append, show (sumL b).length = 4 from rfl, show (sumL b').length = 4 from rfl] at hl
  have hb : b = b' := by
    have := congrArg (List.take b.length) (e.symm.trans e')
    rw [List.take_left', List.take_append_of_le_length (by omega), show b.length = b'.length by omega, List.take_length] at this
    · exact this
    · rfl
  subst hb
  rw [h1] at h1'
  exact Option.some.inj h1'
theorem unp_tab {l : List UInt8} {t : Tb} (h : UnpOk l t) : TabOk (tbTxt t) t ∧ packB t = l := by
  obtain ⟨_, b, e, h1, h2, h3⟩ := h
  obtain ⟨f1, f2, f3, f4, f5⟩ := h2.frames
  have hc := h2.c2
  have hs := h2.small
  refine ⟨⟨tbTxt_len h2, pTab_txt t (by omega) (by omega) (fun x hx s hsx => ⟨h3 x hx s hsx, by have := (hs x hx).2 s hsx; omega, by have := (hs x hx).2 s hsx; omega⟩), h2, rfl⟩, ?_⟩
  unfold packB
  rw [bTab_inv h1, e]

set_option maxRecDepth 100000 in
theorem num_any (n : Nat) (w : World) : Calls Tryz.prog 15 #[.int .i64 n] w fun e w' => e = .returned (.int .i64 n) ∧ w' = w := by
  go_enter Tryz.func15, Tryz.ntmps15
  go_wp2
  go_ret
  exact ⟨rfl, rfl⟩

set_option maxRecDepth 100000 in
set_option maxHeartbeats 1000000 in
theorem writes_one (s : ByteArray) (w : World) (hm : s.size ≤ 9223372036854775807) (ht : T10 w) :
    Calls Tryz.prog 59 #[.string s] w fun e w' => e = .returned (.bool true) ∧ Below w.heap.size w w' := by
  have Ht := hide ht
  clear ht
  go_enter Tryz.func59, Tryz.ntmps59
  go_wp2_with fail
  refine (write_any s w hm).mono ?_
  rintro e w1 ⟨hb1, hcase⟩
  have HB1 := hide hb1
  have HT1 := hide (Ht.out.below hb1)
  clear hb1 Ht
  rcases hcase with ⟨f, ⟨hf8, hno⟩, rfl⟩ | ⟨x, ⟨t, ht, rfl⟩, rfl⟩
  · rw [hf8]
    have Hno := hide hno
    clear hno hf8
    go_wp2_with fail
    refine (rReadTable_any s w1 hm HT1.out).mono ?_
    rintro e w2 ⟨hb2, hcase⟩
    have HB2 := hide (HB1.out.trans (hb2.mono HB1.out.size))
    clear hb2 HT1
    rcases hcase with ⟨t, sv, ht, rfl, how⟩ | ⟨_, c, f, a, n, k, rfl⟩
    · exact absurd ⟨t, ht⟩ Hno.out
    · go_wp2_with (go_at_call 15; refine (num_any 8 _).mono ?_; rintro e w' ⟨rfl, rfl⟩)
      go_ret
      exact ⟨rfl, HB2.out.alloc HB2.out.size _⟩
  · have Ht := hide ht
    clear ht
    generalize hpk : packB t = pk at *
    have Hpk := hide hpk
    clear hpk
    go_wp2_with fail
    refine (rReadTable_any s w1 hm HT1.out).mono ?_
    rintro e w2 ⟨hb2, hcase⟩
    have HB2 := hide (HB1.out.trans (hb2.mono HB1.out.size))
    clear hb2 HT1 HB1
    rcases hcase with ⟨t', sv, ht', rfl, how⟩ | ⟨hno, _⟩
    · obtain ⟨sa, sc, rfl⟩ := own_slice how
      clear how ht'
      have hpl : (bs pk).size ≤ 9223372036854775807 := by
        rw [bs_size, ← Hpk.out]
        have := (pack_unp (tab_fine Ht.out)).1
        omega
      have HB3 := hide (HB2.out.alloc HB2.out.size (.cells #[.int .i64 t'.cyc, .int .i64 t'.fr, .slice sa (flatF 0 t'.fs).length sc] 39))
      have hsz3 := HB3.out.size
      generalize (flatF 0 t'.fs).length = n at *
      go_wp2_with fail
      refine (read_any (bs pk) _ hpl).mono ?_
      rintro e w4 ⟨hb4, hcase⟩
      have HB4 := hide (HB3.out.trans (hb4.mono HB3.out.size))
      clear hb4 HB3 HB2
      rw [bs_data] at hcase
      have hup : UnpOk pk t := by rw [← Hpk.out]; exact pack_unp (tab_fine Ht.out)
      rcases hcase with ⟨f, ⟨_, hno⟩, _⟩ | ⟨x, ⟨t2, h2, rfl⟩, rfl⟩
      · exact absurd ⟨t, hup⟩ hno
      · have := unp_one hup h2
        subst this
        have hxs : bs (tbTxt t) = s := by rw [Ht.out.2.2.2, bs_list]
        rw [hxs]
        have hss : (s.toList == s.toList) = true := by simp
        clear h2 hup hxs
        go_wp2_with (go_at_call 15; refine (num_any 0 _).mono ?_; rintro e w' ⟨rfl, rfl⟩)
        go_ret
        exact ⟨rfl, HB4.out⟩
    · exact absurd ⟨t, Ht.out⟩ hno

set_option maxRecDepth 100000 in
set_option maxHeartbeats 1000000 in
theorem reads_one (s : ByteArray) (w : World) (hm : s.size ≤ 9223372036854775807) (ht : T10 w) :
    Calls Tryz.prog 60 #[.string s] w fun e w' => e = .returned (.bool true) ∧ Below w.heap.size w w' := by
  have Ht := hide ht
  clear ht
  go_enter Tryz.func60, Tryz.ntmps60
  go_wp2_with fail
  refine (read_any s w hm).mono ?_
  rintro e w1 ⟨hb1, hcase⟩
  have HB1 := hide hb1
  have HT1 := hide (Ht.out.below hb1)
  clear hb1 Ht
  rcases hcase with ⟨f, ⟨hf8, _⟩, rfl⟩ | ⟨x, ⟨t, ht, rfl⟩, rfl⟩
  · rw [hf8]
    clear hf8
    go_wp2_with (go_at_call 15; refine (num_any 8 _).mono ?_; rintro e w' ⟨rfl, rfl⟩)
    go_ret
    exact ⟨rfl, HB1.out⟩
  · obtain ⟨htab, hpk⟩ := unp_tab ht
    have Htab := hide htab
    have Hpk := hide hpk
    have htl : (bs (tbTxt t)).size ≤ 800 := by rw [bs_size]; exact htab.1
    clear ht htab hpk
    generalize hTX : bs (tbTxt t) = TX at *
    have HTX : Hid (TX.data.toList = tbTxt t) := by unfold Hid; rw [← hTX, bs_data]
    clear hTX
    go_wp2_with (go_at_call 15; refine (num_any 0 _).mono ?_; rintro e w' ⟨rfl, rfl⟩)
    refine (rReadTable_any TX _ (by omega) HT1.out).mono ?_
    rintro e w2 ⟨hb2, hcase⟩
    have HB2 := hide (HB1.out.trans (hb2.mono HB1.out.size))
    clear hb2 HT1 HB1
    rcases hcase with ⟨t', sv, ht', rfl, how⟩ | ⟨hno, _⟩
    · obtain ⟨sa, sc, rfl⟩ := own_slice how
      clear how ht'
      have HB3 := hide (HB2.out.alloc HB2.out.size (.cells #[.int .i64 t'.cyc, .int .i64 t'.fr, .slice sa (flatF 0 t'.fs).length sc] 39))
      generalize (flatF 0 t'.fs).length = n at *
      go_wp2_with fail
      refine (write_any TX _ (by omega)).mono ?_
      rintro e w4 ⟨hb4, hcase⟩
      have HB4 := hide (HB3.out.trans (hb4.mono HB3.out.size))
      clear hb4 HB3 HB2
      rw [HTX.out] at hcase
      rcases hcase with ⟨f, ⟨_, hno⟩, _⟩ | ⟨x, ⟨t2, h2, rfl⟩, rfl⟩
      · exact absurd ⟨t, Htab.out⟩ hno
      · have := tab_one Htab.out h2
        subst this
        have hxs : bs (packB t) = s := by rw [Hpk.out, bs_list]
        rw [hxs]
        have hss : (s.toList == s.toList) = true := by simp
        clear h2 hxs
        go_wp2_with (go_at_call 15; refine (num_any 0 _).mono ?_; rintro e w' ⟨rfl, rfl⟩)
        go_ret
        exact ⟨rfl, HB4.out⟩
    · exact absurd ⟨t, by rw [HTX.out]; exact Htab.out⟩ hno
end Go.Proofs.YtbdffcjganlblaaGreatDoor

namespace Go.Proofs.YtbdffcjganlblaaGreatDoor
open Go.ChangeShapes Go.WideShapes Go.ChangeAt Go.RowKit Go.Deep
set_option linter.unusedVariables false
set_option linter.unusedSimpArgs false

/-! ### A step with its costs -/
def OpL (w : World) (b off k : Nat) : Prop := ∃ (K A B C : Int) (s : ByteArray) (la : Option Addr) (lc : Nat) (cs : List Int), w.cell? ⟨b, off + k * 6, none⟩ = some (.int .i64 K) ∧ w.cell? ⟨b, off + k * 6 + 1, none⟩ = some (.int .i64 A) ∧ w.cell? ⟨b, off + k * 6 + 2, none⟩ = some (.int .i64 B) ∧
  w.cell? ⟨b, off + k * 6 + 3, none⟩ = some (.int .i64 C) ∧ w.cell? ⟨b, off + k * 6 + 4, none⟩ = some (.string s) ∧ w.cell? ⟨b, off + k * 6 + 5, none⟩ = some (.slice la cs.length lc) ∧ s.size ≤ 9223372036854775807 ∧ CostsAt w la cs ∧ cs.length * 8 ≤ 140737488351232
theorem bytesInt : Tryz.prog.bytesOf 3 = 8 := by kernel_rfl
theorem weights_all {H : Type} {P : Program} {e : TypeId} {d : DataW H} {n : Nat} : ∀ {ds : List (DataW H)}, d ∈ ds → n ∈ d.weights P e → n ∈ DataW.weightsAll P e ds
  | [], h, _ => by simp at h
  | x :: r, h, hn => by
    simp only [DataW.weightsAll, List.mem_append]
    rcases List.mem_cons.1 h with rfl | h
    · exact .inl hn
    · exact .inr (weights_all h hn)

section
variable {H : Type} {enc : TypeId × Value → H} {w : World} {base : Nat} {spare : Nat → Bool} {held : Bool}
set_option maxRecDepth 100000 in
/-- One step of a script, opened. -/
theorem opL_of {fuel : Nat} {cs : List Value} {x : DataW H × List MemPlace} {b off k : Nat} (hc : w.cells? base ((⟨b, off, none⟩ : Addr).add (k * 6)) 6 = some cs) (h : DataW.trod enc Tryz.prog w base spare held fuel 27 cs = some x)
    (hz : ∀ n ∈ x.1.weights Tryz.prog 27, n ≤ reachBytes) : OpL w b off k := by
  obtain ⟨_, hlen, hcell⟩ := World.cells?_some hc
  obtain ⟨xs, n, _, hx, _, hxl, hf⟩ := DataW.trod_struct Tryz.underlying27 h
  match cs, hlen with
  | [v0, v1, v2, v3, v4, v5], _ =>
    match xs, hxl with
    | [y0, y1, y2, y3, y4, y5], _ =>
      have g0 := hf 0 _ rfl
      have g1 := hf 1 _ rfl
      have g2 := hf 2 _ rfl
      have g3 := hf 3 _ rfl
      have g4 := hf 4 _ rfl
      have g5 := hf 5 _ rfl
      simp [cellsInt, cellsStr, cellsSl] at g0 g1 g2 g3 g4 g5
      obtain ⟨K, e0, _⟩ := DataW.trod_int Tryz.underlying3 g0
      obtain ⟨A, e1, _⟩ := DataW.trod_int Tryz.underlying3 g1
      obtain ⟨B, e2, _⟩ := DataW.trod_int Tryz.underlying3 g2
      obtain ⟨C, e3, _⟩ := DataW.trod_int Tryz.underlying3 g3
      obtain ⟨s, e4, _, hs⟩ := DataW.trod_string Tryz.underlying9 g4
      obtain ⟨la, lc, cs, e5, hca, hcl⟩ : ∃ (la : Option Addr) (lc : Nat) (cs : List Int), v5 = .slice la cs.length lc ∧ CostsAt w la cs ∧ cs.length * 8 ≤ 140737488351232 := by
        rcases open_ints Tryz.underlying25 Tryz.underlying3 cellsInt g5 with ⟨hv, _⟩ | ⟨a, len, cap, zs, hv, _, hl, hm, hzl, hy5, hcells, _⟩
        · exact ⟨none, 0, [], by simpa using hv, .inl rfl, by simp⟩
        · have hle : len ≤ zs.length := by rw [hzl]; split <;> omega
          have hcl : (zs.take len).length = len := by simp; omega
          have hw : (zs.length) * 8 ≤ reachBytes := by
            apply hz
            rw [hx]
            simp only [DataW.weights, Tryz.underlying27]
            refine DataW.weights_mem_each (j := 5) (t := 25) (d := y5.1) rfl rfl _ ?_
            rw [hy5]
            simp only [DataW.weights, Tryz.underlying25, bytesInt, lits, List.length_map, List.length_take, List.length_drop]
            rw [show min len zs.length + (zs.length - len) = zs.length by omega]
            exact List.mem_cons_self
          refine ⟨some a, cap, zs.take len, by rw [hcl]; simpa using hv, ?_, by rw [hcl]; unfold reachBytes at hw; omega⟩
          by_cases h0 : len = 0
          · left
            rw [h0]
            simp
          · right
            obtain ⟨ab, ao, sp⟩ := a
            have c0 := hcells 0 (by omega)
            have hspot : sp = none := by simpa [Addr.add] using World.cell?_spot c0
            subst hspot
            have cc : ∀ j v, w.cell? ((⟨ab, ao, none⟩ : Addr).add j) = some v → w.cell? ⟨ab, ao + j, none⟩ = some v := by
              intro j v hv
              unfold Addr.add at hv
              by_cases h0 : j = 0
              · rw [if_pos h0] at hv
                rw [h0]
                exact hv
              · rw [if_neg h0] at hv
                exact hv
            refine ⟨ab, ao, rfl, lt_of_cell (cc 0 _ c0) rfl, fun i hi => ?_⟩
            rw [hcl] at hi
            have := cc i _ (hcells i (by omega))
            rw [this]
            simp [List.getD_eq_getElem?_getD, List.getElem?_take, hi]
      simp at e0 e1 e2 e3 e4
      subst e0 e1 e2 e3 e4 e5
      have cc : ∀ j v, w.cell? (((⟨b, off, none⟩ : Addr).add (k * 6)).add j) = some v → w.cell? ⟨b, off + k * 6 + j, none⟩ = some v := by
        intro j v hv
        rw [add_add] at hv
        rw [show off + k * 6 + j = off + (k * 6 + j) by omega]
        unfold Addr.add at hv
        by_cases h0 : k * 6 + j = 0
        · rw [if_pos h0] at hv
          rw [h0]
          exact hv
        · rw [if_neg h0] at hv
          exact hv
      refine ⟨K, A, B, C, s, la, lc, cs, ?_, ?_, ?_, ?_, ?_, ?_, hs, hca, hcl⟩
      · simpa using cc 0 _ (by simpa using hcell 0 (by omega))
      · exact cc 1 _ (by simpa using hcell 1 (by omega))
      · exact cc 2 _ (by simpa using hcell 2 (by omega))
      · exact cc 3 _ (by simpa using hcell 3 (by omega))
      · exact cc 4 _ (by simpa using hcell 4 (by omega))
      · exact cc 5 _ (by simpa using hcell 5 (by omega))
end

/-! ### The copy of the costs -/
def iV (l : List Int) : List Value := l.map (fun x => Value.int .i64 x)
structure CL (wa wr : World) (v : Value) (l : List Int) : Prop where
  ow : wr.ownsRow wa.heap.size 3 1 v l.length (iV l)
  b : Below wa.heap.size wa wr
theorem CL.start (wa : World) : CL wa wa (.slice none 0 0) [] := ⟨World.ownsRow_nil _ _ _ _, Below.refl _ _⟩
theorem CL.push {wa wr : World} {v v' : Value} {l : List Int} {x : Int} (h : CL wa wr v l) {o : Obj} {w2 : World} (hg : (wr.alloc o).grownBy w2 v.ownBlock) {n : Nat} {xs : List Value} (hown : w2.ownsRow wa.heap.size 3 1 v' n xs) (hn : n = l.length + 1) (hxs : xs = iV l ++ [.int .i64 x]) : CL wa w2 v' (l ++ [x]) := by
  subst hn hxs
  refine ⟨?_, ?_⟩
  · rw [show iV (l ++ [x]) = iV l ++ [.int .i64 x] by simp [iV], show (l ++ [x]).length = l.length + 1 by simp]
    exact hown
  · exact (h.b.alloc h.b.size o).grown hg (by have := h.b.size; simp; omega) (fun k hk => (h.ow.lt k hk).1)
theorem CL.keep {wa wr w' : World} {v : Value} {l : List Int} (h : CL wa wr v l) (hb : Below wr.heap.size wr w') : CL wa w' v l := ⟨owns_below h.ow hb, h.b.trans (hb.mono h.b.size)⟩
theorem CL.form {wa wr : World} {v : Value} {l : List Int} (h : CL wa wr v l) : ∃ a c, v = .slice a l.length c ∧ CostsIn wr a l ∧ ∀ k, k < l.length → ∃ g, a = some ⟨g, 0, none⟩ ∧ wr.cell? ⟨g, k, none⟩ = some (.int .i64 (l.getD k 0)) := by
  by_cases h0 : l.length = 0
  · have hl : l = [] := List.length_eq_zero_iff.1 h0
    rcases h.ow.2 with ⟨hv, _⟩ | ⟨g, cap, cur, hv, _, hg, _⟩
    · exact ⟨none, 0, by rw [hv, h0], ⟨.inl hl, fun b off e => by cases e⟩, fun k hk => by omega⟩
    · exact ⟨some ⟨g, 0, none⟩, cap, hv, ⟨.inl hl, fun b off e => by cases e; exact blk_lt hg⟩, fun k hk => by omega⟩
  · obtain ⟨g, cap, hv, _, hg⟩ := own_form h.ow (by omega)
    have hc : ∀ k, k < l.length → wr.cell? ⟨g, k, none⟩ = some (.int .i64 (l.getD k 0)) := by
      intro k hk
      have := h.ow
      rw [hv] at this
      rw [this.cellAt k (by omega)]
      simp [iV, hk, List.getD_eq_getElem?_getD]
    exact ⟨_, cap, hv, ⟨.inr ⟨g, 0, rfl, hg, fun k hk => by rw [Nat.zero_add]; exact hc k hk⟩, fun b off e => by cases e; exact hg⟩, fun k hk => ⟨g, rfl, hc k hk⟩⟩
end Go.Proofs.YtbdffcjganlblaaGreatDoor

namespace Go.Proofs.YtbdffcjganlblaaGreatDoor
open Go.RowKit
set_option linter.unusedVariables false
set_option linter.unusedSimpArgs false

theorem bare_at {l : List UInt8} {k : Nat} (hk : k < l.length) : (l[k] = 33 → bareL (l.drop k) = bareL (l.drop (k + 2))) ∧ (l[k] ≠ 33 → bareL (l.drop k) = l[k] :: bareL (l.drop (k + 1))) := by
  rw [List.drop_eq_getElem_cons hk, bareL]
  refine ⟨fun h => ?_, fun h => ?_⟩
  · rw [if_pos h, List.drop_drop]
  · rw [if_neg h]
theorem bare_over {l : List UInt8} {k : Nat} (hk : l.length ≤ k) : bareL (l.drop k) = [] := by
  rw [List.drop_eq_nil_of_le hk, bareL_nil]

set_option maxRecDepth 100000 in
set_option maxHeartbeats 1000000 in
theorem over_any (s : ByteArray) (w : World) (hs : s.size ≤ 100000) :
    Calls Tryz.prog 25 #[.string s] w fun e w' => e = .returned (.bool (decide (33 ∈ s.data.toList))) ∧ w' = w := by
  obtain ⟨bb, hbb⟩ : ∃ bb, decide (33 ∈ s.data.toList) = bb := ⟨_, rfl⟩
  rw [hbb]
  have Hbb := hide hbb
  clear hbb
  go_enter Tryz.func25, Tryz.ntmps25
  go_wp2_with fail
  go_loop [3] (fun i => ∃ (k : Nat), k ≤ s.size ∧ i = .int .i64 k ∧ Hid (∀ j, (h : j < s.data.toList.length) → j < k → s.data.toList[j] ≠ 33)) (fun i => s.size - (intOf i).toNat)
  case atStart => exact ⟨0, by omega, rfl, fun j _ h => by omega⟩
  case round =>
    obtain ⟨k, hk, rfl, hall⟩ := hrel
    by_cases hlt : k < s.size
    · have hlt' : (k : Int) < s.size := by omega
      have hll : k < s.data.toList.length := by simpa using hlt
      have he : s[k] = s.data.toList[k] := by simp [ByteArray.getElem_eq_getElem_data]
      by_cases h33 : s.data.toList[k] = 33
      · have h33' : (((s[k]).toNat : Int) == 33) = true := by rw [he, h33]; rfl
        have hb : bb = true := by
          rw [← Hbb.out, decide_eq_true_eq, ← h33]
          exact List.getElem_mem _
        subst hb
        clear h33 he
        go_wp2
        go_ret
        exact ⟨rfl, rfl⟩
      · have h33' : (((s[k]).toNat : Int) == 33) = false := by
          rw [he]
          simp only [beq_eq_false_iff_ne, ne_eq]
          intro h
          apply h33
          apply UInt8.toNat_inj.1
          show _ = 33
          omega
        have Hall2 : Hid (∀ j, (h : j < s.data.toList.length) → j < k + 1 → s.data.toList[j] ≠ 33) := fun j hj hjk => by
          rcases Nat.lt_or_ge j k with h5 | h5
          · exact hall.out j hj h5
          · have : j = k := by omega
            subst this
            exact h33
        clear h33 he
        go_wp2
        go_round
        case rel => exact ⟨k + 1, by omega, by go_num, Hall2⟩
        case measure => simp [intOf]; omega
    · have hlt' : ¬ (k : Int) < s.size := by omega
      have hb : bb = false := by
        rw [← Hbb.out, decide_eq_false_iff_not]
        intro hm
        obtain ⟨j, hj, e⟩ := List.getElem_of_mem hm
        exact hall.out j hj (by have : j < s.size := by simpa using hj
                                omega) e
      subst hb
      go_wp2
      go_ret
      exact ⟨rfl, rfl⟩

set_option maxRecDepth 100000 in
set_option maxHeartbeats 2000000 in
theorem bare_any (s : ByteArray) (w : World) (hs : s.size ≤ 100000) :
    Calls Tryz.prog 21 #[.string s] w fun e w' => e = .returned (.string (bs (bareL s.data.toList))) ∧ w' = w := by
  go_enter Tryz.func21, Tryz.ntmps21
  go_wp2_with fail
  go_loop [3, 4] (fun tv i => ∃ (k : Nat) (acc : List UInt8), k ≤ s.size + 1 ∧ i = .int .i64 k ∧ tv = .string (bs acc) ∧ acc.length ≤ k ∧ Hid (bareL s.data.toList = acc ++ bareL (s.data.toList.drop k))) (fun _ i => s.size + 1 - (intOf i).toNat)
  case atStart => exact ⟨0, [], by omega, rfl, rfl, by simp, by simp [Hid]⟩
  case round =>
    obtain ⟨k, acc, hk, rfl, rfl, hacc, hall⟩ := hrel
    by_cases hlt : k < s.size
    · have hlt' : (k : Int) < s.size := by omega
      have hll : k < s.data.toList.length := by simpa using hlt
      have he : s[k] = s.data.toList[k] := by simp [ByteArray.getElem_eq_getElem_data]
      obtain ⟨b1, b2⟩ := bare_at hll
      by_cases h33 : s.data.toList[k] = 33
      · have h33' : (((s[k]).toNat : Int) == 33) = true := by rw [he, h33]; rfl
        have Hall2 : Hid (bareL s.data.toList = acc ++ bareL (s.data.toList.drop (k + 2))) := by unfold Hid; rw [hall.out, b1 h33]
        clear h33 he b1 b2
        go_wp2
        go_round
        case rel => exact ⟨k + 2, acc, by omega, by go_num, rfl, by omega, Hall2⟩
        case measure => simp [intOf]; omega
      · have h33' : (((s[k]).toNat : Int) == 33) = false := by
          rw [he]
          simp only [beq_eq_false_iff_ne, ne_eq]
          intro h
          apply h33
          apply UInt8.toNat_inj.1
          show _ = 33
          omega
        have Hall2 : Hid (bareL s.data.toList = (acc ++ [s.data.toList[k]]) ++ bareL (s.data.toList.drop (k + 1))) := by unfold Hid; rw [hall.out, b2 h33, List.append_assoc]; rfl
        have hx1 : (s.extract k (k + 1)).size = 1 := by rw [ByteArray.size_extract]; omega
        have hx2 : (s.extract k (k + 1)).data.toList = [s.data.toList[k]] := by
          rw [ByteArray.data_extract, Array.toList_extract, List.extract_eq_take_drop, show k + 1 - k = 1 by omega, List.drop_eq_getElem_cons hll]
          rfl
        obtain ⟨X1, a1, z1, ee1⟩ := add_named2 (bs acc) (s.extract k (k + 1)) (by rw [bs_size, hx1]; omega)
        have EX : Hid (X1 = bs (acc ++ [s.data.toList[k]])) := by unfold Hid; rw [← bs_list X1, ee1, bs_data, hx2]
        clear h33 he b1 b2 hx1 hx2 ee1 z1
        go_wp2
        go_round
        case rel => exact ⟨k + 1, acc ++ [s.data.toList[k]], by omega, by go_num, by rw [EX.out], by simp; omega, Hall2⟩
        case measure => simp [intOf]; omega
    · have hlt' : ¬ (k : Int) < s.size := by omega
      have hfin : Hid (bareL s.data.toList = acc) := by
        unfold Hid
        rw [hall.out, bare_over (by simp; omega), List.append_nil]
      go_wp2
      go_ret
      exact ⟨by rw [hfin.out]; rfl, rfl⟩
end Go.Proofs.YtbdffcjganlblaaGreatDoor

namespace Go.Proofs.YtbdffcjganlblaaGreatDoor
open Go.RowKit
set_option linter.unusedVariables false
set_option linter.unusedSimpArgs false

set_option maxRecDepth 100000 in
set_option maxHeartbeats 4000000 in
theorem rCosts_any (c f : Nat) (l : List FSl) (g cap : Nat) (w : World) (hg : g < w.heap.size) (hr : RowF w g l) (hn : l.length ≤ 300) (hs : ∀ k, k < l.length → (fsk l k).small) (n : Nat) (hnl : n < cntTo l l.length) (nm : UInt8) :
    Calls Tryz.prog 24 #[.agg #[.int .i64 c, .int .i64 f, .slice (some ⟨g, 0, none⟩) l.length cap], .int .i64 n, .int .u8 nm.toNat] w fun e w' => e = .returned (.tuple #[.int .i64 (budK l n), .bool (nmK l n == nm)]) ∧ Below w.heap.size w w' := by
  obtain ⟨bb, hbb⟩ : ∃ bb, (nmK l n == nm) = bb := ⟨_, rfl⟩
  obtain ⟨bd, hbd⟩ : ∃ bd, budK l n = bd := ⟨_, rfl⟩
  rw [hbb, hbd]
  have Hbb := hide hbb
  have Hbd := hide hbd
  have Hr := hide hr
  have Hs := hide hs
  have Hsur := hide (num_surj (l := l) l.length (Nat.le_refl _) n hnl)
  have H0 := hide (TBx.start w c f (.slice (some ⟨g, 0, none⟩) l.length cap))
  clear hr hs hbb hbd
  go_enter Tryz.func24, Tryz.ntmps24
  go_wp2_with fail
  go_loopw [8] (fun i wr => ∃ q : Nat, q ≤ l.length ∧ i = .int .i64 q ∧ TBx w wr c f (.slice (some ⟨g, 0, none⟩) l.length cap) ∧ Hid (∀ k, k < q → numI l k ≠ n)) (fun i _ => l.length - (intOf i).toNat)
  case atStart => exact ⟨0, by omega, rfl, H0.out, fun k h => by omega⟩
  case round =>
    clear H0
    obtain ⟨q, hq, rfl, hT, hall⟩ := hrel
    obtain ⟨x0, x1, x2⟩ := hT.cells
    by_cases hlt : q < l.length
    · have hlt' : (q : Int) < l.length := by omega
      have HNum := hide (rnum_any c f l g cap hn Hs.out q wr hlt (by have := hT.b.size; omega) (Hr.out.below hT.b hg))
      have HT := hide hT
      clear hT
      go_wp2_with fail
      refine HNum.out.mono ?_
      rintro e w8 ⟨rfl, hb8⟩
      have HT8 := hide (HT.out.keep hb8)
      have HR8 := hide (Hr.out.below (HT.out.keep hb8).b hg)
      clear hb8 HNum HT x0 x1 x2
      by_cases hq2 : numI l q = n
      · have hq2' : ((numI l q : Int) == n) = true := by rw [hq2]; simp
        have hbq : Hid (budK l n = (spotI l q).cost) := by unfold Hid; rw [← hq2, budK_num hlt]
        have hnq : Hid (nmK l n = (fsk l q).2.nm) := by unfold Hid; rw [← hq2, nmK_num hlt]
        have hww8 : w.heap.size < w8.heap.size := blk_lt HT8.out.h
        have hwg8 : g < w8.heap.size := by omega
        obtain ⟨x0, x1, x2⟩ := HT8.out.cells
        obtain ⟨k0, k1, k2, k3⟩ := HR8.out q hlt
        have HSp := hide (fun W' hW' => rspot_kept c f l g cap w8 hwg8 HR8.out hn Hs.out q hlt W' hW')
        have HK : Hid (∀ W, Below w8.heap.size w8 W → W.cell? ⟨w.heap.size, 0, none⟩ = some (.int .i64 c) ∧ W.cell? ⟨w.heap.size, 1, none⟩ = some (.int .i64 f) ∧ W.cell? ⟨w.heap.size, 2, none⟩ = some (.slice (some ⟨g, 0, none⟩) l.length cap) ∧ W.cell? ⟨g, q * 4 + 1, none⟩ = some (.int .u8 (fsk l q).2.nm.toNat) ∧ W.cell? ⟨g, q * 4 + 2, none⟩ = some (.int .i64 (fsk l q).2.job)) := fun W hW => ⟨(hW.cell (p := ⟨w.heap.size, 0, none⟩) hww8).trans x0, (hW.cell (p := ⟨w.heap.size, 1, none⟩) hww8).trans x1, (hW.cell (p := ⟨w.heap.size, 2, none⟩) hww8).trans x2, (hW.cell (p := ⟨g, q * 4 + 1, none⟩) hwg8).trans k1, (hW.cell (p := ⟨g, q * 4 + 2, none⟩) hwg8).trans k2⟩
        have bA := hide ((Below.refl w8.heap.size w8).drew)
        have bB := hide ((below_new w8 (.cells #[.int .i64 0, .int .i64 0, .int .i64 0] 78)).drew)
        have nB : Hid ((w8.alloc (.cells #[.int .i64 0, .int .i64 0, .int .i64 0] 78)).drew.heap[w8.heap.size]? = some (.cells #[.int .i64 0, .int .i64 0, .int .i64 0] 78 (0, 0))) := blk_new w8 _ _
        have hq0 : ¬ (q : Int) < 0 := by omega
        clear k0 k3 hq2
        go_wp2_with fail
        go_cut [10] (fun v wc => ∃ Y, v = .pointer (some ⟨Y, 0, none⟩) ∧ wc.heap[Y]? = some (.cells #[.int .i64 (spotI l q).fst, .int .i64 (spotI l q).lst, .int .i64 (spotI l q).cost] 78 (0, 0)) ∧ Below w8.heap.size w8 wc)
        case first =>
          go_region_held_law (fun w' => w'.cell? ⟨w.heap.size, 0, none⟩ = some (.int .i64 c) ∧ w'.cell? ⟨w.heap.size, 1, none⟩ = some (.int .i64 f) ∧ w'.cell? ⟨w.heap.size, 2, none⟩ = some (.slice (some ⟨g, 0, none⟩) l.length cap) ∧ w'.cell? ⟨g, q * 4 + 1, none⟩ = some (.int .u8 (fsk l q).2.nm.toNat) ∧ w'.cell? ⟨g, q * 4 + 2, none⟩ = some (.int .i64 (fsk l q).2.job)) (first | exact HK.out _ bA.out | exact HK.out _ bB.out | exact HK.out _ hb9 | exact HK.out _ (hb9.alloc hb9.size _) | exact HK.out _ (below_set3 hb9 (Nat.le_refl _) _ _ _))
            (first | (go_at_call 47; refine (HSp.out _ ?hw).mono ?_; (case hw => (first | exact bA.out | exact bB.out)); rintro e w9 ⟨rfl, hb9, hc9⟩; try (have h9 := hc9 w8.heap.size _ nB.out; have c90 := blk_cell h9 0; have c91 := blk_cell h9 1; have c92 := blk_cell h9 2; have z9 := blk_frozen h9)))
          · go_wp2_with fail
            go_meet
            case rel => exact ⟨_, rfl, blk_new _ _ _, hb9.alloc hb9.size _⟩
          · go_wp2_with fail
            go_meet
            case rel => exact ⟨_, rfl, by rw [blk_set (blk_set (blk_set h9 _ _) _ _) _ _]; rfl, below_set3 hb9 (Nat.le_refl _) _ _ _⟩
        case rest =>
          obtain ⟨Y, rfl, hY, hbc⟩ := hcut
          obtain ⟨y0, y1, y2, y3, y4⟩ := HK.out wc hbc
          have z2 : wc.cell? ⟨Y, 2, none⟩ = some (.int .i64 (spotI l q).cost) := by rw [blk_cell hY]; rfl
          have HBc := hide ((HT8.out.keep hbc).b)
          clear HK HSp bA bB nB x0 x1 x2 k1 k2 HT8 HR8 hY hbc
          cases hnb : ((fsk l q).2.nm == nm) with
          | true =>
            have hnb' : (((fsk l q).2.nm.toNat : Int) == nm.toNat) = true := by
              have := eq_of_beq hnb
              rw [this]
              simp
            have e1 : bb = true := by rw [← Hbb.out, hnq.out, hnb]
            have e2 : bd = (spotI l q).cost := by rw [← Hbd.out, hbq.out]
            subst e1 e2
            go_wp2_with fail
            go_region
            all_goals
              go_wp2
              go_ret2
              exact ⟨rfl, HBc.out.drew⟩
          | false =>
            have hnb' : (((fsk l q).2.nm.toNat : Int) == nm.toNat) = false := by
              have h0 : (fsk l q).2.nm ≠ nm := by simpa using hnb
              simp only [beq_eq_false_iff_ne, ne_eq]
              intro h
              apply h0
              apply UInt8.toNat_inj.1
              omega
            have e1 : bb = false := by rw [← Hbb.out, hnq.out, hnb]
            have e2 : bd = (spotI l q).cost := by rw [← Hbd.out, hbq.out]
            subst e1 e2
            go_wp2_with fail
            go_region
            all_goals
              go_wp2
              go_ret2
              exact ⟨rfl, HBc.out.drew⟩
      · have hq2' : ((numI l q : Int) == n) = false := by simp; omega
        have hall2 : Hid (∀ k, k < q + 1 → numI l k ≠ n) := fun k hk => by
          rcases Nat.lt_or_ge k q with h5 | h5
          · exact hall.out k h5
          · have : k = q := by omega
            subst this
            exact hq2
        clear hq2
        go_wp2_with fail
        go_roundw
        case rel => exact ⟨q + 1, by omega, by go_num, HT8.out, hall2⟩
        case measure => simp [intOf]; omega
    · exfalso
      obtain ⟨i, hi, e, _⟩ := Hsur.out
      exact hall.out i (by omega) e
end Go.Proofs.YtbdffcjganlblaaGreatDoor

namespace Go.Proofs.YtbdffcjganlblaaGreatDoor
open Go.RowKit
set_option linter.unusedVariables false
set_option linter.unusedSimpArgs false

theorem hadK_start {l : List FSl} {cyc fr : Nat} (G : Goes l cyc fr) {i : Nat} (hi : i < l.length) : ∀ q, q < l.length → hadK l (numI l i) q ≤ startI l fr q
  | 0, _ => Nat.zero_le _
  | q + 1, h => by
    have ih := hadK_start G hi q (by omega)
    rw [hadK_next hi (by omega)]
    have h1 := G.next h
    unfold stopI at h1
    split <;> omega
theorem budK_cyc {l : List FSl} {cyc fr : Nat} (G : Goes l cyc fr) {k : Nat} (hk : k < cntTo l l.length) : budK l k ≤ cyc := by
  obtain ⟨i, hi, rfl, _⟩ := num_surj (l := l) l.length (Nat.le_refl _) k hk
  have hl : l.length - 1 < l.length := by omega
  have h1 := hadK_start G hi (l.length - 1) hl
  have h2 := hadK_next (q := l.length - 1) hi hl
  rw [show l.length - 1 + 1 = l.length by omega, hadK_all] at h2
  have h3 := G.fin_cyc hl
  unfold stopI at h3
  split at h2 <;> omega
/-- The costs of the jobs: what each has, and something more. -/
def costL (l : List FSl) (e : Nat → Nat) (n : Nat) : List Int := (List.range n).map (fun k => ((budK l k + e k : Nat) : Int))
theorem costL_len (l : List FSl) (e : Nat → Nat) (n : Nat) : (costL l e n).length = n := by simp [costL]
theorem costL_get (l : List FSl) (e : Nat → Nat) {n k : Nat} (h : k < n) : (costL l e n).getD k 0 = ((budK l k + e k : Nat) : Int) := by
  simp [costL, List.getD_eq_getElem?_getD, h]
theorem costL_snoc (l : List FSl) (e : Nat → Nat) (n : Nat) : costL l e (n + 1) = costL l e n ++ [((budK l n + e n : Nat) : Int)] := by
  simp [costL, List.range_succ]
theorem cost_wants {l : List FSl} (e : Nat → Nat) (c : Nat) {i : Nat} (hi : i < l.length) : wantsL (costL l e (cntTo l l.length)) (c * cntTo l l.length + numI l i) (budK l (numI l i)) = (budK l (numI l i) + e (numI l i) : Nat) := by
  have hk := numI_lt hi
  unfold wantsL
  rw [costL_len, if_neg (by omega), Nat.add_comm, Nat.add_mul_mod_self_right, Nat.mod_eq_of_lt hk, costL_get l e hk]
theorem nil_wants {l : List FSl} (c : Nat) {i : Nat} : wantsL [] (c * cntTo l l.length + numI l i) (budK l (numI l i)) = (budK l (numI l i) + (fun _ => 0) (numI l i) : Nat) := rfl
theorem bareL_same : ∀ {a : List UInt8}, 33 ∉ a → bareL a = a
  | [], _ => bareL_nil
  | c :: r, h => by
    simp at h
    rw [bareL_one (fun x => h.1 x.symm), bareL_same h.2]
section
variable {l : List FSl} {cyc fr : Nat}
theorem out_nil (G : Goes l cyc fr) (hn : ∀ i, i < l.length → (fsk l i).2.nm ≠ 33) (u : Nat) : (prT l cyc fr [] u).out = barL l cyc fr u ∧ 33 ∉ (prT l cyc fr [] u).out := by
  have h := AI.all G [] (fun _ => 0) hn (fun c i hi => nil_wants c) u
  have h2 := h.bars (fun _ => rfl)
  exact ⟨by rw [← h.bare, bareL_same h2], h2⟩
theorem out_full (G : Goes l cyc fr) (hn : ∀ i, i < l.length → (fsk l i).2.nm ≠ 33) (u : Nat) : (prT l cyc fr (costL l (fun _ => 0) (cntTo l l.length)) u).out = barL l cyc fr u := by
  have h := AI.all G (costL l (fun _ => 0) (cntTo l l.length)) (fun _ => 0) hn (fun c i hi => cost_wants (fun _ => 0) c hi) u
  rw [← h.bare, bareL_same (h.bars (fun _ => rfl))]
theorem out_more (G : Goes l cyc fr) (hn : ∀ i, i < l.length → (fsk l i).2.nm ≠ 33) (e : Nat → Nat) (u : Nat) : bareL (prT l cyc fr (costL l e (cntTo l l.length)) u).out = barL l cyc fr u :=
  (AI.all G _ e hn (fun c i hi => cost_wants _ c hi) u).bare
theorem out_mark (G : Goes l cyc fr) (hn : ∀ i, i < l.length → (fsk l i).2.nm ≠ 33) (e : Nat → Nat) {m : Nat} (hm : m < l.length) (he : 0 < e (numI l m)) {u : Nat} (hu : cyc ≤ u) : 33 ∈ (prT l cyc fr (costL l e (cntTo l l.length)) u).out :=
  marked G _ e hn (fun c i hi => cost_wants _ c hi) hm he hu
end
theorem letter_33 {c : UInt8} (h : letterB (c.toNat : Int) = true) : c ≠ 33 := by
  rintro rfl
  simp [letterB] at h

/-! ### Two lists that grow side by side -/
structure CL2 (wa wr : World) (fv : Value) (F : List Int) (mv : Value) (M : List Int) : Prop where
  ofl : wr.ownsRow wa.heap.size 3 1 fv F.length (iV F)
  omo : wr.ownsRow wa.heap.size 3 1 mv M.length (iV M)
  ap : ∀ b, fv.ownBlock = some b → mv.ownBlock ≠ some b
  b : Below wa.heap.size wa wr
theorem CL2.start (wa : World) : CL2 wa wa (.slice none 0 0) [] (.slice none 0 0) [] := ⟨World.ownsRow_nil _ _ _ _, World.ownsRow_nil _ _ _ _, fun b h => by simp [Value.ownBlock] at h, Below.refl _ _⟩
section
variable {wa wr : World} {fv mv : Value} {F M : List Int}
theorem CL2.keep (h : CL2 wa wr fv F mv M) {w' : World} (hb : Below wr.heap.size wr w') : CL2 wa w' fv F mv M := ⟨owns_below h.ofl hb, owns_below h.omo hb, h.ap, h.b.trans (hb.mono h.b.size)⟩
theorem CL2.swap (h : CL2 wa wr fv F mv M) : CL2 wa wr mv M fv F := ⟨h.omo, h.ofl, fun b h1 h2 => h.ap b h2 h1, h.b⟩
theorem CL2.push (h : CL2 wa wr fv F mv M) {x : Int} {o : Obj} {w2 : World} {v' : Value} (hg : (wr.alloc o).grownBy w2 fv.ownBlock) {n : Nat} {xs : List Value} (hown : w2.ownsRow wa.heap.size 3 1 v' n xs) (hn : n = F.length + 1) (hxs : xs = iV F ++ [.int .i64 x]) (hloc : v'.ownBlock = fv.ownBlock ∨ v'.ownBlock = some (wr.heap.size + 1)) : CL2 wa w2 v' (F ++ [x]) mv M := by
  subst hn hxs
  refine ⟨?_, ?_, ?_, ?_⟩
  · rw [show iV (F ++ [x]) = iV F ++ [.int .i64 x] by simp [iV], show (F ++ [x]).length = F.length + 1 by simp]
    exact hown
  · refine (h.omo.alloc o).kept hg ?_
    cases hb : mv.ownBlock with
    | none => exact .inl rfl
    | some b => exact .inr (fun e => h.ap b e.symm hb)
  · intro b hb hm
    rcases hloc with e | e
    · exact h.ap b (e ▸ hb) hm
    · rw [e] at hb
      injection hb with hb
      have := (h.omo.lt b hm).2
      omega
  · exact (h.b.alloc h.b.size o).grown hg (by have := h.b.size; simp; omega) (fun k hk => (h.ofl.lt k hk).1)
theorem CL2.one (h : CL2 wa wr fv F mv M) : CL wa wr fv F := ⟨h.ofl, h.b⟩
end
end Go.Proofs.YtbdffcjganlblaaGreatDoor
