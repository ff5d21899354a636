/-
  Own work. The law Runs: the costs of a step, and their copy.
-/
import Derived.Test.YtbdffcjganlblaaGreatDoorRnFtoRnH
import Derived.Test.YtbdffcjganlblaaGreatDoorRunFtoRunG
import Derived.Test.YtbdffcjganlblaaGreatDoorEqvBtoLawC
import Derived.ChangeSlices
import Derived.Test.YtbdffcjganlblaaGreatDoorPnNtoRunA
import Derived.Test.YtbdffcjganlblaaGreatDoorPrDtoRnD
import Derived.Test.YtbdffcjganlblaaGreatDoorTbMtoBuC
import Derived.Test.YtbdffcjganlblaaGreatDoorRefRtoRefU
namespace Go.Proofs.YtbdffcjganlblaaGreatDoor
open Go.ChangeShapes Go.WideShapes Go.ChangeAt Go.RowKit Go.Deep
set_option linter.unusedVariables false
set_option linter.unusedSimpArgs false

/-! ### A step with its costs -/
def OpL (w : World) (b off k : Nat) : Prop := ∃ (K A B C : Int) (s : ByteArray) (la : Option Addr) (lc : Nat) (cs : List Int), w.cell? ⟨b, off + k * 6, none⟩ = some (.int .i64 K) ∧ w.cell? ⟨b, off + k * 6 + 1, none⟩ = some (.int .i64 A) ∧ w.cell? ⟨b, off + k * 6 + 2, none⟩ = some (.int .i64 B) ∧
  w.cell? ⟨b, off + k * 6 + 3, none⟩ = some (.int .i64 C) ∧ w.cell? ⟨b, off + k * 6 + 4, none⟩ = some (.string s) ∧ w.cell? ⟨b, off + k * 6 + 5, none⟩ = some (.slice la cs.length lc) ∧ s.size ≤ 9223372036854775807 ∧ CostsAt w la cs ∧ cs.length * 8 ≤ 140737488351232
theorem bytesInt : Tryz.prog.bytesOf 3 = 8 := by kernel_rfl
theorem weights_all {H : Type} {P : Program} {e : TypeId} {d : DataW H} {n : Nat} : ∀ {ds : List (DataW H)}, d ∈ ds → n ∈ d.weights P e → n ∈ DataW.weightsAll P e ds
  | [], h, _ => by simp at h
  | x :: r, h, hn => by
    simp only [DataW.weightsAll, List.mem_append]
    rcases List.mem_cons.1 h with rfl | h
    · exact .inl hn
    · exact .inr (weights_all h hn)

section
variable {H : Type} {enc : TypeId × Value → H} {w : World} {base : Nat} {spare : Nat → Bool} {held : Bool}
set_option maxRecDepth 100000 in
/-- One step of a script, opened. -/
theorem opL_of {fuel : Nat} {cs : List Value} {x : DataW H × List MemPlace} {b off k : Nat} (hc : w.cells? base ((⟨b, off, none⟩ : Addr).add (k * 6)) 6 = some cs) (h : DataW.trod enc Tryz.prog w base spare held fuel 27 cs = some x)
    (hz : ∀ n ∈ x.1.weights Tryz.prog 27, n ≤ reachBytes) : OpL w b off k := by
  obtain ⟨_, hlen, hcell⟩ := World.cells?_some hc
  obtain ⟨xs, n, _, hx, _, hxl, hf⟩ := DataW.trod_struct Tryz.underlying27 h
  match cs, hlen with
  | [v0, v1, v2, v3, v4, v5], _ =>
    match xs, hxl with
    | [y0, y1, y2, y3, y4, y5], _ =>
      have g0 := hf 0 _ rfl
      have g1 := hf 1 _ rfl
      have g2 := hf 2 _ rfl
      have g3 := hf 3 _ rfl
      have g4 := hf 4 _ rfl
      have g5 := hf 5 _ rfl
      simp [cellsInt, cellsStr, cellsSl] at g0 g1 g2 g3 g4 g5
      obtain ⟨K, e0, _⟩ := DataW.trod_int Tryz.underlying3 g0
      obtain ⟨A, e1, _⟩ := DataW.trod_int Tryz.underlying3 g1
      obtain ⟨B, e2, _⟩ := DataW.trod_int Tryz.underlying3 g2
      obtain ⟨C, e3, _⟩ := DataW.trod_int Tryz.underlying3 g3
      obtain ⟨s, e4, _, hs⟩ := DataW.trod_string Tryz.underlying9 g4
      obtain ⟨la, lc, cs, e5, hca, hcl⟩ : ∃ (la : Option Addr) (lc : Nat) (cs : List Int), v5 = .slice la cs.length lc ∧ CostsAt w la cs ∧ cs.length * 8 ≤ 140737488351232 := by
        rcases open_ints Tryz.underlying25 Tryz.underlying3 cellsInt g5 with ⟨hv, _⟩ | ⟨a, len, cap, zs, hv, _, hl, hm, hzl, hy5, hcells, _⟩
        · exact ⟨none, 0, [], by simpa using hv, .inl rfl, by simp⟩
        · have hle : len ≤ zs.length := by rw [hzl]; split <;> omega
          have hcl : (zs.take len).length = len := by simp; omega
          have hw : (zs.length) * 8 ≤ reachBytes := by
            apply hz
            rw [hx]
            simp only [DataW.weights, Tryz.underlying27]
            refine DataW.weights_mem_each (j := 5) (t := 25) (d := y5.1) rfl rfl _ ?_
            rw [hy5]
            simp only [DataW.weights, Tryz.underlying25, bytesInt, lits, List.length_map, List.length_take, List.length_drop]
            rw [show min len zs.length + (zs.length - len) = zs.length by omega]
            exact List.mem_cons_self
          refine ⟨some a, cap, zs.take len, by rw [hcl]; simpa using hv, ?_, by rw [hcl]; unfold reachBytes at hw; omega⟩
          by_cases h0 : len = 0
          · left
            rw [h0]
            simp
          · right
            obtain ⟨ab, ao, sp⟩ := a
            have c0 := hcells 0 (by omega)
            have hspot : sp = none := by simpa [Addr.add] using World.cell?_spot c0
            subst hspot
            have cc : ∀ j v, w.cell? ((⟨ab, ao, none⟩ : Addr).add j) = some v → w.cell? ⟨ab, ao + j, none⟩ = some v := by
              intro j v hv
              unfold Addr.add at hv
              by_cases h0 : j = 0
              · rw [if_pos h0] at hv
                rw [h0]
                exact hv
              · rw [if_neg h0] at hv
                exact hv
            refine ⟨ab, ao, rfl, lt_of_cell (cc 0 _ c0) rfl, fun i hi => ?_⟩
            rw [hcl] at hi
            have := cc i _ (hcells i (by omega))
            rw [this]
            simp [List.getD_eq_getElem?_getD, List.getElem?_take, hi]
      simp at e0 e1 e2 e3 e4
      subst e0 e1 e2 e3 e4 e5
      have cc : ∀ j v, w.cell? (((⟨b, off, none⟩ : Addr).add (k * 6)).add j) = some v → w.cell? ⟨b, off + k * 6 + j, none⟩ = some v := by
        intro j v hv
        rw [add_add] at hv
        rw [show off + k * 6 + j = off + (k * 6 + j) by omega]
        unfold Addr.add at hv
        by_cases h0 : k * 6 + j = 0
        · rw [if_pos h0] at hv
          rw [h0]
          exact hv
        · rw [if_neg h0] at hv
          exact hv
      refine ⟨K, A, B, C, s, la, lc, cs, ?_, ?_, ?_, ?_, ?_, ?_, hs, hca, hcl⟩
      · simpa using cc 0 _ (by simpa using hcell 0 (by omega))
      · exact cc 1 _ (by simpa using hcell 1 (by omega))
      · exact cc 2 _ (by simpa using hcell 2 (by omega))
      · exact cc 3 _ (by simpa using hcell 3 (by omega))
      · exact cc 4 _ (by simpa using hcell 4 (by omega))
      · exact cc 5 _ (by simpa using hcell 5 (by omega))
end

/-! ### The copy of the costs -/
def iV (l : List Int) : List Value := l.map (fun x => Value.int .i64 x)
structure CL (wa wr : World) (v : Value) (l : List Int) : Prop where
  ow : wr.ownsRow wa.heap.size 3 1 v l.length (iV l)
  b : Below wa.heap.size wa wr
theorem CL.start (wa : World) : CL wa wa (.slice none 0 0) [] := ⟨World.ownsRow_nil _ _ _ _, Below.refl _ _⟩
theorem CL.push {wa wr : World} {v v' : Value} {l : List Int} {x : Int} (h : CL wa wr v l) {o : Obj} {w2 : World} (hg : (wr.alloc o).grownBy w2 v.ownBlock) {n : Nat} {xs : List Value} (hown : w2.ownsRow wa.heap.size 3 1 v' n xs) (hn : n = l.length + 1) (hxs : xs = iV l ++ [.int .i64 x]) : CL wa w2 v' (l ++ [x]) := by
  subst hn hxs
  refine ⟨?_, ?_⟩
  · rw [show iV (l ++ [x]) = iV l ++ [.int .i64 x] by simp [iV], show (l ++ [x]).length = l.length + 1 by simp]
    exact hown
  · exact (h.b.alloc h.b.size o).grown hg (by have := h.b.size; simp; omega) (fun k hk => (h.ow.lt k hk).1)
theorem CL.keep {wa wr w' : World} {v : Value} {l : List Int} (h : CL wa wr v l) (hb : Below wr.heap.size wr w') : CL wa w' v l := ⟨owns_below h.ow hb, h.b.trans (hb.mono h.b.size)⟩
theorem CL.form {wa wr : World} {v : Value} {l : List Int} (h : CL wa wr v l) : ∃ a c, v = .slice a l.length c ∧ CostsIn wr a l ∧ ∀ k, k < l.length → ∃ g, a = some ⟨g, 0, none⟩ ∧ wr.cell? ⟨g, k, none⟩ = some (.int .i64 (l.getD k 0)) := by
  by_cases h0 : l.length = 0
  · have hl : l = [] := List.length_eq_zero_iff.1 h0
    rcases h.ow.2 with ⟨hv, _⟩ | ⟨g, cap, cur, hv, _, hg, _⟩
    · exact ⟨none, 0, by rw [hv, h0], ⟨.inl hl, fun b off e => by cases e⟩, fun k hk => by omega⟩
    · exact ⟨some ⟨g, 0, none⟩, cap, hv, ⟨.inl hl, fun b off e => by cases e; exact blk_lt hg⟩, fun k hk => by omega⟩
  · obtain ⟨g, cap, hv, _, hg⟩ := own_form h.ow (by omega)
    have hc : ∀ k, k < l.length → wr.cell? ⟨g, k, none⟩ = some (.int .i64 (l.getD k 0)) := by
      intro k hk
      have := h.ow
      rw [hv] at this
      rw [this.cellAt k (by omega)]
      simp [iV, hk, List.getD_eq_getElem?_getD]
    exact ⟨_, cap, hv, ⟨.inr ⟨g, 0, rfl, hg, fun k hk => by rw [Nat.zero_add]; exact hc k hk⟩, fun b off e => by cases e; exact hg⟩, fun k hk => ⟨g, rfl, hc k hk⟩⟩
end Go.Proofs.YtbdffcjganlblaaGreatDoor

namespace Go.Proofs.YtbdffcjganlblaaGreatDoor
open Go.RowKit
set_option linter.unusedVariables false
set_option linter.unusedSimpArgs false

def tbV : Tb := ⟨4, 2, [[⟨97, 0, 1⟩, ⟨98, 0, 1⟩], [⟨98, 0, 1⟩]]⟩
theorem tbV_ok : ChkOk tbV := by
  refine ⟨⟨by decide, by decide, by decide, ?_, ?_⟩, ?_⟩
  · intro f hf k hk
    have : f = [⟨97, 0, 1⟩, ⟨98, 0, 1⟩] ∨ f = [⟨98, 0, 1⟩] := by simpa [tbV] using hf
    rcases this with rfl | rfl
    · have : k = 0 ∨ k = 1 := by simp at hk; omega
      rcases this with rfl | rfl <;> simp [budS, tbV]
    · have : k = 0 := by simp at hk; omega
      subst this
      simp [budS, tbV]
  · intro k hk
    have : k = 0 ∨ k = 1 ∨ k = 2 := by simp [tbV, flatF] at hk; omega
    rcases this with rfl | rfl | rfl
    · left; rfl
    · left; rfl
    · right
      refine ⟨rfl, ?_⟩
      show (0 : Nat) ≠ 1
      decide
  · intro f hf s hs
    have : f = [⟨97, 0, 1⟩, ⟨98, 0, 1⟩] ∨ f = [⟨98, 0, 1⟩] := by simpa [tbV] using hf
    rcases this with rfl | rfl
    · have : s = ⟨97, 0, 1⟩ ∨ s = ⟨98, 0, 1⟩ := by simpa using hs
      rcases this with rfl | rfl <;> decide
    · have : s = ⟨98, 0, 1⟩ := by simpa using hs
      subst this
      decide
def tV1 : List UInt8 := [99, 121, 99, 108, 101, 32, 52, 32, 102, 114, 97, 109, 101, 32, 50, 59, 10, 97, 48, 58, 49, 44, 98, 48, 58, 49, 59, 10, 98, 48, 58, 49, 59, 10]
theorem tbV_txt : tbTxt tbV = tV1 := by decide +kernel
theorem tbV_run : (prT (flatF 0 tbV.fs) 4 2 [] 6).out = [97, 98, 98, 46, 97, 98] := by decide +kernel
def tV2 : List UInt8 := [116, 97, 115, 107, 32, 97, 32, 101, 118, 101, 114, 121, 32, 52, 32, 116, 97, 107, 101, 115, 32, 49, 32, 119, 105, 116, 104, 105, 110, 32, 52, 59, 32, 116, 97, 115, 107, 32, 98, 32, 101, 118, 101, 114, 121, 32, 56, 32, 116, 97, 107, 101, 115, 32, 51, 32, 119, 105, 116, 104, 105, 110, 32, 56, 59]
def isKn (r : Except (Nat × Nat) (List Tk × List Pr)) : Option (List (UInt8 × List Nat) × Nat) :=
  match r with
  | .error _ => none
  | .ok (ts, ps) => some (ts.map fun t => (t.nm, [t.P, t.O, t.C, t.D]), ps.length)
theorem tV2_kn : isKn (knownR tV2) = some ([(97, [4, 0, 1, 4]), (98, [8, 0, 3, 8])], 0) := by decide +kernel
theorem kn_parts {r : Except (Nat × Nat) (List Tk × List Pr)} (h : isKn r = some ([(97, [4, 0, 1, 4]), (98, [8, 0, 3, 8])], 0)) : ∃ a b, r = .ok ([a, b], []) ∧ a.nm = 97 ∧ a.P = 4 ∧ a.O = 0 ∧ a.C = 1 ∧ a.D = 4 ∧ b.nm = 98 ∧ b.P = 8 ∧ b.O = 0 ∧ b.C = 3 ∧ b.D = 8 := by
  cases r with
  | error f => simp [isKn] at h
  | ok x =>
    obtain ⟨ts, ps⟩ := x
    simp only [isKn, Option.some.injEq, Prod.mk.injEq] at h
    obtain ⟨h1, h2⟩ := h
    have hp : ps = [] := List.length_eq_zero_iff.1 h2
    subst hp
    match ts, h1 with
    | [a, b], h1 =>
      simp at h1
      obtain ⟨⟨a1, a2, a3, a4, a5⟩, b1, b2, b3, b4, b5⟩ := h1
      exact ⟨a, b, rfl, a1, a2, a3, a4, a5, b1, b2, b3, b4, b5⟩
    | [], h1 => simp at h1
    | [a], h1 => simp at h1
    | a :: b :: c :: r, h1 => simp at h1
theorem pack_len (t : Tb) : 4 ≤ (packB t).length := by
  unfold packB
  rw [List.length_append, show (sumL (bodyB t)).length = 4 from rfl]
  omega
theorem bs_ne {x : List UInt8} (h : 0 < x.length) : (bs x).toList.isEmpty = false := by
  rw [ByteArray.toList_eq, bs_data]
  cases x with
  | nil => simp at h
  | cons a r => rfl
/-- Run, where all is in order. -/
theorem run_good (pk : List UInt8) (t : Tb) (hu : UnpOk pk t) (tk : Int) (cs : List Int) (ca : Option Addr) (ccap : Nat) (w : World) (hk : ticksOk tk cs) (hca : CostsAt w ca cs) :
    Calls Tryz.prog 18 #[.string (bs pk), .int .i64 tk, .slice ca cs.length ccap] w fun e w' => e = .returned (.tuple #[.string (bs (prT (flatF 0 t.fs) t.cyc t.fr cs tk.toNat).out), .int .i64 0]) ∧ Below w.heap.size w w' := by
  have hl := hk.2.2.1
  refine (run_out (bs pk) tk cs ca ccap w (by rw [bs_size]; have := hu.1; omega) (by omega) hca).mono ?_
  rintro e w' ⟨hb, hcase⟩
  rw [bs_data] at hcase
  rcases hcase with ⟨f, hf, rfl⟩ | ⟨x, ⟨t2, h2, _, rfl⟩, rfl⟩
  · exfalso
    rcases hf with ⟨_, h⟩ | ⟨_, _, h⟩
    · exact h ⟨t, hu⟩
    · exact h hk
  · have := unp_one hu h2
    subst this
    exact ⟨rfl, hb⟩
/-- The program plans the document's example. -/
theorem tV2_wide {ts : List Tk} {ps : List Pr} (h : knownR tV2 = .ok (ts, ps)) : 0 < wideL ts ps := by
  obtain ⟨a, b, e, a1, a2, a3, a4, a5, b1, b2, b3, b4, b5⟩ := kn_parts tV2_kn
  rw [h] at e
  simp only [Except.ok.injEq, Prod.mk.injEq] at e
  obtain ⟨rfl, rfl⟩ := e
  have hc : cycI [a, b] = 8 := by
    unfold cycI
    simp only [List.length_cons, List.length_nil]
    rw [cycF, cycF, cycF]
    have t0 : (tsk [a, b] 0).P = 4 := a2
    have t1 : (tsk [a, b] (0 + 1)).P = 8 := b2
    rw [t0, t1]
    decide
  have hj : jsL [a, b] = [⟨97, 0, 0, 0, 4, 1⟩, ⟨97, 1, 0, 4, 8, 1⟩, ⟨98, 0, 1, 0, 8, 3⟩] := by
    show jobsL (cycI [a, b]) 0 [a, b] = _
    rw [hc]
    simp only [jobsL, jobsT, a1, a2, a3, a4, a5, b1, b2, b3, b4, b5]
    rfl
  show 0 < wideJ (jsL [a, b]) [] (cycI [a, b]) (cycI [a, b])
  rw [hj, hc]
  decide +kernel

set_option maxRecDepth 100000 in
set_option maxHeartbeats 4000000 in
theorem alive_any (w : World) : Calls Tryz.prog 19 #[] w fun e w' => e = .returned (.bool true) ∧ Below w.heap.size w w' := by
  have hup : Hid (UnpOk (packB tbV) tbV) := pack_unp tbV_ok
  have hto : Hid (TabOk tV1 tbV) := by
    have := (unp_tab hup.out).1
    rw [tbV_txt] at this
    exact this
  have CW : Hid (∀ (s : ByteArray) (W : World), s.data.toList = tV1 → Calls Tryz.prog 14 #[.string s] W fun e w' => e = .returned (.tuple #[.string (bs (packB tbV)), .int .i64 0]) ∧ Below W.heap.size W w') := fun s W hs => by
    refine (write_any s W (by have : s.size = 34 := by rw [← ByteArray.size_data, ← Array.length_toList, hs]; rfl
                              omega)).mono ?_
    rintro e w' ⟨hb, hcase⟩
    rw [hs] at hcase
    rcases hcase with ⟨f, ⟨_, hno⟩, _⟩ | ⟨x, ⟨t, ht, rfl⟩, rfl⟩
    · exact absurd ⟨_, hto.out⟩ hno
    · rw [tab_one ht hto.out]
      exact ⟨rfl, hb⟩
  have CR : Hid (∀ W : World, Calls Tryz.prog 18 #[.string (bs (packB tbV)), .int .i64 6, .slice none 0 0] W fun e w' => e = .returned (.tuple #[.string ⟨#[97, 98, 98, 46, 97, 98]⟩, .int .i64 0]) ∧ Below W.heap.size W w') := fun W => by
    refine (run_good (packB tbV) tbV hup.out 6 [] none 0 W ⟨by decide, by decide, by simp, fun k hk => by simp at hk⟩ (.inl rfl)).mono ?_
    rintro e w' ⟨rfl, hb⟩
    refine ⟨?_, hb⟩
    rw [show (prT (flatF 0 tbV.fs) tbV.cyc tbV.fr [] (6 : Int).toNat).out = [97, 98, 98, 46, 97, 98] from tbV_run]
    rfl
  have CC : Hid (∀ (s : ByteArray) (W : World), s.data.toList = tV2 → Calls Tryz.prog 26 #[.string s] W fun e w' => ∃ c : ByteArray, e = .returned (.tuple #[.string c, .int .i64 0, .int .i64 0]) ∧ c.toList.isEmpty = false ∧ Below W.heap.size W w') := fun s W hs => by
    refine (compile_out s W (by have : s.size = 65 := by rw [← ByteArray.size_data, ← Array.length_toList, hs]; rfl
                                omega)).mono ?_
    rintro e w' ⟨hb, hcase⟩
    rw [hs] at hcase
    rcases hcase with ⟨f, hf, _⟩ | ⟨x, ⟨ts, ps, h1, h2, h3, rfl⟩, rfl⟩
    · exfalso
      obtain ⟨a, b, e, _⟩ := kn_parts tV2_kn
      rcases hf with h1 | ⟨ts, ps, h1, h2, h3, _⟩
      · rw [h1] at e
        simp at e
      · have := tV2_wide h1
        omega
    · exact ⟨_, rfl, bs_ne (by have := pack_len (tabL ts ps); omega), hb⟩
  clear hup hto
  have hbs : ((bs (packB tbV)).toList == (bs (packB tbV)).toList) = true := by simp
  generalize bs (packB tbV) = PK at *
  go_enter Tryz.func19, Tryz.ntmps19
  go_wp2_with fail
  refine (CW.out _ _ rfl).mono ?_
  rintro e w1 ⟨rfl, hb1⟩
  have HB1 := hide hb1
  clear hb1 CW
  go_wp2_with fail
  refine (CR.out _).mono ?_
  rintro e w2 ⟨rfl, hb2⟩
  have HB2 := hide (HB1.out.trans (hb2.mono HB1.out.size))
  clear hb2 CR HB1
  go_wp2_with fail
  refine (CC.out _ _ rfl).mono ?_
  rintro e w3 ⟨c, rfl, hc, hb3⟩
  have HB3 := hide (HB2.out.trans (hb3.mono HB2.out.size))
  clear hb3 CC HB2
  have hss : ((ByteArray.mk #[97, 98, 98, 46, 97, 98]).toList == (ByteArray.mk #[97, 98, 98, 46, 97, 98]).toList) = true := by simp
  go_wp2_with (go_at_call 15; refine (num_any 0 _).mono ?_; rintro e w' ⟨rfl, hw'⟩; replace hw' := hw'.symm; subst hw')
  go_ret
  exact ⟨rfl, HB3.out⟩
end Go.Proofs.YtbdffcjganlblaaGreatDoor

namespace Go.Proofs.YtbdffcjganlblaaGreatDoor
open Go.RowKit
set_option linter.unusedVariables false
set_option linter.unusedSimpArgs false

/-- A byte x in place j, turned at most within the 32 bits from p on. -/
def GoodB (l : List UInt8) (p j c : Nat) : Prop := ∀ q, q < 8 → (8 * j + q < p ∨ p + 32 ≤ 8 * j + q) → c.testBit q = (l.getD j 0).toNat.testBit q
theorem bits_xor64 {a b : Nat} (ha : a < 256) (hb : b < 256) : bits .xor .i64 (a : Int) (b : Int) = ((a ^^^ b : Nat) : Int) := by
  have hx : a ^^^ b < 256 := Nat.xor_lt_two_pow (n := 8) ha hb
  have e : bits .xor .i64 (a : Int) (b : Int) = IntKind.i64.wrap ((BitVec.ofInt 64 (a : Int) ^^^ BitVec.ofInt 64 (b : Int)).toNat : Int) := rfl
  rw [e, BitVec.ofInt_natCast, BitVec.ofInt_natCast, BitVec.toNat_xor, BitVec.toNat_ofNat, BitVec.toNat_ofNat, Nat.mod_eq_of_lt (by omega), Nat.mod_eq_of_lt (by omega), IntKind.wrap_i64]
  generalize a ^^^ b = z at *
  omega
theorem goodB_flip {l : List UInt8} {p j c b : Nat} (h : GoodB l p j c) (h1 : p ≤ 8 * j + b) (h2 : 8 * j + b < p + 32) : GoodB l p j (c ^^^ 2 ^ b) := by
  intro q hq ho
  rw [Nat.testBit_xor, Nat.testBit_two_pow]
  have hne : ¬ b = q := fun e => by omega
  simp [hne]
  exact h q hq ho

set_option maxRecDepth 100000 in
set_option maxHeartbeats 8000000 in
theorem flipped_any (l : List UInt8) (p : Nat) (mask : Int) (w : World) (hl : l.length ≤ 1000) (hp : p ≤ 10000) :
    Calls Tryz.prog 16 #[.string (bs l), .int .i64 p, .int .i64 mask] w fun e w' => (∃ d : List UInt8, e = .returned (.string (bs d)) ∧ d.length = l.length ∧ ∀ j, j < d.length → GoodB l p j (d.getD j 0).toNat) ∧ Below w.heap.size w w' := by
  have hbl : (bs l).size = l.length := bs_size l
  have HG : Hid (∀ j (h : j < (bs l).size), (bs l)[j].toNat = (l.getD j 0).toNat) := fun j h => by
    rw [bs_size] at h
    simp [bs, ByteArray.getElem_eq_getElem_data, List.getD_eq_getElem?_getD, h]
  have Hbl := hide hbl
  have hbl2 : (bs l).size ≤ 1000 := by omega
  clear hbl
  go_enter Tryz.func16, Tryz.ntmps16
  go_wp2_with fail
  go_loopw [7, 8] (fun tv iv wr => ∃ (i : Nat) (d : List UInt8), i ≤ (bs l).size ∧ iv = .int .i64 i ∧ tv = .string (bs d) ∧ d.length = i ∧ (∀ j, j < d.length → GoodB l p j (d.getD j 0).toNat) ∧ Below w.heap.size w wr) (fun _ iv _ => (bs l).size - (intOf iv).toNat)
  case atStart => exact ⟨0, [], by omega, rfl, rfl, rfl, fun j h => by simp at h, Below.refl _ _⟩
  case round =>
    obtain ⟨i, d, hi, rfl, rfl, hdl, hd, hb⟩ := hrel
    have HD := hide hd
    have HB := hide hb
    have HDl := hide hdl
    have hdl2 : d.length ≤ 1000 := by omega
    clear hd hb hdl
    by_cases hlt : i < (bs l).size
    · have hlt' : (i : Int) < (bs l).size := by omega
      have hg := HG.out i hlt
      have hc0 : (bs l)[i].toNat < 256 := UInt8.toNat_lt _
      have HG0 : Hid (GoodB l p i (bs l)[i].toNat) := fun q _ _ => by rw [hg]
      clear hg
      go_wp2_with fail
      go_loopw [9, 10] (fun cv bv wq => ∃ (b c : Nat), b ≤ 8 ∧ bv = .int .i64 b ∧ cv = .int .i64 c ∧ c < 256 ∧ GoodB l p i c ∧ wq = wr) (fun _ bv _ => 8 - (intOf bv).toNat)
      case atStart => exact ⟨0, (bs l)[i].toNat, by omega, rfl, rfl, hc0, HG0.out, rfl⟩
      case round =>
        obtain ⟨b, c, hb8, rfl, rfl, hc, hG, rfl⟩ := hrel
        have HG1 := hide hG
        clear hG
        by_cases hbl : b < 8
        · have hbl' : (b : Int) < 8 := by omega
          by_cases hin : p ≤ 8 * i + b ∧ 8 * i + b < p + 32
          · obtain ⟨h1, h2⟩ := hin
            obtain ⟨kk, hkk⟩ : ∃ kk : Nat, 8 * i + b = p + kk := ⟨8 * i + b - p, by omega⟩
            have hk1 : (0 : Int) ≤ 8 * (i : Int) + b - p := by omega
            have hk2 : 8 * (i : Int) + b - p < 32 := by omega
            have HG2 := hide (goodB_flip HG1.out h1 h2)
            rcases (show b = 0 ∨ b = 1 ∨ b = 2 ∨ b = 3 ∨ b = 4 ∨ b = 5 ∨ b = 6 ∨ b = 7 by omega) with rfl | rfl | rfl | rfl | rfl | rfl | rfl | rfl
            · have hx := bits_xor64 hc (show 1 < 256 by omega)
              have hx2 : c ^^^ 1 < 256 := Nat.xor_lt_two_pow (n := 8) hc (by omega)
              have HX := hide hx
              clear hx
              go_upto_if 44 with fail
              refine wp_cond_split rfl (fun h => ?y0) (fun h => ?n0)
              case y0 =>
                clear h
                go_wp2_with fail
                go_roundw
                case rel => exact ⟨1, c ^^^ 1, by omega, rfl, by rw [← HX.out]; rfl, hx2, HG2.out, by trivial⟩
                case measure => simp [intOf]
              case n0 =>
                clear h
                go_wp2_with fail
                go_roundw
                case rel => exact ⟨1, c, by omega, rfl, rfl, hc, HG1.out, by trivial⟩
                case measure => simp [intOf]
            · have hx := bits_xor64 hc (show 2 < 256 by omega)
              have hx2 : c ^^^ 2 < 256 := Nat.xor_lt_two_pow (n := 8) hc (by omega)
              have HX := hide hx
              clear hx
              go_upto_if 44 with fail
              refine wp_cond_split rfl (fun h => ?y1) (fun h => ?n1)
              case y1 =>
                clear h
                go_wp2_with fail
                go_roundw
                case rel => exact ⟨2, c ^^^ 2, by omega, rfl, by rw [← HX.out]; rfl, hx2, HG2.out, by trivial⟩
                case measure => simp [intOf]
              case n1 =>
                clear h
                go_wp2_with fail
                go_roundw
                case rel => exact ⟨2, c, by omega, rfl, rfl, hc, HG1.out, by trivial⟩
                case measure => simp [intOf]
            · have hx := bits_xor64 hc (show 4 < 256 by omega)
              have hx2 : c ^^^ 4 < 256 := Nat.xor_lt_two_pow (n := 8) hc (by omega)
              have HX := hide hx
              clear hx
              go_upto_if 44 with fail
              refine wp_cond_split rfl (fun h => ?y2) (fun h => ?n2)
              case y2 =>
                clear h
                go_wp2_with fail
                go_roundw
                case rel => exact ⟨3, c ^^^ 4, by omega, rfl, by rw [← HX.out]; rfl, hx2, HG2.out, by trivial⟩
                case measure => simp [intOf]
              case n2 =>
                clear h
                go_wp2_with fail
                go_roundw
                case rel => exact ⟨3, c, by omega, rfl, rfl, hc, HG1.out, by trivial⟩
                case measure => simp [intOf]
            · have hx := bits_xor64 hc (show 8 < 256 by omega)
              have hx2 : c ^^^ 8 < 256 := Nat.xor_lt_two_pow (n := 8) hc (by omega)
              have HX := hide hx
              clear hx
              go_upto_if 44 with fail
              refine wp_cond_split rfl (fun h => ?y3) (fun h => ?n3)
              case y3 =>
                clear h
                go_wp2_with fail
                go_roundw
                case rel => exact ⟨4, c ^^^ 8, by omega, rfl, by rw [← HX.out]; rfl, hx2, HG2.out, by trivial⟩
                case measure => simp [intOf]
              case n3 =>
                clear h
                go_wp2_with fail
                go_roundw
                case rel => exact ⟨4, c, by omega, rfl, rfl, hc, HG1.out, by trivial⟩
                case measure => simp [intOf]
            · have hx := bits_xor64 hc (show 16 < 256 by omega)
              have hx2 : c ^^^ 16 < 256 := Nat.xor_lt_two_pow (n := 8) hc (by omega)
              have HX := hide hx
              clear hx
              go_upto_if 44 with fail
              refine wp_cond_split rfl (fun h => ?y4) (fun h => ?n4)
              case y4 =>
                clear h
                go_wp2_with fail
                go_roundw
                case rel => exact ⟨5, c ^^^ 16, by omega, rfl, by rw [← HX.out]; rfl, hx2, HG2.out, by trivial⟩
                case measure => simp [intOf]
              case n4 =>
                clear h
                go_wp2_with fail
                go_roundw
                case rel => exact ⟨5, c, by omega, rfl, rfl, hc, HG1.out, by trivial⟩
                case measure => simp [intOf]
            · have hx := bits_xor64 hc (show 32 < 256 by omega)
              have hx2 : c ^^^ 32 < 256 := Nat.xor_lt_two_pow (n := 8) hc (by omega)
              have HX := hide hx
              clear hx
              go_upto_if 44 with fail
              refine wp_cond_split rfl (fun h => ?y5) (fun h => ?n5)
              case y5 =>
                clear h
                go_wp2_with fail
                go_roundw
                case rel => exact ⟨6, c ^^^ 32, by omega, rfl, by rw [← HX.out]; rfl, hx2, HG2.out, by trivial⟩
                case measure => simp [intOf]
              case n5 =>
                clear h
                go_wp2_with fail
                go_roundw
                case rel => exact ⟨6, c, by omega, rfl, rfl, hc, HG1.out, by trivial⟩
                case measure => simp [intOf]
            · have hx := bits_xor64 hc (show 64 < 256 by omega)
              have hx2 : c ^^^ 64 < 256 := Nat.xor_lt_two_pow (n := 8) hc (by omega)
              have HX := hide hx
              clear hx
              go_upto_if 44 with fail
              refine wp_cond_split rfl (fun h => ?y6) (fun h => ?n6)
              case y6 =>
                clear h
                go_wp2_with fail
                go_roundw
                case rel => exact ⟨7, c ^^^ 64, by omega, rfl, by rw [← HX.out]; rfl, hx2, HG2.out, by trivial⟩
                case measure => simp [intOf]
              case n6 =>
                clear h
                go_wp2_with fail
                go_roundw
                case rel => exact ⟨7, c, by omega, rfl, rfl, hc, HG1.out, by trivial⟩
                case measure => simp [intOf]
            · have hx := bits_xor64 hc (show 128 < 256 by omega)
              have hx2 : c ^^^ 128 < 256 := Nat.xor_lt_two_pow (n := 8) hc (by omega)
              have HX := hide hx
              clear hx
              go_upto_if 44 with fail
              refine wp_cond_split rfl (fun h => ?y7) (fun h => ?n7)
              case y7 =>
                clear h
                go_wp2_with fail
                go_roundw
                case rel => exact ⟨8, c ^^^ 128, by omega, rfl, by rw [← HX.out]; rfl, hx2, HG2.out, by trivial⟩
                case measure => simp [intOf]
              case n7 =>
                clear h
                go_wp2_with fail
                go_roundw
                case rel => exact ⟨8, c, by omega, rfl, rfl, hc, HG1.out, by trivial⟩
                case measure => simp [intOf]
          · have hcs : 8 * (i : Int) + b - p < 0 ∨ (0 ≤ 8 * (i : Int) + b - p ∧ ¬ 8 * (i : Int) + b - p < 32) := by omega
            rcases hcs with hk | ⟨hk1, hk2⟩
            · have hk' : ¬ 0 ≤ 8 * (i : Int) + b - p := by omega
              go_wp2_with fail
              go_roundw
              case rel => exact ⟨b + 1, c, by omega, by go_num, rfl, hc, HG1.out, by trivial⟩
              case measure => simp [intOf]; omega
            · go_wp2_with fail
              go_roundw
              case rel => exact ⟨b + 1, c, by omega, by go_num, rfl, hc, HG1.out, by trivial⟩
              case measure => simp [intOf]; omega
        · have hbl' : ¬ (b : Int) < 8 := by omega
          obtain ⟨X1, a1, z1, ee1⟩ := add_named2 (bs d) ⟨#[UInt8.ofNat c]⟩ (by rw [bs_size, show (ByteArray.size ⟨#[UInt8.ofNat c]⟩) = 1 from rfl]; omega)
          have EX : Hid (X1 = bs (d ++ [UInt8.ofNat c])) := by unfold Hid; rw [← bs_list X1, ee1, bs_data]
          have hcv := bytes1 (UInt8.ofNat c)
          rw [u8_back c hc] at hcv
          have hu8 : IntKind.u8.wrap (c : Int) = c := by rw [IntKind.wrap_u8]; omega
          have HD2 : Hid (∀ j, j < (d ++ [UInt8.ofNat c]).length → GoodB l p j ((d ++ [UInt8.ofNat c]).getD j 0).toNat) := fun j hj => by
            rw [List.length_append] at hj
            simp at hj
            rw [List.getD_eq_getElem?_getD]
            by_cases e : j < d.length
            · rw [List.getElem?_append_left e, ← List.getD_eq_getElem?_getD]
              exact HD.out j e
            · have ej : j = d.length := by omega
              subst ej
              rw [List.getElem?_append_right (Nat.le_refl _), Nat.sub_self]
              show GoodB l p d.length (UInt8.ofNat c).toNat
              rw [u8_back c hc, HDl.out]
              exact HG1.out
          have HB2 : Hid (∀ o : Obj, Below w.heap.size w (wr.alloc o)) := fun o => HB.out.alloc HB.out.size o
          clear z1 ee1
          go_wp2_with fail

          go_roundw
          case rel => exact ⟨i + 1, d ++ [UInt8.ofNat c], by omega, by go_num, by rw [EX.out], by simp [HDl.out], HD2.out, HB2.out _⟩
          case measure => simp [intOf]; omega
    · have hlt' : ¬ (i : Int) < (bs l).size := by omega
      go_wp2_with fail
      go_ret
      exact ⟨⟨d, rfl, by rw [HDl.out]; have := Hbl.out; omega, HD.out⟩, HB.out⟩
end Go.Proofs.YtbdffcjganlblaaGreatDoor
