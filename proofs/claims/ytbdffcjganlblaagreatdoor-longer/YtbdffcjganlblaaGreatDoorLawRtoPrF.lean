/-
  Own work. The law Runs: the costs of a step, and their copy.
-/
import Derived.Test.YtbdffcjganlblaaGreatDoorRnFtoRnH
import Derived.Test.YtbdffcjganlblaaGreatDoorRunFtoRunG
import Derived.Test.YtbdffcjganlblaaGreatDoorChAtoEdB
import Derived.ChangeSlices
import Derived.Test.YtbdffcjganlblaaGreatDoorEdDtoPnN
import Derived.Test.YtbdffcjganlblaaGreatDoorPrDtoRnD
import Derived.Test.YtbdffcjganlblaaGreatDoorTbItoTabD
import Derived.Test.YtbdffcjganlblaaGreatDoorRefRtoRefU
import Derived.Test.YtbdffcjganlblaaGreatDoorRunDtoPrA
import Derived.Maps.AppendAt
namespace Go.Proofs.YtbdffcjganlblaaGreatDoor
open Go.ChangeShapes Go.WideShapes Go.ChangeAt Go.RowKit Go.Deep
set_option linter.unusedVariables false
set_option linter.unusedSimpArgs false

/-! ### A step with its costs -/
def OpL (w : World) (b off k : Nat) : Prop := ∃ (K A B C : Int) (s : ByteArray) (la : Option Addr) (lc : Nat) (cs : List Int), w.cell? ⟨b, off + k * 6, none⟩ = some (.int .i64 K) ∧ w.cell? ⟨b, off + k * 6 + 1, none⟩ = some (.int .i64 A) ∧ w.cell? ⟨b, off + k * 6 + 2, none⟩ = some (.int .i64 B) ∧
  w.cell? ⟨b, off + k * 6 + 3, none⟩ = some (.int .i64 C) ∧ w.cell? ⟨b, off + k * 6 + 4, none⟩ = some (.string s) ∧ w.cell? ⟨b, off + k * 6 + 5, none⟩ = some (.slice la cs.length lc) ∧ s.size ≤ 9223372036854775807 ∧ CostsAt w la cs ∧ cs.length * 8 ≤ 140737488351232
theorem bytesInt : Tryz.prog.bytesOf 3 = 8 := by kernel_rfl
theorem weights_all {H : Type} {P : Program} {e : TypeId} {d : DataW H} {n : Nat} : ∀ {ds : List (DataW H)}, d ∈ ds → n ∈ d.weights P e → n ∈ DataW.weightsAll P e ds
  | [], h, _ => by simp at h
  | x :: r, h, hn => by
    simp only [DataW.weightsAll, List.mem_append]
    rcases List.mem_cons.1 h with rfl | h
    · exact .inl hn
    · exact .inr (weights_all h hn)

section
variable {H : Type} {enc : TypeId × Value → H} {w : World} {base : Nat} {spare : Nat → Bool} {held : Bool}
set_option maxRecDepth 100000 in
/-- One step of a script, opened. -/
theorem opL_of {fuel : Nat} {cs : List Value} {x : DataW H × List MemPlace} {b off k : Nat} (hc : w.cells? base ((⟨b, off, none⟩ : Addr).add (k * 6)) 6 = some cs) (h : DataW.trod enc Tryz.prog w base spare held fuel 27 cs = some x)
    (hz : ∀ n ∈ x.1.weights Tryz.prog 27, n ≤ reachBytes) : OpL w b off k := by
  obtain ⟨_, hlen, hcell⟩ := World.cells?_some hc
  obtain ⟨xs, n, _, hx, _, hxl, hf⟩ := DataW.trod_struct Tryz.underlying27 h
  match cs, hlen with
  | [v0, v1, v2, v3, v4, v5], _ =>
    match xs, hxl with
    | [y0, y1, y2, y3, y4, y5], _ =>
      have g0 := hf 0 _ rfl
      have g1 := hf 1 _ rfl
      have g2 := hf 2 _ rfl
      have g3 := hf 3 _ rfl
      have g4 := hf 4 _ rfl
      have g5 := hf 5 _ rfl
      simp [cellsInt, cellsStr, cellsSl] at g0 g1 g2 g3 g4 g5
      obtain ⟨K, e0, _⟩ := DataW.trod_int Tryz.underlying3 g0
      obtain ⟨A, e1, _⟩ := DataW.trod_int Tryz.underlying3 g1
      obtain ⟨B, e2, _⟩ := DataW.trod_int Tryz.underlying3 g2
      obtain ⟨C, e3, _⟩ := DataW.trod_int Tryz.underlying3 g3
      obtain ⟨s, e4, _, hs⟩ := DataW.trod_string Tryz.underlying9 g4
      obtain ⟨la, lc, cs, e5, hca, hcl⟩ : ∃ (la : Option Addr) (lc : Nat) (cs : List Int), v5 = .slice la cs.length lc ∧ CostsAt w la cs ∧ cs.length * 8 ≤ 140737488351232 := by
        rcases open_ints Tryz.underlying25 Tryz.underlying3 cellsInt g5 with ⟨hv, _⟩ | ⟨a, len, cap, zs, hv, _, hl, hm, hzl, hy5, hcells, _⟩
        · exact ⟨none, 0, [], by simpa using hv, .inl rfl, by simp⟩
        · have hle : len ≤ zs.length := by rw [hzl]; split <;> omega
          have hcl : (zs.take len).length = len := by simp; omega
          have hw : (zs.length) * 8 ≤ reachBytes := by
            apply hz
            rw [hx]
            simp only [DataW.weights, Tryz.underlying27]
            refine DataW.weights_mem_each (j := 5) (t := 25) (d := y5.1) rfl rfl _ ?_
            rw [hy5]
            simp only [DataW.weights, Tryz.underlying25, bytesInt, lits, List.length_map, List.length_take, List.length_drop]
            rw [show min len zs.length + (zs.length - len) = zs.length by omega]
            exact List.mem_cons_self
          refine ⟨some a, cap, zs.take len, by rw [hcl]; simpa using hv, ?_, by rw [hcl]; unfold reachBytes at hw; omega⟩
          by_cases h0 : len = 0
          · left
            rw [h0]
            simp
          · right
            obtain ⟨ab, ao, sp⟩ := a
            have c0 := hcells 0 (by omega)
            have hspot : sp = none := by simpa [Addr.add] using World.cell?_spot c0
            subst hspot
            have cc : ∀ j v, w.cell? ((⟨ab, ao, none⟩ : Addr).add j) = some v → w.cell? ⟨ab, ao + j, none⟩ = some v := by
              intro j v hv
              unfold Addr.add at hv
              by_cases h0 : j = 0
              · rw [if_pos h0] at hv
                rw [h0]
                exact hv
              · rw [if_neg h0] at hv
                exact hv
            refine ⟨ab, ao, rfl, lt_of_cell (cc 0 _ c0) rfl, fun i hi => ?_⟩
            rw [hcl] at hi
            have := cc i _ (hcells i (by omega))
            rw [this]
            simp [List.getD_eq_getElem?_getD, List.getElem?_take, hi]
      simp at e0 e1 e2 e3 e4
      subst e0 e1 e2 e3 e4 e5
      have cc : ∀ j v, w.cell? (((⟨b, off, none⟩ : Addr).add (k * 6)).add j) = some v → w.cell? ⟨b, off + k * 6 + j, none⟩ = some v := by
        intro j v hv
        rw [add_add] at hv
        rw [show off + k * 6 + j = off + (k * 6 + j) by omega]
        unfold Addr.add at hv
        by_cases h0 : k * 6 + j = 0
        · rw [if_pos h0] at hv
          rw [h0]
          exact hv
        · rw [if_neg h0] at hv
          exact hv
      refine ⟨K, A, B, C, s, la, lc, cs, ?_, ?_, ?_, ?_, ?_, ?_, hs, hca, hcl⟩
      · simpa using cc 0 _ (by simpa using hcell 0 (by omega))
      · exact cc 1 _ (by simpa using hcell 1 (by omega))
      · exact cc 2 _ (by simpa using hcell 2 (by omega))
      · exact cc 3 _ (by simpa using hcell 3 (by omega))
      · exact cc 4 _ (by simpa using hcell 4 (by omega))
      · exact cc 5 _ (by simpa using hcell 5 (by omega))
end

/-! ### The copy of the costs -/
def iV (l : List Int) : List Value := l.map (fun x => Value.int .i64 x)
structure CL (wa wr : World) (v : Value) (l : List Int) : Prop where
  ow : wr.ownsRow wa.heap.size 3 1 v l.length (iV l)
  b : Below wa.heap.size wa wr
theorem CL.start (wa : World) : CL wa wa (.slice none 0 0) [] := ⟨World.ownsRow_nil _ _ _ _, Below.refl _ _⟩
theorem CL.push {wa wr : World} {v v' : Value} {l : List Int} {x : Int} (h : CL wa wr v l) {o : Obj} {w2 : World} (hg : (wr.alloc o).grownBy w2 v.ownBlock) {n : Nat} {xs : List Value} (hown : w2.ownsRow wa.heap.size 3 1 v' n xs) (hn : n = l.length + 1) (hxs : xs = iV l ++ [.int .i64 x]) : CL wa w2 v' (l ++ [x]) := by
  subst hn hxs
  refine ⟨?_, ?_⟩
  · rw [show iV (l ++ [x]) = iV l ++ [.int .i64 x] by simp [iV], show (l ++ [x]).length = l.length + 1 by simp]
    exact hown
  · exact (h.b.alloc h.b.size o).grown hg (by have := h.b.size; simp; omega) (fun k hk => (h.ow.lt k hk).1)
theorem CL.keep {wa wr w' : World} {v : Value} {l : List Int} (h : CL wa wr v l) (hb : Below wr.heap.size wr w') : CL wa w' v l := ⟨owns_below h.ow hb, h.b.trans (hb.mono h.b.size)⟩
theorem CL.form {wa wr : World} {v : Value} {l : List Int} (h : CL wa wr v l) : ∃ a c, v = .slice a l.length c ∧ CostsIn wr a l ∧ ∀ k, k < l.length → ∃ g, a = some ⟨g, 0, none⟩ ∧ wr.cell? ⟨g, k, none⟩ = some (.int .i64 (l.getD k 0)) := by
  by_cases h0 : l.length = 0
  · have hl : l = [] := List.length_eq_zero_iff.1 h0
    rcases h.ow.2 with ⟨hv, _⟩ | ⟨g, cap, cur, hv, _, hg, _⟩
    · exact ⟨none, 0, by rw [hv, h0], ⟨.inl hl, fun b off e => by cases e⟩, fun k hk => by omega⟩
    · exact ⟨some ⟨g, 0, none⟩, cap, hv, ⟨.inl hl, fun b off e => by cases e; exact blk_lt hg⟩, fun k hk => by omega⟩
  · obtain ⟨g, cap, hv, _, hg⟩ := own_form h.ow (by omega)
    have hc : ∀ k, k < l.length → wr.cell? ⟨g, k, none⟩ = some (.int .i64 (l.getD k 0)) := by
      intro k hk
      have := h.ow
      rw [hv] at this
      rw [this.cellAt k (by omega)]
      simp [iV, hk, List.getD_eq_getElem?_getD]
    exact ⟨_, cap, hv, ⟨.inr ⟨g, 0, rfl, hg, fun k hk => by rw [Nat.zero_add]; exact hc k hk⟩, fun b off e => by cases e; exact hg⟩, fun k hk => ⟨g, rfl, hc k hk⟩⟩
end Go.Proofs.YtbdffcjganlblaaGreatDoor

namespace Go.Proofs.YtbdffcjganlblaaGreatDoor
open Go.RowKit
set_option linter.unusedVariables false
set_option linter.unusedSimpArgs false

def tbV : Tb := ⟨4, 2, [[⟨97, 0, 1⟩, ⟨98, 0, 1⟩], [⟨98, 0, 1⟩]]⟩
theorem tbV_ok : ChkOk tbV := by
  refine ⟨⟨by decide, by decide, by decide, ?_, ?_⟩, ?_⟩
  · intro f hf k hk
    have : f = [⟨97, 0, 1⟩, ⟨98, 0, 1⟩] ∨ f = [⟨98, 0, 1⟩] := by simpa [tbV] using hf
    rcases this with rfl | rfl
    · have : k = 0 ∨ k = 1 := by simp at hk; omega
      rcases this with rfl | rfl <;> simp [budS, tbV]
    · have : k = 0 := by simp at hk; omega
      subst this
      simp [budS, tbV]
  · intro k hk
    have : k = 0 ∨ k = 1 ∨ k = 2 := by simp [tbV, flatF] at hk; omega
    rcases this with rfl | rfl | rfl
    · left; rfl
    · left; rfl
    · right
      refine ⟨rfl, ?_⟩
      show (0 : Nat) ≠ 1
      decide
  · intro f hf s hs
    have : f = [⟨97, 0, 1⟩, ⟨98, 0, 1⟩] ∨ f = [⟨98, 0, 1⟩] := by simpa [tbV] using hf
    rcases this with rfl | rfl
    · have : s = ⟨97, 0, 1⟩ ∨ s = ⟨98, 0, 1⟩ := by simpa using hs
      rcases this with rfl | rfl <;> decide
    · have : s = ⟨98, 0, 1⟩ := by simpa using hs
      subst this
      decide
def tV1 : List UInt8 := [99, 121, 99, 108, 101, 32, 52, 32, 102, 114, 97, 109, 101, 32, 50, 59, 10, 97, 48, 58, 49, 44, 98, 48, 58, 49, 59, 10, 98, 48, 58, 49, 59, 10]
theorem tbV_txt : tbTxt tbV = tV1 := by decide +kernel
theorem tbV_run : (prT (flatF 0 tbV.fs) 4 2 [] 6).out = [97, 98, 98, 46, 97, 98] := by decide +kernel
def tV2 : List UInt8 := [116, 97, 115, 107, 32, 97, 32, 101, 118, 101, 114, 121, 32, 52, 32, 116, 97, 107, 101, 115, 32, 49, 32, 119, 105, 116, 104, 105, 110, 32, 52, 59, 32, 116, 97, 115, 107, 32, 98, 32, 101, 118, 101, 114, 121, 32, 56, 32, 116, 97, 107, 101, 115, 32, 51, 32, 119, 105, 116, 104, 105, 110, 32, 56, 59]
def isKn (r : Except (Nat × Nat) (List Tk × List Pr)) : Option (List (UInt8 × List Nat) × Nat) :=
  match r with
  | .error _ => none
  | .ok (ts, ps) => some (ts.map fun t => (t.nm, [t.P, t.O, t.C, t.D]), ps.length)
theorem tV2_kn : isKn (knownR tV2) = some ([(97, [4, 0, 1, 4]), (98, [8, 0, 3, 8])], 0) := by decide +kernel
theorem kn_parts {r : Except (Nat × Nat) (List Tk × List Pr)} (h : isKn r = some ([(97, [4, 0, 1, 4]), (98, [8, 0, 3, 8])], 0)) : ∃ a b, r = .ok ([a, b], []) ∧ a.nm = 97 ∧ a.P = 4 ∧ a.O = 0 ∧ a.C = 1 ∧ a.D = 4 ∧ b.nm = 98 ∧ b.P = 8 ∧ b.O = 0 ∧ b.C = 3 ∧ b.D = 8 := by
  cases r with
  | error f => simp [isKn] at h
  | ok x =>
    obtain ⟨ts, ps⟩ := x
    simp only [isKn, Option.some.injEq, Prod.mk.injEq] at h
    obtain ⟨h1, h2⟩ := h
    have hp : ps = [] := List.length_eq_zero_iff.1 h2
    subst hp
    match ts, h1 with
    | [a, b], h1 =>
      simp at h1
      obtain ⟨⟨a1, a2, a3, a4, a5⟩, b1, b2, b3, b4, b5⟩ := h1
      exact ⟨a, b, rfl, a1, a2, a3, a4, a5, b1, b2, b3, b4, b5⟩
    | [], h1 => simp at h1
    | [a], h1 => simp at h1
    | a :: b :: c :: r, h1 => simp at h1
theorem pack_len (t : Tb) : 4 ≤ (packB t).length := by
  unfold packB
  rw [List.length_append, show (sumL (bodyB t)).length = 4 from rfl]
  omega
theorem bs_ne {x : List UInt8} (h : 0 < x.length) : (bs x).toList.isEmpty = false := by
  rw [ByteArray.toList_eq, bs_data]
  cases x with
  | nil => simp at h
  | cons a r => rfl
/-- Run, where all is in order. -/
theorem run_good (pk : List UInt8) (t : Tb) (hu : UnpOk pk t) (tk : Int) (cs : List Int) (ca : Option Addr) (ccap : Nat) (w : World) (hk : ticksOk tk cs) (hca : CostsAt w ca cs) :
    Calls Tryz.prog 18 #[.string (bs pk), .int .i64 tk, .slice ca cs.length ccap] w fun e w' => e = .returned (.tuple #[.string (bs (prT (flatF 0 t.fs) t.cyc t.fr cs tk.toNat).out), .int .i64 0]) ∧ Below w.heap.size w w' := by
  have hl := hk.2.2.1
  refine (run_out (bs pk) tk cs ca ccap w (by rw [bs_size]; have := hu.1; omega) (by omega) hca).mono ?_
  rintro e w' ⟨hb, hcase⟩
  rw [bs_data] at hcase
  rcases hcase with ⟨f, hf, rfl⟩ | ⟨x, ⟨t2, h2, _, rfl⟩, rfl⟩
  · exfalso
    rcases hf with ⟨_, h⟩ | ⟨_, _, h⟩
    · exact h ⟨t, hu⟩
    · exact h hk
  · have := unp_one hu h2
    subst this
    exact ⟨rfl, hb⟩
/-- The program plans the document's example. -/
theorem tV2_wide {ts : List Tk} {ps : List Pr} (h : knownR tV2 = .ok (ts, ps)) : 0 < wideL ts ps := by
  obtain ⟨a, b, e, a1, a2, a3, a4, a5, b1, b2, b3, b4, b5⟩ := kn_parts tV2_kn
  rw [h] at e
  simp only [Except.ok.injEq, Prod.mk.injEq] at e
  obtain ⟨rfl, rfl⟩ := e
  have hc : cycI [a, b] = 8 := by
    unfold cycI
    simp only [List.length_cons, List.length_nil]
    rw [cycF, cycF, cycF]
    have t0 : (tsk [a, b] 0).P = 4 := a2
    have t1 : (tsk [a, b] (0 + 1)).P = 8 := b2
    rw [t0, t1]
    decide
  have hj : jsL [a, b] = [⟨97, 0, 0, 0, 4, 1⟩, ⟨97, 1, 0, 4, 8, 1⟩, ⟨98, 0, 1, 0, 8, 3⟩] := by
    show jobsL (cycI [a, b]) 0 [a, b] = _
    rw [hc]
    simp only [jobsL, jobsT, a1, a2, a3, a4, a5, b1, b2, b3, b4, b5]
    rfl
  show 0 < wideJ (jsL [a, b]) [] (cycI [a, b]) (cycI [a, b])
  rw [hj, hc]
  decide +kernel

set_option maxRecDepth 100000 in
set_option maxHeartbeats 4000000 in
theorem alive_any (w : World) : Calls Tryz.prog 19 #[] w fun e w' => e = .returned (.bool true) ∧ Below w.heap.size w w' := by
  have hup : Hid (UnpOk (packB tbV) tbV) := pack_unp tbV_ok
  have hto : Hid (TabOk tV1 tbV) := by
    have := (unp_tab hup.out).1
    rw [tbV_txt] at this
    exact this
  have CW : Hid (∀ (s : ByteArray) (W : World), s.data.toList = tV1 → Calls Tryz.prog 14 #[.string s] W fun e w' => e = .returned (.tuple #[.string (bs (packB tbV)), .int .i64 0]) ∧ Below W.heap.size W w') := fun s W hs => by
    refine (write_any s W (by have : s.size = 34 := by rw [← ByteArray.size_data, ← Array.length_toList, hs]; rfl
                              omega)).mono ?_
    rintro e w' ⟨hb, hcase⟩
    rw [hs] at hcase
    rcases hcase with ⟨f, ⟨_, hno⟩, _⟩ | ⟨x, ⟨t, ht, rfl⟩, rfl⟩
    · exact absurd ⟨_, hto.out⟩ hno
    · rw [tab_one ht hto.out]
      exact ⟨rfl, hb⟩
  have CR : Hid (∀ W : World, Calls Tryz.prog 18 #[.string (bs (packB tbV)), .int .i64 6, .slice none 0 0] W fun e w' => e = .returned (.tuple #[.string ⟨#[97, 98, 98, 46, 97, 98]⟩, .int .i64 0]) ∧ Below W.heap.size W w') := fun W => by
    refine (run_good (packB tbV) tbV hup.out 6 [] none 0 W ⟨by decide, by decide, by simp, fun k hk => by simp at hk⟩ (.inl rfl)).mono ?_
    rintro e w' ⟨rfl, hb⟩
    refine ⟨?_, hb⟩
    rw [show (prT (flatF 0 tbV.fs) tbV.cyc tbV.fr [] (6 : Int).toNat).out = [97, 98, 98, 46, 97, 98] from tbV_run]
    rfl
  have CC : Hid (∀ (s : ByteArray) (W : World), s.data.toList = tV2 → Calls Tryz.prog 26 #[.string s] W fun e w' => ∃ c : ByteArray, e = .returned (.tuple #[.string c, .int .i64 0, .int .i64 0]) ∧ c.toList.isEmpty = false ∧ Below W.heap.size W w') := fun s W hs => by
    refine (compile_out s W (by have : s.size = 65 := by rw [← ByteArray.size_data, ← Array.length_toList, hs]; rfl
                                omega)).mono ?_
    rintro e w' ⟨hb, hcase⟩
    rw [hs] at hcase
    rcases hcase with ⟨f, hf, _⟩ | ⟨x, ⟨ts, ps, h1, h2, h3, rfl⟩, rfl⟩
    · exfalso
      obtain ⟨a, b, e, _⟩ := kn_parts tV2_kn
      rcases hf with h1 | ⟨ts, ps, h1, h2, h3, _⟩
      · rw [h1] at e
        simp at e
      · have := tV2_wide h1
        omega
    · exact ⟨_, rfl, bs_ne (by have := pack_len (tabL ts ps); omega), hb⟩
  clear hup hto
  have hbs : ((bs (packB tbV)).toList == (bs (packB tbV)).toList) = true := by simp
  generalize bs (packB tbV) = PK at *
  go_enter Tryz.func19, Tryz.ntmps19
  go_wp2_with fail
  refine (CW.out _ _ rfl).mono ?_
  rintro e w1 ⟨rfl, hb1⟩
  have HB1 := hide hb1
  clear hb1 CW
  go_wp2_with fail
  refine (CR.out _).mono ?_
  rintro e w2 ⟨rfl, hb2⟩
  have HB2 := hide (HB1.out.trans (hb2.mono HB1.out.size))
  clear hb2 CR HB1
  go_wp2_with fail
  refine (CC.out _ _ rfl).mono ?_
  rintro e w3 ⟨c, rfl, hc, hb3⟩
  have HB3 := hide (HB2.out.trans (hb3.mono HB2.out.size))
  clear hb3 CC HB2
  have hss : ((ByteArray.mk #[97, 98, 98, 46, 97, 98]).toList == (ByteArray.mk #[97, 98, 98, 46, 97, 98]).toList) = true := by simp
  go_wp2_with (go_at_call 15; refine (num_any 0 _).mono ?_; rintro e w' ⟨rfl, hw'⟩; replace hw' := hw'.symm; subst hw')
  go_ret
  exact ⟨rfl, HB3.out⟩
end Go.Proofs.YtbdffcjganlblaaGreatDoor

namespace Go.Proofs.YtbdffcjganlblaaGreatDoor
open Go.RowKit
set_option linter.unusedVariables false
set_option linter.unusedSimpArgs false

theorem bare_at {l : List UInt8} {k : Nat} (hk : k < l.length) : (l[k] = 33 → bareL (l.drop k) = bareL (l.drop (k + 2))) ∧ (l[k] ≠ 33 → bareL (l.drop k) = l[k] :: bareL (l.drop (k + 1))) := by
  rw [List.drop_eq_getElem_cons hk, bareL]
  refine ⟨fun h => ?_, fun h => ?_⟩
  · rw [if_pos h, List.drop_drop]
  · rw [if_neg h]
theorem bare_over {l : List UInt8} {k : Nat} (hk : l.length ≤ k) : bareL (l.drop k) = [] := by
  rw [List.drop_eq_nil_of_le hk, bareL_nil]

set_option maxRecDepth 100000 in
set_option maxHeartbeats 2000000 in
theorem bare_any (s : ByteArray) (w : World) (hs : s.size ≤ 100000) :
    Calls Tryz.prog 21 #[.string s] w fun e w' => e = .returned (.string (bs (bareL s.data.toList))) ∧ w' = w := by
  go_enter Tryz.func21, Tryz.ntmps21
  go_wp2_with fail
  go_loop [3, 4] (fun tv i => ∃ (k : Nat) (acc : List UInt8), k ≤ s.size + 1 ∧ i = .int .i64 k ∧ tv = .string (bs acc) ∧ acc.length ≤ k ∧ Hid (bareL s.data.toList = acc ++ bareL (s.data.toList.drop k))) (fun _ i => s.size + 1 - (intOf i).toNat)
  case atStart => exact ⟨0, [], by omega, rfl, rfl, by simp, by simp [Hid]⟩
  case round =>
    obtain ⟨k, acc, hk, rfl, rfl, hacc, hall⟩ := hrel
    by_cases hlt : k < s.size
    · have hlt' : (k : Int) < s.size := by omega
      have hll : k < s.data.toList.length := by simpa using hlt
      have he : s[k] = s.data.toList[k] := by simp [ByteArray.getElem_eq_getElem_data]
      obtain ⟨b1, b2⟩ := bare_at hll
      by_cases h33 : s.data.toList[k] = 33
      · have h33' : (((s[k]).toNat : Int) == 33) = true := by rw [he, h33]; rfl
        have Hall2 : Hid (bareL s.data.toList = acc ++ bareL (s.data.toList.drop (k + 2))) := by unfold Hid; rw [hall.out, b1 h33]
        clear h33 he b1 b2
        go_wp2
        go_round
        case rel => exact ⟨k + 2, acc, by omega, by go_num, rfl, by omega, Hall2⟩
        case measure => simp [intOf]; omega
      · have h33' : (((s[k]).toNat : Int) == 33) = false := by
          rw [he]
          simp only [beq_eq_false_iff_ne, ne_eq]
          intro h
          apply h33
          apply UInt8.toNat_inj.1
          show _ = 33
          omega
        have Hall2 : Hid (bareL s.data.toList = (acc ++ [s.data.toList[k]]) ++ bareL (s.data.toList.drop (k + 1))) := by unfold Hid; rw [hall.out, b2 h33, List.append_assoc]; rfl
        have hx1 : (s.extract k (k + 1)).size = 1 := by rw [ByteArray.size_extract]; omega
        have hx2 : (s.extract k (k + 1)).data.toList = [s.data.toList[k]] := by
          rw [ByteArray.data_extract, Array.toList_extract, List.extract_eq_take_drop, show k + 1 - k = 1 by omega, List.drop_eq_getElem_cons hll]
          rfl
        obtain ⟨X1, a1, z1, ee1⟩ := add_named2 (bs acc) (s.extract k (k + 1)) (by rw [bs_size, hx1]; omega)
        have EX : Hid (X1 = bs (acc ++ [s.data.toList[k]])) := by unfold Hid; rw [← bs_list X1, ee1, bs_data, hx2]
        clear h33 he b1 b2 hx1 hx2 ee1 z1
        go_wp2
        go_round
        case rel => exact ⟨k + 1, acc ++ [s.data.toList[k]], by omega, by go_num, by rw [EX.out], by simp; omega, Hall2⟩
        case measure => simp [intOf]; omega
    · have hlt' : ¬ (k : Int) < s.size := by omega
      have hfin : Hid (bareL s.data.toList = acc) := by
        unfold Hid
        rw [hall.out, bare_over (by simp; omega), List.append_nil]
      go_wp2
      go_ret
      exact ⟨by rw [hfin.out]; rfl, rfl⟩
end Go.Proofs.YtbdffcjganlblaaGreatDoor

namespace Go.Proofs.YtbdffcjganlblaaGreatDoor
open Go.RowKit
set_option linter.unusedVariables false
set_option linter.unusedSimpArgs false

section
variable {l : List FSl} {cyc fr : Nat}
end
theorem letter_33 {c : UInt8} (h : letterB (c.toNat : Int) = true) : c ≠ 33 := by
  rintro rfl
  simp [letterB] at h

/-! ### Two lists that grow side by side -/
structure CL2 (wa wr : World) (fv : Value) (F : List Int) (mv : Value) (M : List Int) : Prop where
  ofl : wr.ownsRow wa.heap.size 3 1 fv F.length (iV F)
  omo : wr.ownsRow wa.heap.size 3 1 mv M.length (iV M)
  ap : ∀ b, fv.ownBlock = some b → mv.ownBlock ≠ some b
  b : Below wa.heap.size wa wr
theorem CL2.start (wa : World) : CL2 wa wa (.slice none 0 0) [] (.slice none 0 0) [] := ⟨World.ownsRow_nil _ _ _ _, World.ownsRow_nil _ _ _ _, fun b h => by simp [Value.ownBlock] at h, Below.refl _ _⟩
section
variable {wa wr : World} {fv mv : Value} {F M : List Int}
theorem CL2.keep (h : CL2 wa wr fv F mv M) {w' : World} (hb : Below wr.heap.size wr w') : CL2 wa w' fv F mv M := ⟨owns_below h.ofl hb, owns_below h.omo hb, h.ap, h.b.trans (hb.mono h.b.size)⟩
theorem CL2.swap (h : CL2 wa wr fv F mv M) : CL2 wa wr mv M fv F := ⟨h.omo, h.ofl, fun b h1 h2 => h.ap b h2 h1, h.b⟩
theorem CL2.push (h : CL2 wa wr fv F mv M) {x : Int} {o : Obj} {w2 : World} {v' : Value} (hg : (wr.alloc o).grownBy w2 fv.ownBlock) {n : Nat} {xs : List Value} (hown : w2.ownsRow wa.heap.size 3 1 v' n xs) (hn : n = F.length + 1) (hxs : xs = iV F ++ [.int .i64 x]) (hloc : v'.ownBlock = fv.ownBlock ∨ v'.ownBlock = some (wr.heap.size + 1)) : CL2 wa w2 v' (F ++ [x]) mv M := by
  subst hn hxs
  refine ⟨?_, ?_, ?_, ?_⟩
  · rw [show iV (F ++ [x]) = iV F ++ [.int .i64 x] by simp [iV], show (F ++ [x]).length = F.length + 1 by simp]
    exact hown
  · refine (h.omo.alloc o).kept hg ?_
    cases hb : mv.ownBlock with
    | none => exact .inl rfl
    | some b => exact .inr (fun e => h.ap b e.symm hb)
  · intro b hb hm
    rcases hloc with e | e
    · exact h.ap b (e ▸ hb) hm
    · rw [e] at hb
      injection hb with hb
      have := (h.omo.lt b hm).2
      omega
  · exact (h.b.alloc h.b.size o).grown hg (by have := h.b.size; simp; omega) (fun k hk => (h.ofl.lt k hk).1)
theorem CL2.one (h : CL2 wa wr fv F mv M) : CL wa wr fv F := ⟨h.ofl, h.b⟩
end
end Go.Proofs.YtbdffcjganlblaaGreatDoor

namespace Go.Proofs.YtbdffcjganlblaaGreatDoor
set_option linter.unusedVariables false
set_option linter.unusedSimpArgs false

/-! ### A longer run -/
theorem pr_longer (l : List FSl) (cyc fr : Nat) (cs : List Int) (u : Nat) : ∀ d, ∃ r, (prT l cyc fr cs (u + d)).out = (prT l cyc fr cs u).out ++ r
  | 0 => ⟨[], by simp⟩
  | d + 1 => by
    obtain ⟨r, hr⟩ := pr_longer l cyc fr cs u d
    obtain ⟨r', hr'⟩ := pr_grows l cyc fr cs (u + d)
    exact ⟨r ++ r', by rw [← Nat.add_assoc, hr', hr, List.append_assoc]⟩
/-- One tick writes one letter, whatever the costs are. -/
theorem pr_ticks {l : List FSl} {cyc fr : Nat} (hn : ∀ i, i < l.length → (fsk l i).2.nm ≠ 33) (cs : List Int) : ∀ u, Shut (prT l cyc fr cs u).out ∧ (bareL (prT l cyc fr cs u).out).length = u
  | 0 => ⟨shut_nil, by simp [prT, bareL_nil]⟩
  | u + 1 => by
    obtain ⟨h1, h2⟩ := pr_ticks hn cs u
    rw [prT]
    cases hu : unitL l fr (u % cyc) with
    | none =>
      obtain ⟨s1, s2⟩ := h1.one (show (46 : UInt8) ≠ 33 by decide)
      exact ⟨s1, by show (bareL ((prT l cyc fr cs u).out ++ [46])).length = _; rw [s2, List.length_append, h2]; rfl⟩
    | some k =>
      have hk : nmK l k ≠ 33 := by
        unfold unitL at hu
        cases hat : atL l fr (u % cyc) with
        | none => rw [hat] at hu; simp at hu
        | some i =>
          rw [hat] at hu
          have hi := (at_some hat).1
          have : k = numI l i := by simpa using hu.symm
          rw [this, nmK_num hi]
          exact hn i hi
      show Shut (prGive l k (prNow l cs k (prT l cyc fr cs u))).out ∧ (bareL (prGive l k (prNow l cs k (prT l cyc fr cs u))).out).length = _
      have ho : (prNow l cs k (prT l cyc fr cs u)).out = (prT l cyc fr cs u).out := by
        unfold prNow
        split <;> rfl
      generalize prNow l cs k (prT l cyc fr cs u) = y at *
      rw [← ho] at h1 h2
      unfold prGive
      split
      · obtain ⟨s1, s2⟩ := h1.one (show (46 : UInt8) ≠ 33 by decide)
        exact ⟨s1, by show (bareL (y.out ++ [46])).length = _; rw [s2, List.length_append, h2]; rfl⟩
      · obtain ⟨s1, s2⟩ := h1.one hk
        by_cases hm : y.left k - 1 = 0 ∧ 0 < y.want k - 1
        · rw [if_pos hm]
          obtain ⟨s3, s4⟩ := s1.mark (nmK l k)
          exact ⟨s3, by show (bareL (y.out ++ [nmK l k] ++ [33, nmK l k])).length = _; rw [s4, s2, List.length_append, h2]; rfl⟩
        · rw [if_neg hm]
          refine ⟨by show Shut (y.out ++ [nmK l k] ++ []); rw [List.append_nil]; exact s1, ?_⟩
          show (bareL (y.out ++ [nmK l k] ++ [])).length = _
          rw [List.append_nil, s2, List.length_append, h2]
          rfl
end Go.Proofs.YtbdffcjganlblaaGreatDoor
