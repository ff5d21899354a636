/-
  Own work. The laws Writes and Reads: one text, some bytes.
-/
import Derived.Test.YtbdffcjganlblaaGreatDoorMTbMtoRnH
import Derived.Test.YtbdffcjganlblaaGreatDoorMRunFtoLawO
import Derived.ChangeSlices
import Derived.Test.YtbdffcjganlblaaGreatDoorMPrCtoTbB
import Derived.Test.YtbdffcjganlblaaGreatDoorMTbItoTbJ
import Derived.Test.YtbdffcjganlblaaGreatDoorMRefRtoProgA
import Derived.Test.YtbdffcjganlblaaGreatDoorMTbCtoPrE
import Derived.Test.YtbdffcjganlblaaGreatDoorMRunAtoRunD
import Derived.Maps.AppendAt
import Derived.Test.YtbdffcjganlblaaGreatDoorMRunEtoEdG
namespace Go.Proofs.YtbdffcjganlblaaGreatDoor
open Go.RowKit
set_option linter.unusedVariables false
set_option linter.unusedSimpArgs false

/-! ### What is packed is unpacked; what is unpacked was packed -/
theorem tab_one {l : List UInt8} {t t' : Tb} (h : TabOk l t) (h' : TabOk l t') : t = t' := by
  have := h.2.1
  rw [h'.2.1] at this
  exact (Option.some.inj this).symm
theorem pack_unp {t : Tb} (h : ChkOk t) : UnpOk (packB t) t := by
  refine ⟨?_, bodyB t, rfl, bTab_pack h.1, h⟩
  have := bodyB_len h.1
  unfold packB
  rw [List.length_append, show (sumL (bodyB t)).length = 4 from rfl]
  omega
theorem unp_one {l : List UInt8} {t t' : Tb} (h : UnpOk l t) (h' : UnpOk l t') : t = t' := by
  obtain ⟨_, b, e, h1, _⟩ := h
  obtain ⟨_, b', e', h1', _⟩ := h'
  have hl := congrArg List.length (e.symm.trans e')
  rw [List.length_append, List.length_append, show (sumL b).length = 4 from rfl, show (sumL b').length = 4 from rfl] at hl
  have hb : b = b' := by
    have := congrArg (List.take b.length) (e.symm.trans e')
    rw [List.take_left', List.take_append_of_le_length (by omega), show b.length = b'.length by omega, List.take_length] at this
    · exact this
    · rfl
  subst hb
  rw [h1] at h1'
  exact Option.some.inj h1'
theorem unp_tab {l : List UInt8} {t : Tb} (h : UnpOk l t) : TabOk (tbTxt t) t ∧ packB t = l := by
  obtain ⟨_, b, e, h1, h2, h3⟩ := h
  obtain ⟨f1, f2, f3, f4, f5⟩ := h2.frames
  have hc := h2.c2
  have hs := h2.small
  refine ⟨⟨tbTxt_len h2, pTab_txt t (by omega) (by omega) (fun x hx s hsx => ⟨h3 x hx s hsx, by have := (hs x hx).2 s hsx; omega, by have := (hs x hx).2 s hsx; omega⟩), h2, rfl⟩, ?_⟩
  unfold packB
  rw [bTab_inv h1, e]

set_option maxRecDepth 100000 in
theorem num_any (n : Nat) (w : World) : Calls Tryz.prog 15 #[.int .i64 n] w fun e w' => e = .returned (.int .i64 n) ∧ w' = w := by
  go_enter Tryz.func15, Tryz.ntmps15
  go_wp2
  go_ret
  exact ⟨rfl, rfl⟩

end Go.Proofs.YtbdffcjganlblaaGreatDoor

namespace Go.Proofs.YtbdffcjganlblaaGreatDoor
open Go.ChangeShapes Go.WideShapes Go.ChangeAt Go.RowKit Go.Deep
set_option linter.unusedVariables false
set_option linter.unusedSimpArgs false

/-! ### A step with its costs -/
def OpL (w : World) (b off k : Nat) : Prop := ∃ (K A B C : Int) (s : ByteArray) (la : Option Addr) (lc : Nat) (cs : List Int), w.cell? ⟨b, off + k * 6, none⟩ = some (.int .i64 K) ∧ w.cell? ⟨b, off + k * 6 + 1, none⟩ = some (.int .i64 A) ∧ w.cell? ⟨b, off + k * 6 + 2, none⟩ = some (.int .i64 B) ∧
  w.cell? ⟨b, off + k * 6 + 3, none⟩ = some (.int .i64 C) ∧ w.cell? ⟨b, off + k * 6 + 4, none⟩ = some (.string s) ∧ w.cell? ⟨b, off + k * 6 + 5, none⟩ = some (.slice la cs.length lc) ∧ s.size ≤ 9223372036854775807 ∧ CostsAt w la cs ∧ cs.length * 8 ≤ 140737488351232
theorem bytesInt : Tryz.prog.bytesOf 3 = 8 := by kernel_rfl
theorem weights_all {H : Type} {P : Program} {e : TypeId} {d : DataW H} {n : Nat} : ∀ {ds : List (DataW H)}, d ∈ ds → n ∈ d.weights P e → n ∈ DataW.weightsAll P e ds
  | [], h, _ => by simp at h
  | x :: r, h, hn => by
    simp only [DataW.weightsAll, List.mem_append]
    rcases List.mem_cons.1 h with rfl | h
    · exact .inl hn
    · exact .inr (weights_all h hn)

section
variable {H : Type} {enc : TypeId × Value → H} {w : World} {base : Nat} {spare : Nat → Bool} {held : Bool}
set_option maxRecDepth 100000 in
/-- One step of a script, opened. -/
theorem opL_of {fuel : Nat} {cs : List Value} {x : DataW H × List MemPlace} {b off k : Nat} (hc : w.cells? base ((⟨b, off, none⟩ : Addr).add (k * 6)) 6 = some cs) (h : DataW.trod enc Tryz.prog w base spare held fuel 27 cs = some x)
    (hz : ∀ n ∈ x.1.weights Tryz.prog 27, n ≤ reachBytes) : OpL w b off k := by
  obtain ⟨_, hlen, hcell⟩ := World.cells?_some hc
  obtain ⟨xs, n, _, hx, _, hxl, hf⟩ := DataW.trod_struct Tryz.underlying27 h
  match cs, hlen with
  | [v0, v1, v2, v3, v4, v5], _ =>
    match xs, hxl with
    | [y0, y1, y2, y3, y4, y5], _ =>
      have g0 := hf 0 _ rfl
      have g1 := hf 1 _ rfl
      have g2 := hf 2 _ rfl
      have g3 := hf 3 _ rfl
      have g4 := hf 4 _ rfl
      have g5 := hf 5 _ rfl
      simp [cellsInt, cellsStr, cellsSl] at g0 g1 g2 g3 g4 g5
      obtain ⟨K, e0, _⟩ := DataW.trod_int Tryz.underlying3 g0
      obtain ⟨A, e1, _⟩ := DataW.trod_int Tryz.underlying3 g1
      obtain ⟨B, e2, _⟩ := DataW.trod_int Tryz.underlying3 g2
      obtain ⟨C, e3, _⟩ := DataW.trod_int Tryz.underlying3 g3
      obtain ⟨s, e4, _, hs⟩ := DataW.trod_string Tryz.underlying9 g4
      obtain ⟨la, lc, cs, e5, hca, hcl⟩ : ∃ (la : Option Addr) (lc : Nat) (cs : List Int), v5 = .slice la cs.length lc ∧ CostsAt w la cs ∧ cs.length * 8 ≤ 140737488351232 := by
        rcases open_ints Tryz.underlying25 Tryz.underlying3 cellsInt g5 with ⟨hv, _⟩ | ⟨a, len, cap, zs, hv, _, hl, hm, hzl, hy5, hcells, _⟩
        · exact ⟨none, 0, [], by simpa using hv, .inl rfl, by simp⟩
        · have hle : len ≤ zs.length := by rw [hzl]; split <;> omega
          have hcl : (zs.take len).length = len := by simp; omega
          have hw : (zs.length) * 8 ≤ reachBytes := by
            apply hz
            rw [hx]
            simp only [DataW.weights, Tryz.underlying27]
            refine DataW.weights_mem_each (j := 5) (t := 25) (d := y5.1) rfl rfl _ ?_
            rw [hy5]
            simp only [DataW.weights, Tryz.underlying25, bytesInt, lits, List.length_map, List.length_take, List.length_drop]
            rw [show min len zs.length + (zs.length - len) = zs.length by omega]
            exact List.mem_cons_self
          refine ⟨some a, cap, zs.take len, by rw [hcl]; simpa using hv, ?_, by rw [hcl]; unfold reachBytes at hw; omega⟩
          by_cases h0 : len = 0
          · left
            rw [h0]
            simp
          · right
            obtain ⟨ab, ao, sp⟩ := a
            have c0 := hcells 0 (by omega)
            have hspot : sp = none := by simpa [Addr.add] using World.cell?_spot c0
            subst hspot
            have cc : ∀ j v, w.cell? ((⟨ab, ao, none⟩ : Addr).add j) = some v → w.cell? ⟨ab, ao + j, none⟩ = some v := by
              intro j v hv
              unfold Addr.add at hv
              by_cases h0 : j = 0
              · rw [if_pos h0] at hv
                rw [h0]
                exact hv
              · rw [if_neg h0] at hv
                exact hv
            refine ⟨ab, ao, rfl, lt_of_cell (cc 0 _ c0) rfl, fun i hi => ?_⟩
            rw [hcl] at hi
            have := cc i _ (hcells i (by omega))
            rw [this]
            simp [List.getD_eq_getElem?_getD, List.getElem?_take, hi]
      simp at e0 e1 e2 e3 e4
      subst e0 e1 e2 e3 e4 e5
      have cc : ∀ j v, w.cell? (((⟨b, off, none⟩ : Addr).add (k * 6)).add j) = some v → w.cell? ⟨b, off + k * 6 + j, none⟩ = some v := by
        intro j v hv
        rw [add_add] at hv
        rw [show off + k * 6 + j = off + (k * 6 + j) by omega]
        unfold Addr.add at hv
        by_cases h0 : k * 6 + j = 0
        · rw [if_pos h0] at hv
          rw [h0]
          exact hv
        · rw [if_neg h0] at hv
          exact hv
      refine ⟨K, A, B, C, s, la, lc, cs, ?_, ?_, ?_, ?_, ?_, ?_, hs, hca, hcl⟩
      · simpa using cc 0 _ (by simpa using hcell 0 (by omega))
      · exact cc 1 _ (by simpa using hcell 1 (by omega))
      · exact cc 2 _ (by simpa using hcell 2 (by omega))
      · exact cc 3 _ (by simpa using hcell 3 (by omega))
      · exact cc 4 _ (by simpa using hcell 4 (by omega))
      · exact cc 5 _ (by simpa using hcell 5 (by omega))
end

/-! ### The copy of the costs -/
def iV (l : List Int) : List Value := l.map (fun x => Value.int .i64 x)
structure CL (wa wr : World) (v : Value) (l : List Int) : Prop where
  ow : wr.ownsRow wa.heap.size 3 1 v l.length (iV l)
  b : Below wa.heap.size wa wr
end Go.Proofs.YtbdffcjganlblaaGreatDoor

namespace Go.Proofs.YtbdffcjganlblaaGreatDoor
open Go.RowKit
set_option linter.unusedVariables false
set_option linter.unusedSimpArgs false

end Go.Proofs.YtbdffcjganlblaaGreatDoor

namespace Go.Proofs.YtbdffcjganlblaaGreatDoor
open Go.RowKit
set_option linter.unusedVariables false
set_option linter.unusedSimpArgs false

theorem nil_wants {l : List FSl} (c : Nat) {i : Nat} : wantsL [] (c * cntTo l l.length + numI l i) (budK l (numI l i)) = (budK l (numI l i) + (fun _ => 0) (numI l i) : Nat) := rfl
theorem bareL_same : ∀ {a : List UInt8}, 33 ∉ a → bareL a = a
  | [], _ => bareL_nil
  | c :: r, h => by
    simp at h
    rw [bareL_one (fun x => h.1 x.symm), bareL_same h.2]
section
variable {l : List FSl} {cyc fr : Nat}
theorem out_nil (G : Goes l cyc fr) (hn : ∀ i, i < l.length → (fsk l i).2.nm ≠ 33) (u : Nat) : (prT l cyc fr [] u).out = barL l cyc fr u ∧ 33 ∉ (prT l cyc fr [] u).out := by
  have h := AI.all G [] (fun _ => 0) hn (fun c i hi => nil_wants c) u
  have h2 := h.bars (fun _ => rfl)
  exact ⟨by rw [← h.bare, bareL_same h2], h2⟩
end
theorem letter_33 {c : UInt8} (h : letterB (c.toNat : Int) = true) : c ≠ 33 := by
  rintro rfl
  simp [letterB] at h

/-! ### Two lists that grow side by side -/
structure CL2 (wa wr : World) (fv : Value) (F : List Int) (mv : Value) (M : List Int) : Prop where
  ofl : wr.ownsRow wa.heap.size 3 1 fv F.length (iV F)
  omo : wr.ownsRow wa.heap.size 3 1 mv M.length (iV M)
  ap : ∀ b, fv.ownBlock = some b → mv.ownBlock ≠ some b
  b : Below wa.heap.size wa wr
section
variable {wa wr : World} {fv mv : Value} {F M : List Int}
end
end Go.Proofs.YtbdffcjganlblaaGreatDoor

namespace Go.Proofs.YtbdffcjganlblaaGreatDoor
set_option linter.unusedVariables false
set_option linter.unusedSimpArgs false

/-! ### Counting -/
def cP (f : Nat → Bool) : Nat → Nat
  | 0 => 0
  | n + 1 => cP f n + if f n = true then 1 else 0
theorem cP_same {f g : Nat → Bool} : ∀ n, (∀ i, i < n → f i = g i) → cP f n = cP g n
  | 0, _ => rfl
  | n + 1, h => by rw [cP, cP, cP_same n (fun i hi => h i (by omega)), h n (by omega)]
theorem cP_none {f : Nat → Bool} : ∀ n, (∀ i, i < n → f i = false) → cP f n = 0
  | 0, _ => rfl
  | n + 1, h => by rw [cP, cP_none n (fun i hi => h i (by omega)), h n (by omega)]; rfl
theorem cP_le {f g : Nat → Bool} : ∀ n, (∀ i, i < n → f i = true → g i = true) → cP f n ≤ cP g n
  | 0, _ => Nat.le_refl _
  | n + 1, h => by
    have ih := cP_le n (fun i hi => h i (by omega))
    have h1 := h n (by omega)
    rw [cP, cP]
    cases hf : f n with
    | false => simp; omega
    | true => rw [h1 hf]; simp; omega
theorem cP_or {f g k : Nat → Bool} : ∀ n, (∀ i, i < n → k i = (f i || g i)) → (∀ i, i < n → f i = true → g i = false) → cP k n = cP f n + cP g n
  | 0, _, _ => rfl
  | n + 1, h, h2 => by
    rw [cP, cP, cP, cP_or n (fun i hi => h i (by omega)) (fun i hi => h2 i (by omega)), h n (by omega)]
    have h3 := h2 n (by omega)
    cases hf : f n with
    | false => cases g n <;> simp <;> omega
    | true => rw [h3 hf]; simp; omega
/-- Those in a stretch. -/
theorem cP_win (a b : Nat) : ∀ n, a ≤ b → b ≤ n → cP (fun i => decide (a ≤ i) && decide (i < b)) n = b - a
  | 0, h1, h2 => by
    rw [cP]; omega
  | n + 1, h1, h2 => by
    rw [cP]
    by_cases e : b = n + 1
    · subst e
      by_cases e2 : a = n + 1
      · subst e2
        rw [cP_none n (fun i hi => by
          have : ¬ n + 1 ≤ i := by omega
          simp [this])]
        simp
      · have ih := cP_win a n n (by omega) (Nat.le_refl _)
        rw [cP_same (g := fun i => decide (a ≤ i) && decide (i < n)) n (fun i hi => by
          have : decide (i < n + 1) = decide (i < n) := by rw [decide_eq_true (show i < n + 1 by omega), decide_eq_true hi]
          simp [this]), ih]
        rw [if_pos (by simp; omega)]
        omega
    · have ih := cP_win a b n h1 (by omega)
      rw [ih, if_neg (by simp; omega), Nat.add_zero]
/-- A stretch of a longer row, moved to its own beginning. -/
theorem cP_move (f : Nat → Bool) (a : Nat) : ∀ n, cP f (a + n) = cP f a + cP (fun i => f (a + i)) n
  | 0 => by simp [cP]
  | n + 1 => by
    rw [show a + (n + 1) = (a + n) + 1 by omega, cP, cP_move f a n, cP]
    omega

section
variable {js : List Jb} {ps : List Pr} {cyc F : Nat} {P : List (Nat × Nat)} {L : List FSl}
/-- Whose unit the time p of the cycle is. -/
def unitJ (P : List (Nat × Nat)) (L : List FSl) (F p : Nat) : Option Nat := (atL L F p).map fun q => (P.getD q (0, 0)).1
theorem Flat.budq (h : Flat js ps F P L) {q : Nat} (hq : q < P.length) : (fsk L q).2.bud = (P.getD q (0, 0)).2 := by
  rw [(h.is q hq).2.1]
  simp [List.getD_eq_getElem?_getD, hq]
theorem unit_some {p k : Nat} (h : unitJ P L F p = some k) : ∃ q, atL L F p = some q ∧ (P.getD q (0, 0)).1 = k := by
  unfold unitJ at h
  cases ha : atL L F p with
  | none => rw [ha] at h; simp at h
  | some q =>
    rw [ha] at h
    exact ⟨q, rfl, by simpa using h⟩
theorem unit_is (G : Goes L cyc F) (h : Flat js ps F P L) {p k : Nat} (hu : unitJ P L F p = some k) : k < js.length ∧ (jk js k).rel ≤ p ∧ p < (jk js k).dl ∧ p < cyc ∧ barU L F p = (jk js k).ltr := by
  obtain ⟨q, ha, hk⟩ := unit_some hu
  obtain ⟨h1, h2, h3, h4⟩ := at_some ha
  have hq : q < P.length := by rw [← h.len]; exact h1
  obtain ⟨i1, i2, i3, i4, i5⟩ := h.is q hq
  have hk' : P[q].1 = k := by simpa [List.getD_eq_getElem?_getD, hq] using hk
  rw [hk'] at i1 i2 i3 i4
  have hs : (fsk L q).1 * F ≤ startI L F q := by unfold startI; omega
  have he := G.fin_frame h1
  refine ⟨i1, by omega, by omega, Nat.lt_of_lt_of_le h3 (G.fin_cyc h1), ?_⟩
  unfold barU unitL
  rw [ha]
  show nmK L (numI L q) = _
  rw [nmK_num h1, i2]
theorem unit_none {p : Nat} (hu : unitJ P L F p = none) : barU L F p = 46 := by
  unfold unitJ at hu
  unfold barU unitL
  cases ha : atL L F p with
  | none => rfl
  | some q => rw [ha] at hu; simp at hu
/-- The units of a job are as many as its cost. -/
theorem unit_to (G : Goes L cyc F) (h : Flat js ps F P L) (k : Nat) : ∀ Q, Q ≤ P.length → cP (fun p => match atL L F p with | some q => decide (q < Q) && ((P.getD q (0, 0)).1 == k) | none => false) cyc = gvn k (P.take Q)
  | 0, _ => by
    rw [cP_none cyc (fun p hp => by cases atL L F p <;> simp)]
    simp [gvn]
  | Q + 1, hQ => by
    have ih := unit_to G h k Q (by omega)
    have hQl : Q < L.length := by rw [h.len]; omega
    rw [List.take_succ_eq_append_getElem (by omega), gvn_app, gvn, gvn, ← ih]
    have hgd : P.getD Q (0, 0) = P[Q] := by simp [List.getD_eq_getElem?_getD, show Q < P.length by omega]
    have hst := G.start_fin hQl
    have hcy := G.fin_cyc hQl
    have hbud : stopI L F Q = startI L F Q + P[Q].2 := by
      unfold stopI
      rw [h.budq (show Q < P.length by omega), hgd]
    by_cases e : P[Q].1 = k
    · rw [if_pos e, cP_or (f := fun p => match atL L F p with | some q => decide (q < Q) && ((P.getD q (0, 0)).1 == k) | none => false) (g := fun p => decide (startI L F Q ≤ p) && decide (p < stopI L F Q)) cyc, cP_win _ _ _ (by omega) hcy]
      · omega
      · intro p hp
        cases ha : atL L F p with
        | none =>
          have : ¬ (startI L F Q ≤ p ∧ p < stopI L F Q) := fun hh => by
            rw [G.atu hQl hh.1 hh.2] at ha
            simp at ha
          simp
          omega
        | some q =>
          obtain ⟨a1, a2, a3, _⟩ := at_some ha
          by_cases e1 : q = Q
          · subst e1
            have e' : (P.getD q (0, 0)).1 = k := by rw [hgd]; exact e
            simp only [e']
            simp [a2, a3]
          · have : ¬ (startI L F Q ≤ p ∧ p < stopI L F Q) := fun hh => by
              have := G.atu hQl hh.1 hh.2
              rw [ha] at this
              simp at this
              exact e1 this
            have h5 : (decide (startI L F Q ≤ p) && decide (p < stopI L F Q)) = false := by
              simp
              omega
            rw [h5, Bool.or_false]
            have : decide (q < Q + 1) = decide (q < Q) := by
              by_cases hq : q < Q
              · rw [decide_eq_true hq, decide_eq_true (by omega)]
              · rw [decide_eq_false hq, decide_eq_false (by omega)]
            simp only [this]
      · intro p hp hf
        cases ha : atL L F p with
        | none => rw [ha] at hf; simp at hf
        | some q =>
          rw [ha] at hf
          simp at hf
          have : ¬ (startI L F Q ≤ p ∧ p < stopI L F Q) := fun hh => by
            have := G.atu hQl hh.1 hh.2
            rw [ha] at this
            simp at this
            omega
          simp
          omega
    · rw [if_neg e]
      rw [cP_same (g := fun p => match atL L F p with | some q => decide (q < Q) && ((P.getD q (0, 0)).1 == k) | none => false) cyc]
      · rfl
      · intro p hp
        cases ha : atL L F p with
        | none => rfl
        | some q =>
          simp only
          by_cases e1 : q = Q
          · subst e1
            have : ((P.getD q (0, 0)).1 == k) = false := by rw [hgd, beq_eq_false_iff_ne]; exact e
            rw [this]
            simp
          · have : decide (q < Q + 1) = decide (q < Q) := by
              by_cases hq : q < Q
              · rw [decide_eq_true hq, decide_eq_true (by omega)]
              · rw [decide_eq_false hq, decide_eq_false (by omega)]
            simp only [this]
theorem unit_all (G : Goes L cyc F) (h : Flat js ps F P L) {k : Nat} (hk : k < js.length) : cP (fun p => decide (unitJ P L F p = some k)) cyc = (jk js k).cost := by
  have := unit_to G h k P.length (Nat.le_refl _)
  rw [List.take_length, h.all k hk] at this
  rw [← this]
  apply cP_same
  intro p hp
  unfold unitJ
  cases ha : atL L F p with
  | none => simp
  | some q =>
    have hq : q < P.length := by rw [← h.len]; exact (at_some ha).1
    rw [Bool.eq_iff_iff]
    simp [hq]
end
end Go.Proofs.YtbdffcjganlblaaGreatDoor
