/-
  Own work. The document's run: which slice a time belongs to; where a slice begins.
-/
import Derived.Test.YtbdffcjganlblaaGreatDoorRunAtoRunC
namespace Go.Proofs.YtbdffcjganlblaaGreatDoor
open Go.RowKit
set_option linter.unusedVariables false
set_option linter.unusedSimpArgs false

/-- Slice i of frame j ends here. -/
def endI (l : List FSl) (fr j i : Nat) : Nat := j * fr + usedJ (l.take i) j + (fsk l i).2.bud
def hitI (l : List FSl) (fr u i : Nat) : Prop := (fsk l i).1 = u / fr ∧ u < endI l fr (u / fr) i
instance (l : List FSl) (fr u i : Nat) : Decidable (hitI l fr u i) := by unfold hitI; infer_instance
def atTo (l : List FSl) (fr u : Nat) : Nat → Option Nat
  | 0 => none
  | q + 1 => match atTo l fr u q with
    | some i => some i
    | none => if hitI l fr u q then some q else none
def atL (l : List FSl) (fr u : Nat) : Option Nat := atTo l fr u l.length
theorem atTo_spec (l : List FSl) (fr u : Nat) : ∀ q, (atTo l fr u q = none ∧ ∀ k, k < q → ¬ hitI l fr u k) ∨ ∃ i, atTo l fr u q = some i ∧ i < q ∧ hitI l fr u i ∧ ∀ k, k < i → ¬ hitI l fr u k
  | 0 => .inl ⟨rfl, fun k h => by omega⟩
  | q + 1 => by
    rcases atTo_spec l fr u q with ⟨h1, h2⟩ | ⟨i, h1, h2, h3, h4⟩
    · by_cases h : hitI l fr u q
      · exact .inr ⟨q, by rw [atTo, h1]; simp [h], by omega, h, h2⟩
      · refine .inl ⟨by rw [atTo, h1]; simp [h], fun k hk => ?_⟩
        rcases Nat.lt_or_ge k q with h5 | h5
        · exact h2 k h5
        · have : k = q := by omega
          subst this
          exact h
    · exact .inr ⟨i, by rw [atTo, h1], by omega, h3, h4⟩
def startI (l : List FSl) (fr i : Nat) : Nat := (fsk l i).1 * fr + usedJ (l.take i) (fsk l i).1

theorem usedJ_next {l : List FSl} {q j : Nat} (hq : q < l.length) : usedJ (l.take (q + 1)) j = usedJ (l.take q) j + if (fsk l q).1 = j then (fsk l q).2.bud else 0 := by
  rw [take_next hq, usedJ_app]
  simp [usedJ]
/-- What job number m of all wants. -/
def wantsL (cs : List Int) (m : Nat) (b : Nat) : Int := if cs.length = 0 then b else cs.getD (m % cs.length) 0
/-- Costs in memory. -/
def CostsAt (w : World) (a : Option Addr) (cs : List Int) : Prop := cs = [] ∨ ∃ b off, a = some ⟨b, off, none⟩ ∧ b < w.heap.size ∧ ∀ k, k < cs.length → w.cell? ⟨b, off + k, none⟩ = some (.int .i64 (cs.getD k 0))

end Go.Proofs.YtbdffcjganlblaaGreatDoor

namespace Go.Proofs.YtbdffcjganlblaaGreatDoor
open Go.RowKit
set_option linter.unusedVariables false
set_option linter.unusedSimpArgs false

def setL (L : Nat → Int) (k : Nat) (v : Int) : Nat → Int := fun j => if j = k then v else L j
/-- Trace's memory. -/
structure TrX (w wr : World) (c f : Nat) (sv : Value) (X n : Nat) (L : Nat → Int) : Prop where
  t : TBx w wr c f sv
  l : ∀ k, k < n → wr.cell? ⟨X, k, none⟩ = some (.int .i64 (L k))
  fz : ∀ k, wr.frozen? ⟨X, k, none⟩ = false
  gt : w.heap.size < X
  lt : X < wr.heap.size
section
variable {w wr : World} {c f : Nat} {sv : Value} {X n : Nat} {L : Nat → Int}
theorem frozen_below {w w' : World} {B : Nat} (hb : Below B w w') {x o : Nat} (hx : x < B) : w'.frozen? ⟨x, o, none⟩ = w.frozen? ⟨x, o, none⟩ := by
  unfold World.frozen?
  simp only
  rw [hb.block x hx]
theorem TrX.keep (h : TrX w wr c f sv X n L) {w' : World} (hb : Below wr.heap.size wr w') : TrX w w' c f sv X n L :=
  ⟨h.t.keep hb, fun k hk => (hb.cell (p := ⟨X, k, none⟩) h.lt).trans (h.l k hk), fun k => (frozen_below hb h.lt).trans (h.fz k), h.gt, Nat.lt_of_lt_of_le h.lt hb.size⟩
theorem TrX.set (h : TrX w wr c f sv X n L) (k : Nat) (v : Int) : TrX w (wr.setCell ⟨X, k, none⟩ (.int .i64 v)) c f sv X n (setL L k v) := by
  refine ⟨⟨?_, h.t.b.setCell (by show w.heap.size ≤ X; have := h.gt; omega) _⟩, ?_, ?_, h.gt, by rw [heap_set_size]; exact h.lt⟩
  · rw [Below.heap_setCell _ _ _ _ (by show w.heap.size ≠ X; have := h.gt; omega)]
    exact h.t.h
  · intro j hj
    unfold setL
    by_cases hjk : j = k
    · subst hjk
      rw [if_pos rfl, set_same (h.l _ hj)]
    · rw [if_neg hjk, set_other (by intro e; injection e with _ e2; exact hjk e2.symm), h.l j hj]
  · intro j
    simpa using h.fz j
end
end Go.Proofs.YtbdffcjganlblaaGreatDoor

namespace Go.Proofs.YtbdffcjganlblaaGreatDoor
set_option linter.unusedVariables false
set_option linter.unusedSimpArgs false

/-! ### Slices that lie one behind the other -/
/-- The slices stand in the order of their frames, and their budgets fit. -/
structure Goes (l : List FSl) (cyc fr : Nat) : Prop where
  ris : ∀ i, i + 1 < l.length → (fsk l i).1 ≤ (fsk l (i + 1)).1
  bud : ∀ i, i < l.length → 1 ≤ (fsk l i).2.bud
  fit : ∀ i, i < l.length → usedJ (l.take i) (fsk l i).1 + (fsk l i).2.bud ≤ fr
  ends : ∀ i, i < l.length → ((fsk l i).1 + 1) * fr ≤ cyc
  fr1 : 1 ≤ fr
  c1 : 1 ≤ cyc
/-- Where slice i ends. -/
def stopI (l : List FSl) (fr i : Nat) : Nat := startI l fr i + (fsk l i).2.bud
theorem mul_next (a f : Nat) : (a + 1) * f = a * f + f := Nat.succ_mul a f
theorem Goes.fin_frame {l : List FSl} {cyc fr : Nat} (G : Goes l cyc fr) {i : Nat} (h : i < l.length) : stopI l fr i ≤ ((fsk l i).1 + 1) * fr := by
  have := G.fit i h
  unfold stopI startI
  rw [mul_next]
  omega
theorem Goes.fin_cyc {l : List FSl} {cyc fr : Nat} (G : Goes l cyc fr) {i : Nat} (h : i < l.length) : stopI l fr i ≤ cyc := Nat.le_trans (G.fin_frame h) (G.ends i h)
theorem Goes.start_fin {l : List FSl} {cyc fr : Nat} (G : Goes l cyc fr) {i : Nat} (h : i < l.length) : startI l fr i < stopI l fr i := by
  have := G.bud i h
  unfold stopI
  omega
theorem Goes.next {l : List FSl} {cyc fr : Nat} (G : Goes l cyc fr) {i : Nat} (h : i + 1 < l.length) : stopI l fr i ≤ startI l fr (i + 1) := by
  by_cases e : (fsk l i).1 = (fsk l (i + 1)).1
  · have h1 := usedJ_next (l := l) (q := i) (j := (fsk l (i + 1)).1) (by omega)
    rw [if_pos e] at h1
    unfold stopI startI
    rw [h1, e]
    omega
  · have h1 := G.ris i h
    have h2 : (fsk l i).1 + 1 ≤ (fsk l (i + 1)).1 := by omega
    have h3 := Nat.mul_le_mul_right fr h2
    have h4 := G.fin_frame (i := i) (by omega)
    show stopI l fr i ≤ (fsk l (i + 1)).1 * fr + _
    omega
theorem Goes.apart {l : List FSl} {cyc fr : Nat} (G : Goes l cyc fr) {i : Nat} : ∀ d, i + 1 + d < l.length → stopI l fr i ≤ startI l fr (i + 1 + d)
  | 0, h => Goes.next G h
  | d + 1, h => by
    have ih := Goes.apart G (i := i) d (by omega)
    have h1 := G.next (i := i + 1 + d) (by omega)
    have h2 := G.start_fin (i := i + 1 + d) (by omega)
    have e : i + 1 + (d + 1) = i + 1 + d + 1 := by omega
    rw [e]
    omega
theorem Goes.lt {l : List FSl} {cyc fr : Nat} (G : Goes l cyc fr) {i k : Nat} (h : i < k) (hk : k < l.length) : stopI l fr i ≤ startI l fr k := by
  have := G.apart (i := i) (k - (i + 1)) (by omega)
  rwa [show i + 1 + (k - (i + 1)) = k by omega] at this
theorem Goes.frame {l : List FSl} {cyc fr : Nat} (G : Goes l cyc fr) {i u : Nat} (h : i < l.length) (h1 : startI l fr i ≤ u) (h2 : u < stopI l fr i) : u / fr = (fsk l i).1 := by
  have h3 := G.fin_frame h
  have h4 : (fsk l i).1 * fr ≤ startI l fr i := by unfold startI; omega
  have f0 : 0 < fr := G.fr1
  apply Nat.le_antisymm
  · exact Nat.le_of_lt_succ ((Nat.div_lt_iff_lt_mul f0).2 (by show u < ((fsk l i).1 + 1) * fr; omega))
  · exact (Nat.le_div_iff_mul_le f0).2 (by omega)
theorem Goes.hit {l : List FSl} {cyc fr : Nat} (G : Goes l cyc fr) {i u : Nat} (h : i < l.length) (h1 : startI l fr i ≤ u) (h2 : u < stopI l fr i) : hitI l fr u i := by
  have e := G.frame h h1 h2
  refine ⟨e.symm, ?_⟩
  rw [e]
  exact h2
theorem Goes.atu {l : List FSl} {cyc fr : Nat} (G : Goes l cyc fr) {i u : Nat} (h : i < l.length) (h1 : startI l fr i ≤ u) (h2 : u < stopI l fr i) : atL l fr u = some i := by
  have hh := G.hit h h1 h2
  have e := G.frame h h1 h2
  rcases atTo_spec l fr u l.length with ⟨_, hn⟩ | ⟨k, hk, hkl, hkh, hkn⟩
  · exact absurd hh (hn i h)
  · have : k = i := by
      rcases Nat.lt_trichotomy k i with h5 | h5 | h5
      · exfalso
        obtain ⟨a, b⟩ := hkh
        have : endI l fr (u / fr) k = stopI l fr k := by rw [← a]; rfl
        have := G.lt h5 h
        omega
      · exact h5
      · exact absurd hh (hkn i h5)
    rw [← this]
    exact hk
theorem used_low {l : List FSl} {fr : Nat} {u : Nat} : ∀ q, q ≤ l.length → (∀ k, k < q → ¬ hitI l fr u k) → u / fr * fr + usedJ (l.take q) (u / fr) ≤ u
  | 0, _, _ => by simp [usedJ]; exact Nat.div_mul_le_self u fr
  | q + 1, h, hn => by
    have ih := used_low q (by omega) (fun k hk => hn k (by omega))
    rw [usedJ_next (by omega)]
    split
    · rename_i e
      have : ¬ u < endI l fr (u / fr) q := fun h' => hn q (by omega) ⟨e, h'⟩
      unfold endI at this
      omega
    · omega
theorem at_some {l : List FSl} {fr : Nat} {i u : Nat} (h : atL l fr u = some i) : i < l.length ∧ startI l fr i ≤ u ∧ u < stopI l fr i ∧ endI l fr (u / fr) i = stopI l fr i := by
  rcases atTo_spec l fr u l.length with ⟨h1, _⟩ | ⟨k, hk, hkl, hkh, hkn⟩
  · have e : atL l fr u = none := h1
    rw [e] at h
    cases h
  · have e : atL l fr u = some k := hk
    rw [e] at h
    obtain rfl : k = i := by injection h
    obtain ⟨a, b⟩ := hkh
    have e2 : endI l fr (u / fr) k = stopI l fr k := by rw [← a]; rfl
    refine ⟨hkl, ?_, by omega, e2⟩
    have := used_low (l := l) (fr := fr) (u := u) k (by omega) hkn
    unfold startI
    rw [a]
    exact this
theorem at_none {l : List FSl} {fr : Nat} {u : Nat} (h : ∀ i, i < l.length → startI l fr i ≤ u → ¬ u < stopI l fr i) : atL l fr u = none := by
  cases e : atL l fr u with
  | none => rfl
  | some i =>
    obtain ⟨a, b, c, _⟩ := at_some e
    exact absurd c (h i a b)

/-! ### The jobs by their numbers -/
/-- The first slices of the jobs, among the first q. -/
def firsts (l : List FSl) : Nat → List Nat
  | 0 => []
  | q + 1 => if (spotI l q).fst = q then firsts l q ++ [q] else firsts l q
theorem firsts_len (l : List FSl) : ∀ q, (firsts l q).length = cntTo l q
  | 0 => rfl
  | q + 1 => by
    rw [firsts, cntTo]
    split
    · simp [firsts_len l q]
    · exact firsts_len l q
theorem firsts_pre (l : List FSl) (q : Nat) : ∀ d, ∃ r, firsts l (q + d) = firsts l q ++ r
  | 0 => ⟨[], by simp⟩
  | d + 1 => by
    obtain ⟨r, h⟩ := firsts_pre l q d
    rw [← Nat.add_assoc, firsts]
    split
    · exact ⟨r ++ [q + d], by rw [h, List.append_assoc]⟩
    · exact ⟨r, h⟩
/-- The first slice of job number k. -/
def jobI (l : List FSl) (k : Nat) : Nat := (firsts l l.length).getD k 0
theorem jobI_first {l : List FSl} {m : Nat} (hm : m < l.length) (h : (spotI l m).fst = m) : jobI l (cntTo l m) = m := by
  obtain ⟨r, hr⟩ := firsts_pre l (m + 1) (l.length - (m + 1))
  rw [show m + 1 + (l.length - (m + 1)) = l.length by omega] at hr
  have e : firsts l (m + 1) = firsts l m ++ [m] := by rw [firsts, if_pos h]
  unfold jobI
  rw [hr, e, ← firsts_len l m]
  simp [List.getD_eq_getElem?_getD]
theorem spotI_self {l : List FSl} {i m : Nat} (h : (spotI l i).fst = (m : Int)) (hs : sameJ l i m) : (spotI l m).fst = m := by
  rw [spotI_same hs, h]
theorem jobI_num {l : List FSl} {i : Nat} (hi : i < l.length) : (spotI l i).fst = (jobI l (numI l i) : Int) ∧ jobI l (numI l i) ≤ i ∧ sameJ l i (jobI l (numI l i)) ∧ ∀ k, k < jobI l (numI l i) → ¬ sameJ l i k := by
  obtain ⟨m, hm, hmi, hs, hn⟩ := spotI_fst hi
  have e : jobI l (numI l i) = m := by
    unfold numI
    rw [hm]
    exact jobI_first (by omega) (spotI_self hm hs)
  rw [e]
  exact ⟨hm, hmi, hs, hn⟩
theorem sameJ_iff {l : List FSl} {i k : Nat} (hi : i < l.length) (hk : k < l.length) : numI l i = numI l k ↔ sameJ l i k := by
  constructor
  · intro h
    obtain ⟨_, _, a, _⟩ := jobI_num hi
    obtain ⟨_, _, b, _⟩ := jobI_num hk
    rw [h] at a
    exact ⟨b.1.symm.trans a.1, b.2.symm.trans a.2⟩
  · intro h
    unfold numI
    rw [spotI_same h]
def budK (l : List FSl) (k : Nat) : Nat := (spotI l (jobI l k)).cost
def nmK (l : List FSl) (k : Nat) : UInt8 := (fsk l (jobI l k)).2.nm
theorem nmK_num {l : List FSl} {i : Nat} (hi : i < l.length) : nmK l (numI l i) = (fsk l i).2.nm := (jobI_num hi).2.2.1.1
/-- What job k has had in the first q slices. -/
def hadK (l : List FSl) (k q : Nat) : Nat := (spotTo l (fsk l (jobI l k)).2.nm (fsk l (jobI l k)).2.job q).cost
theorem hadK_all (l : List FSl) (k : Nat) : hadK l k l.length = budK l k := rfl
theorem isOf_num {l : List FSl} {i q : Nat} (hi : i < l.length) (hq : q < l.length) : isOf (fsk l q) (fsk l (jobI l (numI l i))).2.nm (fsk l (jobI l (numI l i))).2.job ↔ numI l q = numI l i := by
  obtain ⟨_, _, a, _⟩ := jobI_num hi
  rw [eq_comm, sameJ_iff hi hq, a.1, a.2]
  exact Iff.rfl
theorem hadK_next {l : List FSl} {i q : Nat} (hi : i < l.length) (hq : q < l.length) : hadK l (numI l i) (q + 1) = hadK l (numI l i) q + if numI l q = numI l i then (fsk l q).2.bud else 0 := by
  unfold hadK
  by_cases h : numI l q = numI l i
  · rw [if_pos h, spotTo_yes ((isOf_num hi hq).2 h)]
  · rw [if_neg h, spotTo_no (fun h' => h ((isOf_num hi hq).1 h'))]
    rfl
theorem hadK_mono {l : List FSl} {i : Nat} (hi : i < l.length) (q : Nat) : ∀ d, q + d ≤ l.length → hadK l (numI l i) q ≤ hadK l (numI l i) (q + d)
  | 0, _ => Nat.le_refl _
  | d + 1, h => by
    have := hadK_mono hi q d (by omega)
    rw [← Nat.add_assoc, hadK_next hi (by omega)]
    omega
theorem hadK_le {l : List FSl} {i q : Nat} (hi : i < l.length) (hq : q ≤ l.length) : hadK l (numI l i) q ≤ budK l (numI l i) := by
  have := hadK_mono hi q (l.length - q) (by omega)
  rwa [show q + (l.length - q) = l.length by omega, hadK_all] at this
end Go.Proofs.YtbdffcjganlblaaGreatDoor
