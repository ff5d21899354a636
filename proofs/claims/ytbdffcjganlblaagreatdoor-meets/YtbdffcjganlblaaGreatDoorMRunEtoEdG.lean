/-
  Own work. The document's run: the trace, as lists.
-/
import Derived.Test.YtbdffcjganlblaaGreatDoorMRunAtoRunD
import Derived.Test.YtbdffcjganlblaaGreatDoorMEdAtoEdF
namespace Go.Proofs.YtbdffcjganlblaaGreatDoor
open Go.RowKit
set_option linter.unusedVariables false
set_option linter.unusedSimpArgs false

def setL (L : Nat → Int) (k : Nat) (v : Int) : Nat → Int := fun j => if j = k then v else L j
/-- What the jobs still want, when the slice i is about to have the tick u. -/
def begunL (l : List FSl) (cyc fr : Nat) (cs : List Int) (u i : Nat) (L : Nat → Int) : Nat → Int :=
  if (u % cyc : Nat) = (startI l fr (spotI l i).fst.toNat : Int) then setL L (numI l i) (wantsL cs (u / cyc * cntTo l l.length + numI l i) (spotI l i).cost) else L
def lessL (k : Nat) (L : Nat → Int) : Nat → Int := if 0 < L k then setL L k (L k - 1) else L
def ranL (nm : UInt8) (k : Nat) (L : Nat → Int) : List UInt8 := if 0 < L k then [nm] else [46]
def markL (l : List FSl) (cyc fr : Nat) (u i : Nat) (L : Nat → Int) : List UInt8 :=
  if u % cyc + 1 = endI l fr (u % cyc / fr) i ∧ (i : Int) = (spotI l i).lst ∧ 0 < L (numI l i) then [33, (fsk l i).2.nm] else []
/-- One tick of the trace. -/
def tickL (l : List FSl) (cyc fr : Nat) (cs : List Int) (u : Nat) (x : (Nat → Int) × List UInt8) : (Nat → Int) × List UInt8 :=
  match atL l fr (u % cyc) with
  | none => (x.1, x.2 ++ [46])
  | some i =>
    (lessL (numI l i) (begunL l cyc fr cs u i x.1),
      x.2 ++ ranL (fsk l i).2.nm (numI l i) (begunL l cyc fr cs u i x.1) ++ markL l cyc fr u i (lessL (numI l i) (begunL l cyc fr cs u i x.1)))
def trcL (l : List FSl) (cyc fr : Nat) (cs : List Int) : Nat → (Nat → Int) × List UInt8
  | 0 => (fun _ => 0, [])
  | u + 1 => tickL l cyc fr cs u (trcL l cyc fr cs u)
theorem trc_len (l : List FSl) (cyc fr : Nat) (cs : List Int) : ∀ u, (trcL l cyc fr cs u).2.length ≤ 3 * u
  | 0 => Nat.le_refl _
  | u + 1 => by
    have ih := trc_len l cyc fr cs u
    rw [trcL, tickL]
    split
    · simp
      omega
    · rename_i i hi
      have h1 : ∀ L, (ranL (fsk l i).2.nm (numI l i) L).length = 1 := fun L => by unfold ranL; split <;> rfl
      have h2 : ∀ L, (markL l cyc fr u i L).length ≤ 2 := fun L => by unfold markL; split <;> simp
      simp only [List.length_append]
      have := h1 (begunL l cyc fr cs u i (trcL l cyc fr cs u).1)
      have := h2 (lessL (numI l i) (begunL l cyc fr cs u i (trcL l cyc fr cs u).1))
      omega
def FineL (L : Nat → Int) : Prop := ∀ k, 0 ≤ L k ∧ L k ≤ 3000000
theorem fine_set {L : Nat → Int} (h : FineL L) {k : Nat} {v : Int} (hv : 0 ≤ v ∧ v ≤ 3000000) : FineL (setL L k v) := by
  intro j
  unfold setL
  split
  · exact hv
  · exact h j
theorem wants_fine {cs : List Int} (hc : ∀ k, k < cs.length → 0 ≤ cs.getD k 0 ∧ cs.getD k 0 ≤ 400) (m b : Nat) (hb : b ≤ 3000000) : 0 ≤ wantsL cs m b ∧ wantsL cs m b ≤ 3000000 := by
  unfold wantsL
  split
  · omega
  · have := hc (m % cs.length) (Nat.mod_lt _ (by omega))
    omega
theorem spotI_cost {l : List FSl} (hn : l.length ≤ 300) (hs : ∀ i, i < l.length → (fsk l i).small) (i : Nat) : (spotI l i).cost ≤ 2999700 := by
  have := spotTo_cost hs (fsk l i).2.nm (fsk l i).2.job l.length (Nat.le_refl _)
  unfold spotI spotL
  generalize (spotTo l (fsk l i).2.nm (fsk l i).2.job l.length).cost = z at *
  omega
theorem fine_begun {l : List FSl} (hn : l.length ≤ 300) (hs : ∀ i, i < l.length → (fsk l i).small) {cs : List Int} (hc : ∀ k, k < cs.length → 0 ≤ cs.getD k 0 ∧ cs.getD k 0 ≤ 400) (cyc fr u i : Nat) {L : Nat → Int} (h : FineL L) : FineL (begunL l cyc fr cs u i L) := by
  unfold begunL
  split
  · exact fine_set h (wants_fine hc _ _ (by have := spotI_cost hn hs i; omega))
  · exact h
theorem fine_less {k : Nat} {L : Nat → Int} (h : FineL L) : FineL (lessL k L) := by
  unfold lessL
  split
  · exact fine_set h (by have := h k; omega)
  · exact h
theorem trc_fine {l : List FSl} (hn : l.length ≤ 300) (hs : ∀ i, i < l.length → (fsk l i).small) {cs : List Int} (hc : ∀ k, k < cs.length → 0 ≤ cs.getD k 0 ∧ cs.getD k 0 ≤ 400) (cyc fr : Nat) : ∀ u, FineL (trcL l cyc fr cs u).1
  | 0 => fun k => by simp [trcL]
  | u + 1 => by
    have ih := trc_fine hn hs hc cyc fr u
    rw [trcL, tickL]
    split
    · exact ih
    · exact fine_less (fine_begun hn hs hc _ _ _ _ ih)

section
variable {w wr : World} {c f : Nat} {sv : Value} {X n : Nat} {L : Nat → Int}
end
end Go.Proofs.YtbdffcjganlblaaGreatDoor

namespace Go.Proofs.YtbdffcjganlblaaGreatDoor
set_option linter.unusedVariables false
set_option linter.unusedSimpArgs false

/-! ### Slices that lie one behind the other -/
/-- The slices stand in the order of their frames, and their budgets fit. -/
structure Goes (l : List FSl) (cyc fr : Nat) : Prop where
  ris : ∀ i, i + 1 < l.length → (fsk l i).1 ≤ (fsk l (i + 1)).1
  bud : ∀ i, i < l.length → 1 ≤ (fsk l i).2.bud
  fit : ∀ i, i < l.length → usedJ (l.take i) (fsk l i).1 + (fsk l i).2.bud ≤ fr
  ends : ∀ i, i < l.length → ((fsk l i).1 + 1) * fr ≤ cyc
  fr1 : 1 ≤ fr
  c1 : 1 ≤ cyc
/-- Where slice i ends. -/
def stopI (l : List FSl) (fr i : Nat) : Nat := startI l fr i + (fsk l i).2.bud
theorem mul_next (a f : Nat) : (a + 1) * f = a * f + f := Nat.succ_mul a f
theorem Goes.fin_frame {l : List FSl} {cyc fr : Nat} (G : Goes l cyc fr) {i : Nat} (h : i < l.length) : stopI l fr i ≤ ((fsk l i).1 + 1) * fr := by
  have := G.fit i h
  unfold stopI startI
  rw [mul_next]
  omega
theorem Goes.fin_cyc {l : List FSl} {cyc fr : Nat} (G : Goes l cyc fr) {i : Nat} (h : i < l.length) : stopI l fr i ≤ cyc := Nat.le_trans (G.fin_frame h) (G.ends i h)
theorem Goes.start_fin {l : List FSl} {cyc fr : Nat} (G : Goes l cyc fr) {i : Nat} (h : i < l.length) : startI l fr i < stopI l fr i := by
  have := G.bud i h
  unfold stopI
  omega
theorem Goes.next {l : List FSl} {cyc fr : Nat} (G : Goes l cyc fr) {i : Nat} (h : i + 1 < l.length) : stopI l fr i ≤ startI l fr (i + 1) := by
  by_cases e : (fsk l i).1 = (fsk l (i + 1)).1
  · have h1 := usedJ_next (l := l) (q := i) (j := (fsk l (i + 1)).1) (by omega)
    rw [if_pos e] at h1
    unfold stopI startI
    rw [h1, e]
    omega
  · have h1 := G.ris i h
    have h2 : (fsk l i).1 + 1 ≤ (fsk l (i + 1)).1 := by omega
    have h3 := Nat.mul_le_mul_right fr h2
    have h4 := G.fin_frame (i := i) (by omega)
    show stopI l fr i ≤ (fsk l (i + 1)).1 * fr + _
    omega
theorem Goes.apart {l : List FSl} {cyc fr : Nat} (G : Goes l cyc fr) {i : Nat} : ∀ d, i + 1 + d < l.length → stopI l fr i ≤ startI l fr (i + 1 + d)
  | 0, h => Goes.next G h
  | d + 1, h => by
    have ih := Goes.apart G (i := i) d (by omega)
    have h1 := G.next (i := i + 1 + d) (by omega)
    have h2 := G.start_fin (i := i + 1 + d) (by omega)
    have e : i + 1 + (d + 1) = i + 1 + d + 1 := by omega
    rw [e]
    omega
theorem Goes.lt {l : List FSl} {cyc fr : Nat} (G : Goes l cyc fr) {i k : Nat} (h : i < k) (hk : k < l.length) : stopI l fr i ≤ startI l fr k := by
  have := G.apart (i := i) (k - (i + 1)) (by omega)
  rwa [show i + 1 + (k - (i + 1)) = k by omega] at this
theorem Goes.frame {l : List FSl} {cyc fr : Nat} (G : Goes l cyc fr) {i u : Nat} (h : i < l.length) (h1 : startI l fr i ≤ u) (h2 : u < stopI l fr i) : u / fr = (fsk l i).1 := by
  have h3 := G.fin_frame h
  have h4 : (fsk l i).1 * fr ≤ startI l fr i := by unfold startI; omega
  have f0 : 0 < fr := G.fr1
  apply Nat.le_antisymm
  · exact Nat.le_of_lt_succ ((Nat.div_lt_iff_lt_mul f0).2 (by show u < ((fsk l i).1 + 1) * fr; omega))
  · exact (Nat.le_div_iff_mul_le f0).2 (by omega)
theorem Goes.hit {l : List FSl} {cyc fr : Nat} (G : Goes l cyc fr) {i u : Nat} (h : i < l.length) (h1 : startI l fr i ≤ u) (h2 : u < stopI l fr i) : hitI l fr u i := by
  have e := G.frame h h1 h2
  refine ⟨e.symm, ?_⟩
  rw [e]
  exact h2
theorem Goes.atu {l : List FSl} {cyc fr : Nat} (G : Goes l cyc fr) {i u : Nat} (h : i < l.length) (h1 : startI l fr i ≤ u) (h2 : u < stopI l fr i) : atL l fr u = some i := by
  have hh := G.hit h h1 h2
  have e := G.frame h h1 h2
  rcases atTo_spec l fr u l.length with ⟨_, hn⟩ | ⟨k, hk, hkl, hkh, hkn⟩
  · exact absurd hh (hn i h)
  · have : k = i := by
      rcases Nat.lt_trichotomy k i with h5 | h5 | h5
      · exfalso
        obtain ⟨a, b⟩ := hkh
        have : endI l fr (u / fr) k = stopI l fr k := by rw [← a]; rfl
        have := G.lt h5 h
        omega
      · exact h5
      · exact absurd hh (hkn i h5)
    rw [← this]
    exact hk
theorem used_low {l : List FSl} {fr : Nat} {u : Nat} : ∀ q, q ≤ l.length → (∀ k, k < q → ¬ hitI l fr u k) → u / fr * fr + usedJ (l.take q) (u / fr) ≤ u
  | 0, _, _ => by simp [usedJ]; exact Nat.div_mul_le_self u fr
  | q + 1, h, hn => by
    have ih := used_low q (by omega) (fun k hk => hn k (by omega))
    rw [usedJ_next (by omega)]
    split
    · rename_i e
      have : ¬ u < endI l fr (u / fr) q := fun h' => hn q (by omega) ⟨e, h'⟩
      unfold endI at this
      omega
    · omega
theorem at_some {l : List FSl} {fr : Nat} {i u : Nat} (h : atL l fr u = some i) : i < l.length ∧ startI l fr i ≤ u ∧ u < stopI l fr i ∧ endI l fr (u / fr) i = stopI l fr i := by
  rcases atTo_spec l fr u l.length with ⟨h1, _⟩ | ⟨k, hk, hkl, hkh, hkn⟩
  · have e : atL l fr u = none := h1
    rw [e] at h
    cases h
  · have e : atL l fr u = some k := hk
    rw [e] at h
    obtain rfl : k = i := by injection h
    obtain ⟨a, b⟩ := hkh
    have e2 : endI l fr (u / fr) k = stopI l fr k := by rw [← a]; rfl
    refine ⟨hkl, ?_, by omega, e2⟩
    have := used_low (l := l) (fr := fr) (u := u) k (by omega) hkn
    unfold startI
    rw [a]
    exact this
theorem at_none {l : List FSl} {fr : Nat} {u : Nat} (h : ∀ i, i < l.length → startI l fr i ≤ u → ¬ u < stopI l fr i) : atL l fr u = none := by
  cases e : atL l fr u with
  | none => rfl
  | some i =>
    obtain ⟨a, b, c, _⟩ := at_some e
    exact absurd c (h i a b)

/-! ### The jobs by their numbers -/
/-- The first slices of the jobs, among the first q. -/
def firsts (l : List FSl) : Nat → List Nat
  | 0 => []
  | q + 1 => if (spotI l q).fst = q then firsts l q ++ [q] else firsts l q
theorem firsts_len (l : List FSl) : ∀ q, (firsts l q).length = cntTo l q
  | 0 => rfl
  | q + 1 => by
    rw [firsts, cntTo]
    split
    · simp [firsts_len l q]
    · exact firsts_len l q
theorem firsts_pre (l : List FSl) (q : Nat) : ∀ d, ∃ r, firsts l (q + d) = firsts l q ++ r
  | 0 => ⟨[], by simp⟩
  | d + 1 => by
    obtain ⟨r, h⟩ := firsts_pre l q d
    rw [← Nat.add_assoc, firsts]
    split
    · exact ⟨r ++ [q + d], by rw [h, List.append_assoc]⟩
    · exact ⟨r, h⟩
/-- The first slice of job number k. -/
def jobI (l : List FSl) (k : Nat) : Nat := (firsts l l.length).getD k 0
theorem jobI_first {l : List FSl} {m : Nat} (hm : m < l.length) (h : (spotI l m).fst = m) : jobI l (cntTo l m) = m := by
  obtain ⟨r, hr⟩ := firsts_pre l (m + 1) (l.length - (m + 1))
  rw [show m + 1 + (l.length - (m + 1)) = l.length by omega] at hr
  have e : firsts l (m + 1) = firsts l m ++ [m] := by rw [firsts, if_pos h]
  unfold jobI
  rw [hr, e, ← firsts_len l m]
  simp [List.getD_eq_getElem?_getD]
theorem spotI_self {l : List FSl} {i m : Nat} (h : (spotI l i).fst = (m : Int)) (hs : sameJ l i m) : (spotI l m).fst = m := by
  rw [spotI_same hs, h]
theorem jobI_num {l : List FSl} {i : Nat} (hi : i < l.length) : (spotI l i).fst = (jobI l (numI l i) : Int) ∧ jobI l (numI l i) ≤ i ∧ sameJ l i (jobI l (numI l i)) ∧ ∀ k, k < jobI l (numI l i) → ¬ sameJ l i k := by
  obtain ⟨m, hm, hmi, hs, hn⟩ := spotI_fst hi
  have e : jobI l (numI l i) = m := by
    unfold numI
    rw [hm]
    exact jobI_first (by omega) (spotI_self hm hs)
  rw [e]
  exact ⟨hm, hmi, hs, hn⟩
theorem sameJ_iff {l : List FSl} {i k : Nat} (hi : i < l.length) (hk : k < l.length) : numI l i = numI l k ↔ sameJ l i k := by
  constructor
  · intro h
    obtain ⟨_, _, a, _⟩ := jobI_num hi
    obtain ⟨_, _, b, _⟩ := jobI_num hk
    rw [h] at a
    exact ⟨b.1.symm.trans a.1, b.2.symm.trans a.2⟩
  · intro h
    unfold numI
    rw [spotI_same h]
def budK (l : List FSl) (k : Nat) : Nat := (spotI l (jobI l k)).cost
def nmK (l : List FSl) (k : Nat) : UInt8 := (fsk l (jobI l k)).2.nm
theorem budK_num {l : List FSl} {i : Nat} (hi : i < l.length) : budK l (numI l i) = (spotI l i).cost := by
  unfold budK
  rw [spotI_same (jobI_num hi).2.2.1]
theorem nmK_num {l : List FSl} {i : Nat} (hi : i < l.length) : nmK l (numI l i) = (fsk l i).2.nm := (jobI_num hi).2.2.1.1
/-- What job k has had in the first q slices. -/
def hadK (l : List FSl) (k q : Nat) : Nat := (spotTo l (fsk l (jobI l k)).2.nm (fsk l (jobI l k)).2.job q).cost
theorem hadK_all (l : List FSl) (k : Nat) : hadK l k l.length = budK l k := rfl
theorem isOf_num {l : List FSl} {i q : Nat} (hi : i < l.length) (hq : q < l.length) : isOf (fsk l q) (fsk l (jobI l (numI l i))).2.nm (fsk l (jobI l (numI l i))).2.job ↔ numI l q = numI l i := by
  obtain ⟨_, _, a, _⟩ := jobI_num hi
  rw [eq_comm, sameJ_iff hi hq, a.1, a.2]
  exact Iff.rfl
theorem hadK_next {l : List FSl} {i q : Nat} (hi : i < l.length) (hq : q < l.length) : hadK l (numI l i) (q + 1) = hadK l (numI l i) q + if numI l q = numI l i then (fsk l q).2.bud else 0 := by
  unfold hadK
  by_cases h : numI l q = numI l i
  · rw [if_pos h, spotTo_yes ((isOf_num hi hq).2 h)]
  · rw [if_neg h, spotTo_no (fun h' => h ((isOf_num hi hq).1 h'))]
    rfl
theorem hadK_mono {l : List FSl} {i : Nat} (hi : i < l.length) (q : Nat) : ∀ d, q + d ≤ l.length → hadK l (numI l i) q ≤ hadK l (numI l i) (q + d)
  | 0, _ => Nat.le_refl _
  | d + 1, h => by
    have := hadK_mono hi q d (by omega)
    rw [← Nat.add_assoc, hadK_next hi (by omega)]
    omega
theorem hadK_le {l : List FSl} {i q : Nat} (hi : i < l.length) (hq : q ≤ l.length) : hadK l (numI l i) q ≤ budK l (numI l i) := by
  have := hadK_mono hi q (l.length - q) (by omega)
  rwa [show q + (l.length - q) = l.length by omega, hadK_all] at this
theorem num_surj {l : List FSl} : ∀ q, q ≤ l.length → ∀ k, k < cntTo l q → ∃ i, i < q ∧ numI l i = k ∧ jobI l k = i
  | 0, _, k, h => by simp [cntTo] at h
  | q + 1, hq, k, h => by
    rw [cntTo] at h
    split at h
    · rename_i e
      by_cases hk : k = cntTo l q
      · refine ⟨q, by omega, ?_, by rw [hk]; exact jobI_first (m := q) (by omega) e⟩
        unfold numI
        rw [e, hk]
        rfl
      · obtain ⟨i, a, b, c⟩ := num_surj (l := l) q (by omega) k (by omega)
        exact ⟨i, by omega, b, c⟩
    · obtain ⟨i, a, b, c⟩ := num_surj (l := l) q (by omega) k h
      exact ⟨i, by omega, b, c⟩
end Go.Proofs.YtbdffcjganlblaaGreatDoor

namespace Go.Proofs.YtbdffcjganlblaaGreatDoor
set_option linter.unusedVariables false
set_option linter.unusedSimpArgs false

/-! ### The program's run, as a walk over the jobs' numbers -/
structure PZ where
  left : Nat → Nat
  want : Nat → Int
  beg : Nat
  out : List UInt8
def setN (L : Nat → Nat) (k v : Nat) : Nat → Nat := fun j => if j = k then v else L j
def prBegin (l : List FSl) (cs : List Int) (k : Nat) (x : PZ) : PZ := ⟨setN x.left k (budK l k), setL x.want k (wantsL cs x.beg (budK l k)), x.beg + 1, x.out⟩
def prGive (l : List FSl) (k : Nat) (x : PZ) : PZ :=
  if x.want k = 0 then ⟨setN x.left k (x.left k - 1), x.want, x.beg, x.out ++ [46]⟩
  else ⟨setN x.left k (x.left k - 1), setL x.want k (x.want k - 1), x.beg, x.out ++ [nmK l k] ++ if x.left k - 1 = 0 ∧ 0 < x.want k - 1 then [33, nmK l k] else []⟩
def prTick (l : List FSl) (cs : List Int) (U : Option Nat) (x : PZ) : PZ :=
  match U with
  | none => ⟨x.left, x.want, x.beg, x.out ++ [46]⟩
  | some k => prGive l k (if x.left k = 0 then prBegin l cs k x else x)
def unitL (l : List FSl) (fr p : Nat) : Option Nat := (atL l fr p).map (numI l)
def prT (l : List FSl) (cyc fr : Nat) (cs : List Int) : Nat → PZ
  | 0 => ⟨fun _ => 0, fun _ => 0, 0, []⟩
  | u + 1 => prTick l cs (unitL l fr (u % cyc)) (prT l cyc fr cs u)

/-- What job k has had at the time p of the cycle, where slice i is the first that has not ended. -/
def usedK (l : List FSl) (fr i p k : Nat) : Nat := hadK l k i + if i < l.length ∧ numI l i = k then p - startI l fr i else 0
/-- How many jobs have begun in the cycle by then. -/
def begK (l : List FSl) (fr i p : Nat) : Nat := if i < l.length ∧ startI l fr i < p then cntTo l (i + 1) else cntTo l i
structure PI (l : List FSl) (fr c p i : Nat) (x : PZ) : Prop where
  i1 : i ≤ l.length
  i2 : ∀ k, k < i → stopI l fr k ≤ p
  i3 : i < l.length → p < stopI l fr i
  beg : x.beg = c * cntTo l l.length + begK l fr i p
  left : ∀ k, k < l.length → x.left (numI l k) = if usedK l fr i p (numI l k) = 0 then 0 else budK l (numI l k) - usedK l fr i p (numI l k)

theorem PI.none {l : List FSl} {cyc fr : Nat} (G : Goes l cyc fr) {c p i : Nat} {x : PZ} (h : PI l fr c p i x) (hg : i < l.length → p < startI l fr i) (o : List UInt8) : atL l fr p = none ∧ PI l fr c (p + 1) i ⟨x.left, x.want, x.beg, o⟩ ∧ ∀ k, usedK l fr i (p + 1) k = usedK l fr i p k := by
  have hu : ∀ k, usedK l fr i (p + 1) k = usedK l fr i p k := by
    intro k
    unfold usedK
    by_cases hc : i < l.length ∧ numI l i = k
    · have := hg hc.1
      rw [if_pos hc, if_pos hc]
      omega
    · rw [if_neg hc, if_neg hc]
  refine ⟨?_, ⟨h.i1, fun k hk => by have := h.i2 k hk; omega, fun hi => by have := hg hi; have := G.start_fin hi; omega, ?_, ?_⟩, hu⟩
  · apply at_none
    intro k hk h1 h2
    rcases Nat.lt_or_ge k i with h3 | h3
    · have := h.i2 k h3
      omega
    · have h4 := hg (by omega)
      rcases Nat.lt_or_ge i k with h5 | h5
      · have := G.lt h5 hk
        have := G.start_fin (i := i) (by omega)
        omega
      · have : k = i := by omega
        subst this
        omega
  · rw [h.beg]
    unfold begK
    by_cases hi : i < l.length
    · have := hg hi
      rw [if_neg (by omega), if_neg (by omega)]
    · rw [if_neg (by omega), if_neg (by omega)]
  · intro k hk
    rw [hu]
    exact h.left k hk
/-- Behind the tick of slice i. -/
theorem used_next {l : List FSl} {fr : Nat} {p i : Nat} (hi : i < l.length) (h1 : startI l fr i ≤ p) (h2 : p < stopI l fr i) {k : Nat} (hk : k < l.length) :
    usedK l fr i (p + 1) (numI l k) = usedK l fr i p (numI l k) + if numI l i = numI l k then 1 else 0 := by
  unfold usedK
  by_cases h : numI l i = numI l k
  · rw [if_pos ⟨hi, h⟩, if_pos ⟨hi, h⟩, if_pos h]
    omega
  · rw [if_neg (fun x => h x.2), if_neg (fun x => h x.2), if_neg h]
theorem used_end {l : List FSl} {cyc fr : Nat} (G : Goes l cyc fr) {i : Nat} (hi : i < l.length) {k : Nat} (hk : k < l.length) : usedK l fr (i + 1) (stopI l fr i) (numI l k) = usedK l fr i (stopI l fr i) (numI l k) := by
  unfold usedK
  rw [hadK_next hk hi]
  by_cases h : numI l i = numI l k
  · rw [if_pos h, if_pos (show i < l.length ∧ numI l i = numI l k from ⟨hi, h⟩)]
    have : stopI l fr i - startI l fr i = (fsk l i).2.bud := by unfold stopI; omega
    rw [this]
    split
    · rename_i hc
      have := G.next hc.1
      omega
    · omega
  · rw [if_neg h, if_neg (show ¬ (i < l.length ∧ numI l i = numI l k) from fun x => h x.2)]
    split
    · rename_i hc
      have := G.next hc.1
      omega
    · omega
theorem used_lt {l : List FSl} {fr : Nat} {p i : Nat} (hi : i < l.length) (h1 : startI l fr i ≤ p) (h2 : p < stopI l fr i) : usedK l fr i p (numI l i) < budK l (numI l i) := by
  have h3 := hadK_next (q := i) hi hi
  rw [if_pos rfl] at h3
  have h4 := hadK_le (q := i + 1) hi hi
  unfold usedK
  rw [if_pos ⟨hi, rfl⟩]
  unfold stopI at h2
  omega
theorem had_zero {l : List FSl} {cyc fr : Nat} (G : Goes l cyc fr) {i : Nat} (hi : i < l.length) : hadK l (numI l i) i = 0 ↔ jobI l (numI l i) = i := by
  obtain ⟨_, h2, h3, h4⟩ := jobI_num hi
  constructor
  · intro h
    rcases Nat.lt_or_ge (jobI l (numI l i)) i with h5 | h5
    · exfalso
      have a1 := hadK_next (i := i) (q := jobI l (numI l i)) hi (by omega)
      have a2 : numI l (jobI l (numI l i)) = numI l i := ((sameJ_iff hi (by omega)).2 h3).symm
      rw [if_pos a2] at a1
      have a3 := G.bud (jobI l (numI l i)) (by omega)
      have a4 := hadK_mono hi (jobI l (numI l i) + 1) (i - (jobI l (numI l i) + 1)) (by omega)
      rw [show jobI l (numI l i) + 1 + (i - (jobI l (numI l i) + 1)) = i by omega] at a4
      omega
    · omega
  · intro h
    have key : ∀ q, q ≤ i → hadK l (numI l i) q = 0 := by
      intro q
      induction q with
      | zero => intro _; rfl
      | succ q ih =>
        intro hq
        rw [hadK_next hi (by omega), ih (by omega), if_neg]
        intro e
        exact h4 q (by omega) ((sameJ_iff hi (by omega)).1 e.symm)
    exact key i (Nat.le_refl _)
/-- The job of slice i begins at this tick. -/
theorem used_zero {l : List FSl} {cyc fr : Nat} (G : Goes l cyc fr) {p i : Nat} (hi : i < l.length) (h1 : startI l fr i ≤ p) (h2 : p < stopI l fr i) : usedK l fr i p (numI l i) = 0 ↔ p = startI l fr (jobI l (numI l i)) := by
  obtain ⟨_, a2, _, _⟩ := jobI_num hi
  unfold usedK
  rw [if_pos ⟨hi, rfl⟩]
  constructor
  · intro h
    have := (had_zero G hi).1 (by omega)
    rw [this]
    omega
  · intro h
    have : jobI l (numI l i) = i := by
      rcases Nat.lt_or_ge (jobI l (numI l i)) i with h5 | h5
      · exfalso
        have b1 := G.lt h5 hi
        have b2 := G.start_fin (i := jobI l (numI l i)) (by omega)
        omega
      · omega
    have h0 := (had_zero G hi).2 this
    rw [this] at h
    omega
theorem lst_spec (l : List FSl) (n : UInt8) (k : Nat) : ∀ q, (∀ i, i < q → isOf (fsk l i) n k → (i : Int) ≤ (spotTo l n k q).lst) ∧ ((spotTo l n k q).lst = -1 ∨ ∃ m : Nat, (spotTo l n k q).lst = m ∧ m < q ∧ isOf (fsk l m) n k)
  | 0 => ⟨fun i h => by omega, .inl rfl⟩
  | q + 1 => by
    obtain ⟨a, b⟩ := lst_spec l n k q
    by_cases h : isOf (fsk l q) n k
    · rw [spotTo_yes h]
      refine ⟨fun i hi _ => ?_, .inr ⟨q, rfl, by omega, h⟩⟩
      show (i : Int) ≤ (q : Int)
      omega
    · rw [spotTo_no h]
      refine ⟨fun i hi ho => ?_, ?_⟩
      · rcases Nat.lt_or_ge i q with h5 | h5
        · exact a i h5 ho
        · have : i = q := by omega
          subst this
          exact absurd ho h
      · rcases b with b | ⟨m, b1, b2, b3⟩
        · exact .inl b
        · exact .inr ⟨m, b1, by omega, b3⟩
/-- The job of slice i has had all behind it. -/
theorem had_all {l : List FSl} {cyc fr : Nat} (G : Goes l cyc fr) {i : Nat} (hi : i < l.length) : hadK l (numI l i) (i + 1) = budK l (numI l i) ↔ (i : Int) = (spotI l i).lst := by
  obtain ⟨a, b⟩ := lst_spec l (fsk l i).2.nm (fsk l i).2.job l.length
  have e : (spotI l i).lst = (spotTo l (fsk l i).2.nm (fsk l i).2.job l.length).lst := rfl
  rw [← e] at a b
  have ai := a i hi ⟨rfl, rfl⟩
  constructor
  · intro h
    rcases b with b | ⟨m, b1, b2, b3⟩
    · omega
    · rcases Nat.lt_or_ge i m with h5 | h5
      · exfalso
        have hm : numI l m = numI l i := ((sameJ_iff hi b2).2 b3).symm
        have c1 := hadK_next (i := i) (q := m) hi b2
        rw [if_pos hm] at c1
        have c2 := G.bud m b2
        have c3 := hadK_le (q := m + 1) hi (by omega)
        have c4 := hadK_mono hi (i + 1) (m - (i + 1)) (by omega)
        rw [show i + 1 + (m - (i + 1)) = m by omega] at c4
        omega
      · omega
  · intro h
    have key : ∀ d, i + 1 + d ≤ l.length → hadK l (numI l i) (i + 1 + d) = hadK l (numI l i) (i + 1) := by
      intro d
      induction d with
      | zero => intro _; rfl
      | succ d ih =>
        intro hd
        rw [← Nat.add_assoc, hadK_next hi (by omega), ih (by omega), if_neg, Nat.add_zero]
        intro e2
        have := a (i + 1 + d) (by omega) ((sameJ_iff hi (by omega)).1 e2.symm)
        omega
    have := key (l.length - (i + 1)) (by omega)
    rw [show i + 1 + (l.length - (i + 1)) = l.length by omega, hadK_all] at this
    exact this.symm
theorem used_full {l : List FSl} {cyc fr : Nat} (G : Goes l cyc fr) {p i : Nat} (hi : i < l.length) (h1 : startI l fr i ≤ p) (h2 : p < stopI l fr i) : usedK l fr i p (numI l i) + 1 = budK l (numI l i) ↔ p + 1 = stopI l fr i ∧ (i : Int) = (spotI l i).lst := by
  have h3 := hadK_next (q := i) hi hi
  rw [if_pos rfl] at h3
  have h4 := hadK_le (q := i + 1) hi hi
  have h5 := had_all G hi
  unfold usedK
  rw [if_pos ⟨hi, rfl⟩]
  unfold stopI at *
  constructor
  · intro h
    have : p + 1 = startI l fr i + (fsk l i).2.bud := by omega
    exact ⟨this, h5.1 (by omega)⟩
  · rintro ⟨a, b⟩
    have := h5.2 b
    omega
end Go.Proofs.YtbdffcjganlblaaGreatDoor

namespace Go.Proofs.YtbdffcjganlblaaGreatDoor
set_option linter.unusedVariables false
set_option linter.unusedSimpArgs false

/-! ### One slice behind the other -/
/-- Each that is picked may run by what is left then. -/
def PickOk (js : List Jb) (ps : List Pr) : (Nat → Nat) → List (Nat × Nat) → Prop
  | _, [] => True
  | left, x :: r => freeJ js ps left x.1 = true ∧ PickOk js ps (updL left x.1 (left x.1 - x.2)) r
theorem pickOk_app {js : List Jb} {ps : List Pr} : ∀ {a b : List (Nat × Nat)} {left : Nat → Nat}, PickOk js ps left a → PickOk js ps (fun k => left k - gvn k a) b → PickOk js ps left (a ++ b)
  | [], b, left, _, h => by simpa [gvn] using h
  | x :: r, b, left, h1, h2 => by
    refine ⟨h1.1, pickOk_app h1.2 ?_⟩
    have : (fun k => updL left x.1 (left x.1 - x.2) k - gvn k r) = fun k => left k - gvn k (x :: r) := by
      funext k
      unfold updL
      rw [gvn]
      by_cases e : k = x.1
      · subst e
        rw [if_pos rfl, if_pos rfl]
        omega
      · rw [if_neg e, if_neg (fun h => e h.symm), Nat.zero_add]
    rw [this]
    exact h2
theorem fill_pick (js : List Jb) (ps : List Pr) (s e : Nat) : ∀ (f a : Nat) (left : Nat → Nat), PickOk js ps left (fillJ js ps s e f a left).1
  | 0, a, left => by rw [fillJ]; trivial
  | f + 1, a, left => by
    rw [fillJ]
    by_cases ha : a < e
    · rw [if_pos ha]
      cases hp : pickJ js ps left s e with
      | none => trivial
      | some k =>
        obtain ⟨p1, p2, p3, p4, p5, p6⟩ := pick_some hp
        rw [may_free, Bool.and_eq_true] at p4
        exact ⟨p4.2, fill_pick js ps s e f _ _⟩
    · rw [if_neg ha]
      trivial
theorem plan_pick (js : List Jb) (ps : List Pr) (fr : Nat) : ∀ (n s : Nat) (left : Nat → Nat), PickOk js ps left (planJ js ps fr n s left).1.flatten
  | 0, s, left => by rw [planJ]; trivial
  | n + 1, s, left => by
    rw [planJ]
    simp only [List.flatten_cons]
    refine pickOk_app (fill_pick js ps s (s + fr) fr s left) ?_
    have h := plan_pick js ps fr n (s + fr) (fillJ js ps s (s + fr) fr s left).2
    have : (fillJ js ps s (s + fr) fr s left).2 = fun k => left k - gvn k (fillJ js ps s (s + fr) fr s left).1 := by
      funext k
      have := (fill_ok js ps s (s + fr) fr s left).2.1 k
      omega
    rw [this] at h
    rw [this]
    exact h
theorem pick_at {js : List Jb} {ps : List Pr} : ∀ {P : List (Nat × Nat)} {left : Nat → Nat}, PickOk js ps left P → ∀ q (h : q < P.length), freeJ js ps (fun k => left k - gvn k (P.take q)) P[q].1 = true
  | x :: r, left, h, 0, _ => by simpa [gvn] using h.1
  | x :: r, left, h, q + 1, hq => by
    have ih := pick_at h.2 q (by simpa using hq)
    have : (fun k => updL left x.1 (left x.1 - x.2) k - gvn k (r.take q)) = fun k => left k - gvn k ((x :: r).take (q + 1)) := by
      funext k
      unfold updL
      rw [List.take_succ_cons, gvn]
      by_cases e : k = x.1
      · subst e
        rw [if_pos rfl, if_pos rfl]
        omega
      · rw [if_neg e, if_neg (fun h => e h.symm), Nat.zero_add]
    rw [this] at ih
    simpa using ih
theorem gvn_app (k : Nat) : ∀ (a b : List (Nat × Nat)), gvn k (a ++ b) = gvn k a + gvn k b
  | [], b => by simp [gvn]
  | x :: r, b => by rw [List.cons_append, gvn, gvn, gvn_app k r b]; omega
theorem gvF_flat (k : Nat) : ∀ (fs : List (List (Nat × Nat))), gvF k fs = gvn k fs.flatten
  | [] => rfl
  | f :: r => by rw [gvF, List.flatten_cons, gvn_app, gvF_flat k r]
section
variable {js : List Jb} {ps : List Pr} {cyc F : Nat}
/-- What a plan that goes is, slice by slice. -/
structure Flat (js : List Jb) (ps : List Pr) (F : Nat) (P : List (Nat × Nat)) (L : List FSl) : Prop where
  len : L.length = P.length
  is : ∀ q (h : q < P.length), P[q].1 < js.length ∧ (fsk L q).2 = ⟨(jk js P[q].1).ltr, (jk js P[q].1).num, P[q].2⟩ ∧ (jk js P[q].1).rel ≤ (fsk L q).1 * F ∧ ((fsk L q).1 + 1) * F ≤ (jk js P[q].1).dl ∧ 1 ≤ P[q].2
  free : ∀ q (h : q < P.length), freeJ js ps (fun k => (jk js k).cost - gvn k (P.take q)) P[q].1 = true
  all : ∀ k, k < js.length → gvn k P = (jk js k).cost
theorem flat_get (js : List Jb) : ∀ (fs : List (List (Nat × Nat))) (j q : Nat) (h : q < fs.flatten.length), ∃ i, ∃ hi : i < fs.length, fs.flatten[q] ∈ fs[i] ∧ fsk (flatF j (fs.map (outJ js))) q = (j + i, ⟨(jk js fs.flatten[q].1).ltr, (jk js fs.flatten[q].1).num, fs.flatten[q].2⟩)
  | [], j, q, h => by simp at h
  | f :: r, j, q, h => by
    by_cases hq : q < f.length
    · refine ⟨0, by simp, ?_, ?_⟩
      · simp only [List.flatten_cons, List.getElem_append_left hq, List.getElem_cons_zero]
        exact List.getElem_mem _
      · simp only [List.map_cons, flatF, List.flatten_cons]
        unfold fsk
        rw [List.getD_eq_getElem?_getD, List.getElem?_append_left (by simpa [outJ] using hq), List.getElem_append_left hq]
        simp [outJ, hq]
    · have hq2 : q - f.length < r.flatten.length := by rw [List.flatten_cons, List.length_append] at h; omega
      obtain ⟨i, hi, h1, h2⟩ := flat_get js r (j + 1) (q - f.length) hq2
      refine ⟨i + 1, by simp; omega, ?_, ?_⟩
      · simp only [List.flatten_cons, List.getElem_append_right (by omega : f.length ≤ q), List.getElem_cons_succ]
        exact h1
      · simp only [List.map_cons, flatF, List.flatten_cons]
        unfold fsk at h2 ⊢
        rw [List.getD_eq_getElem?_getD, List.getElem?_append_right (by simp [outJ]; omega), List.getElem_append_right (by omega)]
        rw [List.getD_eq_getElem?_getD] at h2
        simp only [List.length_map, outJ] at h2 ⊢
        rw [h2, show j + 1 + i = j + (i + 1) by omega]
theorem flat_plan (hg : goesJ js ps cyc F = true) : Flat js ps F (runJ js ps cyc F).1.flatten (flatF 0 (tabJ js ps cyc F).fs) := by
  unfold goesJ at hg
  unfold tabJ
  obtain ⟨a1, a2, a3⟩ := plan_ok js ps F (cyc / F) 0 (costJ js)
  have a4 := plan_pick js ps F (cyc / F) 0 (costJ js)
  unfold runJ at *
  generalize planJ js ps F (cyc / F) 0 (costJ js) = r at *
  have hdone : ∀ k, k < js.length → r.2 k = 0 := fun k hk => by
    unfold allJ at hg
    rw [List.all_eq_true] at hg
    have := hg k (by simpa using hk)
    simpa using this
  refine ⟨?_, ?_, ?_, ?_⟩
  · rw [flatF_len]
    show (r.1.map (outJ js)).flatten.length = _
    simp [List.length_flatten, outJ, Function.comp_def]
  · intro q hq
    obtain ⟨i, hi, h1, h2⟩ := flat_get js r.1 0 q hq
    have h3 := (sch_at a1 i hi).each _ h1
    rw [h2]
    rw [Nat.zero_add] at h3 ⊢
    refine ⟨h3.1, rfl, h3.2.1, ?_, h3.2.2.2⟩
    rw [Nat.succ_mul]
    exact h3.2.2.1
  · intro q hq
    exact pick_at a4 q hq
  · intro k hk
    rw [← gvF_flat]
    have h2 := a2 k
    have h3 := hdone k hk
    unfold costJ at h2
    omega
variable {P : List (Nat × Nat)} {L : List FSl}
end
end Go.Proofs.YtbdffcjganlblaaGreatDoor
