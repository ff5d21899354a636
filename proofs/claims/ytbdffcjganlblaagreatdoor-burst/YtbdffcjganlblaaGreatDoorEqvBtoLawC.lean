/-
  Own work. The first fault in the text's order is the one with the least place: both answers are one.
-/
import Derived.Test.YtbdffcjganlblaaGreatDoorPnLtoEqvA
import Derived.Test.YtbdffcjganlblaaGreatDoorPnItoPnJ
import Derived.Test.YtbdffcjganlblaaGreatDoorPuretoRefA
import Derived.ProofKit
import Derived.LaidMore
import Derived.OpenShut
import Derived.Stop.Joined
import Derived.Deep.Slices
import Derived.Test.YtbdffcjganlblaaGreatDoorTbMtoBuC
namespace Go.Proofs.YtbdffcjganlblaaGreatDoor
open Go.RowKit
set_option linter.unusedVariables false
set_option linter.unusedSimpArgs false

theorem findL_F (l : List (Tk × Nat)) (c : UInt8) : ∀ (f k : Nat), findL l c f k = findF (l.map Prod.fst) c f k
  | 0, k => rfl
  | f + 1, k => by rw [findL, findF, lk_fst, findL_F l c f (k + 1)]

theorem findF_split (ts : List Tk) (c : UInt8) : ∀ (m r j : Nat), (0 ≤ findF ts c m j → findF ts c (m + r) j = findF ts c m j) ∧ (findF ts c m j < 0 → findF ts c (m + r) j = findF ts c r (j + m))
  | 0, r, j => by
    constructor
    · intro h; simp [findF] at h
    · intro _; simp
  | m + 1, r, j => by
    have ih := findF_split ts c m r (j + 1)
    rw [show m + 1 + r = (m + r) + 1 by omega, findF, findF]
    split
    · constructor
      · intro _; rfl
      · intro h; omega
    · constructor
      · exact ih.1
      · intro h
        rw [ih.2 h, show j + 1 + m = j + (m + 1) by omega]

theorem find_dup (ts : List Tk) (k : Nat) (hk : k < ts.length) : findI ts (tsk ts k).nm < k ↔ 0 ≤ findF ts (tsk ts k).nm k 0 := by
  have hs := findF_split ts (tsk ts k).nm k (ts.length - k) 0
  have hl := findF_lt ts (tsk ts k).nm k 0
  rw [show k + (ts.length - k) = ts.length by omega] at hs
  unfold findI
  constructor
  · intro h
    rcases Int.lt_or_le (findF ts (tsk ts k).nm k 0) 0 with h1 | h1
    · rw [hs.2 h1, show ts.length - k = (ts.length - k - 1) + 1 by omega, findF, show 0 + k = k by omega, if_pos rfl] at h
      omega
    · exact h1
  · intro h
    rw [hs.1 h]
    omega

theorem timed_pl {t : Tk} {lo hi : Nat} (h : TPl t lo hi) (h0 : 0 ≤ timedI t) : t.q0 < (timedI t).toNat ∧ (timedI t).toNat < hi := by
  unfold TPl at h
  unfold timedI at h0 ⊢
  split
  · simp; omega
  · rename_i h1
    rw [if_neg h1] at h0
    split
    · simp; omega
    · rename_i h2
      rw [if_neg h2] at h0
      split
      · simp; omega
      · rename_i h3
        rw [if_neg h3] at h0
        split
        · simp; omega
        · rename_i h4
          rw [if_neg h4] at h0
          omega

theorem soon_stay {f : Nat × Nat} {e a : Nat} (h1 : f.1 ≠ 0) (h2 : f.2 ≤ a) : soon f e a = f := by
  unfold soon
  rw [if_neg]
  omega
theorem soon_zero (e a : Nat) : soon (0, 0) e a = (e, a) := by
  unfold soon
  rw [if_pos (.inl rfl)]

/-- The first fault so far. -/
def pT (l : List (Tk × Nat)) : Nat → Option (Nat × Nat)
  | 0 => none
  | k + 1 => match pT l k with
    | some x => some x
    | none => tE l k
def pP (l : List (Tk × Nat)) (ps : List Pr) : Nat → Option (Nat × Nat)
  | 0 => pT l l.length
  | k + 1 => match pP l ps k with
    | some x => some x
    | none => pE l (psk ps k)

theorem ckT_pT (l : List (Tk × Nat)) : ∀ (f k : Nat), (match pT l k with | some x => some x | none => ckT l f k) = pT l (k + f)
  | 0, k => by
    cases h : pT l k with
    | some x => simp [h]
    | none => simp [h, ckT]
  | f + 1, k => by
    have ih := ckT_pT l f (k + 1)
    rw [show k + (f + 1) = k + 1 + f by omega, ← ih, pT]
    cases h : pT l k with
    | some x => simp
    | none =>
      simp only [ckT]
      cases tE l k <;> rfl
theorem ckP_pP (l : List (Tk × Nat)) (ps : List Pr) : ∀ (f k : Nat), (match pP l ps k with | some x => some x | none => ckP l ps f k) = pP l ps (k + f)
  | 0, k => by
    cases h : pP l ps k with
    | some x => simp [h]
    | none => simp [h, ckP]
  | f + 1, k => by
    have ih := ckP_pP l ps f (k + 1)
    rw [show k + (f + 1) = k + 1 + f by omega, ← ih, pP]
    cases h : pP l ps k with
    | some x => simp
    | none =>
      simp only [ckP]
      cases pE l (psk ps k) <;> rfl

theorem checkR_eq (l : List (Tk × Nat)) (ps : List Pr) : checkR l ps = match pP l ps ps.length with
    | some x => some x
    | none => if cycI (l.map Prod.fst) = 0 then some (4, 0) else none := by
  have h1 := ckT_pT l l.length 0
  have h2 := ckP_pP l ps ps.length 0
  simp only [Nat.zero_add, pT, pP] at h1 h2
  unfold checkR
  rw [← h2, ← h1]
  cases ckT l l.length 0 with
  | some x => simp
  | none =>
    simp only
    cases ckP l ps ps.length 0 with
    | some x => simp
    | none => simp

/-- The document's fault so far, against the first one. -/
def Same (f : Nat × Nat) (o : Option (Nat × Nat)) (b : Nat) : Prop :=
  match o with
  | some x => f = x ∧ x.1 ≠ 0 ∧ x.2 < b
  | none => f = (0, 0)

theorem same_mono {f : Nat × Nat} {o : Option (Nat × Nat)} {b b' : Nat} (h : Same f o b) (hb : b ≤ b') : Same f o b' := by
  unfold Same at h ⊢
  cases o with
  | some x => exact ⟨h.1, h.2.1, by have := h.2.2; omega⟩
  | none => exact h

theorem mT_same {l : List (Tk × Nat)} {B : Nat → Nat} (hB : TB2 B (l.map Prod.fst)) : ∀ k, k ≤ l.length → Same (mT (l.map Prod.fst) k) (pT l k) (B k)
  | 0, _ => rfl
  | k + 1, hk => by
    have ih := mT_same hB k (by omega)
    have hpl := hB k (by rw [List.length_map]; omega)
    have hq : (tsk (l.map Prod.fst) k).q0 < B (k + 1) ∧ B k ≤ (tsk (l.map Prod.fst) k).q0 := by unfold TPl at hpl; omega
    have htm := timed_pl hpl
    have hd := find_dup (l.map Prod.fst) k (by rw [List.length_map]; omega)
    rw [mT, pT]
    cases h : pT l k with
    | some x =>
      rw [h] at ih
      obtain ⟨e1, e2, e3⟩ := ih
      rw [e1]
      have hs1 : stepT1 (l.map Prod.fst) k x = x := by
        unfold stepT1
        split
        · exact soon_stay e2 (by omega)
        · rfl
      have hs : stepT (l.map Prod.fst) k x = x := by
        unfold stepT
        rw [hs1]
        split
        · rename_i h0
          have := htm h0
          exact soon_stay e2 (by omega)
        · rfl
      rw [hs]
      exact ⟨rfl, e2, by omega⟩
    | none =>
      rw [h] at ih
      have e1 : mT (l.map Prod.fst) k = (0, 0) := ih
      rw [e1]
      simp only
      unfold tE stepT stepT1
      rw [lk_fst, findL_F]
      by_cases h1 : 0 ≤ findF (l.map Prod.fst) (tsk (l.map Prod.fst) k).nm k 0
      · rw [if_pos h1, if_pos (hd.2 h1), soon_zero]
        split
        · rename_i h0
          have := htm h0
          rw [soon_stay (by simp) (by simp; omega)]
          exact ⟨rfl, by simp, hq.1⟩
        · exact ⟨rfl, by simp, hq.1⟩
      · rw [if_neg h1, if_neg (fun h => h1 (hd.1 h))]
        split
        · rename_i h0
          have := htm h0
          rw [soon_zero]
          exact ⟨rfl, by simp, this.2⟩
        · rfl

theorem mP_same {l : List (Tk × Nat)} {ps : List Pr} {b : Nat} {B : Nat → Nat} (h0 : Same (mT (l.map Prod.fst) l.length) (pT l l.length) b) (hb : b ≤ B 0) (hB : PB2 B ps) : ∀ k, k ≤ ps.length → Same (mP (l.map Prod.fst) ps k) (pP l ps k) (B k)
  | 0, _ => by
    rw [mP, pP, List.length_map]
    exact same_mono h0 hb
  | k + 1, hk => by
    have ih := mP_same h0 hb hB k (by omega)
    have hpl := hB k (by omega)
    rw [mP, pP]
    generalize psk ps k = p at *
    have hq : B k ≤ p.q0 ∧ p.q0 < p.q1 ∧ p.q1 < B (k + 1) := hpl
    cases h : pP l ps k with
    | some x =>
      rw [h] at ih
      obtain ⟨e1, e2, e3⟩ := ih
      rw [e1]
      have hs1 : stepP1 (l.map Prod.fst) p x = x := by
        unfold stepP1
        split
        · exact soon_stay e2 (by omega)
        · rfl
      have hs2 : stepP2 (l.map Prod.fst) p x = x := by
        unfold stepP2
        rw [hs1]
        split
        · exact soon_stay e2 (by omega)
        · rfl
      have hs : stepP (l.map Prod.fst) p x = x := by
        unfold stepP
        rw [hs2]
        split
        · exact soon_stay e2 (by omega)
        · rfl
      rw [hs]
      exact ⟨rfl, e2, by omega⟩
    | none =>
      rw [h] at ih
      have e1 : mP (l.map Prod.fst) ps k = (0, 0) := ih
      rw [e1]
      simp only
      have ef : ∀ c, findL l c l.length 0 = findI (l.map Prod.fst) c := fun c => by
        rw [findL_F]
        unfold findI
        rw [List.length_map]
      unfold pE stepP stepP2 stepP1 badPair
      simp only [ef, lk_fst]
      by_cases ha : findI (l.map Prod.fst) p.a < 0
      · have ha' : ¬ 0 ≤ findI (l.map Prod.fst) p.a := by omega
        simp only [if_pos ha, ha', decide_false, Bool.false_and, Bool.false_eq_true, if_false, soon_zero]
        have e : soon (3, p.q0) 3 p.q1 = (3, p.q0) := soon_stay (by simp) (by simp; omega)
        rw [e]
        have e2 : (if findI (l.map Prod.fst) p.b < 0 then ((3, p.q0) : Nat × Nat) else (3, p.q0)) = (3, p.q0) := by split <;> rfl
        rw [e2]
        exact ⟨rfl, by simp, by simp; omega⟩
      · have ha' : 0 ≤ findI (l.map Prod.fst) p.a := by omega
        simp only [if_neg ha]
        by_cases hb' : findI (l.map Prod.fst) p.b < 0
        · have hb'' : ¬ 0 ≤ findI (l.map Prod.fst) p.b := by omega
          simp only [if_pos hb', hb'', decide_false, Bool.and_false, Bool.false_and, Bool.false_eq_true, if_false, soon_zero]
          exact ⟨rfl, by simp, hq.2.2⟩
        · have hb'' : 0 ≤ findI (l.map Prod.fst) p.b := by omega
          simp only [if_neg hb', ha', hb'', decide_true, Bool.true_and]
          by_cases he : findI (l.map Prod.fst) p.a = findI (l.map Prod.fst) p.b
          · simp only [if_pos he, he, decide_true, Bool.true_or, if_true, soon_zero]
            exact ⟨rfl, by simp, hq.2.2⟩
          · simp only [if_neg he, he, decide_false, Bool.false_or]
            by_cases hp : p.ap = false ∧ (tsk (l.map Prod.fst) (findI (l.map Prod.fst) p.a).toNat).P ≠ (tsk (l.map Prod.fst) (findI (l.map Prod.fst) p.b).toNat).P
            · rw [if_pos hp, if_pos (by simp [hp.1, hp.2]), soon_zero]
              exact ⟨rfl, by simp, hq.2.2⟩
            · rw [if_neg hp, if_neg (by
                intro h
                simp at h
                exact hp h)]
              rfl

theorem meant_same {l : List UInt8} {ts : List (Tk × Nat)} {ps : List Pr} (h : pSet (allToks l) = .ok (ts.map Prod.fst, ps)) : ∃ b, Same (meantI (ts.map Prod.fst) ps) (pP ts ps ps.length) b := by
  obtain ⟨B, B', h1, h2, h3⟩ := pSet_pl h
  rw [List.length_map] at h3
  exact ⟨_, mP_same (mT_same h1 ts.length (Nat.le_refl _)) h3 h2 ps.length (Nat.le_refl _)⟩

theorem knownR_some {l : List UInt8} {ts : List (Tk × Nat)} {ps : List Pr} {f : Nat × Nat} (hl : l.length ≤ 400) (h : pSet (allToks l) = .ok (ts.map Prod.fst, ps)) (hc : checkR ts ps = some f) : knownR l = .error f := by
  obtain ⟨b, hs⟩ := meant_same h
  rw [checkR_eq] at hc
  unfold knownR
  rw [if_neg (by omega), h]
  simp only
  cases hp : pP ts ps ps.length with
  | some x =>
    rw [hp] at hs hc
    obtain ⟨e1, e2, _⟩ := hs
    simp only [Option.some.injEq] at hc
    rw [e1, if_pos e2, hc]
  | none =>
    rw [hp] at hs hc
    have e1 : meantI (ts.map Prod.fst) ps = (0, 0) := hs
    rw [e1, if_neg (by simp)]
    simp only at hc
    split at hc
    · rename_i h0
      rw [if_pos h0]
      simp only [Option.some.injEq] at hc
      rw [hc]
    · simp at hc
theorem knownR_none {l : List UInt8} {ts : List (Tk × Nat)} {ps : List Pr} (hl : l.length ≤ 400) (h : pSet (allToks l) = .ok (ts.map Prod.fst, ps)) (hc : checkR ts ps = none) : knownR l = .ok (ts.map Prod.fst, ps) := by
  obtain ⟨b, hs⟩ := meant_same h
  rw [checkR_eq] at hc
  unfold knownR
  rw [if_neg (by omega), h]
  simp only
  cases hp : pP ts ps ps.length with
  | some x => rw [hp] at hc; simp at hc
  | none =>
    rw [hp] at hs hc
    have e1 : meantI (ts.map Prod.fst) ps = (0, 0) := hs
    rw [e1, if_neg (by simp)]
    simp only at hc
    split at hc
    · simp at hc
    · rename_i h0
      rw [if_neg h0]

end Go.Proofs.YtbdffcjganlblaaGreatDoor

namespace Go.Proofs.YtbdffcjganlblaaGreatDoor
set_option linter.unusedVariables false
set_option linter.unusedSimpArgs false

theorem findF_spec (ts : List Tk) (c : UInt8) : ∀ (f k : Nat), (0 ≤ findF ts c f k → ∃ i : Nat, findF ts c f k = i ∧ k ≤ i ∧ i < k + f ∧ (tsk ts i).nm = c) ∧ (findF ts c f k < 0 → ∀ i, k ≤ i → i < k + f → (tsk ts i).nm ≠ c)
  | 0, k => ⟨fun h => by simp [findF] at h, fun _ i h1 h2 => by omega⟩
  | f + 1, k => by
    have ih := findF_spec ts c f (k + 1)
    rw [findF]
    by_cases h : (tsk ts k).nm = c
    · rw [if_pos h]
      exact ⟨fun _ => ⟨k, rfl, Nat.le_refl _, by omega, h⟩, fun h2 => by omega⟩
    · rw [if_neg h]
      refine ⟨fun h2 => ?_, fun h2 i h3 h4 => ?_⟩
      · obtain ⟨i, a1, a2, a3, a4⟩ := ih.1 h2
        exact ⟨i, a1, by omega, by omega, a4⟩
      · by_cases e : i = k
        · rw [e]; exact h
        · exact ih.2 h2 i (by omega) (by omega)
theorem tsk_get {ts : List Tk} {k : Nat} (h : k < ts.length) : ts[k] = tsk ts k := by
  unfold tsk
  rw [List.getD_eq_getElem?_getD, List.getElem?_eq_getElem h]
  rfl
theorem lcm_dvd (h P : Nat) (hh : 1 ≤ h) : h ∣ h / Nat.gcd h P * P ∧ P ∣ h / Nat.gcd h P * P := by
  refine ⟨?_, Nat.dvd_mul_left _ _⟩
  have h1 := Nat.gcd_dvd_left h P
  have h2 := Nat.gcd_dvd_right h P
  obtain ⟨q, hq⟩ := h2
  have h3 : h / Nat.gcd h P * P = h * q := by
    have : h / Nat.gcd h P * P = h / Nat.gcd h P * (Nat.gcd h P * q) := by rw [← hq]
    rw [this, ← Nat.mul_assoc, Nat.div_mul_cancel h1]
  rw [h3]
  exact Nat.dvd_mul_right _ _
theorem cycF_ok (ts : List Tk) : ∀ (f k h : Nat), 1 ≤ h → h ≤ 60 → (∀ i, k ≤ i → i < k + f → 1 ≤ (tsk ts i).P) → cycF ts f k h ≠ 0 → 1 ≤ cycF ts f k h ∧ cycF ts f k h ≤ 60 ∧ h ∣ cycF ts f k h ∧ ∀ i, k ≤ i → i < k + f → (tsk ts i).P ∣ cycF ts f k h
  | 0, k, h, h1, h2, _, _ => ⟨h1, h2, Nat.dvd_refl _, fun i a b => by omega⟩
  | f + 1, k, h, h1, h2, hP, hne => by
    rw [cycF] at hne ⊢
    by_cases h6 : 60 < h / Nat.gcd h (tsk ts k).P * (tsk ts k).P
    · rw [if_pos h6] at hne
      exact absurd rfl hne
    · rw [if_neg h6] at hne ⊢
      have hd := lcm_dvd h (tsk ts k).P h1
      obtain ⟨a1, a2, a3, a4⟩ := cycF_ok ts f (k + 1) _ (lcm_pos h _ h1 (hP k (Nat.le_refl _) (by omega))) (by omega) (fun i b1 b2 => hP i (by omega) (by omega)) hne
      refine ⟨a1, a2, Nat.dvd_trans hd.1 a3, fun i b1 b2 => ?_⟩
      by_cases e : i = k
      · rw [e]; exact Nat.dvd_trans hd.2 a3
      · exact a4 i (by omega) (by omega)
theorem timed_all {t : Tk} (h : timedI t < 0) : 1 ≤ t.P ∧ 1 ≤ t.C ∧ t.C ≤ t.D ∧ t.O + t.D ≤ t.P := by
  unfold timedI at h
  repeat (split at h; omega)
  omega
theorem ckP_none {l : List (Tk × Nat)} {ps : List Pr} : ∀ (f k : Nat), ckP l ps f k = none → ∀ j, k ≤ j → j < k + f → pE l (psk ps j) = none
  | 0, k, _, j, h1, h2 => by omega
  | f + 1, k, h, j, h1, h2 => by
    rw [ckP] at h
    cases ht : pE l (psk ps k) with
    | some x => rw [ht] at h; simp at h
    | none =>
      rw [ht] at h
      by_cases e : j = k
      · rw [e]; exact ht
      · exact ckP_none f (k + 1) h j (by omega) (by omega)

/-- The tasks that a pair names. -/
structure PairT (ts : List Tk) (p : Pr) (i j : Nat) : Prop where
  fa : findI ts p.a = i
  fb : findI ts p.b = j
  hi : i < ts.length
  hj : j < ts.length
  a : (tsk ts i).nm = p.a
  b : (tsk ts j).nm = p.b
  ne : i ≠ j
  bef : p.ap = false → (tsk ts i).P = (tsk ts j).P

theorem pE_none {l : List (Tk × Nat)} {p : Pr} (h : pE l p = none) : ∃ i j, PairT (l.map Prod.fst) p i j := by
  have ef : ∀ c, findL l c l.length 0 = findI (l.map Prod.fst) c := fun c => by
    rw [findL_F]
    unfold findI
    rw [List.length_map]
  unfold pE at h
  simp only [ef, lk_fst] at h
  split at h
  · simp at h
  · split at h
    · simp at h
    · split at h
      · simp at h
      · split at h
        · simp at h
        · rename_i h1 h2 h3 h4
          obtain ⟨i, a1, a2, a3, a4⟩ := (findF_spec (l.map Prod.fst) p.a (l.map Prod.fst).length 0).1 (by unfold findI at h1; omega)
          obtain ⟨j, b1, b2, b3, b4⟩ := (findF_spec (l.map Prod.fst) p.b (l.map Prod.fst).length 0).1 (by unfold findI at h2; omega)
          have e1 : findI (l.map Prod.fst) p.a = i := a1
          have e2 : findI (l.map Prod.fst) p.b = j := b1
          rw [e1, e2] at h3 h4
          refine ⟨i, j, e1, e2, by omega, by omega, a4, b4, by omega, fun hap => ?_⟩
          simp only [Int.toNat_natCast] at h4
          exact Classical.byContradiction (fun hne => h4 ⟨hap, hne⟩)

theorem check_right {l : List (Tk × Nat)} {ps : List Pr} (h : checkR l ps = none) (hn : l.length ≤ 6) (hm : ps.length ≤ 6) : TsOk (l.map Prod.fst) (cycI (l.map Prod.fst)) ∧ PrOk l (cycI (l.map Prod.fst)) ps ∧ ∀ p ∈ ps, ∃ i j, PairT (l.map Prod.fst) p i j := by
  unfold checkR at h
  cases hc : ckT l l.length 0 with
  | some x => rw [hc] at h; simp at h
  | none =>
    rw [hc] at h
    simp only at h
    cases hp : ckP l ps ps.length 0 with
    | some x => rw [hp] at h; simp at h
    | none =>
      rw [hp] at h
      simp only at h
      have hnz : cycI (l.map Prod.fst) ≠ 0 := fun e => by rw [if_pos e] at h; simp at h
      have hT := fun k (hk : k < l.length) => ckT_none l.length 0 hc k (by omega) (by omega)
      have hlen : (l.map Prod.fst).length = l.length := List.length_map _
      have htm : ∀ k, k < (l.map Prod.fst).length → timedI (tsk (l.map Prod.fst) k) < 0 := fun k hk => by
        have := tE_none (hT k (by omega))
        rw [lk_fst] at this
        exact this
      have hge : ∀ k (hk : k < (l.map Prod.fst).length), (l.map Prod.fst)[k] = tsk (l.map Prod.fst) k := fun k hk => tsk_get hk
      obtain ⟨c1, c2, _, c4⟩ := cycF_ok (l.map Prod.fst) (l.map Prod.fst).length 0 1 (Nat.le_refl _) (by omega) (fun i _ h2 => (timed_all (htm i (by omega))).1) hnz
      have hts : TsOk (l.map Prod.fst) (cycI (l.map Prod.fst)) := by
        refine ⟨?_, by omega, c1, c2, fun t ht => ?_⟩
        · rw [List.Nodup, List.pairwise_iff_getElem]
          intro i j hi hj hij e
          have hj' : j < l.length := by simpa using hj
          have hi' : i < (l.map Prod.fst).length := by simpa using hi
          have hjm : j < (l.map Prod.fst).length := by simpa using hj
          have e : ((l.map Prod.fst)[i]).nm = ((l.map Prod.fst)[j]).nm := by simpa using e
          rw [hge i hi', hge j hjm] at e
          have h5 := hT j hj'
          unfold tE at h5
          rw [lk_fst, findL_F] at h5
          split at h5
          · simp at h5
          · rename_i h6
            exact (findF_spec (l.map Prod.fst) _ j 0).2 (by omega) i (by omega) (by omega) e
        · obtain ⟨k, hk, rfl⟩ := List.getElem_of_mem ht
          rw [hge k hk]
          have h5 := timed_all (htm k hk)
          exact ⟨h5.1, Nat.mod_eq_zero_of_dvd (c4 k (by omega) (by omega)), h5.2.1, h5.2.2.1, h5.2.2.2⟩
      have hpr : ∀ p ∈ ps, ∃ i j, PairT (l.map Prod.fst) p i j := fun p hpp => by
        obtain ⟨k, hk, rfl⟩ := List.getElem_of_mem hpp
        have h5 := ckP_none ps.length 0 hp k (by omega) (by omega)
        have e : psk ps k = ps[k] := by simp [psk, List.getD_eq_getElem?_getD, hk]
        rw [e] at h5
        exact pE_none h5
      have hin : ∀ {k : Nat} {c : UInt8}, k < (l.map Prod.fst).length → (tsk (l.map Prod.fst) k).nm = c → c ∈ l.map (·.1.nm) := fun {k c} hk e => by
        rw [← e, ← hge k hk]
        have hk' : k < l.length := by simpa using hk
        exact List.mem_map.2 ⟨l[k], List.getElem_mem _, by simp⟩
      refine ⟨hts, ⟨fun p hpp => ?_, fun p hpp => ?_, fun p hpp hap i j hi hj ea eb => ?_, hm⟩, hpr⟩
      · obtain ⟨i, j, P⟩ := hpr p hpp
        exact hin P.hi P.a
      · obtain ⟨i, j, P⟩ := hpr p hpp
        exact hin P.hj P.b
      · obtain ⟨i', j', P⟩ := hpr p hpp
        have hi' : i < (l.map Prod.fst).length := by simpa using hi
        have hj' : j < (l.map Prod.fst).length := by simpa using hj
        have g1 : (l.map Prod.fst)[i] = l[i].1 := by simp
        have g2 : (l.map Prod.fst)[j] = l[j].1 := by simp
        have e1 : i = i' := names_inj hts.name hi' P.hi (by rw [hge i' P.hi, P.a, g1]; exact ea)
        have e2 : j = j' := names_inj hts.name hj' P.hj (by rw [hge j' P.hj, P.b, g2]; exact eb)
        have hb := P.bef hap
        rw [← e1, ← e2, ← hge i hi', ← hge j hj', g1, g2] at hb
        exact hb
end Go.Proofs.YtbdffcjganlblaaGreatDoor

namespace Go.Proofs.YtbdffcjganlblaaGreatDoor
open Go.ChangeShapes Go.WideShapes Go.ChangeAt Go.RowKit Go.Deep
set_option linter.unusedVariables false
set_option linter.unusedSimpArgs false

theorem own : ownKnob Tryz.prog.godebug = none := by kernel_rfl
theorem laidOut : laidOutB Tryz.prog = true := by kernel_rfl
theorem cellsOp : Tryz.prog.cellsOf 27 = 6 := by kernel_rfl
theorem cellsInt : Tryz.prog.cellsOf 3 = 1 := by kernel_rfl
theorem cellsStr : Tryz.prog.cellsOf 9 = 1 := by kernel_rfl
theorem cellsSl : Tryz.prog.cellsOf 25 = 1 := by kernel_rfl

theorem lt_of_cell {w : World} {b off : Nat} {o : Option Value} (h : w.cell? ⟨b, off, none⟩ = o) (ho : o.isSome = true) : b < w.heap.size := by
  rcases Nat.lt_or_ge b w.heap.size with h1 | h1
  · exact h1
  · rw [← h] at ho
    simp [World.cell?, Array.getElem?_eq_none h1] at ho

section
variable {H : Type} {enc : TypeId × Value → H} {w : World} {base : Nat} {spare : Nat → Bool} {held : Bool}

end

end Go.Proofs.YtbdffcjganlblaaGreatDoor

namespace Go.Proofs.YtbdffcjganlblaaGreatDoor
open Go.RowKit
set_option linter.unusedVariables false
set_option linter.unusedSimpArgs false

/-! ### What is packed is unpacked; what is unpacked was packed -/
theorem tab_fine {l : List UInt8} {t : Tb} (h : TabOk l t) : ChkOk t := ⟨h.2.2.1, (pTab_small h.1 h.2.1).2⟩
theorem tab_one {l : List UInt8} {t t' : Tb} (h : TabOk l t) (h' : TabOk l t') : t = t' := by
  have := h.2.1
  rw [h'.2.1] at this
  exact (Option.some.inj this).symm
theorem pack_unp {t : Tb} (h : ChkOk t) : UnpOk (packB t) t := by
  refine ⟨?_, bodyB t, rfl, bTab_pack h.1, h⟩
  have := bodyB_len h.1
  unfold packB
  rw [List.length_append, show (sumL (bodyB t)).length = 4 from rfl]
  omega
theorem unp_one {l : List UInt8} {t t' : Tb} (h : UnpOk l t) (h' : UnpOk l t') : t = t' := by
  obtain ⟨_, b, e, h1, _⟩ := h
  obtain ⟨_, b', e', h1', _⟩ := h'
  have hl := congrArg List.length (e.symm.trans e')
  rw [List.length_append, List.length_append, show (sumL b).length = 4 from rfl, show (sumL b').length = 4 from rfl] at hl
  have hb : b = b' := by
    have := congrArg (List.take b.length) (e.symm.trans e')
    rw [List.take_left', List.take_append_of_le_length (by omega), show b.length = b'.length by omega, List.take_length] at this
    · exact this
    · rfl
  subst hb
  rw [h1] at h1'
  exact Option.some.inj h1'
theorem unp_tab {l : List UInt8} {t : Tb} (h : UnpOk l t) : TabOk (tbTxt t) t ∧ packB t = l := by
  obtain ⟨_, b, e, h1, h2, h3⟩ := h
  obtain ⟨f1, f2, f3, f4, f5⟩ := h2.frames
  have hc := h2.c2
  have hs := h2.small
  refine ⟨⟨tbTxt_len h2, pTab_txt t (by omega) (by omega) (fun x hx s hsx => ⟨h3 x hx s hsx, by have := (hs x hx).2 s hsx; omega, by have := (hs x hx).2 s hsx; omega⟩), h2, rfl⟩, ?_⟩
  unfold packB
  rw [bTab_inv h1, e]

set_option maxRecDepth 100000 in
theorem num_any (n : Nat) (w : World) : Calls Tryz.prog 15 #[.int .i64 n] w fun e w' => e = .returned (.int .i64 n) ∧ w' = w := by
  go_enter Tryz.func15, Tryz.ntmps15
  go_wp2
  go_ret
  exact ⟨rfl, rfl⟩

end Go.Proofs.YtbdffcjganlblaaGreatDoor
