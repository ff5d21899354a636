/-
  Own work. The first fault in the text's order is the one with the least place: both answers are one.
-/
import Derived.Test.YtbdffcjganlblaaGreatDoorEqvA
namespace Go.Proofs.YtbdffcjganlblaaGreatDoor
open Go.RowKit
set_option linter.unusedVariables false
set_option linter.unusedSimpArgs false

theorem findL_F (l : List (Tk × Nat)) (c : UInt8) : ∀ (f k : Nat), findL l c f k = findF (l.map Prod.fst) c f k
  | 0, k => rfl
  | f + 1, k => by rw [findL, findF, lk_fst, findL_F l c f (k + 1)]

theorem findF_split (ts : List Tk) (c : UInt8) : ∀ (m r j : Nat), (0 ≤ findF ts c m j → findF ts c (m + r) j = findF ts c m j) ∧ (findF ts c m j < 0 → findF ts c (m + r) j = findF ts c r (j + m))
  | 0, r, j => by
    constructor
    · intro h; simp [findF] at h
    · intro _; simp
  | m + 1, r, j => by
    have ih := findF_split ts c m r (j + 1)
    rw [show m + 1 + r = (m + r) + 1 by omega, findF, findF]
    split
    · constructor
      · intro _; rfl
      · intro h; omega
    · constructor
      · exact ih.1
      · intro h
        rw [ih.2 h, show j + 1 + m = j + (m + 1) by omega]

theorem find_dup (ts : List Tk) (k : Nat) (hk : k < ts.length) : findI ts (tsk ts k).nm < k ↔ 0 ≤ findF ts (tsk ts k).nm k 0 := by
  have hs := findF_split ts (tsk ts k).nm k (ts.length - k) 0
  have hl := findF_lt ts (tsk ts k).nm k 0
  rw [show k + (ts.length - k) = ts.length by omega] at hs
  unfold findI
  constructor
  · intro h
    rcases Int.lt_or_le (findF ts (tsk ts k).nm k 0) 0 with h1 | h1
    · rw [hs.2 h1, show ts.length - k = (ts.length - k - 1) + 1 by omega, findF, show 0 + k = k by omega, if_pos rfl] at h
      omega
    · exact h1
  · intro h
    rw [hs.1 h]
    omega

theorem timed_pl {t : Tk} {lo hi : Nat} (h : TPl t lo hi) (h0 : 0 ≤ timedI t) : t.q0 < (timedI t).toNat ∧ (timedI t).toNat < hi := by
  unfold TPl at h
  unfold timedI at h0 ⊢
  split
  · simp; omega
  · rename_i h1
    rw [if_neg h1] at h0
    split
    · simp; omega
    · rename_i h2
      rw [if_neg h2] at h0
      split
      · simp; omega
      · rename_i h3
        rw [if_neg h3] at h0
        split
        · simp; omega
        · rename_i h4
          rw [if_neg h4] at h0
          omega

theorem soon_stay {f : Nat × Nat} {e a : Nat} (h1 : f.1 ≠ 0) (h2 : f.2 ≤ a) : soon f e a = f := by
  unfold soon
  rw [if_neg]
  omega
theorem soon_zero (e a : Nat) : soon (0, 0) e a = (e, a) := by
  unfold soon
  rw [if_pos (.inl rfl)]

/-- The first fault so far. -/
def pT (l : List (Tk × Nat)) : Nat → Option (Nat × Nat)
  | 0 => none
  | k + 1 => match pT l k with
    | some x => some x
    | none => tE l k
def pP (l : List (Tk × Nat)) (ps : List Pr) : Nat → Option (Nat × Nat)
  | 0 => pT l l.length
  | k + 1 => match pP l ps k with
    | some x => some x
    | none => pE l (psk ps k)

theorem ckT_pT (l : List (Tk × Nat)) : ∀ (f k : Nat), (match pT l k with | some x => some x | none => ckT l f k) = pT l (k + f)
  | 0, k => by
    cases h : pT l k with
    | some x => simp [h]
    | none => simp [h, ckT]
  | f + 1, k => by
    have ih := ckT_pT l f (k + 1)
    rw [show k + (f + 1) = k + 1 + f by omega, ← ih, pT]
    cases h : pT l k with
    | some x => simp
    | none =>
      simp only [ckT]
      cases tE l k <;> rfl
theorem ckP_pP (l : List (Tk × Nat)) (ps : List Pr) : ∀ (f k : Nat), (match pP l ps k with | some x => some x | none => ckP l ps f k) = pP l ps (k + f)
  | 0, k => by
    cases h : pP l ps k with
    | some x => simp [h]
    | none => simp [h, ckP]
  | f + 1, k => by
    have ih := ckP_pP l ps f (k + 1)
    rw [show k + (f + 1) = k + 1 + f by omega, ← ih, pP]
    cases h : pP l ps k with
    | some x => simp
    | none =>
      simp only [ckP]
      cases pE l (psk ps k) <;> rfl

theorem checkR_eq (l : List (Tk × Nat)) (ps : List Pr) : checkR l ps = match pP l ps ps.length with
    | some x => some x
    | none => if cycI (l.map Prod.fst) = 0 then some (4, 0) else none := by
  have h1 := ckT_pT l l.length 0
  have h2 := ckP_pP l ps ps.length 0
  simp only [Nat.zero_add, pT, pP] at h1 h2
  unfold checkR
  rw [← h2, ← h1]
  cases ckT l l.length 0 with
  | some x => simp
  | none =>
    simp only
    cases ckP l ps ps.length 0 with
    | some x => simp
    | none => simp

/-- The document's fault so far, against the first one. -/
def Same (f : Nat × Nat) (o : Option (Nat × Nat)) (b : Nat) : Prop :=
  match o with
  | some x => f = x ∧ x.1 ≠ 0 ∧ x.2 < b
  | none => f = (0, 0)

theorem same_mono {f : Nat × Nat} {o : Option (Nat × Nat)} {b b' : Nat} (h : Same f o b) (hb : b ≤ b') : Same f o b' := by
  unfold Same at h ⊢
  cases o with
  | some x => exact ⟨h.1, h.2.1, by have := h.2.2; omega⟩
  | none => exact h

theorem mT_same {l : List (Tk × Nat)} {B : Nat → Nat} (hB : TB2 B (l.map Prod.fst)) : ∀ k, k ≤ l.length → Same (mT (l.map Prod.fst) k) (pT l k) (B k)
  | 0, _ => rfl
  | k + 1, hk => by
    have ih := mT_same hB k (by omega)
    have hpl := hB k (by rw [List.length_map]; omega)
    have hq : (tsk (l.map Prod.fst) k).q0 < B (k + 1) ∧ B k ≤ (tsk (l.map Prod.fst) k).q0 := by unfold TPl at hpl; omega
    have htm := timed_pl hpl
    have hd := find_dup (l.map Prod.fst) k (by rw [List.length_map]; omega)
    rw [mT, pT]
    cases h : pT l k with
    | some x =>
      rw [h] at ih
      obtain ⟨e1, e2, e3⟩ := ih
      rw [e1]
      have hs1 : stepT1 (l.map Prod.fst) k x = x := by
        unfold stepT1
        split
        · exact soon_stay e2 (by omega)
        · rfl
      have hs : stepT (l.map Prod.fst) k x = x := by
        unfold stepT
        rw [hs1]
        split
        · rename_i h0
          have := htm h0
          exact soon_stay e2 (by omega)
        · rfl
      rw [hs]
      exact ⟨rfl, e2, by omega⟩
    | none =>
      rw [h] at ih
      have e1 : mT (l.map Prod.fst) k = (0, 0) := ih
      rw [e1]
      simp only
      unfold tE stepT stepT1
      rw [lk_fst, findL_F]
      by_cases h1 : 0 ≤ findF (l.map Prod.fst) (tsk (l.map Prod.fst) k).nm k 0
      · rw [if_pos h1, if_pos (hd.2 h1), soon_zero]
        split
        · rename_i h0
          have := htm h0
          rw [soon_stay (by simp) (by simp; omega)]
          exact ⟨rfl, by simp, hq.1⟩
        · exact ⟨rfl, by simp, hq.1⟩
      · rw [if_neg h1, if_neg (fun h => h1 (hd.1 h))]
        split
        · rename_i h0
          have := htm h0
          rw [soon_zero]
          exact ⟨rfl, by simp, this.2⟩
        · rfl

theorem mP_same {l : List (Tk × Nat)} {ps : List Pr} {b : Nat} {B : Nat → Nat} (h0 : Same (mT (l.map Prod.fst) l.length) (pT l l.length) b) (hb : b ≤ B 0) (hB : PB2 B ps) : ∀ k, k ≤ ps.length → Same (mP (l.map Prod.fst) ps k) (pP l ps k) (B k)
  | 0, _ => by
    rw [mP, pP, List.length_map]
    exact same_mono h0 hb
  | k + 1, hk => by
    have ih := mP_same h0 hb hB k (by omega)
    have hpl := hB k (by omega)
    rw [mP, pP]
    generalize psk ps k = p at *
    have hq : B k ≤ p.q0 ∧ p.q0 < p.q1 ∧ p.q1 < B (k + 1) := hpl
    cases h : pP l ps k with
    | some x =>
      rw [h] at ih
      obtain ⟨e1, e2, e3⟩ := ih
      rw [e1]
      have hs1 : stepP1 (l.map Prod.fst) p x = x := by
        unfold stepP1
        split
        · exact soon_stay e2 (by omega)
        · rfl
      have hs2 : stepP2 (l.map Prod.fst) p x = x := by
        unfold stepP2
        rw [hs1]
        split
        · exact soon_stay e2 (by omega)
        · rfl
      have hs : stepP (l.map Prod.fst) p x = x := by
        unfold stepP
        rw [hs2]
        split
        · exact soon_stay e2 (by omega)
        · rfl
      rw [hs]
      exact ⟨rfl, e2, by omega⟩
    | none =>
      rw [h] at ih
      have e1 : mP (l.map Prod.fst) ps k = (0, 0) := ih
      rw [e1]
      simp only
      have ef : ∀ c, findL l c l.length 0 = findI (l.map Prod.fst) c := fun c => by
        rw [findL_F]
        unfold findI
        rw [List.length_map]
      unfold pE stepP stepP2 stepP1 badPair
      simp only [ef, lk_fst]
      by_cases ha : findI (l.map Prod.fst) p.a < 0
      · have ha' : ¬ 0 ≤ findI (l.map Prod.fst) p.a := by omega
        simp only [if_pos ha, ha', decide_false, Bool.false_and, Bool.false_eq_true, if_false, soon_zero]
        have e : soon (3, p.q0) 3 p.q1 = (3, p.q0) := soon_stay (by simp) (by simp; omega)
        rw [e]
        have e2 : (if findI (l.map Prod.fst) p.b < 0 then ((3, p.q0) : Nat × Nat) else (3, p.q0)) = (3, p.q0) := by split <;> rfl
        rw [e2]
        exact ⟨rfl, by simp, by simp; omega⟩
      · have ha' : 0 ≤ findI (l.map Prod.fst) p.a := by omega
        simp only [if_neg ha]
        by_cases hb' : findI (l.map Prod.fst) p.b < 0
        · have hb'' : ¬ 0 ≤ findI (l.map Prod.fst) p.b := by omega
          simp only [if_pos hb', hb'', decide_false, Bool.and_false, Bool.false_and, Bool.false_eq_true, if_false, soon_zero]
          exact ⟨rfl, by simp, hq.2.2⟩
        · have hb'' : 0 ≤ findI (l.map Prod.fst) p.b := by omega
          simp only [if_neg hb', ha', hb'', decide_true, Bool.true_and]
          by_cases he : findI (l.map Prod.fst) p.a = findI (l.map Prod.fst) p.b
          · simp only [if_pos he, he, decide_true, Bool.true_or, if_true, soon_zero]
            exact ⟨rfl, by simp, hq.2.2⟩
          · simp only [if_neg he, he, decide_false, Bool.false_or]
            by_cases hp : p.ap = false ∧ (tsk (l.map Prod.fst) (findI (l.map Prod.fst) p.a).toNat).P ≠ (tsk (l.map Prod.fst) (findI (l.map Prod.fst) p.b).toNat).P
            · rw [if_pos hp, if_pos (by simp [hp.1, hp.2]), soon_zero]
              exact ⟨rfl, by simp, hq.2.2⟩
            · rw [if_neg hp, if_neg (by
                intro h
                simp at h
                exact hp h)]
              rfl

theorem flat_fst (l : List (Tk × Nat)) : (l.map Prod.fst).flatMap tLine = l.flatMap tLine1 := by
  rw [List.flatMap_map]
  rfl

theorem meant_same {l : List UInt8} {ts : List (Tk × Nat)} {ps : List Pr} (h : pSet (allToks l) = .ok (ts.map Prod.fst, ps)) : ∃ b, Same (meantI (ts.map Prod.fst) ps) (pP ts ps ps.length) b := by
  obtain ⟨B, B', h1, h2, h3⟩ := pSet_pl h
  rw [List.length_map] at h3
  exact ⟨_, mP_same (mT_same h1 ts.length (Nat.le_refl _)) h3 h2 ps.length (Nat.le_refl _)⟩

theorem knownR_some {l : List UInt8} {ts : List (Tk × Nat)} {ps : List Pr} {f : Nat × Nat} (hl : l.length ≤ 400) (h : pSet (allToks l) = .ok (ts.map Prod.fst, ps)) (hc : checkR ts ps = some f) : knownR l = .error f := by
  obtain ⟨b, hs⟩ := meant_same h
  rw [checkR_eq] at hc
  unfold knownR
  rw [if_neg (by omega), h]
  simp only
  cases hp : pP ts ps ps.length with
  | some x =>
    rw [hp] at hs hc
    obtain ⟨e1, e2, _⟩ := hs
    simp only [Option.some.injEq] at hc
    rw [e1, if_pos e2, hc]
  | none =>
    rw [hp] at hs hc
    have e1 : meantI (ts.map Prod.fst) ps = (0, 0) := hs
    rw [e1, if_neg (by simp)]
    simp only at hc
    split at hc
    · rename_i h0
      rw [if_pos h0]
      simp only [Option.some.injEq] at hc
      rw [hc]
    · simp at hc
theorem knownR_none {l : List UInt8} {ts : List (Tk × Nat)} {ps : List Pr} (hl : l.length ≤ 400) (h : pSet (allToks l) = .ok (ts.map Prod.fst, ps)) (hc : checkR ts ps = none) : knownR l = .ok (ts.map Prod.fst, ps) := by
  obtain ⟨b, hs⟩ := meant_same h
  rw [checkR_eq] at hc
  unfold knownR
  rw [if_neg (by omega), h]
  simp only
  cases hp : pP ts ps ps.length with
  | some x => rw [hp] at hc; simp at hc
  | none =>
    rw [hp] at hs hc
    have e1 : meantI (ts.map Prod.fst) ps = (0, 0) := hs
    rw [e1, if_neg (by simp)]
    simp only at hc
    split at hc
    · simp at hc
    · rename_i h0
      rw [if_neg h0]

theorem prog_err {s : ByteArray} {f : Nat × Nat} (h : progE s f) : printR s.data.toList = ([], f.1, f.2) := by
  have hsz : s.data.toList.length = s.size := Array.length_toList
  have hk : knownR s.data.toList = .error f := by
    rcases h with ⟨h1, rfl⟩ | ⟨h1, j, h2, rfl⟩ | ⟨h1, l, ps, h2, _, h3⟩
    · unfold knownR
      rw [if_pos (by omega)]
    · unfold knownR
      rw [if_neg (by omega), h2]
    · exact knownR_some (by omega) h2 h3
  unfold printR
  rw [hk]
theorem prog_ok {s : ByteArray} {R : List UInt8} (h : progOk s R) : printR s.data.toList = (R, 0, 0) := by
  have hsz : s.data.toList.length = s.size := Array.length_toList
  obtain ⟨h1, l, ps, h2, _, h3, rfl⟩ := h
  unfold printR
  rw [knownR_none (by omega) h2 h3]
  simp only
  rw [flat_fst]

/-- Print answers what the document asks. -/
theorem print_any (s : ByteArray) (w : World) (hm : s.size ≤ 9223372036854775807) :
    Calls Tryz.prog 57 #[.string s] w fun e w' => e = .returned (.tuple #[.string (bs (printR s.data.toList).1), .int .i64 (printR s.data.toList).2.1, .int .i64 (printR s.data.toList).2.2]) ∧ Below w.heap.size w w' := by
  refine (print_out s w hm).mono ?_
  rintro e w' ⟨hb, ⟨f, hf, rfl⟩ | ⟨R, hR, rfl⟩⟩
  · rw [prog_err hf]
    exact ⟨rfl, hb⟩
  · rw [prog_ok hR]
    exact ⟨rfl, hb⟩
end Go.Proofs.YtbdffcjganlblaaGreatDoor
