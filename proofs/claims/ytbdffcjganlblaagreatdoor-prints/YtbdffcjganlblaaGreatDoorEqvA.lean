/-
  Own work. The places of a set's words stand in the text's order.
-/
import Derived.Test.YtbdffcjganlblaaGreatDoorProgN
namespace Go.Proofs.YtbdffcjganlblaaGreatDoor
open Go.RowKit
set_option linter.unusedVariables false
set_option linter.unusedSimpArgs false

/-- A token that is none of the two last kinds: its place is ahead of the next one's. -/
theorem at_step {l : List UInt8} {j : Nat} (h : (tk (allToks l) j).fin = false) : (tk (allToks l) j).at_ < (tk (allToks l) (j + 1)).at_ := by
  have hj : j < (allToks l).length := by
    rcases Nat.lt_or_ge j (allToks l).length with h' | h'
    · exact h'
    · rw [show tk (allToks l) j = ⟨101, [], 0⟩ by unfold tk; rw [List.getD_eq_getElem?_getD, List.getElem?_eq_none h']; rfl] at h
      simp [PT.fin] at h
  have hj1 : j + 1 < (allToks l).length := toks_fin (l.length + 1) l 0 (by omega) (by omega) j hj h
  have e := (toks_next (l.length + 1) l 0).2 j hj1
  have hb := toks_bound (l.length + 1) l 0 (by omega) j hj
  have h1 := (nextTok_bound l (tk (allToks l) j).nx hb).1
  change tk (allToks l) (j + 1) = nextTok l (tk (allToks l) j).nx at e
  rw [← e] at h1
  have h2 : (tk (allToks l) j).at_ < (tk (allToks l) j).nx := by
    cases j with
    | zero =>
      have e0 := (toks_next (l.length + 1) l 0).1
      change tk (allToks l) 0 = _ at e0
      rw [e0] at h ⊢
      exact nextTok_long l _ h
    | succ j =>
      have e0 := (toks_next (l.length + 1) l 0).2 j hj
      change tk (allToks l) (j + 1) = _ at e0
      rw [e0] at h ⊢
      exact nextTok_long l _ h
  omega

theorem at_next {l : List UInt8} {j k : Nat} (hk : k = j + 1) (h : (tk (allToks l) j).fin = false) : (tk (allToks l) j).at_ < (tk (allToks l) k).at_ := by
  subst hk
  exact at_step h

theorem fin_sees {t : PT} {wd : ByteArray} (h : sees t wd = true) : t.fin = false := by
  unfold sees at h
  simp at h
  simp [PT.fin, h.1]
theorem fin_name {t : PT} (h : isName t = true) : t.fin = false := by
  unfold isName at h
  simp at h
  simp [PT.fin, h.1]
theorem fin_num {t : PT} (h : (t.k == 110) = true) : t.fin = false := by
  simp at h
  simp [PT.fin, h]
theorem fin_semi {t : PT} (h : (t.k == 59) = true) : t.fin = false := by
  simp at h
  simp [PT.fin, h]

/-- A task's places, from lo on, all ahead of hi. -/
def TPl (t : Tk) (lo hi : Nat) : Prop := lo ≤ t.q0 ∧ t.q0 < t.q1 ∧ t.q1 < t.q2 ∧ t.q2 < t.q3 ∧ t.q3 < t.q4 ∧ t.q4 < hi
def PPl (p : Pr) (lo hi : Nat) : Prop := lo ≤ p.q0 ∧ p.q0 < p.q1 ∧ p.q1 < hi

theorem pRest_pl {l : List UInt8} {nm : UInt8} {P O q0 q1 q2 j : Nat} {t : Tk} {k : Nat} (h : pRest (allToks l) nm P O q0 q1 q2 j = .ok (t, k)) :
    t.q0 = q0 ∧ t.q1 = q1 ∧ t.q2 = q2 ∧ (tk (allToks l) j).at_ < t.q3 ∧ t.q3 < t.q4 ∧ t.q4 < (tk (allToks l) k).at_ := by
  unfold pRest at h
  split at h
  · rename_i h0
    split at h
    · rename_i h1
      split at h
      · rename_i h2
        split at h
        · rename_i h3
          split at h
          · rename_i h4
            have s0 := at_next (k := j + 1) rfl (fin_sees h0)
            have s1 := at_next (k := j + 2) rfl (fin_num h1)
            have s2 := at_next (k := j + 3) rfl (fin_sees h2)
            have s3 := at_next (k := j + 4) rfl (fin_num h3)
            have s4 := at_next (k := j + 5) rfl (fin_semi h4)
            injection h with h
            injection h with ha hb
            subst hb
            subst ha
            refine ⟨rfl, rfl, rfl, s0, ?_, ?_⟩
            · show (tk (allToks l) (j + 1)).at_ < (tk (allToks l) (j + 3)).at_
              omega
            · show (tk (allToks l) (j + 3)).at_ < (tk (allToks l) (j + 5)).at_
              omega
          · simp at h
        · simp at h
      · simp at h
    · simp at h
  · simp at h

theorem pTask_pl {l : List UInt8} {i : Nat} {t : Tk} {k : Nat} (h : pTask (allToks l) i = .ok (t, k)) : TPl t (tk (allToks l) i).at_ (tk (allToks l) k).at_ := by
  unfold pTask at h
  split at h
  · rename_i h0
    split at h
    · rename_i h1
      split at h
      · rename_i h2
        have s0 := at_next (k := i + 1) rfl (fin_name h0)
        have s1 := at_next (k := i + 2) rfl (fin_sees h1)
        have s2 := at_next (k := i + 3) rfl (fin_num h2)
        split at h
        · rename_i h3
          split at h
          · rename_i h4
            have s3 := at_next (k := i + 4) rfl (fin_sees h3)
            have s4 := at_next (k := i + 5) rfl (fin_num h4)
            obtain ⟨a, b, c, d, e, f⟩ := pRest_pl h
            unfold TPl
            rw [a, b, c]
            omega
          · simp at h
        · obtain ⟨a, b, c, d, e, f⟩ := pRest_pl h
          unfold TPl
          rw [a, b, c]
          omega
      · simp at h
    · simp at h
  · simp at h

theorem pPair_pl {l : List UInt8} {ap : Bool} {i : Nat} {p : Pr} {k : Nat} (h : pPair (allToks l) ap i = .ok (p, k)) : PPl p (tk (allToks l) i).at_ (tk (allToks l) k).at_ := by
  unfold pPair at h
  split at h
  · rename_i h0
    split at h
    · rename_i h1
      split at h
      · rename_i h2
        have s0 := at_next (k := i + 1) rfl (fin_name h0)
        have s1 := at_next (k := i + 2) rfl (fin_name h1)
        have s2 := at_next (k := i + 3) rfl (fin_semi h2)
        injection h with h
        injection h with ha hb
        subst hb
        subst ha
        refine ⟨Nat.le_refl _, s0, ?_⟩
        show (tk (allToks l) (i + 1)).at_ < (tk (allToks l) (i + 3)).at_
        omega
      · simp at h
    · simp at h
  · simp at h

/-- Bounds between the tasks. -/
def TB2 (B : Nat → Nat) (ts : List Tk) : Prop := ∀ k, k < ts.length → TPl (tsk ts k) (B k) (B (k + 1))
def PB2 (B : Nat → Nat) (ps : List Pr) : Prop := ∀ k, k < ps.length → PPl (psk ps k) (B k) (B (k + 1))

def consB (a : Nat) (B : Nat → Nat) : Nat → Nat
  | 0 => a
  | k + 1 => B k

theorem pTasks_pl {l : List UInt8} : ∀ (f i : Nat) (ts : List Tk) (k : Nat), pTasks f (allToks l) i = .ok (ts, k) → ∃ B, TB2 B ts ∧ B 0 = (tk (allToks l) i).at_ ∧ B ts.length ≤ (tk (allToks l) k).at_
  | 0, i, ts, k, h => by simp [pTasks] at h
  | f + 1, i, ts, k, h => by
    rw [pTasks] at h
    cases h1 : pTask (allToks l) i with
    | error e => rw [h1] at h; simp at h
    | ok x =>
      obtain ⟨t, j⟩ := x
      rw [h1] at h
      simp only at h
      have ht := pTask_pl h1
      split at h
      · rename_i hs
        have hs' : sees (tk (allToks l) j) wTask = true := by simp at hs; exact hs.2
        have s0 := at_step (fin_sees hs')
        cases h2 : pTasks f (allToks l) (j + 1) with
        | error e => rw [h2] at h; simp at h
        | ok y =>
          obtain ⟨us, m⟩ := y
          rw [h2] at h
          simp only at h
          injection h with h
          injection h with ha hb
          subst hb
          subst ha
          obtain ⟨B, b1, b2, b3⟩ := pTasks_pl f (j + 1) us m h2
          refine ⟨consB (tk (allToks l) i).at_ B, ?_, rfl, b3⟩
          intro q hq
          cases q with
          | zero =>
            show TPl t (tk (allToks l) i).at_ (B 0)
            unfold TPl at ht ⊢
            omega
          | succ q =>
            have := b1 q (by simpa using hq)
            simpa [tsk, consB] using this
      · injection h with h
        injection h with ha hb
        subst hb
        subst ha
        refine ⟨consB (tk (allToks l) i).at_ (fun _ => (tk (allToks l) j).at_), ?_, rfl, Nat.le_refl _⟩
        intro q hq
        have h0 : q = 0 := by simpa using hq
        subst h0
        exact ht

theorem pPairs_pl {l : List UInt8} : ∀ (f i : Nat) (ps : List Pr) (k : Nat), pPairs f (allToks l) i = .ok (ps, k) → ∃ B, PB2 B ps ∧ (tk (allToks l) i).at_ ≤ B 0
  | 0, i, ps, k, h => by
    simp [pPairs] at h
    obtain ⟨rfl, rfl⟩ := h
    exact ⟨fun _ => (tk (allToks l) i).at_, fun q hq => by simp at hq, Nat.le_refl _⟩
  | f + 1, i, ps, k, h => by
    rw [pPairs] at h
    split at h
    · rename_i hs
      have s0 : (tk (allToks l) i).at_ < (tk (allToks l) (i + 1)).at_ := by
        simp at hs
        rcases hs with hs | hs
        · exact at_step (fin_sees hs)
        · exact at_step (fin_sees hs)
      cases h1 : pPair (allToks l) (!(sees (tk (allToks l) i) wBefore)) (i + 1) with
      | error e => rw [h1] at h; simp at h
      | ok x =>
        obtain ⟨p, j⟩ := x
        rw [h1] at h
        simp only at h
        have hp := pPair_pl h1
        cases h2 : pPairs f (allToks l) j with
        | error e => rw [h2] at h; simp at h
        | ok y =>
          obtain ⟨us, m⟩ := y
          rw [h2] at h
          simp only at h
          injection h with h
          injection h with ha hb
          subst hb
          subst ha
          obtain ⟨B, b1, b2⟩ := pPairs_pl f j us m h2
          refine ⟨consB (tk (allToks l) (i + 1)).at_ B, ?_, Nat.le_of_lt s0⟩
          intro q hq
          cases q with
          | zero =>
            show PPl p (tk (allToks l) (i + 1)).at_ (B 0)
            unfold PPl at hp ⊢
            omega
          | succ q =>
            have := b1 q (by simpa using hq)
            simpa [psk, consB] using this
    · simp at h
      obtain ⟨rfl, rfl⟩ := h
      exact ⟨fun _ => (tk (allToks l) i).at_, fun q hq => by simp at hq, Nat.le_refl _⟩

theorem pSet_pl {l : List UInt8} {ts : List Tk} {ps : List Pr} (h : pSet (allToks l) = .ok (ts, ps)) : ∃ B B', TB2 B ts ∧ PB2 B' ps ∧ B ts.length ≤ B' 0 := by
  unfold pSet at h
  cases h1 : pFirst (allToks l) with
  | error e => rw [h1] at h; simp at h
  | ok x =>
    obtain ⟨us, j⟩ := x
    rw [h1] at h
    simp only at h
    cases h2 : pPairs 6 (allToks l) j with
    | error e => rw [h2] at h; simp at h
    | ok y =>
      obtain ⟨qs, k⟩ := y
      rw [h2] at h
      simp only at h
      split at h
      · injection h with h
        injection h with ha hb
        subst ha
        subst hb
        unfold pFirst at h1
        split at h1
        · obtain ⟨B, b1, _, b3⟩ := pTasks_pl _ _ _ _ h1
          obtain ⟨B', c1, c2⟩ := pPairs_pl _ _ _ _ h2
          exact ⟨B, B', b1, c1, by omega⟩
        · simp at h1
      · simp at h
end Go.Proofs.YtbdffcjganlblaaGreatDoor
