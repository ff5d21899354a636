/-
  Own work. The document's answer: Known.
-/
import Derived.Test.YtbdffcjganlblaaGreatDoorRefLtoRefL
namespace Go.Proofs.YtbdffcjganlblaaGreatDoor
open Go.RowKit
set_option linter.unusedVariables false
set_option linter.unusedSimpArgs false

theorem tokAt_N (l : List UInt8) (i : Nat) : (tokAt l i).N ≤ 9999 := by
  unfold PT.N
  split
  · rename_i hk
    revert hk
    unfold tokAt
    split
    · intro hk; simp at hk
    · rename_i c r hd
      split
      · rename_i hs
        intro hk
        simp at hk
        simp [signB, hk] at hs
      · split
        · intro hk; simp at hk
        · split
          · rename_i h4
            intro _
            simp only
            have h1 := dval_lt ((c :: r).take (lead digitB (c :: r))) (by
              intro d hd'
              have := mem_lead digitB (c :: r) _ (Nat.le_refl _) d hd'
              simp [digitB] at this
              omega)
            have h2 : ((c :: r).take (lead digitB (c :: r))).length ≤ 4 := by rw [List.length_take]; omega
            have h3 : 10 ^ ((c :: r).take (lead digitB (c :: r))).length ≤ 10 ^ 4 := Nat.pow_le_pow_right (by omega) h2
            omega
          · intro hk; simp at hk
  · omega

theorem toks_N : ∀ (f : Nat) (l : List UInt8) (i : Nat), ∀ t ∈ toks f l i, t.N ≤ 9999
  | 0, l, i, t, h => by simp [toks] at h; rw [h]; exact tokAt_N _ _
  | f + 1, l, i, t, h => by
    rw [toks] at h
    split at h
    · simp at h; rw [h]; exact tokAt_N _ _
    · rcases List.mem_cons.1 h with rfl | h
      · exact tokAt_N _ _
      · exact toks_N f l _ t h

theorem tk_N (l : List UInt8) (j : Nat) : (tk (allToks l) j).N ≤ 9999 := by
  unfold tk
  rw [List.getD_eq_getElem?_getD]
  cases h : (allToks l)[j]? with
  | none => simp [PT.N]
  | some t => exact toks_N _ _ _ t (List.mem_of_getElem? h)

theorem pRest_small {l : List UInt8} {nm : UInt8} {P O q0 q1 q2 j : Nat} {t : Tk} {k : Nat} (hP : P ≤ 9999) (hO : O ≤ 9999) (h : pRest (allToks l) nm P O q0 q1 q2 j = .ok (t, k)) : t.small := by
  unfold pRest at h
  repeat (split at h; rotate_left; simp at h)
  injection h with h
  injection h with h1 h2
  subst h1
  exact ⟨hP, hO, tk_N _ _, tk_N _ _⟩
theorem pTask_small {l : List UInt8} {i : Nat} {t : Tk} {k : Nat} (h : pTask (allToks l) i = .ok (t, k)) : t.small := by
  unfold pTask at h
  split at h
  · split at h
    · split at h
      · split at h
        · split at h
          · exact pRest_small (tk_N _ _) (tk_N _ _) h
          · simp at h
        · exact pRest_small (tk_N _ _) (by omega) h
      · simp at h
    · simp at h
  · simp at h
theorem pTasks_small {l : List UInt8} : ∀ (f i : Nat) (ts : List Tk) (k : Nat), pTasks f (allToks l) i = .ok (ts, k) → (∀ t ∈ ts, t.small) ∧ 1 ≤ ts.length ∧ ts.length ≤ f
  | 0, i, ts, k, h => by simp [pTasks] at h
  | f + 1, i, ts, k, h => by
    rw [pTasks] at h
    cases ht : pTask (allToks l) i with
    | error e => rw [ht] at h; simp at h
    | ok x =>
      obtain ⟨t, j⟩ := x
      rw [ht] at h
      simp only at h
      split at h
      · cases hr : pTasks f (allToks l) (j + 1) with
        | error e => rw [hr] at h; simp at h
        | ok y =>
          obtain ⟨ts', k'⟩ := y
          rw [hr] at h
          simp at h
          obtain ⟨rfl, rfl⟩ := h
          obtain ⟨h1, h2, h3⟩ := pTasks_small f (j + 1) ts' k' hr
          refine ⟨?_, by simp, by simp; omega⟩
          intro t' ht'
          rcases List.mem_cons.1 ht' with rfl | h'
          · exact pTask_small ht
          · exact h1 t' h'
      · simp at h
        obtain ⟨rfl, rfl⟩ := h
        refine ⟨?_, by simp, by simp⟩
        intro t' ht'
        simp at ht'
        rw [ht']
        exact pTask_small ht
theorem pPairs_len {T : List PT} : ∀ (f i : Nat) (ps : List Pr) (k : Nat), pPairs f T i = .ok (ps, k) → ps.length ≤ f
  | 0, i, ps, k, h => by simp [pPairs] at h; simp [← h.1]
  | f + 1, i, ps, k, h => by
    rw [pPairs] at h
    split at h
    · cases hp : pPair T (!(sees (tk T i) wBefore)) (i + 1) with
      | error e => rw [hp] at h; simp at h
      | ok x =>
        obtain ⟨p, j⟩ := x
        rw [hp] at h
        simp only at h
        cases hr : pPairs f T j with
        | error e => rw [hr] at h; simp at h
        | ok y =>
          obtain ⟨ps', k'⟩ := y
          rw [hr] at h
          simp at h
          obtain ⟨rfl, rfl⟩ := h
          have := pPairs_len f j ps' k' hr
          simp; omega
    · simp at h; obtain ⟨rfl, rfl⟩ := h; simp
theorem pSet_bounds {l : List UInt8} {ts : List Tk} {ps : List Pr} (h : pSet (allToks l) = .ok (ts, ps)) : (∀ t ∈ ts, t.small) ∧ 1 ≤ ts.length ∧ ts.length ≤ 6 ∧ ps.length ≤ 6 := by
  unfold pSet at h
  cases h1 : pFirst (allToks l) with
  | error e => rw [h1] at h; simp at h
  | ok x =>
    obtain ⟨ts', j⟩ := x
    rw [h1] at h
    simp only at h
    cases h2 : pPairs 6 (allToks l) j with
    | error e => rw [h2] at h; simp at h
    | ok y =>
      obtain ⟨ps', k⟩ := y
      rw [h2] at h
      simp only at h
      split at h
      · simp at h
        obtain ⟨rfl, rfl⟩ := h
        unfold pFirst at h1
        split at h1
        · obtain ⟨a, b, c⟩ := pTasks_small _ _ _ _ h1
          exact ⟨a, b, c, pPairs_len _ _ _ _ h2⟩
        · simp at h1
      · simp at h
theorem tsk_mem {ts : List Tk} {k : Nat} (h : k < ts.length) : tsk ts k ∈ ts := by
  unfold tsk
  rw [List.getD_eq_getElem?_getD, List.getElem?_eq_getElem h]
  exact List.getElem_mem h

theorem timed_P {t : Tk} (h : timedI t < 0) : 1 ≤ t.P ∧ t.P ≤ 60 ∧ t.O < t.P ∧ 1 ≤ t.C ∧ t.C ≤ 60 ∧ t.D ≤ 60 := by
  unfold timedI at h
  repeat (split at h; omega)
  omega

/-- What the document knows of a text: an error with its place, or the set. -/
def knownR (l : List UInt8) : Except (Nat × Nat) (List Tk × List Pr) :=
  if 400 < l.length then .error (1, 0)
  else match pSet (allToks l) with
    | .error j => .error (2, (tk (allToks l) j).at_)
    | .ok (ts, ps) => if (meantI ts ps).1 ≠ 0 then .error (meantI ts ps) else if cycI ts = 0 then .error (4, 0) else .ok (ts, ps)

end Go.Proofs.YtbdffcjganlblaaGreatDoor

namespace Go.Proofs.YtbdffcjganlblaaGreatDoor
open Go.RowKit
set_option linter.unusedVariables false
set_option linter.unusedSimpArgs false

def dlo : ByteArray := ⟨#[48, 49, 50, 51, 52, 53, 54, 55, 56, 57, 97, 98, 99, 100, 101, 102, 103, 104, 105, 106, 107, 108, 109, 110, 111, 112, 113, 114, 115, 116, 117, 118, 119, 120, 121, 122]⟩
def dhi : ByteArray := ⟨#[48, 48, 48, 49, 48, 50, 48, 51, 48, 52, 48, 53, 48, 54, 48, 55, 48, 56, 48, 57, 49, 48, 49, 49, 49, 50, 49, 51, 49, 52, 49, 53, 49, 54, 49, 55, 49, 56, 49, 57, 50, 48, 50, 49, 50, 50, 50, 51, 50, 52, 50, 53, 50, 54, 50, 55, 50, 56, 50, 57, 51, 48, 51, 49, 51, 50, 51, 51, 51, 52, 51, 53, 51, 54, 51, 55, 51, 56, 51, 57, 52, 48, 52, 49, 52, 50, 52, 51, 52, 52, 52, 53, 52, 54, 52, 55, 52, 56, 52, 57, 53, 48, 53, 49, 53, 50, 53, 51, 53, 52, 53, 53, 53, 54, 53, 55, 53, 56, 53, 57, 54, 48, 54, 49, 54, 50, 54, 51, 54, 52, 54, 53, 54, 54, 54, 55, 54, 56, 54, 57, 55, 48, 55, 49, 55, 50, 55, 51, 55, 52, 55, 53, 55, 54, 55, 55, 55, 56, 55, 57, 56, 48, 56, 49, 56, 50, 56, 51, 56, 52, 56, 53, 56, 54, 56, 55, 56, 56, 56, 57, 57, 48, 57, 49, 57, 50, 57, 51, 57, 52, 57, 53, 57, 54, 57, 55, 57, 56, 57, 57]⟩
/-- A number below 100, written out. -/
def dB (n : Nat) : ByteArray := if n < 10 then dlo.extract n (n + 1) else dhi.extract (n * 2) (n * 2 + 2)
theorem dB_size (n : Nat) : (dB n).size ≤ 2 := by
  unfold dB
  split <;> simp only [ByteArray.size_extract] <;> omega

set_option maxRecDepth 100000 in
set_option maxHeartbeats 1000000 in
theorem small_any (n : Nat) (w : World) (hn2 : n < 100) :
    Calls Tryz.prog 166 #[.int .i64 n] w fun e w' => e = .returned (.string (dB n)) ∧ w' = w := by
  by_cases hn : n < 10
  · have hn' : (n : Int) < 10 := by omega
    have hd : Hid (dB n = dlo.extract n (n + 1)) := by unfold Hid dB; rw [if_pos hn]
    go_enter Tryz.func166, Tryz.ntmps166
    go_wp2
    go_ret
    refine ⟨?_, rfl⟩
    rw [hd.out]
    rfl
  · have hn' : ¬ (n : Int) < 10 := by omega
    have hd : Hid (dB n = dhi.extract (n * 2) (n * 2 + 2)) := by unfold Hid dB; rw [if_neg hn]
    go_enter Tryz.func166, Tryz.ntmps166
    go_wp2
    go_ret
    refine ⟨?_, rfl⟩
    rw [hd.out]
    rfl

set_option maxRecDepth 100000 in
set_option maxHeartbeats 1000000 in
theorem format_any (n : Nat) (w : World) (hn : n < 100) :
    Calls Tryz.prog 148 #[.int .i64 n, .int .i64 10] w fun e w' => e = .returned (.string (dB n)) ∧ w' = w := by
  have h1 : (0 : Int) ≤ n := by omega
  have h2 : (n : Int) < 100 := by omega
  go_enter Tryz.func148, Tryz.ntmps148
  go_wp2_with (go_at_call 166; refine (small_any n _ hn).mono ?_; rintro e w' ⟨rfl, rfl⟩)
  go_ret
  exact ⟨rfl, rfl⟩

set_option maxRecDepth 100000 in
set_option maxHeartbeats 1000000 in
theorem iitoa_any (n : Nat) (w : World) (hn : n < 100) :
    Calls Tryz.prog 112 #[.int .i64 n] w fun e w' => e = .returned (.string (dB n)) ∧ w' = w := by
  go_enter Tryz.func112, Tryz.ntmps112
  go_wp2_with (go_at_call 148; refine (format_any n _ hn).mono ?_; rintro e w' ⟨rfl, rfl⟩)
  go_ret
  exact ⟨rfl, rfl⟩

set_option maxRecDepth 100000 in
set_option maxHeartbeats 1000000 in
theorem itoa_any (n : Nat) (w : World) (hn : n < 100) :
    Calls Tryz.prog 71 #[.int .i64 n] w fun e w' => e = .returned (.string (dB n)) ∧ w' = w := by
  go_enter Tryz.func71, Tryz.ntmps71
  go_wp2_with (go_at_call 112; refine (iitoa_any n _ hn).mono ?_; rintro e w' ⟨rfl, rfl⟩)
  go_ret
  exact ⟨rfl, rfl⟩

end Go.Proofs.YtbdffcjganlblaaGreatDoor
