/-
  Own work. Unit by unit, as the document tells it: pure.
-/
import Derived.Test.YtbdffcjganlblaaGreatDoorMRunEtoEdG
import Derived.Test.YtbdffcjganlblaaGreatDoorMPnJtoChA
import Derived.Test.YtbdffcjganlblaaGreatDoorMDsBtoDsC
import Derived.Deep.DeepCutAuto
namespace Go.Proofs.YtbdffcjganlblaaGreatDoor
set_option linter.unusedVariables false
set_option linter.unusedSimpArgs false

/-! ### Jobs and their tasks -/
theorem job_task {cyc : Nat} {ts : List Tk} {k : Nat} (hk : k < (jobsL cyc 0 ts).length) : (jk (jobsL cyc 0 ts) k).tsk < ts.length ∧ (jk (jobsL cyc 0 ts) k).ltr = (tsk ts (jk (jobsL cyc 0 ts) k).tsk).nm ∧ (jk (jobsL cyc 0 ts) k).num < cyc / (tsk ts (jk (jobsL cyc 0 ts) k).tsk).P ∧ jk (jobsL cyc 0 ts) k = jobA (jk (jobsL cyc 0 ts) k).tsk (tsk ts (jk (jobsL cyc 0 ts) k).tsk) (jk (jobsL cyc 0 ts) k).num := by
  have hm : jk (jobsL cyc 0 ts) k ∈ jobsL cyc 0 ts := by rw [jk_get hk]; exact List.getElem_mem _
  obtain ⟨i, hi, n, hn, e⟩ := (jobsL_mem cyc ts 0 _).1 hm
  have hg : tsk ts i = ts[i] := by simp [tsk, List.getD_eq_getElem?_getD, hi]
  rw [e, Nat.zero_add]
  simp only [jobA]
  rw [hg]
  exact ⟨hi, rfl, hn, rfl⟩
/-! ### What holds a job up -/
/-- The document's test of job n against job k, at a pair of the tasks a and b. -/
def heldD (js : List Jb) (left : Nat → Nat) (ap : Bool) (a b k n : Nat) : Prop :=
  (ap = false ∧ (jk js k).tsk = b ∧ (jk js n).tsk = a ∧ (jk js n).num = (jk js k).num ∧ 0 < left n) ∨
  (ap = true ∧ (((jk js k).tsk = a ∧ (jk js n).tsk = b) ∨ ((jk js k).tsk = b ∧ (jk js n).tsk = a)) ∧ 0 < left n ∧ left n < (jk js n).cost)
instance (js : List Jb) (left : Nat → Nat) (ap : Bool) (a b k n : Nat) : Decidable (heldD js left ap a b k n) := by unfold heldD; infer_instance
/-! ### The one with the least deadline -/
def candJ (js : List Jb) (ps : List Pr) (left : Nat → Nat) (t k : Nat) : Prop := 0 < left k ∧ (jk js k).rel ≤ t ∧ freeJ js ps left k = true
instance (js : List Jb) (ps : List Pr) (left : Nat → Nat) (t k : Nat) : Decidable (candJ js ps left t k) := by unfold candJ; infer_instance
end Go.Proofs.YtbdffcjganlblaaGreatDoor

namespace Go.Proofs.YtbdffcjganlblaaGreatDoor
open Go.RowKit
set_option linter.unusedVariables false
set_option linter.unusedSimpArgs false

end Go.Proofs.YtbdffcjganlblaaGreatDoor
