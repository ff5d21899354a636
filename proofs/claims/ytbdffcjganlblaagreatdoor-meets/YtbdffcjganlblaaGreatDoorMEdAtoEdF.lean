/-
  Own work. Slots given to jobs: the least deadline first.
-/
import Derived.Test.YtbdffcjganlblaaGreatDoorMHpAtoRefA
import Derived.Test.YtbdffcjganlblaaGreatDoorMTabBtoPlC
namespace Go.Proofs.YtbdffcjganlblaaGreatDoor
set_option linter.unusedVariables false
set_option linter.unusedSimpArgs false

/-! ### Slots given to jobs: the least deadline first goes, if anything goes -/
def lessN (left : Nat → Nat) (k : Nat) : Nat → Nat := fun j => if j = k then left j - 1 else left j
end Go.Proofs.YtbdffcjganlblaaGreatDoor

namespace Go.Proofs.YtbdffcjganlblaaGreatDoor
set_option linter.unusedVariables false
set_option linter.unusedSimpArgs false

/-! ### Units of jobs in frames: where nothing can be moved nothing goes -/
def sumN (f : Nat → Nat) : Nat → Nat
  | 0 => 0
  | n + 1 => sumN f n + f n
theorem sumN_same {f g : Nat → Nat} : ∀ n, (∀ i, i < n → f i = g i) → sumN f n = sumN g n
  | 0, _ => rfl
  | n + 1, h => by rw [sumN, sumN, sumN_same n (fun i hi => h i (by omega)), h n (by omega)]
/-! ### Frames and slots -/
theorem sumN_less {f : Nat → Nat} {k : Nat} (hk : 0 < f k) : ∀ n, k < n → sumN (lessN f k) n + 1 = sumN f n
  | 0, h => by omega
  | n + 1, h => by
    rw [sumN, sumN]
    by_cases e : n = k
    · subst e
      have h1 : sumN (lessN f n) n = sumN f n := sumN_same n (fun i hi => by unfold lessN; rw [if_neg (by omega)])
      have h2 : lessN f n n = f n - 1 := by simp [lessN]
      rw [h1, h2]
      omega
    · have ih := sumN_less hk n (by omega)
      have h2 : lessN f k n = f n := by simp [lessN, e]
      rw [h2]
      omega
end Go.Proofs.YtbdffcjganlblaaGreatDoor

namespace Go.Proofs.YtbdffcjganlblaaGreatDoor
set_option linter.unusedVariables false
set_option linter.unusedSimpArgs false

/-! ### Times rounded to frames -/
section
variable {js : List Jb} {cyc F : Nat}
end
end Go.Proofs.YtbdffcjganlblaaGreatDoor

namespace Go.Proofs.YtbdffcjganlblaaGreatDoor
set_option linter.unusedVariables false
set_option linter.unusedSimpArgs false

section
variable {js : List Jb} {cyc F : Nat}
end
theorem wide_pos {js : List Jb} {ps : List Pr} {cyc : Nat} : ∀ {f : Nat}, 0 < wideJ js ps cyc f → wideJ js ps cyc f ≤ f ∧ cyc % wideJ js ps cyc f = 0 ∧ goesJ js ps cyc (wideJ js ps cyc f) = true ∧ ∀ F, wideJ js ps cyc f < F → F ≤ f → cyc % F = 0 → goesJ js ps cyc F = false
  | 0, h => by simp [wideJ] at h
  | f + 1, h => by
    rw [wideJ] at h ⊢
    split at h
    · rename_i hy
      rw [if_pos hy]
      exact ⟨Nat.le_refl _, hy.1, hy.2, fun F h1 h2 => by omega⟩
    · rename_i hn
      rw [if_neg hn]
      obtain ⟨a, b, c, d⟩ := wide_pos h
      refine ⟨by omega, b, c, fun F h1 h2 h3 => ?_⟩
      by_cases e : F = f + 1
      · subst e
        cases hg : goesJ js ps cyc (f + 1) with
        | false => rfl
        | true => exact absurd ⟨h3, hg⟩ hn
      · exact d F h1 (by omega) h3
end Go.Proofs.YtbdffcjganlblaaGreatDoor

namespace Go.Proofs.YtbdffcjganlblaaGreatDoor
set_option linter.unusedVariables false
set_option linter.unusedSimpArgs false

def freeJ (js : List Jb) (ps : List Pr) (left : Nat → Nat) (k : Nat) : Bool := !(ps.any (holdsN js left k))
theorem may_free (js : List Jb) (ps : List Pr) (left : Nat → Nat) (e k : Nat) : mayJ js ps left e k = (decide (e ≤ (jk js k).dl) && freeJ js ps left k) := rfl
end Go.Proofs.YtbdffcjganlblaaGreatDoor
