/-
  Own work. Slots given to jobs: the least deadline first.
-/
import Derived.Test.YtbdffcjganlblaaGreatDoorPuretoRefA
import Derived.Test.YtbdffcjganlblaaGreatDoorMpStoPlC
namespace Go.Proofs.YtbdffcjganlblaaGreatDoor
set_option linter.unusedVariables false
set_option linter.unusedSimpArgs false

/-! ### Slots given to jobs: the least deadline first goes, if anything goes -/
end Go.Proofs.YtbdffcjganlblaaGreatDoor

namespace Go.Proofs.YtbdffcjganlblaaGreatDoor
set_option linter.unusedVariables false
set_option linter.unusedSimpArgs false

/-! ### Units of jobs in frames: where nothing can be moved nothing goes -/
/-! ### Frames and slots -/
end Go.Proofs.YtbdffcjganlblaaGreatDoor

namespace Go.Proofs.YtbdffcjganlblaaGreatDoor
set_option linter.unusedVariables false
set_option linter.unusedSimpArgs false

/-! ### Times rounded to frames -/
section
variable {js : List Jb} {cyc F : Nat}
end
end Go.Proofs.YtbdffcjganlblaaGreatDoor

namespace Go.Proofs.YtbdffcjganlblaaGreatDoor
set_option linter.unusedVariables false
set_option linter.unusedSimpArgs false

section
variable {js : List Jb} {cyc F : Nat}
end
theorem wide_pos {js : List Jb} {ps : List Pr} {cyc : Nat} : ∀ {f : Nat}, 0 < wideJ js ps cyc f → wideJ js ps cyc f ≤ f ∧ cyc % wideJ js ps cyc f = 0 ∧ goesJ js ps cyc (wideJ js ps cyc f) = true ∧ ∀ F, wideJ js ps cyc f < F → F ≤ f → cyc % F = 0 → goesJ js ps cyc F = false
  | 0, h => by simp [wideJ] at h
  | f + 1, h => by
    rw [wideJ] at h ⊢
    split at h
    · rename_i hy
      rw [if_pos hy]
      exact ⟨Nat.le_refl _, hy.1, hy.2, fun F h1 h2 => by omega⟩
    · rename_i hn
      rw [if_neg hn]
      obtain ⟨a, b, c, d⟩ := wide_pos h
      refine ⟨by omega, b, c, fun F h1 h2 h3 => ?_⟩
      by_cases e : F = f + 1
      · subst e
        cases hg : goesJ js ps cyc (f + 1) with
        | false => rfl
        | true => exact absurd ⟨h3, hg⟩ hn
      · exact d F h1 (by omega) h3
end Go.Proofs.YtbdffcjganlblaaGreatDoor
