/-
  Own work. The program's run is the document's.
-/
import Derived.Test.YtbdffcjganlblaaGreatDoorPrBtoDsI
import Derived.Test.YtbdffcjganlblaaGreatDoorTbEtoTbF
import Derived.Test.YtbdffcjganlblaaGreatDoorRunFtoRunF
namespace Go.Proofs.YtbdffcjganlblaaGreatDoor
set_option linter.unusedVariables false
set_option linter.unusedSimpArgs false

end Go.Proofs.YtbdffcjganlblaaGreatDoor

namespace Go.Proofs.YtbdffcjganlblaaGreatDoor
set_option linter.unusedVariables false
set_option linter.unusedSimpArgs false

/-! ### Traces without their marks -/
/-! ### Jobs that get all that they have -/
end Go.Proofs.YtbdffcjganlblaaGreatDoor

namespace Go.Proofs.YtbdffcjganlblaaGreatDoor
set_option linter.unusedVariables false
set_option linter.unusedSimpArgs false

theorem job_small {t : Tb} (h : Sound t) : ∀ i, i < (flatF 0 t.fs).length → (fsk (flatF 0 t.fs) i).2.job ≤ 9999 ∧ (fsk (flatF 0 t.fs) i).2.bud ≤ 60 ∧ (fsk (flatF 0 t.fs) i).small := by
  intro i hi
  have hm : fsk (flatF 0 t.fs) i ∈ flatF 0 t.fs := by rw [← fsk_eq hi]; exact List.getElem_mem _
  obtain ⟨_, h2, f, hf, hx⟩ := flatF_mem t.fs 0 _ hm
  obtain ⟨_, h3⟩ := h.small f hf
  obtain ⟨a, b, c⟩ := h3 _ hx
  obtain ⟨_, _, _, n2, _⟩ := h.frames
  exact ⟨by omega, c, by unfold FSl.small; omega⟩
theorem flat_len {t : Tb} (h : Sound t) : (flatF 0 t.fs).length ≤ 60 := by
  rw [flatF_len]
  exact h.frames.2.2.2.2
end Go.Proofs.YtbdffcjganlblaaGreatDoor

namespace Go.Proofs.YtbdffcjganlblaaGreatDoor
open Go.RowKit
set_option linter.unusedVariables false
set_option linter.unusedSimpArgs false

end Go.Proofs.YtbdffcjganlblaaGreatDoor
