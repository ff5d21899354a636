/-
  Own work. The document's tables: the walk of ReadTable.
-/
import Derived.Test.YtbdffcjganlblaaGreatDoorMProgFtoRefV
import Derived.Deep.RegionLaw
import Derived.Deep.DeepCutAuto
namespace Go.Proofs.YtbdffcjganlblaaGreatDoor
open Go.RowKit
set_option linter.unusedVariables false
set_option linter.unusedSimpArgs false

/-- The text of l is that of the table t. -/
def TabOk (l : List UInt8) (t : Tb) : Prop := l.length ≤ 800 ∧ pTab (allToks l) = some t ∧ Sound t ∧ tbTxt t = l
theorem pMore_small {l : List UInt8} : ∀ (n : Nat) (i : Nat), (allToks l).length - i ≤ n → ∀ f j, pMore (allToks l) i = some (f, j) → ∀ s ∈ f, s.job ≤ 9999 ∧ s.bud ≤ 9999 := by
  intro n
  induction n with
  | zero =>
    intro i hn f j h
    rw [pMore, dif_neg (by omega)] at h
    simp at h
  | succ n ih =>
    intro i hn f j h
    rw [pMore_eq] at h
    have hs1 : (slAt (allToks l) i).job ≤ 9999 ∧ (slAt (allToks l) i).bud ≤ 9999 := ⟨tk_N l _, tk_N l _⟩
    split at h
    · rename_i hs
      have hlt := slOk_lt hs
      split at h
      · cases hm : pMore (allToks l) (i + 5) with
        | none => rw [hm] at h; simp at h
        | some x =>
          obtain ⟨l', k⟩ := x
          rw [hm] at h
          simp at h
          obtain ⟨rfl, rfl⟩ := h
          intro s hsm
          rcases List.mem_cons.1 hsm with rfl | hsm
          · exact hs1
          · exact ih (i + 5) (by omega) l' k hm s hsm
      · split at h
        · simp at h
          obtain ⟨rfl, rfl⟩ := h
          intro s hsm
          simp at hsm
          subst hsm
          exact hs1
        · simp at h
    · simp at h
theorem pFrame_small {l : List UInt8} {i : Nat} {f : List Sl} {j : Nat} (h : pFrame (allToks l) i = some (f, j)) : ∀ s ∈ f, s.job ≤ 9999 ∧ s.bud ≤ 9999 := by
  unfold pFrame at h
  split at h
  · simp at h
    obtain ⟨rfl, rfl⟩ := h
    simp
  · exact pMore_small _ i (Nat.le_refl _) f j h
theorem pN_small {l : List UInt8} {i : Nat} : ∀ {n : Nat} {fs : List (List Sl)} {j : Nat}, pN n (allToks l) i = some (fs, j) → ∀ f ∈ fs, ∀ s ∈ f, s.job ≤ 9999 ∧ s.bud ≤ 9999
  | 0, fs, j, h => by
    simp [pN] at h
    obtain ⟨rfl, rfl⟩ := h
    simp
  | n + 1, fs, j, h => by
    rw [pN] at h
    cases h1 : pN n (allToks l) i with
    | none => rw [h1] at h; simp at h
    | some x =>
      obtain ⟨gs, k⟩ := x
      rw [h1] at h
      simp only at h
      cases h2 : pFrame (allToks l) k with
      | none => rw [h2] at h; simp at h
      | some y =>
        obtain ⟨f, k'⟩ := y
        rw [h2] at h
        simp at h
        obtain ⟨rfl, rfl⟩ := h
        intro g hg
        rcases List.mem_append.1 hg with hg | hg
        · exact pN_small h1 g hg
        · simp at hg
          subst hg
          exact pFrame_small h2

end Go.Proofs.YtbdffcjganlblaaGreatDoor

namespace Go.Proofs.YtbdffcjganlblaaGreatDoor
open Go.RowKit
set_option linter.unusedVariables false
set_option linter.unusedSimpArgs false

end Go.Proofs.YtbdffcjganlblaaGreatDoor
