/-
  Own work. The document's parser: the walk of Parse.
-/
import Derived.Test.YtbdffcjganlblaaGreatDoorRefGtoHeC
namespace Go.Proofs.YtbdffcjganlblaaGreatDoor
open Go.RowKit
set_option linter.unusedVariables false
set_option linter.unusedSimpArgs false

theorem own_weak {w : World} {base base' : Nat} {e : TypeId} {size : Nat} {v : Value} {n : Nat} {xs : List Value} (h : w.ownsRow base e size v n xs) (hb : base' ≤ base) : w.ownsRow base' e size v n xs := by
  refine ⟨h.1, ?_⟩
  rcases h.2 with h | ⟨g, cap, cur, h1, h2, h3⟩
  · exact .inl h
  · exact .inr ⟨g, cap, cur, h1, by omega, h3⟩

theorem own_slice {w : World} {base : Nat} {e : TypeId} {size : Nat} {v : Value} {n : Nat} {xs : List Value} (h : w.ownsRow base e size v n xs) : ∃ a c, v = .slice a n c := by
  rcases h.2 with ⟨rfl, h0⟩ | ⟨g, cap, cur, rfl, _⟩
  · exact ⟨none, 0, by rw [h0]⟩
  · exact ⟨_, _, rfl⟩
end Go.Proofs.YtbdffcjganlblaaGreatDoor

namespace Go.Proofs.YtbdffcjganlblaaGreatDoor
open Go.RowKit
set_option linter.unusedVariables false
set_option linter.unusedSimpArgs false

def tsk (ts : List Tk) (k : Nat) : Tk := ts.getD k ⟨0, 0, 0, 0, 0, 0, 0, 0, 0, 0⟩
def psk (ps : List Pr) (k : Nat) : Pr := ps.getD k ⟨0, 0, false, 0, 0⟩

/-- The tasks lie in block g. -/
def RowT (w : World) (g : Nat) (ts : List Tk) : Prop := ∀ k, k < ts.length →
  w.cell? ⟨g, k * 10, none⟩ = some (.int .u8 (tsk ts k).nm.toNat) ∧ w.cell? ⟨g, k * 10 + 1, none⟩ = some (.int .i64 (tsk ts k).P) ∧ w.cell? ⟨g, k * 10 + 2, none⟩ = some (.int .i64 (tsk ts k).O) ∧
  w.cell? ⟨g, k * 10 + 3, none⟩ = some (.int .i64 (tsk ts k).C) ∧ w.cell? ⟨g, k * 10 + 4, none⟩ = some (.int .i64 (tsk ts k).D) ∧ w.cell? ⟨g, k * 10 + 5, none⟩ = some (.int .i64 (tsk ts k).q0) ∧
  w.cell? ⟨g, k * 10 + 6, none⟩ = some (.int .i64 (tsk ts k).q1) ∧ w.cell? ⟨g, k * 10 + 7, none⟩ = some (.int .i64 (tsk ts k).q2) ∧ w.cell? ⟨g, k * 10 + 8, none⟩ = some (.int .i64 (tsk ts k).q3) ∧ w.cell? ⟨g, k * 10 + 9, none⟩ = some (.int .i64 (tsk ts k).q4)
def RowP (w : World) (g : Nat) (ps : List Pr) : Prop := ∀ k, k < ps.length →
  w.cell? ⟨g, k * 5, none⟩ = some (.int .u8 (psk ps k).a.toNat) ∧ w.cell? ⟨g, k * 5 + 1, none⟩ = some (.int .u8 (psk ps k).b.toNat) ∧ w.cell? ⟨g, k * 5 + 2, none⟩ = some (.bool (psk ps k).ap) ∧
  w.cell? ⟨g, k * 5 + 3, none⟩ = some (.int .i64 (psk ps k).q0) ∧ w.cell? ⟨g, k * 5 + 4, none⟩ = some (.int .i64 (psk ps k).q1)

theorem RowT.below {w w' : World} {g B : Nat} {ts : List Tk} (h : RowT w g ts) (hb : Below B w w') (hg : g < B) : RowT w' g ts := by
  intro k hk
  have e : ∀ o, w'.cell? ⟨g, o, none⟩ = w.cell? ⟨g, o, none⟩ := fun o => hb.cell (p := ⟨g, o, none⟩) hg
  rw [e, e, e, e, e, e, e, e, e, e]
  exact h k hk
theorem RowP.below {w w' : World} {g B : Nat} {ps : List Pr} (h : RowP w g ps) (hb : Below B w w') (hg : g < B) : RowP w' g ps := by
  intro k hk
  have e : ∀ o, w'.cell? ⟨g, o, none⟩ = w.cell? ⟨g, o, none⟩ := fun o => hb.cell (p := ⟨g, o, none⟩) hg
  rw [e, e, e, e, e]
  exact h k hk

/-- The number of the first task from k on whose name is c; -1: none. -/
def findF (ts : List Tk) (c : UInt8) : Nat → Nat → Int
  | 0, _ => -1
  | f + 1, k => if (tsk ts k).nm = c then k else findF ts c f (k + 1)
def findI (ts : List Tk) (c : UInt8) : Int := findF ts c ts.length 0

end Go.Proofs.YtbdffcjganlblaaGreatDoor
