/-
  Own work. The program's tables: a frame.
-/
import Derived.Test.YtbdffcjganlblaaGreatDoorPnCtoTbA
import Derived.Deep.DeepCutAuto
namespace Go.Proofs.YtbdffcjganlblaaGreatDoor
open Go.RowKit
set_option linter.unusedVariables false
set_option linter.unusedSimpArgs false

def slP (s : Sl) : List Value := [.int .u8 s.nm.toNat, .int .i64 s.job, .int .i64 s.bud]
def slPs (f : List Sl) : List Value := f.flatMap slP
theorem Tryz.infoPSl : (Tryz.prog.info? 106).map (fun i => (i.zero, i.size, i.bytes)) = some (some (.agg #[.int .u8 0, .int .i64 0, .int .i64 0]), 3, 24) := by kernel_rfl

section
variable {w wk : World} {b : Nat} {s : ByteArray} {i : Nat} {er : Nat} {v : Value} {n : Nat} {xs : List Value}
end
end Go.Proofs.YtbdffcjganlblaaGreatDoor

namespace Go.Proofs.YtbdffcjganlblaaGreatDoor
open Go.RowKit
set_option linter.unusedVariables false
set_option linter.unusedSimpArgs false

theorem Tryz.infoPFr : (Tryz.prog.info? 104).map (fun i => (i.zero, i.size, i.bytes)) = some (some (.slice none 0 0), 1, 24) := by kernel_rfl

section
variable {w wk : World} {b : Nat} {s : ByteArray} {i : Nat} {er : Nat}
end

/-! ### Frames in memory -/
/-- The frames' row and each frame's own. -/
def FrM (w : World) (base : Nat) (fv : Value) (P : List (Value × List Sl)) : Prop :=
  w.ownsRow base 104 1 fv P.length (P.map Prod.fst) ∧ ∀ p ∈ P, w.ownsRow base 106 3 p.1 p.2.length (slPs p.2)
theorem FrM.nil (w : World) (base : Nat) : FrM w base (.slice none 0 0) [] := ⟨World.ownsRow_nil _ _ _ _, fun p hp => by simp at hp⟩
theorem FrM.kept {w w' : World} {base : Nat} {fv : Value} {P : List (Value × List Sl)} (h : FrM w base fv P) {row : Option Nat} (g : w.grownBy w' row) (hr : ∀ k, row = some k → k < base ∨ ∃ c ty, w.heap[k]? = some (.cells c ty (0, 0)) ∧ 104 ≠ ty ∧ 106 ≠ ty) : FrM w' base fv P := by
  have key : ∀ {e : TypeId} {size : Nat} {v : Value} {n : Nat} {xs : List Value}, w.ownsRow base e size v n xs → (e = 104 ∨ e = 106) → w'.ownsRow base e size v n xs := by
    intro e size v n xs ho he
    refine ho.kept g ?_
    cases hq : v.ownBlock with
    | none => exact .inl rfl
    | some q =>
      right
      cases hrow : row with
      | none => simp
      | some k =>
        intro hqk
        have hqk : q = k := by simpa using hqk
        subst hqk
        rcases hr q hrow with h1 | ⟨c, ty, h1, h2, h3⟩
        · exact own_ge ho h1 hq
        · rcases he with rfl | rfl
          · exact own_type ho h1 h2 hq
          · exact own_type ho h1 h3 hq
  exact ⟨key h.1 (.inl rfl), fun p hp => key (h.2 p hp) (.inr rfl)⟩
theorem FrM.push {w w2 : World} {base : Nat} {fv fv' v : Value} {P : List (Value × List Sl)} {l : List Sl} (h : FrM w base fv P) (hv : w.ownsRow base 106 3 v l.length (slPs l)) (hg : w.grownBy w2 fv.ownBlock) (hown : w2.ownsRow base 104 1 fv' (P.length + 1) (P.map Prod.fst ++ [v])) : FrM w2 base fv' (P ++ [(v, l)]) := by
  have key : ∀ {v : Value} {n : Nat} {xs : List Value}, w.ownsRow base 106 3 v n xs → w2.ownsRow base 106 3 v n xs := by
    intro v n xs ho
    refine ho.kept hg ?_
    cases hq : v.ownBlock with
    | none => exact .inl rfl
    | some q => exact .inr (fun e => own_apart ho h.1 (by decide) q hq e.symm)
  refine ⟨by simpa using hown, ?_⟩
  intro p hp
  rcases List.mem_append.1 hp with hp | hp
  · exact key (h.2 p hp)
  · simp at hp
    subst hp
    exact key hv

def ptZ : Array Value := #[.int .i64 0, .int .i64 0, .slice none 0 0]
section
variable {w wk : World} {b X : Nat} {s : ByteArray} {i c f : Nat} {fv : Value} {P : List (Value × List Sl)}
end

end Go.Proofs.YtbdffcjganlblaaGreatDoor
