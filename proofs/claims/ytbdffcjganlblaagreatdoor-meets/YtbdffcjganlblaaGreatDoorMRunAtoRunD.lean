/-
  Own work. The document's run: where a job's slices lie.
-/
import Derived.Test.YtbdffcjganlblaaGreatDoorMRefWtoRefX
import Derived.Deep.RegionHeldLaw
namespace Go.Proofs.YtbdffcjganlblaaGreatDoor
open Go.RowKit
set_option linter.unusedVariables false
set_option linter.unusedSimpArgs false

/-- A job's first slice, its last one, its budgets together. -/
structure Spt where
  fst : Int
  lst : Int
  cost : Nat
def isOf (x : FSl) (n : UInt8) (k : Nat) : Prop := x.2.nm = n ∧ x.2.job = k
instance (x : FSl) (n : UInt8) (k : Nat) : Decidable (isOf x n k) := by unfold isOf; infer_instance
def spotTo (l : List FSl) (n : UInt8) (k : Nat) : Nat → Spt
  | 0 => ⟨-1, -1, 0⟩
  | q + 1 => if isOf (fsk l q) n k then ⟨if (spotTo l n k q).fst < 0 then q else (spotTo l n k q).fst, q, (spotTo l n k q).cost + (fsk l q).2.bud⟩ else spotTo l n k q
def spotL (l : List FSl) (n : UInt8) (k : Nat) : Spt := spotTo l n k l.length
theorem spotTo_yes {l : List FSl} {n : UInt8} {k q : Nat} (h : isOf (fsk l q) n k) : spotTo l n k (q + 1) = ⟨if (spotTo l n k q).fst < 0 then q else (spotTo l n k q).fst, q, (spotTo l n k q).cost + (fsk l q).2.bud⟩ := by
  rw [spotTo, if_pos h]
theorem spotTo_no {l : List FSl} {n : UInt8} {k q : Nat} (h : ¬ isOf (fsk l q) n k) : spotTo l n k (q + 1) = spotTo l n k q := by
  rw [spotTo, if_neg h]
theorem spotTo_cost {l : List FSl} (hs : ∀ i, i < l.length → (fsk l i).small) (n : UInt8) (k : Nat) : ∀ q, q ≤ l.length → (spotTo l n k q).cost ≤ q * 9999
  | 0, _ => Nat.zero_le _
  | q + 1, h => by
    have ih := spotTo_cost hs n k q (by omega)
    have hb : (fsk l q).2.bud ≤ 9999 := (hs q (by omega)).2.2
    have e : (q + 1) * 9999 = q * 9999 + 9999 := Nat.succ_mul q 9999
    rw [spotTo, e]
    clear e hs
    generalize q * 9999 = z at *
    split
    · show (spotTo l n k q).cost + (fsk l q).2.bud ≤ z + 9999
      omega
    · omega

section
variable {w wr : World} {c f : Nat} {sv : Value} {p : Spt}
end

end Go.Proofs.YtbdffcjganlblaaGreatDoor

namespace Go.Proofs.YtbdffcjganlblaaGreatDoor
open Go.RowKit
set_option linter.unusedVariables false
set_option linter.unusedSimpArgs false

/-- The first slice of a job, or none. -/
theorem spotTo_fst (l : List FSl) (n : UInt8) (k : Nat) : ∀ q, ((spotTo l n k q).fst = -1 ∧ ∀ i, i < q → ¬ isOf (fsk l i) n k) ∨ ∃ m : Nat, (spotTo l n k q).fst = m ∧ m < q ∧ isOf (fsk l m) n k ∧ ∀ i, i < m → ¬ isOf (fsk l i) n k
  | 0 => .inl ⟨rfl, fun i h => by omega⟩
  | q + 1 => by
    rcases spotTo_fst l n k q with ⟨h1, h2⟩ | ⟨m, h1, h2, h3, h4⟩
    · by_cases h : isOf (fsk l q) n k
      · refine .inr ⟨q, ?_, by omega, h, h2⟩
        rw [spotTo_yes h]
        show (if (spotTo l n k q).fst < 0 then (q : Int) else (spotTo l n k q).fst) = q
        rw [if_pos (by omega)]
      · refine .inl ⟨by rw [spotTo_no h]; exact h1, fun i hi => ?_⟩
        rcases Nat.lt_or_ge i q with h5 | h5
        · exact h2 i h5
        · have : i = q := by omega
          subst this
          exact h
    · refine .inr ⟨m, ?_, by omega, h3, h4⟩
      by_cases h : isOf (fsk l q) n k
      · rw [spotTo_yes h]
        show (if (spotTo l n k q).fst < 0 then (q : Int) else (spotTo l n k q).fst) = m
        rw [if_neg (by omega), h1]
      · rw [spotTo_no h]
        exact h1
/-- The slice's own job. -/
def spotI (l : List FSl) (i : Nat) : Spt := spotL l (fsk l i).2.nm (fsk l i).2.job
def sameJ (l : List FSl) (i k : Nat) : Prop := (fsk l k).2.nm = (fsk l i).2.nm ∧ (fsk l k).2.job = (fsk l i).2.job
theorem spotI_fst {l : List FSl} {i : Nat} (h : i < l.length) : ∃ m : Nat, (spotI l i).fst = m ∧ m ≤ i ∧ sameJ l i m ∧ ∀ k, k < m → ¬ sameJ l i k := by
  rcases spotTo_fst l (fsk l i).2.nm (fsk l i).2.job l.length with ⟨_, h2⟩ | ⟨m, h1, h2, h3, h4⟩
  · exact absurd ⟨rfl, rfl⟩ (h2 i h)
  · refine ⟨m, h1, ?_, h3, h4⟩
    rcases Nat.lt_or_ge i m with h5 | h5
    · exact absurd ⟨rfl, rfl⟩ (h4 i h5)
    · exact h5
theorem spotI_same {l : List FSl} {i k : Nat} (h : sameJ l i k) : spotI l k = spotI l i := by
  unfold spotI
  rw [h.1, h.2]
/-- How many jobs begin ahead of slice q. -/
def cntTo (l : List FSl) : Nat → Nat
  | 0 => 0
  | q + 1 => if (spotI l q).fst = q then cntTo l q + 1 else cntTo l q
theorem cntTo_le (l : List FSl) : ∀ q, cntTo l q ≤ q
  | 0 => Nat.le_refl _
  | q + 1 => by
    have := cntTo_le l q
    rw [cntTo]
    split <;> omega
def numI (l : List FSl) (i : Nat) : Nat := cntTo l (spotI l i).fst.toNat

end Go.Proofs.YtbdffcjganlblaaGreatDoor

namespace Go.Proofs.YtbdffcjganlblaaGreatDoor
open Go.RowKit
set_option linter.unusedVariables false
set_option linter.unusedSimpArgs false

end Go.Proofs.YtbdffcjganlblaaGreatDoor

namespace Go.Proofs.YtbdffcjganlblaaGreatDoor
open Go.RowKit
set_option linter.unusedVariables false
set_option linter.unusedSimpArgs false

/-- Slice i of frame j ends here. -/
def endI (l : List FSl) (fr j i : Nat) : Nat := j * fr + usedJ (l.take i) j + (fsk l i).2.bud
def hitI (l : List FSl) (fr u i : Nat) : Prop := (fsk l i).1 = u / fr ∧ u < endI l fr (u / fr) i
instance (l : List FSl) (fr u i : Nat) : Decidable (hitI l fr u i) := by unfold hitI; infer_instance
def atTo (l : List FSl) (fr u : Nat) : Nat → Option Nat
  | 0 => none
  | q + 1 => match atTo l fr u q with
    | some i => some i
    | none => if hitI l fr u q then some q else none
def atL (l : List FSl) (fr u : Nat) : Option Nat := atTo l fr u l.length
theorem atTo_spec (l : List FSl) (fr u : Nat) : ∀ q, (atTo l fr u q = none ∧ ∀ k, k < q → ¬ hitI l fr u k) ∨ ∃ i, atTo l fr u q = some i ∧ i < q ∧ hitI l fr u i ∧ ∀ k, k < i → ¬ hitI l fr u k
  | 0 => .inl ⟨rfl, fun k h => by omega⟩
  | q + 1 => by
    rcases atTo_spec l fr u q with ⟨h1, h2⟩ | ⟨i, h1, h2, h3, h4⟩
    · by_cases h : hitI l fr u q
      · exact .inr ⟨q, by rw [atTo, h1]; simp [h], by omega, h, h2⟩
      · refine .inl ⟨by rw [atTo, h1]; simp [h], fun k hk => ?_⟩
        rcases Nat.lt_or_ge k q with h5 | h5
        · exact h2 k h5
        · have : k = q := by omega
          subst this
          exact h
    · exact .inr ⟨i, by rw [atTo, h1], by omega, h3, h4⟩
def startI (l : List FSl) (fr i : Nat) : Nat := (fsk l i).1 * fr + usedJ (l.take i) (fsk l i).1

theorem usedJ_next {l : List FSl} {q j : Nat} (hq : q < l.length) : usedJ (l.take (q + 1)) j = usedJ (l.take q) j + if (fsk l q).1 = j then (fsk l q).2.bud else 0 := by
  rw [take_next hq, usedJ_app]
  simp [usedJ]
/-- What job number m of all wants. -/
def wantsL (cs : List Int) (m : Nat) (b : Nat) : Int := if cs.length = 0 then b else cs.getD (m % cs.length) 0
/-- Costs in memory. -/
def CostsAt (w : World) (a : Option Addr) (cs : List Int) : Prop := cs = [] ∨ ∃ b off, a = some ⟨b, off, none⟩ ∧ b < w.heap.size ∧ ∀ k, k < cs.length → w.cell? ⟨b, off + k, none⟩ = some (.int .i64 (cs.getD k 0))

/-- Run's other arguments are within their bounds. -/
def ticksOk (t : Int) (cs : List Int) : Prop := 0 ≤ t ∧ t ≤ 400 ∧ cs.length ≤ 40 ∧ ∀ k, k < cs.length → 0 ≤ cs.getD k 0 ∧ cs.getD k 0 ≤ 400

set_option maxRecDepth 100000 in
set_option maxHeartbeats 2000000 in
theorem rTicks_any (t : Int) (cs : List Int) (a : Option Addr) (cap : Nat) (w : World) (hc : CostsAt w a cs) (hn : cs.length ≤ 9223372036854775807) :
    Calls Tryz.prog 20 #[.int .i64 t, .slice a cs.length cap] w (BoolPost (ticksOk t cs) w) := by
  have HC := hide hc
  have HX : Hid (¬ cs.length = 0 → ∃ b off, a = some ⟨b, off, none⟩ ∧ b < w.heap.size ∧ ∀ k, k < cs.length → w.cell? ⟨b, off + k, none⟩ = some (.int .i64 (cs.getD k 0))) := by
    intro h0
    rcases hc with rfl | h
    · exact absurd rfl h0
    · exact h
  clear hc HC
  go_enter Tryz.func20, Tryz.ntmps20
  have hcs : t < 0 ∨ (¬ t < 0 ∧ 400 < t) ∨ (¬ t < 0 ∧ ¬ 400 < t ∧ (40 : Int) < cs.length) ∨ (¬ t < 0 ∧ ¬ 400 < t ∧ ¬ (40 : Int) < cs.length) := by omega
  rcases hcs with h1 | ⟨h1, h2⟩ | ⟨h1, h2, h3⟩ | ⟨h1, h2, h3⟩
  · have hno : Hid (¬ ticksOk t cs) := fun h => by have := h.1; omega
    go_wp2
    go_ret
    exact boolPost_no rfl hno.out (Below.refl _ _)
  · have hno : Hid (¬ ticksOk t cs) := fun h => by have := h.2.1; omega
    go_wp2
    go_ret
    exact boolPost_no rfl hno.out (Below.refl _ _)
  · have hno : Hid (¬ ticksOk t cs) := fun h => by have := h.2.2.1; omega
    go_wp2
    go_ret
    exact boolPost_no rfl hno.out (Below.refl _ _)
  · have hyes : Hid ((∀ k, k < cs.length → 0 ≤ cs.getD k 0 ∧ cs.getD k 0 ≤ 400) → ticksOk t cs) := fun h => ⟨by omega, by omega, by omega, h⟩
    go_wp2_with fail
    go_loopw [5] (fun i wr => ∃ q : Nat, q ≤ cs.length ∧ i = .int .i64 q ∧ wr = w ∧ Hid (∀ k, k < q → 0 ≤ cs.getD k 0 ∧ cs.getD k 0 ≤ 400)) (fun i _ => cs.length - (intOf i).toNat)
    case atStart => exact ⟨0, by omega, rfl, rfl, fun k h => by omega⟩
    case round =>
      obtain ⟨q, hq, rfl, rfl, hto⟩ := hrel
      by_cases hlt : q < cs.length
      · have hlt' : (q : Int) < cs.length := by omega
        obtain ⟨b, off, rfl, hb, hr⟩ := HX.out (by omega)
        have hk := hr q hlt
        have hcs : cs.getD q 0 < 0 ∨ (¬ cs.getD q 0 < 0 ∧ 400 < cs.getD q 0) ∨ (¬ cs.getD q 0 < 0 ∧ ¬ 400 < cs.getD q 0) := by omega
        have hno : Hid (¬ (0 ≤ cs.getD q 0 ∧ cs.getD q 0 ≤ 400) → ¬ ticksOk t cs) := fun h h2 => h (h2.2.2.2 q hlt)
        have hnx : Hid (0 ≤ cs.getD q 0 ∧ cs.getD q 0 ≤ 400 → ∀ k, k < q + 1 → 0 ≤ cs.getD k 0 ∧ cs.getD k 0 ≤ 400) := by
          intro h k hk
          rcases Nat.lt_or_ge k q with h5 | h5
          · exact hto.out k h5
          · have : k = q := by omega
            subst this
            exact h
        clear hr HX hto
        generalize cs.getD q 0 = V at *
        rcases hcs with h4 | ⟨h4, h5⟩ | ⟨h4, h5⟩
        · go_wp2
          go_ret
          exact boolPost_no rfl (hno.out (by omega)) (Below.refl _ _)
        · go_wp2
          go_ret
          exact boolPost_no rfl (hno.out (by omega)) (Below.refl _ _)
        · go_wp2
          go_roundw
          case rel => exact ⟨q + 1, by omega, by go_num, trivial, hnx.out (by omega)⟩
          case measure => simp [intOf]; omega
      · have hlt' : ¬ (q : Int) < cs.length := by omega
        have hall := hide (hyes.out (by have : q = cs.length := (by omega); rw [← this]; exact hto.out))
        clear hto hyes
        go_wp2
        go_ret
        exact boolPost_yes rfl hall.out (Below.refl _ _)
end Go.Proofs.YtbdffcjganlblaaGreatDoor
