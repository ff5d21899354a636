/-
  Own work. The document's tables: the memory of ReadTable.
-/
import Derived.Test.YtbdffcjganlblaaGreatDoorRefRtoRefU
import Derived.Deep.RegionLaw
import Derived.Deep.DeepCutAuto
namespace Go.Proofs.YtbdffcjganlblaaGreatDoor
open Go.RowKit
set_option linter.unusedVariables false
set_option linter.unusedSimpArgs false

/-! ### Memory -/
def tbZ : Array Value := #[.int .i64 0, .int .i64 0, .slice none 0 0]
/-- Ahead of the table. -/
structure RW (w wk : World) (B r cap : Nat) (T : List PT) (i : Nat) (bad : Bool) : Prop where
  ps : PS wk B r cap T i bad
  hy : wk.heap[w.heap.size]? = some (.cells tbZ 39 (0, 0))
  g : w.grownBy wk none
  h1 : w.heap.size < r
  h2 : r < B
theorem RW.call {w wk : World} {B r cap : Nat} {T : List PT} {i : Nat} {bad : Bool} (h : RW w wk B r cap T i bad) {w' : World} {i' : Nat} {bad' : Bool} (p : PS w' B r cap T i' bad') (g : wk.grownBy w' (some B)) : RW w w' B r cap T i' bad' := by
  have h1 := h.h1
  have h2 := h.h2
  exact ⟨p, by rw [g.block _ (blk_lt h.hy) (by simp; omega)]; exact h.hy, grownBy_new h.g g (by omega), h1, h2⟩
structure RX (w wk : World) (B r cap : Nat) (T : List PT) (i : Nat) (bad : Bool) (X c f : Nat) (sv : Value) : Prop where
  rw_ : RW w wk B r cap T i bad
  hx : wk.heap[X]? = some (.cells #[.int .i64 c, .int .i64 f, sv] 39 (0, 0))
  h3 : B < X
section
variable {w wk : World} {B r cap : Nat} {T : List PT} {i : Nat} {bad : Bool} {X c f : Nat} {sv : Value}
theorem RX.call (h : RX w wk B r cap T i bad X c f sv) {w' : World} {i' : Nat} {bad' : Bool} (p : PS w' B r cap T i' bad') (g : wk.grownBy w' (some B)) : RX w w' B r cap T i' bad' X c f sv := by
  have h3 := h.h3
  exact ⟨h.rw_.call p g, by rw [g.block _ (blk_lt h.hx) (by simp; omega)]; exact h.hx, h3⟩
theorem RX.cells (h : RX w wk B r cap T i bad X c f sv) : wk.cell? ⟨X, 0, none⟩ = some (.int .i64 c) ∧ wk.cell? ⟨X, 1, none⟩ = some (.int .i64 f) ∧ wk.cell? ⟨X, 2, none⟩ = some sv ∧ (∀ o, wk.frozen? ⟨X, o, none⟩ = false) ∧ (∀ o, wk.cell? ⟨w.heap.size, o, none⟩ = tbZ[o]?) ∧ (∀ o, wk.frozen? ⟨w.heap.size, o, none⟩ = false) :=
  ⟨by rw [blk_cell h.hx]; rfl, by rw [blk_cell h.hx]; rfl, by rw [blk_cell h.hx]; rfl, blk_frozen h.hx, blk_cell h.rw_.hy, blk_frozen h.rw_.hy⟩
theorem RX.start (h : RW w wk B r cap T i bad) (c f : Nat) : RX w (wk.alloc (.cells #[.int .i64 c, .int .i64 f, .slice none 0 0] 39)) B r cap T i bad wk.heap.size c f (.slice none 0 0) := by
  refine ⟨⟨h.ps.alloc _, by rw [Below.heap_alloc _ _ _ (blk_lt h.hy)]; exact h.hy, grownBy_alloc' h.g _, h.h1, h.h2⟩, blk_new _ _ _, h.ps.ltb⟩

theorem RowF.keep {w w' : World} {g : Nat} {l : List FSl} (h : RowF w g l) (hb : w'.heap[g]? = w.heap[g]?) : RowF w' g l := by
  intro k hk
  have e : ∀ o, w'.cell? ⟨g, o, none⟩ = w.cell? ⟨g, o, none⟩ := fun o => World.cell?_of_block (a := ⟨g, o, none⟩) hb
  rw [e, e, e, e]
  exact h k hk

/-- One slice more. -/
theorem RX.push (h : RX w wk B r cap T i bad X c f sv) {Lb : Nat} {z : Value} {n m : Nat} {xs ys : List Value} {l : List FSl} {o1 : Obj} {w2 : World} {v' : Value}
    (hi : InvL (B + 1) Lb 44 4 z wk sv n xs) (hL : B < Lb) (hl : Lb < wk.heap.size) (hne : Lb ≠ X) (hrow : RowF wk Lb l)
    (hg : (wk.alloc o1).drew.grownBy w2 sv.ownBlock) (hi2 : InvL (B + 1) Lb 44 4 z w2 v' m ys) :
    RX w (w2.setCell ⟨X, 2, none⟩ v') B r cap T i bad X c f v' ∧ InvL (B + 1) Lb 44 4 z (w2.setCell ⟨X, 2, none⟩ v') v' m ys ∧ RowF (w2.setCell ⟨X, 2, none⟩ v') Lb l ∧ Lb < (w2.setCell ⟨X, 2, none⟩ v').heap.size := by
  have h1 := h.rw_.h1
  have h2 := h.rw_.h2
  have h3 := h.h3
  have hX := blk_lt h.hx
  have how := hi.own (by omega)
  have hg' : (wk.alloc o1).grownBy w2 sv.ownBlock := ⟨hg.os, hg.tape, hg.output, hg.size, hg.block⟩
  have hsz := hg'.size
  simp only [World.size_alloc] at hsz
  have hblk : ∀ k, k < wk.heap.size → sv.ownBlock ≠ some k → w2.heap[k]? = wk.heap[k]? := by
    intro k hk hne
    rw [hg'.block k (by simp; omega) (fun e => hne e.symm), Below.heap_alloc _ _ _ hk]
  have hlow : ∀ k, k < B + 1 → sv.ownBlock ≠ some k := fun k hk => own_ge how hk
  have hX2 : w2.heap[X]? = some (.cells #[.int .i64 c, .int .i64 f, sv] 39 (0, 0)) := by
    rw [hblk X hX (own_type how h.hx (by decide))]; exact h.hx
  have hv'X := own_type (hi2.own (by omega)) hX2 (by decide)
  have hset : w2.grownBy (w2.setCell ⟨X, 2, none⟩ v') (some X) := grownBy_set (grownBy_refl _ _) _ _
  refine ⟨⟨⟨?_, ?_, ?_, h1, h2⟩, ?_, h3⟩, hi2.kept hset (.inr hv'X), ?_, by rw [heap_set_size]; omega⟩
  · refine (h.rw_.ps.kept (hblk B (by omega) (hlow B (by omega))) (hblk r (by omega) (hlow r (by omega))) (by omega)).setOther (by omega) (by omega) 2 v'
  · rw [Below.heap_setCell _ _ _ _ (by show w.heap.size ≠ X; omega), hblk _ (blk_lt h.rw_.hy) (hlow _ (by omega))]; exact h.rw_.hy
  · have hgw : w.grownBy w2 none := by
      have ha := grownBy_alloc' h.rw_.g o1
      refine ⟨hg'.os.trans ha.os, hg'.tape.trans ha.tape, hg'.output.trans ha.output, Nat.le_trans ha.size hg'.size, fun k hk hne => ?_⟩
      rw [hg'.block k (by have := ha.size; omega) (fun e => hlow k (by omega) e.symm)]
      exact ha.block k hk hne
    exact grownBy_setNew hgw (by omega) _ _
  · rw [blk_set hX2]; rfl
  · refine hrow.keep ?_
    rw [Below.heap_setCell _ _ _ _ (by show Lb ≠ X; exact hne), hblk Lb hl hi.apart]
end
end Go.Proofs.YtbdffcjganlblaaGreatDoor

namespace Go.Proofs.YtbdffcjganlblaaGreatDoor
open Go.RowKit
set_option linter.unusedVariables false
set_option linter.unusedSimpArgs false

/-- The text of l is that of the table t. -/
def TabOk (l : List UInt8) (t : Tb) : Prop := l.length ≤ 800 ∧ pTab (allToks l) = some t ∧ Sound t ∧ tbTxt t = l
theorem pMore_small {l : List UInt8} : ∀ (n : Nat) (i : Nat), (allToks l).length - i ≤ n → ∀ f j, pMore (allToks l) i = some (f, j) → ∀ s ∈ f, s.job ≤ 9999 ∧ s.bud ≤ 9999 := by
  intro n
  induction n with
  | zero =>
    intro i hn f j h
    rw [pMore, dif_neg (by omega)] at h
    simp at h
  | succ n ih =>
    intro i hn f j h
    rw [pMore_eq] at h
    have hs1 : (slAt (allToks l) i).job ≤ 9999 ∧ (slAt (allToks l) i).bud ≤ 9999 := ⟨tk_N l _, tk_N l _⟩
    split at h
    · rename_i hs
      have hlt := slOk_lt hs
      split at h
      · cases hm : pMore (allToks l) (i + 5) with
        | none => rw [hm] at h; simp at h
        | some x =>
          obtain ⟨l', k⟩ := x
          rw [hm] at h
          simp at h
          obtain ⟨rfl, rfl⟩ := h
          intro s hsm
          rcases List.mem_cons.1 hsm with rfl | hsm
          · exact hs1
          · exact ih (i + 5) (by omega) l' k hm s hsm
      · split at h
        · simp at h
          obtain ⟨rfl, rfl⟩ := h
          intro s hsm
          simp at hsm
          subst hsm
          exact hs1
        · simp at h
    · simp at h
theorem pFrame_small {l : List UInt8} {i : Nat} {f : List Sl} {j : Nat} (h : pFrame (allToks l) i = some (f, j)) : ∀ s ∈ f, s.job ≤ 9999 ∧ s.bud ≤ 9999 := by
  unfold pFrame at h
  split at h
  · simp at h
    obtain ⟨rfl, rfl⟩ := h
    simp
  · exact pMore_small _ i (Nat.le_refl _) f j h
theorem pN_small {l : List UInt8} {i : Nat} : ∀ {n : Nat} {fs : List (List Sl)} {j : Nat}, pN n (allToks l) i = some (fs, j) → ∀ f ∈ fs, ∀ s ∈ f, s.job ≤ 9999 ∧ s.bud ≤ 9999
  | 0, fs, j, h => by
    simp [pN] at h
    obtain ⟨rfl, rfl⟩ := h
    simp
  | n + 1, fs, j, h => by
    rw [pN] at h
    cases h1 : pN n (allToks l) i with
    | none => rw [h1] at h; simp at h
    | some x =>
      obtain ⟨gs, k⟩ := x
      rw [h1] at h
      simp only at h
      cases h2 : pFrame (allToks l) k with
      | none => rw [h2] at h; simp at h
      | some y =>
        obtain ⟨f, k'⟩ := y
        rw [h2] at h
        simp at h
        obtain ⟨rfl, rfl⟩ := h
        intro g hg
        rcases List.mem_append.1 hg with hg | hg
        · exact pN_small h1 g hg
        · simp at hg
          subst hg
          exact pFrame_small h2

end Go.Proofs.YtbdffcjganlblaaGreatDoor
