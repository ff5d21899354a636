/-
  Own work. The document's parser: the walk of Parse.
-/
import Derived.Test.YtbdffcjganlblaaGreatDoorRefG
namespace Go.Proofs.YtbdffcjganlblaaGreatDoor
open Go.RowKit
set_option linter.unusedVariables false
set_option linter.unusedSimpArgs false

def lenOf : Option Value → Nat
  | some (.slice _ n _) => n
  | _ => 0
def moreN : Value → Nat
  | .bool true => 1
  | _ => 0

theorem Tryz.infoTask : (Tryz.prog.info? 95).map (fun i => (i.zero, i.size, i.bytes)) = some (some (.agg #[.int .u8 0, .int .i64 0, .int .i64 0, .int .i64 0, .int .i64 0, .int .i64 0, .int .i64 0, .int .i64 0, .int .i64 0, .int .i64 0]), 10, 80) := by kernel_rfl
theorem Tryz.infoPair : (Tryz.prog.info? 133).map (fun i => (i.zero, i.size, i.bytes)) = some (some (.agg #[.int .u8 0, .int .u8 0, .bool false, .int .i64 0, .int .i64 0]), 5, 24) := by kernel_rfl

/-- A slice that owns one element or more is not nil. -/
theorem own_form {w : World} {base : Nat} {e : TypeId} {size : Nat} {v : Value} {n : Nat} {xs : List Value} (h : w.ownsRow base e size v n xs) (hn : 0 < n) : ∃ g cap, v = .slice (some ⟨g, 0, none⟩) n cap ∧ base ≤ g ∧ g < w.heap.size := by
  rcases h.2 with ⟨_, h0⟩ | ⟨g, cap, cur, rfl, hb, hc, _⟩
  · omega
  · exact ⟨g, cap, rfl, hb, blk_lt hc⟩

theorem toks_ne : ∀ (f : Nat) (l : List UInt8) (i : Nat), 0 < (toks f l i).length
  | 0, _, _ => by simp [toks]
  | f + 1, l, i => by rw [toks]; split <;> simp
theorem toks_le : ∀ (f : Nat) (l : List UInt8) (i : Nat), (toks f l i).length ≤ f + 1
  | 0, _, _ => by simp [toks]
  | f + 1, l, i => by rw [toks]; have := toks_le f l (nextTok l i).nx; split <;> simp; omega
theorem toks_fin : ∀ (f : Nat) (l : List UInt8) (i : Nat), i ≤ l.length → l.length < i + f → ∀ j, j < (toks f l i).length → (tk (toks f l i) j).fin = false → j + 1 < (toks f l i).length
  | 0, l, i, h1, h2, j, _, _ => by omega
  | f + 1, l, i, h1, h2, j, hj, hf => by
    rw [toks] at hj hf ⊢
    cases hq : (nextTok l i).fin
    · rw [hq] at hj hf
      simp only [Bool.false_eq_true, if_false] at hj hf ⊢
      cases j with
      | zero => have := toks_ne f l (nextTok l i).nx; simp; omega
      | succ j =>
        have b1 := nextTok_bound l i h1
        have b2 := nextTok_long l i hq
        have := toks_fin f l (nextTok l i).nx b1.2.1 (by omega) j (by simpa using hj) (by simpa [tk] using hf)
        simp; omega
    · rw [hq] at hj hf
      simp only [if_true] at hj hf ⊢
      have h0 : j = 0 := by simpa using hj
      subst h0
      simp [tk, hq] at hf

theorem tokRow_get (T : List PT) : ∀ (j : Nat), j < T.length → (tokRow T)[j * 4]? = some (.int .u8 (tk T j).k) ∧ (tokRow T)[j * 4 + 1]? = some (.string (bs (tk T j).S)) ∧ (tokRow T)[j * 4 + 2]? = some (.int .i64 (tk T j).N) ∧ (tokRow T)[j * 4 + 3]? = some (.int .i64 (tk T j).at_) := by
  induction T with
  | nil => intro j h; simp at h
  | cons t r ih =>
    intro j hj
    have e : tokRow (t :: r) = tokCells t ++ tokRow r := rfl
    have el : (tokCells t).length = 4 := rfl
    cases j with
    | zero => rw [e]; simp [tokCells, tk]
    | succ j =>
      have := ih j (by simpa using hj)
      rw [e]
      rw [List.getElem?_append_right (by omega), List.getElem?_append_right (by omega), List.getElem?_append_right (by omega), List.getElem?_append_right (by omega), el]
      rw [show (j + 1) * 4 - 4 = j * 4 by omega, show (j + 1) * 4 + 1 - 4 = j * 4 + 1 by omega, show (j + 1) * 4 + 2 - 4 = j * 4 + 2 by omega, show (j + 1) * 4 + 3 - 4 = j * 4 + 3 by omega]
      simpa [tk] using this

/-- The parser as Parse lays it. -/
theorem ps_start {w1 : World} {base g cap : Nat} {l : List UInt8} (hl : l.length ≤ 800) (hown : w1.ownsRow base 76 4 (.slice (some ⟨g, 0, none⟩) (allToks l).length cap) (allToks l).length (tokRow (allToks l))) (hg : g < w1.heap.size) (o : Obj) :
    PS ((w1.alloc (.cells #[.slice (some ⟨g, 0, none⟩) (allToks l).length cap, .int .i64 0, .bool false] 71)).alloc o) w1.heap.size g cap (allToks l) 0 false := by
  have hb := blk_new w1 #[.slice (some ⟨g, 0, none⟩) (allToks l).length cap, .int .i64 0, .bool false] 71
  have hb2 : ((w1.alloc (.cells #[.slice (some ⟨g, 0, none⟩) (allToks l).length cap, .int .i64 0, .bool false] 71)).alloc o).heap[w1.heap.size]? = some (.cells #[.slice (some ⟨g, 0, none⟩) (allToks l).length cap, .int .i64 0, .bool false] 71 (0, 0)) := by
    rw [Below.heap_alloc _ _ _ (by simp)]; exact hb
  have hr : ∀ k, k < w1.heap.size → ((w1.alloc (.cells #[.slice (some ⟨g, 0, none⟩) (allToks l).length cap, .int .i64 0, .bool false] 71)).alloc o).heap[k]? = w1.heap[k]? := by
    intro k hk
    rw [Below.heap_alloc _ _ _ (by simp; omega), Below.heap_alloc _ _ _ hk]
  refine ⟨by rw [blk_cell hb2]; rfl, by rw [blk_cell hb2]; rfl, by rw [blk_cell hb2]; rfl, blk_frozen hb2 _, blk_frozen hb2 _, ?_, toks_ne _ _ _, by have := toks_le (l.length + 1) l 0; unfold allToks; omega, ?_, by omega, by simp; omega, by simp; omega⟩
  · intro j hj
    have e : ∀ o', ((w1.alloc (.cells #[.slice (some ⟨g, 0, none⟩) (allToks l).length cap, .int .i64 0, .bool false] 71)).alloc o).cell? ⟨g, o', none⟩ = w1.cell? ⟨g, o', none⟩ := fun o' => World.cell?_of_block (a := ⟨g, o', none⟩) (hr g hg)
    rw [e, e, e, e, hown.cellAt _ (by omega), hown.cellAt _ (by omega), hown.cellAt _ (by omega), hown.cellAt _ (by omega)]
    exact tokRow_get _ j hj
  · exact toks_fin (l.length + 1) l 0 (by omega) (by omega)
end Go.Proofs.YtbdffcjganlblaaGreatDoor
