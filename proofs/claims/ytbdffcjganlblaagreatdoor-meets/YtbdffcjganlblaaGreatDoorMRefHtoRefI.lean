/-
  Own work. The document's parser: the walk of Parse.
-/
import Derived.Test.YtbdffcjganlblaaGreatDoorMRefFtoRefG
namespace Go.Proofs.YtbdffcjganlblaaGreatDoor
open Go.RowKit
set_option linter.unusedVariables false
set_option linter.unusedSimpArgs false

def lenOf : Option Value → Nat
  | some (.slice _ n _) => n
  | _ => 0
def moreN : Value → Nat
  | .bool true => 1
  | _ => 0

theorem Tryz.infoTask : (Tryz.prog.info? 95).map (fun i => (i.zero, i.size, i.bytes)) = some (some (.agg #[.int .u8 0, .int .i64 0, .int .i64 0, .int .i64 0, .int .i64 0, .int .i64 0, .int .i64 0, .int .i64 0, .int .i64 0, .int .i64 0]), 10, 80) := by kernel_rfl
theorem Tryz.infoPair : (Tryz.prog.info? 133).map (fun i => (i.zero, i.size, i.bytes)) = some (some (.agg #[.int .u8 0, .int .u8 0, .bool false, .int .i64 0, .int .i64 0]), 5, 24) := by kernel_rfl

/-- A slice that owns one element or more is not nil. -/
theorem own_form {w : World} {base : Nat} {e : TypeId} {size : Nat} {v : Value} {n : Nat} {xs : List Value} (h : w.ownsRow base e size v n xs) (hn : 0 < n) : ∃ g cap, v = .slice (some ⟨g, 0, none⟩) n cap ∧ base ≤ g ∧ g < w.heap.size := by
  rcases h.2 with ⟨_, h0⟩ | ⟨g, cap, cur, rfl, hb, hc, _⟩
  · omega
  · exact ⟨g, cap, rfl, hb, blk_lt hc⟩

theorem toks_ne : ∀ (f : Nat) (l : List UInt8) (i : Nat), 0 < (toks f l i).length
  | 0, _, _ => by simp [toks]
  | f + 1, l, i => by rw [toks]; split <;> simp
theorem toks_le : ∀ (f : Nat) (l : List UInt8) (i : Nat), (toks f l i).length ≤ f + 1
  | 0, _, _ => by simp [toks]
  | f + 1, l, i => by rw [toks]; have := toks_le f l (nextTok l i).nx; split <;> simp; omega
theorem toks_fin : ∀ (f : Nat) (l : List UInt8) (i : Nat), i ≤ l.length → l.length < i + f → ∀ j, j < (toks f l i).length → (tk (toks f l i) j).fin = false → j + 1 < (toks f l i).length
  | 0, l, i, h1, h2, j, _, _ => by omega
  | f + 1, l, i, h1, h2, j, hj, hf => by
    rw [toks] at hj hf ⊢
    cases hq : (nextTok l i).fin
    · rw [hq] at hj hf
      simp only [Bool.false_eq_true, if_false] at hj hf ⊢
      cases j with
      | zero => have := toks_ne f l (nextTok l i).nx; simp; omega
      | succ j =>
        have b1 := nextTok_bound l i h1
        have b2 := nextTok_long l i hq
        have := toks_fin f l (nextTok l i).nx b1.2.1 (by omega) j (by simpa using hj) (by simpa [tk] using hf)
        simp; omega
    · rw [hq] at hj hf
      simp only [if_true] at hj hf ⊢
      have h0 : j = 0 := by simpa using hj
      subst h0
      simp [tk, hq] at hf

theorem tokRow_get (T : List PT) : ∀ (j : Nat), j < T.length → (tokRow T)[j * 4]? = some (.int .u8 (tk T j).k) ∧ (tokRow T)[j * 4 + 1]? = some (.string (bs (tk T j).S)) ∧ (tokRow T)[j * 4 + 2]? = some (.int .i64 (tk T j).N) ∧ (tokRow T)[j * 4 + 3]? = some (.int .i64 (tk T j).at_) := by
  induction T with
  | nil => intro j h; simp at h
  | cons t r ih =>
    intro j hj
    have e : tokRow (t :: r) = tokCells t ++ tokRow r := rfl
    have el : (tokCells t).length = 4 := rfl
    cases j with
    | zero => rw [e]; simp [tokCells, tk]
    | succ j =>
      have := ih j (by simpa using hj)
      rw [e]
      rw [List.getElem?_append_right (by omega), List.getElem?_append_right (by omega), List.getElem?_append_right (by omega), List.getElem?_append_right (by omega), el]
      rw [show (j + 1) * 4 - 4 = j * 4 by omega, show (j + 1) * 4 + 1 - 4 = j * 4 + 1 by omega, show (j + 1) * 4 + 2 - 4 = j * 4 + 2 by omega, show (j + 1) * 4 + 3 - 4 = j * 4 + 3 by omega]
      simpa [tk] using this

/-- The parser as Parse lays it. -/
theorem ps_start {w1 : World} {base g cap : Nat} {l : List UInt8} (hl : l.length ≤ 800) (hown : w1.ownsRow base 76 4 (.slice (some ⟨g, 0, none⟩) (allToks l).length cap) (allToks l).length (tokRow (allToks l))) (hg : g < w1.heap.size) (o : Obj) :
    PS ((w1.alloc (.cells #[.slice (some ⟨g, 0, none⟩) (allToks l).length cap, .int .i64 0, .bool false] 71)).alloc o) w1.heap.size g cap (allToks l) 0 false := by
  have hb := blk_new w1 #[.slice (some ⟨g, 0, none⟩) (allToks l).length cap, .int .i64 0, .bool false] 71
  have hb2 : ((w1.alloc (.cells #[.slice (some ⟨g, 0, none⟩) (allToks l).length cap, .int .i64 0, .bool false] 71)).alloc o).heap[w1.heap.size]? = some (.cells #[.slice (some ⟨g, 0, none⟩) (allToks l).length cap, .int .i64 0, .bool false] 71 (0, 0)) := by
    rw [Below.heap_alloc _ _ _ (by simp)]; exact hb
  have hr : ∀ k, k < w1.heap.size → ((w1.alloc (.cells #[.slice (some ⟨g, 0, none⟩) (allToks l).length cap, .int .i64 0, .bool false] 71)).alloc o).heap[k]? = w1.heap[k]? := by
    intro k hk
    rw [Below.heap_alloc _ _ _ (by simp; omega), Below.heap_alloc _ _ _ hk]
  refine ⟨by rw [blk_cell hb2]; rfl, by rw [blk_cell hb2]; rfl, by rw [blk_cell hb2]; rfl, blk_frozen hb2 _, blk_frozen hb2 _, ?_, toks_ne _ _ _, by have := toks_le (l.length + 1) l 0; unfold allToks; omega, ?_, by omega, by simp; omega, by simp; omega⟩
  · intro j hj
    have e : ∀ o', ((w1.alloc (.cells #[.slice (some ⟨g, 0, none⟩) (allToks l).length cap, .int .i64 0, .bool false] 71)).alloc o).cell? ⟨g, o', none⟩ = w1.cell? ⟨g, o', none⟩ := fun o' => World.cell?_of_block (a := ⟨g, o', none⟩) (hr g hg)
    rw [e, e, e, e, hown.cellAt _ (by omega), hown.cellAt _ (by omega), hown.cellAt _ (by omega), hown.cellAt _ (by omega)]
    exact tokRow_get _ j hj
  · exact toks_fin (l.length + 1) l 0 (by omega) (by omega)
end Go.Proofs.YtbdffcjganlblaaGreatDoor

namespace Go.Proofs.YtbdffcjganlblaaGreatDoor
set_option linter.unusedVariables false
set_option linter.unusedSimpArgs false

/-- A slice: whose job, and how much of it. -/
structure Sl where
  nm : UInt8
  job : Nat
  bud : Nat
/-- A table: the cycle, the frame, the frames' slices. -/
structure Tb where
  cyc : Nat
  fr : Nat
  fs : List (List Sl)

def wCycle : ByteArray := ⟨#[99, 121, 99, 108, 101]⟩
def wFrame : ByteArray := ⟨#[102, 114, 97, 109, 101]⟩

/-- Does a slice stand at token i, and which? -/
def slOk (T : List PT) (i : Nat) : Bool := isName (tk T i) && ((tk T (i + 1)).k == 110 && ((tk T (i + 2)).k == 58 && (tk T (i + 3)).k == 110))
def slAt (T : List PT) (i : Nat) : Sl := ⟨nameB (tk T i), (tk T (i + 1)).N, (tk T (i + 3)).N⟩

/-- The slices from token i on, up to the frame's end; the place behind it. -/
def pMore (T : List PT) (i : Nat) : Option (List Sl × Nat) :=
  if h : i < T.length then
    if slOk T i then
      if (tk T (i + 4)).k == 44 then (match pMore T (i + 5) with | none => none | some (l, k) => some (slAt T i :: l, k))
      else if (tk T (i + 4)).k == 59 then some ([slAt T i], i + 5) else none
    else none
  else none
termination_by T.length - i

theorem tk_out {T : List PT} {i : Nat} (h : T.length ≤ i) : tk T i = ⟨101, [], 0⟩ := by
  unfold tk
  rw [List.getD_eq_getElem?_getD, List.getElem?_eq_none h]; rfl
theorem slOk_lt {T : List PT} {i : Nat} (h : slOk T i = true) : i + 3 < T.length := by
  rcases Nat.lt_or_ge (i + 3) T.length with h1 | h1
  · exact h1
  · simp [slOk, tk_out h1] at h

theorem pMore_eq (T : List PT) (i : Nat) : pMore T i = if slOk T i then
      if (tk T (i + 4)).k == 44 then (match pMore T (i + 5) with | none => none | some (l, k) => some (slAt T i :: l, k))
      else if (tk T (i + 4)).k == 59 then some ([slAt T i], i + 5) else none
    else none := by
  conv => lhs; rw [pMore]
  split
  · rfl
  · rename_i h
    rw [if_neg]
    intro h1
    have := slOk_lt h1
    omega

theorem pMore_no {T : List PT} {i : Nat} (h : slOk T i = false) : pMore T i = none := by rw [pMore_eq, h]; rfl
theorem pMore_last {T : List PT} {i : Nat} (h : slOk T i = true) (h1 : (tk T (i + 4)).k = 59) : pMore T i = some ([slAt T i], i + 5) := by rw [pMore_eq, h, h1]; rfl
theorem pMore_cut {T : List PT} {i : Nat} (h : slOk T i = true) (h1 : (tk T (i + 4)).k ≠ 59) (h2 : (tk T (i + 4)).k ≠ 44) : pMore T i = none := by rw [pMore_eq, h]; simp [h1, h2]
theorem pMore_on {T : List PT} {i : Nat} (h : slOk T i = true) (h1 : (tk T (i + 4)).k = 44) : pMore T i = (match pMore T (i + 5) with | none => none | some (l, k) => some (slAt T i :: l, k)) := by rw [pMore_eq, h, h1]; rfl

theorem pMore_len : ∀ (n : Nat) (T : List PT) (i : Nat), T.length - i ≤ n → ∀ l j, pMore T i = some (l, j) → i + 4 * l.length < j ∧ 1 ≤ l.length ∧ j ≤ T.length := by
  intro n
  induction n with
  | zero =>
    intro T i hn l j h
    rw [pMore, dif_neg (by omega)] at h
    simp at h
  | succ n ih =>
    intro T i hn l j h
    rw [pMore_eq] at h
    split at h
    · rename_i hs
      have hlt := slOk_lt hs
      split at h
      · cases hm : pMore T (i + 5) with
        | none => rw [hm] at h; simp at h
        | some x =>
          obtain ⟨l', k⟩ := x
          rw [hm] at h
          simp at h
          obtain ⟨rfl, rfl⟩ := h
          have := ih T (i + 5) (by omega) l' k hm
          simp
          omega
      · split at h
        · rename_i h1
          simp at h
          obtain ⟨rfl, rfl⟩ := h
          simp
          rcases Nat.lt_or_ge (i + 4) T.length with h2 | h2
          · omega
          · simp [tk_out h2] at h1
        · simp at h
    · simp at h

def pFrame (T : List PT) (i : Nat) : Option (List Sl × Nat) := if (tk T i).k == 59 then some ([], i + 1) else pMore T i

theorem pFrame_len {T : List PT} {i : Nat} {l : List Sl} {j : Nat} (h : pFrame T i = some (l, j)) : i + 4 * l.length < j ∧ j ≤ T.length := by
  unfold pFrame at h
  split at h
  · rename_i h1
    simp at h
    obtain ⟨rfl, rfl⟩ := h
    simp
    rcases Nat.lt_or_ge i T.length with h2 | h2
    · omega
    · simp [tk_out h2] at h1
  · have := pMore_len _ T i (Nat.le_refl _) l j h
    omega
theorem pFrame_k {T : List PT} {i : Nat} {x : List Sl × Nat} (h : pFrame T i = some x) : (tk T i).k ≠ 101 ∧ (tk T i).k ≠ 120 := by
  unfold pFrame at h
  split at h
  · rename_i h1
    have : (tk T i).k = 59 := by simpa using h1
    omega
  · rw [pMore_eq] at h
    split at h
    · rename_i hs
      simp only [slOk, isName, Bool.and_eq_true, beq_iff_eq] at hs
      omega
    · simp at h

/-- The frames from token i on, up to the text's end. -/
def pFrames (T : List PT) (i : Nat) : Option (List (List Sl)) :=
  if h : i < T.length then
    if (tk T i).k == 101 then some [] else
    match pFrame T i with
    | none => none
    | some (f, j) => if hj : i < j then (match pFrames T j with | none => none | some r => some (f :: r)) else none
  else none
termination_by T.length - i

theorem pFrames_end {T : List PT} {i : Nat} (h : i < T.length) (hk : (tk T i).k = 101) : pFrames T i = some [] := by
  rw [pFrames, dif_pos h, hk]; rfl
theorem pFrames_no {T : List PT} {i : Nat} (hk : (tk T i).k ≠ 101) (h : pFrame T i = none) : pFrames T i = none := by
  rw [pFrames, h]
  split
  · rw [if_neg (by simpa using hk)]
  · rfl
theorem pFrames_x {T : List PT} {i : Nat} (hk : (tk T i).k = 120) : pFrames T i = none := by
  refine pFrames_no (by omega) ?_
  cases h : pFrame T i with
  | none => rfl
  | some x => exact absurd hk (pFrame_k h).2
theorem pFrames_on {T : List PT} {i : Nat} {f : List Sl} {j : Nat} (h : pFrame T i = some (f, j)) : pFrames T i = (match pFrames T j with | none => none | some r => some (f :: r)) := by
  have h1 := pFrame_len h
  have h2 := (pFrame_k h).1
  rw [pFrames, dif_pos (by omega), if_neg (by simpa using h2), h]
  simp only
  rw [dif_pos (by omega)]

/-- Just n frames from token i on. -/
def pN : Nat → List PT → Nat → Option (List (List Sl) × Nat)
  | 0, T, i => some ([], i)
  | n + 1, T, i => match pN n T i with
    | none => none
    | some (fs, j) => match pFrame T j with
      | none => none
      | some (f, k) => some (fs ++ [f], k)

theorem pN_frames {T : List PT} {i : Nat} : ∀ {n : Nat} {fs : List (List Sl)} {j : Nat}, pN n T i = some (fs, j) → fs.length = n ∧ i + 4 * fs.flatten.length ≤ j ∧ pFrames T i = (match pFrames T j with | none => none | some r => some (fs ++ r))
  | 0, fs, j, h => by
    simp [pN] at h
    obtain ⟨rfl, rfl⟩ := h
    refine ⟨rfl, by simp, ?_⟩
    cases pFrames T i <;> simp
  | n + 1, fs, j, h => by
    rw [pN] at h
    cases h1 : pN n T i with
    | none => rw [h1] at h; simp at h
    | some x =>
      obtain ⟨gs, k⟩ := x
      rw [h1] at h
      simp only at h
      cases h2 : pFrame T k with
      | none => rw [h2] at h; simp at h
      | some y =>
        obtain ⟨f, k'⟩ := y
        rw [h2] at h
        simp at h
        obtain ⟨rfl, rfl⟩ := h
        obtain ⟨h3, h4, h5⟩ := pN_frames h1
        have h6 := pFrame_len h2
        refine ⟨by simp [h3], by simp; simp at h4; omega, ?_⟩
        rw [h5, pFrames_on h2]
        cases pFrames T k' <;> simp

theorem pFrames_pN {T : List PT} {i : Nat} {fs : List (List Sl)} (h : pFrames T i = some fs) : ∀ n, n ≤ fs.length → ∃ j, pN n T i = some (fs.take n, j) ∧ pFrames T j = some (fs.drop n)
  | 0, _ => ⟨i, by simp [pN], by simpa using h⟩
  | n + 1, hn => by
    obtain ⟨j, h1, h2⟩ := pFrames_pN h n (by omega)
    rw [pN, h1]
    simp only
    have hd : fs.drop n = fs[n] :: fs.drop (n + 1) := List.drop_eq_getElem_cons (by omega)
    have h2k := h2
    rw [pFrames] at h2
    split at h2
    · split at h2
      · rw [hd] at h2
        simp at h2
        omega
      · cases h3 : pFrame T j with
        | none => rw [h3] at h2; simp at h2
        | some y =>
          obtain ⟨f, k⟩ := y
          have h4 := pFrames_on h3
          rw [h2k, hd] at h4
          cases h5 : pFrames T k with
          | none => rw [h5] at h4; simp at h4
          | some r =>
            rw [h5] at h4
            obtain ⟨h6a, h6⟩ := List.cons.inj (Option.some.inj h4)
            refine ⟨k, ?_, by rw [h5, h6]⟩
            simp only
            rw [List.take_succ_eq_append_getElem (by omega), h6a]
    · simp at h2

def hdOk (T : List PT) : Bool := sees (tk T 0) wCycle && ((tk T 1).k == 110 && (sees (tk T 2) wFrame && ((tk T 3).k == 110 && (tk T 4).k == 59)))
/-- The table that the tokens say. -/
def pTab (T : List PT) : Option Tb :=
  if hdOk T then (match pFrames T 5 with | none => none | some fs => some ⟨(tk T 1).N, (tk T 3).N, fs⟩) else none

theorem pTab_pN {T : List PT} {t : Tb} (h : pTab T = some t) : hdOk T = true ∧ t.cyc = (tk T 1).N ∧ t.fr = (tk T 3).N ∧ pFrames T 5 = some t.fs ∧ ∃ j, pN t.fs.length T 5 = some (t.fs, j) ∧ j < T.length ∧ (tk T j).k = 101 := by
  unfold pTab at h
  split at h
  · rename_i h1
    cases h2 : pFrames T 5 with
    | none => rw [h2] at h; simp at h
    | some fs =>
      rw [h2] at h
      simp at h
      subst h
      refine ⟨h1, rfl, rfl, rfl, ?_⟩
      obtain ⟨j, h3, h4⟩ := pFrames_pN h2 fs.length (Nat.le_refl _)
      refine ⟨j, by simpa using h3, ?_⟩
      rw [pFrames] at h4
      split at h4
      · rename_i h5
        split at h4
        · rename_i h6
          exact ⟨h5, by simpa using h6⟩
        · exfalso
          simp at h4
          split at h4
          · simp at h4
          · rename_i f k h7
            have := pFrame_len h7
            rw [if_pos (by omega)] at h4
            split at h4 <;> simp at h4
      · simp at h4
  · simp at h
end Go.Proofs.YtbdffcjganlblaaGreatDoor

namespace Go.Proofs.YtbdffcjganlblaaGreatDoor
open Go.RowKit
set_option linter.unusedVariables false
set_option linter.unusedSimpArgs false

theorem own_weak {w : World} {base base' : Nat} {e : TypeId} {size : Nat} {v : Value} {n : Nat} {xs : List Value} (h : w.ownsRow base e size v n xs) (hb : base' ≤ base) : w.ownsRow base' e size v n xs := by
  refine ⟨h.1, ?_⟩
  rcases h.2 with h | ⟨g, cap, cur, h1, h2, h3⟩
  · exact .inl h
  · exact .inr ⟨g, cap, cur, h1, by omega, h3⟩

def ParsePost (T : List PT) (w : World) (e : Ending) (w' : World) : Prop :=
  Below w.heap.size w w' ∧
  ((∃ j, pSet T = .error j ∧ e = .returned (.tuple #[.agg #[.slice none 0 0, .slice none 0 0], .int .i64 2, .int .i64 (tk T j).at_])) ∨
   (∃ ts ps tv pv, pSet T = .ok (ts, ps) ∧ e = .returned (.tuple #[.agg #[tv, pv], .int .i64 0, .int .i64 0]) ∧ w'.ownsRow w.heap.size 95 10 tv ts.length (tkRow ts) ∧ w'.ownsRow w.heap.size 133 5 pv ps.length (prRow ps)))

theorem pw_start {w w1 : World} {g cap : Nat} {l : List UInt8} (hl : l.length ≤ 400) {base : Nat} (hown : w1.ownsRow base 76 4 (.slice (some ⟨g, 0, none⟩) (allToks l).length cap) (allToks l).length (tokRow (allToks l))) (hb : w.heap.size < base) (hg1 : base ≤ g) (hg2 : g < w1.heap.size)
    (hbel : Below (w.heap.size + 1) (w.alloc (.cells #[.slice none 0 0, .slice none 0 0] 53)) w1) :
    PW w ((w1.alloc (.cells #[.slice (some ⟨g, 0, none⟩) (allToks l).length cap, .int .i64 0, .bool false] 71)).alloc (.cells #[.slice none 0 0, .slice none 0 0] 53)) w1.heap.size g cap (allToks l) 0 false (.slice none 0 0) 0 [] (.slice none 0 0) 0 [] (w1.heap.size + 2) := by
  have hsz := hbel.size
  simp only [World.size_alloc] at hsz
  refine ⟨ps_start (by omega) hown hg2 _, ?_, ?_, World.ownsRow_nil _ _ _ _, World.ownsRow_nil _ _ _ _, ?_, by omega, hg2, by omega, by simp, .inl ⟨rfl, rfl⟩⟩
  · simpa using blk_new (w1.alloc (.cells #[.slice (some ⟨g, 0, none⟩) (allToks l).length cap, .int .i64 0, .bool false] 71)) #[.slice none 0 0, .slice none 0 0] 53
  · rw [Below.heap_alloc _ _ _ (by simp; omega), Below.heap_alloc _ _ _ (by omega), hbel.block _ (by omega)]
    exact blk_new _ _ _
  · refine grownBy_alloc' (grownBy_alloc' ?_ _) _
    exact ⟨hbel.os, hbel.tape, hbel.output, by omega, fun k hk _ => by rw [hbel.block k (by omega), Below.heap_alloc _ _ _ hk]⟩

theorem tasksR_start {T : List PT} {i' : Nat} {ok : Bool} (h : ok = (!false && sees (tk T 0) wTask) ∧ i' = if ok then 0 + 1 else 0) : TasksR T i' (!ok) ok 0 [] := by
  obtain ⟨h1, h2⟩ := h
  simp at h1
  cases ok
  · simp at h2
    exact .inl ⟨rfl, rfl, by unfold pFirst; rw [← h1, h2]; rfl⟩
  · simp at h2
    refine .inr ⟨rfl, [], rfl, rfl, .inr ⟨rfl, by omega, ?_⟩⟩
    unfold pFirst
    rw [← h1, h2]
    simp only [if_true]
    show pTasks 6 T 1 = match pTasks 6 T 1 with | .error e => .error e | .ok (ts, k) => .ok ([] ++ ts, k)
    generalize pTasks 6 T 1 = R
    cases R <;> simp

theorem tkRaw_cells (nm P O C D q0 q1 q2 q3 q4 : Nat) (t : Tk) (h : tkRaw nm P O C D q0 q1 q2 q3 q4 = tkV t) : [Value.int .u8 nm, .int .i64 P, .int .i64 O, .int .i64 C, .int .i64 D, .int .i64 q0, .int .i64 q1, .int .i64 q2, .int .i64 q3, .int .i64 q4] = tkCells t := by
  unfold tkV tkRaw at h
  unfold tkCells
  injection h with h
  have := congrArg Array.toList h
  simpa using this
theorem prRaw_cells (a c : Nat) (ap : Bool) (q0 q1 : Nat) (p : Pr) (h : prRaw a c ap q0 q1 = prV p) : [Value.int .u8 a, .int .u8 c, .bool ap, .int .i64 q0, .int .i64 q1] = prCells p := by
  unfold prV prRaw at h
  unfold prCells
  injection h with h
  have := congrArg Array.toList h
  simpa using this

theorem own_slice {w : World} {base : Nat} {e : TypeId} {size : Nat} {v : Value} {n : Nat} {xs : List Value} (h : w.ownsRow base e size v n xs) : ∃ a c, v = .slice a n c := by
  rcases h.2 with ⟨rfl, h0⟩ | ⟨g, cap, cur, rfl, _⟩
  · exact ⟨none, 0, by rw [h0]⟩
  · exact ⟨_, _, rfl⟩
theorem PW.rebase {w wk : World} {B r cap : Nat} {T : List PT} {i : Nat} {bad : Bool} {tv : Value} {n : Nat} {xs : List Value} {base2 : Nat} (h : PW w wk B r cap T i bad tv n xs (.slice none 0 0) 0 [] base2) :
    PW w wk B r cap T i bad tv n xs (.slice none 0 0) 0 [] wk.heap.size ∧ (∀ k, tv.ownBlock = some k → k < wk.heap.size) :=
  ⟨⟨h.ps, h.hx, h.hy, h.ot, World.ownsRow_nil _ _ _ _, h.g, h.h1, h.h2, h.h4, h.h4, .inl ⟨rfl, rfl⟩⟩, fun k hk => (h.ot.lt k hk).2⟩
theorem own_len {w : World} {base : Nat} {e : TypeId} {size : Nat} {v : Value} {n : Nat} {xs : List Value} (h : w.ownsRow base e size v n xs) : lenOf (some v) = n := by
  rcases h.2 with ⟨rfl, h0⟩ | ⟨g, cap, cur, rfl, _⟩
  · exact h0.symm
  · rfl
theorem task_news {T : List PT} {i i3 : Nat} {bad3 : Bool} {nm P O C D q0 q1 q2 q3 q4 : Nat}
    (h : (bad3 = true ∧ pTask T i = .error i3) ∨ (bad3 = false ∧ ∃ t, pTask T i = .ok (t, i3) ∧ tkRaw nm P O C D q0 q1 q2 q3 q4 = tkV t)) :
    (bad3 = true ∧ pTask T i = .error i3) ∨ (bad3 = false ∧ ∃ t, pTask T i = .ok (t, i3) ∧ [Value.int .u8 nm, .int .i64 P, .int .i64 O, .int .i64 C, .int .i64 D, .int .i64 q0, .int .i64 q1, .int .i64 q2, .int .i64 q3, .int .i64 q4] = tkCells t) := by
  rcases h with h | ⟨h, t, h1, h2⟩
  · exact .inl h
  · exact .inr ⟨h, t, h1, tkRaw_cells _ _ _ _ _ _ _ _ _ _ t h2⟩
theorem pair_news {T : List PT} {i i3 : Nat} {bad3 ap : Bool} {a c q0 q1 : Nat}
    (h : (bad3 = true ∧ pPair T ap i = .error i3) ∨ (bad3 = false ∧ ∃ p, pPair T ap i = .ok (p, i3) ∧ prRaw a c ap q0 q1 = prV p)) :
    (bad3 = true ∧ pPair T ap i = .error i3) ∨ (bad3 = false ∧ ∃ p, pPair T ap i = .ok (p, i3) ∧ [Value.int .u8 a, .int .u8 c, .bool ap, .int .i64 q0, .int .i64 q1] = prCells p) := by
  rcases h with h | ⟨h, t, h1, h2⟩
  · exact .inl h
  · exact .inr ⟨h, t, h1, prRaw_cells _ _ _ _ _ t h2⟩

set_option maxRecDepth 100000 in
set_option maxHeartbeats 2000000 in
theorem rParse_any (s : ByteArray) (w : World) (hs : s.size ≤ 400) :
    Calls Tryz.prog 52 #[.string s] w (ParsePost (allToks s.data.toList) w) := by
  obtain ⟨it, hti, htz0, htz1, htz2⟩ := info_parts Tryz.infoTask
  obtain ⟨ip, hpi, hpz0, hpz1, hpz2⟩ := info_parts Tryz.infoPair
  have hs' : ¬ (400 : Int) < s.size := by omega
  go_enter Tryz.func52, Tryz.ntmps52
  go_wp2_with fail
  refine (rTokens_any s _ (by omega)).mono ?_
  rintro e w1 ⟨v, rfl, hown, hbel⟩
  obtain ⟨g, cap, rfl, hg1, hg2⟩ := own_form hown (toks_ne _ _ _)
  have P0 := pw_start (w := w) (by simpa using hs) hown (by simp) hg1 hg2 (by simpa using hbel)
  clear hown hg1 hg2 hbel
  generalize allToks s.data.toList = T at *
  go_wp2_with fail
  refine (rword_ex P0.ps _).mono ?_
  rintro e w2 ⟨i1, ok, rfl, p, gg, hR⟩
  have P1 := P0.call p gg
  have R1 := tasksR_start hR.out
  clear P0 p gg hR
  generalize w1.heap.size = B at *
  have c2 := P1.ps.c2
  have f2 := P1.ps.f2
  have hnot : ∀ (x : Bool) (w : World), (Op.unary .not (.bool x)).run Tryz.prog w = .ok (.bool (!x)) w := fun _ _ => rfl
  have P2 := hide (P1.call (P1.ps.setBad (!ok)) (grownBy_set (grownBy_refl _ _) _ _))
  clear P1
  have R2 := hide R1
  clear R1
  go_wp2_with fail
  go_loopw [7] (fun m wr => ∃ (i n : Nat) (bad more : Bool) (tv : Value) (xs : List Value), m = .bool more ∧ PW w wr B g cap T i bad tv n xs (.slice none 0 0) 0 [] (B + 2) ∧ TasksR T i bad more n xs ∧ n ≤ 6) (fun _ wr => 7 - lenOf (wr.cell? ⟨B + 1, 0, none⟩))
  case atStart => exact ⟨i1, 0, !ok, ok, _, _, rfl, P2.out, R2.out, by omega⟩
  case round =>
    clear R2 P2 c2 f2
    obtain ⟨i, n, bad, more, tv, xs, rfl, P, R, hn⟩ := hrel
    cases more
    · obtain ⟨Q0, hdis⟩ := P.rebase
      have S0 := pairsR_start R
      have hb2 : Hid (wr.heap.size ≤ wr.heap.size) := Nat.le_refl _
      have Q0 := hide Q0
      have S0 := hide S0
      have hdis := hide hdis
      clear P R
      go_wp2
      generalize hbase : wr.heap.size = base2 at Q0 hdis
      rw [hbase] at hb2
      have hb3 : Hid (base2 ≤ wr.heap.size) := by unfold Hid; omega
      clear hbase hb2
      go_loopw [7] (fun mv wk => ∃ (i m : Nat) (bad more : Bool) (pv : Value) (ys : List Value), mv = .bool more ∧ PW w wk B g cap T i bad tv n xs pv m ys base2 ∧ PairsR T i bad more n xs m ys ∧ base2 ≤ wk.heap.size) (fun mv wk => 2 * (7 - lenOf (wk.cell? ⟨B + 1, 1, none⟩)) + moreN mv)
      case atStart => exact ⟨i, 0, bad, true, _, _, rfl, Q0.out, S0.out, hb3.out⟩
      case round =>
        clear Q0 S0 hb3 hn
        obtain ⟨i, m, bad, more, pv, ys, rfl, P, R, hb2⟩ := hrel
        cases more
        · have hE := pairsR_end R
          obtain ⟨ta, tc, rfl⟩ := own_slice P.ot
          obtain ⟨pa, pc, rfl⟩ := own_slice P.op
          have hh1 := P.h1
          have hh2 := P.h2
          have hne1 : w.heap.size ≠ B := by omega
          have hne2 : B ≠ w.heap.size := by omega
          have hne3 : w.heap.size ≠ g := by omega
          have hne4 : g ≠ w.heap.size := by omega
          have c0 := P.ps.c0
          have c1 := P.ps.c1
          have c2 := P.ps.c2
          have hi := P.ps.hi
          have hnT := P.ps.hn
          obtain ⟨r0, r1, r2, r3⟩ := P.ps.row i hi
          obtain ⟨x1, x2, x3, x4, x5⟩ := P.cells
          have PP := hide P
          clear P R hb2
          rcases hE with ⟨rfl, hE⟩ | ⟨rfl, hk, hE⟩ | ⟨rfl, hk, ts, ps, hE, hxs, hnn, hys, hmm⟩
          · have HE := hide hE
            clear hE
            go_wp2
            go_quiet (fail)
            go_wp2
            go_region
            go_wp2
            refine bodyPost_ret (v := .tuple #[.agg #[.slice none 0 0, .slice none 0 0], .int .i64 2, .int .i64 (tk T i).at_]) (by simp [results, Tryz.results52, go_sem, x4]) rfl ⟨?_, .inl ⟨i, HE.out, rfl⟩⟩
            exact below_grown (grownBy_setNew (grownBy_setNew (grownBy_drewN PP.out.g _) (Nat.le_refl _) _ _) (Nat.le_refl _) _ _)
          · have HE := hide hE
            have hk' : (((tk T i).k : Int) != 101) = true := by simp at hk ⊢; omega
            clear hE hk
            go_wp2
            go_quiet (fail)
            go_wp2
            go_region
            go_wp2
            refine bodyPost_ret (v := .tuple #[.agg #[.slice none 0 0, .slice none 0 0], .int .i64 2, .int .i64 (tk T i).at_]) (by simp [results, Tryz.results52, go_sem, x4]) rfl ⟨?_, .inl ⟨i, HE.out, rfl⟩⟩
            exact below_grown (grownBy_setNew (grownBy_setNew (grownBy_drewN PP.out.g _) (Nat.le_refl _) _ _) (Nat.le_refl _) _ _)
          · have HE := hide hE
            have hk' : (((tk T i).k : Int) != 101) = false := by simp at hk ⊢; omega
            have Hx := hide hxs
            have Hy := hide hys
            have Hn := hide hnn
            have Hm := hide hmm
            clear hE hk hxs hys hnn hmm
            go_wp2
            go_quiet (fail)
            go_wp2
            refine bodyPost_ret (v := .tuple #[.agg #[.slice ta n tc, .slice pa m pc], .int .i64 0, .int .i64 0]) (by simp [results, Tryz.results52, go_sem, x4]) rfl ⟨?_, .inr ⟨ts, ps, _, _, HE.out, rfl, ?_, ?_⟩⟩
            · exact below_grown (grownBy_setNew (grownBy_setNew (grownBy_drewN PP.out.g _) (Nat.le_refl _) _ _) (Nat.le_refl _) _ _)
            · rw [← Hn.out, ← Hx.out]
              have h3 := PP.out.h3
              exact own_weak (ownsRow_setCell_below (ownsRow_setCell_below (w := wr.drewN nq) PP.out.ot (by show w.heap.size < B + 2; omega) _) (by show w.heap.size < B + 2; omega) _) (by omega)
            · rw [← Hm.out, ← Hy.out]
              have h3 := PP.out.h3
              exact own_weak (ownsRow_setCell_below (ownsRow_setCell_below (w := wr.drewN nq) PP.out.op (by show w.heap.size < base2; omega) _) (by show w.heap.size < base2; omega) _) (by omega)
        · have hm6 := R.1
          have RR := hide R
          obtain ⟨a0, c0, rfl⟩ := own_slice P.op
          have HL : Hid (lenOf (wr.cell? ⟨B + 1, 1, none⟩) = m) := by
            unfold Hid
            rw [P.cells.2.1]
            rfl
          obtain ⟨x1, x2, x3, x4, x5⟩ := P.cells
          clear R
          by_cases h6 : m < 6
          · have h6' : (m : Int) < 6 := by omega
            go_wp2_with fail
            refine (rword_ex P.ps _).mono ?_
            rintro e w6 ⟨i6, ok6, rfl, p, gg, hw6⟩
            have P6 := P.call p gg
            have hb6 := Nat.le_trans hb2 gg.size
            obtain ⟨y1, y2, y3, y4, y5⟩ := P6.cells
            clear P p gg x1 x2 x3 x4 x5 hb2
            cases ok6
            · have hi6 : i6 = i := by simpa using hw6.out.2
              subst hi6
              go_wp2_with fail
              refine (rword_ex P6.ps _).mono ?_
              rintro e w7 ⟨i7, ok7, rfl, p, gg, hw7⟩
              have P7 := P6.call p gg
              have hb7 := Nat.le_trans hb6 gg.size
              have L7 : Hid (lenOf (w7.cell? ⟨B + 1, 1, none⟩) = m) := by
                unfold Hid
                rw [P7.cells.2.1]
                rfl
              clear P6 p gg y1 y2 y3 y4 y5 hb6
              cases ok7
              · have hi7 : i7 = i6 := by simpa using hw7.out.2
                subst hi7
                have R7 := pairsR_none RR.out (by
                  have h1 := hw6.out.1
                  have h2 := hw7.out.1
                  cases bad
                  · right; right
                    simp at h1 h2
                    exact ⟨h1, h2⟩
                  · left; rfl)
                have R7 := hide R7
                go_wp2
                go_roundw
                case rel => exact ⟨i7, m, bad, false, _, _, rfl, P7, R7.out, hb7⟩
                case measure => rw [L7.out, HL.out]; show 2 * (7 - m) + 0 < 2 * (7 - m) + 1; omega
              · have hbad : bad = false := by
                  have h2 := hw7.out.1
                  cases bad
                  · rfl
                  · simp at h2
                subst hbad
                have hi7 : i7 = i6 + 1 := by simpa using hw7.out.2
                subst hi7
                have hs1 : sees (tk T i6) wApart = true := by
                  have h2 := hw7.out.1
                  simp at h2
                  exact h2
                have hs2 : sees (tk T i6) wBefore = false := by
                  have h2 := hw6.out.1
                  simp at h2
                  exact h2
                have Hs1 := hide hs1
                have Hs2 := hide hs2
                clear hs1 hs2 hw6 hw7
                go_wp2_with fail
                refine (rpair_any P7.ps _).mono ?_
                rintro e w8 ⟨pa, pc, q0, q1, i8, bad8, rfl, p, gg, hR⟩
                have P8 := P7.call p gg
                have hb8 := Nat.le_trans hb7 gg.size
                clear P7 p gg
                obtain ⟨x1, x2, x3, x4, x5⟩ := P8.cells
                have hsz := P8.h4
                have hlt : B + 1 < w8.heap.size := by omega
                have hop := P8.op
                have PP := hide P8
                have HN := hide (pair_news hR)
                have h3 := P8.h3
                clear P8 hR
                unfold prRaw
                go_wp2_with (at_builtin; refine wpList_append_own _ rfl _ _ 51 rfl base2 133 ip _ 5 24 Tryz.underlying51 hpi hpz0 hpz1 hpz2 rfl (by decide) _ _ _ rfl ((hop.alloc _).alloc _) ⟨w8.heap.size + 1, 0, none⟩ 1 1 [.int .u8 pa, .int .u8 pc, .bool true, .int .i64 q0, .int .i64 q1] rfl rfl ?c1 ?c2 ?c3 ?c4 ?c5 ?_)
                case c1 => exact cells_new (w8.alloc _) #[_, _, _, _, _] _ _ (by simp)
                case c2 => simp [Value.oneCell']
                case c3 => unfold maxLen; omega
                case c4 => omega
                case c5 => simp; omega
                intro v' w9 hown9 hgr _
                obtain ⟨g', cap', rfl, hg1, hg2⟩ := own_form hown9 (by omega)
                have P9 := PP.out.pushP hb8 hdis.out hgr hown9
                have y1 : w9.cell? ⟨B + 1, 1, none⟩ = some (.slice a0 m c0) := by
                  refine hgr.cell ?_ (fun e => own_ge hop (k := B + 1) (by omega) e.symm)
                  rw [World.cell?_alloc_past _ _ _ (by simp; omega), World.cell?_alloc_past _ _ _ (by omega)]
                  exact x2
                have y2 : w9.frozen? ⟨B + 1, 1, none⟩ = false := by
                  have := P9.cells.2.2.1 1
                  simpa using this
                have hsz9 := hgr.size
                simp only [World.size_alloc] at hsz9
                have R9 := pairsR_step RR.out h6 (ap := true) (by rw [Hs1.out, Hs2.out]; rfl) (by rw [Hs2.out]; rfl) HN.out
                have L9 : lenOf ((w9.setCell ⟨B + 1, 1, none⟩ (.slice (some ⟨g', 0, none⟩) (m + 1) cap')).cell? ⟨B + 1, 1, none⟩) = m + 1 := by rw [P9.cells.2.1]; rfl
                have P9 := hide P9
                have R9 := hide R9
                have L9 := hide L9
                clear hown9 hgr hg1 hg2 x1 x2 x3 x4 x5 hop PP hsz HN
                go_wp2
                go_roundw
                case rel => exact ⟨i8, m + 1, bad8, true, _, _, rfl, P9.out, R9.out, by rw [heap_set_size]; omega⟩
                case measure => rw [L9.out, HL.out]; omega
            · have hbad : bad = false := by
                have h2 := hw6.out.1
                cases bad
                · rfl
                · simp at h2
              subst hbad
              have hi6 : i6 = i + 1 := by simpa using hw6.out.2
              subst hi6
              have hs2 : sees (tk T i) wBefore = true := by
                have h2 := hw6.out.1
                simp at h2
                exact h2
              have Hs2 := hide hs2
              clear hs2 hw6 y1 y2 y3 y4 y5
              go_wp2_with fail
              refine (rpair_any P6.ps _).mono ?_
              rintro e w8 ⟨pa, pc, q0, q1, i8, bad8, rfl, p, gg, hR⟩
              have P8 := P6.call p gg
              have hb8 := Nat.le_trans hb6 gg.size
              clear P6 p gg
              obtain ⟨x1, x2, x3, x4, x5⟩ := P8.cells
              have hsz := P8.h4
              have hlt : B + 1 < w8.heap.size := by omega
              have hop := P8.op
              have PP := hide P8
              have HN := hide (pair_news hR)
              have h3 := P8.h3
              clear P8 hR
              unfold prRaw
              go_wp2_with (at_builtin; refine wpList_append_own _ rfl _ _ 51 rfl base2 133 ip _ 5 24 Tryz.underlying51 hpi hpz0 hpz1 hpz2 rfl (by decide) _ _ _ rfl ((hop.alloc _).alloc _) ⟨w8.heap.size + 1, 0, none⟩ 1 1 [.int .u8 pa, .int .u8 pc, .bool false, .int .i64 q0, .int .i64 q1] rfl rfl ?c1 ?c2 ?c3 ?c4 ?c5 ?_)
              case c1 => exact cells_new (w8.alloc _) #[_, _, _, _, _] _ _ (by simp)
              case c2 => simp [Value.oneCell']
              case c3 => unfold maxLen; omega
              case c4 => omega
              case c5 => simp; omega
              intro v' w9 hown9 hgr _
              obtain ⟨g', cap', rfl, hg1, hg2⟩ := own_form hown9 (by omega)
              have P9 := PP.out.pushP hb8 hdis.out hgr hown9
              have y1 : w9.cell? ⟨B + 1, 1, none⟩ = some (.slice a0 m c0) := by
                refine hgr.cell ?_ (fun e => own_ge hop (k := B + 1) (by omega) e.symm)
                rw [World.cell?_alloc_past _ _ _ (by simp; omega), World.cell?_alloc_past _ _ _ (by omega)]
                exact x2
              have y2 : w9.frozen? ⟨B + 1, 1, none⟩ = false := by
                have := P9.cells.2.2.1 1
                simpa using this
              have hsz9 := hgr.size
              simp only [World.size_alloc] at hsz9
              have R9 := pairsR_step RR.out h6 (ap := false) (by rw [Hs2.out]; rfl) (by rw [Hs2.out]; rfl) HN.out
              have L9 : lenOf ((w9.setCell ⟨B + 1, 1, none⟩ (.slice (some ⟨g', 0, none⟩) (m + 1) cap')).cell? ⟨B + 1, 1, none⟩) = m + 1 := by rw [P9.cells.2.1]; rfl
              have P9 := hide P9
              have R9 := hide R9
              have L9 := hide L9
              clear hown9 hgr hg1 hg2 x1 x2 x3 x4 x5 hop PP hsz HN
              go_wp2
              go_roundw
              case rel => exact ⟨i8, m + 1, bad8, true, _, _, rfl, P9.out, R9.out, by rw [heap_set_size]; omega⟩
              case measure => rw [L9.out, HL.out]; omega
          · have h6' : ¬ (m : Int) < 6 := by omega
            have R7 := pairsR_none RR.out (.inr (.inl (by omega)))
            have R7 := hide R7
            go_wp2_with fail
            refine ⟨⟨i, m, bad, false, _, _, rfl, P, R7.out, hb2⟩, ?_⟩
            show 2 * (7 - lenOf (wr.cell? ⟨B + 1, 1, none⟩)) + 0 < 2 * (7 - lenOf (wr.cell? ⟨B + 1, 1, none⟩)) + 1
            omega
    · have hbad : bad = false := by
        rcases R with ⟨_, h, _⟩ | ⟨h, _⟩
        · exact absurd h (by simp)
        · exact h
      have hn6 : n < 6 := by
        rcases R with ⟨_, h, _⟩ | ⟨_, _, _, _, ⟨h, _⟩ | ⟨_, h, _⟩⟩
        · exact absurd h (by simp)
        · exact absurd h (by simp)
        · exact h
      subst hbad
      have RR := hide R
      have HL : Hid (lenOf (wr.cell? ⟨B + 1, 0, none⟩) = n) := by
        unfold Hid
        rw [P.cells.1]
        exact own_len P.ot
      clear R
      go_wp2_with fail
      refine (rtask_any P.ps).mono ?_
      rintro e w3 ⟨nm, tP, tO, tC, tD, q0, q1, q2, q3, q4, i3, bad3, rfl, p, gg, hR⟩
      have P3 := P.call p gg
      clear P p gg
      obtain ⟨x1, x2, x3, x4, x5⟩ := P3.cells
      have hsz := P3.h4
      have hlt : B + 1 < w3.heap.size := by omega
      have hot := P3.ot
      have PP := hide P3
      have HR := hide hR
      clear P3 hR
      unfold tkRaw
      go_wp2_with (at_builtin; refine wpList_append_own _ rfl _ _ 50 rfl (B + 2) 95 it _ 10 80 Tryz.underlying50 hti htz0 htz1 htz2 rfl (by decide) _ _ _ rfl ((hot.alloc _).alloc _) ⟨w3.heap.size + 1, 0, none⟩ 1 1 [.int .u8 nm, .int .i64 tP, .int .i64 tO, .int .i64 tC, .int .i64 tD, .int .i64 q0, .int .i64 q1, .int .i64 q2, .int .i64 q3, .int .i64 q4] rfl rfl ?c1 ?c2 ?c3 ?c4 ?c5 ?_)
      case c1 => exact cells_new (w3.alloc _) #[_, _, _, _, _, _, _, _, _, _] _ _ (by simp)
      case c2 => simp [Value.oneCell']
      case c3 => unfold maxLen; omega
      case c4 => omega
      case c5 => simp; omega
      intro v' w4 hown4 hgr _
      obtain ⟨g', cap', rfl, hg1, hg2⟩ := own_form hown4 (by omega)
      have P4 := PP.out.pushT hgr hown4
      have P4ps := P4.ps
      have y1 : w4.cell? ⟨B + 1, 0, none⟩ = some tv := by
        refine hgr.cell ?_ (fun e => own_ge hot (k := B + 1) (by omega) e.symm)
        rw [World.cell?_alloc_past _ _ _ (by simp; omega), World.cell?_alloc_past _ _ _ (by omega)]
        exact x1
      have y2 : w4.frozen? ⟨B + 1, 0, none⟩ = false := by
        have := P4.cells.2.2.1 0
        simpa using this
      have PP4 := hide P4
      clear P4 hown4 hgr hg1 hg2 x1 x2 x3 x4 x5 hot PP hsz
      have HN := hide (task_news HR.out)
      clear HR
      by_cases h5 : n + 1 < 6
      · have h5' : (n : Int) + 1 < 6 := by omega
        go_wp2_with fail
        refine (rword_ex PP4.out.ps _).mono ?_
        rintro e w5 ⟨i5, ok5, rfl, p, gg, hw5⟩
        have P5 := PP4.out.call p gg
        have R5 := tasksR_step RR.out HN.out (ok := ok5) (i2 := i5) (by rw [decide_eq_true h5, Bool.true_and]; exact hw5.out)
        have L5 : lenOf (w5.cell? ⟨B + 1, 0, none⟩) = n + 1 := by rw [P5.cells.1]; rfl
        have P5 := hide P5
        have R5 := hide R5
        have L5 := hide L5
        clear p gg PP4 P4ps hw5
        go_wp2
        go_roundw
        case rel => exact ⟨i5, n + 1, bad3, ok5, _, _, rfl, P5.out, R5.out, by omega⟩
        case measure => rw [L5.out, HL.out]; omega
      · have h5' : ¬ (n : Int) + 1 < 6 := by omega
        go_wp2_with fail
        have R5 := tasksR_step RR.out HN.out (ok := false) (i2 := i3) (by rw [decide_eq_false h5]; simp)
        refine ⟨⟨i3, n + 1, bad3, false, _, _, rfl, PP4.out, R5, by omega⟩, ?_⟩
        rw [HL.out, PP4.out.cells.1]
        show 7 - (n + 1) < 7 - n
        omega
end Go.Proofs.YtbdffcjganlblaaGreatDoor
