/-
  Own work. The plain functions on lists of bytes: tokens of a text.
-/
namespace Go.Proofs.YtbdffcjganlblaaGreatDoor
set_option linter.unusedVariables false
set_option linter.unusedSimpArgs false

def blankB (c : Int) : Bool := c == 32 || c == 10
def letterB (c : Int) : Bool := decide (97 ≤ c) && decide (c ≤ 122)
def digitB (c : Int) : Bool := decide (48 ≤ c) && decide (c ≤ 57)
def signB (c : Int) : Bool := c == 44 || c == 59 || c == 58

def lead (P : Int → Bool) : List UInt8 → Nat
  | [] => 0
  | c :: r => if P (c.toNat : Int) then lead P r + 1 else 0

theorem lead_le (P : Int → Bool) : ∀ l, lead P l ≤ l.length
  | [] => Nat.le_refl _
  | c :: r => by
    simp only [lead, List.length_cons]
    have := lead_le P r
    split <;> omega

/-- A string of bytes, out of a list. -/
def bs (l : List UInt8) : ByteArray := ⟨l.toArray⟩
theorem bs_list (s : ByteArray) : bs s.data.toList = s := by cases s; simp [bs]
theorem bs_size (l : List UInt8) : (bs l).size = l.length := by simp [bs, ByteArray.size]
theorem bs_data (l : List UInt8) : (bs l).data.toList = l := by simp [bs]
theorem bs_inj {a b : List UInt8} : bs a = bs b ↔ a = b := by
  constructor
  · intro h; have := congrArg (fun s => s.data.toList) h; simpa [bs] using this
  · intro h; rw [h]
theorem ext_list (s : ByteArray) (a b : Nat) : (s.extract a b).data.toList = (s.data.toList.drop a).take (b - a) := by
  simp [ByteArray.data_extract, List.extract_eq_take_drop]
theorem ext_bs (s : ByteArray) (a b : Nat) : s.extract a b = bs ((s.data.toList.drop a).take (b - a)) := by
  rw [← ext_list, bs_list]

/-- A token: its kind (101 the end, 119 a word, 110 a number, 120 none, else the sign itself), its text, its place. -/
structure PT where
  k : Nat
  tx : List UInt8
  at_ : Nat

def skipB (l : List UInt8) (i : Nat) : Nat := i + lead blankB (l.drop i)

/-- The token that begins at place i. -/
def tokAt (l : List UInt8) (i : Nat) : PT :=
  match l.drop i with
  | [] => ⟨101, [], i⟩
  | c :: r =>
    if signB (c.toNat : Int) then ⟨c.toNat, [c], i⟩
    else if letterB (c.toNat : Int) then ⟨119, (c :: r).take (lead letterB (c :: r)), i⟩
    else if 1 ≤ lead digitB (c :: r) ∧ lead digitB (c :: r) ≤ 4 then ⟨110, (c :: r).take (lead digitB (c :: r)), i⟩
    else ⟨120, [], i⟩

def dval (l : List UInt8) : Nat := l.foldl (fun n c => 10 * n + (c.toNat - 48)) 0

def PT.fin (t : PT) : Bool := t.k == 101 || t.k == 120
def PT.nx (t : PT) : Nat := t.at_ + t.tx.length
def PT.S (t : PT) : List UInt8 := if t.k == 110 then [] else t.tx
def PT.N (t : PT) : Nat := if t.k == 110 then dval t.tx else 0

def nextTok (l : List UInt8) (i : Nat) : PT := tokAt l (skipB l i)

/-- The tokens from place i on, up to the end or what is none. -/
def toks : Nat → List UInt8 → Nat → List PT
  | 0, l, i => [nextTok l i]
  | f + 1, l, i => if (nextTok l i).fin then [nextTok l i] else nextTok l i :: toks f l (nextTok l i).nx

theorem skipB_le (l : List UInt8) (i : Nat) (h : i ≤ l.length) : i ≤ skipB l i ∧ skipB l i ≤ l.length := by
  have := lead_le blankB (l.drop i)
  simp only [skipB, List.length_drop] at *
  omega

theorem tokAt_bound (l : List UInt8) (i : Nat) (h : i ≤ l.length) : (tokAt l i).at_ = i ∧ i + (tokAt l i).tx.length ≤ l.length := by
  have hl : (l.drop i).length = l.length - i := List.length_drop
  unfold tokAt
  split
  · exact ⟨rfl, by simpa using h⟩
  · rename_i c r hd
    have h1 := lead_le letterB (c :: r)
    have h2 := lead_le digitB (c :: r)
    rw [hd] at hl
    simp only [List.length_cons] at hl h1 h2
    split
    · exact ⟨rfl, by simp; omega⟩
    · split
      · exact ⟨rfl, by simp [List.length_take]; omega⟩
      · split
        · exact ⟨rfl, by simp [List.length_take]; omega⟩
        · exact ⟨rfl, by simp; omega⟩

theorem tokAt_long (l : List UInt8) (i : Nat) (h : (tokAt l i).fin = false) : 0 < (tokAt l i).tx.length := by
  revert h
  unfold tokAt
  split
  · intro h; simp [PT.fin] at h
  · rename_i c r hd
    split
    · intro _; simp
    · split
      · rename_i hlt
        intro _
        have : lead letterB (c :: r) = lead letterB r + 1 := by simp [lead, hlt]
        simp [this]
      · split
        · rename_i hd4
          intro _
          simp [List.length_take]
          omega
        · intro h; simp [PT.fin] at h

theorem nextTok_bound (l : List UInt8) (i : Nat) (h : i ≤ l.length) : i ≤ (nextTok l i).at_ ∧ (nextTok l i).nx ≤ l.length ∧ (nextTok l i).at_ ≤ (nextTok l i).nx := by
  have h1 := skipB_le l i h
  have h2 := tokAt_bound l (skipB l i) h1.2
  unfold nextTok PT.nx
  rw [h2.1]
  omega

theorem nextTok_long (l : List UInt8) (i : Nat) (h : (nextTok l i).fin = false) : (nextTok l i).at_ < (nextTok l i).nx := by
  have := tokAt_long l (skipB l i) h
  unfold nextTok PT.nx
  omega

theorem tokAt_k (l : List UInt8) (i : Nat) : (tokAt l i).k < 256 := by
  unfold tokAt
  split
  · show (101 : Nat) < 256; decide
  · rename_i c r hd
    split
    · exact c.toNat_lt
    · split
      · show (119 : Nat) < 256; decide
      · split
        · show (110 : Nat) < 256; decide
        · show (120 : Nat) < 256; decide
end Go.Proofs.YtbdffcjganlblaaGreatDoor
