/-
  Own work. The plain functions on lists of bytes: tokens of a text.
-/
import Derived.Test.YtbdffcjganlblaaGreatDoorRows
import Derived.WalkKit
import Derived.WalkSpells
import Derived.WalkLawsBesides
namespace Go.Proofs.YtbdffcjganlblaaGreatDoor
set_option linter.unusedVariables false
set_option linter.unusedSimpArgs false

def blankB (c : Int) : Bool := c == 32 || c == 10
def letterB (c : Int) : Bool := decide (97 ≤ c) && decide (c ≤ 122)
def digitB (c : Int) : Bool := decide (48 ≤ c) && decide (c ≤ 57)
def signB (c : Int) : Bool := c == 44 || c == 59 || c == 58

def lead (P : Int → Bool) : List UInt8 → Nat
  | [] => 0
  | c :: r => if P (c.toNat : Int) then lead P r + 1 else 0

theorem lead_le (P : Int → Bool) : ∀ l, lead P l ≤ l.length
  | [] => Nat.le_refl _
  | c :: r => by
    simp only [lead, List.length_cons]
    have := lead_le P r
    split <;> omega

/-- A string of bytes, out of a list. -/
def bs (l : List UInt8) : ByteArray := ⟨l.toArray⟩
theorem bs_list (s : ByteArray) : bs s.data.toList = s := by cases s; simp [bs]
theorem bs_size (l : List UInt8) : (bs l).size = l.length := by simp [bs, ByteArray.size]
theorem bs_data (l : List UInt8) : (bs l).data.toList = l := by simp [bs]
theorem bs_inj {a b : List UInt8} : bs a = bs b ↔ a = b := by
  constructor
  · intro h; have := congrArg (fun s => s.data.toList) h; simpa [bs] using this
  · intro h; rw [h]
theorem ext_list (s : ByteArray) (a b : Nat) : (s.extract a b).data.toList = (s.data.toList.drop a).take (b - a) := by
  simp [ByteArray.data_extract, List.extract_eq_take_drop]
theorem ext_bs (s : ByteArray) (a b : Nat) : s.extract a b = bs ((s.data.toList.drop a).take (b - a)) := by
  rw [← ext_list, bs_list]

/-- A token: its kind (101 the end, 119 a word, 110 a number, 120 none, else the sign itself), its text, its place. -/
structure PT where
  k : Nat
  tx : List UInt8
  at_ : Nat

def skipB (l : List UInt8) (i : Nat) : Nat := i + lead blankB (l.drop i)

/-- The token that begins at place i. -/
def tokAt (l : List UInt8) (i : Nat) : PT :=
  match l.drop i with
  | [] => ⟨101, [], i⟩
  | c :: r =>
    if signB (c.toNat : Int) then ⟨c.toNat, [c], i⟩
    else if letterB (c.toNat : Int) then ⟨119, (c :: r).take (lead letterB (c :: r)), i⟩
    else if 1 ≤ lead digitB (c :: r) ∧ lead digitB (c :: r) ≤ 4 then ⟨110, (c :: r).take (lead digitB (c :: r)), i⟩
    else ⟨120, [], i⟩

def dval (l : List UInt8) : Nat := l.foldl (fun n c => 10 * n + (c.toNat - 48)) 0

def PT.fin (t : PT) : Bool := t.k == 101 || t.k == 120
def PT.nx (t : PT) : Nat := t.at_ + t.tx.length
def PT.S (t : PT) : List UInt8 := if t.k == 110 then [] else t.tx
def PT.N (t : PT) : Nat := if t.k == 110 then dval t.tx else 0

def nextTok (l : List UInt8) (i : Nat) : PT := tokAt l (skipB l i)

/-- The tokens from place i on, up to the end or what is none. -/
def toks : Nat → List UInt8 → Nat → List PT
  | 0, l, i => [nextTok l i]
  | f + 1, l, i => if (nextTok l i).fin then [nextTok l i] else nextTok l i :: toks f l (nextTok l i).nx

theorem skipB_le (l : List UInt8) (i : Nat) (h : i ≤ l.length) : i ≤ skipB l i ∧ skipB l i ≤ l.length := by
  have := lead_le blankB (l.drop i)
  simp only [skipB, List.length_drop] at *
  omega

theorem tokAt_bound (l : List UInt8) (i : Nat) (h : i ≤ l.length) : (tokAt l i).at_ = i ∧ i + (tokAt l i).tx.length ≤ l.length := by
  have hl : (l.drop i).length = l.length - i := List.length_drop
  unfold tokAt
  split
  · exact ⟨rfl, by simpa using h⟩
  · rename_i c r hd
    have h1 := lead_le letterB (c :: r)
    have h2 := lead_le digitB (c :: r)
    rw [hd] at hl
    simp only [List.length_cons] at hl h1 h2
    split
    · exact ⟨rfl, by simp; omega⟩
    · split
      · exact ⟨rfl, by simp [List.length_take]; omega⟩
      · split
        · exact ⟨rfl, by simp [List.length_take]; omega⟩
        · exact ⟨rfl, by simp; omega⟩

theorem tokAt_long (l : List UInt8) (i : Nat) (h : (tokAt l i).fin = false) : 0 < (tokAt l i).tx.length := by
  revert h
  unfold tokAt
  split
  · intro h; simp [PT.fin] at h
  · rename_i c r hd
    split
    · intro _; simp
    · split
      · rename_i hlt
        intro _
        have : lead letterB (c :: r) = lead letterB r + 1 := by simp [lead, hlt]
        simp [this]
      · split
        · rename_i hd4
          intro _
          simp [List.length_take]
          omega
        · intro h; simp [PT.fin] at h

theorem nextTok_bound (l : List UInt8) (i : Nat) (h : i ≤ l.length) : i ≤ (nextTok l i).at_ ∧ (nextTok l i).nx ≤ l.length ∧ (nextTok l i).at_ ≤ (nextTok l i).nx := by
  have h1 := skipB_le l i h
  have h2 := tokAt_bound l (skipB l i) h1.2
  unfold nextTok PT.nx
  rw [h2.1]
  omega

theorem nextTok_long (l : List UInt8) (i : Nat) (h : (nextTok l i).fin = false) : (nextTok l i).at_ < (nextTok l i).nx := by
  have := tokAt_long l (skipB l i) h
  unfold nextTok PT.nx
  omega

end Go.Proofs.YtbdffcjganlblaaGreatDoor

namespace Go.Proofs.YtbdffcjganlblaaGreatDoor
open Go.RowKit
set_option linter.unusedVariables false
set_option linter.unusedSimpArgs false

theorem hide {p : Prop} (h : p) : Hid p := h
theorem unhide {p : Prop} (h : Hid p) : p := h

set_option maxHeartbeats 400000 in
theorem isBlank_any (c : Int) (w : World) :
    Calls Tryz.prog 161 #[.int .u8 c] w fun e w' => e = .returned (.bool (blankB c)) ∧ w' = w := by
  go_enter Tryz.func161, Tryz.ntmps161
  go_wp2
  all_goals
    go_ret
    refine ⟨?_, rfl⟩
    first | (simp_all [blankB]; done) | (simp_all [blankB]; omega)

set_option maxHeartbeats 400000 in
theorem isLetter_any (c : Int) (w : World) :
    Calls Tryz.prog 106 #[.int .u8 c] w fun e w' => e = .returned (.bool (letterB c)) ∧ w' = w := by
  go_enter Tryz.func106, Tryz.ntmps106
  go_wp2
  all_goals
    go_ret
    refine ⟨?_, rfl⟩
    first | (simp_all [letterB]; done) | (simp_all [letterB]; omega)

set_option maxHeartbeats 400000 in
theorem isDigit_any (c : Int) (w : World) :
    Calls Tryz.prog 162 #[.int .u8 c] w fun e w' => e = .returned (.bool (digitB c)) ∧ w' = w := by
  go_enter Tryz.func162, Tryz.ntmps162
  go_wp2
  all_goals
    go_ret
    refine ⟨?_, rfl⟩
    first | (simp_all [digitB]; done) | (simp_all [digitB]; omega)

set_option maxHeartbeats 400000 in
theorem isSign_any (c : Int) (w : World) :
    Calls Tryz.prog 163 #[.int .u8 c] w fun e w' => e = .returned (.bool (signB c)) ∧ w' = w := by
  go_enter Tryz.func163, Tryz.ntmps163
  go_wp2
  all_goals
    go_ret
    refine ⟨?_, rfl⟩
    first | (simp_all [signB]; done) | (simp_all [signB]; omega)

end Go.Proofs.YtbdffcjganlblaaGreatDoor

namespace Go.Proofs.YtbdffcjganlblaaGreatDoor
open Go.RowKit
set_option linter.unusedVariables false
set_option linter.unusedSimpArgs false

theorem ret_int {k : IntKind} {a b : Int} (h : a = b) : Ending.returned (.int k a) = .returned (.int k b) := by rw [h]

theorem drop_cons (s : ByteArray) (k : Nat) (h : k < s.size) : s.data.toList.drop k = s[k] :: s.data.toList.drop (k + 1) := by
  rw [List.drop_eq_getElem_cons (by simpa using h)]; rfl

theorem lead_yes (P : Int → Bool) (s : ByteArray) (k : Nat) (h : k < s.size) (hp : P (s[k].toNat : Int) = true) : lead P (s.data.toList.drop k) = lead P (s.data.toList.drop (k + 1)) + 1 := by
  rw [drop_cons s k h, lead, if_pos hp]
theorem lead_no (P : Int → Bool) (s : ByteArray) (k : Nat) (h : k < s.size) (hp : P (s[k].toNat : Int) = false) : lead P (s.data.toList.drop k) = 0 := by
  rw [drop_cons s k h, lead, if_neg (by simp [hp])]
theorem lead_end (P : Int → Bool) (s : ByteArray) (k : Nat) (h : s.size ≤ k) : lead P (s.data.toList.drop k) = 0 := by
  rw [List.drop_of_length_le (by simpa using h), lead]

set_option maxRecDepth 100000 in
set_option maxHeartbeats 400000 in
theorem countBlank_any (s : ByteArray) (w : World) (hs : s.size ≤ 1000) :
    Calls Tryz.prog 160 #[.string s, .func (.func 161) #[] #[]] w fun e w' => e = .returned (.int .i64 (lead blankB s.data.toList)) ∧ w' = w := by
  go_enter Tryz.func160, Tryz.ntmps160
  go_wp2
  go_loop [5] (fun i => ∃ k : Nat, k ≤ s.size ∧ i = .int .i64 k ∧ Hid (lead blankB s.data.toList = k + lead blankB (s.data.toList.drop k))) (fun i => s.size - (intOf i).toNat)
  case atStart => exact ⟨0, Nat.zero_le _, rfl, by simp [Hid]⟩
  case round =>
    obtain ⟨k, hk, rfl, hl⟩ := hrel
    by_cases hlt : k < s.size
    · by_cases hp : blankB (s[k].toNat : Int) = true
      · have hy := hide (lead_yes blankB s k hlt hp)
        go_wp2_with (go_at_call 161; refine (isBlank_any _ _).mono ?_; rintro e w' ⟨rfl, rfl⟩)
        go_round
        case rel => exact ⟨k + 1, by omega, by go_num, by have := hl.out; have := unhide hy; unfold Hid; omega⟩
        case measure => simp [intOf]; omega
      · have hp' : blankB (s[k].toNat : Int) = false := by simpa using hp
        have hy := hide (lead_no blankB s k hlt hp')
        clear hp
        go_wp2_with (go_at_call 161; refine (isBlank_any _ _).mono ?_; rintro e w' ⟨rfl, rfl⟩)
        go_ret
        exact ⟨ret_int (by have := hl.out; have := unhide hy; omega), rfl⟩
    · have hy := hide (lead_end blankB s k (by omega))
      go_wp2
      go_ret
      exact ⟨ret_int (by have := hl.out; have := unhide hy; omega), rfl⟩

set_option maxRecDepth 100000 in
set_option maxHeartbeats 400000 in
theorem countLetter_any (s : ByteArray) (w : World) (hs : s.size ≤ 1000) :
    Calls Tryz.prog 160 #[.string s, .func (.func 106) #[] #[]] w fun e w' => e = .returned (.int .i64 (lead letterB s.data.toList)) ∧ w' = w := by
  go_enter Tryz.func160, Tryz.ntmps160
  go_wp2
  go_loop [5] (fun i => ∃ k : Nat, k ≤ s.size ∧ i = .int .i64 k ∧ Hid (lead letterB s.data.toList = k + lead letterB (s.data.toList.drop k))) (fun i => s.size - (intOf i).toNat)
  case atStart => exact ⟨0, Nat.zero_le _, rfl, by simp [Hid]⟩
  case round =>
    obtain ⟨k, hk, rfl, hl⟩ := hrel
    by_cases hlt : k < s.size
    · by_cases hp : letterB (s[k].toNat : Int) = true
      · have hy := hide (lead_yes letterB s k hlt hp)
        go_wp2_with (go_at_call 106; refine (isLetter_any _ _).mono ?_; rintro e w' ⟨rfl, rfl⟩)
        go_round
        case rel => exact ⟨k + 1, by omega, by go_num, by have := hl.out; have := unhide hy; unfold Hid; omega⟩
        case measure => simp [intOf]; omega
      · have hp' : letterB (s[k].toNat : Int) = false := by simpa using hp
        have hy := hide (lead_no letterB s k hlt hp')
        clear hp
        go_wp2_with (go_at_call 106; refine (isLetter_any _ _).mono ?_; rintro e w' ⟨rfl, rfl⟩)
        go_ret
        exact ⟨ret_int (by have := hl.out; have := unhide hy; omega), rfl⟩
    · have hy := hide (lead_end letterB s k (by omega))
      go_wp2
      go_ret
      exact ⟨ret_int (by have := hl.out; have := unhide hy; omega), rfl⟩

set_option maxRecDepth 100000 in
set_option maxHeartbeats 400000 in
theorem countDigit_any (s : ByteArray) (w : World) (hs : s.size ≤ 1000) :
    Calls Tryz.prog 160 #[.string s, .func (.func 162) #[] #[]] w fun e w' => e = .returned (.int .i64 (lead digitB s.data.toList)) ∧ w' = w := by
  go_enter Tryz.func160, Tryz.ntmps160
  go_wp2
  go_loop [5] (fun i => ∃ k : Nat, k ≤ s.size ∧ i = .int .i64 k ∧ Hid (lead digitB s.data.toList = k + lead digitB (s.data.toList.drop k))) (fun i => s.size - (intOf i).toNat)
  case atStart => exact ⟨0, Nat.zero_le _, rfl, by simp [Hid]⟩
  case round =>
    obtain ⟨k, hk, rfl, hl⟩ := hrel
    by_cases hlt : k < s.size
    · by_cases hp : digitB (s[k].toNat : Int) = true
      · have hy := hide (lead_yes digitB s k hlt hp)
        go_wp2_with (go_at_call 162; refine (isDigit_any _ _).mono ?_; rintro e w' ⟨rfl, rfl⟩)
        go_round
        case rel => exact ⟨k + 1, by omega, by go_num, by have := hl.out; have := unhide hy; unfold Hid; omega⟩
        case measure => simp [intOf]; omega
      · have hp' : digitB (s[k].toNat : Int) = false := by simpa using hp
        have hy := hide (lead_no digitB s k hlt hp')
        clear hp
        go_wp2_with (go_at_call 162; refine (isDigit_any _ _).mono ?_; rintro e w' ⟨rfl, rfl⟩)
        go_ret
        exact ⟨ret_int (by have := hl.out; have := unhide hy; omega), rfl⟩
    · have hy := hide (lead_end digitB s k (by omega))
      go_wp2
      go_ret
      exact ⟨ret_int (by have := hl.out; have := unhide hy; omega), rfl⟩
end Go.Proofs.YtbdffcjganlblaaGreatDoor

namespace Go.Proofs.YtbdffcjganlblaaGreatDoor
open Go.RowKit
set_option linter.unusedVariables false
set_option linter.unusedSimpArgs false

theorem below_new (w : World) (o : Obj) : Below w.heap.size w (w.alloc o) := (Below.refl _ _).alloc (Nat.le_refl _) _

theorem tok_end (l : List UInt8) (i : Nat) (h : l.length ≤ i) : tokAt l i = ⟨101, [], i⟩ := by
  unfold tokAt; rw [List.drop_of_length_le h]
theorem dval_snoc (l : List UInt8) (c : UInt8) : dval (l ++ [c]) = 10 * dval l + (c.toNat - 48) := by
  simp [dval]
theorem dval_lt (l : List UInt8) (h : ∀ c ∈ l, c.toNat ≤ 57) : dval l < 10 ^ l.length := by
  have : ∀ r : List UInt8, (∀ c ∈ r, c.toNat ≤ 57) → dval r.reverse < 10 ^ r.length := by
    intro r
    induction r with
    | nil => intro _; simp [dval]
    | cons c r ih =>
      intro hr
      rw [List.reverse_cons, dval_snoc]
      have h1 := ih (fun x hx => hr x (List.mem_cons_of_mem _ hx))
      have h2 := hr c (List.mem_cons_self)
      simp only [List.length_cons, Nat.pow_succ]
      omega
  have := this l.reverse (by simpa using h)
  simpa using this
theorem take_more (s : ByteArray) (i k : Nat) (h1 : i ≤ k) (h2 : k < s.size) : (s.data.toList.drop i).take (k + 1 - i) = (s.data.toList.drop i).take (k - i) ++ [s[k]] := by
  rw [show k + 1 - i = (k - i) + 1 by omega, List.take_succ_eq_append_getElem (by simp; omega)]
  have e : (s.data.toList.drop i)[k - i]'(by simp; omega) = s[k] := by
    rw [List.getElem_drop]
    have h3 : i + (k - i) = k := by omega
    simp only [h3]
    rfl
  rw [e]

theorem mem_lead (P : Int → Bool) : ∀ (l : List UInt8) (n : Nat), n ≤ lead P l → ∀ c ∈ l.take n, P (c.toNat : Int) = true
  | [], n, _, c, h => by simp at h
  | d :: r, 0, _, c, h => by simp at h
  | d :: r, n + 1, hn, c, h => by
    simp only [lead] at hn
    split at hn
    · rename_i hd
      rcases List.mem_cons.1 (by simpa using h) with rfl | h'
      · exact hd
      · exact mem_lead P r n (by omega) c h'
    · omega

end Go.Proofs.YtbdffcjganlblaaGreatDoor
