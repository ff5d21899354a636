/-
  Own work. The program's tokens: countLeading at its three predicates.
-/
import Derived.Test.YtbdffcjganlblaaGreatDoorWalkA
namespace Go.Proofs.YtbdffcjganlblaaGreatDoor
open Go.RowKit
set_option linter.unusedVariables false
set_option linter.unusedSimpArgs false

theorem ret_int {k : IntKind} {a b : Int} (h : a = b) : Ending.returned (.int k a) = .returned (.int k b) := by rw [h]

theorem drop_cons (s : ByteArray) (k : Nat) (h : k < s.size) : s.data.toList.drop k = s[k] :: s.data.toList.drop (k + 1) := by
  rw [List.drop_eq_getElem_cons (by simpa using h)]; rfl

theorem lead_yes (P : Int → Bool) (s : ByteArray) (k : Nat) (h : k < s.size) (hp : P (s[k].toNat : Int) = true) : lead P (s.data.toList.drop k) = lead P (s.data.toList.drop (k + 1)) + 1 := by
  rw [drop_cons s k h, lead, if_pos hp]
theorem lead_no (P : Int → Bool) (s : ByteArray) (k : Nat) (h : k < s.size) (hp : P (s[k].toNat : Int) = false) : lead P (s.data.toList.drop k) = 0 := by
  rw [drop_cons s k h, lead, if_neg (by simp [hp])]
theorem lead_end (P : Int → Bool) (s : ByteArray) (k : Nat) (h : s.size ≤ k) : lead P (s.data.toList.drop k) = 0 := by
  rw [List.drop_of_length_le (by simpa using h), lead]

set_option maxRecDepth 100000 in
set_option maxHeartbeats 400000 in
theorem countBlank_any (s : ByteArray) (w : World) (hs : s.size ≤ 1000) :
    Calls Tryz.prog 160 #[.string s, .func (.func 161) #[] #[]] w fun e w' => e = .returned (.int .i64 (lead blankB s.data.toList)) ∧ w' = w := by
  go_enter Tryz.func160, Tryz.ntmps160
  go_wp2
  go_loop [5] (fun i => ∃ k : Nat, k ≤ s.size ∧ i = .int .i64 k ∧ Hid (lead blankB s.data.toList = k + lead blankB (s.data.toList.drop k))) (fun i => s.size - (intOf i).toNat)
  case atStart => exact ⟨0, Nat.zero_le _, rfl, by simp [Hid]⟩
  case round =>
    obtain ⟨k, hk, rfl, hl⟩ := hrel
    by_cases hlt : k < s.size
    · by_cases hp : blankB (s[k].toNat : Int) = true
      · have hy := hide (lead_yes blankB s k hlt hp)
        go_wp2_with (go_at_call 161; refine (isBlank_any _ _).mono ?_; rintro e w' ⟨rfl, rfl⟩)
        go_round
        case rel => exact ⟨k + 1, by omega, by go_num, by have := hl.out; have := unhide hy; unfold Hid; omega⟩
        case measure => simp [intOf]; omega
      · have hp' : blankB (s[k].toNat : Int) = false := by simpa using hp
        have hy := hide (lead_no blankB s k hlt hp')
        clear hp
        go_wp2_with (go_at_call 161; refine (isBlank_any _ _).mono ?_; rintro e w' ⟨rfl, rfl⟩)
        go_ret
        exact ⟨ret_int (by have := hl.out; have := unhide hy; omega), rfl⟩
    · have hy := hide (lead_end blankB s k (by omega))
      go_wp2
      go_ret
      exact ⟨ret_int (by have := hl.out; have := unhide hy; omega), rfl⟩

set_option maxRecDepth 100000 in
set_option maxHeartbeats 400000 in
theorem countLetter_any (s : ByteArray) (w : World) (hs : s.size ≤ 1000) :
    Calls Tryz.prog 160 #[.string s, .func (.func 106) #[] #[]] w fun e w' => e = .returned (.int .i64 (lead letterB s.data.toList)) ∧ w' = w := by
  go_enter Tryz.func160, Tryz.ntmps160
  go_wp2
  go_loop [5] (fun i => ∃ k : Nat, k ≤ s.size ∧ i = .int .i64 k ∧ Hid (lead letterB s.data.toList = k + lead letterB (s.data.toList.drop k))) (fun i => s.size - (intOf i).toNat)
  case atStart => exact ⟨0, Nat.zero_le _, rfl, by simp [Hid]⟩
  case round =>
    obtain ⟨k, hk, rfl, hl⟩ := hrel
    by_cases hlt : k < s.size
    · by_cases hp : letterB (s[k].toNat : Int) = true
      · have hy := hide (lead_yes letterB s k hlt hp)
        go_wp2_with (go_at_call 106; refine (isLetter_any _ _).mono ?_; rintro e w' ⟨rfl, rfl⟩)
        go_round
        case rel => exact ⟨k + 1, by omega, by go_num, by have := hl.out; have := unhide hy; unfold Hid; omega⟩
        case measure => simp [intOf]; omega
      · have hp' : letterB (s[k].toNat : Int) = false := by simpa using hp
        have hy := hide (lead_no letterB s k hlt hp')
        clear hp
        go_wp2_with (go_at_call 106; refine (isLetter_any _ _).mono ?_; rintro e w' ⟨rfl, rfl⟩)
        go_ret
        exact ⟨ret_int (by have := hl.out; have := unhide hy; omega), rfl⟩
    · have hy := hide (lead_end letterB s k (by omega))
      go_wp2
      go_ret
      exact ⟨ret_int (by have := hl.out; have := unhide hy; omega), rfl⟩

set_option maxRecDepth 100000 in
set_option maxHeartbeats 400000 in
theorem countDigit_any (s : ByteArray) (w : World) (hs : s.size ≤ 1000) :
    Calls Tryz.prog 160 #[.string s, .func (.func 162) #[] #[]] w fun e w' => e = .returned (.int .i64 (lead digitB s.data.toList)) ∧ w' = w := by
  go_enter Tryz.func160, Tryz.ntmps160
  go_wp2
  go_loop [5] (fun i => ∃ k : Nat, k ≤ s.size ∧ i = .int .i64 k ∧ Hid (lead digitB s.data.toList = k + lead digitB (s.data.toList.drop k))) (fun i => s.size - (intOf i).toNat)
  case atStart => exact ⟨0, Nat.zero_le _, rfl, by simp [Hid]⟩
  case round =>
    obtain ⟨k, hk, rfl, hl⟩ := hrel
    by_cases hlt : k < s.size
    · by_cases hp : digitB (s[k].toNat : Int) = true
      · have hy := hide (lead_yes digitB s k hlt hp)
        go_wp2_with (go_at_call 162; refine (isDigit_any _ _).mono ?_; rintro e w' ⟨rfl, rfl⟩)
        go_round
        case rel => exact ⟨k + 1, by omega, by go_num, by have := hl.out; have := unhide hy; unfold Hid; omega⟩
        case measure => simp [intOf]; omega
      · have hp' : digitB (s[k].toNat : Int) = false := by simpa using hp
        have hy := hide (lead_no digitB s k hlt hp')
        clear hp
        go_wp2_with (go_at_call 162; refine (isDigit_any _ _).mono ?_; rintro e w' ⟨rfl, rfl⟩)
        go_ret
        exact ⟨ret_int (by have := hl.out; have := unhide hy; omega), rfl⟩
    · have hy := hide (lead_end digitB s k (by omega))
      go_wp2
      go_ret
      exact ⟨ret_int (by have := hl.out; have := unhide hy; omega), rfl⟩
end Go.Proofs.YtbdffcjganlblaaGreatDoor
