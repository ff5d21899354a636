/-
  Own work. The law Prints: its walks.
-/
import Derived.Test.YtbdffcjganlblaaGreatDoorEqvB
import Derived.Test.YtbdffcjganlblaaGreatDoorLawO
namespace Go.Proofs.YtbdffcjganlblaaGreatDoor
open Go.RowKit
set_option linter.unusedVariables false
set_option linter.unusedSimpArgs false

set_option maxRecDepth 100000 in
set_option maxHeartbeats 1000000 in
theorem plays_print (s : ByteArray) (A B C : Int) (L : Value) (w : World) (hm : s.size ≤ 9223372036854775807) :
    Calls Tryz.prog 29 #[.agg #[.int .i64 1, .int .i64 A, .int .i64 B, .int .i64 C, .string s, L]] w fun e w' => e = .returned (.bool true) ∧ Below w.heap.size w w' := by
  have hX := blk_new w #[.int .i64 1, .int .i64 A, .int .i64 B, .int .i64 C, .string s, L] 27
  have hB := hide (below_new w (.cells #[.int .i64 1, .int .i64 A, .int .i64 B, .int .i64 C, .string s, L] 27))
  go_enter Tryz.func29, Tryz.ntmps29
  go_wp2_with fail
  refine (print_any s _ hm).mono ?_
  rintro e w1 ⟨rfl, hb1⟩
  have hX1 := blk_keep hX hb1
  have HB1 := hide (hB.out.trans (hb1.mono (by simp)))
  have hs1 := HB1.out.size
  have HX1 := hide hX1
  have x1 := blk_cell hX1
  clear hb1 hX1 hX hB
  go_wp2_with fail
  refine (rPrint_any s _ hm).mono ?_
  rintro e w2 ⟨rfl, hb2⟩
  have HB2 := hide (HB1.out.trans (hb2.mono hs1))
  have x2 := blk_cell (blk_keep HX1.out hb2)
  clear hb2 HX1 HB1 hs1 x1
  generalize printR s.data.toList = R at *
  have e1 : ((bs R.1).toList == (bs R.1).toList) = true := by simp
  have e2 : ((R.2.1 : Int) == R.2.1) = true := by simp
  have e3 : ((R.2.2 : Int) == R.2.2) = true := by simp
  go_wp2
  go_ret
  exact ⟨rfl, HB2.out⟩

set_option maxRecDepth 100000 in
set_option maxHeartbeats 2000000 in
theorem upTo_any (b off len cap : Nat) (w : World) (hl : len ≤ cap) (hc : cap ≤ 9223372036854775807) (hb : b < w.heap.size) (hr : ∀ k, k < len → OpAt w b off k) :
    Calls Tryz.prog 13 #[.slice (some ⟨b, off, none⟩) len cap, .int .i64 1, .int .i64 1] w fun e w' => e = .returned (.int .i64 (-1)) ∧ Below w.heap.size w w' := by
  have Hr := hide hr
  clear hr
  go_enter Tryz.func13, Tryz.ntmps13
  go_wp2
  go_loopw [7] (fun i wr => ∃ k : Nat, k ≤ len ∧ i = .int .i64 k ∧ Below w.heap.size w wr) (fun i _ => len - (intOf i).toNat)
  case atStart => exact ⟨0, by omega, rfl, Below.refl _ _⟩
  case round =>
    obtain ⟨k, hk, rfl, hbw⟩ := hrel
    have Hb := hide hbw
    have hsz := hbw.size
    have hbw' : b < wr.heap.size := by omega
    have hex : ¬ ((k : Int) < len) ∨ ((k : Int) < len ∧ ¬ ((k : Int) < 1152921504606846976)) ∨ ((k : Int) < len ∧ (k : Int) < 1152921504606846976) := by omega
    rcases hex with hlt' | ⟨hlt', hk60⟩ | ⟨hlt', hk60⟩
    · clear hbw
      go_wp2
      go_ret
      exact ⟨rfl, Hb.out⟩
    · clear hbw
      go_wp2
      go_ret
      exact ⟨rfl, Hb.out⟩
    · obtain ⟨K, A, B, C, s, la, ln, lc, r0, r1, r2, r3, r4, r5, hs⟩ := Hr.out k (by omega)
      have e : ∀ o, wr.cell? ⟨b, o, none⟩ = w.cell? ⟨b, o, none⟩ := fun o => hbw.cell (p := ⟨b, o, none⟩) hb
      rw [← e] at r0 r1 r2 r3 r4 r5
      have hB1 := hide (hbw.alloc hbw.size (.cells #[.int .i64 K, .int .i64 A, .int .i64 B, .int .i64 C, .string s, .slice la ln lc] 27))
      clear e hbw
      have hcs : K = 1 ∨ ¬ (1 ≤ K) ∨ (1 ≤ K ∧ ¬ (K ≤ 1)) := by omega
      rcases hcs with rfl | h1 | ⟨h1, h2⟩
      · go_wp2_with fail
        refine (plays_print s A B C _ _ hs).mono ?_
        rintro e w1 ⟨rfl, hb1⟩
        have HB := hide (hB1.out.trans (hb1.mono (by simp; omega)))
        clear hb1 r0 r1 r2 r3 r4 r5
        have hnot : ∀ (x : Bool) (w : World), (Op.unary .not (.bool x)).run Tryz.prog w = .ok (.bool (!x)) w := fun _ _ => rfl
        go_wp2
        go_roundw
        case rel => exact ⟨k + 1, by omega, by go_num, HB.out⟩
        case measure => simp [intOf]; omega
      · go_wp2
        go_roundw
        case rel => exact ⟨k + 1, by omega, by go_num, hB1.out⟩
        case measure => simp [intOf]; omega
      · go_wp2
        go_roundw
        case rel => exact ⟨k + 1, by omega, by go_num, hB1.out⟩
        case measure => simp [intOf]; omega

set_option maxRecDepth 100000 in
theorem prints_any (b off len cap : Nat) (w : World) (hl : len ≤ cap) (hc : cap ≤ 9223372036854775807) (hb : b < w.heap.size) (hr : ∀ k, k < len → OpAt w b off k) :
    Calls Tryz.prog 3 #[.slice (some ⟨b, off, none⟩) len cap] w fun e w' => e = .returned (.bool true) ∧ Below w.heap.size w w' := by
  go_enter Tryz.func3, Tryz.ntmps3
  go_wp2_with fail
  refine (upTo_any b off len cap w hl hc hb hr).mono ?_
  rintro e w1 ⟨rfl, hb1⟩
  have HB := hide hb1
  clear hb1
  go_wp2
  go_ret
  exact ⟨rfl, HB.out⟩

set_option maxRecDepth 100000 in
set_option maxHeartbeats 1000000 in
theorem upTo_empty (a : Option Addr) (cap : Nat) (w : World) :
    Calls Tryz.prog 13 #[.slice a 0 cap, .int .i64 1, .int .i64 1] w fun e w' => e = .returned (.int .i64 (-1)) ∧ Below w.heap.size w w' := by
  go_enter Tryz.func13, Tryz.ntmps13
  go_wp2
  go_loopw [7] (fun i wr => i = .int .i64 0 ∧ Below w.heap.size w wr) (fun _ _ => 0)
  case atStart => exact ⟨rfl, Below.refl _ _⟩
  case round =>
    obtain ⟨rfl, hbw⟩ := hrel
    have Hb := hide hbw
    clear hbw
    go_wp2
    go_ret
    exact ⟨rfl, Hb.out⟩

set_option maxRecDepth 100000 in
set_option maxHeartbeats 1000000 in
theorem prints_empty (a : Option Addr) (cap : Nat) (w : World) :
    Calls Tryz.prog 3 #[.slice a 0 cap] w fun e w' => e = .returned (.bool true) ∧ Below w.heap.size w w' := by
  go_enter Tryz.func3, Tryz.ntmps3
  go_wp2_with fail
  refine (upTo_empty a cap w).mono ?_
  rintro e w1 ⟨rfl, hb1⟩
  have HB := hide hb1
  clear hb1
  go_wp2
  go_ret
  exact ⟨rfl, HB.out⟩
end Go.Proofs.YtbdffcjganlblaaGreatDoor
