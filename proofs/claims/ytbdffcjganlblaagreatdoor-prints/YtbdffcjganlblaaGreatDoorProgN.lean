/-
  Own work. The program: Print.
-/
import Derived.Test.YtbdffcjganlblaaGreatDoorProgM
import Derived.Test.YtbdffcjganlblaaGreatDoorGuard
namespace Go.Proofs.YtbdffcjganlblaaGreatDoor
open Go.RowKit
set_option linter.unusedVariables false
set_option linter.unusedSimpArgs false

/-- What the program refuses, and with what; what it prints. -/
def progE (s : ByteArray) (f : Nat × Nat) : Prop :=
  (400 < s.size ∧ f = (1, 0)) ∨
  (s.size ≤ 400 ∧ ∃ j, pSet (allToks s.data.toList) = .error j ∧ f = (2, (tk (allToks s.data.toList) j).at_)) ∨
  (s.size ≤ 400 ∧ ∃ l ps, pSet (allToks s.data.toList) = .ok (l.map Prod.fst, ps) ∧ ZOk l ∧ checkR l ps = some f)
def progOk (s : ByteArray) (R : List UInt8) : Prop :=
  s.size ≤ 400 ∧ ∃ l ps, pSet (allToks s.data.toList) = .ok (l.map Prod.fst, ps) ∧ ZOk l ∧ checkR l ps = none ∧ l.flatMap tLine1 ++ ps.flatMap pLine = R
abbrev P1Out (s : ByteArray) (w : World) (en : Ending) (w' : World) : Prop := WorkOut (progE s) (progOk s) w en w'

theorem check_small {l : List (Tk × Nat)} {ps : List Pr} (h : checkR l ps = none) : ∀ k, k < l.length → (lk l k).1.P < 100 ∧ (lk l k).1.O < 100 ∧ (lk l k).1.C < 100 ∧ (lk l k).1.D < 100 := by
  intro k hk
  have h0 : ckT l l.length 0 = none := by
    unfold checkR at h
    cases hc : ckT l l.length 0 with
    | some x => rw [hc] at h; simp at h
    | none => rfl
  have := timed_P (tE_none (ckT_none l.length 0 h0 k (by omega) (by omega)))
  omega

set_option maxRecDepth 100000 in
set_option maxHeartbeats 1000000 in
theorem print1_any (s : ByteArray) (b : Nat) (w : World) (hm : s.size ≤ 9223372036854775807) (hc : w.cell? ⟨b, 0, none⟩ = some (.string s)) :
    Calls Tryz.prog 93 #[.pointer (some ⟨b, 0, none⟩)] w (P1Out s w) := by
  go_enter Tryz.func93, Tryz.ntmps93
  go_wp2_with fail
  refine (readSet_any s _ hm).mono ?_
  rintro e w1 ⟨hb1, hcase⟩
  rcases hcase with ⟨h1, rfl⟩ | ⟨h1, j, h2, rfl⟩ | ⟨h1, l, ps, h2, h3, ⟨f, h4, rfl⟩ | ⟨h4, g, cap, pa, pc, rfl, h5, h6, h7, h8⟩⟩
  · exact ⟨rfl, hb1, .inl ⟨(1, 0), .inl ⟨h1, rfl⟩, rfl⟩⟩
  · exact ⟨rfl, hb1, .inl ⟨(2, (tk (allToks s.data.toList) j).at_), .inr (.inl ⟨h1, j, h2, rfl⟩), rfl⟩⟩
  · exact ⟨rfl, hb1, .inl ⟨f, .inr (.inr ⟨h1, l, ps, h2, h3, h4⟩), rfl⟩⟩
  · obtain ⟨b1, b2, b3, b4⟩ := pSet_bounds h2
    have hn6 : l.length ≤ 6 := by simpa using b3
    have Hok : Hid (progOk s (l.flatMap tLine1 ++ ps.flatMap pLine)) := ⟨h1, l, ps, h2, h3, h4, rfl⟩
    have Hsm := hide (check_small h4)
    have Hb := hide hb1
    have H7 := hide h7
    have H8 := hide h8
    clear h2 h3 h4 hb1 b1 b2 b3 h7 h8
    go_wp2_with fail
    refine (text_any l ps g cap pa pc _ h6 H7.out h5 hn6 Hsm.out b4 H8.out _ rfl).mono ?_
    rintro e w2 ⟨rfl, hb2⟩
    have HB := hide (Hb.out.trans (hb2.mono Hb.out.size))
    clear hb2
    go_wp2
    go_ret
    exact ⟨HB.out, .inr ⟨_, Hok.out, rfl⟩⟩

abbrev GuardOut (s : ByteArray) (w : World) (en : Ending) (w' : World) : Prop := GOutG (progE s) (progOk s) w en w'

set_option maxRecDepth 100000 in
set_option maxHeartbeats 1000000 in
theorem print_out (s : ByteArray) (w : World) (hm : s.size ≤ 9223372036854775807) :
    Calls Tryz.prog 57 #[.string s] w (GuardOut s w) := by
  have hmf : ∀ (fn : Fn) (first cap : Array Value) (w : World), (Instr.makeFunc fn first cap).run Tryz.prog w = .ok (.func fn first cap) w := fun _ _ _ _ => rfl
  have hX := blk_cell (blk_new w #[.string s] 9) 0
  have HB0 := hide (below_new w (.cells #[.string s] 9))
  go_enter Tryz.func57, Tryz.ntmps57
  go_wp2_with fail
  refine (guard_print 2 _ rfl w.heap.size _ (progE s) (progOk s) (fun W hW => print1_any s w.heap.size W hm ((hW.cell (p := ⟨w.heap.size, 0, none⟩) (by simp)).trans hX))).mono ?_
  rintro e w1 ⟨hb1, hcase⟩
  have HB := hide (HB0.out.trans (hb1.mono (by simp)))
  clear hb1 hX
  rcases hcase with ⟨f, hf, rfl⟩ | ⟨R, hR, rfl⟩
  · have Hf := hide hf
    clear hf
    go_wp2
    go_ret3
    exact ⟨HB.out, .inl ⟨f, Hf.out, rfl⟩⟩
  · have HR := hide hR
    clear hR
    go_wp2
    go_ret3
    exact ⟨HB.out, .inr ⟨R, HR.out, rfl⟩⟩
end Go.Proofs.YtbdffcjganlblaaGreatDoor
