/-
  Own work. The program: guard.
-/
import Derived.Test.YthpbkfcapnihlaaGreatDoorProgM
import Derived.Defers
import Derived.Recover
namespace Go.Proofs.YthpbkfcapnihlaaGreatDoor
open Go.RowKit
set_option linter.unusedVariables false
set_option linter.unusedSimpArgs false

theorem refusal_is (v : Value) (w : World) : (Instr.typeAssert (.iface 73 v) 20 73 true).run Tryz.prog w = .ok (.tuple #[v, .bool true]) w := by
  simp [Instr.typeAssert, run_underlying Tryz.underlying73, go_sem, Result.andThen]

set_option maxRecDepth 100000 in
set_option maxHeartbeats 1000000 in
theorem reasonOf_any (e p : Nat) (w : World) :
    Calls Tryz.prog 30 #[.iface 73 (.agg #[.int .i64 e, .int .i64 p])] w fun en w' => en = .returned (.agg #[.int .i64 e, .int .i64 p]) ∧ Below w.heap.size w w' := by
  have hta := refusal_is
  go_enter Tryz.func30, Tryz.ntmps30
  go_wp2
  refine bodyPost_ret (v := .agg #[.int .i64 e, .int .i64 p]) (by simp [results, Tryz.results30, go_sem]) rfl ⟨rfl, ?_⟩
  exact (below_new w _).alloc (by simp) _

theorem slots14 (p q r v : Value) : (#[p, q, r] ++ ((Array.replicate 11 undef).setIfInBounds 2 v).setIfInBounds 0 v) = #[p, q, r, v, undef, v, undef, undef, undef, undef, undef, undef, undef, undef] := rfl

/-- The three results' variables. -/
structure G3 (w : World) (b : Nat) (s : ByteArray) (e p : Nat) : Prop where
  h0 : w.heap[b]? = some (.cells #[.string s] 9 (0, 0))
  h1 : w.heap[b + 1]? = some (.cells #[.int .i64 e] 29 (0, 0))
  h2 : w.heap[b + 2]? = some (.cells #[.int .i64 p] 3 (0, 0))

theorem G3.keep {w w' : World} {b : Nat} {s : ByteArray} {e p : Nat} (h : G3 w b s e p) (hb : Below w.heap.size w w') : G3 w' b s e p :=
  ⟨blk_keep h.h0 hb, blk_keep h.h1 hb, blk_keep h.h2 hb⟩
theorem G3.drew {w : World} {b : Nat} {s : ByteArray} {e p : Nat} (h : G3 w b s e p) : G3 w.drew b s e p := ⟨h.h0, h.h1, h.h2⟩
theorem G3.set {w : World} {b : Nat} {s : ByteArray} {e p : Nat} (h : G3 w b s e p) (s' : ByteArray) (e' p' : Nat) :
    G3 (((w.setCell ⟨b, 0, none⟩ (.string s')).setCell ⟨b + 1, 0, none⟩ (.int .i64 e')).setCell ⟨b + 2, 0, none⟩ (.int .i64 p')) b s' e' p' := by
  refine ⟨?_, ?_, ?_⟩
  · rw [Below.heap_setCell _ _ _ _ (by simp), Below.heap_setCell _ _ _ _ (by simp)]
    exact blk_set h.h0 0 _
  · rw [Below.heap_setCell _ _ _ _ (by simp)]
    refine blk_set (c := #[.int .i64 e]) ?_ 0 _
    rw [Below.heap_setCell _ _ _ _ (by simp)]
    exact h.h1
  · refine blk_set (c := #[.int .i64 p]) ?_ 0 _
    rw [Below.heap_setCell _ _ _ _ (by simp), Below.heap_setCell _ _ _ _ (by simp)]
    exact h.h2

set_option maxRecDepth 100000 in
set_option maxHeartbeats 1000000 in
theorem catch_panicking (b e p : Nat) (w : World) (h : G3 w b ⟨#[]⟩ 0 0) :
    CallsD Tryz.prog 29 #[.pointer (some ⟨b, 0, none⟩), .pointer (some ⟨b + 1, 0, none⟩), .pointer (some ⟨b + 2, 0, none⟩)] (.panicking [{ v := .iface 73 (.agg #[.int .i64 e, .int .i64 p]), recovered := false }]) w fun en u' w' =>
      en = .returned (.tuple #[]) ∧ u' = .panicking [{ v := .iface 73 (.agg #[.int .i64 e, .int .i64 p]), recovered := true }] ∧ G3 w' b ⟨#[]⟩ e p ∧ Below b w w' := by
  refine callsD_of_wpS Tryz.func29 rfl fun c₀ cs hu => ?_
  apply wpS_seq
  apply wpS_region
  simp [wpOpsS, go_sem, recoverD, hu, Tryz.ntmps29, Exit.thenS]
  refine wpS_of_wp ?_
  rw [slots14]
  generalize hQ : (fun (e_1 : Exit) (a' : Act) (w' : World) => bodyPostS _ _ _ _ _ e_1 a' _ w') = Q
  have HQ := hide hQ
  clear hQ hu
  go_wp2_with fail
  refine (reasonOf_any e p w).mono ?_
  rintro en w1 ⟨rfl, hb1⟩
  have H1 := hide (h.keep hb1)
  have hl0 := blk_lt h.h0
  have hl1 := blk_lt H1.out.h0
  have hl2 := blk_lt H1.out.h1
  have hl3 := blk_lt H1.out.h2
  have HB1 := hide (hb1.mono (Nat.le_of_lt hl0))
  clear hb1 h
  have hX := blk_new w1 #[.int .i64 e, .int .i64 p] 73
  have H2 := hide (H1.out.keep (below_new w1 (.cells #[.int .i64 e, .int .i64 p] 73)))
  have HB2 := hide (HB1.out.alloc (Nat.le_of_lt hl1) (.cells #[.int .i64 e, .int .i64 p] 73))
  go_wp2_with fail
  generalize w1.alloc (.cells #[.int .i64 e, .int .i64 p] 73) = W at *
  generalize w1.heap.size = X at *
  have n0 : ¬ X = b := by omega
  have n1 : ¬ X = b + 1 := by omega
  have n2 : ¬ X = b + 2 := by omega
  have m0 : ¬ b = X := by omega
  have m1 : ¬ b + 1 = X := by omega
  have m2 : ¬ b + 2 = X := by omega
  have x0 := blk_cell hX
  have a0 := blk_cell H2.out.h0
  have a1 := blk_cell H2.out.h1
  have a2 := blk_cell H2.out.h2
  have f0 := blk_frozen H2.out.h0
  have f1 := blk_frozen H2.out.h1
  have f2 := blk_frozen H2.out.h2
  clear hX H1 HB1 hl0 hl1 hl2 hl3
  go_region
  all_goals
    rw [← HQ.out]
    refine ⟨rfl, _, rfl, .tuple #[], by simp [results, Tryz.results29], rfl, rfl, ?_, ?_⟩
    · exact (H2.out.set ⟨#[]⟩ e p).drew
    · exact (((HB2.out.setCell (p := ⟨b, 0, none⟩) (Nat.le_refl _) _).setCell (p := ⟨b + 1, 0, none⟩) (Nat.le_add_right _ _) _).setCell (p := ⟨b + 2, 0, none⟩) (Nat.le_add_right _ _) _).drew

set_option maxRecDepth 100000 in
set_option maxHeartbeats 1000000 in
theorem catch_idle (a b c : Value) (w : World) :
    CallsD Tryz.prog 29 #[a, b, c] .returning w fun en u' w' => en = .returned (.tuple #[]) ∧ u' = .returning ∧ w' = w := by
  refine callsD_of_wpS Tryz.func29 rfl fun c₀ cs hu => ?_
  apply wpS_seq
  apply wpS_region
  simp [wpOpsS, go_sem, recoverD, hu, Tryz.ntmps29, Exit.thenS]
  refine wpS_of_wp ?_
  rw [slots14]
  generalize hQ : (fun (e_1 : Exit) (a' : Act) (w' : World) => bodyPostS _ _ _ _ _ e_1 a' _ w') = Q
  have HQ := hide hQ
  clear hQ
  go_wp2
  rw [← HQ.out]
  cases c₀
  simp_all [bodyPostS, results, Tryz.results29]

/-- What the program refuses, and with what; what it prints. -/
def progE (s : ByteArray) (f : Nat × Nat) : Prop :=
  (400 < s.size ∧ f = (1, 0)) ∨
  (s.size ≤ 400 ∧ ∃ j, pSet (allToks s.data.toList) = .error j ∧ f = (2, (tk (allToks s.data.toList) j).at_)) ∨
  (s.size ≤ 400 ∧ ∃ l ps, pSet (allToks s.data.toList) = .ok (l.map Prod.fst, ps) ∧ ZOk l ∧ checkR l ps = some f)
def progOk (s : ByteArray) (R : List UInt8) : Prop :=
  s.size ≤ 400 ∧ ∃ l ps, pSet (allToks s.data.toList) = .ok (l.map Prod.fst, ps) ∧ ZOk l ∧ checkR l ps = none ∧ l.flatMap tLine1 ++ ps.flatMap pLine = R
def P1Out (s : ByteArray) (w : World) (en : Ending) (w' : World) : Prop :=
  Below w.heap.size w w' ∧ ((∃ f, progE s f ∧ en = pan f.1 f.2) ∨ (∃ R, progOk s R ∧ en = .returned (.string (bs R))))

theorem check_small {l : List (Tk × Nat)} {ps : List Pr} (h : checkR l ps = none) : ∀ k, k < l.length → (lk l k).1.P < 100 ∧ (lk l k).1.O < 100 ∧ (lk l k).1.C < 100 ∧ (lk l k).1.D < 100 := by
  intro k hk
  have h0 : ckT l l.length 0 = none := by
    unfold checkR at h
    cases hc : ckT l l.length 0 with
    | some x => rw [hc] at h; simp at h
    | none => rfl
  have := timed_P (tE_none (ckT_none l.length 0 h0 k (by omega) (by omega)))
  omega

set_option maxRecDepth 100000 in
set_option maxHeartbeats 1000000 in
theorem print1_any (s : ByteArray) (b : Nat) (w : World) (hm : s.size ≤ 9223372036854775807) (hc : w.cell? ⟨b, 0, none⟩ = some (.string s)) :
    Calls Tryz.prog 14 #[.pointer (some ⟨b, 0, none⟩)] w (P1Out s w) := by
  go_enter Tryz.func14, Tryz.ntmps14
  go_wp2_with fail
  refine (readSet_any s _ hm).mono ?_
  rintro e w1 ⟨hb1, hcase⟩
  rcases hcase with ⟨h1, rfl⟩ | ⟨h1, j, h2, rfl⟩ | ⟨h1, l, ps, h2, h3, ⟨f, h4, rfl⟩ | ⟨h4, g, cap, pa, pc, rfl, h5, h6, h7, h8⟩⟩
  · exact ⟨rfl, hb1, .inl ⟨(1, 0), .inl ⟨h1, rfl⟩, rfl⟩⟩
  · exact ⟨rfl, hb1, .inl ⟨(2, (tk (allToks s.data.toList) j).at_), .inr (.inl ⟨h1, j, h2, rfl⟩), rfl⟩⟩
  · exact ⟨rfl, hb1, .inl ⟨f, .inr (.inr ⟨h1, l, ps, h2, h3, h4⟩), rfl⟩⟩
  · obtain ⟨b1, b2, b3, b4⟩ := pSet_bounds h2
    have hn6 : l.length ≤ 6 := by simpa using b3
    have Hok : Hid (progOk s (l.flatMap tLine1 ++ ps.flatMap pLine)) := ⟨h1, l, ps, h2, h3, h4, rfl⟩
    have Hsm := hide (check_small h4)
    have Hb := hide hb1
    have H7 := hide h7
    have H8 := hide h8
    clear h2 h3 h4 hb1 b1 b2 b3 h7 h8
    go_wp2_with fail
    refine (text_any l ps g cap pa pc _ h6 H7.out h5 hn6 Hsm.out b4 H8.out _ rfl).mono ?_
    rintro e w2 ⟨rfl, hb2⟩
    have HB := hide (Hb.out.trans (hb2.mono Hb.out.size))
    clear hb2
    go_wp2
    go_ret
    exact ⟨HB.out, .inr ⟨_, Hok.out, rfl⟩⟩

def GuardOut (s : ByteArray) (w : World) (en : Ending) (w' : World) : Prop :=
  Below w.heap.size w w' ∧ ((∃ f, progE s f ∧ en = .returned (.tuple #[.string ⟨#[]⟩, .int .i64 f.1, .int .i64 f.2])) ∨ (∃ R, progOk s R ∧ en = .returned (.tuple #[.string (bs R), .int .i64 0, .int .i64 0])))

theorem G3.new (w : World) : G3 (((w.alloc (.cells #[.string ⟨#[]⟩] 9)).alloc (.cells #[.int .i64 0] 29)).alloc (.cells #[.int .i64 0] 3)) w.heap.size ⟨#[]⟩ 0 0 := by
  refine ⟨?_, ?_, ?_⟩
  · rw [Below.heap_alloc _ _ _ (by simp; omega), Below.heap_alloc _ _ _ (by simp)]; exact blk_new _ _ _
  · rw [Below.heap_alloc _ _ _ (by simp)]; simpa using blk_new (w.alloc (.cells #[.string ⟨#[]⟩] 9)) #[.int .i64 0] 29
  · simpa using blk_new ((w.alloc (.cells #[.string ⟨#[]⟩] 9)).alloc (.cells #[.int .i64 0] 29)) #[.int .i64 0] 3

set_option maxRecDepth 100000 in
set_option maxHeartbeats 1000000 in
theorem guard_any (s : ByteArray) (b : Nat) (w : World) (hm : s.size ≤ 9223372036854775807) (hc : w.cell? ⟨b, 0, none⟩ = some (.string s)) (hb : b < w.heap.size) :
    Calls Tryz.prog 13 #[.func (.func 14) #[] #[.pointer (some ⟨b, 0, none⟩)]] w (GuardOut s w) := by
  have hmf : ∀ (fn : Fn) (first cap : Array Value) (w : World), (Instr.makeFunc fn first cap).run Tryz.prog w = .ok (.func fn first cap) w := fun _ _ _ _ => rfl
  have HN := hide (G3.new w)
  have HB0 := hide (((below_new w (.cells #[.string ⟨#[]⟩] 9)).alloc (by simp) (.cells #[.int .i64 0] 29)).alloc (by simp; omega) (.cells #[.int .i64 0] 3))
  go_enter_defers Tryz.func13, Tryz.ntmps13
  go_wp2_with fail
  generalize ((w.alloc (.cells #[.string ⟨#[]⟩] 9)).alloc (.cells #[.int .i64 0] 29)).alloc (.cells #[.int .i64 0] 3) = W at *
  refine (print1_any s b W hm ((HB0.out.cell (p := ⟨b, 0, none⟩) hb).trans hc)).mono ?_
  rintro e w1 ⟨hb1, hcase⟩
  have HG1 := hide (HN.out.keep hb1)
  have HB1 := hide (HB0.out.trans (hb1.mono HB0.out.size))
  clear hb1
  rcases hcase with ⟨f, hf, rfl⟩ | ⟨R, hR, rfl⟩
  · refine leaves_cons (f := 29) (args := #[.pointer (some ⟨w.heap.size, 0, none⟩), .pointer (some ⟨w.heap.size + 1, 0, none⟩), .pointer (some ⟨w.heap.size + 2, 0, none⟩)]) (by simp) (by simp [go_sem]) ?_
    refine (catch_panicking w.heap.size f.1 f.2 w1 HG1.out).mono ?_
    rintro e u' w'' ⟨rfl, rfl, hG, hB⟩
    have c0 := blk_cell hG.h0
    have c1 := blk_cell hG.h1
    have c2 := blk_cell hG.h2
    simp [Leaves, settle, results, Tryz.results13, go_sem, c0, c1, c2]
    exact ⟨HB1.out.trans hB, .inl ⟨f, hf, rfl⟩⟩
  · have a0 := blk_cell HG1.out.h0
    have a1 := blk_cell HG1.out.h1
    have a2 := blk_cell HG1.out.h2
    have f0 := blk_frozen HG1.out.h0
    have f1 := blk_frozen HG1.out.h1
    have f2 := blk_frozen HG1.out.h2
    have HR := hide hR
    clear hR
    go_wp2
    refine leaves_cons (f := 29) (args := #[.pointer (some ⟨w.heap.size, 0, none⟩), .pointer (some ⟨w.heap.size + 1, 0, none⟩), .pointer (some ⟨w.heap.size + 2, 0, none⟩)]) (by simp) (by simp [go_sem]) ?_
    refine (catch_idle _ _ _ _).mono ?_
    rintro e u' w'' ⟨rfl, rfl, rfl⟩
    have hG : G3 (((w1.setCell ⟨w.heap.size, 0, none⟩ (.string (bs R))).setCell ⟨w.heap.size + 1, 0, none⟩ (.int .i64 0)).setCell ⟨w.heap.size + 2, 0, none⟩ (.int .i64 0)) w.heap.size (bs R) 0 0 := HG1.out.set (bs R) 0 0
    have HB := ((HB1.out.setCell (p := ⟨w.heap.size, 0, none⟩) (Nat.le_refl _) (.string (bs R))).setCell (p := ⟨w.heap.size + 1, 0, none⟩) (Nat.le_add_right _ _) (.int .i64 0)).setCell (p := ⟨w.heap.size + 2, 0, none⟩) (Nat.le_add_right _ _) (.int .i64 0)
    generalize ((w1.setCell ⟨w.heap.size, 0, none⟩ (.string (bs R))).setCell ⟨w.heap.size + 1, 0, none⟩ (.int .i64 0)).setCell ⟨w.heap.size + 2, 0, none⟩ (.int .i64 0) = w2 at *
    have c0 := blk_cell hG.h0
    have c1 := blk_cell hG.h1
    have c2 := blk_cell hG.h2
    simp [Leaves, settle, results, Tryz.results13, go_sem, c0, c1, c2]
    exact ⟨HB, .inr ⟨R, HR.out, rfl⟩⟩

set_option maxRecDepth 100000 in
set_option maxHeartbeats 1000000 in
theorem print_out (s : ByteArray) (w : World) (hm : s.size ≤ 9223372036854775807) :
    Calls Tryz.prog 6 #[.string s] w (GuardOut s w) := by
  have hmf : ∀ (fn : Fn) (first cap : Array Value) (w : World), (Instr.makeFunc fn first cap).run Tryz.prog w = .ok (.func fn first cap) w := fun _ _ _ _ => rfl
  have hX := blk_cell (blk_new w #[.string s] 9) 0
  have HB0 := hide (below_new w (.cells #[.string s] 9))
  go_enter Tryz.func6, Tryz.ntmps6
  go_wp2_with fail
  refine (guard_any s w.heap.size _ hm hX (by simp)).mono ?_
  rintro e w1 ⟨hb1, hcase⟩
  have HB := hide (HB0.out.trans (hb1.mono (by simp)))
  clear hb1 hX
  rcases hcase with ⟨f, hf, rfl⟩ | ⟨R, hR, rfl⟩
  · have Hf := hide hf
    clear hf
    go_wp2
    go_ret3
    exact ⟨HB.out, .inl ⟨f, Hf.out, rfl⟩⟩
  · have HR := hide hR
    clear hR
    go_wp2
    go_ret3
    exact ⟨HB.out, .inr ⟨R, HR.out, rfl⟩⟩
end Go.Proofs.YthpbkfcapnihlaaGreatDoor
