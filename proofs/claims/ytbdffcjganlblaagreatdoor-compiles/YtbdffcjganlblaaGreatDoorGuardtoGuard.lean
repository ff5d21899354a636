/-
  Own work. The program: guard, its parts.
-/
import Derived.Test.YtbdffcjganlblaaGreatDoorProgEtoProgF
import Derived.Defers
import Derived.Recover
import Derived.Deep.DeepCutAuto
namespace Go.Proofs.YtbdffcjganlblaaGreatDoor
open Go.RowKit
set_option linter.unusedVariables false
set_option linter.unusedSimpArgs false

theorem refusal_is (v : Value) (w : World) : (Instr.typeAssert (.iface 101 v) 20 101 true).run Tryz.prog w = .ok (.tuple #[v, .bool true]) w := by
  simp [Instr.typeAssert, run_underlying Tryz.underlying101, go_sem, Result.andThen]

set_option maxRecDepth 100000 in
set_option maxHeartbeats 1000000 in
theorem reasonOf_any (e p own : Nat) (w : World) :
    Calls Tryz.prog 64 #[.iface 101 (.agg #[.int .i64 e, .int .i64 p]), .int .i64 own] w fun en w' => en = .returned (.agg #[.int .i64 e, .int .i64 p]) ∧ Below w.heap.size w w' := by
  have hta := refusal_is
  go_enter Tryz.func64, Tryz.ntmps64
  go_wp2
  refine bodyPost_ret (v := .agg #[.int .i64 e, .int .i64 p]) (by simp [results, Tryz.results64, go_sem]) rfl ⟨rfl, ?_⟩
  exact (below_new w _).alloc (by simp) _

theorem slots16 (o p q r v : Value) : (#[o, p, q, r] ++ ((Array.replicate 12 undef).setIfInBounds 2 v).setIfInBounds 0 v) = #[o, p, q, r, v, undef, v, undef, undef, undef, undef, undef, undef, undef, undef, undef] := rfl

/-- The three results' variables. -/
structure G3 (w : World) (b : Nat) (s : ByteArray) (e p : Nat) : Prop where
  h0 : w.heap[b]? = some (.cells #[.string s] 9 (0, 0))
  h1 : w.heap[b + 1]? = some (.cells #[.int .i64 e] 28 (0, 0))
  h2 : w.heap[b + 2]? = some (.cells #[.int .i64 p] 3 (0, 0))

theorem G3.keep {w w' : World} {b : Nat} {s : ByteArray} {e p : Nat} (h : G3 w b s e p) (hb : Below w.heap.size w w') : G3 w' b s e p :=
  ⟨blk_kept h.h0 hb, blk_kept h.h1 hb, blk_kept h.h2 hb⟩
theorem G3.drew {w : World} {b : Nat} {s : ByteArray} {e p : Nat} (h : G3 w b s e p) : G3 w.drew b s e p := ⟨h.h0, h.h1, h.h2⟩
theorem G3.set {w : World} {b : Nat} {s : ByteArray} {e p : Nat} (h : G3 w b s e p) (s' : ByteArray) (e' p' : Nat) :
    G3 (((w.setCell ⟨b, 0, none⟩ (.string s')).setCell ⟨b + 1, 0, none⟩ (.int .i64 e')).setCell ⟨b + 2, 0, none⟩ (.int .i64 p')) b s' e' p' := by
  refine ⟨?_, ?_, ?_⟩
  · rw [Below.heap_setCell _ _ _ _ (by simp), Below.heap_setCell _ _ _ _ (by simp)]
    exact blk_set h.h0 0 _
  · rw [Below.heap_setCell _ _ _ _ (by simp)]
    refine blk_set (c := #[.int .i64 e]) ?_ 0 _
    rw [Below.heap_setCell _ _ _ _ (by simp)]
    exact h.h1
  · refine blk_set (c := #[.int .i64 p]) ?_ 0 _
    rw [Below.heap_setCell _ _ _ _ (by simp), Below.heap_setCell _ _ _ _ (by simp)]
    exact h.h2

set_option maxRecDepth 100000 in
set_option maxHeartbeats 1000000 in
theorem catch_panicking (o own b e p : Nat) (w : World) (ho : w.cell? ⟨o, 0, none⟩ = some (.int .i64 own)) (h : G3 w b ⟨#[]⟩ 0 0) :
    CallsD Tryz.prog 63 #[.pointer (some ⟨o, 0, none⟩), .pointer (some ⟨b, 0, none⟩), .pointer (some ⟨b + 1, 0, none⟩), .pointer (some ⟨b + 2, 0, none⟩)] (.panicking [{ v := .iface 101 (.agg #[.int .i64 e, .int .i64 p]), recovered := false }]) w fun en u' w' =>
      en = .returned (.tuple #[]) ∧ u' = .panicking [{ v := .iface 101 (.agg #[.int .i64 e, .int .i64 p]), recovered := true }] ∧ G3 w' b ⟨#[]⟩ e p ∧ Below b w w' := by
  refine callsD_of_wpS Tryz.func63 rfl fun c₀ cs hu => ?_
  apply wpS_seq
  apply wpS_region
  simp [wpOpsS, go_sem, recoverD, hu, Tryz.ntmps63, Exit.thenS]
  refine wpS_of_wp ?_
  rw [slots16]
  generalize hQ : (fun (e_1 : Exit) (a' : Act) (w' : World) => bodyPostS _ _ _ _ _ e_1 a' _ w') = Q
  have HQ := hide hQ
  clear hQ hu
  go_wp2_with fail
  refine (reasonOf_any e p own w).mono ?_
  rintro en w1 ⟨rfl, hb1⟩
  have H1 := hide (h.keep hb1)
  have hl0 := blk_lt h.h0
  have hl1 := blk_lt H1.out.h0
  have hl2 := blk_lt H1.out.h1
  have hl3 := blk_lt H1.out.h2
  have HB1 := hide (hb1.mono (Nat.le_of_lt hl0))
  clear hb1 h
  have hX := blk_new w1 #[.int .i64 e, .int .i64 p] 101
  have H2 := hide (H1.out.keep (below_new w1 (.cells #[.int .i64 e, .int .i64 p] 101)))
  have HB2 := hide (HB1.out.alloc (Nat.le_of_lt hl1) (.cells #[.int .i64 e, .int .i64 p] 101))
  go_wp2_with fail
  generalize w1.alloc (.cells #[.int .i64 e, .int .i64 p] 101) = W at *
  generalize w1.heap.size = X at *
  have n0 : ¬ X = b := by omega
  have n1 : ¬ X = b + 1 := by omega
  have n2 : ¬ X = b + 2 := by omega
  have m0 : ¬ b = X := by omega
  have m1 : ¬ b + 1 = X := by omega
  have m2 : ¬ b + 2 = X := by omega
  have x0 := blk_cell hX
  have a0 := blk_cell H2.out.h0
  have a1 := blk_cell H2.out.h1
  have a2 := blk_cell H2.out.h2
  have f0 := blk_frozen H2.out.h0
  have f1 := blk_frozen H2.out.h1
  have f2 := blk_frozen H2.out.h2
  clear hX H1 HB1 hl0 hl1 hl2 hl3
  go_region
  all_goals
    rw [← HQ.out]
    refine ⟨rfl, _, rfl, .tuple #[], by simp [results, Tryz.results63], rfl, rfl, ?_, ?_⟩
    · exact (H2.out.set ⟨#[]⟩ e p).drew
    · exact (((HB2.out.setCell (p := ⟨b, 0, none⟩) (Nat.le_refl _) _).setCell (p := ⟨b + 1, 0, none⟩) (Nat.le_add_right _ _) _).setCell (p := ⟨b + 2, 0, none⟩) (Nat.le_add_right _ _) _).drew

set_option maxRecDepth 100000 in
set_option maxHeartbeats 1000000 in
theorem catch_idle (o a b c : Value) (w : World) :
    CallsD Tryz.prog 63 #[o, a, b, c] .returning w fun en u' w' => en = .returned (.tuple #[]) ∧ u' = .returning ∧ w' = w := by
  refine callsD_of_wpS Tryz.func63 rfl fun c₀ cs hu => ?_
  apply wpS_seq
  apply wpS_region
  simp [wpOpsS, go_sem, recoverD, hu, Tryz.ntmps63, Exit.thenS]
  refine wpS_of_wp ?_
  rw [slots16]
  generalize hQ : (fun (e_1 : Exit) (a' : Act) (w' : World) => bodyPostS _ _ _ _ _ e_1 a' _ w') = Q
  have HQ := hide hQ
  clear hQ
  go_wp2
  rw [← HQ.out]
  cases c₀
  simp_all [bodyPostS, results, Tryz.results63]


theorem G3.new (w : World) (own : Nat) : G3 ((((w.alloc (.cells #[.int .i64 own] 28)).alloc (.cells #[.string ⟨#[]⟩] 9)).alloc (.cells #[.int .i64 0] 28)).alloc (.cells #[.int .i64 0] 3)) (w.heap.size + 1) ⟨#[]⟩ 0 0 := by
  refine ⟨?_, ?_, ?_⟩
  · rw [Below.heap_alloc _ _ _ (by simp only [World.size_alloc]; omega), Below.heap_alloc _ _ _ (by simp only [World.size_alloc]; omega)]
    simpa using blk_new (w.alloc (.cells #[.int .i64 own] 28)) #[.string ⟨#[]⟩] 9
  · rw [Below.heap_alloc _ _ _ (by simp only [World.size_alloc]; omega)]
    simpa using blk_new ((w.alloc (.cells #[.int .i64 own] 28)).alloc (.cells #[.string ⟨#[]⟩] 9)) #[.int .i64 0] 28
  · simpa using blk_new (((w.alloc (.cells #[.int .i64 own] 28)).alloc (.cells #[.string ⟨#[]⟩] 9)).alloc (.cells #[.int .i64 0] 28)) #[.int .i64 0] 3
theorem own_new (w : World) (own : Nat) : ((((w.alloc (.cells #[.int .i64 own] 28)).alloc (.cells #[.string ⟨#[]⟩] 9)).alloc (.cells #[.int .i64 0] 28)).alloc (.cells #[.int .i64 0] 3)).heap[w.heap.size]? = some (.cells #[.int .i64 own] 28 (0, 0)) := by
  rw [Below.heap_alloc _ _ _ (by simp only [World.size_alloc]; omega), Below.heap_alloc _ _ _ (by simp only [World.size_alloc]; omega), Below.heap_alloc _ _ _ (by simp only [World.size_alloc]; omega)]
  exact blk_new _ _ _
theorem below_four (w : World) (a b c d : Obj) : Below w.heap.size w ((((w.alloc a).alloc b).alloc c).alloc d) :=
  (((below_new w a).alloc (by simp only [World.size_alloc]; omega) b).alloc (by simp only [World.size_alloc]; omega) c).alloc (by simp only [World.size_alloc]; omega) d

/-- What the guarded work comes to; what guard then answers. -/
def WorkOut (E : Nat × Nat → Prop) (R : List UInt8 → Prop) (w : World) (en : Ending) (w' : World) : Prop :=
  Below w.heap.size w w' ∧ ((∃ f, E f ∧ en = pan f.1 f.2) ∨ (∃ x, R x ∧ en = .returned (.string (bs x))))
def GOutG (E : Nat × Nat → Prop) (R : List UInt8 → Prop) (w : World) (en : Ending) (w' : World) : Prop :=
  Below w.heap.size w w' ∧ ((∃ f, E f ∧ en = .returned (.tuple #[.string ⟨#[]⟩, .int .i64 f.1, .int .i64 f.2])) ∨ (∃ x, R x ∧ en = .returned (.tuple #[.string (bs x), .int .i64 0, .int .i64 0])))

set_option maxRecDepth 100000 in
set_option maxHeartbeats 1000000 in
theorem guard_read (own : Nat) (ev : Int) (hev : ev = own) (b : Nat) (w : World) (E : Nat × Nat → Prop) (R : List UInt8 → Prop)
    (hw : ∀ W, Below w.heap.size w W → Calls Tryz.prog 34 #[.pointer (some ⟨b, 0, none⟩)] W (WorkOut E R W)) :
    Calls Tryz.prog 30 #[.int .i64 ev, .func (.func 34) #[] #[.pointer (some ⟨b, 0, none⟩)]] w (GOutG E R w) := by
  subst hev
  have hmf : ∀ (fn : Fn) (first cap : Array Value) (w : World), (Instr.makeFunc fn first cap).run Tryz.prog w = .ok (.func fn first cap) w := fun _ _ _ _ => rfl
  have HN := hide (G3.new w own)
  have HO := hide (own_new w own)
  have HB0 := hide (below_four w (.cells #[.int .i64 own] 28) (.cells #[.string ⟨#[]⟩] 9) (.cells #[.int .i64 0] 28) (.cells #[.int .i64 0] 3))
  have Hw := hide hw
  clear hw
  go_enter_defers Tryz.func30, Tryz.ntmps30
  go_wp2_with fail
  generalize (((w.alloc (.cells #[.int .i64 own] 28)).alloc (.cells #[.string ⟨#[]⟩] 9)).alloc (.cells #[.int .i64 0] 28)).alloc (.cells #[.int .i64 0] 3) = W at *
  refine (Hw.out W HB0.out).mono ?_
  rintro e w1 ⟨hb1, hcase⟩
  have HG1 := hide (HN.out.keep hb1)
  have HO1 := hide (blk_kept HO.out hb1)
  have HB1 := hide (HB0.out.trans (hb1.mono HB0.out.size))
  clear hb1
  rcases hcase with ⟨f, hf, rfl⟩ | ⟨x, hR, rfl⟩
  · refine leaves_cons (f := 63) (args := #[.pointer (some ⟨w.heap.size, 0, none⟩), .pointer (some ⟨w.heap.size + 1, 0, none⟩), .pointer (some ⟨w.heap.size + 1 + 1, 0, none⟩), .pointer (some ⟨w.heap.size + 1 + 2, 0, none⟩)]) (by simp) (by simp [go_sem]) ?_
    refine (catch_panicking w.heap.size own (w.heap.size + 1) f.1 f.2 w1 (by rw [blk_cell HO1.out]; rfl) HG1.out).mono ?_
    rintro e u' w'' ⟨rfl, rfl, hG, hB⟩
    have c0 := blk_cell hG.h0
    have c1 := blk_cell hG.h1
    have c2 := blk_cell hG.h2
    simp [Leaves, settle, results, Tryz.results30, go_sem, c0, c1, c2]
    exact ⟨HB1.out.trans (hB.mono (Nat.le_succ _)), .inl ⟨f, hf, rfl⟩⟩
  · have a0 := blk_cell HG1.out.h0
    have a1 := blk_cell HG1.out.h1
    have a2 := blk_cell HG1.out.h2
    have f0 := blk_frozen HG1.out.h0
    have f1 := blk_frozen HG1.out.h1
    have f2 := blk_frozen HG1.out.h2
    have HR := hide hR
    clear hR
    go_wp2
    refine leaves_cons (f := 63) (args := #[.pointer (some ⟨w.heap.size, 0, none⟩), .pointer (some ⟨w.heap.size + 1, 0, none⟩), .pointer (some ⟨w.heap.size + 1 + 1, 0, none⟩), .pointer (some ⟨w.heap.size + 1 + 2, 0, none⟩)]) (by simp) (by simp [go_sem]) ?_
    refine (catch_idle _ _ _ _ _).mono ?_
    rintro e u' w'' ⟨rfl, rfl, rfl⟩
    have hG : G3 (((w1.setCell ⟨w.heap.size + 1, 0, none⟩ (.string (bs x))).setCell ⟨w.heap.size + 1 + 1, 0, none⟩ (.int .i64 0)).setCell ⟨w.heap.size + 1 + 2, 0, none⟩ (.int .i64 0)) (w.heap.size + 1) (bs x) 0 0 := HG1.out.set (bs x) 0 0
    have HB := ((HB1.out.setCell (p := ⟨w.heap.size + 1, 0, none⟩) (Nat.le_add_right _ _) (.string (bs x))).setCell (p := ⟨w.heap.size + 1 + 1, 0, none⟩) (Nat.le_trans (Nat.le_succ _) (Nat.le_succ _)) (.int .i64 0)).setCell (p := ⟨w.heap.size + 1 + 2, 0, none⟩) (Nat.le_trans (Nat.le_succ _) (Nat.le_add_right _ _)) (.int .i64 0)
    generalize ((w1.setCell ⟨w.heap.size + 1, 0, none⟩ (.string (bs x))).setCell ⟨w.heap.size + 1 + 1, 0, none⟩ (.int .i64 0)).setCell ⟨w.heap.size + 1 + 2, 0, none⟩ (.int .i64 0) = w2 at *
    have c0 := blk_cell hG.h0
    have c1 := blk_cell hG.h1
    have c2 := blk_cell hG.h2
    simp [Leaves, settle, results, Tryz.results30, go_sem, c0, c1, c2]
    exact ⟨HB, .inr ⟨x, HR.out, rfl⟩⟩
end Go.Proofs.YtbdffcjganlblaaGreatDoor
