/-
  Own work. The document's parser: its small methods.
-/
import Derived.Test.YtbdffcjganlblaaGreatDoorRefB
import Derived.Deep.QuietTactic
import Derived.BigQuiet
import Derived.RegionTactic
namespace Go.Proofs.YtbdffcjganlblaaGreatDoor
open Go.RowKit
set_option linter.unusedVariables false
set_option linter.unusedSimpArgs false

/-- Token number j. -/
def tk (T : List PT) (j : Nat) : PT := T.getD j ⟨101, [], 0⟩

/-- The parser in memory: block b; the tokens' row: block r. -/
structure PS (w : World) (b r cap : Nat) (T : List PT) (i : Nat) (bad : Bool) : Prop where
  c0 : w.cell? ⟨b, 0, none⟩ = some (.slice (some ⟨r, 0, none⟩) T.length cap)
  c1 : w.cell? ⟨b, 1, none⟩ = some (.int .i64 i)
  c2 : w.cell? ⟨b, 2, none⟩ = some (.bool bad)
  f1 : w.frozen? ⟨b, 1, none⟩ = false
  f2 : w.frozen? ⟨b, 2, none⟩ = false
  row : ∀ j : Nat, j < T.length → w.cell? ⟨r, j * 4, none⟩ = some (.int .u8 (tk T j).k) ∧ w.cell? ⟨r, j * 4 + 1, none⟩ = some (.string (bs (tk T j).S)) ∧ w.cell? ⟨r, j * 4 + 2, none⟩ = some (.int .i64 (tk T j).N) ∧ w.cell? ⟨r, j * 4 + 3, none⟩ = some (.int .i64 (tk T j).at_)
  hi : i < T.length
  hn : T.length ≤ 802
  fin : ∀ j : Nat, j < T.length → (tk T j).fin = false → j + 1 < T.length
  ne : r ≠ b
  ltb : b < w.heap.size
  ltr : r < w.heap.size

theorem PS.kept {w w' : World} {b r cap : Nat} {T : List PT} {i : Nat} {bad : Bool} (h : PS w b r cap T i bad) (hb : w'.heap[b]? = w.heap[b]?) (hr : w'.heap[r]? = w.heap[r]?) (hsz : w.heap.size ≤ w'.heap.size) : PS w' b r cap T i bad := by
  have e1 : ∀ o, w'.cell? ⟨b, o, none⟩ = w.cell? ⟨b, o, none⟩ := fun o => World.cell?_of_block (a := ⟨b, o, none⟩) hb
  have e2 : ∀ o, w'.cell? ⟨r, o, none⟩ = w.cell? ⟨r, o, none⟩ := fun o => World.cell?_of_block (a := ⟨r, o, none⟩) hr
  have e3 : ∀ o, w'.frozen? ⟨b, o, none⟩ = w.frozen? ⟨b, o, none⟩ := fun o => World.frozen?_of_block (a := ⟨b, o, none⟩) hb
  exact ⟨by rw [e1]; exact h.c0, by rw [e1]; exact h.c1, by rw [e1]; exact h.c2, by rw [e3]; exact h.f1, by rw [e3]; exact h.f2,
    fun j hj => by rw [e2, e2, e2, e2]; exact h.row j hj, h.hi, h.hn, h.fin, h.ne, by have := h.ltb; omega, by have := h.ltr; omega⟩

theorem PS.grown {w w' : World} {b r cap : Nat} {T : List PT} {i : Nat} {bad : Bool} (h : PS w b r cap T i bad) {row : Option Nat} (hg : w.grownBy w' row) (h1 : row ≠ some b) (h2 : row ≠ some r) : PS w' b r cap T i bad :=
  h.kept (hg.block b h.ltb (fun e => h1 e.symm)) (hg.block r h.ltr (fun e => h2 e.symm)) hg.size

theorem heap_set_size (w : World) (a : Addr) (v : Value) : (w.setCell a v).heap.size = w.heap.size := by simp [World.setCell]

theorem set_same {w : World} {a : Addr} {v u : Value} (h : w.cell? a = some u) : (w.setCell a v).cell? a = some v := by
  apply World.cell?_setCell_same; exact h
theorem set_other {w : World} {a b : Addr} {v : Value} (h : a ≠ b) : (w.setCell a v).cell? b = w.cell? b := by
  apply World.cell?_setCell_other; exact h

theorem PS.next {w : World} {b r cap : Nat} {T : List PT} {i : Nat} {bad : Bool} (h : PS w b r cap T i bad) (hi : i + 1 < T.length) : PS (w.setCell ⟨b, 1, none⟩ (.int .i64 ((i + 1 : Nat) : Int))) b r cap T (i + 1) bad := by
  have hne := h.ne
  refine ⟨?_, set_same h.c1, ?_, by simpa using h.f1, by simpa using h.f2, ?_, hi, h.hn, h.fin, h.ne, by rw [heap_set_size]; exact h.ltb, by rw [heap_set_size]; exact h.ltr⟩
  · rw [set_other (by simp)]; exact h.c0
  · rw [set_other (by simp)]; exact h.c2
  · intro j hj
    have hne' : b ≠ r := fun e => hne e.symm
    rw [set_other (by simp [hne']), set_other (by simp [hne']), set_other (by simp [hne']), set_other (by simp [hne'])]
    exact h.row j hj

theorem PS.setBad {w : World} {b r cap : Nat} {T : List PT} {i : Nat} {bad : Bool} (h : PS w b r cap T i bad) (bad' : Bool) : PS (w.setCell ⟨b, 2, none⟩ (.bool bad')) b r cap T i bad' := by
  have hne := h.ne
  refine ⟨?_, ?_, set_same h.c2, by simpa using h.f1, by simpa using h.f2, ?_, h.hi, h.hn, h.fin, h.ne, by rw [heap_set_size]; exact h.ltb, by rw [heap_set_size]; exact h.ltr⟩
  · rw [set_other (by simp)]; exact h.c0
  · rw [set_other (by simp)]; exact h.c1
  · intro j hj
    have hne' : b ≠ r := fun e => hne e.symm
    rw [set_other (by simp [hne']), set_other (by simp [hne']), set_other (by simp [hne']), set_other (by simp [hne'])]
    exact h.row j hj

theorem PS.drewN {w : World} {b r cap : Nat} {T : List PT} {i : Nat} {bad : Bool} (h : PS w b r cap T i bad) (n : Nat) : PS (w.drewN n) b r cap T i bad :=
  h.kept rfl rfl (Nat.le_refl _)

theorem grownBy_refl (w : World) (row : Option Nat) : w.grownBy w row := ⟨rfl, rfl, rfl, Nat.le_refl _, fun _ _ _ => rfl⟩
theorem grownBy_trans {a b c : World} {row : Option Nat} (h : a.grownBy b row) (k : b.grownBy c row) : a.grownBy c row :=
  ⟨k.os.trans h.os, k.tape.trans h.tape, k.output.trans h.output, Nat.le_trans h.size k.size, fun i hi hne => (k.block i (Nat.lt_of_lt_of_le hi h.size) hne).trans (h.block i hi hne)⟩
theorem grownBy_drewN {a b : World} {row : Option Nat} (h : a.grownBy b row) (n : Nat) : a.grownBy (b.drewN n) row :=
  grownBy_trans h ⟨rfl, rfl, rfl, Nat.le_refl _, fun _ _ _ => rfl⟩
theorem grownBy_drew {a b : World} {row : Option Nat} (h : a.grownBy b row) : a.grownBy b.drew row :=
  grownBy_trans h ⟨rfl, rfl, rfl, Nat.le_refl _, fun _ _ _ => rfl⟩
theorem grownBy_set {a b : World} {k : Nat} (h : a.grownBy b (some k)) (o : Nat) (v : Value) : a.grownBy (b.setCell ⟨k, o, none⟩ v) (some k) :=
  grownBy_trans h ⟨rfl, rfl, rfl, by rw [heap_set_size]; exact Nat.le_refl _, fun i _ hne => Below.heap_setCell _ _ _ _ (by intro e; exact hne (by rw [e]))⟩
/-- A store into a block that was not there yet. -/
theorem grownBy_setNew {a b : World} {row : Option Nat} (h : a.grownBy b row) {k : Nat} (hk : a.heap.size ≤ k) (o : Nat) (v : Value) : a.grownBy (b.setCell ⟨k, o, none⟩ v) row :=
  ⟨h.os, h.tape, h.output, by rw [heap_set_size]; exact h.size, fun i hi hne => by rw [Below.heap_setCell _ _ _ _ (by show i ≠ k; omega)]; exact h.block i hi hne⟩
theorem grownBy_alloc' {a b : World} {row : Option Nat} (h : a.grownBy b row) (o : Obj) : a.grownBy (b.alloc o) row := grownBy_trans h (World.grownBy_alloc b o row)
theorem grownBy_none {a b : World} {row : Option Nat} (h : a.grownBy b none) : a.grownBy b row := ⟨h.os, h.tape, h.output, h.size, fun k hk _ => h.block k hk (by simp)⟩
/-- What was written was new to the caller. -/
theorem grownBy_new {a b c : World} {row : Option Nat} (h : a.grownBy b row) {k : Nat} (g : b.grownBy c (some k)) (hk : a.heap.size ≤ k) : a.grownBy c row :=
  ⟨g.os.trans h.os, g.tape.trans h.tape, g.output.trans h.output, Nat.le_trans h.size g.size, fun i hi hne => by rw [g.block i (Nat.lt_of_lt_of_le hi h.size) (by intro e; injection e with e; omega)]; exact h.block i hi hne⟩
theorem below_grown {w w' : World} (h : w.grownBy w' none) : Below w.heap.size w w' := ⟨h.os, h.tape, h.output, h.size, fun k hk => h.block k hk (by simp)⟩

section
variable {w : World} {b r cap : Nat} {T : List PT} {i : Nat} {bad : Bool}

set_option maxRecDepth 100000 in
set_option maxHeartbeats 400000 in
theorem rplace_any (h : PS w b r cap T i bad) :
    Calls Tryz.prog 130 #[.pointer (some ⟨b, 0, none⟩)] w fun e w' => e = .returned (.int .i64 (tk T i).at_) ∧ ∃ n, w' = w.drewN n := by
  have c0 := h.c0
  have c1 := h.c1
  have hi := h.hi
  have hn := h.hn
  obtain ⟨r0, r1, r2, r3⟩ := h.row i hi
  have H := hide h
  clear h
  go_enter Tryz.func130, Tryz.ntmps130
  go_wp2
  go_quiet (fail)
  go_wp2
  go_ret
  exact ⟨rfl, _, rfl⟩

/-- Does that word stand here? -/
def sees (t : PT) (wd : ByteArray) : Bool := t.k == 119 && ((bs t.S).toList == wd.toList)

def WordPost (w : World) (b r cap : Nat) (T : List PT) (i : Nat) (bad : Bool) (wd : ByteArray) (e : Ending) (w' : World) : Prop :=
  e = .returned (.bool (!bad && sees (tk T i) wd)) ∧ PS w' b r cap T (if !bad && sees (tk T i) wd then i + 1 else i) bad ∧ w.grownBy w' (some b)

set_option maxRecDepth 100000 in
set_option maxHeartbeats 400000 in
theorem rword_bad (h : PS w b r cap T i true) (wd : ByteArray) :
    Calls Tryz.prog 78 #[.pointer (some ⟨b, 0, none⟩), .string wd] w (WordPost w b r cap T i true wd) := by
  have c2 := h.c2
  have H := hide h
  clear h
  go_enter Tryz.func78, Tryz.ntmps78
  go_wp2
  go_quiet (fail)
  go_wp2
  go_ret
  exact ⟨rfl, H.out.drewN _, grownBy_drewN (grownBy_refl _ _) _⟩

set_option maxRecDepth 100000 in
set_option maxHeartbeats 400000 in
theorem rword_k (h : PS w b r cap T i false) (wd : ByteArray) (hk : ((tk T i).k == 119) = false) :
    Calls Tryz.prog 78 #[.pointer (some ⟨b, 0, none⟩), .string wd] w (WordPost w b r cap T i false wd) := by
  have c0 := h.c0
  have c1 := h.c1
  have c2 := h.c2
  have hi := h.hi
  have hn := h.hn
  obtain ⟨r0, r1, r2, r3⟩ := h.row i hi
  have hk' : (((tk T i).k : Int) == 119) = false := by simp at hk ⊢; omega
  have hS : Hid (sees (tk T i) wd = false) := by unfold Hid sees; rw [hk]; rfl
  have H := hide h
  clear h hk
  go_enter Tryz.func78, Tryz.ntmps78
  go_wp2
  go_quiet (fail)
  go_wp2
  go_ret
  refine ⟨by rw [hS.out]; rfl, ?_, grownBy_drewN (grownBy_refl _ _) _⟩
  rw [hS.out]
  exact H.out.drewN _

set_option maxRecDepth 100000 in
set_option maxHeartbeats 400000 in
theorem rword_w (h : PS w b r cap T i false) (wd : ByteArray) (hk : ((tk T i).k == 119) = true) :
    Calls Tryz.prog 78 #[.pointer (some ⟨b, 0, none⟩), .string wd] w (WordPost w b r cap T i false wd) := by
  have c0 := h.c0
  have c1 := h.c1
  have c2 := h.c2
  have f1 := h.f1
  have hi := h.hi
  have hn := h.hn
  obtain ⟨r0, r1, r2, r3⟩ := h.row i hi
  have hk' : (((tk T i).k : Int) == 119) = true := by simp at hk ⊢; omega
  have hS : Hid (∀ x, ((bs (tk T i).S).toList == wd.toList) = x → sees (tk T i) wd = x) := by intro x hx; unfold sees; rw [hk, hx]; rfl
  have hfin : Hid (i + 1 < T.length) := h.fin i hi (by simp at hk; simp [PT.fin, hk])
  have H := hide h
  clear h hk
  cases hx : ((bs (tk T i).S).toList == wd.toList)
  · go_enter Tryz.func78, Tryz.ntmps78
    go_wp2
    go_quiet (fail)
    go_wp2
    go_ret
    refine ⟨by rw [hS.out _ hx]; rfl, ?_, grownBy_drewN (grownBy_refl _ _) _⟩
    rw [hS.out _ hx]
    exact H.out.drewN _
  · go_enter Tryz.func78, Tryz.ntmps78
    go_wp2
    go_quiet (fail)
    go_wp2
    go_ret
    refine ⟨by rw [hS.out _ hx]; rfl, ?_, grownBy_set (grownBy_drewN (grownBy_refl _ _) _) _ _⟩
    rw [hS.out _ hx]
    exact (H.out.drewN _).next hfin.out

theorem rword_any (h : PS w b r cap T i bad) (wd : ByteArray) :
    Calls Tryz.prog 78 #[.pointer (some ⟨b, 0, none⟩), .string wd] w (WordPost w b r cap T i bad wd) := by
  cases bad
  · cases hk : ((tk T i).k == 119)
    · exact rword_k h wd hk
    · exact rword_w h wd hk
  · exact rword_bad h wd

def MustPost (w : World) (b r cap : Nat) (T : List PT) (i : Nat) (bad : Bool) (wd : ByteArray) (e : Ending) (w' : World) : Prop :=
  e = .returned (.tuple #[]) ∧ PS w' b r cap T (if !bad && sees (tk T i) wd then i + 1 else i) (bad || !(sees (tk T i) wd)) ∧ w.grownBy w' (some b)

set_option maxRecDepth 100000 in
set_option maxHeartbeats 400000 in
theorem rmust_any (h : PS w b r cap T i bad) (wd : ByteArray) :
    Calls Tryz.prog 41 #[.pointer (some ⟨b, 0, none⟩), .string wd] w (MustPost w b r cap T i bad wd) := by
  go_enter Tryz.func41, Tryz.ntmps41
  go_wp2_with fail
  refine (rword_any h wd).mono ?_
  rintro e w1 ⟨rfl, h1, hg⟩
  have c2 := h1.c2
  have f2 := h1.f2
  have Hg := hide hg
  have H := hide h1
  clear h h1 hg
  unfold MustPost
  cases bad <;> cases hs : sees (tk T i) wd
  all_goals
    have Hs := hide hs
    rw [hs] at H
    clear hs
    simp only [Bool.not_false, Bool.not_true, Bool.true_and, Bool.false_and, Bool.and_self, Bool.and_true, Bool.and_false, if_true, Bool.false_eq_true, if_false] at H ⊢
    go_wp2
    go_end0
    refine ⟨rfl, ?_, grownBy_set Hg.out _ _⟩
    rw [Hs.out]
    exact H.out.setBad _
end
end Go.Proofs.YtbdffcjganlblaaGreatDoor
