/-
  Own work. The document's tokens: all of a text.
-/
import Derived.Test.YtbdffcjganlblaaGreatDoorPuretoRefA
import Derived.Deep.QuietTactic
import Derived.BigQuiet
import Derived.RegionTactic
namespace Go.Proofs.YtbdffcjganlblaaGreatDoor
open Go.RowKit
set_option linter.unusedVariables false
set_option linter.unusedSimpArgs false

def allToks (l : List UInt8) : List PT := toks (l.length + 1) l 0
theorem grown_below {w w1 : World} (hb : Below w.heap.size w w1) : w.grownBy w1 none := ⟨hb.os, hb.tape, hb.output, hb.size, fun k hk _ => hb.block k hk⟩
theorem owns_below {w w1 : World} {base : Nat} {e : TypeId} {size : Nat} {v : Value} {n : Nat} {xs : List Value} (h : w.ownsRow base e size v n xs) (hb : Below w.heap.size w w1) : w1.ownsRow base e size v n xs :=
  h.kept (grown_below hb) (by cases h' : v.ownBlock <;> simp)
theorem cells_new (w : World) (c : Array Value) (t : TypeId) (n : Nat) (hn : n = w.heap.size) : ∀ j u, c.toList[j]? = some u → (w.alloc (.cells c t)).cell? ((⟨n, 0, none⟩ : Addr).add j) = some u := by
  intro j u hj
  have e : ((⟨n, 0, none⟩ : Addr).add j) = ⟨n, j, none⟩ := by simp [Addr.add]; intro h; exact h.symm
  rw [e, World.cell?_alloc_at c t n j hn]
  simpa using hj

end Go.Proofs.YtbdffcjganlblaaGreatDoor

namespace Go.Proofs.YtbdffcjganlblaaGreatDoor
open Go.RowKit
set_option linter.unusedVariables false
set_option linter.unusedSimpArgs false

/-- Token number j. -/
def tk (T : List PT) (j : Nat) : PT := T.getD j ⟨101, [], 0⟩

/-- The parser in memory: block b; the tokens' row: block r. -/
structure PS (w : World) (b r cap : Nat) (T : List PT) (i : Nat) (bad : Bool) : Prop where
  c0 : w.cell? ⟨b, 0, none⟩ = some (.slice (some ⟨r, 0, none⟩) T.length cap)
  c1 : w.cell? ⟨b, 1, none⟩ = some (.int .i64 i)
  c2 : w.cell? ⟨b, 2, none⟩ = some (.bool bad)
  f1 : w.frozen? ⟨b, 1, none⟩ = false
  f2 : w.frozen? ⟨b, 2, none⟩ = false
  row : ∀ j : Nat, j < T.length → w.cell? ⟨r, j * 4, none⟩ = some (.int .u8 (tk T j).k) ∧ w.cell? ⟨r, j * 4 + 1, none⟩ = some (.string (bs (tk T j).S)) ∧ w.cell? ⟨r, j * 4 + 2, none⟩ = some (.int .i64 (tk T j).N) ∧ w.cell? ⟨r, j * 4 + 3, none⟩ = some (.int .i64 (tk T j).at_)
  hi : i < T.length
  hn : T.length ≤ 802
  fin : ∀ j : Nat, j < T.length → (tk T j).fin = false → j + 1 < T.length
  ne : r ≠ b
  ltb : b < w.heap.size
  ltr : r < w.heap.size

theorem PS.kept {w w' : World} {b r cap : Nat} {T : List PT} {i : Nat} {bad : Bool} (h : PS w b r cap T i bad) (hb : w'.heap[b]? = w.heap[b]?) (hr : w'.heap[r]? = w.heap[r]?) (hsz : w.heap.size ≤ w'.heap.size) : PS w' b r cap T i bad := by
  have e1 : ∀ o, w'.cell? ⟨b, o, none⟩ = w.cell? ⟨b, o, none⟩ := fun o => World.cell?_of_block (a := ⟨b, o, none⟩) hb
  have e2 : ∀ o, w'.cell? ⟨r, o, none⟩ = w.cell? ⟨r, o, none⟩ := fun o => World.cell?_of_block (a := ⟨r, o, none⟩) hr
  have e3 : ∀ o, w'.frozen? ⟨b, o, none⟩ = w.frozen? ⟨b, o, none⟩ := fun o => World.frozen?_of_block (a := ⟨b, o, none⟩) hb
  exact ⟨by rw [e1]; exact h.c0, by rw [e1]; exact h.c1, by rw [e1]; exact h.c2, by rw [e3]; exact h.f1, by rw [e3]; exact h.f2,
    fun j hj => by rw [e2, e2, e2, e2]; exact h.row j hj, h.hi, h.hn, h.fin, h.ne, by have := h.ltb; omega, by have := h.ltr; omega⟩

theorem PS.grown {w w' : World} {b r cap : Nat} {T : List PT} {i : Nat} {bad : Bool} (h : PS w b r cap T i bad) {row : Option Nat} (hg : w.grownBy w' row) (h1 : row ≠ some b) (h2 : row ≠ some r) : PS w' b r cap T i bad :=
  h.kept (hg.block b h.ltb (fun e => h1 e.symm)) (hg.block r h.ltr (fun e => h2 e.symm)) hg.size

theorem heap_set_size (w : World) (a : Addr) (v : Value) : (w.setCell a v).heap.size = w.heap.size := by simp [World.setCell]

theorem set_same {w : World} {a : Addr} {v u : Value} (h : w.cell? a = some u) : (w.setCell a v).cell? a = some v := by
  apply World.cell?_setCell_same; exact h
theorem set_other {w : World} {a b : Addr} {v : Value} (h : a ≠ b) : (w.setCell a v).cell? b = w.cell? b := by
  apply World.cell?_setCell_other; exact h

theorem PS.next {w : World} {b r cap : Nat} {T : List PT} {i : Nat} {bad : Bool} (h : PS w b r cap T i bad) (hi : i + 1 < T.length) : PS (w.setCell ⟨b, 1, none⟩ (.int .i64 ((i + 1 : Nat) : Int))) b r cap T (i + 1) bad := by
  have hne := h.ne
  refine ⟨?_, set_same h.c1, ?_, by simpa using h.f1, by simpa using h.f2, ?_, hi, h.hn, h.fin, h.ne, by rw [heap_set_size]; exact h.ltb, by rw [heap_set_size]; exact h.ltr⟩
  · rw [set_other (by simp)]; exact h.c0
  · rw [set_other (by simp)]; exact h.c2
  · intro j hj
    have hne' : b ≠ r := fun e => hne e.symm
    rw [set_other (by simp [hne']), set_other (by simp [hne']), set_other (by simp [hne']), set_other (by simp [hne'])]
    exact h.row j hj

theorem PS.drewN {w : World} {b r cap : Nat} {T : List PT} {i : Nat} {bad : Bool} (h : PS w b r cap T i bad) (n : Nat) : PS (w.drewN n) b r cap T i bad :=
  h.kept rfl rfl (Nat.le_refl _)

theorem grownBy_refl (w : World) (row : Option Nat) : w.grownBy w row := ⟨rfl, rfl, rfl, Nat.le_refl _, fun _ _ _ => rfl⟩
theorem grownBy_trans {a b c : World} {row : Option Nat} (h : a.grownBy b row) (k : b.grownBy c row) : a.grownBy c row :=
  ⟨k.os.trans h.os, k.tape.trans h.tape, k.output.trans h.output, Nat.le_trans h.size k.size, fun i hi hne => (k.block i (Nat.lt_of_lt_of_le hi h.size) hne).trans (h.block i hi hne)⟩
theorem grownBy_drewN {a b : World} {row : Option Nat} (h : a.grownBy b row) (n : Nat) : a.grownBy (b.drewN n) row :=
  grownBy_trans h ⟨rfl, rfl, rfl, Nat.le_refl _, fun _ _ _ => rfl⟩
theorem grownBy_drew {a b : World} {row : Option Nat} (h : a.grownBy b row) : a.grownBy b.drew row :=
  grownBy_trans h ⟨rfl, rfl, rfl, Nat.le_refl _, fun _ _ _ => rfl⟩
theorem grownBy_set {a b : World} {k : Nat} (h : a.grownBy b (some k)) (o : Nat) (v : Value) : a.grownBy (b.setCell ⟨k, o, none⟩ v) (some k) :=
  grownBy_trans h ⟨rfl, rfl, rfl, by rw [heap_set_size]; exact Nat.le_refl _, fun i _ hne => Below.heap_setCell _ _ _ _ (by intro e; exact hne (by rw [e]))⟩
/-- A store into a block that was not there yet. -/
theorem grownBy_setNew {a b : World} {row : Option Nat} (h : a.grownBy b row) {k : Nat} (hk : a.heap.size ≤ k) (o : Nat) (v : Value) : a.grownBy (b.setCell ⟨k, o, none⟩ v) row :=
  ⟨h.os, h.tape, h.output, by rw [heap_set_size]; exact h.size, fun i hi hne => by rw [Below.heap_setCell _ _ _ _ (by show i ≠ k; omega)]; exact h.block i hi hne⟩
theorem grownBy_alloc' {a b : World} {row : Option Nat} (h : a.grownBy b row) (o : Obj) : a.grownBy (b.alloc o) row := grownBy_trans h (World.grownBy_alloc b o row)
theorem grownBy_none {a b : World} {row : Option Nat} (h : a.grownBy b none) : a.grownBy b row := ⟨h.os, h.tape, h.output, h.size, fun k hk _ => h.block k hk (by simp)⟩
/-- What was written was new to the caller. -/
theorem grownBy_new {a b c : World} {row : Option Nat} (h : a.grownBy b row) {k : Nat} (g : b.grownBy c (some k)) (hk : a.heap.size ≤ k) : a.grownBy c row :=
  ⟨g.os.trans h.os, g.tape.trans h.tape, g.output.trans h.output, Nat.le_trans h.size g.size, fun i hi hne => by rw [g.block i (Nat.lt_of_lt_of_le hi h.size) (by intro e; injection e with e; omega)]; exact h.block i hi hne⟩
theorem below_grown {w w' : World} (h : w.grownBy w' none) : Below w.heap.size w w' := ⟨h.os, h.tape, h.output, h.size, fun k hk => h.block k hk (by simp)⟩

section
variable {w : World} {b r cap : Nat} {T : List PT} {i : Nat} {bad : Bool}

/-- Does that word stand here? -/
def sees (t : PT) (wd : ByteArray) : Bool := t.k == 119 && ((bs t.S).toList == wd.toList)

end
end Go.Proofs.YtbdffcjganlblaaGreatDoor

namespace Go.Proofs.YtbdffcjganlblaaGreatDoor
open Go.RowKit
set_option linter.unusedVariables false
set_option linter.unusedSimpArgs false

section
variable {w : World} {b r cap : Nat} {T : List PT} {i : Nat} {bad : Bool}

theorem PS.alloc (h : PS w b r cap T i bad) (o : Obj) : PS (w.alloc o) b r cap T i bad := h.grown (World.grownBy_alloc w o none) (by simp) (by simp)
theorem PS.drew (h : PS w b r cap T i bad) : PS w.drew b r cap T i bad := h.drewN 1

def isName (t : PT) : Bool := t.k == 119 && t.S.length == 1
def nameB (t : PT) : UInt8 := t.S.headD 0

end
end Go.Proofs.YtbdffcjganlblaaGreatDoor
