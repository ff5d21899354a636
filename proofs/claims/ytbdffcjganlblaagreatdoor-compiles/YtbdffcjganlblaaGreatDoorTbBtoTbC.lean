/-
  Own work. The program's tables: a frame.
-/
import Derived.Test.YtbdffcjganlblaaGreatDoorPnCtoTbA
import Derived.Deep.DeepCutAuto
namespace Go.Proofs.YtbdffcjganlblaaGreatDoor
open Go.RowKit
set_option linter.unusedVariables false
set_option linter.unusedSimpArgs false

def slP (s : Sl) : List Value := [.int .u8 s.nm.toNat, .int .i64 s.job, .int .i64 s.bud]
def slPs (f : List Sl) : List Value := f.flatMap slP
theorem Tryz.infoPSl : (Tryz.prog.info? 106).map (fun i => (i.zero, i.size, i.bytes)) = some (some (.agg #[.int .u8 0, .int .i64 0, .int .i64 0]), 3, 24) := by kernel_rfl

/-- The memory of takeFrame. -/
structure FW (er : Nat) (w wk : World) (b : Nat) (s : ByteArray) (i : Nat) (v : Value) (n : Nat) (xs : List Value) : Prop where
  rs : RS er wk b s i
  ow : wk.ownsRow w.heap.size 106 3 v n xs
  g : w.grownBy wk (some b)
  hb : b < w.heap.size
section
variable {w wk : World} {b : Nat} {s : ByteArray} {i : Nat} {er : Nat} {v : Value} {n : Nat} {xs : List Value}
theorem FW.call (h : FW er w wk b s i v n xs) {w' : World} {i' : Nat} (p : RS er w' b s i') (g : wk.grownBy w' (some b)) : FW er w w' b s i' v n xs :=
  ⟨p, h.ow.kept g (.inr (own_ge h.ow h.hb)), grownBy_trans h.g g, h.hb⟩
theorem FW.push (h : FW er w wk b s i v n xs) {o : Obj} {w2 : World} {v' : Value} {news : List Value} {m : Nat} (hg : (wk.alloc o).grownBy w2 v.ownBlock) (hown : w2.ownsRow w.heap.size 106 3 v' m news) : FW er w w2 b s i v' m news := by
  have hb := h.hb
  have hsz := h.g.size
  refine ⟨h.rs.keep ?_, hown, ?_, hb⟩
  · rw [hg.block b (by simp; omega) (fun e => own_ge h.ow hb e.symm), Below.heap_alloc _ _ _ (by omega)]
  · have ha := grownBy_alloc' h.g o
    refine ⟨hg.os.trans ha.os, hg.tape.trans ha.tape, hg.output.trans ha.output, Nat.le_trans ha.size hg.size, fun k hk hne => ?_⟩
    rw [hg.block k (by simp; omega) (fun e => own_ge h.ow hk e.symm)]
    exact ha.block k hk hne

end
end Go.Proofs.YtbdffcjganlblaaGreatDoor

namespace Go.Proofs.YtbdffcjganlblaaGreatDoor
open Go.RowKit
set_option linter.unusedVariables false
set_option linter.unusedSimpArgs false

theorem Tryz.infoPFr : (Tryz.prog.info? 104).map (fun i => (i.zero, i.size, i.bytes)) = some (some (.slice none 0 0), 1, 24) := by kernel_rfl

section
variable {w wk : World} {b : Nat} {s : ByteArray} {i : Nat} {er : Nat}
end

/-! ### Frames in memory -/
/-- The frames' row and each frame's own. -/
def FrM (w : World) (base : Nat) (fv : Value) (P : List (Value × List Sl)) : Prop :=
  w.ownsRow base 104 1 fv P.length (P.map Prod.fst) ∧ ∀ p ∈ P, w.ownsRow base 106 3 p.1 p.2.length (slPs p.2)
theorem FrM.nil (w : World) (base : Nat) : FrM w base (.slice none 0 0) [] := ⟨World.ownsRow_nil _ _ _ _, fun p hp => by simp at hp⟩
theorem FrM.kept {w w' : World} {base : Nat} {fv : Value} {P : List (Value × List Sl)} (h : FrM w base fv P) {row : Option Nat} (g : w.grownBy w' row) (hr : ∀ k, row = some k → k < base ∨ ∃ c ty, w.heap[k]? = some (.cells c ty (0, 0)) ∧ 104 ≠ ty ∧ 106 ≠ ty) : FrM w' base fv P := by
  have key : ∀ {e : TypeId} {size : Nat} {v : Value} {n : Nat} {xs : List Value}, w.ownsRow base e size v n xs → (e = 104 ∨ e = 106) → w'.ownsRow base e size v n xs := by
    intro e size v n xs ho he
    refine ho.kept g ?_
    cases hq : v.ownBlock with
    | none => exact .inl rfl
    | some q =>
      right
      cases hrow : row with
      | none => simp
      | some k =>
        intro hqk
        have hqk : q = k := by simpa using hqk
        subst hqk
        rcases hr q hrow with h1 | ⟨c, ty, h1, h2, h3⟩
        · exact own_ge ho h1 hq
        · rcases he with rfl | rfl
          · exact own_type ho h1 h2 hq
          · exact own_type ho h1 h3 hq
  exact ⟨key h.1 (.inl rfl), fun p hp => key (h.2 p hp) (.inr rfl)⟩
theorem FrM.push {w w2 : World} {base : Nat} {fv fv' v : Value} {P : List (Value × List Sl)} {l : List Sl} (h : FrM w base fv P) (hv : w.ownsRow base 106 3 v l.length (slPs l)) (hg : w.grownBy w2 fv.ownBlock) (hown : w2.ownsRow base 104 1 fv' (P.length + 1) (P.map Prod.fst ++ [v])) : FrM w2 base fv' (P ++ [(v, l)]) := by
  have key : ∀ {v : Value} {n : Nat} {xs : List Value}, w.ownsRow base 106 3 v n xs → w2.ownsRow base 106 3 v n xs := by
    intro v n xs ho
    refine ho.kept hg ?_
    cases hq : v.ownBlock with
    | none => exact .inl rfl
    | some q => exact .inr (fun e => own_apart ho h.1 (by decide) q hq e.symm)
  refine ⟨by simpa using hown, ?_⟩
  intro p hp
  rcases List.mem_append.1 hp with hp | hp
  · exact key (h.2 p hp)
  · simp at hp
    subst hp
    exact key hv

def ptZ : Array Value := #[.int .i64 0, .int .i64 0, .slice none 0 0]
/-- The memory of parseTable. -/
structure TW (w wk : World) (b X : Nat) (s : ByteArray) (i : Nat) (c f : Nat) (fv : Value) (P : List (Value × List Sl)) : Prop where
  rs : RS 8 wk b s i
  hy : wk.heap[w.heap.size]? = some (.cells ptZ 61 (0, 0))
  hx : wk.heap[X]? = some (.cells #[.int .i64 c, .int .i64 f, fv] 61 (0, 0))
  fm : FrM wk (b + 1) fv P
  g : w.grownBy wk none
  h1 : w.heap.size < b
  h2 : b < X
section
variable {w wk : World} {b X : Nat} {s : ByteArray} {i c f : Nat} {fv : Value} {P : List (Value × List Sl)}
theorem TW.call (h : TW w wk b X s i c f fv P) {w' : World} {i' : Nat} (p : RS 8 w' b s i') (g : wk.grownBy w' (some b)) : TW w w' b X s i' c f fv P := by
  have h1 := h.h1
  have h2 := h.h2
  refine ⟨p, ?_, ?_, h.fm.kept g (fun k hk => .inl (by simp at hk; omega)), grownBy_new h.g g (by omega), h1, h2⟩
  · rw [g.block _ (blk_lt h.hy) (by simp; omega)]; exact h.hy
  · rw [g.block _ (blk_lt h.hx) (by simp; omega)]; exact h.hx
theorem TW.cells (h : TW w wk b X s i c f fv P) : wk.cell? ⟨X, 0, none⟩ = some (.int .i64 c) ∧ wk.cell? ⟨X, 1, none⟩ = some (.int .i64 f) ∧ wk.cell? ⟨X, 2, none⟩ = some fv ∧ (∀ o, wk.frozen? ⟨X, o, none⟩ = false) ∧ (∀ o, wk.cell? ⟨w.heap.size, o, none⟩ = #[Value.int .i64 0, .int .i64 0, .slice none 0 0][o]?) ∧ (∀ o, wk.frozen? ⟨w.heap.size, o, none⟩ = false) :=
  ⟨by rw [blk_cell h.hx]; rfl, by rw [blk_cell h.hx]; rfl, by rw [blk_cell h.hx]; rfl, blk_frozen h.hx, blk_cell h.hy, blk_frozen h.hy⟩
theorem TW.set (h : TW w wk b X s i c f fv P) (o : Nat) (v : Value) {c' f' : Nat} (hc : (#[Value.int .i64 c, .int .i64 f, fv].setIfInBounds o v) = #[.int .i64 c', .int .i64 f', fv]) : TW w (wk.setCell ⟨X, o, none⟩ v) b X s i c' f' fv P := by
  have h1 := h.h1
  have h2 := h.h2
  refine ⟨h.rs.set (by omega) o v, ?_, by rw [blk_set h.hx, hc], h.fm.kept (grownBy_set (k := X) (grownBy_refl _ _) o v) (fun k hk => .inr ?_), grownBy_setNew h.g (by omega) o v, h1, h2⟩
  · rw [Below.heap_setCell _ _ _ _ (by show w.heap.size ≠ X; omega)]; exact h.hy
  · simp at hk
    subst hk
    exact ⟨_, _, h.hx, by decide, by decide⟩
theorem TW.grow (h : TW w wk b X s i c f fv P) {o1 : Obj} {w2 : World} (hg : (wk.alloc o1).grownBy w2 fv.ownBlock) : w2.heap[X]? = some (.cells #[.int .i64 c, .int .i64 f, fv] 61 (0, 0)) := by
  have hX := blk_lt h.hx
  rw [hg.block X (by simp; omega) (fun e => own_type h.fm.1 h.hx (by decide) e.symm), Below.heap_alloc _ _ _ hX]
  exact h.hx
theorem TW.push (h : TW w wk b X s i c f fv P) {o1 : Obj} {w2 : World} {v fv' : Value} {l : List Sl} (hv : wk.ownsRow (b + 1) 106 3 v l.length (slPs l)) (hg : (wk.alloc o1).grownBy w2 fv.ownBlock) (hown : w2.ownsRow (b + 1) 104 1 fv' (P.length + 1) (P.map Prod.fst ++ [v])) :
    TW w (w2.setCell ⟨X, 2, none⟩ fv') b X s i c f fv' (P ++ [(v, l)]) := by
  have h1 := h.h1
  have h2 := h.h2
  have hX := blk_lt h.hx
  have hX2 := h.grow hg
  have hlow : ∀ k, k < b + 1 → fv.ownBlock ≠ some k := fun k hk => own_ge h.fm.1 hk
  have hblk : ∀ k, k < b + 1 → w2.heap[k]? = wk.heap[k]? := by
    intro k hk
    rw [hg.block k (by simp; omega) (fun e => hlow k hk e.symm), Below.heap_alloc _ _ _ (by omega)]
  have fm1 : FrM (wk.alloc o1) (b + 1) fv P := h.fm.kept (World.grownBy_alloc wk o1 none) (fun k hk => by simp at hk)
  have fm2 := fm1.push (l := l) (hv.alloc o1) hg hown
  refine ⟨(h.rs.keep (hblk b (by omega))).set (by omega) 2 fv', ?_, ?_, fm2.kept (grownBy_set (k := X) (grownBy_refl _ _) 2 fv') (fun k hk => .inr ?_), ?_, h1, h2⟩
  · rw [Below.heap_setCell _ _ _ _ (by show w.heap.size ≠ X; omega), hblk _ (by omega)]; exact h.hy
  · rw [blk_set hX2]; rfl
  · simp at hk
    subst hk
    exact ⟨_, _, hX2, by decide, by decide⟩
  · have hgw : w.grownBy w2 none := by
      have ha := grownBy_alloc' h.g o1
      refine ⟨hg.os.trans ha.os, hg.tape.trans ha.tape, hg.output.trans ha.output, Nat.le_trans ha.size hg.size, fun k hk hne => ?_⟩
      rw [hg.block k (by have := ha.size; omega) (fun e => hlow k (by omega) e.symm)]
      exact ha.block k hk hne
    exact grownBy_setNew hgw (by omega) _ _
end

end Go.Proofs.YtbdffcjganlblaaGreatDoor
