/-
  Own work. The document's parser: a pair.
-/
import Derived.Test.YtbdffcjganlblaaGreatDoorRefD
namespace Go.Proofs.YtbdffcjganlblaaGreatDoor
open Go.RowKit
set_option linter.unusedVariables false
set_option linter.unusedSimpArgs false

theorem blk_set {w : World} {X : Nat} {c : Array Value} {ty : TypeId} (h : w.heap[X]? = some (.cells c ty (0, 0))) (o : Nat) (v : Value) : (w.setCell ⟨X, o, none⟩ v).heap[X]? = some (.cells (c.setIfInBounds o v) ty (0, 0)) := by
  simp only [World.setCell, Array.getElem?_modify, if_true, h]
  simp
theorem blk_cell {w : World} {X : Nat} {c : Array Value} {ty : TypeId} (h : w.heap[X]? = some (.cells c ty (0, 0))) (o : Nat) : w.cell? ⟨X, o, none⟩ = c[o]? := by
  simp [World.cell?, h]
theorem blk_frozen {w : World} {X : Nat} {c : Array Value} {ty : TypeId} (h : w.heap[X]? = some (.cells c ty (0, 0))) (o : Nat) : w.frozen? ⟨X, o, none⟩ = false := by
  simp [World.frozen?, h]
theorem blk_new (w : World) (c : Array Value) (ty : TypeId) : (w.alloc (.cells c ty)).heap[w.heap.size]? = some (.cells c ty (0, 0)) := by
  show (w.heap.push _)[w.heap.size]? = _
  simp
theorem blk_lt {w : World} {X : Nat} {o : Obj} (h : w.heap[X]? = some o) : X < w.heap.size := by
  rcases Nat.lt_or_ge X w.heap.size with h1 | h1
  · exact h1
  · rw [Array.getElem?_eq_none h1] at h; simp at h

/-- In the midst of a parser's method that fills a new struct: block w.heap.size the result, the next one the local. -/
structure St (w wk : World) (ty : TypeId) (c d : Array Value) (b r cap : Nat) (T : List PT) (i : Nat) (bad : Bool) : Prop where
  ps : PS wk b r cap T i bad
  hx : wk.heap[w.heap.size + 1]? = some (.cells c ty (0, 0))
  hy : wk.heap[w.heap.size]? = some (.cells d ty (0, 0))
  g : w.grownBy wk (some b)
  hb : b < w.heap.size
  hr : r < w.heap.size

section
variable {w wk : World} {ty : TypeId} {c d : Array Value} {b r cap : Nat} {T : List PT} {i : Nat} {bad : Bool}

theorem St.start (h : PS w b r cap T i bad) (ty : TypeId) (c d : Array Value) : St w ((w.alloc (.cells d ty)).alloc (.cells c ty)) ty c d b r cap T i bad :=
  ⟨(h.alloc _).alloc _, by simpa using blk_new (w.alloc (.cells d ty)) c ty,
    by rw [Below.heap_alloc _ _ _ (by simp)]; exact blk_new w d ty, grownBy_alloc' (World.grownBy_alloc _ _ _) _, h.ltb, h.ltr⟩
theorem St.drewN (h : St w wk ty c d b r cap T i bad) (n : Nat) : St w (wk.drewN n) ty c d b r cap T i bad :=
  ⟨h.ps.drewN n, h.hx, h.hy, grownBy_drewN h.g n, h.hb, h.hr⟩
theorem PS.setOther {w : World} {X : Nat} (h : PS w b r cap T i bad) (h1 : X ≠ b) (h2 : X ≠ r) (o : Nat) (v : Value) : PS (w.setCell ⟨X, o, none⟩ v) b r cap T i bad :=
  h.kept (Below.heap_setCell _ _ _ _ (fun e => h1 e.symm)) (Below.heap_setCell _ _ _ _ (fun e => h2 e.symm)) (by rw [heap_set_size]; exact Nat.le_refl _)
theorem St.set (h : St w wk ty c d b r cap T i bad) (o : Nat) (v : Value) {c' : Array Value} (hc : c.setIfInBounds o v = c') : St w (wk.setCell ⟨w.heap.size + 1, o, none⟩ v) ty c' d b r cap T i bad := by
  have hb := h.hb
  have hr := h.hr
  refine ⟨h.ps.setOther (by omega) (by omega) o v, ?_, ?_, grownBy_setNew h.g (by omega) o v, hb, hr⟩
  · rw [blk_set h.hx o v, hc]
  · rw [Below.heap_setCell _ _ _ _ (by show w.heap.size ≠ w.heap.size + 1; omega)]; exact h.hy
theorem St.call {w' : World} {i' : Nat} {bad' : Bool} (h : St w wk ty c d b r cap T i bad) (p : PS w' b r cap T i' bad') (g : wk.grownBy w' (some b)) : St w w' ty c d b r cap T i' bad' := by
  have hb := h.hb
  exact ⟨p, by rw [g.block _ (blk_lt h.hx) (by simp; omega)]; exact h.hx, by rw [g.block _ (blk_lt h.hy) (by simp; omega)]; exact h.hy, grownBy_trans h.g g, hb, h.hr⟩
theorem St.cells (h : St w wk ty c d b r cap T i bad) : (∀ o, wk.cell? ⟨w.heap.size + 1, o, none⟩ = c[o]?) ∧ (∀ o, wk.frozen? ⟨w.heap.size + 1, o, none⟩ = false) ∧ (∀ o, wk.cell? ⟨w.heap.size, o, none⟩ = d[o]?) ∧ (∀ o, wk.frozen? ⟨w.heap.size, o, none⟩ = false) :=
  ⟨blk_cell h.hx, blk_frozen h.hx, blk_cell h.hy, blk_frozen h.hy⟩


theorem rplace_ex (h : PS w b r cap T i bad) :
    Calls Tryz.prog 130 #[.pointer (some ⟨b, 0, none⟩)] w fun e w' => ∃ v : Nat, e = .returned (.int .i64 v) ∧ PS w' b r cap T i bad ∧ w.grownBy w' (some b) ∧ Hid (v = (tk T i).at_) := by
  refine (rplace_any h).mono ?_
  rintro e w' ⟨rfl, n, rfl⟩
  exact ⟨_, rfl, h.drewN n, grownBy_drewN (grownBy_refl _ _) _, rfl⟩

def NameR (T : List PT) (i : Nat) (bad : Bool) (v i' : Nat) (bad' : Bool) : Prop :=
  if (!bad && isName (tk T i)) = true then v = (nameB (tk T i)).toNat ∧ i' = i + 1 ∧ bad' = false else i' = i ∧ bad' = true
theorem rname_ex (h : PS w b r cap T i bad) :
    Calls Tryz.prog 80 #[.pointer (some ⟨b, 0, none⟩)] w fun e w' => ∃ (v i' : Nat) (bad' : Bool), e = .returned (.int .u8 v) ∧ PS w' b r cap T i' bad' ∧ w.grownBy w' (some b) ∧ Hid (NameR T i bad v i' bad') := by
  refine (rname_any h).mono ?_
  rintro e w' ⟨rfl, hp, hg⟩
  unfold Hid NameR
  cases hc : (!bad && isName (tk T i))
  · rw [hc] at hp
    refine ⟨0, _, _, rfl, hp, hg, ?_⟩
    cases bad <;> cases hq : isName (tk T i) <;> simp_all
  · rw [hc] at hp
    refine ⟨_, _, _, rfl, hp, hg, ?_⟩
    cases bad <;> cases hq : isName (tk T i) <;> simp_all

def NumR (T : List PT) (i : Nat) (bad : Bool) (v i' : Nat) (bad' : Bool) : Prop :=
  if (!bad && (tk T i).k == 110) = true then v = (tk T i).N ∧ i' = i + 1 ∧ bad' = false else v = 0 ∧ i' = i ∧ bad' = true
theorem rnumber_ex (h : PS w b r cap T i bad) :
    Calls Tryz.prog 42 #[.pointer (some ⟨b, 0, none⟩)] w fun e w' => ∃ (v i' : Nat) (bad' : Bool), e = .returned (.int .i64 v) ∧ PS w' b r cap T i' bad' ∧ w.grownBy w' (some b) ∧ Hid (NumR T i bad v i' bad') := by
  refine (rnumber_any h).mono ?_
  rintro e w' ⟨rfl, hp, hg⟩
  unfold Hid NumR
  cases hc : (!bad && (tk T i).k == 110)
  · rw [hc] at hp
    refine ⟨0, _, _, rfl, hp, hg, ?_⟩
    cases bad <;> cases hq : ((tk T i).k == 110) <;> simp_all
  · rw [hc] at hp
    refine ⟨_, _, _, rfl, hp, hg, ?_⟩
    cases bad <;> cases hq : ((tk T i).k == 110) <;> simp_all

def GoesR (ok bad : Bool) (i i' : Nat) (bad' : Bool) : Prop :=
  if (!bad && ok) = true then i' = i + 1 ∧ bad' = false else i' = i ∧ bad' = true
theorem rmark_ex (h : PS w b r cap T i bad) (c : Nat) (hc : c ≠ 101 ∧ c ≠ 120) :
    Calls Tryz.prog 43 #[.pointer (some ⟨b, 0, none⟩), .int .u8 c] w fun e w' => ∃ (i' : Nat) (bad' : Bool), e = .returned (.tuple #[]) ∧ PS w' b r cap T i' bad' ∧ w.grownBy w' (some b) ∧ Hid (GoesR ((tk T i).k == c) bad i i' bad') := by
  refine (rmark_any h c hc).mono ?_
  rintro e w' ⟨rfl, hp, hg⟩
  refine ⟨_, _, rfl, hp, hg, ?_⟩
  unfold Hid GoesR
  cases bad <;> cases hq : ((tk T i).k == c) <;> simp
theorem rmust_ex (h : PS w b r cap T i bad) (wd : ByteArray) :
    Calls Tryz.prog 41 #[.pointer (some ⟨b, 0, none⟩), .string wd] w fun e w' => ∃ (i' : Nat) (bad' : Bool), e = .returned (.tuple #[]) ∧ PS w' b r cap T i' bad' ∧ w.grownBy w' (some b) ∧ Hid (GoesR (sees (tk T i) wd) bad i i' bad') := by
  refine (rmust_any h wd).mono ?_
  rintro e w' ⟨rfl, hp, hg⟩
  refine ⟨_, _, rfl, hp, hg, ?_⟩
  unfold Hid GoesR
  cases bad <;> cases hq : sees (tk T i) wd <;> simp
theorem rword_ex (h : PS w b r cap T i bad) (wd : ByteArray) :
    Calls Tryz.prog 78 #[.pointer (some ⟨b, 0, none⟩), .string wd] w fun e w' => ∃ (i' : Nat) (ok : Bool), e = .returned (.bool ok) ∧ PS w' b r cap T i' bad ∧ w.grownBy w' (some b) ∧ Hid (ok = (!bad && sees (tk T i) wd) ∧ i' = if ok then i + 1 else i) := by
  refine (rword_any h wd).mono ?_
  rintro e w' ⟨rfl, hp, hg⟩
  exact ⟨_, _, rfl, hp, hg, rfl, rfl⟩

/-- A pair, with its places. -/
structure Pr where
  a : UInt8
  b : UInt8
  ap : Bool
  q0 : Nat
  q1 : Nat

def pPair (T : List PT) (ap : Bool) (i : Nat) : Except Nat (Pr × Nat) :=
  if isName (tk T i) then
    if isName (tk T (i + 1)) then
      if (tk T (i + 2)).k == 59 then .ok (⟨nameB (tk T i), nameB (tk T (i + 1)), ap, (tk T i).at_, (tk T (i + 1)).at_⟩, i + 3) else .error (i + 2)
    else .error (i + 1)
  else .error i

def prRaw (a c : Nat) (ap : Bool) (q0 q1 : Nat) : Value := .agg #[.int .u8 a, .int .u8 c, .bool ap, .int .i64 q0, .int .i64 q1]
def prV (p : Pr) : Value := prRaw p.a.toNat p.b.toNat p.ap p.q0 p.q1

theorem pair_chain {T : List PT} {ap : Bool} {i a i1 c i2 i3 : Nat} {b1 b2 b3 : Bool} (h1 : NameR T i false a i1 b1) (h2 : NameR T i1 b1 c i2 b2) (h3 : GoesR ((tk T i2).k == 59) b2 i2 i3 b3) :
    (b3 = true ∧ pPair T ap i = .error i3) ∨ (b3 = false ∧ ∃ p, pPair T ap i = .ok (p, i3) ∧ a = p.a.toNat ∧ c = p.b.toNat ∧ p.ap = ap ∧ p.q0 = (tk T i).at_ ∧ p.q1 = (tk T i1).at_) := by
  unfold NameR at h1 h2
  unfold GoesR at h3
  unfold pPair
  cases hn1 : isName (tk T i)
  · rw [hn1] at h1
    simp at h1
    obtain ⟨rfl, rfl⟩ := h1
    simp at h2
    obtain ⟨rfl, rfl⟩ := h2
    simp at h3
    obtain ⟨rfl, rfl⟩ := h3
    simp
  · rw [hn1] at h1
    simp at h1
    obtain ⟨rfl, rfl, rfl⟩ := h1
    cases hn2 : isName (tk T (i + 1))
    · rw [hn2] at h2
      simp at h2
      obtain ⟨rfl, rfl⟩ := h2
      simp at h3
      obtain ⟨rfl, rfl⟩ := h3
      simp
    · rw [hn2] at h2
      simp at h2
      obtain ⟨rfl, rfl, rfl⟩ := h2
      cases hn3 : ((tk T (i + 1 + 1)).k == 59)
      · rw [hn3] at h3
        simp at h3
        obtain ⟨rfl, rfl⟩ := h3
        simp [hn3]
      · rw [hn3] at h3
        simp at h3
        obtain ⟨rfl, rfl⟩ := h3
        simp [hn3]

set_option maxRecDepth 100000 in
set_option maxHeartbeats 1000000 in
theorem rpair_any (h : PS w b r cap T i false) (apart : Bool) :
    Calls Tryz.prog 88 #[.pointer (some ⟨b, 0, none⟩), .bool apart] w fun e w' =>
      ∃ (a c q0 q1 i' : Nat) (bad' : Bool), e = .returned (prRaw a c apart q0 q1) ∧ PS w' b r cap T i' bad' ∧ w.grownBy w' (some b) ∧
        ((bad' = true ∧ pPair T apart i = .error i') ∨ (bad' = false ∧ ∃ p, pPair T apart i = .ok (p, i') ∧ prRaw a c apart q0 q1 = prV p)) := by
  have S0 := St.start h 133 #[.int .u8 0, .int .u8 0, .bool apart, .int .i64 0, .int .i64 0] #[.int .u8 0, .int .u8 0, .bool false, .int .i64 0, .int .i64 0]
  clear h
  go_enter Tryz.func88, Tryz.ntmps88
  go_wp2_with fail
  refine (rplace_ex S0.ps).mono ?_
  rintro e w1 ⟨q0, rfl, p, g, hq0⟩
  have S1 := S0.call p g
  obtain ⟨x1, x2, x3, x4⟩ := S1.cells
  clear p g S0
  go_wp2_with fail
  have S1 := S1.set 3 (.int .i64 q0) (c' := #[.int .u8 0, .int .u8 0, .bool apart, .int .i64 q0, .int .i64 0]) rfl
  clear x1 x2 x3 x4
  refine (rname_ex S1.ps).mono ?_
  rintro e w2 ⟨a, i1, b1, rfl, p, g, ha⟩
  have S2 := S1.call p g
  obtain ⟨x1, x2, x3, x4⟩ := S2.cells
  clear p g S1
  go_wp2_with fail
  have S2 := S2.set 0 (.int .u8 a) (c' := #[.int .u8 a, .int .u8 0, .bool apart, .int .i64 q0, .int .i64 0]) rfl
  clear x1 x2 x3 x4
  refine (rplace_ex S2.ps).mono ?_
  rintro e w3 ⟨q1, rfl, p, g, hq1⟩
  have S3 := S2.call p g
  obtain ⟨x1, x2, x3, x4⟩ := S3.cells
  clear p g S2
  go_wp2_with fail
  have S3 := S3.set 4 (.int .i64 q1) (c' := #[.int .u8 a, .int .u8 0, .bool apart, .int .i64 q0, .int .i64 q1]) rfl
  clear x1 x2 x3 x4
  refine (rname_ex S3.ps).mono ?_
  rintro e w4 ⟨c, i2, b2, rfl, p, g, hc⟩
  have S4 := S3.call p g
  obtain ⟨x1, x2, x3, x4⟩ := S4.cells
  clear p g S3
  go_wp2_with fail
  have S4 := S4.set 1 (.int .u8 c) (c' := #[.int .u8 a, .int .u8 c, .bool apart, .int .i64 q0, .int .i64 q1]) rfl
  clear x1 x2 x3 x4
  refine (rmark_ex S4.ps 59 (by decide)).mono ?_
  rintro e w5 ⟨i3, b3, rfl, p, g, hm⟩
  have S5 := S4.call p g
  obtain ⟨x1, x2, x3, x4⟩ := S5.cells
  clear p g S4
  go_wp2
  have hbb := S5.hb
  have hrr := S5.hr
  refine bodyPost_ret (v := prRaw a c apart q0 q1) (by simp [results, Tryz.results88, go_sem, x3, prRaw]) rfl ⟨a, c, q0, q1, i3, b3, rfl, ?_, ?_, ?_⟩
  · have Y : ∀ (wz : World) (o : Nat) (v : Value), PS wz b r cap T i3 b3 → PS (wz.setCell ⟨w.heap.size, o, none⟩ v) b r cap T i3 b3 := fun wz o v hz => hz.setOther (by omega) (by omega) o v
    exact Y _ _ _ (Y _ _ _ (Y _ _ _ (Y _ _ _ (Y _ _ _ S5.ps))))
  · have Y : ∀ (wz : World) (o : Nat) (v : Value), w.grownBy wz (some b) → w.grownBy (wz.setCell ⟨w.heap.size, o, none⟩ v) (some b) := fun wz o v hz => grownBy_setNew hz (Nat.le_refl _) o v
    exact Y _ _ _ (Y _ _ _ (Y _ _ _ (Y _ _ _ (Y _ _ _ S5.g))))
  · rcases pair_chain (ap := apart) ha.out hc.out hm.out with ⟨h1, h2⟩ | ⟨h1, p, h2, h3, h4, h5, h6, h7⟩
    · exact .inl ⟨h1, h2⟩
    · refine .inr ⟨h1, p, h2, ?_⟩
      unfold prV
      rw [h3, h4, h5, h6, h7, hq0.out, hq1.out]
end
end Go.Proofs.YtbdffcjganlblaaGreatDoor
