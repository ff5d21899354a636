/-
  Own work. The document's parser: number, mark, name.
-/
import Derived.Test.YtbdffcjganlblaaGreatDoorRefAtoRefC
namespace Go.Proofs.YtbdffcjganlblaaGreatDoor
open Go.RowKit
set_option linter.unusedVariables false
set_option linter.unusedSimpArgs false

section
variable {w : World} {b r cap : Nat} {T : List PT} {i : Nat} {bad : Bool}

theorem PS.alloc (h : PS w b r cap T i bad) (o : Obj) : PS (w.alloc o) b r cap T i bad := h.grown (World.grownBy_alloc w o none) (by simp) (by simp)
theorem PS.drew (h : PS w b r cap T i bad) : PS w.drew b r cap T i bad := h.drewN 1

def NumPost (w : World) (b r cap : Nat) (T : List PT) (i : Nat) (bad : Bool) (e : Ending) (w' : World) : Prop :=
  e = .returned (.int .i64 (if !bad && (tk T i).k == 110 then ((tk T i).N : Int) else 0)) ∧ PS w' b r cap T (if !bad && (tk T i).k == 110 then i + 1 else i) (bad || !((tk T i).k == 110)) ∧ w.grownBy w' (some b)

set_option maxRecDepth 100000 in
set_option maxHeartbeats 1000000 in
theorem rnumber_any (h : PS w b r cap T i bad) :
    Calls Tryz.prog 42 #[.pointer (some ⟨b, 0, none⟩)] w (NumPost w b r cap T i bad) := by
  have c0 := h.c0
  have c1 := h.c1
  have c2 := h.c2
  have f1 := h.f1
  have f2 := h.f2
  have hi := h.hi
  have hn := h.hn
  have hlb := h.ltb
  have hlr := h.ltr
  obtain ⟨r0, r1, r2, r3⟩ := h.row i hi
  have hfin : Hid (((tk T i).k == 110) = true → i + 1 < T.length) := fun hk => h.fin i hi (by simp at hk; simp [PT.fin, hk])
  have H := hide h
  clear h
  unfold NumPost
  cases bad
  · cases hk : ((tk T i).k == 110)
    · have hk' : (((tk T i).k : Int) != 110) = true := by simp at hk ⊢; omega
      clear hk
      go_enter Tryz.func42, Tryz.ntmps42
      go_wp2
      go_region
      go_wp2
      go_ret
      exact ⟨rfl, ((H.out.setBad true).alloc _).drew, grownBy_drew (grownBy_alloc' (grownBy_set (grownBy_refl _ _) _ _) _)⟩
    · have hk' : (((tk T i).k : Int) != 110) = false := by simp at hk ⊢; omega
      have hf := hide (hfin.out hk)
      clear hk
      go_enter Tryz.func42, Tryz.ntmps42
      go_wp2
      go_region
      go_wp2
      go_ret
      exact ⟨rfl, ((H.out.next hf.out).alloc _).drew, grownBy_drew (grownBy_alloc' (grownBy_set (grownBy_refl _ _) _ _) _)⟩
  · go_enter Tryz.func42, Tryz.ntmps42
    go_wp2
    go_region
    go_wp2
    go_ret
    exact ⟨rfl, ((H.out.setBad true).alloc _).drew, grownBy_drew (grownBy_alloc' (grownBy_set (grownBy_refl _ _) _ _) _)⟩

def isName (t : PT) : Bool := t.k == 119 && t.S.length == 1
def nameB (t : PT) : UInt8 := t.S.headD 0

def NamePost (w : World) (b r cap : Nat) (T : List PT) (i : Nat) (bad : Bool) (e : Ending) (w' : World) : Prop :=
  e = .returned (.int .u8 (if !bad && isName (tk T i) then ((nameB (tk T i)).toNat : Int) else 0)) ∧ PS w' b r cap T (if !bad && isName (tk T i) then i + 1 else i) (bad || !(isName (tk T i))) ∧ w.grownBy w' (some b)

set_option maxRecDepth 100000 in
set_option maxHeartbeats 1000000 in
theorem rname_any (h : PS w b r cap T i bad) :
    Calls Tryz.prog 80 #[.pointer (some ⟨b, 0, none⟩)] w (NamePost w b r cap T i bad) := by
  have c0 := h.c0
  have c1 := h.c1
  have c2 := h.c2
  have f1 := h.f1
  have f2 := h.f2
  have hi := h.hi
  have hn := h.hn
  have hlb := h.ltb
  have hlr := h.ltr
  obtain ⟨r0, r1, r2, r3⟩ := h.row i hi
  have hfin : Hid (((tk T i).k == 119) = true → i + 1 < T.length) := fun hk => h.fin i hi (by simp at hk; simp [PT.fin, hk])
  have H := hide h
  clear h
  unfold NamePost
  cases bad
  · cases hk : ((tk T i).k == 119)
    · have hk' : (((tk T i).k : Int) != 119) = true := by simp at hk ⊢; omega
      have hN : isName (tk T i) = false := by unfold isName; rw [hk]; rfl
      rw [hN]
      clear hk hN
      go_enter Tryz.func80, Tryz.ntmps80
      go_wp2
      go_region
      go_wp2
      go_ret
      exact ⟨rfl, ((H.out.setBad true).alloc _).drew, grownBy_drew (grownBy_alloc' (grownBy_set (grownBy_refl _ _) _ _) _)⟩
    · have hk' : (((tk T i).k : Int) != 119) = false := by simp at hk ⊢; omega
      have hf := hide (hfin.out hk)
      cases hl : ((tk T i).S.length == 1)
      · have hN : isName (tk T i) = false := by unfold isName; rw [hl]; simp
        have hl' : (((bs (tk T i).S).size : Int) != 1) = true := by rw [bs_size]; simp at hl ⊢; omega
        rw [hN]
        clear hk hN hl
        go_enter Tryz.func80, Tryz.ntmps80
        go_wp2
        go_region
        go_wp2
        go_ret
        exact ⟨rfl, ((H.out.setBad true).alloc _).drew, grownBy_drew (grownBy_alloc' (grownBy_set (grownBy_refl _ _) _ _) _)⟩
      · have hN : isName (tk T i) = true := by unfold isName; rw [hl, hk]; rfl
        obtain ⟨c, hc⟩ : ∃ c, (tk T i).S = [c] := List.length_eq_one_iff.1 (by simpa using hl)
        have hB : nameB (tk T i) = c := by unfold nameB; rw [hc]; rfl
        rw [hN, hB]
        have r1' : w.cell? ⟨r, i * 4 + 1, none⟩ = some (.string ⟨#[c]⟩) := by rw [r1, hc]; rfl
        clear hk hN hl hB r1 hc
        go_enter Tryz.func80, Tryz.ntmps80
        go_wp2
        go_region
        go_wp2
        go_ret
        exact ⟨rfl, ((H.out.next hf.out).alloc _).drew, grownBy_drew (grownBy_alloc' (grownBy_set (grownBy_refl _ _) _ _) _)⟩
  · go_enter Tryz.func80, Tryz.ntmps80
    go_wp2
    go_region
    go_wp2
    go_ret
    exact ⟨rfl, ((H.out.setBad true).alloc _).drew, grownBy_drew (grownBy_alloc' (grownBy_set (grownBy_refl _ _) _ _) _)⟩

def MarkPost (w : World) (b r cap : Nat) (T : List PT) (i : Nat) (bad : Bool) (c : Nat) (e : Ending) (w' : World) : Prop :=
  e = .returned (.tuple #[]) ∧ PS w' b r cap T (if !bad && (tk T i).k == c then i + 1 else i) (bad || !((tk T i).k == c)) ∧ w.grownBy w' (some b)

set_option maxRecDepth 100000 in
set_option maxHeartbeats 1000000 in
theorem rmark_any (h : PS w b r cap T i bad) (c : Nat) (hc : c ≠ 101 ∧ c ≠ 120) :
    Calls Tryz.prog 43 #[.pointer (some ⟨b, 0, none⟩), .int .u8 c] w (MarkPost w b r cap T i bad c) := by
  have c0 := h.c0
  have c1 := h.c1
  have c2 := h.c2
  have f1 := h.f1
  have f2 := h.f2
  have hi := h.hi
  have hn := h.hn
  obtain ⟨r0, r1, r2, r3⟩ := h.row i hi
  have hfin : Hid (((tk T i).k == c) = true → i + 1 < T.length) := fun hk => h.fin i hi (by simp at hk; simp [PT.fin, hk]; omega)
  have H := hide h
  clear h hc
  unfold MarkPost
  cases bad
  · cases hk : ((tk T i).k == c)
    · have hk' : (((tk T i).k : Int) == c) = false := by simp at hk ⊢; omega
      clear hk
      go_enter Tryz.func43, Tryz.ntmps43
      go_wp2
      go_quiet (fail)
      go_wp2
      go_end0
      exact ⟨rfl, (H.out.drewN _).setBad true, grownBy_set (grownBy_drewN (grownBy_refl _ _) _) _ _⟩
    · have hk' : (((tk T i).k : Int) == c) = true := by simp at hk ⊢; omega
      have hf := hide (hfin.out hk)
      clear hk
      go_enter Tryz.func43, Tryz.ntmps43
      go_wp2
      go_quiet (fail)
      go_wp2
      go_end0
      exact ⟨rfl, (H.out.drewN _).next hf.out, grownBy_set (grownBy_drewN (grownBy_refl _ _) _) _ _⟩
  · go_enter Tryz.func43, Tryz.ntmps43
    go_wp2
    go_quiet (fail)
    go_wp2
    go_end0
    exact ⟨rfl, (H.out.drewN _).setBad true, grownBy_set (grownBy_drewN (grownBy_refl _ _) _) _ _⟩
end
end Go.Proofs.YtbdffcjganlblaaGreatDoor

namespace Go.Proofs.YtbdffcjganlblaaGreatDoor
open Go.RowKit
set_option linter.unusedVariables false
set_option linter.unusedSimpArgs false

theorem blk_set {w : World} {X : Nat} {c : Array Value} {ty : TypeId} (h : w.heap[X]? = some (.cells c ty (0, 0))) (o : Nat) (v : Value) : (w.setCell ⟨X, o, none⟩ v).heap[X]? = some (.cells (c.setIfInBounds o v) ty (0, 0)) := by
  simp only [World.setCell, Array.getElem?_modify, if_true, h]
  simp
theorem blk_cell {w : World} {X : Nat} {c : Array Value} {ty : TypeId} (h : w.heap[X]? = some (.cells c ty (0, 0))) (o : Nat) : w.cell? ⟨X, o, none⟩ = c[o]? := by
  simp [World.cell?, h]
theorem blk_frozen {w : World} {X : Nat} {c : Array Value} {ty : TypeId} (h : w.heap[X]? = some (.cells c ty (0, 0))) (o : Nat) : w.frozen? ⟨X, o, none⟩ = false := by
  simp [World.frozen?, h]
theorem blk_new (w : World) (c : Array Value) (ty : TypeId) : (w.alloc (.cells c ty)).heap[w.heap.size]? = some (.cells c ty (0, 0)) := by
  show (w.heap.push _)[w.heap.size]? = _
  simp
theorem blk_lt {w : World} {X : Nat} {o : Obj} (h : w.heap[X]? = some o) : X < w.heap.size := by
  rcases Nat.lt_or_ge X w.heap.size with h1 | h1
  · exact h1
  · rw [Array.getElem?_eq_none h1] at h; simp at h

/-- In the midst of a parser's method that fills a new struct: block w.heap.size the result, the next one the local. -/
structure St (w wk : World) (ty : TypeId) (c d : Array Value) (b r cap : Nat) (T : List PT) (i : Nat) (bad : Bool) : Prop where
  ps : PS wk b r cap T i bad
  hx : wk.heap[w.heap.size + 1]? = some (.cells c ty (0, 0))
  hy : wk.heap[w.heap.size]? = some (.cells d ty (0, 0))
  g : w.grownBy wk (some b)
  hb : b < w.heap.size
  hr : r < w.heap.size

section
variable {w wk : World} {ty : TypeId} {c d : Array Value} {b r cap : Nat} {T : List PT} {i : Nat} {bad : Bool}

theorem St.start (h : PS w b r cap T i bad) (ty : TypeId) (c d : Array Value) : St w ((w.alloc (.cells d ty)).alloc (.cells c ty)) ty c d b r cap T i bad :=
  ⟨(h.alloc _).alloc _, by simpa using blk_new (w.alloc (.cells d ty)) c ty,
    by rw [Below.heap_alloc _ _ _ (by simp)]; exact blk_new w d ty, grownBy_alloc' (World.grownBy_alloc _ _ _) _, h.ltb, h.ltr⟩
theorem PS.setOther {w : World} {X : Nat} (h : PS w b r cap T i bad) (h1 : X ≠ b) (h2 : X ≠ r) (o : Nat) (v : Value) : PS (w.setCell ⟨X, o, none⟩ v) b r cap T i bad :=
  h.kept (Below.heap_setCell _ _ _ _ (fun e => h1 e.symm)) (Below.heap_setCell _ _ _ _ (fun e => h2 e.symm)) (by rw [heap_set_size]; exact Nat.le_refl _)
theorem St.set (h : St w wk ty c d b r cap T i bad) (o : Nat) (v : Value) {c' : Array Value} (hc : c.setIfInBounds o v = c') : St w (wk.setCell ⟨w.heap.size + 1, o, none⟩ v) ty c' d b r cap T i bad := by
  have hb := h.hb
  have hr := h.hr
  refine ⟨h.ps.setOther (by omega) (by omega) o v, ?_, ?_, grownBy_setNew h.g (by omega) o v, hb, hr⟩
  · rw [blk_set h.hx o v, hc]
  · rw [Below.heap_setCell _ _ _ _ (by show w.heap.size ≠ w.heap.size + 1; omega)]; exact h.hy
theorem St.call {w' : World} {i' : Nat} {bad' : Bool} (h : St w wk ty c d b r cap T i bad) (p : PS w' b r cap T i' bad') (g : wk.grownBy w' (some b)) : St w w' ty c d b r cap T i' bad' := by
  have hb := h.hb
  exact ⟨p, by rw [g.block _ (blk_lt h.hx) (by simp; omega)]; exact h.hx, by rw [g.block _ (blk_lt h.hy) (by simp; omega)]; exact h.hy, grownBy_trans h.g g, hb, h.hr⟩
theorem St.cells (h : St w wk ty c d b r cap T i bad) : (∀ o, wk.cell? ⟨w.heap.size + 1, o, none⟩ = c[o]?) ∧ (∀ o, wk.frozen? ⟨w.heap.size + 1, o, none⟩ = false) ∧ (∀ o, wk.cell? ⟨w.heap.size, o, none⟩ = d[o]?) ∧ (∀ o, wk.frozen? ⟨w.heap.size, o, none⟩ = false) :=
  ⟨blk_cell h.hx, blk_frozen h.hx, blk_cell h.hy, blk_frozen h.hy⟩


theorem rplace_ex (h : PS w b r cap T i bad) :
    Calls Tryz.prog 130 #[.pointer (some ⟨b, 0, none⟩)] w fun e w' => ∃ v : Nat, e = .returned (.int .i64 v) ∧ PS w' b r cap T i bad ∧ w.grownBy w' (some b) ∧ Hid (v = (tk T i).at_) := by
  refine (rplace_any h).mono ?_
  rintro e w' ⟨rfl, n, rfl⟩
  exact ⟨_, rfl, h.drewN n, grownBy_drewN (grownBy_refl _ _) _, rfl⟩

def NameR (T : List PT) (i : Nat) (bad : Bool) (v i' : Nat) (bad' : Bool) : Prop :=
  if (!bad && isName (tk T i)) = true then v = (nameB (tk T i)).toNat ∧ i' = i + 1 ∧ bad' = false else i' = i ∧ bad' = true
theorem rname_ex (h : PS w b r cap T i bad) :
    Calls Tryz.prog 80 #[.pointer (some ⟨b, 0, none⟩)] w fun e w' => ∃ (v i' : Nat) (bad' : Bool), e = .returned (.int .u8 v) ∧ PS w' b r cap T i' bad' ∧ w.grownBy w' (some b) ∧ Hid (NameR T i bad v i' bad') := by
  refine (rname_any h).mono ?_
  rintro e w' ⟨rfl, hp, hg⟩
  unfold Hid NameR
  cases hc : (!bad && isName (tk T i))
  · rw [hc] at hp
    refine ⟨0, _, _, rfl, hp, hg, ?_⟩
    cases bad <;> cases hq : isName (tk T i) <;> simp_all
  · rw [hc] at hp
    refine ⟨_, _, _, rfl, hp, hg, ?_⟩
    cases bad <;> cases hq : isName (tk T i) <;> simp_all

def NumR (T : List PT) (i : Nat) (bad : Bool) (v i' : Nat) (bad' : Bool) : Prop :=
  if (!bad && (tk T i).k == 110) = true then v = (tk T i).N ∧ i' = i + 1 ∧ bad' = false else v = 0 ∧ i' = i ∧ bad' = true
theorem rnumber_ex (h : PS w b r cap T i bad) :
    Calls Tryz.prog 42 #[.pointer (some ⟨b, 0, none⟩)] w fun e w' => ∃ (v i' : Nat) (bad' : Bool), e = .returned (.int .i64 v) ∧ PS w' b r cap T i' bad' ∧ w.grownBy w' (some b) ∧ Hid (NumR T i bad v i' bad') := by
  refine (rnumber_any h).mono ?_
  rintro e w' ⟨rfl, hp, hg⟩
  unfold Hid NumR
  cases hc : (!bad && (tk T i).k == 110)
  · rw [hc] at hp
    refine ⟨0, _, _, rfl, hp, hg, ?_⟩
    cases bad <;> cases hq : ((tk T i).k == 110) <;> simp_all
  · rw [hc] at hp
    refine ⟨_, _, _, rfl, hp, hg, ?_⟩
    cases bad <;> cases hq : ((tk T i).k == 110) <;> simp_all

def GoesR (ok bad : Bool) (i i' : Nat) (bad' : Bool) : Prop :=
  if (!bad && ok) = true then i' = i + 1 ∧ bad' = false else i' = i ∧ bad' = true
theorem rmark_ex (h : PS w b r cap T i bad) (c : Nat) (hc : c ≠ 101 ∧ c ≠ 120) :
    Calls Tryz.prog 43 #[.pointer (some ⟨b, 0, none⟩), .int .u8 c] w fun e w' => ∃ (i' : Nat) (bad' : Bool), e = .returned (.tuple #[]) ∧ PS w' b r cap T i' bad' ∧ w.grownBy w' (some b) ∧ Hid (GoesR ((tk T i).k == c) bad i i' bad') := by
  refine (rmark_any h c hc).mono ?_
  rintro e w' ⟨rfl, hp, hg⟩
  refine ⟨_, _, rfl, hp, hg, ?_⟩
  unfold Hid GoesR
  cases bad <;> cases hq : ((tk T i).k == c) <;> simp
theorem rmust_ex (h : PS w b r cap T i bad) (wd : ByteArray) :
    Calls Tryz.prog 41 #[.pointer (some ⟨b, 0, none⟩), .string wd] w fun e w' => ∃ (i' : Nat) (bad' : Bool), e = .returned (.tuple #[]) ∧ PS w' b r cap T i' bad' ∧ w.grownBy w' (some b) ∧ Hid (GoesR (sees (tk T i) wd) bad i i' bad') := by
  refine (rmust_any h wd).mono ?_
  rintro e w' ⟨rfl, hp, hg⟩
  refine ⟨_, _, rfl, hp, hg, ?_⟩
  unfold Hid GoesR
  cases bad <;> cases hq : sees (tk T i) wd <;> simp
theorem rword_ex (h : PS w b r cap T i bad) (wd : ByteArray) :
    Calls Tryz.prog 78 #[.pointer (some ⟨b, 0, none⟩), .string wd] w fun e w' => ∃ (i' : Nat) (ok : Bool), e = .returned (.bool ok) ∧ PS w' b r cap T i' bad ∧ w.grownBy w' (some b) ∧ Hid (ok = (!bad && sees (tk T i) wd) ∧ i' = if ok then i + 1 else i) := by
  refine (rword_any h wd).mono ?_
  rintro e w' ⟨rfl, hp, hg⟩
  exact ⟨_, _, rfl, hp, hg, rfl, rfl⟩

/-- A pair, with its places. -/
structure Pr where
  a : UInt8
  b : UInt8
  ap : Bool
  q0 : Nat
  q1 : Nat

def pPair (T : List PT) (ap : Bool) (i : Nat) : Except Nat (Pr × Nat) :=
  if isName (tk T i) then
    if isName (tk T (i + 1)) then
      if (tk T (i + 2)).k == 59 then .ok (⟨nameB (tk T i), nameB (tk T (i + 1)), ap, (tk T i).at_, (tk T (i + 1)).at_⟩, i + 3) else .error (i + 2)
    else .error (i + 1)
  else .error i

def prRaw (a c : Nat) (ap : Bool) (q0 q1 : Nat) : Value := .agg #[.int .u8 a, .int .u8 c, .bool ap, .int .i64 q0, .int .i64 q1]
def prV (p : Pr) : Value := prRaw p.a.toNat p.b.toNat p.ap p.q0 p.q1

theorem pair_chain {T : List PT} {ap : Bool} {i a i1 c i2 i3 : Nat} {b1 b2 b3 : Bool} (h1 : NameR T i false a i1 b1) (h2 : NameR T i1 b1 c i2 b2) (h3 : GoesR ((tk T i2).k == 59) b2 i2 i3 b3) :
    (b3 = true ∧ pPair T ap i = .error i3) ∨ (b3 = false ∧ ∃ p, pPair T ap i = .ok (p, i3) ∧ a = p.a.toNat ∧ c = p.b.toNat ∧ p.ap = ap ∧ p.q0 = (tk T i).at_ ∧ p.q1 = (tk T i1).at_) := by
  unfold NameR at h1 h2
  unfold GoesR at h3
  unfold pPair
  cases hn1 : isName (tk T i)
  · rw [hn1] at h1
    simp at h1
    obtain ⟨rfl, rfl⟩ := h1
    simp at h2
    obtain ⟨rfl, rfl⟩ := h2
    simp at h3
    obtain ⟨rfl, rfl⟩ := h3
    simp
  · rw [hn1] at h1
    simp at h1
    obtain ⟨rfl, rfl, rfl⟩ := h1
    cases hn2 : isName (tk T (i + 1))
    · rw [hn2] at h2
      simp at h2
      obtain ⟨rfl, rfl⟩ := h2
      simp at h3
      obtain ⟨rfl, rfl⟩ := h3
      simp
    · rw [hn2] at h2
      simp at h2
      obtain ⟨rfl, rfl, rfl⟩ := h2
      cases hn3 : ((tk T (i + 1 + 1)).k == 59)
      · rw [hn3] at h3
        simp at h3
        obtain ⟨rfl, rfl⟩ := h3
        simp [hn3]
      · rw [hn3] at h3
        simp at h3
        obtain ⟨rfl, rfl⟩ := h3
        simp [hn3]

set_option maxRecDepth 100000 in
set_option maxHeartbeats 1000000 in
theorem rpair_any (h : PS w b r cap T i false) (apart : Bool) :
    Calls Tryz.prog 88 #[.pointer (some ⟨b, 0, none⟩), .bool apart] w fun e w' =>
      ∃ (a c q0 q1 i' : Nat) (bad' : Bool), e = .returned (prRaw a c apart q0 q1) ∧ PS w' b r cap T i' bad' ∧ w.grownBy w' (some b) ∧
        ((bad' = true ∧ pPair T apart i = .error i') ∨ (bad' = false ∧ ∃ p, pPair T apart i = .ok (p, i') ∧ prRaw a c apart q0 q1 = prV p)) := by
  have S0 := St.start h 133 #[.int .u8 0, .int .u8 0, .bool apart, .int .i64 0, .int .i64 0] #[.int .u8 0, .int .u8 0, .bool false, .int .i64 0, .int .i64 0]
  clear h
  go_enter Tryz.func88, Tryz.ntmps88
  go_wp2_with fail
  refine (rplace_ex S0.ps).mono ?_
  rintro e w1 ⟨q0, rfl, p, g, hq0⟩
  have S1 := S0.call p g
  obtain ⟨x1, x2, x3, x4⟩ := S1.cells
  clear p g S0
  go_wp2_with fail
  have S1 := S1.set 3 (.int .i64 q0) (c' := #[.int .u8 0, .int .u8 0, .bool apart, .int .i64 q0, .int .i64 0]) rfl
  clear x1 x2 x3 x4
  refine (rname_ex S1.ps).mono ?_
  rintro e w2 ⟨a, i1, b1, rfl, p, g, ha⟩
  have S2 := S1.call p g
  obtain ⟨x1, x2, x3, x4⟩ := S2.cells
  clear p g S1
  go_wp2_with fail
  have S2 := S2.set 0 (.int .u8 a) (c' := #[.int .u8 a, .int .u8 0, .bool apart, .int .i64 q0, .int .i64 0]) rfl
  clear x1 x2 x3 x4
  refine (rplace_ex S2.ps).mono ?_
  rintro e w3 ⟨q1, rfl, p, g, hq1⟩
  have S3 := S2.call p g
  obtain ⟨x1, x2, x3, x4⟩ := S3.cells
  clear p g S2
  go_wp2_with fail
  have S3 := S3.set 4 (.int .i64 q1) (c' := #[.int .u8 a, .int .u8 0, .bool apart, .int .i64 q0, .int .i64 q1]) rfl
  clear x1 x2 x3 x4
  refine (rname_ex S3.ps).mono ?_
  rintro e w4 ⟨c, i2, b2, rfl, p, g, hc⟩
  have S4 := S3.call p g
  obtain ⟨x1, x2, x3, x4⟩ := S4.cells
  clear p g S3
  go_wp2_with fail
  have S4 := S4.set 1 (.int .u8 c) (c' := #[.int .u8 a, .int .u8 c, .bool apart, .int .i64 q0, .int .i64 q1]) rfl
  clear x1 x2 x3 x4
  refine (rmark_ex S4.ps 59 (by decide)).mono ?_
  rintro e w5 ⟨i3, b3, rfl, p, g, hm⟩
  have S5 := S4.call p g
  obtain ⟨x1, x2, x3, x4⟩ := S5.cells
  clear p g S4
  go_wp2
  have hbb := S5.hb
  have hrr := S5.hr
  refine bodyPost_ret (v := prRaw a c apart q0 q1) (by simp [results, Tryz.results88, go_sem, x3, prRaw]) rfl ⟨a, c, q0, q1, i3, b3, rfl, ?_, ?_, ?_⟩
  · have Y : ∀ (wz : World) (o : Nat) (v : Value), PS wz b r cap T i3 b3 → PS (wz.setCell ⟨w.heap.size, o, none⟩ v) b r cap T i3 b3 := fun wz o v hz => hz.setOther (by omega) (by omega) o v
    exact Y _ _ _ (Y _ _ _ (Y _ _ _ (Y _ _ _ (Y _ _ _ S5.ps))))
  · have Y : ∀ (wz : World) (o : Nat) (v : Value), w.grownBy wz (some b) → w.grownBy (wz.setCell ⟨w.heap.size, o, none⟩ v) (some b) := fun wz o v hz => grownBy_setNew hz (Nat.le_refl _) o v
    exact Y _ _ _ (Y _ _ _ (Y _ _ _ (Y _ _ _ (Y _ _ _ S5.g))))
  · rcases pair_chain (ap := apart) ha.out hc.out hm.out with ⟨h1, h2⟩ | ⟨h1, p, h2, h3, h4, h5, h6, h7⟩
    · exact .inl ⟨h1, h2⟩
    · refine .inr ⟨h1, p, h2, ?_⟩
      unfold prV
      rw [h3, h4, h5, h6, h7, hq0.out, hq1.out]
end
end Go.Proofs.YtbdffcjganlblaaGreatDoor

namespace Go.Proofs.YtbdffcjganlblaaGreatDoor
open Go.RowKit
set_option linter.unusedVariables false
set_option linter.unusedSimpArgs false

/-- A task, with its places. -/
structure Tk where
  nm : UInt8
  P : Nat
  O : Nat
  C : Nat
  D : Nat
  q0 : Nat
  q1 : Nat
  q2 : Nat
  q3 : Nat
  q4 : Nat

def wEvery : ByteArray := ⟨#[101, 118, 101, 114, 121]⟩
def wFrom : ByteArray := ⟨#[102, 114, 111, 109]⟩
def wTakes : ByteArray := ⟨#[116, 97, 107, 101, 115]⟩
def wWithin : ByteArray := ⟨#[119, 105, 116, 104, 105, 110]⟩

/-- What stands behind the offset. -/
def pRest (T : List PT) (nm : UInt8) (P O q0 q1 q2 j : Nat) : Except Nat (Tk × Nat) :=
  if sees (tk T j) wTakes then
    if (tk T (j + 1)).k == 110 then
      if sees (tk T (j + 2)) wWithin then
        if (tk T (j + 3)).k == 110 then
          if (tk T (j + 4)).k == 59 then .ok (⟨nm, P, O, (tk T (j + 1)).N, (tk T (j + 3)).N, q0, q1, q2, (tk T (j + 1)).at_, (tk T (j + 3)).at_⟩, j + 5) else .error (j + 4)
        else .error (j + 3)
      else .error (j + 2)
    else .error (j + 1)
  else .error j

/-- A task behind its word. -/
def pTask (T : List PT) (i : Nat) : Except Nat (Tk × Nat) :=
  if isName (tk T i) then
    if sees (tk T (i + 1)) wEvery then
      if (tk T (i + 2)).k == 110 then
        if sees (tk T (i + 3)) wFrom then
          if (tk T (i + 4)).k == 110 then pRest T (nameB (tk T i)) (tk T (i + 2)).N (tk T (i + 4)).N (tk T i).at_ (tk T (i + 2)).at_ (tk T (i + 4)).at_ (i + 5)
          else .error (i + 4)
        else pRest T (nameB (tk T i)) (tk T (i + 2)).N 0 (tk T i).at_ (tk T (i + 2)).at_ (tk T (i + 3)).at_ (i + 3)
      else .error (i + 2)
    else .error (i + 1)
  else .error i

theorem goes_bad {ok bad' : Bool} {i i' : Nat} (h : GoesR ok true i i' bad') : i' = i ∧ bad' = true := by simpa [GoesR] using h
theorem goes_no {bad' : Bool} {i i' : Nat} (h : GoesR false false i i' bad') : i' = i ∧ bad' = true := by simpa [GoesR] using h
theorem goes_yes {bad' : Bool} {i i' : Nat} (h : GoesR true false i i' bad') : i' = i + 1 ∧ bad' = false := by simpa [GoesR] using h
theorem num_bad {T : List PT} {bad' : Bool} {i v i' : Nat} (h : NumR T i true v i' bad') : v = 0 ∧ i' = i ∧ bad' = true := by simpa [NumR] using h
theorem num_no {T : List PT} {bad' : Bool} {i v i' : Nat} (h : NumR T i false v i' bad') (hk : ((tk T i).k == 110) = false) : i' = i ∧ bad' = true := by
  unfold NumR at h; rw [hk] at h; simp at h; exact h.2
theorem num_yes {T : List PT} {bad' : Bool} {i v i' : Nat} (h : NumR T i false v i' bad') (hk : ((tk T i).k == 110) = true) : v = (tk T i).N ∧ i' = i + 1 ∧ bad' = false := by
  unfold NumR at h; rw [hk] at h; simpa using h
theorem name_no {T : List PT} {bad' : Bool} {i v i' : Nat} (h : NameR T i false v i' bad') (hk : isName (tk T i) = false) : i' = i ∧ bad' = true := by
  unfold NameR at h; rw [hk] at h; simpa using h
theorem name_yes {T : List PT} {bad' : Bool} {i v i' : Nat} (h : NameR T i false v i' bad') (hk : isName (tk T i) = true) : v = (nameB (tk T i)).toNat ∧ i' = i + 1 ∧ bad' = false := by
  unfold NameR at h; rw [hk] at h; simpa using h

theorem rest_bad {T : List PT} {j j1 C j2 j3 D j4 j5 : Nat} {o1 o2 o3 : Bool} {b1 b2 b3 b4 b5 : Bool} (h1 : GoesR o1 true j j1 b1) (h2 : NumR T j1 b1 C j2 b2) (h3 : GoesR o2 b2 j2 j3 b3) (h4 : NumR T j3 b3 D j4 b4) (h5 : GoesR o3 b4 j4 j5 b5) :
    b5 = true ∧ j5 = j := by
  obtain ⟨rfl, rfl⟩ := goes_bad h1
  obtain ⟨_, rfl, rfl⟩ := num_bad h2
  obtain ⟨rfl, rfl⟩ := goes_bad h3
  obtain ⟨_, rfl, rfl⟩ := num_bad h4
  obtain ⟨rfl, rfl⟩ := goes_bad h5
  exact ⟨rfl, rfl⟩

theorem rest_chain {T : List PT} {nm : UInt8} {P O q0 q1 q2 j j1 C j2 j3 D j4 j5 : Nat} {b1 b2 b3 b4 b5 : Bool} (h1 : GoesR (sees (tk T j) wTakes) false j j1 b1) (h2 : NumR T j1 b1 C j2 b2) (h3 : GoesR (sees (tk T j2) wWithin) b2 j2 j3 b3) (h4 : NumR T j3 b3 D j4 b4) (h5 : GoesR ((tk T j4).k == 59) b4 j4 j5 b5) :
    (b5 = true ∧ pRest T nm P O q0 q1 q2 j = .error j5) ∨ (b5 = false ∧ pRest T nm P O q0 q1 q2 j = .ok (⟨nm, P, O, C, D, q0, q1, q2, (tk T j1).at_, (tk T j3).at_⟩, j5)) := by
  unfold pRest
  cases e1 : sees (tk T j) wTakes
  · rw [e1] at h1
    obtain ⟨rfl, rfl⟩ := goes_no h1
    obtain ⟨_, rfl, rfl⟩ := num_bad h2
    obtain ⟨rfl, rfl⟩ := goes_bad h3
    obtain ⟨_, rfl, rfl⟩ := num_bad h4
    obtain ⟨rfl, rfl⟩ := goes_bad h5
    simp
  · rw [e1] at h1
    obtain ⟨rfl, rfl⟩ := goes_yes h1
    cases e2 : ((tk T (j + 1)).k == 110)
    · obtain ⟨rfl, rfl⟩ := num_no h2 e2
      obtain ⟨rfl, rfl⟩ := goes_bad h3
      obtain ⟨_, rfl, rfl⟩ := num_bad h4
      obtain ⟨rfl, rfl⟩ := goes_bad h5
      simp
    · obtain ⟨rfl, rfl, rfl⟩ := num_yes h2 e2
      simp only [Nat.add_assoc, Nat.reduceAdd] at *
      cases e3 : sees (tk T (j + 2)) wWithin
      · rw [e3] at h3
        obtain ⟨rfl, rfl⟩ := goes_no h3
        obtain ⟨_, rfl, rfl⟩ := num_bad h4
        obtain ⟨rfl, rfl⟩ := goes_bad h5
        simp
      · rw [e3] at h3
        obtain ⟨rfl, rfl⟩ := goes_yes h3
        simp only [Nat.add_assoc, Nat.reduceAdd] at *
        cases e4 : ((tk T (j + 3)).k == 110)
        · obtain ⟨rfl, rfl⟩ := num_no h4 e4
          obtain ⟨rfl, rfl⟩ := goes_bad h5
          simp
        · obtain ⟨rfl, rfl, rfl⟩ := num_yes h4 e4
          simp only [Nat.add_assoc, Nat.reduceAdd] at *
          cases e5 : ((tk T (j + 4)).k == 59)
          · rw [e5] at h5
            obtain ⟨rfl, rfl⟩ := goes_no h5
            simp
          · rw [e5] at h5
            obtain ⟨rfl, rfl⟩ := goes_yes h5
            simp

/-- What a task's chain of calls comes to, 'from' standing there or not. -/
theorem task_chain {T : List PT} {i nm i1 i2 P i3 i4 O i5 j1 C j2 j3 D j4 j5 : Nat} {fr : Bool} {b1 b2 b3 b5 c1 c2 c3 c4 c5 : Bool}
    (h1 : NameR T i false nm i1 b1) (h2 : GoesR (sees (tk T i1) wEvery) b1 i1 i2 b2) (h3 : NumR T i2 b2 P i3 b3) (h4 : fr = (!b3 && sees (tk T i3) wFrom) ∧ i4 = if fr then i3 + 1 else i3)
    (h5 : if fr = true then NumR T i4 b3 O i5 b5 else O = 0 ∧ i5 = i4 ∧ b5 = b3)
    (k1 : GoesR (sees (tk T i5) wTakes) b5 i5 j1 c1) (k2 : NumR T j1 c1 C j2 c2) (k3 : GoesR (sees (tk T j2) wWithin) c2 j2 j3 c3) (k4 : NumR T j3 c3 D j4 c4) (k5 : GoesR ((tk T j4).k == 59) c4 j4 j5 c5) :
    (c5 = true ∧ pTask T i = .error j5) ∨ (c5 = false ∧ ∃ t : Tk, pTask T i = .ok (t, j5) ∧ nm = t.nm.toNat ∧ t.P = P ∧ t.O = O ∧ t.C = C ∧ t.D = D ∧ t.q0 = (tk T i).at_ ∧ t.q1 = (tk T i2).at_ ∧ t.q2 = (tk T i4).at_ ∧ t.q3 = (tk T j1).at_ ∧ t.q4 = (tk T j3).at_) := by
  obtain ⟨hf, hi4⟩ := h4
  have badly : b3 = true → c5 = true ∧ j5 = i3 := by
    intro hb
    subst hb
    simp at hf
    subst hf
    simp at hi4 h5
    obtain ⟨_, rfl, rfl⟩ := h5
    subst hi4
    exact rest_bad k1 k2 k3 k4 k5
  unfold pTask
  cases e1 : isName (tk T i)
  · obtain ⟨rfl, rfl⟩ := name_no h1 e1
    obtain ⟨rfl, rfl⟩ := goes_bad h2
    obtain ⟨_, rfl, rfl⟩ := num_bad h3
    obtain ⟨r1, r2⟩ := badly rfl
    left; exact ⟨r1, by simp [r2]⟩
  · obtain ⟨rfl, rfl, rfl⟩ := name_yes h1 e1
    cases e2 : sees (tk T (i + 1)) wEvery
    · rw [e2] at h2
      obtain ⟨rfl, rfl⟩ := goes_no h2
      obtain ⟨_, rfl, rfl⟩ := num_bad h3
      obtain ⟨r1, r2⟩ := badly rfl
      left; exact ⟨r1, by simp [r2]⟩
    · rw [e2] at h2
      obtain ⟨rfl, rfl⟩ := goes_yes h2
      simp only [Nat.add_assoc, Nat.reduceAdd] at *
      cases e3 : ((tk T (i + 2)).k == 110)
      · obtain ⟨rfl, rfl⟩ := num_no h3 e3
        obtain ⟨r1, r2⟩ := badly rfl
        left; exact ⟨r1, by simp [r2]⟩
      · obtain ⟨rfl, rfl, rfl⟩ := num_yes h3 e3
        clear badly
        simp only [Nat.add_assoc, Nat.reduceAdd] at *
        cases e4 : sees (tk T (i + 3)) wFrom
        · rw [e4] at hf
          simp at hf
          subst hf
          simp at hi4 h5
          subst hi4
          obtain ⟨rfl, rfl, rfl⟩ := h5
          rcases rest_chain (nm := nameB (tk T i)) (P := (tk T (i + 2)).N) (O := 0) (q0 := (tk T i).at_) (q1 := (tk T (i + 2)).at_) (q2 := (tk T (i + 3)).at_) k1 k2 k3 k4 k5 with ⟨r1, r2⟩ | ⟨r1, r2⟩
          · left; exact ⟨r1, by simp [r2]⟩
          · right; refine ⟨r1, _, by simp [r2]; rfl, rfl, rfl, rfl, rfl, rfl, rfl, rfl, rfl, rfl, rfl⟩
        · rw [e4] at hf
          simp at hf
          subst hf
          simp at hi4 h5
          subst hi4
          cases e5 : ((tk T (i + 4)).k == 110)
          · obtain ⟨rfl, rfl⟩ := num_no h5 e5
            have r := rest_bad k1 k2 k3 k4 k5
            left; exact ⟨r.1, by simp [r.2]⟩
          · obtain ⟨rfl, rfl, rfl⟩ := num_yes h5 e5
            simp only [Nat.add_assoc, Nat.reduceAdd] at *
            rcases rest_chain (nm := nameB (tk T i)) (P := (tk T (i + 2)).N) (O := (tk T (i + 4)).N) (q0 := (tk T i).at_) (q1 := (tk T (i + 2)).at_) (q2 := (tk T (i + 4)).at_) k1 k2 k3 k4 k5 with ⟨r1, r2⟩ | ⟨r1, r2⟩
            · left; exact ⟨r1, by simp [r2]⟩
            · right; refine ⟨r1, _, by simp [r2]; rfl, rfl, rfl, rfl, rfl, rfl, rfl, rfl, rfl, rfl, rfl⟩

def tkRaw (nm P O C D q0 q1 q2 q3 q4 : Nat) : Value := .agg #[.int .u8 nm, .int .i64 P, .int .i64 O, .int .i64 C, .int .i64 D, .int .i64 q0, .int .i64 q1, .int .i64 q2, .int .i64 q3, .int .i64 q4]
def tkV (t : Tk) : Value := tkRaw t.nm.toNat t.P t.O t.C t.D t.q0 t.q1 t.q2 t.q3 t.q4

section
variable {w wk : World} {ty : TypeId} {c d : Array Value} {b r cap : Nat} {T : List PT} {i : Nat} {bad : Bool}

set_option maxRecDepth 100000 in
set_option maxHeartbeats 4000000 in
theorem rtask_any (h : PS w b r cap T i false) :
    Calls Tryz.prog 87 #[.pointer (some ⟨b, 0, none⟩)] w fun e w' =>
      ∃ (nm P O C D q0 q1 q2 q3 q4 i' : Nat) (bad' : Bool), e = .returned (tkRaw nm P O C D q0 q1 q2 q3 q4) ∧ PS w' b r cap T i' bad' ∧ w.grownBy w' (some b) ∧
        ((bad' = true ∧ pTask T i = .error i') ∨ (bad' = false ∧ ∃ t, pTask T i = .ok (t, i') ∧ tkRaw nm P O C D q0 q1 q2 q3 q4 = tkV t)) := by
  have S0 := St.start h 95 #[.int .u8 0, .int .i64 0, .int .i64 0, .int .i64 0, .int .i64 0, .int .i64 0, .int .i64 0, .int .i64 0, .int .i64 0, .int .i64 0] #[.int .u8 0, .int .i64 0, .int .i64 0, .int .i64 0, .int .i64 0, .int .i64 0, .int .i64 0, .int .i64 0, .int .i64 0, .int .i64 0]
  clear h
  go_enter Tryz.func87, Tryz.ntmps87
  go_wp2_with fail
  refine (rplace_ex S0.ps).mono ?_
  rintro e w1 ⟨q0, rfl, p, g, hq0⟩
  have S1 := S0.call p g
  obtain ⟨x1, x2, x3, x4⟩ := S1.cells
  clear p g S0
  go_wp2_with fail
  have S1 := S1.set 5 (.int .i64 q0) (c' := #[.int .u8 0, .int .i64 0, .int .i64 0, .int .i64 0, .int .i64 0, .int .i64 q0, .int .i64 0, .int .i64 0, .int .i64 0, .int .i64 0]) rfl
  clear x1 x2 x3 x4
  refine (rname_ex S1.ps).mono ?_
  rintro e w2 ⟨nm, i1, b1, rfl, p, g, h1⟩
  have S2 := S1.call p g
  obtain ⟨x1, x2, x3, x4⟩ := S2.cells
  clear p g S1
  go_wp2_with fail
  have S2 := S2.set 0 (.int .u8 nm) (c' := #[.int .u8 nm, .int .i64 0, .int .i64 0, .int .i64 0, .int .i64 0, .int .i64 q0, .int .i64 0, .int .i64 0, .int .i64 0, .int .i64 0]) rfl
  clear x1 x2 x3 x4
  refine (rmust_ex S2.ps _).mono ?_
  rintro e w3 ⟨i2, b2, rfl, p, g, h2⟩
  have S3 := S2.call p g
  obtain ⟨x1, x2, x3, x4⟩ := S3.cells
  clear p g S2
  go_wp2_with fail
  clear x1 x2 x3 x4
  refine (rplace_ex S3.ps).mono ?_
  rintro e w4 ⟨q1, rfl, p, g, hq1⟩
  have S4 := S3.call p g
  obtain ⟨x1, x2, x3, x4⟩ := S4.cells
  clear p g S3
  go_wp2_with fail
  have S4 := S4.set 6 (.int .i64 q1) (c' := #[.int .u8 nm, .int .i64 0, .int .i64 0, .int .i64 0, .int .i64 0, .int .i64 q0, .int .i64 q1, .int .i64 0, .int .i64 0, .int .i64 0]) rfl
  clear x1 x2 x3 x4
  refine (rnumber_ex S4.ps).mono ?_
  rintro e w5 ⟨P, i3, b3, rfl, p, g, h3⟩
  have S5 := S4.call p g
  obtain ⟨x1, x2, x3, x4⟩ := S5.cells
  clear p g S4
  go_wp2_with fail
  have S5 := S5.set 1 (.int .i64 P) (c' := #[.int .u8 nm, .int .i64 P, .int .i64 0, .int .i64 0, .int .i64 0, .int .i64 q0, .int .i64 q1, .int .i64 0, .int .i64 0, .int .i64 0]) rfl
  clear x1 x2 x3 x4
  refine (rword_ex S5.ps _).mono ?_
  rintro e w6 ⟨i4, fr, rfl, p, g, h4⟩
  have S6 := S5.call p g
  obtain ⟨x1, x2, x3, x4⟩ := S6.cells
  clear p g S5
  go_wp2_with fail
  clear x1 x2 x3 x4
  refine (rplace_ex S6.ps).mono ?_
  rintro e w7 ⟨q2, rfl, p, g, hq2⟩
  have S7 := S6.call p g
  obtain ⟨x1, x2, x3, x4⟩ := S7.cells
  clear p g S6
  cases fr
  · go_wp2_with fail
    have S7 := S7.set 7 (.int .i64 q2) (c' := #[.int .u8 nm, .int .i64 P, .int .i64 0, .int .i64 0, .int .i64 0, .int .i64 q0, .int .i64 q1, .int .i64 q2, .int .i64 0, .int .i64 0]) rfl
    clear x1 x2 x3 x4
    refine (rmust_ex S7.ps _).mono ?_
    rintro e w8 ⟨j1, c1, rfl, p, g, k1⟩
    have S8 := S7.call p g
    obtain ⟨x1, x2, x3, x4⟩ := S8.cells
    clear p g S7
    go_wp2_with fail
    clear x1 x2 x3 x4
    refine (rplace_ex S8.ps).mono ?_
    rintro e w9 ⟨q3, rfl, p, g, hq3⟩
    have S9 := S8.call p g
    obtain ⟨x1, x2, x3, x4⟩ := S9.cells
    clear p g S8
    go_wp2_with fail
    have S9 := S9.set 8 (.int .i64 q3) (c' := #[.int .u8 nm, .int .i64 P, .int .i64 0, .int .i64 0, .int .i64 0, .int .i64 q0, .int .i64 q1, .int .i64 q2, .int .i64 q3, .int .i64 0]) rfl
    clear x1 x2 x3 x4
    refine (rnumber_ex S9.ps).mono ?_
    rintro e w10 ⟨C, j2, c2, rfl, p, g, k2⟩
    have S10 := S9.call p g
    obtain ⟨x1, x2, x3, x4⟩ := S10.cells
    clear p g S9
    go_wp2_with fail
    have S10 := S10.set 3 (.int .i64 C) (c' := #[.int .u8 nm, .int .i64 P, .int .i64 0, .int .i64 C, .int .i64 0, .int .i64 q0, .int .i64 q1, .int .i64 q2, .int .i64 q3, .int .i64 0]) rfl
    clear x1 x2 x3 x4
    refine (rmust_ex S10.ps _).mono ?_
    rintro e w11 ⟨j3, c3, rfl, p, g, k3⟩
    have S11 := S10.call p g
    obtain ⟨x1, x2, x3, x4⟩ := S11.cells
    clear p g S10
    go_wp2_with fail
    clear x1 x2 x3 x4
    refine (rplace_ex S11.ps).mono ?_
    rintro e w12 ⟨q4, rfl, p, g, hq4⟩
    have S12 := S11.call p g
    obtain ⟨x1, x2, x3, x4⟩ := S12.cells
    clear p g S11
    go_wp2_with fail
    have S12 := S12.set 9 (.int .i64 q4) (c' := #[.int .u8 nm, .int .i64 P, .int .i64 0, .int .i64 C, .int .i64 0, .int .i64 q0, .int .i64 q1, .int .i64 q2, .int .i64 q3, .int .i64 q4]) rfl
    clear x1 x2 x3 x4
    refine (rnumber_ex S12.ps).mono ?_
    rintro e w13 ⟨D, j4, c4, rfl, p, g, k4⟩
    have S13 := S12.call p g
    obtain ⟨x1, x2, x3, x4⟩ := S13.cells
    clear p g S12
    go_wp2_with fail
    have S13 := S13.set 4 (.int .i64 D) (c' := #[.int .u8 nm, .int .i64 P, .int .i64 0, .int .i64 C, .int .i64 D, .int .i64 q0, .int .i64 q1, .int .i64 q2, .int .i64 q3, .int .i64 q4]) rfl
    clear x1 x2 x3 x4
    refine (rmark_ex S13.ps 59 (by decide)).mono ?_
    rintro e w14 ⟨j5, c5, rfl, p, g, k5⟩
    have S14 := S13.call p g
    obtain ⟨x1, x2, x3, x4⟩ := S14.cells
    clear p g S13
    go_wp2
    have hbb := S14.hb
    have hrr := S14.hr
    refine bodyPost_ret (v := tkRaw nm P 0 C D q0 q1 q2 q3 q4) (by simp [results, Tryz.results87, go_sem, x3, tkRaw]) rfl ⟨nm, P, 0, C, D, q0, q1, q2, q3, q4, j5, c5, rfl, ?_, ?_, ?_⟩
    · have Y : ∀ (wz : World) (o : Nat) (v : Value), PS wz b r cap T j5 c5 → PS (wz.setCell ⟨w.heap.size, o, none⟩ v) b r cap T j5 c5 := fun wz o v hz => hz.setOther (by omega) (by omega) o v
      exact Y _ _ _ (Y _ _ _ (Y _ _ _ (Y _ _ _ (Y _ _ _ (Y _ _ _ (Y _ _ _ (Y _ _ _ (Y _ _ _ (Y _ _ _ S14.ps)))))))))
    · have Y : ∀ (wz : World) (o : Nat) (v : Value), w.grownBy wz (some b) → w.grownBy (wz.setCell ⟨w.heap.size, o, none⟩ v) (some b) := fun wz o v hz => grownBy_setNew hz (Nat.le_refl _) o v
      exact Y _ _ _ (Y _ _ _ (Y _ _ _ (Y _ _ _ (Y _ _ _ (Y _ _ _ (Y _ _ _ (Y _ _ _ (Y _ _ _ (Y _ _ _ S14.g)))))))))
    · rcases task_chain (O := 0) (i5 := i4) (b5 := b3) h1.out h2.out h3.out h4.out (by simp) k1.out k2.out k3.out k4.out k5.out with ⟨r1, r2⟩ | ⟨r1, t, r2, s0, s1, s2, s3, s4, s5, s6, s7, s8, s9⟩
      · exact .inl ⟨r1, r2⟩
      · refine .inr ⟨r1, t, r2, ?_⟩
        unfold tkV
        rw [s0, s1, s2, s3, s4, s5, s6, s7, s8, s9, hq0.out, hq1.out, hq2.out, hq3.out, hq4.out]
  · go_wp2_with fail
    have S7 := S7.set 7 (.int .i64 q2) (c' := #[.int .u8 nm, .int .i64 P, .int .i64 0, .int .i64 0, .int .i64 0, .int .i64 q0, .int .i64 q1, .int .i64 q2, .int .i64 0, .int .i64 0]) rfl
    clear x1 x2 x3 x4
    refine (rnumber_ex S7.ps).mono ?_
    rintro e w8 ⟨O, i5, b5, rfl, p, g, h5⟩
    have S8 := S7.call p g
    obtain ⟨x1, x2, x3, x4⟩ := S8.cells
    clear p g S7
    go_wp2_with fail
    have S8 := S8.set 2 (.int .i64 O) (c' := #[.int .u8 nm, .int .i64 P, .int .i64 O, .int .i64 0, .int .i64 0, .int .i64 q0, .int .i64 q1, .int .i64 q2, .int .i64 0, .int .i64 0]) rfl
    clear x1 x2 x3 x4
    refine (rmust_ex S8.ps _).mono ?_
    rintro e w9 ⟨j1, c1, rfl, p, g, k1⟩
    have S9 := S8.call p g
    obtain ⟨x1, x2, x3, x4⟩ := S9.cells
    clear p g S8
    go_wp2_with fail
    clear x1 x2 x3 x4
    refine (rplace_ex S9.ps).mono ?_
    rintro e w10 ⟨q3, rfl, p, g, hq3⟩
    have S10 := S9.call p g
    obtain ⟨x1, x2, x3, x4⟩ := S10.cells
    clear p g S9
    go_wp2_with fail
    have S10 := S10.set 8 (.int .i64 q3) (c' := #[.int .u8 nm, .int .i64 P, .int .i64 O, .int .i64 0, .int .i64 0, .int .i64 q0, .int .i64 q1, .int .i64 q2, .int .i64 q3, .int .i64 0]) rfl
    clear x1 x2 x3 x4
    refine (rnumber_ex S10.ps).mono ?_
    rintro e w11 ⟨C, j2, c2, rfl, p, g, k2⟩
    have S11 := S10.call p g
    obtain ⟨x1, x2, x3, x4⟩ := S11.cells
    clear p g S10
    go_wp2_with fail
    have S11 := S11.set 3 (.int .i64 C) (c' := #[.int .u8 nm, .int .i64 P, .int .i64 O, .int .i64 C, .int .i64 0, .int .i64 q0, .int .i64 q1, .int .i64 q2, .int .i64 q3, .int .i64 0]) rfl
    clear x1 x2 x3 x4
    refine (rmust_ex S11.ps _).mono ?_
    rintro e w12 ⟨j3, c3, rfl, p, g, k3⟩
    have S12 := S11.call p g
    obtain ⟨x1, x2, x3, x4⟩ := S12.cells
    clear p g S11
    go_wp2_with fail
    clear x1 x2 x3 x4
    refine (rplace_ex S12.ps).mono ?_
    rintro e w13 ⟨q4, rfl, p, g, hq4⟩
    have S13 := S12.call p g
    obtain ⟨x1, x2, x3, x4⟩ := S13.cells
    clear p g S12
    go_wp2_with fail
    have S13 := S13.set 9 (.int .i64 q4) (c' := #[.int .u8 nm, .int .i64 P, .int .i64 O, .int .i64 C, .int .i64 0, .int .i64 q0, .int .i64 q1, .int .i64 q2, .int .i64 q3, .int .i64 q4]) rfl
    clear x1 x2 x3 x4
    refine (rnumber_ex S13.ps).mono ?_
    rintro e w14 ⟨D, j4, c4, rfl, p, g, k4⟩
    have S14 := S13.call p g
    obtain ⟨x1, x2, x3, x4⟩ := S14.cells
    clear p g S13
    go_wp2_with fail
    have S14 := S14.set 4 (.int .i64 D) (c' := #[.int .u8 nm, .int .i64 P, .int .i64 O, .int .i64 C, .int .i64 D, .int .i64 q0, .int .i64 q1, .int .i64 q2, .int .i64 q3, .int .i64 q4]) rfl
    clear x1 x2 x3 x4
    refine (rmark_ex S14.ps 59 (by decide)).mono ?_
    rintro e w15 ⟨j5, c5, rfl, p, g, k5⟩
    have S15 := S14.call p g
    obtain ⟨x1, x2, x3, x4⟩ := S15.cells
    clear p g S14
    go_wp2
    have hbb := S15.hb
    have hrr := S15.hr
    refine bodyPost_ret (v := tkRaw nm P O C D q0 q1 q2 q3 q4) (by simp [results, Tryz.results87, go_sem, x3, tkRaw]) rfl ⟨nm, P, O, C, D, q0, q1, q2, q3, q4, j5, c5, rfl, ?_, ?_, ?_⟩
    · have Y : ∀ (wz : World) (o : Nat) (v : Value), PS wz b r cap T j5 c5 → PS (wz.setCell ⟨w.heap.size, o, none⟩ v) b r cap T j5 c5 := fun wz o v hz => hz.setOther (by omega) (by omega) o v
      exact Y _ _ _ (Y _ _ _ (Y _ _ _ (Y _ _ _ (Y _ _ _ (Y _ _ _ (Y _ _ _ (Y _ _ _ (Y _ _ _ (Y _ _ _ S15.ps)))))))))
    · have Y : ∀ (wz : World) (o : Nat) (v : Value), w.grownBy wz (some b) → w.grownBy (wz.setCell ⟨w.heap.size, o, none⟩ v) (some b) := fun wz o v hz => grownBy_setNew hz (Nat.le_refl _) o v
      exact Y _ _ _ (Y _ _ _ (Y _ _ _ (Y _ _ _ (Y _ _ _ (Y _ _ _ (Y _ _ _ (Y _ _ _ (Y _ _ _ (Y _ _ _ S15.g)))))))))
    · rcases task_chain h1.out h2.out h3.out h4.out (by simpa using h5.out) k1.out k2.out k3.out k4.out k5.out with ⟨r1, r2⟩ | ⟨r1, t, r2, s0, s1, s2, s3, s4, s5, s6, s7, s8, s9⟩
      · exact .inl ⟨r1, r2⟩
      · refine .inr ⟨r1, t, r2, ?_⟩
        unfold tkV
        rw [s0, s1, s2, s3, s4, s5, s6, s7, s8, s9, hq0.out, hq1.out, hq2.out, hq3.out, hq4.out]
end
end Go.Proofs.YtbdffcjganlblaaGreatDoor
