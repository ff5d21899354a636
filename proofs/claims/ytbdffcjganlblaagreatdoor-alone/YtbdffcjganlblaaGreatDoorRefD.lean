/-
  Own work. The document's parser: number, mark, name.
-/
import Derived.Test.YtbdffcjganlblaaGreatDoorRefC
namespace Go.Proofs.YtbdffcjganlblaaGreatDoor
open Go.RowKit
set_option linter.unusedVariables false
set_option linter.unusedSimpArgs false

section
variable {w : World} {b r cap : Nat} {T : List PT} {i : Nat} {bad : Bool}

theorem PS.alloc (h : PS w b r cap T i bad) (o : Obj) : PS (w.alloc o) b r cap T i bad := h.grown (World.grownBy_alloc w o none) (by simp) (by simp)
theorem PS.drew (h : PS w b r cap T i bad) : PS w.drew b r cap T i bad := h.drewN 1

def NumPost (w : World) (b r cap : Nat) (T : List PT) (i : Nat) (bad : Bool) (e : Ending) (w' : World) : Prop :=
  e = .returned (.int .i64 (if !bad && (tk T i).k == 110 then ((tk T i).N : Int) else 0)) ∧ PS w' b r cap T (if !bad && (tk T i).k == 110 then i + 1 else i) (bad || !((tk T i).k == 110)) ∧ w.grownBy w' (some b)

set_option maxRecDepth 100000 in
set_option maxHeartbeats 1000000 in
theorem rnumber_any (h : PS w b r cap T i bad) :
    Calls Tryz.prog 42 #[.pointer (some ⟨b, 0, none⟩)] w (NumPost w b r cap T i bad) := by
  have c0 := h.c0
  have c1 := h.c1
  have c2 := h.c2
  have f1 := h.f1
  have f2 := h.f2
  have hi := h.hi
  have hn := h.hn
  have hlb := h.ltb
  have hlr := h.ltr
  obtain ⟨r0, r1, r2, r3⟩ := h.row i hi
  have hfin : Hid (((tk T i).k == 110) = true → i + 1 < T.length) := fun hk => h.fin i hi (by simp at hk; simp [PT.fin, hk])
  have H := hide h
  clear h
  unfold NumPost
  cases bad
  · cases hk : ((tk T i).k == 110)
    · have hk' : (((tk T i).k : Int) != 110) = true := by simp at hk ⊢; omega
      clear hk
      go_enter Tryz.func42, Tryz.ntmps42
      go_wp2
      go_region
      go_wp2
      go_ret
      exact ⟨rfl, ((H.out.setBad true).alloc _).drew, grownBy_drew (grownBy_alloc' (grownBy_set (grownBy_refl _ _) _ _) _)⟩
    · have hk' : (((tk T i).k : Int) != 110) = false := by simp at hk ⊢; omega
      have hf := hide (hfin.out hk)
      clear hk
      go_enter Tryz.func42, Tryz.ntmps42
      go_wp2
      go_region
      go_wp2
      go_ret
      exact ⟨rfl, ((H.out.next hf.out).alloc _).drew, grownBy_drew (grownBy_alloc' (grownBy_set (grownBy_refl _ _) _ _) _)⟩
  · go_enter Tryz.func42, Tryz.ntmps42
    go_wp2
    go_region
    go_wp2
    go_ret
    exact ⟨rfl, ((H.out.setBad true).alloc _).drew, grownBy_drew (grownBy_alloc' (grownBy_set (grownBy_refl _ _) _ _) _)⟩

def isName (t : PT) : Bool := t.k == 119 && t.S.length == 1
def nameB (t : PT) : UInt8 := t.S.headD 0

def NamePost (w : World) (b r cap : Nat) (T : List PT) (i : Nat) (bad : Bool) (e : Ending) (w' : World) : Prop :=
  e = .returned (.int .u8 (if !bad && isName (tk T i) then ((nameB (tk T i)).toNat : Int) else 0)) ∧ PS w' b r cap T (if !bad && isName (tk T i) then i + 1 else i) (bad || !(isName (tk T i))) ∧ w.grownBy w' (some b)

set_option maxRecDepth 100000 in
set_option maxHeartbeats 1000000 in
theorem rname_any (h : PS w b r cap T i bad) :
    Calls Tryz.prog 80 #[.pointer (some ⟨b, 0, none⟩)] w (NamePost w b r cap T i bad) := by
  have c0 := h.c0
  have c1 := h.c1
  have c2 := h.c2
  have f1 := h.f1
  have f2 := h.f2
  have hi := h.hi
  have hn := h.hn
  have hlb := h.ltb
  have hlr := h.ltr
  obtain ⟨r0, r1, r2, r3⟩ := h.row i hi
  have hfin : Hid (((tk T i).k == 119) = true → i + 1 < T.length) := fun hk => h.fin i hi (by simp at hk; simp [PT.fin, hk])
  have H := hide h
  clear h
  unfold NamePost
  cases bad
  · cases hk : ((tk T i).k == 119)
    · have hk' : (((tk T i).k : Int) != 119) = true := by simp at hk ⊢; omega
      have hN : isName (tk T i) = false := by unfold isName; rw [hk]; rfl
      rw [hN]
      clear hk hN
      go_enter Tryz.func80, Tryz.ntmps80
      go_wp2
      go_region
      go_wp2
      go_ret
      exact ⟨rfl, ((H.out.setBad true).alloc _).drew, grownBy_drew (grownBy_alloc' (grownBy_set (grownBy_refl _ _) _ _) _)⟩
    · have hk' : (((tk T i).k : Int) != 119) = false := by simp at hk ⊢; omega
      have hf := hide (hfin.out hk)
      cases hl : ((tk T i).S.length == 1)
      · have hN : isName (tk T i) = false := by unfold isName; rw [hl]; simp
        have hl' : (((bs (tk T i).S).size : Int) != 1) = true := by rw [bs_size]; simp at hl ⊢; omega
        rw [hN]
        clear hk hN hl
        go_enter Tryz.func80, Tryz.ntmps80
        go_wp2
        go_region
        go_wp2
        go_ret
        exact ⟨rfl, ((H.out.setBad true).alloc _).drew, grownBy_drew (grownBy_alloc' (grownBy_set (grownBy_refl _ _) _ _) _)⟩
      · have hN : isName (tk T i) = true := by unfold isName; rw [hl, hk]; rfl
        obtain ⟨c, hc⟩ : ∃ c, (tk T i).S = [c] := List.length_eq_one_iff.1 (by simpa using hl)
        have hB : nameB (tk T i) = c := by unfold nameB; rw [hc]; rfl
        rw [hN, hB]
        have r1' : w.cell? ⟨r, i * 4 + 1, none⟩ = some (.string ⟨#[c]⟩) := by rw [r1, hc]; rfl
        clear hk hN hl hB r1 hc
        go_enter Tryz.func80, Tryz.ntmps80
        go_wp2
        go_region
        go_wp2
        go_ret
        exact ⟨rfl, ((H.out.next hf.out).alloc _).drew, grownBy_drew (grownBy_alloc' (grownBy_set (grownBy_refl _ _) _ _) _)⟩
  · go_enter Tryz.func80, Tryz.ntmps80
    go_wp2
    go_region
    go_wp2
    go_ret
    exact ⟨rfl, ((H.out.setBad true).alloc _).drew, grownBy_drew (grownBy_alloc' (grownBy_set (grownBy_refl _ _) _ _) _)⟩

def MarkPost (w : World) (b r cap : Nat) (T : List PT) (i : Nat) (bad : Bool) (c : Nat) (e : Ending) (w' : World) : Prop :=
  e = .returned (.tuple #[]) ∧ PS w' b r cap T (if !bad && (tk T i).k == c then i + 1 else i) (bad || !((tk T i).k == c)) ∧ w.grownBy w' (some b)

set_option maxRecDepth 100000 in
set_option maxHeartbeats 1000000 in
theorem rmark_any (h : PS w b r cap T i bad) (c : Nat) (hc : c ≠ 101 ∧ c ≠ 120) :
    Calls Tryz.prog 43 #[.pointer (some ⟨b, 0, none⟩), .int .u8 c] w (MarkPost w b r cap T i bad c) := by
  have c0 := h.c0
  have c1 := h.c1
  have c2 := h.c2
  have f1 := h.f1
  have f2 := h.f2
  have hi := h.hi
  have hn := h.hn
  obtain ⟨r0, r1, r2, r3⟩ := h.row i hi
  have hfin : Hid (((tk T i).k == c) = true → i + 1 < T.length) := fun hk => h.fin i hi (by simp at hk; simp [PT.fin, hk]; omega)
  have H := hide h
  clear h hc
  unfold MarkPost
  cases bad
  · cases hk : ((tk T i).k == c)
    · have hk' : (((tk T i).k : Int) == c) = false := by simp at hk ⊢; omega
      clear hk
      go_enter Tryz.func43, Tryz.ntmps43
      go_wp2
      go_quiet (fail)
      go_wp2
      go_end0
      exact ⟨rfl, (H.out.drewN _).setBad true, grownBy_set (grownBy_drewN (grownBy_refl _ _) _) _ _⟩
    · have hk' : (((tk T i).k : Int) == c) = true := by simp at hk ⊢; omega
      have hf := hide (hfin.out hk)
      clear hk
      go_enter Tryz.func43, Tryz.ntmps43
      go_wp2
      go_quiet (fail)
      go_wp2
      go_end0
      exact ⟨rfl, (H.out.drewN _).next hf.out, grownBy_set (grownBy_drewN (grownBy_refl _ _) _) _ _⟩
  · go_enter Tryz.func43, Tryz.ntmps43
    go_wp2
    go_quiet (fail)
    go_wp2
    go_end0
    exact ⟨rfl, (H.out.drewN _).setBad true, grownBy_set (grownBy_drewN (grownBy_refl _ _) _) _ _⟩
end
end Go.Proofs.YtbdffcjganlblaaGreatDoor
