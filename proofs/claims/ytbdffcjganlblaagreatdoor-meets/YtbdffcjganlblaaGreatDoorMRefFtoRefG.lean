/-
  Own work. The document's parser: a task.
-/
import Derived.Test.YtbdffcjganlblaaGreatDoorMRefBtoRefE
import Derived.Test.YtbdffcjganlblaaGreatDoorMHpAtoRefA
namespace Go.Proofs.YtbdffcjganlblaaGreatDoor
open Go.RowKit
set_option linter.unusedVariables false
set_option linter.unusedSimpArgs false

/-- A task, with its places. -/
structure Tk where
  nm : UInt8
  P : Nat
  O : Nat
  C : Nat
  D : Nat
  q0 : Nat
  q1 : Nat
  q2 : Nat
  q3 : Nat
  q4 : Nat

def wEvery : ByteArray := ⟨#[101, 118, 101, 114, 121]⟩
def wFrom : ByteArray := ⟨#[102, 114, 111, 109]⟩
def wTakes : ByteArray := ⟨#[116, 97, 107, 101, 115]⟩
def wWithin : ByteArray := ⟨#[119, 105, 116, 104, 105, 110]⟩

/-- What stands behind the offset. -/
def pRest (T : List PT) (nm : UInt8) (P O q0 q1 q2 j : Nat) : Except Nat (Tk × Nat) :=
  if sees (tk T j) wTakes then
    if (tk T (j + 1)).k == 110 then
      if sees (tk T (j + 2)) wWithin then
        if (tk T (j + 3)).k == 110 then
          if (tk T (j + 4)).k == 59 then .ok (⟨nm, P, O, (tk T (j + 1)).N, (tk T (j + 3)).N, q0, q1, q2, (tk T (j + 1)).at_, (tk T (j + 3)).at_⟩, j + 5) else .error (j + 4)
        else .error (j + 3)
      else .error (j + 2)
    else .error (j + 1)
  else .error j

/-- A task behind its word. -/
def pTask (T : List PT) (i : Nat) : Except Nat (Tk × Nat) :=
  if isName (tk T i) then
    if sees (tk T (i + 1)) wEvery then
      if (tk T (i + 2)).k == 110 then
        if sees (tk T (i + 3)) wFrom then
          if (tk T (i + 4)).k == 110 then pRest T (nameB (tk T i)) (tk T (i + 2)).N (tk T (i + 4)).N (tk T i).at_ (tk T (i + 2)).at_ (tk T (i + 4)).at_ (i + 5)
          else .error (i + 4)
        else pRest T (nameB (tk T i)) (tk T (i + 2)).N 0 (tk T i).at_ (tk T (i + 2)).at_ (tk T (i + 3)).at_ (i + 3)
      else .error (i + 2)
    else .error (i + 1)
  else .error i

theorem goes_bad {ok bad' : Bool} {i i' : Nat} (h : GoesR ok true i i' bad') : i' = i ∧ bad' = true := by simpa [GoesR] using h
theorem goes_no {bad' : Bool} {i i' : Nat} (h : GoesR false false i i' bad') : i' = i ∧ bad' = true := by simpa [GoesR] using h
theorem goes_yes {bad' : Bool} {i i' : Nat} (h : GoesR true false i i' bad') : i' = i + 1 ∧ bad' = false := by simpa [GoesR] using h
theorem num_bad {T : List PT} {bad' : Bool} {i v i' : Nat} (h : NumR T i true v i' bad') : v = 0 ∧ i' = i ∧ bad' = true := by simpa [NumR] using h
theorem num_no {T : List PT} {bad' : Bool} {i v i' : Nat} (h : NumR T i false v i' bad') (hk : ((tk T i).k == 110) = false) : i' = i ∧ bad' = true := by
  unfold NumR at h; rw [hk] at h; simp at h; exact h.2
theorem num_yes {T : List PT} {bad' : Bool} {i v i' : Nat} (h : NumR T i false v i' bad') (hk : ((tk T i).k == 110) = true) : v = (tk T i).N ∧ i' = i + 1 ∧ bad' = false := by
  unfold NumR at h; rw [hk] at h; simpa using h
theorem name_no {T : List PT} {bad' : Bool} {i v i' : Nat} (h : NameR T i false v i' bad') (hk : isName (tk T i) = false) : i' = i ∧ bad' = true := by
  unfold NameR at h; rw [hk] at h; simpa using h
theorem name_yes {T : List PT} {bad' : Bool} {i v i' : Nat} (h : NameR T i false v i' bad') (hk : isName (tk T i) = true) : v = (nameB (tk T i)).toNat ∧ i' = i + 1 ∧ bad' = false := by
  unfold NameR at h; rw [hk] at h; simpa using h

theorem rest_bad {T : List PT} {j j1 C j2 j3 D j4 j5 : Nat} {o1 o2 o3 : Bool} {b1 b2 b3 b4 b5 : Bool} (h1 : GoesR o1 true j j1 b1) (h2 : NumR T j1 b1 C j2 b2) (h3 : GoesR o2 b2 j2 j3 b3) (h4 : NumR T j3 b3 D j4 b4) (h5 : GoesR o3 b4 j4 j5 b5) :
    b5 = true ∧ j5 = j := by
  obtain ⟨rfl, rfl⟩ := goes_bad h1
  obtain ⟨_, rfl, rfl⟩ := num_bad h2
  obtain ⟨rfl, rfl⟩ := goes_bad h3
  obtain ⟨_, rfl, rfl⟩ := num_bad h4
  obtain ⟨rfl, rfl⟩ := goes_bad h5
  exact ⟨rfl, rfl⟩

theorem rest_chain {T : List PT} {nm : UInt8} {P O q0 q1 q2 j j1 C j2 j3 D j4 j5 : Nat} {b1 b2 b3 b4 b5 : Bool} (h1 : GoesR (sees (tk T j) wTakes) false j j1 b1) (h2 : NumR T j1 b1 C j2 b2) (h3 : GoesR (sees (tk T j2) wWithin) b2 j2 j3 b3) (h4 : NumR T j3 b3 D j4 b4) (h5 : GoesR ((tk T j4).k == 59) b4 j4 j5 b5) :
    (b5 = true ∧ pRest T nm P O q0 q1 q2 j = .error j5) ∨ (b5 = false ∧ pRest T nm P O q0 q1 q2 j = .ok (⟨nm, P, O, C, D, q0, q1, q2, (tk T j1).at_, (tk T j3).at_⟩, j5)) := by
  unfold pRest
  cases e1 : sees (tk T j) wTakes
  · rw [e1] at h1
    obtain ⟨rfl, rfl⟩ := goes_no h1
    obtain ⟨_, rfl, rfl⟩ := num_bad h2
    obtain ⟨rfl, rfl⟩ := goes_bad h3
    obtain ⟨_, rfl, rfl⟩ := num_bad h4
    obtain ⟨rfl, rfl⟩ := goes_bad h5
    simp
  · rw [e1] at h1
    obtain ⟨rfl, rfl⟩ := goes_yes h1
    cases e2 : ((tk T (j + 1)).k == 110)
    · obtain ⟨rfl, rfl⟩ := num_no h2 e2
      obtain ⟨rfl, rfl⟩ := goes_bad h3
      obtain ⟨_, rfl, rfl⟩ := num_bad h4
      obtain ⟨rfl, rfl⟩ := goes_bad h5
      simp
    · obtain ⟨rfl, rfl, rfl⟩ := num_yes h2 e2
      simp only [Nat.add_assoc, Nat.reduceAdd] at *
      cases e3 : sees (tk T (j + 2)) wWithin
      · rw [e3] at h3
        obtain ⟨rfl, rfl⟩ := goes_no h3
        obtain ⟨_, rfl, rfl⟩ := num_bad h4
        obtain ⟨rfl, rfl⟩ := goes_bad h5
        simp
      · rw [e3] at h3
        obtain ⟨rfl, rfl⟩ := goes_yes h3
        simp only [Nat.add_assoc, Nat.reduceAdd] at *
        cases e4 : ((tk T (j + 3)).k == 110)
        · obtain ⟨rfl, rfl⟩ := num_no h4 e4
          obtain ⟨rfl, rfl⟩ := goes_bad h5
          simp
        · obtain ⟨rfl, rfl, rfl⟩ := num_yes h4 e4
          simp only [Nat.add_assoc, Nat.reduceAdd] at *
          cases e5 : ((tk T (j + 4)).k == 59)
          · rw [e5] at h5
            obtain ⟨rfl, rfl⟩ := goes_no h5
            simp
          · rw [e5] at h5
            obtain ⟨rfl, rfl⟩ := goes_yes h5
            simp

/-- What a task's chain of calls comes to, 'from' standing there or not. -/
theorem task_chain {T : List PT} {i nm i1 i2 P i3 i4 O i5 j1 C j2 j3 D j4 j5 : Nat} {fr : Bool} {b1 b2 b3 b5 c1 c2 c3 c4 c5 : Bool}
    (h1 : NameR T i false nm i1 b1) (h2 : GoesR (sees (tk T i1) wEvery) b1 i1 i2 b2) (h3 : NumR T i2 b2 P i3 b3) (h4 : fr = (!b3 && sees (tk T i3) wFrom) ∧ i4 = if fr then i3 + 1 else i3)
    (h5 : if fr = true then NumR T i4 b3 O i5 b5 else O = 0 ∧ i5 = i4 ∧ b5 = b3)
    (k1 : GoesR (sees (tk T i5) wTakes) b5 i5 j1 c1) (k2 : NumR T j1 c1 C j2 c2) (k3 : GoesR (sees (tk T j2) wWithin) c2 j2 j3 c3) (k4 : NumR T j3 c3 D j4 c4) (k5 : GoesR ((tk T j4).k == 59) c4 j4 j5 c5) :
    (c5 = true ∧ pTask T i = .error j5) ∨ (c5 = false ∧ ∃ t : Tk, pTask T i = .ok (t, j5) ∧ nm = t.nm.toNat ∧ t.P = P ∧ t.O = O ∧ t.C = C ∧ t.D = D ∧ t.q0 = (tk T i).at_ ∧ t.q1 = (tk T i2).at_ ∧ t.q2 = (tk T i4).at_ ∧ t.q3 = (tk T j1).at_ ∧ t.q4 = (tk T j3).at_) := by
  obtain ⟨hf, hi4⟩ := h4
  have badly : b3 = true → c5 = true ∧ j5 = i3 := by
    intro hb
    subst hb
    simp at hf
    subst hf
    simp at hi4 h5
    obtain ⟨_, rfl, rfl⟩ := h5
    subst hi4
    exact rest_bad k1 k2 k3 k4 k5
  unfold pTask
  cases e1 : isName (tk T i)
  · obtain ⟨rfl, rfl⟩ := name_no h1 e1
    obtain ⟨rfl, rfl⟩ := goes_bad h2
    obtain ⟨_, rfl, rfl⟩ := num_bad h3
    obtain ⟨r1, r2⟩ := badly rfl
    left; exact ⟨r1, by simp [r2]⟩
  · obtain ⟨rfl, rfl, rfl⟩ := name_yes h1 e1
    cases e2 : sees (tk T (i + 1)) wEvery
    · rw [e2] at h2
      obtain ⟨rfl, rfl⟩ := goes_no h2
      obtain ⟨_, rfl, rfl⟩ := num_bad h3
      obtain ⟨r1, r2⟩ := badly rfl
      left; exact ⟨r1, by simp [r2]⟩
    · rw [e2] at h2
      obtain ⟨rfl, rfl⟩ := goes_yes h2
      simp only [Nat.add_assoc, Nat.reduceAdd] at *
      cases e3 : ((tk T (i + 2)).k == 110)
      · obtain ⟨rfl, rfl⟩ := num_no h3 e3
        obtain ⟨r1, r2⟩ := badly rfl
        left; exact ⟨r1, by simp [r2]⟩
      · obtain ⟨rfl, rfl, rfl⟩ := num_yes h3 e3
        clear badly
        simp only [Nat.add_assoc, Nat.reduceAdd] at *
        cases e4 : sees (tk T (i + 3)) wFrom
        · rw [e4] at hf
          simp at hf
          subst hf
          simp at hi4 h5
          subst hi4
          obtain ⟨rfl, rfl, rfl⟩ := h5
          rcases rest_chain (nm := nameB (tk T i)) (P := (tk T (i + 2)).N) (O := 0) (q0 := (tk T i).at_) (q1 := (tk T (i + 2)).at_) (q2 := (tk T (i + 3)).at_) k1 k2 k3 k4 k5 with ⟨r1, r2⟩ | ⟨r1, r2⟩
          · left; exact ⟨r1, by simp [r2]⟩
          · right; refine ⟨r1, _, by simp [r2]; rfl, rfl, rfl, rfl, rfl, rfl, rfl, rfl, rfl, rfl, rfl⟩
        · rw [e4] at hf
          simp at hf
          subst hf
          simp at hi4 h5
          subst hi4
          cases e5 : ((tk T (i + 4)).k == 110)
          · obtain ⟨rfl, rfl⟩ := num_no h5 e5
            have r := rest_bad k1 k2 k3 k4 k5
            left; exact ⟨r.1, by simp [r.2]⟩
          · obtain ⟨rfl, rfl, rfl⟩ := num_yes h5 e5
            simp only [Nat.add_assoc, Nat.reduceAdd] at *
            rcases rest_chain (nm := nameB (tk T i)) (P := (tk T (i + 2)).N) (O := (tk T (i + 4)).N) (q0 := (tk T i).at_) (q1 := (tk T (i + 2)).at_) (q2 := (tk T (i + 4)).at_) k1 k2 k3 k4 k5 with ⟨r1, r2⟩ | ⟨r1, r2⟩
            · left; exact ⟨r1, by simp [r2]⟩
            · right; refine ⟨r1, _, by simp [r2]; rfl, rfl, rfl, rfl, rfl, rfl, rfl, rfl, rfl, rfl, rfl⟩

def tkRaw (nm P O C D q0 q1 q2 q3 q4 : Nat) : Value := .agg #[.int .u8 nm, .int .i64 P, .int .i64 O, .int .i64 C, .int .i64 D, .int .i64 q0, .int .i64 q1, .int .i64 q2, .int .i64 q3, .int .i64 q4]
def tkV (t : Tk) : Value := tkRaw t.nm.toNat t.P t.O t.C t.D t.q0 t.q1 t.q2 t.q3 t.q4

section
variable {w wk : World} {ty : TypeId} {c d : Array Value} {b r cap : Nat} {T : List PT} {i : Nat} {bad : Bool}

set_option maxRecDepth 100000 in
set_option maxHeartbeats 4000000 in
theorem rtask_any (h : PS w b r cap T i false) :
    Calls Tryz.prog 87 #[.pointer (some ⟨b, 0, none⟩)] w fun e w' =>
      ∃ (nm P O C D q0 q1 q2 q3 q4 i' : Nat) (bad' : Bool), e = .returned (tkRaw nm P O C D q0 q1 q2 q3 q4) ∧ PS w' b r cap T i' bad' ∧ w.grownBy w' (some b) ∧
        ((bad' = true ∧ pTask T i = .error i') ∨ (bad' = false ∧ ∃ t, pTask T i = .ok (t, i') ∧ tkRaw nm P O C D q0 q1 q2 q3 q4 = tkV t)) := by
  have S0 := St.start h 95 #[.int .u8 0, .int .i64 0, .int .i64 0, .int .i64 0, .int .i64 0, .int .i64 0, .int .i64 0, .int .i64 0, .int .i64 0, .int .i64 0] #[.int .u8 0, .int .i64 0, .int .i64 0, .int .i64 0, .int .i64 0, .int .i64 0, .int .i64 0, .int .i64 0, .int .i64 0, .int .i64 0]
  clear h
  go_enter Tryz.func87, Tryz.ntmps87
  go_wp2_with fail
  refine (rplace_ex S0.ps).mono ?_
  rintro e w1 ⟨q0, rfl, p, g, hq0⟩
  have S1 := S0.call p g
  obtain ⟨x1, x2, x3, x4⟩ := S1.cells
  clear p g S0
  go_wp2_with fail
  have S1 := S1.set 5 (.int .i64 q0) (c' := #[.int .u8 0, .int .i64 0, .int .i64 0, .int .i64 0, .int .i64 0, .int .i64 q0, .int .i64 0, .int .i64 0, .int .i64 0, .int .i64 0]) rfl
  clear x1 x2 x3 x4
  refine (rname_ex S1.ps).mono ?_
  rintro e w2 ⟨nm, i1, b1, rfl, p, g, h1⟩
  have S2 := S1.call p g
  obtain ⟨x1, x2, x3, x4⟩ := S2.cells
  clear p g S1
  go_wp2_with fail
  have S2 := S2.set 0 (.int .u8 nm) (c' := #[.int .u8 nm, .int .i64 0, .int .i64 0, .int .i64 0, .int .i64 0, .int .i64 q0, .int .i64 0, .int .i64 0, .int .i64 0, .int .i64 0]) rfl
  clear x1 x2 x3 x4
  refine (rmust_ex S2.ps _).mono ?_
  rintro e w3 ⟨i2, b2, rfl, p, g, h2⟩
  have S3 := S2.call p g
  obtain ⟨x1, x2, x3, x4⟩ := S3.cells
  clear p g S2
  go_wp2_with fail
  clear x1 x2 x3 x4
  refine (rplace_ex S3.ps).mono ?_
  rintro e w4 ⟨q1, rfl, p, g, hq1⟩
  have S4 := S3.call p g
  obtain ⟨x1, x2, x3, x4⟩ := S4.cells
  clear p g S3
  go_wp2_with fail
  have S4 := S4.set 6 (.int .i64 q1) (c' := #[.int .u8 nm, .int .i64 0, .int .i64 0, .int .i64 0, .int .i64 0, .int .i64 q0, .int .i64 q1, .int .i64 0, .int .i64 0, .int .i64 0]) rfl
  clear x1 x2 x3 x4
  refine (rnumber_ex S4.ps).mono ?_
  rintro e w5 ⟨P, i3, b3, rfl, p, g, h3⟩
  have S5 := S4.call p g
  obtain ⟨x1, x2, x3, x4⟩ := S5.cells
  clear p g S4
  go_wp2_with fail
  have S5 := S5.set 1 (.int .i64 P) (c' := #[.int .u8 nm, .int .i64 P, .int .i64 0, .int .i64 0, .int .i64 0, .int .i64 q0, .int .i64 q1, .int .i64 0, .int .i64 0, .int .i64 0]) rfl
  clear x1 x2 x3 x4
  refine (rword_ex S5.ps _).mono ?_
  rintro e w6 ⟨i4, fr, rfl, p, g, h4⟩
  have S6 := S5.call p g
  obtain ⟨x1, x2, x3, x4⟩ := S6.cells
  clear p g S5
  go_wp2_with fail
  clear x1 x2 x3 x4
  refine (rplace_ex S6.ps).mono ?_
  rintro e w7 ⟨q2, rfl, p, g, hq2⟩
  have S7 := S6.call p g
  obtain ⟨x1, x2, x3, x4⟩ := S7.cells
  clear p g S6
  cases fr
  · go_wp2_with fail
    have S7 := S7.set 7 (.int .i64 q2) (c' := #[.int .u8 nm, .int .i64 P, .int .i64 0, .int .i64 0, .int .i64 0, .int .i64 q0, .int .i64 q1, .int .i64 q2, .int .i64 0, .int .i64 0]) rfl
    clear x1 x2 x3 x4
    refine (rmust_ex S7.ps _).mono ?_
    rintro e w8 ⟨j1, c1, rfl, p, g, k1⟩
    have S8 := S7.call p g
    obtain ⟨x1, x2, x3, x4⟩ := S8.cells
    clear p g S7
    go_wp2_with fail
    clear x1 x2 x3 x4
    refine (rplace_ex S8.ps).mono ?_
    rintro e w9 ⟨q3, rfl, p, g, hq3⟩
    have S9 := S8.call p g
    obtain ⟨x1, x2, x3, x4⟩ := S9.cells
    clear p g S8
    go_wp2_with fail
    have S9 := S9.set 8 (.int .i64 q3) (c' := #[.int .u8 nm, .int .i64 P, .int .i64 0, .int .i64 0, .int .i64 0, .int .i64 q0, .int .i64 q1, .int .i64 q2, .int .i64 q3, .int .i64 0]) rfl
    clear x1 x2 x3 x4
    refine (rnumber_ex S9.ps).mono ?_
    rintro e w10 ⟨C, j2, c2, rfl, p, g, k2⟩
    have S10 := S9.call p g
    obtain ⟨x1, x2, x3, x4⟩ := S10.cells
    clear p g S9
    go_wp2_with fail
    have S10 := S10.set 3 (.int .i64 C) (c' := #[.int .u8 nm, .int .i64 P, .int .i64 0, .int .i64 C, .int .i64 0, .int .i64 q0, .int .i64 q1, .int .i64 q2, .int .i64 q3, .int .i64 0]) rfl
    clear x1 x2 x3 x4
    refine (rmust_ex S10.ps _).mono ?_
    rintro e w11 ⟨j3, c3, rfl, p, g, k3⟩
    have S11 := S10.call p g
    obtain ⟨x1, x2, x3, x4⟩ := S11.cells
    clear p g S10
    go_wp2_with fail
    clear x1 x2 x3 x4
    refine (rplace_ex S11.ps).mono ?_
    rintro e w12 ⟨q4, rfl, p, g, hq4⟩
    have S12 := S11.call p g
    obtain ⟨x1, x2, x3, x4⟩ := S12.cells
    clear p g S11
    go_wp2_with fail
    have S12 := S12.set 9 (.int .i64 q4) (c' := #[.int .u8 nm, .int .i64 P, .int .i64 0, .int .i64 C, .int .i64 0, .int .i64 q0, .int .i64 q1, .int .i64 q2, .int .i64 q3, .int .i64 q4]) rfl
    clear x1 x2 x3 x4
    refine (rnumber_ex S12.ps).mono ?_
    rintro e w13 ⟨D, j4, c4, rfl, p, g, k4⟩
    have S13 := S12.call p g
    obtain ⟨x1, x2, x3, x4⟩ := S13.cells
    clear p g S12
    go_wp2_with fail
    have S13 := S13.set 4 (.int .i64 D) (c' := #[.int .u8 nm, .int .i64 P, .int .i64 0, .int .i64 C, .int .i64 D, .int .i64 q0, .int .i64 q1, .int .i64 q2, .int .i64 q3, .int .i64 q4]) rfl
    clear x1 x2 x3 x4
    refine (rmark_ex S13.ps 59 (by decide)).mono ?_
    rintro e w14 ⟨j5, c5, rfl, p, g, k5⟩
    have S14 := S13.call p g
    obtain ⟨x1, x2, x3, x4⟩ := S14.cells
    clear p g S13
    go_wp2
    have hbb := S14.hb
    have hrr := S14.hr
    refine bodyPost_ret (v := tkRaw nm P 0 C D q0 q1 q2 q3 q4) (by simp [results, Tryz.results87, go_sem, x3, tkRaw]) rfl ⟨nm, P, 0, C, D, q0, q1, q2, q3, q4, j5, c5, rfl, ?_, ?_, ?_⟩
    · have Y : ∀ (wz : World) (o : Nat) (v : Value), PS wz b r cap T j5 c5 → PS (wz.setCell ⟨w.heap.size, o, none⟩ v) b r cap T j5 c5 := fun wz o v hz => hz.setOther (by omega) (by omega) o v
      exact Y _ _ _ (Y _ _ _ (Y _ _ _ (Y _ _ _ (Y _ _ _ (Y _ _ _ (Y _ _ _ (Y _ _ _ (Y _ _ _ (Y _ _ _ S14.ps)))))))))
    · have Y : ∀ (wz : World) (o : Nat) (v : Value), w.grownBy wz (some b) → w.grownBy (wz.setCell ⟨w.heap.size, o, none⟩ v) (some b) := fun wz o v hz => grownBy_setNew hz (Nat.le_refl _) o v
      exact Y _ _ _ (Y _ _ _ (Y _ _ _ (Y _ _ _ (Y _ _ _ (Y _ _ _ (Y _ _ _ (Y _ _ _ (Y _ _ _ (Y _ _ _ S14.g)))))))))
    · rcases task_chain (O := 0) (i5 := i4) (b5 := b3) h1.out h2.out h3.out h4.out (by simp) k1.out k2.out k3.out k4.out k5.out with ⟨r1, r2⟩ | ⟨r1, t, r2, s0, s1, s2, s3, s4, s5, s6, s7, s8, s9⟩
      · exact .inl ⟨r1, r2⟩
      · refine .inr ⟨r1, t, r2, ?_⟩
        unfold tkV
        rw [s0, s1, s2, s3, s4, s5, s6, s7, s8, s9, hq0.out, hq1.out, hq2.out, hq3.out, hq4.out]
  · go_wp2_with fail
    have S7 := S7.set 7 (.int .i64 q2) (c' := #[.int .u8 nm, .int .i64 P, .int .i64 0, .int .i64 0, .int .i64 0, .int .i64 q0, .int .i64 q1, .int .i64 q2, .int .i64 0, .int .i64 0]) rfl
    clear x1 x2 x3 x4
    refine (rnumber_ex S7.ps).mono ?_
    rintro e w8 ⟨O, i5, b5, rfl, p, g, h5⟩
    have S8 := S7.call p g
    obtain ⟨x1, x2, x3, x4⟩ := S8.cells
    clear p g S7
    go_wp2_with fail
    have S8 := S8.set 2 (.int .i64 O) (c' := #[.int .u8 nm, .int .i64 P, .int .i64 O, .int .i64 0, .int .i64 0, .int .i64 q0, .int .i64 q1, .int .i64 q2, .int .i64 0, .int .i64 0]) rfl
    clear x1 x2 x3 x4
    refine (rmust_ex S8.ps _).mono ?_
    rintro e w9 ⟨j1, c1, rfl, p, g, k1⟩
    have S9 := S8.call p g
    obtain ⟨x1, x2, x3, x4⟩ := S9.cells
    clear p g S8
    go_wp2_with fail
    clear x1 x2 x3 x4
    refine (rplace_ex S9.ps).mono ?_
    rintro e w10 ⟨q3, rfl, p, g, hq3⟩
    have S10 := S9.call p g
    obtain ⟨x1, x2, x3, x4⟩ := S10.cells
    clear p g S9
    go_wp2_with fail
    have S10 := S10.set 8 (.int .i64 q3) (c' := #[.int .u8 nm, .int .i64 P, .int .i64 O, .int .i64 0, .int .i64 0, .int .i64 q0, .int .i64 q1, .int .i64 q2, .int .i64 q3, .int .i64 0]) rfl
    clear x1 x2 x3 x4
    refine (rnumber_ex S10.ps).mono ?_
    rintro e w11 ⟨C, j2, c2, rfl, p, g, k2⟩
    have S11 := S10.call p g
    obtain ⟨x1, x2, x3, x4⟩ := S11.cells
    clear p g S10
    go_wp2_with fail
    have S11 := S11.set 3 (.int .i64 C) (c' := #[.int .u8 nm, .int .i64 P, .int .i64 O, .int .i64 C, .int .i64 0, .int .i64 q0, .int .i64 q1, .int .i64 q2, .int .i64 q3, .int .i64 0]) rfl
    clear x1 x2 x3 x4
    refine (rmust_ex S11.ps _).mono ?_
    rintro e w12 ⟨j3, c3, rfl, p, g, k3⟩
    have S12 := S11.call p g
    obtain ⟨x1, x2, x3, x4⟩ := S12.cells
    clear p g S11
    go_wp2_with fail
    clear x1 x2 x3 x4
    refine (rplace_ex S12.ps).mono ?_
    rintro e w13 ⟨q4, rfl, p, g, hq4⟩
    have S13 := S12.call p g
    obtain ⟨x1, x2, x3, x4⟩ := S13.cells
    clear p g S12
    go_wp2_with fail
    have S13 := S13.set 9 (.int .i64 q4) (c' := #[.int .u8 nm, .int .i64 P, .int .i64 O, .int .i64 C, .int .i64 0, .int .i64 q0, .int .i64 q1, .int .i64 q2, .int .i64 q3, .int .i64 q4]) rfl
    clear x1 x2 x3 x4
    refine (rnumber_ex S13.ps).mono ?_
    rintro e w14 ⟨D, j4, c4, rfl, p, g, k4⟩
    have S14 := S13.call p g
    obtain ⟨x1, x2, x3, x4⟩ := S14.cells
    clear p g S13
    go_wp2_with fail
    have S14 := S14.set 4 (.int .i64 D) (c' := #[.int .u8 nm, .int .i64 P, .int .i64 O, .int .i64 C, .int .i64 D, .int .i64 q0, .int .i64 q1, .int .i64 q2, .int .i64 q3, .int .i64 q4]) rfl
    clear x1 x2 x3 x4
    refine (rmark_ex S14.ps 59 (by decide)).mono ?_
    rintro e w15 ⟨j5, c5, rfl, p, g, k5⟩
    have S15 := S14.call p g
    obtain ⟨x1, x2, x3, x4⟩ := S15.cells
    clear p g S14
    go_wp2
    have hbb := S15.hb
    have hrr := S15.hr
    refine bodyPost_ret (v := tkRaw nm P O C D q0 q1 q2 q3 q4) (by simp [results, Tryz.results87, go_sem, x3, tkRaw]) rfl ⟨nm, P, O, C, D, q0, q1, q2, q3, q4, j5, c5, rfl, ?_, ?_, ?_⟩
    · have Y : ∀ (wz : World) (o : Nat) (v : Value), PS wz b r cap T j5 c5 → PS (wz.setCell ⟨w.heap.size, o, none⟩ v) b r cap T j5 c5 := fun wz o v hz => hz.setOther (by omega) (by omega) o v
      exact Y _ _ _ (Y _ _ _ (Y _ _ _ (Y _ _ _ (Y _ _ _ (Y _ _ _ (Y _ _ _ (Y _ _ _ (Y _ _ _ (Y _ _ _ S15.ps)))))))))
    · have Y : ∀ (wz : World) (o : Nat) (v : Value), w.grownBy wz (some b) → w.grownBy (wz.setCell ⟨w.heap.size, o, none⟩ v) (some b) := fun wz o v hz => grownBy_setNew hz (Nat.le_refl _) o v
      exact Y _ _ _ (Y _ _ _ (Y _ _ _ (Y _ _ _ (Y _ _ _ (Y _ _ _ (Y _ _ _ (Y _ _ _ (Y _ _ _ (Y _ _ _ S15.g)))))))))
    · rcases task_chain h1.out h2.out h3.out h4.out (by simpa using h5.out) k1.out k2.out k3.out k4.out k5.out with ⟨r1, r2⟩ | ⟨r1, t, r2, s0, s1, s2, s3, s4, s5, s6, s7, s8, s9⟩
      · exact .inl ⟨r1, r2⟩
      · refine .inr ⟨r1, t, r2, ?_⟩
        unfold tkV
        rw [s0, s1, s2, s3, s4, s5, s6, s7, s8, s9, hq0.out, hq1.out, hq2.out, hq3.out, hq4.out]
end
end Go.Proofs.YtbdffcjganlblaaGreatDoor

namespace Go.Proofs.YtbdffcjganlblaaGreatDoor
set_option linter.unusedVariables false
set_option linter.unusedSimpArgs false

/-- A job of the cycle. -/
structure Jb where
  ltr : UInt8
  num : Nat
  tsk : Nat
  rel : Nat
  dl : Nat
  cost : Nat
def jk (js : List Jb) (k : Nat) : Jb := js.getD k ⟨0, 0, 0, 0, 0, 0⟩
theorem jk_get {js : List Jb} {k : Nat} (h : k < js.length) : jk js k = js[k] := by simp [jk, List.getD_eq_getElem?_getD, h]
def jobsT (cyc i : Nat) (t : Tk) : List Jb := (List.range (cyc / t.P)).map fun k => ⟨t.nm, k, i, k * t.P + t.O, k * t.P + t.O + t.D, t.C⟩
/-- The jobs of the tasks, from number i on. -/
def jobsL (cyc : Nat) : Nat → List Tk → List Jb
  | _, [] => []
  | i, t :: r => jobsT cyc i t ++ jobsL cyc (i + 1) r
theorem jobsL_snoc (cyc : Nat) : ∀ (l : List Tk) (i : Nat) (t : Tk), jobsL cyc i (l ++ [t]) = jobsL cyc i l ++ jobsT cyc (i + l.length) t
  | [], i, t => by simp [jobsL]
  | x :: r, i, t => by
    simp only [List.cons_append, jobsL, jobsL_snoc cyc r (i + 1) t, List.append_assoc, List.length_cons]
    rw [show i + 1 + r.length = i + (r.length + 1) by omega]

/-- By the deadline, then by the task. -/
def keyJ (js : List Jb) (k : Nat) : Nat := (jk js k).dl * 1000 + (jk js k).tsk
def updL (left : Nat → Nat) (k v : Nat) : Nat → Nat := fun i => if i = k then v else left i
def doneN (js : List Jb) (left : Nat → Nat) (c : UInt8) (n : Nat) : Bool := (List.range js.length).all fun i => !((jk js i).ltr == c && (jk js i).num == n) || left i == 0
def busyN (js : List Jb) (left : Nat → Nat) (c : UInt8) : Bool := (List.range js.length).any fun i => (jk js i).ltr == c && (decide (0 < left i) && decide (left i < (jk js i).cost))
def holdsN (js : List Jb) (left : Nat → Nat) (k : Nat) (p : Pr) : Bool :=
  if p.ap = false then (jk js k).ltr == p.b && !doneN js left p.a (jk js k).num
  else if (jk js k).ltr = p.a then busyN js left p.b
  else if (jk js k).ltr = p.b then busyN js left p.a else false
/-- May the job run in a frame with that end? -/
def mayJ (js : List Jb) (ps : List Pr) (left : Nat → Nat) (e k : Nat) : Bool := decide (e ≤ (jk js k).dl) && !(ps.any (holdsN js left k))
def leastB (key : Nat → Nat) : List Nat → Option Nat
  | [] => none
  | x :: r => match leastB key r with
    | none => some x
    | some y => if key x ≤ key y then some x else some y
theorem leastB_none {key : Nat → Nat} : ∀ {l : List Nat}, leastB key l = none → l = []
  | [], _ => rfl
  | x :: r, h => by
    rw [leastB] at h
    cases hr : leastB key r with
    | none => rw [hr] at h; simp at h
    | some y =>
      rw [hr] at h
      simp only at h
      split at h <;> simp at h
theorem leastB_some {key : Nat → Nat} : ∀ {l : List Nat} {k : Nat}, leastB key l = some k → k ∈ l ∧ ∀ x ∈ l, key k ≤ key x
  | [], k, h => by simp [leastB] at h
  | x :: r, k, h => by
    rw [leastB] at h
    cases hr : leastB key r with
    | none =>
      rw [hr] at h
      have := leastB_none hr
      simp at h
      subst this h
      simp
    | some y =>
      obtain ⟨h1, h2⟩ := leastB_some hr
      rw [hr] at h
      simp only at h
      split at h
      · rename_i hle
        simp at h
        subst h
        refine ⟨by simp, fun z hz => ?_⟩
        rcases List.mem_cons.1 hz with rfl | hz
        · exact Nat.le_refl _
        · exact Nat.le_trans hle (h2 z hz)
      · rename_i hle
        simp at h
        subst h
        refine ⟨by simp [h1], fun z hz => ?_⟩
        rcases List.mem_cons.1 hz with rfl | hz
        · omega
        · exact h2 z hz
/-- Ready in the frame that begins at s. -/
def rdyJ (js : List Jb) (left : Nat → Nat) (s k : Nat) : Bool := decide ((jk js k).rel ≤ s) && decide (0 < left k)
def pickJ (js : List Jb) (ps : List Pr) (left : Nat → Nat) (s e : Nat) : Option Nat := leastB (keyJ js) ((List.range js.length).filter fun k => rdyJ js left s k && mayJ js ps left e k)
/-- The slices of the frame from s to e, from the time a on (fuel f): job and budget; what is left then. -/
def fillJ (js : List Jb) (ps : List Pr) (s e : Nat) : Nat → Nat → (Nat → Nat) → List (Nat × Nat) × (Nat → Nat)
  | 0, _, left => ([], left)
  | f + 1, a, left =>
    if a < e then
      match pickJ js ps left s e with
      | none => ([], left)
      | some k => let r := fillJ js ps s e f (a + min (left k) (e - a)) (updL left k (left k - min (left k) (e - a))); ((k, min (left k) (e - a)) :: r.1, r.2)
    else ([], left)
/-- The frames from s on. -/
def planJ (js : List Jb) (ps : List Pr) (fr : Nat) : Nat → Nat → (Nat → Nat) → List (List (Nat × Nat)) × (Nat → Nat)
  | 0, _, left => ([], left)
  | n + 1, s, left => let r := fillJ js ps s (s + fr) fr s left; let q := planJ js ps fr n (s + fr) r.2; (r.1 :: q.1, q.2)
def costJ (js : List Jb) : Nat → Nat := fun k => (jk js k).cost
def allJ (js : List Jb) (left : Nat → Nat) : Bool := (List.range js.length).all fun k => left k == 0
/-- The plan with frames of fr. -/
def runJ (js : List Jb) (ps : List Pr) (cyc fr : Nat) : List (List (Nat × Nat)) × (Nat → Nat) := planJ js ps fr (cyc / fr) 0 (costJ js)
def goesJ (js : List Jb) (ps : List Pr) (cyc fr : Nat) : Bool := allJ js (runJ js ps cyc fr).2
/-- The greatest frame from f down that goes; 0: none. -/
def wideJ (js : List Jb) (ps : List Pr) (cyc : Nat) : Nat → Nat
  | 0 => 0
  | f + 1 => if cyc % (f + 1) = 0 ∧ goesJ js ps cyc (f + 1) = true then f + 1 else wideJ js ps cyc f
end Go.Proofs.YtbdffcjganlblaaGreatDoor

namespace Go.Proofs.YtbdffcjganlblaaGreatDoor
open Go.RowKit
set_option linter.unusedVariables false
set_option linter.unusedSimpArgs false

def wTask : ByteArray := ⟨#[116, 97, 115, 107]⟩
def wBefore : ByteArray := ⟨#[98, 101, 102, 111, 114, 101]⟩
def wApart : ByteArray := ⟨#[97, 112, 97, 114, 116]⟩

/-- Tasks behind the first word 'task': at most f of them. -/
def pTasks : Nat → List PT → Nat → Except Nat (List Tk × Nat)
  | 0, _, i => .error i
  | f + 1, T, i =>
    match pTask T i with
    | .error e => .error e
    | .ok (t, j) =>
      if decide (0 < f) && sees (tk T j) wTask then
        match pTasks f T (j + 1) with
        | .error e => .error e
        | .ok (ts, k) => .ok (t :: ts, k)
      else .ok ([t], j)

def pPairs : Nat → List PT → Nat → Except Nat (List Pr × Nat)
  | 0, _, i => .ok ([], i)
  | f + 1, T, i =>
    if sees (tk T i) wBefore || sees (tk T i) wApart then
      match pPair T (!(sees (tk T i) wBefore)) (i + 1) with
      | .error e => .error e
      | .ok (p, j) =>
        match pPairs f T j with
        | .error e => .error e
        | .ok (ps, k) => .ok (p :: ps, k)
    else .ok ([], i)

def pFirst (T : List PT) : Except Nat (List Tk × Nat) := if sees (tk T 0) wTask then pTasks 6 T 1 else .error 0

/-- The task set that the tokens say, or the number of the token that cannot stand there. -/
def pSet (T : List PT) : Except Nat (List Tk × List Pr) :=
  match pFirst T with
  | .error e => .error e
  | .ok (ts, j) =>
    match pPairs 6 T j with
    | .error e => .error e
    | .ok (ps, k) => if (tk T k).k == 101 then .ok (ts, ps) else .error k

def tkCells (t : Tk) : List Value := [.int .u8 t.nm.toNat, .int .i64 t.P, .int .i64 t.O, .int .i64 t.C, .int .i64 t.D, .int .i64 t.q0, .int .i64 t.q1, .int .i64 t.q2, .int .i64 t.q3, .int .i64 t.q4]
def prCells (p : Pr) : List Value := [.int .u8 p.a.toNat, .int .u8 p.b.toNat, .bool p.ap, .int .i64 p.q0, .int .i64 p.q1]
def tkRow (ts : List Tk) : List Value := ts.flatMap tkCells
def prRow (ps : List Pr) : List Value := ps.flatMap prCells

/-- How far the tasks have been read: 'more': the next one's word has been passed. -/
def TasksR (T : List PT) (i : Nat) (bad more : Bool) (n : Nat) (xs : List Value) : Prop :=
  (bad = true ∧ more = false ∧ pFirst T = .error i) ∨
  (bad = false ∧ ∃ done : List Tk, xs = tkRow done ∧ n = done.length ∧
    ((more = false ∧ pFirst T = .ok (done, i)) ∨
     (more = true ∧ n < 6 ∧ pFirst T = match pTasks (6 - n) T i with
        | .error e => .error e
        | .ok (ts, k) => .ok (done ++ ts, k))))

theorem tasksR_step {T : List PT} {i : Nat} {n : Nat} {xs : List Value} (h : TasksR T i false true n xs) {i1 i2 : Nat} {bad1 ok : Bool} {news : List Value}
    (h1 : (bad1 = true ∧ pTask T i = .error i1) ∨ (bad1 = false ∧ ∃ t, pTask T i = .ok (t, i1) ∧ news = tkCells t))
    (h2 : ok = (decide (n + 1 < 6) && (!bad1 && sees (tk T i1) wTask)) ∧ i2 = if ok then i1 + 1 else i1) :
    TasksR T i2 bad1 ok (n + 1) (xs ++ news) := by
  rcases h with ⟨h, _⟩ | ⟨_, done, hx, hn, ⟨h, _⟩ | ⟨_, h6, hR⟩⟩
  · exact absurd h (by simp)
  · exact absurd h (by simp)
  · obtain ⟨f, hf⟩ : ∃ f, 6 - n = f + 1 := ⟨5 - n, by omega⟩
    rw [hf, pTasks] at hR
    obtain ⟨ho, hi2⟩ := h2
    rcases h1 with ⟨hb, he⟩ | ⟨hb, t, he, hnews⟩
    · subst hb
      simp at ho
      subst ho
      simp at hi2
      subst hi2
      rw [he] at hR
      exact .inl ⟨rfl, rfl, hR⟩
    · subst hb
      rw [he] at hR
      simp only at hR
      have hfd : decide (0 < f) = decide (n + 1 < 6) := by simp; omega
      rw [hfd] at hR
      refine .inr ⟨rfl, done ++ [t], ?_, by simp [hn], ?_⟩
      · rw [hx, hnews]; simp [tkRow]
      · simp only [Bool.not_false, Bool.true_and] at ho
        cases hok : ok
        · left
          rw [hok] at ho hi2
          rw [← ho] at hR
          simp at hi2
          subst hi2
          exact ⟨rfl, by rw [hR]; simp⟩
        · right
          rw [hok] at ho hi2
          rw [← ho] at hR
          simp only [if_true] at hR hi2
          subst hi2
          have hlt : n + 1 < 6 := by
            have := ho.symm
            simp at this
            omega
          refine ⟨rfl, hlt, ?_⟩
          rw [hR, show 6 - (n + 1) = f by omega]
          cases pTasks f T (i1 + 1) <;> simp

/-- How far the pairs have been read: 'more': it is asked once more. -/
def PairsR (T : List PT) (i : Nat) (bad more : Bool) (n : Nat) (xs : List Value) (m : Nat) (ys : List Value) : Prop :=
  m ≤ 6 ∧ ((bad = true ∧ pSet T = .error i) ∨
  (bad = false ∧ ∃ (ts : List Tk) (done : List Pr) (j0 : Nat), xs = tkRow ts ∧ n = ts.length ∧ ys = prRow done ∧ m = done.length ∧ pFirst T = .ok (ts, j0) ∧
    ((more = false ∧ pPairs 6 T j0 = .ok (done, i)) ∨
     (more = true ∧ pPairs 6 T j0 = match pPairs (6 - m) T i with
        | .error e => .error e
        | .ok (ps, k) => .ok (done ++ ps, k)))))

theorem pairsR_start {T : List PT} {i : Nat} {bad : Bool} {n : Nat} {xs : List Value} (h : TasksR T i bad false n xs) : PairsR T i bad true n xs 0 [] := by
  refine ⟨by omega, ?_⟩
  rcases h with ⟨hb, _, h⟩ | ⟨hb, done, hx, hn, ⟨_, h⟩ | ⟨h, _⟩⟩
  · exact .inl ⟨hb, by unfold pSet; rw [h]⟩
  · refine .inr ⟨hb, done, [], i, hx, hn, rfl, rfl, h, .inr ⟨rfl, ?_⟩⟩
    cases pPairs 6 T i <;> simp
  · exact absurd h (by simp)

/-- A round that finds no pair. -/
theorem pairsR_none {T : List PT} {i : Nat} {bad : Bool} {n m : Nat} {xs ys : List Value} (h : PairsR T i bad true n xs m ys)
    (hno : bad = true ∨ m = 6 ∨ (sees (tk T i) wBefore = false ∧ sees (tk T i) wApart = false)) : PairsR T i bad false n xs m ys := by
  obtain ⟨h6, h⟩ := h
  refine ⟨h6, ?_⟩
  rcases h with h | ⟨hb, ts, done, j0, hx, hn, hy, hm, hF, ⟨h, _⟩ | ⟨_, h⟩⟩
  · exact .inl h
  · exact absurd h (by simp)
  · refine .inr ⟨hb, ts, done, j0, hx, hn, hy, hm, hF, .inl ⟨rfl, ?_⟩⟩
    have hp : pPairs (6 - m) T i = .ok ([], i) := by
      rcases hno with hno | hno | ⟨h1, h2⟩
      · rw [hb] at hno; exact absurd hno (by simp)
      · rw [hno]; rfl
      · cases hq : 6 - m with
        | zero => rfl
        | succ f => rw [pPairs, h1, h2]; simp
    rw [h, hp]; simp

/-- A round that finds a pair. -/
theorem pairsR_step {T : List PT} {i : Nat} {n m : Nat} {xs ys : List Value} (h : PairsR T i false true n xs m ys) (hm6 : m < 6) {ap : Bool}
    (hs : (sees (tk T i) wBefore || sees (tk T i) wApart) = true) (hap : ap = !(sees (tk T i) wBefore)) {i1 : Nat} {bad1 : Bool} {news : List Value}
    (h1 : (bad1 = true ∧ pPair T ap (i + 1) = .error i1) ∨ (bad1 = false ∧ ∃ p, pPair T ap (i + 1) = .ok (p, i1) ∧ news = prCells p)) :
    PairsR T i1 bad1 true n xs (m + 1) (ys ++ news) := by
  obtain ⟨h6, h⟩ := h
  refine ⟨by omega, ?_⟩
  rcases h with ⟨h, _⟩ | ⟨_, ts, done, j0, hx, hn, hy, hm, hF, ⟨h, _⟩ | ⟨_, h⟩⟩
  · exact absurd h (by simp)
  · exact absurd h (by simp)
  · obtain ⟨f, hf⟩ : ∃ f, 6 - m = f + 1 := ⟨5 - m, by omega⟩
    have hp : pPairs (f + 1) T i = match pPair T ap (i + 1) with
      | .error e => .error e
      | .ok (p, j) =>
        match pPairs f T j with
        | .error e => .error e
        | .ok (ps, k) => .ok (p :: ps, k) := by rw [pPairs, if_pos hs, ← hap]
    rw [hf, hp] at h
    rcases h1 with ⟨hb, he⟩ | ⟨hb, p, he, hnews⟩
    · rw [he] at h
      refine .inl ⟨hb, ?_⟩
      unfold pSet
      rw [hF]
      simp only [h]
    · rw [he] at h
      refine .inr ⟨hb, ts, done ++ [p], j0, hx, hn, ?_, by simp [hm], hF, .inr ⟨rfl, ?_⟩⟩
      · rw [hy, hnews]; simp [prRow]
      · rw [h, show 6 - (m + 1) = f by omega]
        simp only
        generalize pPairs f T i1 = R
        cases R <;> simp

theorem pairsR_end {T : List PT} {i : Nat} {bad : Bool} {n m : Nat} {xs ys : List Value} (h : PairsR T i bad false n xs m ys) :
    (bad = true ∧ pSet T = .error i) ∨ (bad = false ∧ ((tk T i).k == 101) = false ∧ pSet T = .error i) ∨
    (bad = false ∧ ((tk T i).k == 101) = true ∧ ∃ ts ps, pSet T = .ok (ts, ps) ∧ xs = tkRow ts ∧ n = ts.length ∧ ys = prRow ps ∧ m = ps.length) := by
  obtain ⟨h6, h⟩ := h
  rcases h with h | ⟨hb, ts, done, j0, hx, hn, hy, hm, hF, ⟨_, h⟩ | ⟨h, _⟩⟩
  · exact .inl h
  · cases hk : ((tk T i).k == 101)
    · exact .inr (.inl ⟨hb, rfl, by unfold pSet; rw [hF]; simp only [h]; rw [hk]; rfl⟩)
    · exact .inr (.inr ⟨hb, rfl, ts, done, by unfold pSet; rw [hF]; simp only [h]; rw [hk]; rfl, hx, hn, hy, hm⟩)
  · exact absurd h (by simp)

/-! ### The memory of a parse -/

structure PW (w wk : World) (B r cap : Nat) (T : List PT) (i : Nat) (bad : Bool) (tv : Value) (n : Nat) (xs : List Value) (pv : Value) (m : Nat) (ys : List Value) (base2 : Nat) : Prop where
  ps : PS wk B r cap T i bad
  hx : wk.heap[B + 1]? = some (.cells #[tv, pv] 53 (0, 0))
  hy : wk.heap[w.heap.size]? = some (.cells #[.slice none 0 0, .slice none 0 0] 53 (0, 0))
  ot : wk.ownsRow (B + 2) 95 10 tv n xs
  op : wk.ownsRow base2 133 5 pv m ys
  g : w.grownBy wk none
  h1 : w.heap.size < r
  h2 : r < B
  h3 : B + 2 ≤ base2
  h4 : B + 2 ≤ wk.heap.size
  h5 : pv = .slice none 0 0 ∧ m = 0 ∨ (base2 ≤ wk.heap.size ∧ ∀ k, tv.ownBlock = some k → k < base2)

section
variable {w wk : World} {B r cap : Nat} {T : List PT} {i : Nat} {bad : Bool} {tv : Value} {n : Nat} {xs : List Value} {pv : Value} {m : Nat} {ys : List Value} {base2 : Nat}

theorem own_ge {wk : World} {base : Nat} {e : TypeId} {size : Nat} {v : Value} {n : Nat} {xs : List Value} (h : wk.ownsRow base e size v n xs) {k : Nat} (hk : k < base) : v.ownBlock ≠ some k := by
  intro e
  have := (h.lt k e).1
  omega

theorem PW.call (h : PW w wk B r cap T i bad tv n xs pv m ys base2) {w' : World} {i' : Nat} {bad' : Bool} (p : PS w' B r cap T i' bad') (g : wk.grownBy w' (some B)) : PW w w' B r cap T i' bad' tv n xs pv m ys base2 := by
  have h1 := h.h1
  have h2 := h.h2
  have h3 := h.h3
  have h4 := h.h4
  refine ⟨p, ?_, ?_, h.ot.kept g (.inr (own_ge h.ot (by omega))), h.op.kept g (.inr (own_ge h.op (by omega))), grownBy_new h.g g (by omega), h1, h2, h3, by have := g.size; omega, ?_⟩
  · rw [g.block _ (by omega) (by simp)]; exact h.hx
  · rw [g.block _ (by omega) (by simp; omega)]; exact h.hy
  · rcases h.h5 with h5 | ⟨h5, h6⟩
    · exact .inl h5
    · exact .inr ⟨by have := g.size; omega, h6⟩

theorem PW.cells (h : PW w wk B r cap T i bad tv n xs pv m ys base2) : wk.cell? ⟨B + 1, 0, none⟩ = some tv ∧ wk.cell? ⟨B + 1, 1, none⟩ = some pv ∧ (∀ o, wk.frozen? ⟨B + 1, o, none⟩ = false) ∧ (∀ o, wk.cell? ⟨w.heap.size, o, none⟩ = #[Value.slice none 0 0, .slice none 0 0][o]?) ∧ (∀ o, wk.frozen? ⟨w.heap.size, o, none⟩ = false) :=
  ⟨by rw [blk_cell h.hx]; rfl, by rw [blk_cell h.hx]; rfl, blk_frozen h.hx, blk_cell h.hy, blk_frozen h.hy⟩

/-- A task is appended. -/
theorem PW.pushT (h : PW w wk B r cap T i bad tv n xs (.slice none 0 0) 0 [] base2) {o1 o2 : Obj} {w2 : World} {v' : Value} {news : List Value} (hg : ((wk.alloc o1).alloc o2).grownBy w2 tv.ownBlock)
    (hown : w2.ownsRow (B + 2) 95 10 v' (n + 1) (xs ++ news)) : PW w (w2.setCell ⟨B + 1, 0, none⟩ v') B r cap T i bad v' (n + 1) (xs ++ news) (.slice none 0 0) 0 [] base2 := by
  have h1 := h.h1
  have h2 := h.h2
  have h4 := h.h4
  have hsz := hg.size
  simp only [World.size_alloc] at hsz
  have hp := ((h.ps.alloc o1).alloc o2).grown hg (own_ge h.ot (by omega)) (own_ge h.ot (by omega))
  have hx2 : w2.heap[B + 1]? = some (.cells #[tv, .slice none 0 0] 53 (0, 0)) := by
    rw [hg.block _ (by simp; omega) (fun e => own_ge h.ot (k := B + 1) (by omega) e.symm), Below.heap_alloc _ _ _ (by simp; omega), Below.heap_alloc _ _ _ (by omega)]; exact h.hx
  have hy2 : w2.heap[w.heap.size]? = some (.cells #[.slice none 0 0, .slice none 0 0] 53 (0, 0)) := by
    rw [hg.block _ (by simp; omega) (fun e => own_ge h.ot (k := w.heap.size) (by omega) e.symm), Below.heap_alloc _ _ _ (by simp; omega), Below.heap_alloc _ _ _ (by omega)]; exact h.hy
  have hgw : w.grownBy w2 none := by
    have ha := grownBy_alloc' (grownBy_alloc' h.g o1) o2
    refine ⟨hg.os.trans ha.os, hg.tape.trans ha.tape, hg.output.trans ha.output, Nat.le_trans ha.size hg.size, fun k hk hne => ?_⟩
    rw [hg.block k (by simp; omega) (fun e => own_ge h.ot (k := k) (by omega) e.symm)]
    exact ha.block k hk hne
  refine ⟨hp.setOther (by omega) (by omega) _ _, ?_, ?_, ownsRow_setCell_below hown (by show B + 1 < B + 2; omega) _, World.ownsRow_nil _ _ _ _, grownBy_setNew hgw (by omega) _ _, h1, h2, h.h3, by rw [heap_set_size]; omega, .inl ⟨rfl, rfl⟩⟩
  · rw [blk_set hx2]; rfl
  · rw [Below.heap_setCell _ _ _ _ (by show w.heap.size ≠ B + 1; omega)]; exact hy2

/-- A pair is appended. -/
theorem PW.pushP (h : PW w wk B r cap T i bad tv n xs pv m ys base2) (hb2 : base2 ≤ wk.heap.size) (hdis : ∀ k, tv.ownBlock = some k → k < base2) {o1 o2 : Obj} {w2 : World} {v' : Value} {news : List Value} (hg : ((wk.alloc o1).alloc o2).grownBy w2 pv.ownBlock)
    (hown : w2.ownsRow base2 133 5 v' (m + 1) (ys ++ news)) : PW w (w2.setCell ⟨B + 1, 1, none⟩ v') B r cap T i bad tv n xs v' (m + 1) (ys ++ news) base2 := by
  have h1 := h.h1
  have h2 := h.h2
  have h3 := h.h3
  have h4 := h.h4
  have hsz := hg.size
  simp only [World.size_alloc] at hsz
  have hp := ((h.ps.alloc o1).alloc o2).grown hg (own_ge h.op (by omega)) (own_ge h.op (by omega))
  have hx2 : w2.heap[B + 1]? = some (.cells #[tv, pv] 53 (0, 0)) := by
    rw [hg.block _ (by simp; omega) (fun e => own_ge h.op (k := B + 1) (by omega) e.symm), Below.heap_alloc _ _ _ (by simp; omega), Below.heap_alloc _ _ _ (by omega)]; exact h.hx
  have hy2 : w2.heap[w.heap.size]? = some (.cells #[.slice none 0 0, .slice none 0 0] 53 (0, 0)) := by
    rw [hg.block _ (by simp; omega) (fun e => own_ge h.op (k := w.heap.size) (by omega) e.symm), Below.heap_alloc _ _ _ (by simp; omega), Below.heap_alloc _ _ _ (by omega)]; exact h.hy
  have hgw : w.grownBy w2 none := by
    have ha := grownBy_alloc' (grownBy_alloc' h.g o1) o2
    refine ⟨hg.os.trans ha.os, hg.tape.trans ha.tape, hg.output.trans ha.output, Nat.le_trans ha.size hg.size, fun k hk hne => ?_⟩
    rw [hg.block k (by simp; omega) (fun e => own_ge h.op (k := k) (by omega) e.symm)]
    exact ha.block k hk hne
  have hot : w2.ownsRow (B + 2) 95 10 tv n xs := by
    refine ((h.ot.alloc o1).alloc o2).kept hg ?_
    cases hq : tv.ownBlock with
    | none => exact .inl rfl
    | some k => exact .inr (own_ge h.op (hdis k hq)).symm
  refine ⟨hp.setOther (by omega) (by omega) _ _, ?_, ?_, ownsRow_setCell_below hot (by show B + 1 < B + 2; omega) _, ownsRow_setCell_below hown (by show B + 1 < base2; omega) _, grownBy_setNew hgw (by omega) _ _, h1, h2, h3, by rw [heap_set_size]; omega, .inr ⟨by rw [heap_set_size]; omega, hdis⟩⟩
  · rw [blk_set hx2]; rfl
  · rw [Below.heap_setCell _ _ _ _ (by show w.heap.size ≠ B + 1; omega)]; exact hy2
end
end Go.Proofs.YtbdffcjganlblaaGreatDoor
