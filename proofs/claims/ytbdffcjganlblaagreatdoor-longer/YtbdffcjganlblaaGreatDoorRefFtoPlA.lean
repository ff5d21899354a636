/-
  Own work. The document's parser: a task.
-/
import Derived.Test.YtbdffcjganlblaaGreatDoorRefCtoRefE
import Derived.Test.YtbdffcjganlblaaGreatDoorHpAtoWalkB
namespace Go.Proofs.YtbdffcjganlblaaGreatDoor
open Go.RowKit
set_option linter.unusedVariables false
set_option linter.unusedSimpArgs false

/-- A task, with its places. -/
structure Tk where
  nm : UInt8
  P : Nat
  O : Nat
  C : Nat
  D : Nat
  q0 : Nat
  q1 : Nat
  q2 : Nat
  q3 : Nat
  q4 : Nat

def wEvery : ByteArray := ⟨#[101, 118, 101, 114, 121]⟩
def wFrom : ByteArray := ⟨#[102, 114, 111, 109]⟩
def wTakes : ByteArray := ⟨#[116, 97, 107, 101, 115]⟩
def wWithin : ByteArray := ⟨#[119, 105, 116, 104, 105, 110]⟩

/-- What stands behind the offset. -/
def pRest (T : List PT) (nm : UInt8) (P O q0 q1 q2 j : Nat) : Except Nat (Tk × Nat) :=
  if sees (tk T j) wTakes then
    if (tk T (j + 1)).k == 110 then
      if sees (tk T (j + 2)) wWithin then
        if (tk T (j + 3)).k == 110 then
          if (tk T (j + 4)).k == 59 then .ok (⟨nm, P, O, (tk T (j + 1)).N, (tk T (j + 3)).N, q0, q1, q2, (tk T (j + 1)).at_, (tk T (j + 3)).at_⟩, j + 5) else .error (j + 4)
        else .error (j + 3)
      else .error (j + 2)
    else .error (j + 1)
  else .error j

/-- A task behind its word. -/
def pTask (T : List PT) (i : Nat) : Except Nat (Tk × Nat) :=
  if isName (tk T i) then
    if sees (tk T (i + 1)) wEvery then
      if (tk T (i + 2)).k == 110 then
        if sees (tk T (i + 3)) wFrom then
          if (tk T (i + 4)).k == 110 then pRest T (nameB (tk T i)) (tk T (i + 2)).N (tk T (i + 4)).N (tk T i).at_ (tk T (i + 2)).at_ (tk T (i + 4)).at_ (i + 5)
          else .error (i + 4)
        else pRest T (nameB (tk T i)) (tk T (i + 2)).N 0 (tk T i).at_ (tk T (i + 2)).at_ (tk T (i + 3)).at_ (i + 3)
      else .error (i + 2)
    else .error (i + 1)
  else .error i

section
variable {w wk : World} {ty : TypeId} {c d : Array Value} {b r cap : Nat} {T : List PT} {i : Nat} {bad : Bool}

end
end Go.Proofs.YtbdffcjganlblaaGreatDoor

namespace Go.Proofs.YtbdffcjganlblaaGreatDoor
set_option linter.unusedVariables false
set_option linter.unusedSimpArgs false

/-- A job of the cycle. -/
structure Jb where
  ltr : UInt8
  num : Nat
  tsk : Nat
  rel : Nat
  dl : Nat
  cost : Nat
def jk (js : List Jb) (k : Nat) : Jb := js.getD k ⟨0, 0, 0, 0, 0, 0⟩
theorem jk_get {js : List Jb} {k : Nat} (h : k < js.length) : jk js k = js[k] := by simp [jk, List.getD_eq_getElem?_getD, h]
def jobsT (cyc i : Nat) (t : Tk) : List Jb := (List.range (cyc / t.P)).map fun k => ⟨t.nm, k, i, k * t.P + t.O, k * t.P + t.O + t.D, t.C⟩
/-- The jobs of the tasks, from number i on. -/
def jobsL (cyc : Nat) : Nat → List Tk → List Jb
  | _, [] => []
  | i, t :: r => jobsT cyc i t ++ jobsL cyc (i + 1) r
theorem jobsL_snoc (cyc : Nat) : ∀ (l : List Tk) (i : Nat) (t : Tk), jobsL cyc i (l ++ [t]) = jobsL cyc i l ++ jobsT cyc (i + l.length) t
  | [], i, t => by simp [jobsL]
  | x :: r, i, t => by
    simp only [List.cons_append, jobsL, jobsL_snoc cyc r (i + 1) t, List.append_assoc, List.length_cons]
    rw [show i + 1 + r.length = i + (r.length + 1) by omega]

/-- By the deadline, then by the task. -/
def keyJ (js : List Jb) (k : Nat) : Nat := (jk js k).dl * 1000 + (jk js k).tsk
def updL (left : Nat → Nat) (k v : Nat) : Nat → Nat := fun i => if i = k then v else left i
def doneN (js : List Jb) (left : Nat → Nat) (c : UInt8) (n : Nat) : Bool := (List.range js.length).all fun i => !((jk js i).ltr == c && (jk js i).num == n) || left i == 0
def busyN (js : List Jb) (left : Nat → Nat) (c : UInt8) : Bool := (List.range js.length).any fun i => (jk js i).ltr == c && (decide (0 < left i) && decide (left i < (jk js i).cost))
def holdsN (js : List Jb) (left : Nat → Nat) (k : Nat) (p : Pr) : Bool :=
  if p.ap = false then (jk js k).ltr == p.b && !doneN js left p.a (jk js k).num
  else if (jk js k).ltr = p.a then busyN js left p.b
  else if (jk js k).ltr = p.b then busyN js left p.a else false
/-- May the job run in a frame with that end? -/
def mayJ (js : List Jb) (ps : List Pr) (left : Nat → Nat) (e k : Nat) : Bool := decide (e ≤ (jk js k).dl) && !(ps.any (holdsN js left k))
def leastB (key : Nat → Nat) : List Nat → Option Nat
  | [] => none
  | x :: r => match leastB key r with
    | none => some x
    | some y => if key x ≤ key y then some x else some y
theorem leastB_none {key : Nat → Nat} : ∀ {l : List Nat}, leastB key l = none → l = []
  | [], _ => rfl
  | x :: r, h => by
    rw [leastB] at h
    cases hr : leastB key r with
    | none => rw [hr] at h; simp at h
    | some y =>
      rw [hr] at h
      simp only at h
      split at h <;> simp at h
theorem leastB_some {key : Nat → Nat} : ∀ {l : List Nat} {k : Nat}, leastB key l = some k → k ∈ l ∧ ∀ x ∈ l, key k ≤ key x
  | [], k, h => by simp [leastB] at h
  | x :: r, k, h => by
    rw [leastB] at h
    cases hr : leastB key r with
    | none =>
      rw [hr] at h
      have := leastB_none hr
      simp at h
      subst this h
      simp
    | some y =>
      obtain ⟨h1, h2⟩ := leastB_some hr
      rw [hr] at h
      simp only at h
      split at h
      · rename_i hle
        simp at h
        subst h
        refine ⟨by simp, fun z hz => ?_⟩
        rcases List.mem_cons.1 hz with rfl | hz
        · exact Nat.le_refl _
        · exact Nat.le_trans hle (h2 z hz)
      · rename_i hle
        simp at h
        subst h
        refine ⟨by simp [h1], fun z hz => ?_⟩
        rcases List.mem_cons.1 hz with rfl | hz
        · omega
        · exact h2 z hz
/-- Ready in the frame that begins at s. -/
def rdyJ (js : List Jb) (left : Nat → Nat) (s k : Nat) : Bool := decide ((jk js k).rel ≤ s) && decide (0 < left k)
def pickJ (js : List Jb) (ps : List Pr) (left : Nat → Nat) (s e : Nat) : Option Nat := leastB (keyJ js) ((List.range js.length).filter fun k => rdyJ js left s k && mayJ js ps left e k)
/-- The slices of the frame from s to e, from the time a on (fuel f): job and budget; what is left then. -/
def fillJ (js : List Jb) (ps : List Pr) (s e : Nat) : Nat → Nat → (Nat → Nat) → List (Nat × Nat) × (Nat → Nat)
  | 0, _, left => ([], left)
  | f + 1, a, left =>
    if a < e then
      match pickJ js ps left s e with
      | none => ([], left)
      | some k => let r := fillJ js ps s e f (a + min (left k) (e - a)) (updL left k (left k - min (left k) (e - a))); ((k, min (left k) (e - a)) :: r.1, r.2)
    else ([], left)
/-- The frames from s on. -/
def planJ (js : List Jb) (ps : List Pr) (fr : Nat) : Nat → Nat → (Nat → Nat) → List (List (Nat × Nat)) × (Nat → Nat)
  | 0, _, left => ([], left)
  | n + 1, s, left => let r := fillJ js ps s (s + fr) fr s left; let q := planJ js ps fr n (s + fr) r.2; (r.1 :: q.1, q.2)
def costJ (js : List Jb) : Nat → Nat := fun k => (jk js k).cost
def allJ (js : List Jb) (left : Nat → Nat) : Bool := (List.range js.length).all fun k => left k == 0
/-- The plan with frames of fr. -/
def runJ (js : List Jb) (ps : List Pr) (cyc fr : Nat) : List (List (Nat × Nat)) × (Nat → Nat) := planJ js ps fr (cyc / fr) 0 (costJ js)
def goesJ (js : List Jb) (ps : List Pr) (cyc fr : Nat) : Bool := allJ js (runJ js ps cyc fr).2
/-- The greatest frame from f down that goes; 0: none. -/
def wideJ (js : List Jb) (ps : List Pr) (cyc : Nat) : Nat → Nat
  | 0 => 0
  | f + 1 => if cyc % (f + 1) = 0 ∧ goesJ js ps cyc (f + 1) = true then f + 1 else wideJ js ps cyc f
end Go.Proofs.YtbdffcjganlblaaGreatDoor
