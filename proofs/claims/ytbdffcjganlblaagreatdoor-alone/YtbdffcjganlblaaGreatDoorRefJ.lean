/-
  Own work. The document's checks: find, timed, sooner, gcd, Cycle.
-/
import Derived.Test.YtbdffcjganlblaaGreatDoorRefI
namespace Go.Proofs.YtbdffcjganlblaaGreatDoor
open Go.RowKit
set_option linter.unusedVariables false
set_option linter.unusedSimpArgs false

def tsk (ts : List Tk) (k : Nat) : Tk := ts.getD k ⟨0, 0, 0, 0, 0, 0, 0, 0, 0, 0⟩
def psk (ps : List Pr) (k : Nat) : Pr := ps.getD k ⟨0, 0, false, 0, 0⟩

/-- The tasks lie in block g. -/
def RowT (w : World) (g : Nat) (ts : List Tk) : Prop := ∀ k, k < ts.length →
  w.cell? ⟨g, k * 10, none⟩ = some (.int .u8 (tsk ts k).nm.toNat) ∧ w.cell? ⟨g, k * 10 + 1, none⟩ = some (.int .i64 (tsk ts k).P) ∧ w.cell? ⟨g, k * 10 + 2, none⟩ = some (.int .i64 (tsk ts k).O) ∧
  w.cell? ⟨g, k * 10 + 3, none⟩ = some (.int .i64 (tsk ts k).C) ∧ w.cell? ⟨g, k * 10 + 4, none⟩ = some (.int .i64 (tsk ts k).D) ∧ w.cell? ⟨g, k * 10 + 5, none⟩ = some (.int .i64 (tsk ts k).q0) ∧
  w.cell? ⟨g, k * 10 + 6, none⟩ = some (.int .i64 (tsk ts k).q1) ∧ w.cell? ⟨g, k * 10 + 7, none⟩ = some (.int .i64 (tsk ts k).q2) ∧ w.cell? ⟨g, k * 10 + 8, none⟩ = some (.int .i64 (tsk ts k).q3) ∧ w.cell? ⟨g, k * 10 + 9, none⟩ = some (.int .i64 (tsk ts k).q4)
def RowP (w : World) (g : Nat) (ps : List Pr) : Prop := ∀ k, k < ps.length →
  w.cell? ⟨g, k * 5, none⟩ = some (.int .u8 (psk ps k).a.toNat) ∧ w.cell? ⟨g, k * 5 + 1, none⟩ = some (.int .u8 (psk ps k).b.toNat) ∧ w.cell? ⟨g, k * 5 + 2, none⟩ = some (.bool (psk ps k).ap) ∧
  w.cell? ⟨g, k * 5 + 3, none⟩ = some (.int .i64 (psk ps k).q0) ∧ w.cell? ⟨g, k * 5 + 4, none⟩ = some (.int .i64 (psk ps k).q1)

theorem tkRow_get (T : List Tk) : ∀ (j : Nat), j < T.length → ∀ o, o < 10 → (tkRow T)[j * 10 + o]? = (tkCells (tsk T j))[o]? := by
  induction T with
  | nil => intro j h; simp at h
  | cons t r ih =>
    intro j hj o ho
    have e : tkRow (t :: r) = tkCells t ++ tkRow r := rfl
    have el : (tkCells t).length = 10 := rfl
    cases j with
    | zero => rw [e, List.getElem?_append_left (by omega)]; simp [tsk]
    | succ j =>
      have := ih j (by simpa using hj) o ho
      rw [e, List.getElem?_append_right (by omega), el, show (j + 1) * 10 + o - 10 = j * 10 + o by omega, this]
      simp [tsk]
theorem prRow_get (T : List Pr) : ∀ (j : Nat), j < T.length → ∀ o, o < 5 → (prRow T)[j * 5 + o]? = (prCells (psk T j))[o]? := by
  induction T with
  | nil => intro j h; simp at h
  | cons t r ih =>
    intro j hj o ho
    have e : prRow (t :: r) = prCells t ++ prRow r := rfl
    have el : (prCells t).length = 5 := rfl
    cases j with
    | zero => rw [e, List.getElem?_append_left (by omega)]; simp [psk]
    | succ j =>
      have := ih j (by simpa using hj) o ho
      rw [e, List.getElem?_append_right (by omega), el, show (j + 1) * 5 + o - 5 = j * 5 + o by omega, this]
      simp [psk]

theorem rowT_own {w : World} {base g cap : Nat} {ts : List Tk} (h : w.ownsRow base 95 10 (.slice (some ⟨g, 0, none⟩) ts.length cap) ts.length (tkRow ts)) : RowT w g ts := by
  intro k hk
  have e : ∀ o, o < 10 → w.cell? ⟨g, k * 10 + o, none⟩ = (tkCells (tsk ts k))[o]? := fun o ho => by rw [h.cellAt _ (by omega)]; exact tkRow_get ts k hk o ho
  have e0 := e 0 (by omega)
  simp only [Nat.add_zero] at e0
  rw [e0, e 1 (by omega), e 2 (by omega), e 3 (by omega), e 4 (by omega), e 5 (by omega), e 6 (by omega), e 7 (by omega), e 8 (by omega), e 9 (by omega)]
  exact ⟨rfl, rfl, rfl, rfl, rfl, rfl, rfl, rfl, rfl, rfl⟩
theorem rowP_own {w : World} {base g cap : Nat} {ps : List Pr} (h : w.ownsRow base 133 5 (.slice (some ⟨g, 0, none⟩) ps.length cap) ps.length (prRow ps)) : RowP w g ps := by
  intro k hk
  have e : ∀ o, o < 5 → w.cell? ⟨g, k * 5 + o, none⟩ = (prCells (psk ps k))[o]? := fun o ho => by rw [h.cellAt _ (by omega)]; exact prRow_get ps k hk o ho
  have e0 := e 0 (by omega)
  simp only [Nat.add_zero] at e0
  rw [e0, e 1 (by omega), e 2 (by omega), e 3 (by omega), e 4 (by omega)]
  exact ⟨rfl, rfl, rfl, rfl, rfl⟩

theorem RowT.below {w w' : World} {g B : Nat} {ts : List Tk} (h : RowT w g ts) (hb : Below B w w') (hg : g < B) : RowT w' g ts := by
  intro k hk
  have e : ∀ o, w'.cell? ⟨g, o, none⟩ = w.cell? ⟨g, o, none⟩ := fun o => hb.cell (p := ⟨g, o, none⟩) hg
  rw [e, e, e, e, e, e, e, e, e, e]
  exact h k hk
theorem RowP.below {w w' : World} {g B : Nat} {ps : List Pr} (h : RowP w g ps) (hb : Below B w w') (hg : g < B) : RowP w' g ps := by
  intro k hk
  have e : ∀ o, w'.cell? ⟨g, o, none⟩ = w.cell? ⟨g, o, none⟩ := fun o => hb.cell (p := ⟨g, o, none⟩) hg
  rw [e, e, e, e, e]
  exact h k hk

/-- The number of the first task from k on whose name is c; -1: none. -/
def findF (ts : List Tk) (c : UInt8) : Nat → Nat → Int
  | 0, _ => -1
  | f + 1, k => if (tsk ts k).nm = c then k else findF ts c f (k + 1)
def findI (ts : List Tk) (c : UInt8) : Int := findF ts c ts.length 0

theorem u8_eq (a b : UInt8) : (((a.toNat : Int)) == b.toNat) = decide (a = b) := by
  rw [Bool.eq_iff_iff]
  simp [UInt8.toNat_inj]
  constructor
  · intro h; exact UInt8.toNat_inj.1 (by omega)
  · intro h; rw [h]

set_option maxRecDepth 100000 in
set_option maxHeartbeats 400000 in
theorem rfind_any (ts : List Tk) (g cap : Nat) (pv : Value) (pa : Option Addr) (pm pc : Nat) (hpv : pv = .slice pa pm pc) (c : UInt8) (w : World) (hg : g < w.heap.size) (hr : RowT w g ts) (hn : ts.length ≤ 6) :
    Calls Tryz.prog 89 #[.agg #[.slice (some ⟨g, 0, none⟩) ts.length cap, pv], .int .u8 c.toNat] w fun e w' => e = .returned (.int .i64 (findI ts c)) ∧ Below w.heap.size w w' := by
  subst hpv
  have hbn : Below w.heap.size w (w.alloc (.cells #[.slice (some ⟨g, 0, none⟩) ts.length cap, .slice pa pm pc] 53)) := below_new _ _
  have hr' := hr.below hbn hg
  have Hr := hide hr'
  have Hb := hide hbn
  clear hr hr' hbn
  go_enter Tryz.func89, Tryz.ntmps89
  go_wp2
  go_loop [5] (fun i => ∃ k : Nat, k ≤ ts.length ∧ i = .int .i64 k ∧ Hid (findI ts c = findF ts c (ts.length - k) k)) (fun i => ts.length - (intOf i).toNat)
  case atStart => exact ⟨0, by omega, rfl, rfl⟩
  case round =>
    obtain ⟨k, hk, rfl, hf⟩ := hrel
    by_cases hlt : k < ts.length
    · obtain ⟨r0, _⟩ := Hr.out k hlt
      have hfs : findF ts c (ts.length - k) k = if (tsk ts k).nm = c then (k : Int) else findF ts c (ts.length - (k + 1)) (k + 1) := by
        rw [show ts.length - k = (ts.length - (k + 1)) + 1 by omega, findF]
      have Hfs := hide hfs
      clear hfs
      by_cases hc : (tsk ts k).nm = c
      · have hb : (((tsk ts k).nm.toNat : Int) == c.toNat) = true := by rw [u8_eq]; simpa using hc
        have Hc := hide hc
        clear hc
        go_wp2
        go_ret
        refine ⟨ret_int ?_, Hb.out⟩
        rw [hf.out, Hfs.out, if_pos Hc.out]
      · have hb : (((tsk ts k).nm.toNat : Int) == c.toNat) = false := by rw [u8_eq]; simpa using hc
        have Hc := hide hc
        clear hc
        go_wp2
        go_round
        case rel => exact ⟨k + 1, by omega, by go_num, by unfold Hid; rw [hf.out, Hfs.out, if_neg Hc.out]⟩
        case measure => simp [intOf]; omega
    · go_wp2
      go_ret
      refine ⟨ret_int ?_, Hb.out⟩
      rw [hf.out, show ts.length - k = 0 by omega, findF]
end Go.Proofs.YtbdffcjganlblaaGreatDoor
