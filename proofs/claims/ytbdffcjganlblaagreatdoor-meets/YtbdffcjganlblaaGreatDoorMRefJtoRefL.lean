/-
  Own work. The document's checks: find, timed, sooner, gcd, Cycle.
-/
import Derived.Test.YtbdffcjganlblaaGreatDoorMRefHtoRefI
namespace Go.Proofs.YtbdffcjganlblaaGreatDoor
open Go.RowKit
set_option linter.unusedVariables false
set_option linter.unusedSimpArgs false

def tsk (ts : List Tk) (k : Nat) : Tk := ts.getD k ⟨0, 0, 0, 0, 0, 0, 0, 0, 0, 0⟩
def psk (ps : List Pr) (k : Nat) : Pr := ps.getD k ⟨0, 0, false, 0, 0⟩

/-- The tasks lie in block g. -/
def RowT (w : World) (g : Nat) (ts : List Tk) : Prop := ∀ k, k < ts.length →
  w.cell? ⟨g, k * 10, none⟩ = some (.int .u8 (tsk ts k).nm.toNat) ∧ w.cell? ⟨g, k * 10 + 1, none⟩ = some (.int .i64 (tsk ts k).P) ∧ w.cell? ⟨g, k * 10 + 2, none⟩ = some (.int .i64 (tsk ts k).O) ∧
  w.cell? ⟨g, k * 10 + 3, none⟩ = some (.int .i64 (tsk ts k).C) ∧ w.cell? ⟨g, k * 10 + 4, none⟩ = some (.int .i64 (tsk ts k).D) ∧ w.cell? ⟨g, k * 10 + 5, none⟩ = some (.int .i64 (tsk ts k).q0) ∧
  w.cell? ⟨g, k * 10 + 6, none⟩ = some (.int .i64 (tsk ts k).q1) ∧ w.cell? ⟨g, k * 10 + 7, none⟩ = some (.int .i64 (tsk ts k).q2) ∧ w.cell? ⟨g, k * 10 + 8, none⟩ = some (.int .i64 (tsk ts k).q3) ∧ w.cell? ⟨g, k * 10 + 9, none⟩ = some (.int .i64 (tsk ts k).q4)
def RowP (w : World) (g : Nat) (ps : List Pr) : Prop := ∀ k, k < ps.length →
  w.cell? ⟨g, k * 5, none⟩ = some (.int .u8 (psk ps k).a.toNat) ∧ w.cell? ⟨g, k * 5 + 1, none⟩ = some (.int .u8 (psk ps k).b.toNat) ∧ w.cell? ⟨g, k * 5 + 2, none⟩ = some (.bool (psk ps k).ap) ∧
  w.cell? ⟨g, k * 5 + 3, none⟩ = some (.int .i64 (psk ps k).q0) ∧ w.cell? ⟨g, k * 5 + 4, none⟩ = some (.int .i64 (psk ps k).q1)

theorem tkRow_get (T : List Tk) : ∀ (j : Nat), j < T.length → ∀ o, o < 10 → (tkRow T)[j * 10 + o]? = (tkCells (tsk T j))[o]? := by
  induction T with
  | nil => intro j h; simp at h
  | cons t r ih =>
    intro j hj o ho
    have e : tkRow (t :: r) = tkCells t ++ tkRow r := rfl
    have el : (tkCells t).length = 10 := rfl
    cases j with
    | zero => rw [e, List.getElem?_append_left (by omega)]; simp [tsk]
    | succ j =>
      have := ih j (by simpa using hj) o ho
      rw [e, List.getElem?_append_right (by omega), el, show (j + 1) * 10 + o - 10 = j * 10 + o by omega, this]
      simp [tsk]
theorem prRow_get (T : List Pr) : ∀ (j : Nat), j < T.length → ∀ o, o < 5 → (prRow T)[j * 5 + o]? = (prCells (psk T j))[o]? := by
  induction T with
  | nil => intro j h; simp at h
  | cons t r ih =>
    intro j hj o ho
    have e : prRow (t :: r) = prCells t ++ prRow r := rfl
    have el : (prCells t).length = 5 := rfl
    cases j with
    | zero => rw [e, List.getElem?_append_left (by omega)]; simp [psk]
    | succ j =>
      have := ih j (by simpa using hj) o ho
      rw [e, List.getElem?_append_right (by omega), el, show (j + 1) * 5 + o - 5 = j * 5 + o by omega, this]
      simp [psk]

theorem rowT_own {w : World} {base g cap : Nat} {ts : List Tk} (h : w.ownsRow base 95 10 (.slice (some ⟨g, 0, none⟩) ts.length cap) ts.length (tkRow ts)) : RowT w g ts := by
  intro k hk
  have e : ∀ o, o < 10 → w.cell? ⟨g, k * 10 + o, none⟩ = (tkCells (tsk ts k))[o]? := fun o ho => by rw [h.cellAt _ (by omega)]; exact tkRow_get ts k hk o ho
  have e0 := e 0 (by omega)
  simp only [Nat.add_zero] at e0
  rw [e0, e 1 (by omega), e 2 (by omega), e 3 (by omega), e 4 (by omega), e 5 (by omega), e 6 (by omega), e 7 (by omega), e 8 (by omega), e 9 (by omega)]
  exact ⟨rfl, rfl, rfl, rfl, rfl, rfl, rfl, rfl, rfl, rfl⟩
theorem rowP_own {w : World} {base g cap : Nat} {ps : List Pr} (h : w.ownsRow base 133 5 (.slice (some ⟨g, 0, none⟩) ps.length cap) ps.length (prRow ps)) : RowP w g ps := by
  intro k hk
  have e : ∀ o, o < 5 → w.cell? ⟨g, k * 5 + o, none⟩ = (prCells (psk ps k))[o]? := fun o ho => by rw [h.cellAt _ (by omega)]; exact prRow_get ps k hk o ho
  have e0 := e 0 (by omega)
  simp only [Nat.add_zero] at e0
  rw [e0, e 1 (by omega), e 2 (by omega), e 3 (by omega), e 4 (by omega)]
  exact ⟨rfl, rfl, rfl, rfl, rfl⟩

theorem RowT.below {w w' : World} {g B : Nat} {ts : List Tk} (h : RowT w g ts) (hb : Below B w w') (hg : g < B) : RowT w' g ts := by
  intro k hk
  have e : ∀ o, w'.cell? ⟨g, o, none⟩ = w.cell? ⟨g, o, none⟩ := fun o => hb.cell (p := ⟨g, o, none⟩) hg
  rw [e, e, e, e, e, e, e, e, e, e]
  exact h k hk
theorem RowP.below {w w' : World} {g B : Nat} {ps : List Pr} (h : RowP w g ps) (hb : Below B w w') (hg : g < B) : RowP w' g ps := by
  intro k hk
  have e : ∀ o, w'.cell? ⟨g, o, none⟩ = w.cell? ⟨g, o, none⟩ := fun o => hb.cell (p := ⟨g, o, none⟩) hg
  rw [e, e, e, e, e]
  exact h k hk

/-- The number of the first task from k on whose name is c; -1: none. -/
def findF (ts : List Tk) (c : UInt8) : Nat → Nat → Int
  | 0, _ => -1
  | f + 1, k => if (tsk ts k).nm = c then k else findF ts c f (k + 1)
def findI (ts : List Tk) (c : UInt8) : Int := findF ts c ts.length 0

theorem u8_eq (a b : UInt8) : (((a.toNat : Int)) == b.toNat) = decide (a = b) := by
  rw [Bool.eq_iff_iff]
  simp [UInt8.toNat_inj]
  constructor
  · intro h; exact UInt8.toNat_inj.1 (by omega)
  · intro h; rw [h]

set_option maxRecDepth 100000 in
set_option maxHeartbeats 400000 in
theorem rfind_any (ts : List Tk) (g cap : Nat) (pv : Value) (pa : Option Addr) (pm pc : Nat) (hpv : pv = .slice pa pm pc) (c : UInt8) (w : World) (hg : g < w.heap.size) (hr : RowT w g ts) (hn : ts.length ≤ 6) :
    Calls Tryz.prog 89 #[.agg #[.slice (some ⟨g, 0, none⟩) ts.length cap, pv], .int .u8 c.toNat] w fun e w' => e = .returned (.int .i64 (findI ts c)) ∧ Below w.heap.size w w' := by
  subst hpv
  have hbn : Below w.heap.size w (w.alloc (.cells #[.slice (some ⟨g, 0, none⟩) ts.length cap, .slice pa pm pc] 53)) := below_new _ _
  have hr' := hr.below hbn hg
  have Hr := hide hr'
  have Hb := hide hbn
  clear hr hr' hbn
  go_enter Tryz.func89, Tryz.ntmps89
  go_wp2
  go_loop [5] (fun i => ∃ k : Nat, k ≤ ts.length ∧ i = .int .i64 k ∧ Hid (findI ts c = findF ts c (ts.length - k) k)) (fun i => ts.length - (intOf i).toNat)
  case atStart => exact ⟨0, by omega, rfl, rfl⟩
  case round =>
    obtain ⟨k, hk, rfl, hf⟩ := hrel
    by_cases hlt : k < ts.length
    · obtain ⟨r0, _⟩ := Hr.out k hlt
      have hfs : findF ts c (ts.length - k) k = if (tsk ts k).nm = c then (k : Int) else findF ts c (ts.length - (k + 1)) (k + 1) := by
        rw [show ts.length - k = (ts.length - (k + 1)) + 1 by omega, findF]
      have Hfs := hide hfs
      clear hfs
      by_cases hc : (tsk ts k).nm = c
      · have hb : (((tsk ts k).nm.toNat : Int) == c.toNat) = true := by rw [u8_eq]; simpa using hc
        have Hc := hide hc
        clear hc
        go_wp2
        go_ret
        refine ⟨ret_int ?_, Hb.out⟩
        rw [hf.out, Hfs.out, if_pos Hc.out]
      · have hb : (((tsk ts k).nm.toNat : Int) == c.toNat) = false := by rw [u8_eq]; simpa using hc
        have Hc := hide hc
        clear hc
        go_wp2
        go_round
        case rel => exact ⟨k + 1, by omega, by go_num, by unfold Hid; rw [hf.out, Hfs.out, if_neg Hc.out]⟩
        case measure => simp [intOf]; omega
    · go_wp2
      go_ret
      refine ⟨ret_int ?_, Hb.out⟩
      rw [hf.out, show ts.length - k = 0 by omega, findF]
end Go.Proofs.YtbdffcjganlblaaGreatDoor

namespace Go.Proofs.YtbdffcjganlblaaGreatDoor
open Go.RowKit
set_option linter.unusedVariables false
set_option linter.unusedSimpArgs false

def Tk.small (t : Tk) : Prop := t.P ≤ 9999 ∧ t.O ≤ 9999 ∧ t.C ≤ 9999 ∧ t.D ≤ 9999

def timedI (t : Tk) : Int :=
  if t.P < 1 ∨ 60 < t.P then t.q1
  else if t.P ≤ t.O then t.q2
  else if t.C < 1 ∨ (t.P : Int) - t.O < t.C then t.q3
  else if t.D < t.C ∨ (t.P : Int) - t.O < t.D then t.q4
  else -1

set_option maxRecDepth 100000 in
set_option maxHeartbeats 1000000 in
theorem rtimed_any (t : Tk) (w : World) (hs : t.small) :
    Calls Tryz.prog 91 #[tkV t] w fun e w' => e = .returned (.int .i64 (timedI t)) ∧ Below w.heap.size w w' := by
  obtain ⟨nm, P, O, C, D, q0, q1, q2, q3, q4⟩ := t
  obtain ⟨h1, h2, h3, h4⟩ := hs
  unfold tkV tkRaw timedI
  simp only at h1 h2 h3 h4 ⊢
  by_cases a1 : P < 1
  · have a1' : (P : Int) < 1 := by omega
    rw [if_pos (.inl a1)]
    clear a1
    go_enter Tryz.func91, Tryz.ntmps91
    go_wp2
    go_ret
    exact ⟨rfl, below_new _ _⟩
  have a1' : ¬ (P : Int) < 1 := by omega
  by_cases a2 : 60 < P
  · have a2' : (60 : Int) < P := by omega
    rw [if_pos (.inr a2)]
    clear a1 a2
    go_enter Tryz.func91, Tryz.ntmps91
    go_wp2
    go_ret
    exact ⟨rfl, below_new _ _⟩
  have a2' : ¬ (60 : Int) < P := by omega
  rw [if_neg (by omega)]
  by_cases a3 : P ≤ O
  · have a3' : (P : Int) ≤ O := by omega
    rw [if_pos a3]
    clear a1 a2 a3
    go_enter Tryz.func91, Tryz.ntmps91
    go_wp2
    go_ret
    exact ⟨rfl, below_new _ _⟩
  have a3' : ¬ (P : Int) ≤ O := by omega
  rw [if_neg a3]
  by_cases a4 : C < 1
  · have a4' : (C : Int) < 1 := by omega
    rw [if_pos (.inl a4)]
    clear a1 a2 a3 a4
    go_enter Tryz.func91, Tryz.ntmps91
    go_wp2
    go_ret
    exact ⟨rfl, below_new _ _⟩
  have a4' : ¬ (C : Int) < 1 := by omega
  by_cases a5 : (P : Int) - O < C
  · rw [if_pos (.inr a5)]
    clear a1 a2 a3 a4
    go_enter Tryz.func91, Tryz.ntmps91
    go_wp2
    go_ret
    exact ⟨rfl, below_new _ _⟩
  rw [if_neg (by omega)]
  by_cases a6 : D < C
  · have a6' : (D : Int) < C := by omega
    rw [if_pos (.inl a6)]
    clear a1 a2 a3 a4 a6
    go_enter Tryz.func91, Tryz.ntmps91
    go_wp2
    go_ret
    exact ⟨rfl, below_new _ _⟩
  have a6' : ¬ (D : Int) < C := by omega
  by_cases a7 : (P : Int) - O < D
  · rw [if_pos (.inr a7)]
    clear a1 a2 a3 a4 a6
    go_enter Tryz.func91, Tryz.ntmps91
    go_wp2
    go_ret
    exact ⟨rfl, below_new _ _⟩
  rw [if_neg (by omega)]
  clear a1 a2 a3 a4 a6
  go_enter Tryz.func91, Tryz.ntmps91
  go_wp2
  go_ret
  exact ⟨rfl, below_new _ _⟩

/-- The sooner of two faults. -/
def soon (f : Nat × Nat) (e at_ : Nat) : Nat × Nat := if f.1 = 0 ∨ at_ < f.2 then (e, at_) else f
def faultV (f : Nat × Nat) : Value := .agg #[.int .i64 f.1, .int .i64 f.2]

set_option maxRecDepth 100000 in
set_option maxHeartbeats 1000000 in
theorem rsooner_any (f : Nat × Nat) (e at_ : Nat) (w : World) :
    Calls Tryz.prog 90 #[faultV f, .int .i64 e, .int .i64 at_] w fun e' w' => e' = .returned (faultV (soon f e at_)) ∧ Below w.heap.size w w' := by
  obtain ⟨E, A⟩ := f
  unfold faultV soon
  simp only
  have hend : ∀ o1 o2 : Obj, Below w.heap.size w ((w.alloc o1).alloc o2) := fun o1 o2 => (below_new w o1).alloc (by simp) _
  have Hend := hide hend
  clear hend
  by_cases a1 : E = 0
  · have a1' : ((E : Int) == 0) = true := by simp; omega
    rw [if_pos (.inl a1)]
    clear a1
    go_enter Tryz.func90, Tryz.ntmps90
    go_wp2
    exact bodyPost_ret (v := .agg #[.int .i64 e, .int .i64 at_]) (by simp [results, Tryz.results90, go_sem]) rfl ⟨rfl, Hend.out _ _⟩
  have a1' : ((E : Int) == 0) = false := by simp; omega
  by_cases a2 : at_ < A
  · have a2' : (at_ : Int) < A := by omega
    rw [if_pos (.inr a2)]
    clear a1 a2
    go_enter Tryz.func90, Tryz.ntmps90
    go_wp2
    exact bodyPost_ret (v := .agg #[.int .i64 e, .int .i64 at_]) (by simp [results, Tryz.results90, go_sem]) rfl ⟨rfl, Hend.out _ _⟩
  have a2' : ¬ (at_ : Int) < A := by omega
  rw [if_neg (by omega)]
  clear a1 a2
  go_enter Tryz.func90, Tryz.ntmps90
  go_wp2
  exact bodyPost_ret (v := .agg #[.int .i64 E, .int .i64 A]) (by simp [results, Tryz.results90, go_sem]) rfl ⟨rfl, Hend.out _ _⟩

set_option maxRecDepth 100000 in
set_option maxHeartbeats 1000000 in
theorem rgcd_any (a b : Nat) (w : World) (ha : a ≤ 100000) (hb : b ≤ 100000) :
    Calls Tryz.prog 92 #[.int .i64 a, .int .i64 b] w fun e w' => e = .returned (.int .i64 (Nat.gcd a b)) ∧ w' = w := by
  go_enter Tryz.func92, Tryz.ntmps92
  go_wp2
  go_loop [0, 1] (fun p q => ∃ x y : Nat, x ≤ 100000 ∧ y ≤ 100000 ∧ p = .int .i64 x ∧ q = .int .i64 y ∧ Hid (Nat.gcd a b = Nat.gcd x y)) (fun _ q => (intOf q).toNat)
  case atStart => exact ⟨a, b, ha, hb, rfl, rfl, rfl⟩
  case round =>
    obtain ⟨x, y, hx, hy, rfl, rfl, hg⟩ := hrel
    by_cases h0 : y = 0
    · have h0' : ((y : Int) != 0) = false := by simp; omega
      have H0 := hide h0
      clear h0
      go_wp2
      go_ret
      refine ⟨ret_int ?_, rfl⟩
      rw [hg.out, H0.out, Nat.gcd_zero_right]
    · have h0' : ((y : Int) != 0) = true := by rw [bne_iff_ne]; omega
      have h0'' : ¬ (y : Int) = 0 := by omega
      have hlt : x % y < y := Nat.mod_lt _ (by omega)
      have Hlt := hide hlt
      have Hg : Hid (Nat.gcd x y = Nat.gcd y (x % y)) := by unfold Hid; rw [Nat.gcd_comm x y, Nat.gcd_rec y x, Nat.gcd_comm]
      clear h0 hlt
      go_wp2
      refine ⟨⟨y, x % y, hy, by have := Hlt.out; omega, rfl, by go_num, by unfold Hid; rw [hg.out, Hg.out]⟩, ?_⟩
      have := Hlt.out
      simp only [intOf]
      omega

def cycF (ts : List Tk) : Nat → Nat → Nat → Nat
  | 0, _, h => h
  | f + 1, k, h => if 60 < h / Nat.gcd h (tsk ts k).P * (tsk ts k).P then 0 else cycF ts f (k + 1) (h / Nat.gcd h (tsk ts k).P * (tsk ts k).P)
/-- The cycle; 0: it is above 60. -/
def cycI (ts : List Tk) : Nat := cycF ts ts.length 0 1

theorem lcm_pos (h P : Nat) (h1 : 1 ≤ h) (h2 : 1 ≤ P) : 1 ≤ h / Nat.gcd h P * P := by
  have hg : Nat.gcd h P ∣ h := Nat.gcd_dvd_left h P
  have : 1 ≤ h / Nat.gcd h P := Nat.div_pos (Nat.le_of_dvd (by omega) hg) (Nat.gcd_pos_of_pos_left P (by omega))
  calc 1 ≤ h / Nat.gcd h P := this
    _ ≤ h / Nat.gcd h P * P := Nat.le_mul_of_pos_right _ (by omega)

theorem w64 (n : Int) (h : -9223372036854775808 ≤ n ∧ n ≤ 9223372036854775807) : wrap64 n = n := by unfold wrap64; omega
theorem lcm_wrap (h d P : Nat) (h1 : h / d ≤ 60) (h2 : P ≤ 60) : wrap64 (wrap64 ((h : Int) / (d : Nat)) * P) = ((h / d * P : Nat) : Int) := by
  have e1 : (h : Int) / (d : Nat) = ((h / d : Nat) : Int) := by simp
  rw [e1]
  generalize h / d = q at *
  have hm : q * P ≤ 60 * 60 := Nat.mul_le_mul h1 h2
  have e2 : wrap64 (q : Int) = q := w64 _ (by omega)
  rw [e2]
  have e3 : ((q : Int) * P) = ((q * P : Nat) : Int) := by simp
  rw [e3]
  exact w64 _ (by omega)

set_option maxRecDepth 100000 in
set_option maxHeartbeats 1000000 in
theorem rCycle_any (ts : List Tk) (g cap : Nat) (pv : Value) (pa : Option Addr) (pm pc : Nat) (hpv : pv = .slice pa pm pc) (w : World) (hg : g < w.heap.size) (hr : RowT w g ts) (hn : ts.length ≤ 6) (hP : ∀ k, k < ts.length → 1 ≤ (tsk ts k).P ∧ (tsk ts k).P ≤ 60) :
    Calls Tryz.prog 54 #[.agg #[.slice (some ⟨g, 0, none⟩) ts.length cap, pv]] w fun e w' => e = .returned (.int .i64 (cycI ts)) ∧ Below w.heap.size w w' := by
  subst hpv
  have hbn : Below w.heap.size w (w.alloc (.cells #[.slice (some ⟨g, 0, none⟩) ts.length cap, .slice pa pm pc] 53)) := below_new _ _
  have Hr := hide hr
  have Hb := hide hbn
  have HP := hide hP
  clear hr hbn hP
  go_enter Tryz.func54, Tryz.ntmps54
  go_wp2
  go_loopw [3, 4] (fun x i wr => ∃ (k h : Nat), k ≤ ts.length ∧ i = .int .i64 k ∧ x = .int .i64 h ∧ 1 ≤ h ∧ h ≤ 60 ∧ Below w.heap.size w wr ∧ wr.cell? ⟨w.heap.size, 0, none⟩ = some (.slice (some ⟨g, 0, none⟩) ts.length cap) ∧ Hid (cycI ts = cycF ts (ts.length - k) k h)) (fun _ i _ => ts.length - (intOf i).toNat)
  case atStart => exact ⟨0, 1, by omega, rfl, rfl, by omega, by omega, Hb.out, by simp [go_sem], rfl⟩
  case round =>
    clear Hb
    obtain ⟨k, h, hk, rfl, rfl, hh1, hh2, hbw, c0, hf⟩ := hrel
    have Hb := hide hbw
    clear hbw
    by_cases hlt : k < ts.length
    · have r1 := (Hr.out.below Hb.out hg k hlt).2.1
      obtain ⟨hP1, hP2⟩ := HP.out k hlt
      have hfs : cycF ts (ts.length - k) k h = if 60 < h / Nat.gcd h (tsk ts k).P * (tsk ts k).P then 0 else cycF ts (ts.length - (k + 1)) (k + 1) (h / Nat.gcd h (tsk ts k).P * (tsk ts k).P) := by
        rw [show ts.length - k = (ts.length - (k + 1)) + 1 by omega, cycF]
      have hpos := lcm_pos h (tsk ts k).P hh1 hP1
      have hle : h / Nat.gcd h (tsk ts k).P ≤ 60 := Nat.le_trans (Nat.div_le_self _ _) hh2
      have hgp : 0 < Nat.gcd h (tsk ts k).P := Nat.gcd_pos_of_pos_left _ (by omega)
      have hml : h / Nat.gcd h (tsk ts k).P * (tsk ts k).P ≤ 60 * 60 := Nat.mul_le_mul hle hP2
      have Hfs := hide hfs
      clear hfs
      generalize (tsk ts k).P = P at *
      have hd0 : ¬ ((Nat.gcd h P : Nat) : Int) = 0 := by omega
      obtain ⟨L, hL⟩ : ∃ L, L = h / Nat.gcd h P * P := ⟨_, rfl⟩
      have hw : wrap64 (wrap64 ((h : Int) / (Nat.gcd h P : Nat)) * P) = (L : Int) := by rw [hL]; exact lcm_wrap h (Nat.gcd h P) P hle hP2
      rw [← hL] at Hfs hpos hml
      have HL := hide hL
      clear hL
      go_wp2_with fail
      go_quiet ((go_at_call 92; go_must (exact Calls.quiet_of_same (rgcd_any h P _ (by omega) (by omega)))))
      by_cases h60 : 60 < L
      · have h60' : (60 : Int) < L := by omega
        go_wp2
        go_ret
        refine ⟨ret_int ?_, below_drewN Hb.out _⟩
        rw [hf.out, Hfs.out, if_pos h60]
        rfl
      · have h60' : ¬ (60 : Int) < L := by omega
        go_wp2
        go_roundw
        case rel => exact ⟨k + 1, L, by omega, by go_num, by rw [hw], by omega, by omega, below_drewN Hb.out _, c0, by unfold Hid; rw [hf.out, Hfs.out, if_neg h60]⟩
        case measure => simp [intOf]; omega
    · go_wp2
      go_ret
      refine ⟨ret_int ?_, Hb.out⟩
      rw [hf.out, show ts.length - k = 0 by omega, cycF]
end Go.Proofs.YtbdffcjganlblaaGreatDoor

namespace Go.Proofs.YtbdffcjganlblaaGreatDoor
open Go.RowKit
set_option linter.unusedVariables false
set_option linter.unusedSimpArgs false

def stepT1 (ts : List Tk) (k : Nat) (f : Nat × Nat) : Nat × Nat := if findI ts (tsk ts k).nm < k then soon f 3 (tsk ts k).q0 else f
def stepT (ts : List Tk) (k : Nat) (f : Nat × Nat) : Nat × Nat := if 0 ≤ timedI (tsk ts k) then soon (stepT1 ts k f) 4 (timedI (tsk ts k)).toNat else stepT1 ts k f
def mT (ts : List Tk) : Nat → Nat × Nat
  | 0 => (0, 0)
  | k + 1 => stepT ts k (mT ts k)

def stepP1 (ts : List Tk) (p : Pr) (f : Nat × Nat) : Nat × Nat := if findI ts p.a < 0 then soon f 3 p.q0 else f
def stepP2 (ts : List Tk) (p : Pr) (f : Nat × Nat) : Nat × Nat := if findI ts p.b < 0 then soon (stepP1 ts p f) 3 p.q1 else stepP1 ts p f
def badPair (ts : List Tk) (p : Pr) : Bool :=
  decide (0 ≤ findI ts p.a) && decide (0 ≤ findI ts p.b) && (decide (findI ts p.a = findI ts p.b) || (!p.ap && decide ((tsk ts (findI ts p.a).toNat).P ≠ (tsk ts (findI ts p.b).toNat).P)))
def stepP (ts : List Tk) (p : Pr) (f : Nat × Nat) : Nat × Nat := if badPair ts p then soon (stepP2 ts p f) 5 p.q1 else stepP2 ts p f
def mP (ts : List Tk) (ps : List Pr) : Nat → Nat × Nat
  | 0 => mT ts ts.length
  | k + 1 => stepP ts (psk ps k) (mP ts ps k)
def meantI (ts : List Tk) (ps : List Pr) : Nat × Nat := mP ts ps ps.length

theorem findF_lt (ts : List Tk) (c : UInt8) : ∀ (f k : Nat), findF ts c f k < k + f ∧ -1 ≤ findF ts c f k
  | 0, k => by simp [findF]; omega
  | f + 1, k => by
    rw [findF]
    have := findF_lt ts c f (k + 1)
    split
    · omega
    · omega
theorem findI_lt (ts : List Tk) (c : UInt8) : findI ts c < ts.length ∧ -1 ≤ findI ts c := by
  have := findF_lt ts c ts.length 0
  unfold findI
  omega

/-- The memory of meant: the set, the result, the fault so far. -/
structure MB (w wr : World) (tv pv : Value) (f : Nat × Nat) : Prop where
  h0 : wr.heap[w.heap.size]? = some (.cells #[tv, pv] 53 (0, 0))
  h1 : wr.heap[w.heap.size + 1]? = some (.cells #[.int .i64 0, .int .i64 0] 88 (0, 0))
  h2 : wr.heap[w.heap.size + 1 + 1]? = some (.cells #[.int .i64 f.1, .int .i64 f.2] 88 (0, 0))
  b : Below w.heap.size w wr

section
variable {w wr : World} {tv pv : Value} {f : Nat × Nat}
theorem MB.keep (h : MB w wr tv pv f) {w' : World} (hb : Below wr.heap.size wr w') : MB w w' tv pv f :=
  ⟨by rw [hb.block _ (blk_lt h.h0)]; exact h.h0, by rw [hb.block _ (blk_lt h.h1)]; exact h.h1, by rw [hb.block _ (blk_lt h.h2)]; exact h.h2, h.b.trans (hb.mono h.b.size)⟩
theorem MB.alloc (h : MB w wr tv pv f) (o : Obj) : MB w (wr.alloc o) tv pv f := h.keep (below_new _ _)
theorem MB.drewN (h : MB w wr tv pv f) (n : Nat) : MB w (wr.drewN n) tv pv f := h.keep (below_drewN (Below.refl _ _) n)
theorem MB.setF (h : MB w wr tv pv f) (f' : Nat × Nat) : MB w ((wr.setCell ⟨w.heap.size + 1 + 1, 0, none⟩ (.int .i64 f'.1)).setCell ⟨w.heap.size + 1 + 1, 1, none⟩ (.int .i64 f'.2)) tv pv f' := by
  refine ⟨?_, ?_, ?_, (h.b.setCell (by show w.heap.size ≤ w.heap.size + 1 + 1; omega) _).setCell (by show w.heap.size ≤ w.heap.size + 1 + 1; omega) _⟩
  · rw [Below.heap_setCell _ _ _ _ (by show w.heap.size ≠ w.heap.size + 1 + 1; omega), Below.heap_setCell _ _ _ _ (by show w.heap.size ≠ w.heap.size + 1 + 1; omega)]; exact h.h0
  · rw [Below.heap_setCell _ _ _ _ (by show w.heap.size + 1 ≠ w.heap.size + 1 + 1; omega), Below.heap_setCell _ _ _ _ (by show w.heap.size + 1 ≠ w.heap.size + 1 + 1; omega)]; exact h.h1
  · rw [blk_set (blk_set h.h2 0 _) 1 _]; rfl
theorem MB.cells (h : MB w wr tv pv f) : wr.cell? ⟨w.heap.size, 0, none⟩ = some tv ∧ wr.cell? ⟨w.heap.size, 1, none⟩ = some pv ∧ wr.cell? ⟨w.heap.size + 1 + 1, 0, none⟩ = some (.int .i64 f.1) ∧ wr.cell? ⟨w.heap.size + 1 + 1, 1, none⟩ = some (.int .i64 f.2) ∧
    (∀ o, wr.frozen? ⟨w.heap.size + 1 + 1, o, none⟩ = false) ∧ (∀ o, wr.cell? ⟨w.heap.size + 1, o, none⟩ = #[Value.int .i64 0, .int .i64 0][o]?) ∧ (∀ o, wr.frozen? ⟨w.heap.size + 1, o, none⟩ = false) :=
  ⟨by rw [blk_cell h.h0]; rfl, by rw [blk_cell h.h0]; rfl, by rw [blk_cell h.h2]; rfl, by rw [blk_cell h.h2]; rfl, blk_frozen h.h2, blk_cell h.h1, blk_frozen h.h1⟩
theorem MB.start (w : World) (tv pv : Value) : MB w (((w.alloc (.cells #[tv, pv] 53)).alloc (.cells #[.int .i64 0, .int .i64 0] 88)).alloc (.cells #[.int .i64 0, .int .i64 0] 88)) tv pv (0, 0) := by
  refine ⟨?_, ?_, ?_, ((below_new w _).alloc (by simp) _).alloc (by simp; omega) _⟩
  · rw [Below.heap_alloc _ _ _ (by simp; omega), Below.heap_alloc _ _ _ (by simp)]; exact blk_new _ _ _
  · rw [Below.heap_alloc _ _ _ (by simp)]; simpa using blk_new (w.alloc (.cells #[tv, pv] 53)) #[.int .i64 0, .int .i64 0] 88
  · simpa using blk_new ((w.alloc (.cells #[tv, pv] 53)).alloc (.cells #[.int .i64 0, .int .i64 0] 88)) #[.int .i64 0, .int .i64 0] 88
end

theorem rsooner_v (f : Nat × Nat) (e at_ : Nat) (fv : Value) (ev : Int) (w : World) (hf : fv = faultV f) (he : ev = e) :
    Calls Tryz.prog 90 #[fv, .int .i64 ev, .int .i64 at_] w fun e' w' => e' = .returned (.agg #[.int .i64 (soon f e at_).1, .int .i64 (soon f e at_).2]) ∧ Below w.heap.size w w' := by
  subst hf he
  exact rsooner_any f e at_ w
theorem rtimed_v (t : Tk) (v : Value) (w : World) (hv : v = tkV t) (hs : t.small) :
    Calls Tryz.prog 91 #[v] w fun e w' => e = .returned (.int .i64 (timedI t)) ∧ Below w.heap.size w w' := by
  subst hv
  exact rtimed_any t w hs

/-- A block of w is one of what comes of it. -/
theorem blk_keep {w w' : World} {X : Nat} {o : Obj} (h : w.heap[X]? = some o) (hb : Below w.heap.size w w') : w'.heap[X]? = some o := by
  rw [hb.block _ (blk_lt h)]; exact h
theorem blk_setF {w : World} {X F : Nat} {o : Obj} (h : w.heap[X]? = some o) (hne : X ≠ F) (i j : Nat) (u v : Value) : ((w.setCell ⟨F, i, none⟩ u).setCell ⟨F, j, none⟩ v).heap[X]? = some o := by
  rw [Below.heap_setCell _ _ _ _ hne, Below.heap_setCell _ _ _ _ hne]; exact h
def tkA (t : Tk) : Array Value := #[.int .u8 t.nm.toNat, .int .i64 t.P, .int .i64 t.O, .int .i64 t.C, .int .i64 t.D, .int .i64 t.q0, .int .i64 t.q1, .int .i64 t.q2, .int .i64 t.q3, .int .i64 t.q4]
theorem tkA_cells {w : World} {X : Nat} {t : Tk} {ty : TypeId} (h : w.heap[X]? = some (.cells (tkA t) ty (0, 0))) :
    w.cell? ⟨X, 0, none⟩ = some (.int .u8 t.nm.toNat) ∧ w.cell? ⟨X, 1, none⟩ = some (.int .i64 t.P) ∧ w.cell? ⟨X, 2, none⟩ = some (.int .i64 t.O) ∧ w.cell? ⟨X, 3, none⟩ = some (.int .i64 t.C) ∧ w.cell? ⟨X, 4, none⟩ = some (.int .i64 t.D) ∧
    w.cell? ⟨X, 5, none⟩ = some (.int .i64 t.q0) ∧ w.cell? ⟨X, 6, none⟩ = some (.int .i64 t.q1) ∧ w.cell? ⟨X, 7, none⟩ = some (.int .i64 t.q2) ∧ w.cell? ⟨X, 8, none⟩ = some (.int .i64 t.q3) ∧ w.cell? ⟨X, 9, none⟩ = some (.int .i64 t.q4) := by
  simp only [blk_cell h]
  exact ⟨rfl, rfl, rfl, rfl, rfl, rfl, rfl, rfl, rfl, rfl⟩
theorem row_setF {w : World} {g F : Nat} {ts : List Tk} (h : RowT w g ts) (hne : g < F) (i j : Nat) (u v : Value) : RowT ((w.setCell ⟨F, i, none⟩ u).setCell ⟨F, j, none⟩ v) g ts :=
  h.below (((Below.refl F w).setCell (Nat.le_refl F) u).setCell (Nat.le_refl F) v) hne

def prA (p : Pr) : Array Value := #[.int .u8 p.a.toNat, .int .u8 p.b.toNat, .bool p.ap, .int .i64 p.q0, .int .i64 p.q1]
theorem prA_cells {w : World} {X : Nat} {p : Pr} {ty : TypeId} (h : w.heap[X]? = some (.cells (prA p) ty (0, 0))) :
    w.cell? ⟨X, 0, none⟩ = some (.int .u8 p.a.toNat) ∧ w.cell? ⟨X, 1, none⟩ = some (.int .u8 p.b.toNat) ∧ w.cell? ⟨X, 2, none⟩ = some (.bool p.ap) ∧ w.cell? ⟨X, 3, none⟩ = some (.int .i64 p.q0) ∧ w.cell? ⟨X, 4, none⟩ = some (.int .i64 p.q1) := by
  simp only [blk_cell h]
  exact ⟨rfl, rfl, rfl, rfl, rfl⟩
set_option maxRecDepth 100000 in
set_option maxHeartbeats 4000000 in
theorem rmeant_any (ts : List Tk) (ps : List Pr) (g cap : Nat) (pa : Option Addr) (pc : Nat) (w : World) (hg : g < w.heap.size) (hr : RowT w g ts) (hn : ts.length ≤ 6) (hsm : ∀ k, k < ts.length → (tsk ts k).small)
    (hm : ps.length ≤ 6) (hp : 0 < ps.length → ∃ gp, pa = some ⟨gp, 0, none⟩ ∧ gp < w.heap.size ∧ RowP w gp ps) :
    Calls Tryz.prog 53 #[.agg #[.slice (some ⟨g, 0, none⟩) ts.length cap, .slice pa ps.length pc]] w fun e w' => e = .returned (faultV (meantI ts ps)) ∧ Below w.heap.size w w' := by
  have M0 := hide (MB.start w (.slice (some ⟨g, 0, none⟩) ts.length cap) (.slice pa ps.length pc))
  have Hr := hide hr
  have Hsm := hide hsm
  have Hp := hide hp
  clear hr hsm hp
  go_enter Tryz.func53, Tryz.ntmps53
  go_wp2
  go_loopw [4] (fun i wr => ∃ (k : Nat), k ≤ ts.length ∧ i = .int .i64 k ∧ MB w wr (.slice (some ⟨g, 0, none⟩) ts.length cap) (.slice pa ps.length pc) (mT ts k)) (fun i _ => ts.length - (intOf i).toNat)
  case atStart => exact ⟨0, by omega, rfl, M0.out⟩
  case round =>
    clear M0
    obtain ⟨k, hk, rfl, M⟩ := hrel
    by_cases hlt : k < ts.length
    · obtain ⟨r0, r1, r2, r3, r4, r5, r6, r7, r8, r9⟩ := Hr.out.below M.b hg k hlt
      have hst : Hid (mT ts (k + 1) = if 0 ≤ timedI (tsk ts k) then soon (if findI ts (tsk ts k).nm < k then soon (mT ts k) 3 (tsk ts k).q0 else mT ts k) 4 (timedI (tsk ts k)).toNat else if findI ts (tsk ts k).nm < k then soon (mT ts k) 3 (tsk ts k).q0 else mT ts k) := rfl
      have hsml := hide (Hsm.out k hlt)
      have hrow := hide (Hr.out.below M.b hg)
      obtain ⟨m0, m1, m2, m3, m4, m5, m6⟩ := M.cells
      have MM := hide M
      have hw0 : w.heap.size < wr.heap.size := blk_lt M.h0
      have hw1 : w.heap.size + 1 < wr.heap.size := blk_lt M.h1
      have hw2 : w.heap.size + 1 + 1 < wr.heap.size := blk_lt M.h2
      have hgw : g < wr.heap.size := by omega
      clear M
      generalize tsk ts k = t at *
      have hcases : (findI ts t.nm < k ∨ ¬ findI ts t.nm < k) := by omega
      go_wp2_with fail
      refine (rfind_any ts g cap _ _ _ _ rfl t.nm _ (by simp; omega) (hrow.out.below (below_new _ _) hgw) hn).mono ?_
      rintro e w1 ⟨rfl, hb1⟩
      have M1 := (MM.out.alloc _).keep hb1
      have T1 : w1.heap[wr.heap.size]? = some (.cells (tkA t) 95 (0, 0)) := blk_keep (blk_new _ _ _) hb1
      have R1 := (hrow.out.below (below_new _ _) hgw).below hb1 (by simp; omega)
      clear hb1 MM hrow r0 r1 r2 r3 r4 r5 r6 r7 r8 r9 m0 m1 m2 m3 m4 m5 m6
      generalize wr.heap.size = X at *
      have hX1 := blk_lt T1
      obtain ⟨c0, c1, c2, c3, c4, c5, c6, c7, c8, c9⟩ := tkA_cells T1
      obtain ⟨m0, m1, m2, m3, m4, m5, m6⟩ := M1.cells
      have HM := hide M1
      have HT := hide T1
      have HR := hide R1
      clear M1 T1 R1
      rcases hcases with ha | ha
      · go_wp2_with fail
        refine (rsooner_v (mT ts k) 3 t.q0 _ _ _ rfl rfl).mono ?_
        rintro e w2 ⟨rfl, hb2⟩
        have M2 := HM.out.keep hb2
        have T2 := blk_keep HT.out hb2
        have R2 := HR.out.below hb2 (by omega)
        obtain ⟨n0, n1, n2, n3, n4, n5, n6⟩ := M2.cells
        obtain ⟨d0, d1, d2, d3, d4, d5, d6, d7, d8, d9⟩ := tkA_cells T2
        have M2' := M2.setF (soon (mT ts k) 3 t.q0)
        have T2' := blk_setF T2 (F := w.heap.size + 1 + 1) (by omega) 0 1 (.int .i64 (soon (mT ts k) 3 t.q0).1) (.int .i64 (soon (mT ts k) 3 t.q0).2)
        have R2' := row_setF R2 (F := w.heap.size + 1 + 1) (by omega) 0 1 (.int .i64 (soon (mT ts k) 3 t.q0).1) (.int .i64 (soon (mT ts k) 3 t.q0).2)
        have hne1 : ¬ w.heap.size + 1 + 1 = X := by omega
        have hne2 : ¬ X = w.heap.size + 1 + 1 := by omega
        have HM2 := hide M2'
        have HT2 := hide T2'
        have HR2 := hide R2'
        clear hb2 M2 T2 R2 M2' T2' R2' HM HT HR c0 c1 c2 c3 c4 c5 c6 c7 c8 c9 m0 m1 m2 m3 m4 m5 m6
        go_wp2_with fail
        refine (rtimed_v t _ _ rfl hsml.out).mono ?_
        rintro e w3 ⟨rfl, hb3⟩
        have M3 := HM2.out.keep hb3
        have T3 := blk_keep HT2.out hb3
        have R3 := HR2.out.below hb3 (by have := blk_lt HM2.out.h0; omega)
        clear hb3 d0 d1 d2 d3 d4 d5 d6 d7 d8 d9 n0 n1 n2 n3 n4 n5 n6
        obtain ⟨m0, m1, m2, m3, m4, m5, m6⟩ := M3.cells
        by_cases ht : 0 ≤ timedI t
        · have ht' : ((timedI t).toNat : Int) = timedI t := Int.toNat_of_nonneg ht
          have HM3 := hide M3
          have HT3 := hide T3
          have HR3 := hide R3
          clear M3 T3 R3
          have Ht' := hide ht'
          clear ht'
          go_wp2_with fail
          rw [← Ht'.out]
          refine (rsooner_v (soon (mT ts k) 3 t.q0) 4 (timedI t).toNat _ _ _ rfl rfl).mono ?_
          rintro e w4 ⟨rfl, hb4⟩
          have M4 := (HM3.out.keep hb4)
          have M5 := M4.setF (soon (soon (mT ts k) 3 t.q0) 4 (timedI t).toNat)
          obtain ⟨n0, n1, n2, n3, n4, n5, n6⟩ := M4.cells
          have HM5 := hide M5
          clear hb4 m0 m1 m2 m3 m4 m5 m6 M4 M5 HM3 HT3 HR3
          go_wp2
          go_roundw
          case rel => exact ⟨k + 1, by omega, by go_num, by rw [hst.out, if_pos (by omega), if_pos (by omega)]; exact HM5.out⟩
          case measure => simp [intOf]; omega
        · have HM3 := hide M3
          clear M3 T3 R3
          go_wp2
          go_roundw
          case rel => exact ⟨k + 1, by omega, by go_num, by rw [hst.out, if_neg (by omega), if_pos (by omega)]; exact HM3.out⟩
          case measure => simp [intOf]; omega
      · skip
        go_wp2_with fail
        refine (rtimed_v t _ _ rfl hsml.out).mono ?_
        rintro e w3 ⟨rfl, hb3⟩
        have M3 := HM.out.keep hb3
        have T3 := blk_keep HT.out hb3
        have R3 := HR.out.below hb3 (by have := blk_lt HM.out.h0; omega)
        clear hb3 c0 c1 c2 c3 c4 c5 c6 c7 c8 c9 m0 m1 m2 m3 m4 m5 m6
        obtain ⟨m0, m1, m2, m3, m4, m5, m6⟩ := M3.cells
        by_cases ht : 0 ≤ timedI t
        · have ht' : ((timedI t).toNat : Int) = timedI t := Int.toNat_of_nonneg ht
          have HM3 := hide M3
          have HT3 := hide T3
          have HR3 := hide R3
          clear M3 T3 R3
          have Ht' := hide ht'
          clear ht'
          go_wp2_with fail
          rw [← Ht'.out]
          refine (rsooner_v (mT ts k) 4 (timedI t).toNat _ _ _ rfl rfl).mono ?_
          rintro e w4 ⟨rfl, hb4⟩
          have M4 := (HM3.out.keep hb4)
          have M5 := M4.setF (soon (mT ts k) 4 (timedI t).toNat)
          obtain ⟨n0, n1, n2, n3, n4, n5, n6⟩ := M4.cells
          have HM5 := hide M5
          clear hb4 m0 m1 m2 m3 m4 m5 m6 M4 M5 HM3 HT3 HR3
          go_wp2
          go_roundw
          case rel => exact ⟨k + 1, by omega, by go_num, by rw [hst.out, if_pos (by omega), if_neg (by omega)]; exact HM5.out⟩
          case measure => simp [intOf]; omega
        · have HM3 := hide M3
          clear M3 T3 R3
          go_wp2
          go_roundw
          case rel => exact ⟨k + 1, by omega, by go_num, by rw [hst.out, if_neg (by omega), if_neg (by omega)]; exact HM3.out⟩
          case measure => simp [intOf]; omega
    · have hkl : k = ts.length := by omega
      subst hkl
      obtain ⟨m0, m1, m2, m3, m4, m5, m6⟩ := M.cells
      have HM0 := hide M
      clear M hk hlt
      go_wp2
      go_loopw [7] (fun i wr => ∃ (k : Nat), k ≤ ps.length ∧ i = .int .i64 k ∧ MB w wr (.slice (some ⟨g, 0, none⟩) ts.length cap) (.slice pa ps.length pc) (mP ts ps k)) (fun i _ => ps.length - (intOf i).toNat)
      case atStart => exact ⟨0, by omega, rfl, HM0.out⟩
      case round =>
        clear HM0 m0 m1 m2 m3 m4 m5 m6
        obtain ⟨k, hk, rfl, M⟩ := hrel
        by_cases hlt : k < ps.length
        · obtain ⟨gp, rfl, hgp, hRP⟩ := Hp.out (by omega)
          have HRP := hide hRP
          clear hRP Hp
          obtain ⟨r0, r1, r2, r3, r4⟩ := HRP.out.below M.b hgp k hlt
          have hst : Hid (mP ts ps (k + 1) = stepP ts (psk ps k) (mP ts ps k)) := rfl
          have hrow := hide (Hr.out.below M.b hg)
          obtain ⟨m0, m1, m2, m3, m4, m5, m6⟩ := M.cells
          have MM := hide M
          have hw0 : w.heap.size < wr.heap.size := blk_lt M.h0
          have hw1 : w.heap.size + 1 < wr.heap.size := blk_lt M.h1
          have hw2 : w.heap.size + 1 + 1 < wr.heap.size := blk_lt M.h2
          have hgw : g < wr.heap.size := by omega
          have hgpw : gp < wr.heap.size := by omega
          clear M
          generalize psk ps k = p at *
          have hfa := findI_lt ts p.a
          have hfb := findI_lt ts p.b
          go_wp2_with fail
          refine (rfind_any ts g cap _ _ _ _ rfl p.a _ (by simp; omega) (hrow.out.below (below_new _ _) hgw) hn).mono ?_
          rintro e w1 ⟨rfl, hb1⟩
          have M1 := (MM.out.alloc _).keep hb1
          have T1 : w1.heap[wr.heap.size]? = some (.cells (prA p) 133 (0, 0)) := blk_keep (blk_new _ _ _) hb1
          have R1 := (hrow.out.below (below_new _ _) hgw).below hb1 (by simp; omega)
          clear hb1 MM hrow r0 r1 r2 r3 r4 m0 m1 m2 m3 m4 m5 m6
          generalize wr.heap.size = X at *
          have hX1 := blk_lt T1
          obtain ⟨c0, c1, c2, c3, c4⟩ := prA_cells T1
          obtain ⟨m0, m1, m2, m3, m4, m5, m6⟩ := M1.cells
          have HM := hide M1
          have HT := hide T1
          have HR := hide R1
          clear M1 T1 R1
          go_wp2_with fail
          refine (rfind_any ts g cap _ _ _ _ rfl p.b _ (by omega) HR.out hn).mono ?_
          rintro e w2 ⟨rfl, hb2⟩
          have M2 := HM.out.keep hb2
          have T2 := blk_keep HT.out hb2
          have R2 := HR.out.below hb2 (by omega)
          have hX2 : X < w2.heap.size := blk_lt T2
          clear hb2 HM HT HR c0 c1 c2 c3 c4 m0 m1 m2 m3 m4 m5 m6 hX1
          obtain ⟨c0, c1, c2, c3, c4⟩ := prA_cells T2
          obtain ⟨m0, m1, m2, m3, m4, m5, m6⟩ := M2.cells
          have HM := hide M2
          have HT := hide T2
          have HR := hide R2
          clear M2 T2 R2
          have hstep : ∀ f', f' = stepP ts p (mP ts ps k) → mP ts ps (k + 1) = f' := fun f' h => by rw [h]; exact hst.out
          unfold stepP stepP2 stepP1 badPair at hstep
          have hst := hide hstep
          clear hstep
          generalize findI ts p.a = fa at *
          generalize findI ts p.b = fb at *
          by_cases ha : fa < 0
          · have hda : decide (0 ≤ fa) = false := by simp; omega
            have hne1 : ¬ w.heap.size + 1 + 1 = X := by omega
            have hne2 : ¬ X = w.heap.size + 1 + 1 := by omega
            go_wp2_with fail
            refine (rsooner_v (mP ts ps k) 3 p.q0 _ _ _ rfl rfl).mono ?_
            rintro e w10 ⟨rfl, hb10⟩
            have M10 := HM.out.keep hb10
            have T10 := blk_keep HT.out hb10
            have R10 := HR.out.below hb10 (by have := blk_lt HM.out.h0; omega)
            clear hb10 c0 c1 c2 c3 c4 m0 m1 m2 m3 m4 m5 m6
            obtain ⟨c0, c1, c2, c3, c4⟩ := prA_cells T10
            obtain ⟨m0, m1, m2, m3, m4, m5, m6⟩ := M10.cells
            have MS10 := hide (M10.setF (soon (mP ts ps k) 3 p.q0))
            have TS10 := hide (blk_setF T10 (F := w.heap.size + 1 + 1) (by omega) 0 1 (.int .i64 (soon (mP ts ps k) 3 p.q0).1) (.int .i64 (soon (mP ts ps k) 3 p.q0).2))
            have RS10 := hide (row_setF R10 (F := w.heap.size + 1 + 1) (by omega) 0 1 (.int .i64 (soon (mP ts ps k) 3 p.q0).1) (.int .i64 (soon (mP ts ps k) 3 p.q0).2))
            clear M10 T10 R10
            by_cases hb : fb < 0
            · go_wp2_with fail
              refine (rsooner_v (soon (mP ts ps k) 3 p.q0) 3 p.q1 _ _ _ rfl rfl).mono ?_
              rintro e w11 ⟨rfl, hb11⟩
              have M11 := MS10.out.keep hb11
              have T11 := blk_keep TS10.out hb11
              have R11 := RS10.out.below hb11 (by have := blk_lt MS10.out.h0; omega)
              clear hb11 c0 c1 c2 c3 c4 m0 m1 m2 m3 m4 m5 m6
              obtain ⟨c0, c1, c2, c3, c4⟩ := prA_cells T11
              obtain ⟨m0, m1, m2, m3, m4, m5, m6⟩ := M11.cells
              have MS11 := hide (M11.setF (soon (soon (mP ts ps k) 3 p.q0) 3 p.q1))
              have TS11 := hide (blk_setF T11 (F := w.heap.size + 1 + 1) (by omega) 0 1 (.int .i64 (soon (soon (mP ts ps k) 3 p.q0) 3 p.q1).1) (.int .i64 (soon (soon (mP ts ps k) 3 p.q0) 3 p.q1).2))
              have RS11 := hide (row_setF R11 (F := w.heap.size + 1 + 1) (by omega) 0 1 (.int .i64 (soon (soon (mP ts ps k) 3 p.q0) 3 p.q1).1) (.int .i64 (soon (soon (mP ts ps k) 3 p.q0) 3 p.q1).2))
              clear M11 T11 R11
              go_wp2_with fail
              go_quiet (fail)
              go_wp2
              go_roundw
              case rel => exact ⟨k + 1, by omega, by go_num, by rw [hst.out (soon (soon (mP ts ps k) 3 p.q0) 3 p.q1) (by simp [show fa < 0 by omega, show fb < 0 by omega, show ¬ 0 ≤ fa by omega])]; exact MS11.out.drewN _⟩
              case measure => simp [intOf]; omega
            · go_wp2_with fail
              go_quiet (fail)
              go_wp2
              go_roundw
              case rel => exact ⟨k + 1, by omega, by go_num, by rw [hst.out (soon (mP ts ps k) 3 p.q0) (by simp [show fa < 0 by omega, show ¬ fb < 0 by omega, show ¬ 0 ≤ fa by omega])]; exact MS10.out.drewN _⟩
              case measure => simp [intOf]; omega
          · have hda : decide (0 ≤ fa) = true := by simp; omega
            have hne1 : ¬ w.heap.size + 1 + 1 = X := by omega
            have hne2 : ¬ X = w.heap.size + 1 + 1 := by omega
            by_cases hb : fb < 0
            · have hdb : decide (0 ≤ fb) = false := by simp; omega
              go_wp2_with fail
              refine (rsooner_v (mP ts ps k) 3 p.q1 _ _ _ rfl rfl).mono ?_
              rintro e w12 ⟨rfl, hb12⟩
              have M12 := HM.out.keep hb12
              have T12 := blk_keep HT.out hb12
              have R12 := HR.out.below hb12 (by have := blk_lt HM.out.h0; omega)
              clear hb12 c0 c1 c2 c3 c4 m0 m1 m2 m3 m4 m5 m6
              obtain ⟨c0, c1, c2, c3, c4⟩ := prA_cells T12
              obtain ⟨m0, m1, m2, m3, m4, m5, m6⟩ := M12.cells
              have MS12 := hide (M12.setF (soon (mP ts ps k) 3 p.q1))
              have TS12 := hide (blk_setF T12 (F := w.heap.size + 1 + 1) (by omega) 0 1 (.int .i64 (soon (mP ts ps k) 3 p.q1).1) (.int .i64 (soon (mP ts ps k) 3 p.q1).2))
              have RS12 := hide (row_setF R12 (F := w.heap.size + 1 + 1) (by omega) 0 1 (.int .i64 (soon (mP ts ps k) 3 p.q1).1) (.int .i64 (soon (mP ts ps k) 3 p.q1).2))
              clear M12 T12 R12
              go_wp2_with fail
              go_quiet (fail)
              go_wp2
              go_roundw
              case rel => exact ⟨k + 1, by omega, by go_num, by rw [hst.out (soon (mP ts ps k) 3 p.q1) (by simp [show ¬ fa < 0 by omega, show fb < 0 by omega, show ¬ 0 ≤ fb by omega])]; exact MS12.out.drewN _⟩
              case measure => simp [intOf]; omega
            · obtain ⟨na, rfl⟩ := Int.eq_ofNat_of_zero_le (show 0 ≤ fa by omega)
              obtain ⟨nb, rfl⟩ := Int.eq_ofNat_of_zero_le (show 0 ≤ fb by omega)
              have hna : na < ts.length := by omega
              have hnb : nb < ts.length := by omega
              have ra := (HR.out na hna).2.1
              have rb := (HR.out nb hnb).2.1
              simp only [Int.toNat_natCast] at hst
              have ha0 : ¬ (na : Int) < 0 := by omega
              have hb0 : ¬ (nb : Int) < 0 := by omega
              clear ha hb hda
              have hda : decide ((0 : Int) ≤ na) = true := by simp
              have hdb : decide ((0 : Int) ≤ nb) = true := by simp
              by_cases he : na = nb
              · have he1 : ((na : Int) == nb) = true := by simp; omega
                have he2 : (na : Int) = nb := by omega
                have HE := hide he2
                clear he2 he
                go_wp2_with fail
                go_quiet (fail)
                go_wp2_with fail
                refine (rsooner_v (mP ts ps k) 5 p.q1 _ _ _ rfl rfl).mono ?_
                rintro e w13 ⟨rfl, hb13⟩
                have M13 := (HM.out.drewN _).keep hb13
                clear hb13 c0 c1 c2 c3 c4 m0 m1 m2 m3 m4 m5 m6
                obtain ⟨m0, m1, m2, m3, m4, m5, m6⟩ := M13.cells
                have MS13 := hide (M13.setF (soon (mP ts ps k) 5 p.q1))
                clear M13
                go_wp2
                go_roundw
                case rel => exact ⟨k + 1, by omega, by go_num, by rw [hst.out (soon (mP ts ps k) 5 p.q1) (by simp [HE.out, show ¬ (nb : Int) < 0 by omega])]; exact MS13.out⟩
                case measure => simp [intOf]; omega
              · have he1 : ((na : Int) == nb) = false := by simp; omega
                have he2 : ¬ (na : Int) = nb := by omega
                have HE := hide he
                clear he
                cases hap : p.ap
                · by_cases hP : (tsk ts na).P = (tsk ts nb).P
                  · have hP1 : (((tsk ts na).P : Int) != (tsk ts nb).P) = false := by simp; omega
                    have HP := hide hP
                    clear hP
                    rw [hap] at c2
                    go_wp2_with fail
                    go_quiet (fail)
                    go_wp2
                    go_roundw
                    case rel => exact ⟨k + 1, by omega, by go_num, by rw [hst.out (mP ts ps k) (by have h1 := HE.out; have h2 := HP.out; simp [h2, hap, show ¬ (na : Int) = nb by omega, show ¬ (na : Int) < 0 by omega, show ¬ (nb : Int) < 0 by omega])]; exact HM.out.drewN _⟩
                    case measure => simp [intOf]; omega
                  · have hP1 : (((tsk ts na).P : Int) != (tsk ts nb).P) = true := by rw [bne_iff_ne]; omega
                    have HP := hide hP
                    clear hP
                    rw [hap] at c2
                    go_wp2_with fail
                    go_quiet (fail)
                    go_wp2_with fail
                    refine (rsooner_v (mP ts ps k) 5 p.q1 _ _ _ rfl rfl).mono ?_
                    rintro e w14 ⟨rfl, hb14⟩
                    have M14 := (HM.out.drewN _).keep hb14
                    clear hb14 c0 c1 c2 c3 c4 m0 m1 m2 m3 m4 m5 m6
                    obtain ⟨m0, m1, m2, m3, m4, m5, m6⟩ := M14.cells
                    have MS14 := hide (M14.setF (soon (mP ts ps k) 5 p.q1))
                    clear M14
                    go_wp2
                    go_roundw
                    case rel => exact ⟨k + 1, by omega, by go_num, by rw [hst.out (soon (mP ts ps k) 5 p.q1) (by have h2 := HP.out; simp [h2, hap, show ¬ (na : Int) < 0 by omega, show ¬ (nb : Int) < 0 by omega])]; exact MS14.out⟩
                    case measure => simp [intOf]; omega
                · rw [hap] at c2
                  go_wp2_with fail
                  go_quiet (fail)
                  go_wp2
                  go_roundw
                  case rel => exact ⟨k + 1, by omega, by go_num, by rw [hst.out (mP ts ps k) (by have h1 := HE.out; simp [hap, show ¬ (na : Int) = nb by omega, show ¬ (na : Int) < 0 by omega, show ¬ (nb : Int) < 0 by omega])]; exact HM.out.drewN _⟩
                  case measure => simp [intOf]; omega
        · have hkl : k = ps.length := by omega
          subst hkl
          obtain ⟨m0, m1, m2, m3, m4, m5, m6⟩ := M.cells
          have HM := hide M
          clear M
          go_wp2
          refine bodyPost_ret (v := faultV (mP ts ps ps.length)) (by simp [results, Tryz.results53, go_sem, m5, faultV]) rfl ⟨rfl, ?_⟩
          exact (HM.out.b.setCell (by show w.heap.size ≤ w.heap.size + 1; omega) _).setCell (by show w.heap.size ≤ w.heap.size + 1; omega) _
end Go.Proofs.YtbdffcjganlblaaGreatDoor
