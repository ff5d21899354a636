/-
  Own work. The document's checks: timed, sooner, gcd, Cycle.
-/
import Derived.Test.YtbdffcjganlblaaGreatDoorRefJ
namespace Go.Proofs.YtbdffcjganlblaaGreatDoor
open Go.RowKit
set_option linter.unusedVariables false
set_option linter.unusedSimpArgs false

def Tk.small (t : Tk) : Prop := t.P ≤ 9999 ∧ t.O ≤ 9999 ∧ t.C ≤ 9999 ∧ t.D ≤ 9999

def timedI (t : Tk) : Int :=
  if t.P < 1 ∨ 60 < t.P then t.q1
  else if t.P ≤ t.O then t.q2
  else if t.C < 1 ∨ (t.P : Int) - t.O < t.C then t.q3
  else if t.D < t.C ∨ (t.P : Int) - t.O < t.D then t.q4
  else -1

set_option maxRecDepth 100000 in
set_option maxHeartbeats 1000000 in
theorem rtimed_any (t : Tk) (w : World) (hs : t.small) :
    Calls Tryz.prog 91 #[tkV t] w fun e w' => e = .returned (.int .i64 (timedI t)) ∧ Below w.heap.size w w' := by
  obtain ⟨nm, P, O, C, D, q0, q1, q2, q3, q4⟩ := t
  obtain ⟨h1, h2, h3, h4⟩ := hs
  unfold tkV tkRaw timedI
  simp only at h1 h2 h3 h4 ⊢
  by_cases a1 : P < 1
  · have a1' : (P : Int) < 1 := by omega
    rw [if_pos (.inl a1)]
    clear a1
    go_enter Tryz.func91, Tryz.ntmps91
    go_wp2
    go_ret
    exact ⟨rfl, below_new _ _⟩
  have a1' : ¬ (P : Int) < 1 := by omega
  by_cases a2 : 60 < P
  · have a2' : (60 : Int) < P := by omega
    rw [if_pos (.inr a2)]
    clear a1 a2
    go_enter Tryz.func91, Tryz.ntmps91
    go_wp2
    go_ret
    exact ⟨rfl, below_new _ _⟩
  have a2' : ¬ (60 : Int) < P := by omega
  rw [if_neg (by omega)]
  by_cases a3 : P ≤ O
  · have a3' : (P : Int) ≤ O := by omega
    rw [if_pos a3]
    clear a1 a2 a3
    go_enter Tryz.func91, Tryz.ntmps91
    go_wp2
    go_ret
    exact ⟨rfl, below_new _ _⟩
  have a3' : ¬ (P : Int) ≤ O := by omega
  rw [if_neg a3]
  by_cases a4 : C < 1
  · have a4' : (C : Int) < 1 := by omega
    rw [if_pos (.inl a4)]
    clear a1 a2 a3 a4
    go_enter Tryz.func91, Tryz.ntmps91
    go_wp2
    go_ret
    exact ⟨rfl, below_new _ _⟩
  have a4' : ¬ (C : Int) < 1 := by omega
  by_cases a5 : (P : Int) - O < C
  · rw [if_pos (.inr a5)]
    clear a1 a2 a3 a4
    go_enter Tryz.func91, Tryz.ntmps91
    go_wp2
    go_ret
    exact ⟨rfl, below_new _ _⟩
  rw [if_neg (by omega)]
  by_cases a6 : D < C
  · have a6' : (D : Int) < C := by omega
    rw [if_pos (.inl a6)]
    clear a1 a2 a3 a4 a6
    go_enter Tryz.func91, Tryz.ntmps91
    go_wp2
    go_ret
    exact ⟨rfl, below_new _ _⟩
  have a6' : ¬ (D : Int) < C := by omega
  by_cases a7 : (P : Int) - O < D
  · rw [if_pos (.inr a7)]
    clear a1 a2 a3 a4 a6
    go_enter Tryz.func91, Tryz.ntmps91
    go_wp2
    go_ret
    exact ⟨rfl, below_new _ _⟩
  rw [if_neg (by omega)]
  clear a1 a2 a3 a4 a6
  go_enter Tryz.func91, Tryz.ntmps91
  go_wp2
  go_ret
  exact ⟨rfl, below_new _ _⟩

/-- The sooner of two faults. -/
def soon (f : Nat × Nat) (e at_ : Nat) : Nat × Nat := if f.1 = 0 ∨ at_ < f.2 then (e, at_) else f
def faultV (f : Nat × Nat) : Value := .agg #[.int .i64 f.1, .int .i64 f.2]

set_option maxRecDepth 100000 in
set_option maxHeartbeats 1000000 in
theorem rsooner_any (f : Nat × Nat) (e at_ : Nat) (w : World) :
    Calls Tryz.prog 90 #[faultV f, .int .i64 e, .int .i64 at_] w fun e' w' => e' = .returned (faultV (soon f e at_)) ∧ Below w.heap.size w w' := by
  obtain ⟨E, A⟩ := f
  unfold faultV soon
  simp only
  have hend : ∀ o1 o2 : Obj, Below w.heap.size w ((w.alloc o1).alloc o2) := fun o1 o2 => (below_new w o1).alloc (by simp) _
  have Hend := hide hend
  clear hend
  by_cases a1 : E = 0
  · have a1' : ((E : Int) == 0) = true := by simp; omega
    rw [if_pos (.inl a1)]
    clear a1
    go_enter Tryz.func90, Tryz.ntmps90
    go_wp2
    exact bodyPost_ret (v := .agg #[.int .i64 e, .int .i64 at_]) (by simp [results, Tryz.results90, go_sem]) rfl ⟨rfl, Hend.out _ _⟩
  have a1' : ((E : Int) == 0) = false := by simp; omega
  by_cases a2 : at_ < A
  · have a2' : (at_ : Int) < A := by omega
    rw [if_pos (.inr a2)]
    clear a1 a2
    go_enter Tryz.func90, Tryz.ntmps90
    go_wp2
    exact bodyPost_ret (v := .agg #[.int .i64 e, .int .i64 at_]) (by simp [results, Tryz.results90, go_sem]) rfl ⟨rfl, Hend.out _ _⟩
  have a2' : ¬ (at_ : Int) < A := by omega
  rw [if_neg (by omega)]
  clear a1 a2
  go_enter Tryz.func90, Tryz.ntmps90
  go_wp2
  exact bodyPost_ret (v := .agg #[.int .i64 E, .int .i64 A]) (by simp [results, Tryz.results90, go_sem]) rfl ⟨rfl, Hend.out _ _⟩

set_option maxRecDepth 100000 in
set_option maxHeartbeats 1000000 in
theorem rgcd_any (a b : Nat) (w : World) (ha : a ≤ 100000) (hb : b ≤ 100000) :
    Calls Tryz.prog 92 #[.int .i64 a, .int .i64 b] w fun e w' => e = .returned (.int .i64 (Nat.gcd a b)) ∧ w' = w := by
  go_enter Tryz.func92, Tryz.ntmps92
  go_wp2
  go_loop [0, 1] (fun p q => ∃ x y : Nat, x ≤ 100000 ∧ y ≤ 100000 ∧ p = .int .i64 x ∧ q = .int .i64 y ∧ Hid (Nat.gcd a b = Nat.gcd x y)) (fun _ q => (intOf q).toNat)
  case atStart => exact ⟨a, b, ha, hb, rfl, rfl, rfl⟩
  case round =>
    obtain ⟨x, y, hx, hy, rfl, rfl, hg⟩ := hrel
    by_cases h0 : y = 0
    · have h0' : ((y : Int) != 0) = false := by simp; omega
      have H0 := hide h0
      clear h0
      go_wp2
      go_ret
      refine ⟨ret_int ?_, rfl⟩
      rw [hg.out, H0.out, Nat.gcd_zero_right]
    · have h0' : ((y : Int) != 0) = true := by rw [bne_iff_ne]; omega
      have h0'' : ¬ (y : Int) = 0 := by omega
      have hlt : x % y < y := Nat.mod_lt _ (by omega)
      have Hlt := hide hlt
      have Hg : Hid (Nat.gcd x y = Nat.gcd y (x % y)) := by unfold Hid; rw [Nat.gcd_comm x y, Nat.gcd_rec y x, Nat.gcd_comm]
      clear h0 hlt
      go_wp2
      refine ⟨⟨y, x % y, hy, by have := Hlt.out; omega, rfl, by go_num, by unfold Hid; rw [hg.out, Hg.out]⟩, ?_⟩
      have := Hlt.out
      simp only [intOf]
      omega

def cycF (ts : List Tk) : Nat → Nat → Nat → Nat
  | 0, _, h => h
  | f + 1, k, h => if 60 < h / Nat.gcd h (tsk ts k).P * (tsk ts k).P then 0 else cycF ts f (k + 1) (h / Nat.gcd h (tsk ts k).P * (tsk ts k).P)
/-- The cycle; 0: it is above 60. -/
def cycI (ts : List Tk) : Nat := cycF ts ts.length 0 1

theorem lcm_pos (h P : Nat) (h1 : 1 ≤ h) (h2 : 1 ≤ P) : 1 ≤ h / Nat.gcd h P * P := by
  have hg : Nat.gcd h P ∣ h := Nat.gcd_dvd_left h P
  have : 1 ≤ h / Nat.gcd h P := Nat.div_pos (Nat.le_of_dvd (by omega) hg) (Nat.gcd_pos_of_pos_left P (by omega))
  calc 1 ≤ h / Nat.gcd h P := this
    _ ≤ h / Nat.gcd h P * P := Nat.le_mul_of_pos_right _ (by omega)

theorem w64 (n : Int) (h : -9223372036854775808 ≤ n ∧ n ≤ 9223372036854775807) : wrap64 n = n := by unfold wrap64; omega
theorem lcm_wrap (h d P : Nat) (h1 : h / d ≤ 60) (h2 : P ≤ 60) : wrap64 (wrap64 ((h : Int) / (d : Nat)) * P) = ((h / d * P : Nat) : Int) := by
  have e1 : (h : Int) / (d : Nat) = ((h / d : Nat) : Int) := by simp
  rw [e1]
  generalize h / d = q at *
  have hm : q * P ≤ 60 * 60 := Nat.mul_le_mul h1 h2
  have e2 : wrap64 (q : Int) = q := w64 _ (by omega)
  rw [e2]
  have e3 : ((q : Int) * P) = ((q * P : Nat) : Int) := by simp
  rw [e3]
  exact w64 _ (by omega)

set_option maxRecDepth 100000 in
set_option maxHeartbeats 1000000 in
theorem rCycle_any (ts : List Tk) (g cap : Nat) (pv : Value) (pa : Option Addr) (pm pc : Nat) (hpv : pv = .slice pa pm pc) (w : World) (hg : g < w.heap.size) (hr : RowT w g ts) (hn : ts.length ≤ 6) (hP : ∀ k, k < ts.length → 1 ≤ (tsk ts k).P ∧ (tsk ts k).P ≤ 60) :
    Calls Tryz.prog 54 #[.agg #[.slice (some ⟨g, 0, none⟩) ts.length cap, pv]] w fun e w' => e = .returned (.int .i64 (cycI ts)) ∧ Below w.heap.size w w' := by
  subst hpv
  have hbn : Below w.heap.size w (w.alloc (.cells #[.slice (some ⟨g, 0, none⟩) ts.length cap, .slice pa pm pc] 53)) := below_new _ _
  have Hr := hide hr
  have Hb := hide hbn
  have HP := hide hP
  clear hr hbn hP
  go_enter Tryz.func54, Tryz.ntmps54
  go_wp2
  go_loopw [3, 4] (fun x i wr => ∃ (k h : Nat), k ≤ ts.length ∧ i = .int .i64 k ∧ x = .int .i64 h ∧ 1 ≤ h ∧ h ≤ 60 ∧ Below w.heap.size w wr ∧ wr.cell? ⟨w.heap.size, 0, none⟩ = some (.slice (some ⟨g, 0, none⟩) ts.length cap) ∧ Hid (cycI ts = cycF ts (ts.length - k) k h)) (fun _ i _ => ts.length - (intOf i).toNat)
  case atStart => exact ⟨0, 1, by omega, rfl, rfl, by omega, by omega, Hb.out, by simp [go_sem], rfl⟩
  case round =>
    clear Hb
    obtain ⟨k, h, hk, rfl, rfl, hh1, hh2, hbw, c0, hf⟩ := hrel
    have Hb := hide hbw
    clear hbw
    by_cases hlt : k < ts.length
    · have r1 := (Hr.out.below Hb.out hg k hlt).2.1
      obtain ⟨hP1, hP2⟩ := HP.out k hlt
      have hfs : cycF ts (ts.length - k) k h = if 60 < h / Nat.gcd h (tsk ts k).P * (tsk ts k).P then 0 else cycF ts (ts.length - (k + 1)) (k + 1) (h / Nat.gcd h (tsk ts k).P * (tsk ts k).P) := by
        rw [show ts.length - k = (ts.length - (k + 1)) + 1 by omega, cycF]
      have hpos := lcm_pos h (tsk ts k).P hh1 hP1
      have hle : h / Nat.gcd h (tsk ts k).P ≤ 60 := Nat.le_trans (Nat.div_le_self _ _) hh2
      have hgp : 0 < Nat.gcd h (tsk ts k).P := Nat.gcd_pos_of_pos_left _ (by omega)
      have hml : h / Nat.gcd h (tsk ts k).P * (tsk ts k).P ≤ 60 * 60 := Nat.mul_le_mul hle hP2
      have Hfs := hide hfs
      clear hfs
      generalize (tsk ts k).P = P at *
      have hd0 : ¬ ((Nat.gcd h P : Nat) : Int) = 0 := by omega
      obtain ⟨L, hL⟩ : ∃ L, L = h / Nat.gcd h P * P := ⟨_, rfl⟩
      have hw : wrap64 (wrap64 ((h : Int) / (Nat.gcd h P : Nat)) * P) = (L : Int) := by rw [hL]; exact lcm_wrap h (Nat.gcd h P) P hle hP2
      rw [← hL] at Hfs hpos hml
      have HL := hide hL
      clear hL
      go_wp2_with fail
      go_quiet ((go_at_call 92; go_must (exact Calls.quiet_of_same (rgcd_any h P _ (by omega) (by omega)))))
      by_cases h60 : 60 < L
      · have h60' : (60 : Int) < L := by omega
        go_wp2
        go_ret
        refine ⟨ret_int ?_, below_drewN Hb.out _⟩
        rw [hf.out, Hfs.out, if_pos h60]
        rfl
      · have h60' : ¬ (60 : Int) < L := by omega
        go_wp2
        go_roundw
        case rel => exact ⟨k + 1, L, by omega, by go_num, by rw [hw], by omega, by omega, below_drewN Hb.out _, c0, by unfold Hid; rw [hf.out, Hfs.out, if_neg h60]⟩
        case measure => simp [intOf]; omega
    · go_wp2
      go_ret
      refine ⟨ret_int ?_, Hb.out⟩
      rw [hf.out, show ts.length - k = 0 by omega, cycF]
end Go.Proofs.YtbdffcjganlblaaGreatDoor
