/-
  Own work. A run of a plan keeps the windows, pure: counting names in a trace.
-/
import Derived.Test.YtbdffcjganlblaaGreatDoorMLawCtoMtA
import Derived.Test.YtbdffcjganlblaaGreatDoorMRefFtoRefG
import Derived.Test.YtbdffcjganlblaaGreatDoorMRefBtoRefE
import Derived.Maps.AppendAt
import Derived.BigQuiet
import Derived.Deep.RegionHeldLaw
namespace Go.Proofs.YtbdffcjganlblaaGreatDoor
set_option linter.unusedVariables false
set_option linter.unusedSimpArgs false

/-- How often a name stands in a trace from one time to another one. -/
def tms (s : List UInt8) (c : UInt8) (a b : Nat) : Nat := cP (fun u => decide (a ≤ u) && decide (u < b) && (s.getD u 0 == c)) s.length
theorem tms_end {s : List UInt8} {c : UInt8} {a b i : Nat} (h1 : a ≤ i) (h2 : ¬ (i < b ∧ i < s.length)) (h3 : i = a ∨ (i ≤ b ∧ i ≤ s.length)) : cP (fun u => decide (a ≤ u) && (s.getD u 0 == c)) i = tms s c a b := by
  unfold tms
  by_cases h4 : i ≤ b ∧ i ≤ s.length
  · obtain ⟨n, hn⟩ : ∃ n, s.length = i + n := ⟨s.length - i, by omega⟩
    rw [hn, cP_move, cP_same (f := fun u => decide (a ≤ u) && decide (u < b) && (s.getD u 0 == c)) (g := fun u => decide (a ≤ u) && (s.getD u 0 == c)) i (fun u hu => by
      simp [show u < b by omega])]
    rw [cP_none n (fun u hu => by
      have : ¬ i + u < b := by omega
      simp [this])]
    omega
  · have e : i = a := by omega
    subst e
    rw [cP_none i (fun u hu => by simp; omega), cP_none s.length (fun u hu => by
      have : ¬ (i ≤ u ∧ u < b) := by omega
      by_cases h5 : i ≤ u
      · simp [h5, show ¬ u < b by omega]
      · simp [h5])]
theorem cyc_in {cyc c i : Nat} (h : i < cyc) : (c * cyc + i) / cyc = c ∧ (c * cyc + i) % cyc = i := by
  constructor
  · rw [Nat.mul_comm, Nat.mul_add_div (by omega), Nat.div_eq_of_lt h, Nat.add_zero]
  · rw [Nat.mul_comm, Nat.mul_add_mod, Nat.mod_eq_of_lt h]
theorem cyc_of {cyc c u : Nat} (h1 : c * cyc ≤ u) (h2 : u < c * cyc + cyc) : u / cyc = c ∧ u % cyc = u - c * cyc := by
  obtain ⟨i, rfl⟩ : ∃ i, u = c * cyc + i := ⟨u - c * cyc, by omega⟩
  have := cyc_in (cyc := cyc) (c := c) (i := i) (by omega)
  exact ⟨this.1, by rw [this.2]; omega⟩
theorem cyc_bounds {cyc u : Nat} (h : 1 ≤ cyc) : u / cyc * cyc ≤ u ∧ u < u / cyc * cyc + cyc ∧ u % cyc = u - u / cyc * cyc := by
  have h1 := Nat.div_add_mod u cyc
  have h2 := Nat.mod_lt u (show cyc > 0 by omega)
  rw [Nat.mul_comm] at h1
  omega
/-- One cycle's part of a longer row. -/
theorem cP_cyc {g : Nat → Bool} {cyc c T : Nat} (hc : 1 ≤ cyc) : cP (fun u => decide (u / cyc = c) && g (u % cyc)) T = cP g (min cyc (T - c * cyc)) := by
  by_cases h0 : T ≤ c * cyc
  · rw [show T - c * cyc = 0 by omega, Nat.min_zero]
    refine cP_none T (fun u hu => ?_)
    have hne : u / cyc ≠ c := fun e => by
      have := (cyc_bounds (u := u) hc).1
      rw [e] at this
      omega
    simp [hne]
  · obtain ⟨n, rfl⟩ : ∃ n, T = c * cyc + n := ⟨T - c * cyc, by omega⟩
    rw [cP_move, cP_none (c * cyc) (fun u hu => by
      have hne : u / cyc ≠ c := fun e => by
        have := (cyc_bounds (u := u) hc).1
        rw [e] at this
        omega
      simp [hne]), Nat.zero_add, Nat.add_sub_cancel_left]
    by_cases hn : n ≤ cyc
    · rw [Nat.min_eq_right hn]
      refine cP_same n (fun i hi => ?_)
      rw [(cyc_in (cyc := cyc) (c := c) (i := i) (by omega)).1, (cyc_in (cyc := cyc) (c := c) (i := i) (by omega)).2]
      simp
    · rw [Nat.min_eq_left (by omega)]
      obtain ⟨m, rfl⟩ : ∃ m, n = cyc + m := ⟨n - cyc, by omega⟩
      rw [cP_move, cP_none m (fun i hi => by
        have hne : (c * cyc + (cyc + i)) / cyc ≠ c := fun e => by
          have := (cyc_bounds (u := c * cyc + (cyc + i)) hc).2.1
          rw [e] at this
          omega
        simp [hne]), Nat.add_zero]
      refine cP_same cyc (fun i hi => ?_)
      rw [(cyc_in (cyc := cyc) (c := c) (i := i) (by omega)).1, (cyc_in (cyc := cyc) (c := c) (i := i) (by omega)).2]
      simp

/-- A trace of a plan: each unit is its job's, or none's. -/
structure Trc (js : List Jb) (ps : List Pr) (cyc F : Nat) (P : List (Nat × Nat)) (L : List FSl) (s : List UInt8) : Prop where
  G : Goes L cyc F
  fl : Flat js ps F P L
  jo : JsOk js cyc
  dot : ∀ k, k < js.length → (jk js k).ltr ≠ 46
  at_ : ∀ u, u < s.length → s.getD u 0 = barU L F (u % cyc) ∨ s.getD u 0 = 46
section
variable {js : List Jb} {ps : List Pr} {cyc F : Nat} {P : List (Nat × Nat)} {L : List FSl} {s : List UInt8}
theorem Trc.unit (h : Trc js ps cyc F P L s) {u : Nat} (hu : u < s.length) (hne : s.getD u 0 ≠ 46) : ∃ k, unitJ P L F (u % cyc) = some k ∧ k < js.length ∧ s.getD u 0 = (jk js k).ltr := by
  cases hj : unitJ P L F (u % cyc) with
  | none =>
    have h1 := unit_none hj
    rcases h.at_ u hu with h2 | h2
    · rw [h1] at h2
      exact absurd h2 hne
    · exact absurd h2 hne
  | some k =>
    have h1 := unit_is h.G h.fl hj
    rcases h.at_ u hu with h2 | h2
    · exact ⟨k, rfl, h1.1, by rw [h2]; exact h1.2.2.2.2⟩
    · exact absurd h2 hne
theorem Trc.win (h : Trc js ps cyc F P L s) (c : Nat) {k : Nat} (hk : k < js.length) : tms s (jk js k).ltr (c * cyc + (jk js k).rel) (c * cyc + (jk js k).dl) = cP (fun u => decide (u / cyc = c) && decide (unitJ P L F (u % cyc) = some k) && !(s.getD u 0 == 46)) s.length := by
  unfold tms
  refine cP_same _ (fun u hu => ?_)
  have hc := h.G.c1
  have hdl := h.jo.cyc k hk
  rw [Bool.eq_iff_iff]
  simp only [Bool.and_eq_true, decide_eq_true_eq, beq_iff_eq, Bool.not_eq_true', beq_eq_false_iff_ne, ne_eq]
  constructor
  · rintro ⟨⟨h1, h2⟩, h3⟩
    obtain ⟨e1, e2⟩ := cyc_of (cyc := cyc) (c := c) (u := u) (by omega) (by omega)
    have hne : s.getD u 0 ≠ 46 := by rw [h3]; exact h.dot k hk
    obtain ⟨j, j1, j2, j3⟩ := h.unit hu hne
    have hw := unit_is h.G h.fl j1
    have hjk : j = k := by
      have hl : (jk js j).ltr = (jk js k).ltr := by rw [← j3, h3]
      rcases Nat.lt_trichotomy (jk js j).num (jk js k).num with h5 | h5 | h5
      · have := h.jo.apart j k j2 hk hl h5
        omega
      · exact h.jo.one j k j2 hk hl h5
      · have := h.jo.apart k j hk j2 hl.symm h5
        omega
    subst hjk
    exact ⟨⟨e1, j1⟩, hne⟩
  · rintro ⟨⟨h1, h2⟩, h3⟩
    obtain ⟨j, j1, j2, j3⟩ := h.unit hu h3
    have : j = k := by rw [h2] at j1; simpa using j1.symm
    subst this
    have hw := unit_is h.G h.fl h2
    obtain ⟨b1, b2, b3⟩ := cyc_bounds (cyc := cyc) (u := u) hc
    rw [h1] at b1 b2 b3
    exact ⟨⟨by omega, by omega⟩, j3⟩
theorem Trc.most (h : Trc js ps cyc F P L s) (c : Nat) {k : Nat} (hk : k < js.length) : tms s (jk js k).ltr (c * cyc + (jk js k).rel) (c * cyc + (jk js k).dl) ≤ (jk js k).cost := by
  rw [h.win c hk, ← unit_all h.G h.fl hk]
  have h1 := cP_le (f := fun u => decide (u / cyc = c) && decide (unitJ P L F (u % cyc) = some k) && !(s.getD u 0 == 46)) (g := fun u => decide (u / cyc = c) && (fun p => decide (unitJ P L F p = some k)) (u % cyc)) s.length (fun u hu hf => by
    simp only [Bool.and_eq_true] at hf ⊢
    exact hf.1)
  have hc := cP_cyc (g := fun p => decide (unitJ P L F p = some k)) (cyc := cyc) (c := c) (T := s.length) h.G.c1
  refine Nat.le_trans h1 (Nat.le_trans (Nat.le_of_eq hc) ?_)
  obtain ⟨m, hm⟩ : ∃ m, cyc = min cyc (s.length - c * cyc) + m := ⟨cyc - min cyc (s.length - c * cyc), by omega⟩
  generalize min cyc (s.length - c * cyc) = x at *
  rw [hm, cP_move]
  omega
theorem Trc.just (h : Trc js ps cyc F P L s) (hf : ∀ u, u < s.length → s.getD u 0 = barU L F (u % cyc)) {c k : Nat} (hk : k < js.length) (hT : c * cyc + (jk js k).dl ≤ s.length) : tms s (jk js k).ltr (c * cyc + (jk js k).rel) (c * cyc + (jk js k).dl) = (jk js k).cost := by
  rw [h.win c hk, ← unit_all h.G h.fl hk]
  rw [cP_same (g := fun u => decide (u / cyc = c) && (fun p => decide (unitJ P L F p = some k)) (u % cyc)) s.length (fun u hu => by
    show _ = (decide (u / cyc = c) && decide (unitJ P L F (u % cyc) = some k))
    by_cases hj : unitJ P L F (u % cyc) = some k
    · have h1 := unit_is h.G h.fl hj
      have : (s.getD u 0 == 46) = false := by
        rw [hf u hu, h1.2.2.2.2, beq_eq_false_iff_ne]
        exact h.dot k hk
      rw [this, Bool.not_false, Bool.and_true]
    · rw [decide_eq_false hj, Bool.and_false, Bool.false_and])]
  refine (cP_cyc (g := fun p => decide (unitJ P L F p = some k)) (cyc := cyc) (c := c) (T := s.length) h.G.c1).trans ?_
  have hdl := h.jo.cyc k hk
  obtain ⟨m, hm⟩ : ∃ m, cyc = min cyc (s.length - c * cyc) + m := ⟨cyc - min cyc (s.length - c * cyc), by omega⟩
  have hx : (jk js k).dl ≤ min cyc (s.length - c * cyc) := by omega
  generalize hxx : min cyc (s.length - c * cyc) = x at *
  have : cP (fun p => decide (unitJ P L F p = some k)) cyc = cP (fun p => decide (unitJ P L F p = some k)) (x + m) := by rw [← hm]
  rw [this, cP_move, cP_none m (fun i hi => by
    have : unitJ P L F (x + i) ≠ some k := fun e => by
      have := unit_is h.G h.fl e
      omega
    simp [this])]
  rfl
/-- The names of all jobs ahead of job k of cycle c. -/
def allT (P : List (Nat × Nat)) (L : List FSl) (F cyc : Nat) (s : List UInt8) (c k : Nat) : Nat := cP (fun u => !(s.getD u 0 == 46) && (match unitJ P L F (u % cyc) with | some j => decide (u / cyc < c) || (decide (u / cyc = c) && decide (j < k)) | none => false)) s.length
theorem allT_zero (P : List (Nat × Nat)) (L : List FSl) (F cyc : Nat) (s : List UInt8) : allT P L F cyc s 0 0 = 0 := by
  refine cP_none _ (fun u hu => ?_)
  cases unitJ P L F (u % cyc) <;> simp
theorem Trc.step (h : Trc js ps cyc F P L s) (c : Nat) {k : Nat} (hk : k < js.length) : allT P L F cyc s c (k + 1) = allT P L F cyc s c k + tms s (jk js k).ltr (c * cyc + (jk js k).rel) (c * cyc + (jk js k).dl) := by
  rw [h.win c hk]
  refine cP_or _ (fun u hu => ?_) (fun u hu hf => ?_)
  · cases hx : (s.getD u 0 == 46) with
    | true => simp
    | false =>
      cases hj : unitJ P L F (u % cyc) with
      | none => simp
      | some j =>
        rw [Bool.eq_iff_iff]
        simp
        omega
  · cases hj : unitJ P L F (u % cyc) with
    | none => simp
    | some j =>
      rw [hj] at hf
      simp only [Bool.and_eq_true] at hf
      have hf2 := hf.2
      simp at hf2
      by_cases e : j = k
      · subst e
        have : ¬ u / cyc = c := by omega
        simp [this]
      · simp [e]
theorem Trc.row (h : Trc js ps cyc F P L s) (c : Nat) : allT P L F cyc s c js.length = allT P L F cyc s (c + 1) 0 := by
  refine cP_same _ (fun u hu => ?_)
  cases hj : unitJ P L F (u % cyc) with
  | none => rfl
  | some j =>
    have h1 := (unit_is h.G h.fl hj).1
    cases hx : (s.getD u 0 == 46) with
    | true => simp
    | false =>
      rw [Bool.eq_iff_iff]
      simp
      omega
theorem Trc.fin (h : Trc js ps cyc F P L s) {c : Nat} (hc : s.length ≤ c * cyc) : allT P L F cyc s c 0 = cP (fun u => !(s.getD u 0 == 46)) s.length := by
  refine cP_same _ (fun u hu => ?_)
  by_cases hne : s.getD u 0 = 46
  · have : (s.getD u 0 == 46) = true := by rw [hne]; rfl
    rw [this]
    simp
  · obtain ⟨k, h1, h2, h3⟩ := h.unit hu hne
    have hlt : u / cyc < c := by
      have h5 := (cyc_bounds (cyc := cyc) (u := u) h.G.c1).1
      rcases Nat.lt_or_ge (u / cyc) c with h6 | h6
      · exact h6
      · have := Nat.mul_le_mul_right cyc h6
        omega
    rw [h1]
    simp [hlt]
end

/-! ### The two runs that are asked -/
theorem barL_len (l : List FSl) (cyc fr : Nat) : ∀ u, (barL l cyc fr u).length = u
  | 0 => rfl
  | u + 1 => by rw [barL, List.length_append, barL_len l cyc fr u]; rfl
theorem barL_at (l : List FSl) (cyc fr : Nat) : ∀ T u, u < T → (barL l cyc fr T).getD u 0 = barU l fr (u % cyc)
  | 0, u, h => by omega
  | T + 1, u, h => by
    rw [barL, List.getD_eq_getElem?_getD]
    by_cases e : u = T
    · subst e
      rw [List.getElem?_append_right (by rw [barL_len]; exact Nat.le_refl _), barL_len, Nat.sub_self]
      rfl
    · rw [List.getElem?_append_left (by rw [barL_len]; omega), ← List.getD_eq_getElem?_getD]
      exact barL_at l cyc fr T u (by omega)
/-- Costs of 1 at most: no job is marked. -/
structure LeW (l : List FSl) (cyc fr u : Nat) (x : PZ) : Prop where
  want : ∀ k, x.want k ≤ 1
  len : x.out.length = u
  at_ : ∀ v, v < u → x.out.getD v 0 = barU l fr (v % cyc) ∨ x.out.getD v 0 = 46
theorem LeW.one {l : List FSl} {cyc fr u : Nat} {x : PZ} (h : LeW l cyc fr u x) {left : Nat → Nat} {want : Nat → Int} {beg : Nat} {c : UInt8} (hw : ∀ k, want k ≤ 1) (hc : c = barU l fr (u % cyc) ∨ c = 46) : LeW l cyc fr (u + 1) ⟨left, want, beg, x.out ++ [c]⟩ := by
  refine ⟨hw, by simp [h.len], fun v hv => ?_⟩
  show (x.out ++ [c]).getD v 0 = _ ∨ (x.out ++ [c]).getD v 0 = _
  rw [List.getD_eq_getElem?_getD]
  by_cases e : v = u
  · subst e
    rw [List.getElem?_append_right (by rw [h.len]; exact Nat.le_refl _), h.len, Nat.sub_self]
    simpa using hc
  · rw [List.getElem?_append_left (by rw [h.len]; omega), ← List.getD_eq_getElem?_getD]
    exact h.at_ v (by omega)
theorem LeW.all (l : List FSl) (cyc fr : Nat) (cs : List Int) (hcs : ∀ n c, wantsL cs n c ≤ 1) : ∀ u, LeW l cyc fr u (prT l cyc fr cs u)
  | 0 => ⟨fun k => by simp [prT], rfl, fun v h => by omega⟩
  | u + 1 => by
    have ih := LeW.all l cyc fr cs hcs u
    rw [prT]
    cases hU : unitL l fr (u % cyc) with
    | none => exact ih.one ih.want (.inr rfl)
    | some k =>
      have hb : barU l fr (u % cyc) = nmK l k := by unfold barU; rw [hU]
      have hy : ∀ y : PZ, (∀ j, y.want j ≤ 1) → y.out = (prT l cyc fr cs u).out → LeW l cyc fr (u + 1) (prGive l k y) := fun y h1 h2 => by
        unfold prGive
        by_cases e : y.want k = 0
        · rw [if_pos e, h2]
          exact ih.one h1 (.inr rfl)
        · have := h1 k
          rw [if_neg e, if_neg (by omega), List.append_nil, h2]
          refine ih.one (fun j => ?_) (.inl hb.symm)
          unfold setL
          split
          · omega
          · exact h1 j
      show LeW l cyc fr (u + 1) (prGive l k (if (prT l cyc fr cs u).left k = 0 then prBegin l cs k (prT l cyc fr cs u) else prT l cyc fr cs u))
      by_cases e : (prT l cyc fr cs u).left k = 0
      · rw [if_pos e]
        refine hy _ (fun j => ?_) rfl
        show setL (prT l cyc fr cs u).want k (wantsL cs (prT l cyc fr cs u).beg (budK l k)) j ≤ 1
        unfold setL
        split
        · exact hcs _ _
        · exact ih.want j
      · rw [if_neg e]
        exact hy _ ih.want rfl
theorem least_wants (n c : Nat) : wantsL [1, 0] n c ≤ 1 := by
  unfold wantsL
  rw [if_neg (by simp)]
  have h : n % 2 = 0 ∨ n % 2 = 1 := by omega
  show ([1, 0] : List Int).getD (n % 2) 0 ≤ 1
  rcases h with h | h <;> rw [h] <;> decide
end Go.Proofs.YtbdffcjganlblaaGreatDoor

namespace Go.Proofs.YtbdffcjganlblaaGreatDoor
open Go.RowKit
set_option linter.unusedVariables false
set_option linter.unusedSimpArgs false

theorem cP_step (f : Nat → Bool) (n : Nat) : cP f (n + 1) = cP f n + if f n = true then 1 else 0 := rfl
theorem cP_low (f : Nat → Bool) : ∀ n, cP f n ≤ n
  | 0 => Nat.le_refl _
  | n + 1 => by
    have := cP_low f n
    rw [cP_step]
    split <;> omega
theorem cP_from (s : List UInt8) (c : UInt8) (a : Nat) : ∀ i, i ≤ a → cP (fun u => decide (a ≤ u) && (s.getD u 0 == c)) i = 0
  | 0, _ => rfl
  | i + 1, h => by
    rw [cP_step, cP_from s c a i (by omega), if_neg]
    simp
    omega

set_option maxRecDepth 100000 in
set_option maxHeartbeats 1000000 in
theorem times_any (s : ByteArray) (c : UInt8) (a b : Nat) (w : World) (hs : s.size ≤ 100000) (ha : a ≤ 1000000) (hb : b ≤ 1000000) :
    Calls Tryz.prog 56 #[.string s, .int .u8 c.toNat, .int .i64 a, .int .i64 b] w fun e w' => e = .returned (.int .i64 (tms s.data.toList c a b)) ∧ w' = w := by
  have hl : s.data.toList.length = s.size := by simp
  go_enter Tryz.func56, Tryz.ntmps56
  go_wp2_with fail
  go_loop [9, 10] (fun nv iv => ∃ i n : Nat, a ≤ i ∧ (i = a ∨ (i ≤ b ∧ i ≤ s.size)) ∧ iv = .int .i64 i ∧ nv = .int .i64 n ∧ n ≤ i ∧ Hid (n = cP (fun u => decide (a ≤ u) && (s.data.toList.getD u 0 == c)) i)) (fun _ iv => s.size - (intOf iv).toNat)
  case atStart => exact ⟨a, 0, Nat.le_refl _, .inl rfl, rfl, rfl, Nat.zero_le _, (cP_from _ _ _ a (Nat.le_refl _)).symm⟩
  case round =>
    obtain ⟨i, n, hai, hib, rfl, rfl, hni, hn⟩ := hrel
    by_cases h1 : i < b
    · have h1' : (i : Int) < (b : Int) := by omega
      by_cases h2 : i < s.size
      · have h2' : (i : Int) < s.size := by omega
        have hll : i < s.data.toList.length := by omega
        have he : s[i] = s.data.toList.getD i 0 := by
          rw [List.getD_eq_getElem?_getD, List.getElem?_eq_getElem hll]
          simp [ByteArray.getElem_eq_getElem_data]
        by_cases hc : s.data.toList.getD i 0 = c
        · have hc' : (((s[i]).toNat : Int) == (c.toNat : Int)) = true := by rw [he, hc]; simp
          have Hn2 : Hid (n + 1 = cP (fun u => decide (a ≤ u) && (s.data.toList.getD u 0 == c)) (i + 1)) := by
            unfold Hid
            rw [cP_step, ← hn.out, if_pos (by rw [Bool.and_eq_true, decide_eq_true_eq, beq_iff_eq]; exact ⟨hai, hc⟩)]
          clear he hc
          go_wp2
          go_round
          case rel => exact ⟨i + 1, n + 1, by omega, .inr ⟨by omega, by omega⟩, by go_num, by go_num, by omega, Hn2⟩
          case measure => simp [intOf]; omega
        · have hc' : (((s[i]).toNat : Int) == (c.toNat : Int)) = false := by
            rw [he, beq_eq_false_iff_ne]
            intro h
            apply hc
            apply UInt8.toNat_inj.1
            omega
          have Hn2 : Hid (n = cP (fun u => decide (a ≤ u) && (s.data.toList.getD u 0 == c)) (i + 1)) := by
            unfold Hid
            rw [cP_step, ← hn.out, if_neg (by rw [Bool.and_eq_true, decide_eq_true_eq, beq_iff_eq]; exact fun h => hc h.2), Nat.add_zero]
          clear he hc
          go_wp2
          go_round
          case rel => exact ⟨i + 1, n, by omega, .inr ⟨by omega, by omega⟩, by go_num, by go_num, by omega, Hn2⟩
          case measure => simp [intOf]; omega
      · have h2' : ¬ (i : Int) < s.size := by omega
        have HE : Hid (n = tms s.data.toList c a b) := hn.out.trans (tms_end hai (by omega) (by omega))
        go_wp2
        go_ret
        exact ⟨by rw [HE.out]; rfl, rfl⟩
    · have h1' : ¬ (i : Int) < (b : Int) := by omega
      have HE : Hid (n = tms s.data.toList c a b) := hn.out.trans (tms_end hai (by omega) (by omega))
      go_wp2
      go_ret
      exact ⟨by rw [HE.out]; rfl, rfl⟩
end Go.Proofs.YtbdffcjganlblaaGreatDoor

namespace Go.Proofs.YtbdffcjganlblaaGreatDoor
open Go.RowKit
set_option linter.unusedVariables false
set_option linter.unusedSimpArgs false

/-- Old blocks stand, but for those in X. -/
structure Frm (X : Nat → Prop) (w w' : World) : Prop where
  os : w'.os = w.os
  tape : w'.tape = w.tape
  output : w'.output = w.output
  size : w.heap.size ≤ w'.heap.size
  block : ∀ k, k < w.heap.size → ¬ X k → w'.heap[k]? = w.heap[k]?
theorem Frm.refl (X : Nat → Prop) (w : World) : Frm X w w := ⟨rfl, rfl, rfl, Nat.le_refl _, fun _ _ _ => rfl⟩
theorem Frm.trans {X : Nat → Prop} {a b c : World} (h : Frm X a b) (k : Frm X b c) : Frm X a c :=
  ⟨k.os.trans h.os, k.tape.trans h.tape, k.output.trans h.output, Nat.le_trans h.size k.size, fun i hi hx => (k.block i (Nat.lt_of_lt_of_le hi h.size) hx).trans (h.block i hi hx)⟩
theorem Frm.wide {X Y : Nat → Prop} {a b : World} (h : Frm X a b) (hxy : ∀ k, k < a.heap.size → X k → Y k) : Frm Y a b := ⟨h.os, h.tape, h.output, h.size, fun i hi hy => h.block i hi (fun hx => hy (hxy i hi hx))⟩
theorem Frm.drew {X : Nat → Prop} {a b : World} (h : Frm X a b) : Frm X a b.drew := ⟨h.os, h.tape, h.output, h.size, h.block⟩
theorem Frm.sames {X : Nat → Prop} {a b : World} (h1 : b.os = a.os) (h2 : b.tape = a.tape) (h3 : b.output = a.output) (h4 : b.heap = a.heap) : Frm X a b := ⟨h1, h2, h3, by rw [h4]; exact Nat.le_refl _, fun k _ _ => by rw [h4]⟩
theorem Frm.alloc {X : Nat → Prop} {a b : World} (h : Frm X a b) (o : Obj) : Frm X a (b.alloc o) :=
  ⟨h.os, h.tape, h.output, Nat.le_trans h.size (by simp), fun i hi hx => (Below.heap_alloc b o i (Nat.lt_of_lt_of_le hi h.size)).trans (h.block i hi hx)⟩
theorem Frm.setCell {X : Nat → Prop} {a b : World} (h : Frm X a b) {p : Addr} (hp : X p.block) (u : Value) : Frm X a (b.setCell p u) :=
  ⟨h.os, h.tape, h.output, by simpa [World.setCell] using h.size, fun i hi hx => (Below.heap_setCell b p u i (fun e => hx (e ▸ hp))).trans (h.block i hi hx)⟩
theorem Frm.grown {X : Nat → Prop} {a b c : World} {row : Option Nat} (h : Frm X a b) (hg : b.grownBy c row) (hr : ∀ k, row = some k → k < a.heap.size → X k) : Frm X a c :=
  ⟨hg.os.trans h.os, hg.tape.trans h.tape, hg.output.trans h.output, Nat.le_trans h.size hg.size, fun i hi hx => (hg.block i (Nat.lt_of_lt_of_le hi h.size) (fun e => hx (hr i e.symm hi))).trans (h.block i hi hx)⟩
theorem Frm.blk {X : Nat → Prop} {a b : World} (h : Frm X a b) {i : Nat} {o : Obj} (hb : a.heap[i]? = some o) (hx : ¬ X i) : b.heap[i]? = some o := (h.block i (blk_lt hb) hx).trans hb
theorem Frm.below {X : Nat → Prop} {a b : World} (h : Frm X a b) {B : Nat} (hB : B ≤ a.heap.size) (hx : ∀ k, k < B → ¬ X k) : Below B a b := ⟨h.os, h.tape, h.output, h.size, fun k hk => h.block k (by omega) (hx k hk)⟩
theorem Below.frm {B : Nat} {a b : World} (h : Below B a b) : Frm (fun k => B ≤ k) a b := ⟨h.os, h.tape, h.output, h.size, fun k _ hx => h.block k (by omega)⟩

/-- A job in memory. -/
def jbV (j : Jb) (l : Nat) : Array Value := #[.string (bs [j.ltr]), .int .i64 j.num, .int .i64 j.tsk, .int .i64 j.rel, .int .i64 j.dl, .int .i64 j.cost, .int .i64 l]
def JobsAt (js : List Jb) (bl : Nat → Nat) (left : Nat → Nat) (w : World) : Prop := ∀ k, k < js.length → w.heap[bl k]? = some (.cells (jbV (jk js k) (left k)) 225 (0, 0))
theorem JobsAt.keep {js : List Jb} {bl left : Nat → Nat} {X : Nat → Prop} {w w' : World} (h : JobsAt js bl left w) (hf : Frm X w w') (hx : ∀ k, k < js.length → ¬ X (bl k)) : JobsAt js bl left w' := fun k hk => hf.blk (h k hk) (hx k hk)
def ptV (bl : Nat → Nat) (L : List Nat) : List Value := L.map fun k => .pointer (some ⟨bl k, 0, none⟩)
/-- A row of jobs. -/
abbrev RowJ (w : World) (base : Nat) (v : Value) (bl : Nat → Nat) (L : List Nat) : Prop := w.ownsRow base 226 1 v L.length (ptV bl L)
theorem RowJ.form {w : World} {base : Nat} {v : Value} {bl : Nat → Nat} {L : List Nat} (h : RowJ w base v bl L) (h0 : 0 < L.length) : ∃ g cap cur, v = .slice (some ⟨g, 0, none⟩) L.length cap ∧ base ≤ g ∧ w.heap[g]? = some (.cells cur 226 (0, 0)) ∧ L.length ≤ cap ∧ cap ≤ maxLen ∧ cur.size = cap ∧ ∀ i, i < L.length → cur[i]? = some (.pointer (some ⟨bl (gd L i), 0, none⟩)) := by
  rcases h.2 with ⟨_, h1⟩ | ⟨g, cap, cur, h1, h2, h3, h4, h5, h6, h7⟩
  · omega
  · refine ⟨g, cap, cur, h1, h2, h3, h4, h5, by omega, fun i hi => ?_⟩
    have h8 : (cur.toList.take (L.length * 1))[i]? = (ptV bl L)[i]? := by rw [h7]
    rw [List.getElem?_take, if_pos (by omega)] at h8
    rw [Array.getElem?_toList] at h8
    rw [h8, ptV, List.getElem?_map, List.getElem?_eq_getElem hi, gd_get hi]
    rfl
theorem RowJ.len {w : World} {base : Nat} {v : Value} {bl : Nat → Nat} {L : List Nat} (h : RowJ w base v bl L) : ∃ a cap, v = .slice a L.length cap ∧ L.length ≤ cap ∧ cap ≤ maxLen := by
  rcases h.2 with ⟨h0, h1⟩ | ⟨g, cap, cur, h1, h2, h3, h4, h5, h6, h7⟩
  · exact ⟨none, 0, by rw [h1]; exact h0, by omega, by simp [maxLen]⟩
  · exact ⟨_, cap, h1, h4, h5⟩
theorem keyJ_lt {js : List Jb} {i j : Nat} (hi : (jk js i).tsk < 1000) (hj : (jk js j).tsk < 1000) : keyJ js i < keyJ js j ↔ (jk js i).dl < (jk js j).dl ∨ ((jk js i).dl = (jk js j).dl ∧ (jk js i).tsk < (jk js j).tsk) := by
  unfold keyJ
  omega

set_option maxRecDepth 100000 in
set_option maxHeartbeats 1000000 in
theorem hlen_any (a : Option Addr) (n cap : Nat) (w : World) :
    Calls Tryz.prog 193 #[.slice a n cap] w fun e w' => e = .returned (.int .i64 n) ∧ w' = w := by
  go_enter Tryz.func193, Tryz.ntmps193
  go_wp2
  go_ret
  exact ⟨rfl, rfl⟩

set_option maxRecDepth 100000 in
set_option maxHeartbeats 1000000 in
theorem isDone_any (j : Jb) (l b : Nat) (w : World) (h : w.heap[b]? = some (.cells (jbV j l) 225 (0, 0))) :
    Calls Tryz.prog 176 #[.pointer (some ⟨b, 0, none⟩)] w fun e w' => e = .returned (.bool (decide (l = 0))) ∧ w' = w := by
  have h6 : w.cell? ⟨b, 6, none⟩ = some (.int .i64 l) := by rw [blk_cell h]; rfl
  clear h
  go_enter Tryz.func176, Tryz.ntmps176
  go_wp2
  go_ret
  refine ⟨?_, rfl⟩
  have e : ((l : Int) == 0) = decide (l = 0) := by
    by_cases h0 : l = 0
    · simp [h0]
    · rw [decide_eq_false h0, beq_eq_false_iff_ne]
      omega
  rw [e]
  rfl

set_option maxRecDepth 100000 in
set_option maxHeartbeats 2000000 in
theorem hless_any (js : List Jb) (bl left : Nat → Nat) (L : List Nat) (base : Nat) (v : Value) (w : World) (hv : RowJ w base v bl L) (hj : JobsAt js bl left w) (hL : ∀ x ∈ L, x < js.length) (ht : ∀ k, k < js.length → (jk js k).tsk < 1000) (i j : Nat) (hi : i < L.length) (hjl : j < L.length) :
    Calls Tryz.prog 231 #[v, .int .i64 i, .int .i64 j] w fun e w' => e = .returned (.bool (decide (keyJ js (gd L i) < keyJ js (gd L j)))) ∧ w'.heap = w.heap ∧ Frm (fun _ => False) w w' := by
  obtain ⟨g, cap, cur, rfl, hb, hg, hc1, hc2, hc3, hcell⟩ := hv.form (by omega)
  have ci : w.cell? ⟨g, i, none⟩ = some (.pointer (some ⟨bl (gd L i), 0, none⟩)) := by rw [blk_cell hg]; exact hcell i hi
  have cj : w.cell? ⟨g, j, none⟩ = some (.pointer (some ⟨bl (gd L j), 0, none⟩)) := by rw [blk_cell hg]; exact hcell j hjl
  have ki := hL _ (gd_mem hi)
  have kj := hL _ (gd_mem hjl)
  have bi := hj _ ki
  have bj := hj _ kj
  have ti := ht _ ki
  have tj := ht _ kj
  have ai4 : w.cell? ⟨bl (gd L i), 4, none⟩ = some (.int .i64 (jk js (gd L i)).dl) := by rw [blk_cell bi]; rfl
  have aj4 : w.cell? ⟨bl (gd L j), 4, none⟩ = some (.int .i64 (jk js (gd L j)).dl) := by rw [blk_cell bj]; rfl
  have ai2 : w.cell? ⟨bl (gd L i), 2, none⟩ = some (.int .i64 (jk js (gd L i)).tsk) := by rw [blk_cell bi]; rfl
  have aj2 : w.cell? ⟨bl (gd L j), 2, none⟩ = some (.int .i64 (jk js (gd L j)).tsk) := by rw [blk_cell bj]; rfl
  have hkey : Hid (decide (keyJ js (gd L i) < keyJ js (gd L j)) = decide ((jk js (gd L i)).dl < (jk js (gd L j)).dl ∨ ((jk js (gd L i)).dl = (jk js (gd L j)).dl ∧ (jk js (gd L i)).tsk < (jk js (gd L j)).tsk))) := decide_eq_decide.2 (keyJ_lt ti tj)
  rw [hkey.out]
  clear hkey bi bj hj hg hcell hv hL ht ki kj
  generalize bl (gd L i) = bi at *
  generalize bl (gd L j) = bj at *
  generalize jk js (gd L i) = x at *
  generalize jk js (gd L j) = y at *
  have hil : (i : Int) < L.length := by omega
  have hjl' : (j : Int) < L.length := by omega
  generalize L.length = n at *
  by_cases hd : x.dl = y.dl
  · have hd' : ((x.dl : Int) != y.dl) = false := by simp [hd]
    have hz : Hid (decide (x.dl < y.dl ∨ x.dl = y.dl ∧ x.tsk < y.tsk) = decide (x.tsk < y.tsk)) := decide_eq_decide.2 (by omega)
    rw [hz.out]
    clear hz hd
    go_enter Tryz.func231, Tryz.ntmps231
    go_wp2_with fail
    go_quiet (fail)
    go_wp2_with fail
    go_quiet (fail)
    go_wp2_with fail
    go_ret
    exact ⟨rfl, rfl, Frm.sames rfl rfl rfl rfl⟩
  · have hd' : ((x.dl : Int) != y.dl) = true := by simp; omega
    have hz : Hid (decide (x.dl < y.dl ∨ x.dl = y.dl ∧ x.tsk < y.tsk) = decide (x.dl < y.dl)) := decide_eq_decide.2 (by omega)
    rw [hz.out]
    clear hz hd
    go_enter Tryz.func231, Tryz.ntmps231
    go_wp2_with fail
    go_quiet (fail)
    go_wp2_with fail
    go_quiet (fail)
    go_wp2_with fail
    go_ret
    exact ⟨rfl, rfl, Frm.sames rfl rfl rfl rfl⟩

theorem RowJ.set {w : World} {base g cap : Nat} {bl : Nat → Nat} {L : List Nat} (h : RowJ w base (.slice (some ⟨g, 0, none⟩) L.length cap) bl L) {i : Nat} (hi : i < L.length) (k : Nat) : RowJ (w.setCell ⟨g, i, none⟩ (.pointer (some ⟨bl k, 0, none⟩))) base (.slice (some ⟨g, 0, none⟩) L.length cap) bl (L.set i k) := by
  rcases h.2 with ⟨h0, _⟩ | ⟨g', cap', cur, h1, h2, h3, h4, h5, h6, h7⟩
  · simp at h0
  · injection h1 with e1 e2 e3
    injection e1 with e1
    injection e1 with e1
    subst e1 e3
    refine ⟨by simp [ptV], .inr ⟨g, cap, cur.setIfInBounds i (.pointer (some ⟨bl k, 0, none⟩)), by simp, h2, blk_set h3 i _, by simpa using h4, h5, by simpa using h6, ?_⟩⟩
    rw [Array.toList_setIfInBounds, List.length_set, List.take_set, h7]
    simp [ptV, List.map_set]
theorem RowJ.drew {w : World} {base : Nat} {v : Value} {bl : Nat → Nat} {L : List Nat} (h : RowJ w base v bl L) : RowJ w.drew base v bl L := h

set_option maxRecDepth 100000 in
set_option maxHeartbeats 2000000 in
theorem hswap_any (bl : Nat → Nat) (L : List Nat) (base : Nat) (v : Value) (w : World) (hv : RowJ w base v bl L) (i j : Nat) (hi : i < L.length) (hjl : j < L.length) :
    Calls Tryz.prog 232 #[v, .int .i64 i, .int .i64 j] w fun e w' => e = .returned (.tuple #[]) ∧ RowJ w' base v bl (swp L i j) ∧ Frm (fun k => v.ownBlock = some k) w w' := by
  obtain ⟨g, cap, cur, rfl, hb, hg, hc1, hc2, hc3, hcell⟩ := hv.form (by omega)
  have ci : w.cell? ⟨g, i, none⟩ = some (.pointer (some ⟨bl (gd L i), 0, none⟩)) := by rw [blk_cell hg]; exact hcell i hi
  have cj : w.cell? ⟨g, j, none⟩ = some (.pointer (some ⟨bl (gd L j), 0, none⟩)) := by rw [blk_cell hg]; exact hcell j hjl
  have fz := blk_frozen hg
  have H1 : Hid (RowJ ((w.setCell ⟨g, i, none⟩ (.pointer (some ⟨bl (gd L j), 0, none⟩))).setCell ⟨g, j, none⟩ (.pointer (some ⟨bl (gd L i), 0, none⟩))) base (.slice (some ⟨g, 0, none⟩) L.length cap) bl (swp L i j)) := by
    have h1 := hv.set hi (gd L j)
    have h2 := RowJ.set (L := L.set i (gd L j)) (by simpa using h1) (i := j) (by simpa using hjl) (gd L i)
    unfold Hid swp
    simpa using h2
  have H2 : Hid (Frm (fun k => (Value.slice (some ⟨g, 0, none⟩) L.length cap).ownBlock = some k) w ((w.setCell ⟨g, i, none⟩ (.pointer (some ⟨bl (gd L j), 0, none⟩))).setCell ⟨g, j, none⟩ (.pointer (some ⟨bl (gd L i), 0, none⟩)))) := ((Frm.refl _ w).setCell (p := ⟨g, i, none⟩) (by simp [Value.ownBlock]) _).setCell (p := ⟨g, j, none⟩) (by simp [Value.ownBlock]) _
  obtain ⟨X, hX⟩ : ∃ X, (w.setCell ⟨g, i, none⟩ (.pointer (some ⟨bl (gd L j), 0, none⟩))).cell? ⟨g, j, none⟩ = some X := by
    rw [blk_cell (blk_set hg i _)]
    exact ⟨_, Array.getElem?_eq_getElem (by simp; omega)⟩
  have fz2 := blk_frozen (blk_set hg i (.pointer (some ⟨bl (gd L j), 0, none⟩)))
  clear hg hcell hv
  generalize bl (gd L i) = bi at *
  generalize bl (gd L j) = bj at *
  have hil : (i : Int) < L.length := by omega
  have hjl' : (j : Int) < L.length := by omega
  generalize L.length = n at *
  go_enter Tryz.func232, Tryz.ntmps232
  go_wp2_with fail
  go_region
  all_goals
    go_wp2
    go_end0
    exact ⟨rfl, H1.out.drew, H2.out.drew⟩

/-! ### The methods, through the interface -/
theorem load_heap (a : Addr) (v : Value) (w : World) (h : w.cell? a = some v) : (loadVar 219 a).run Tryz.prog w = .ok v w := by
  simp [loadVar, isAgg, run_underlying Tryz.underlying219, h]
theorem wrap_ok (t : TypeId) (a : Addr) (nm : String) (w : World) : (Builtin.ssaWrapNilChk_ #[t] t #[.pointer (some a), strVal "", strVal nm]).run Tryz.prog w = .ok (.pointer (some a)) w := rfl
theorem meth_val {nm : String} {f : Nat} (h1 : ((Tryz.prog.info? 228).bind fun i => (i.methods.find? (fun x => x.name == nm)).map fun m => (m.path.toList.length, m.func)) = some (0, some (f, false))) (a : Addr) (v : Value) (w : World) (n : Nat) (h : w.cell? a = some v) : (method (n + 1) 228 (.pointer (some a)) nm).run Tryz.prog w = .ok (f, v) w := by
  cases hi : Tryz.prog.info? 228 with
  | none => rw [hi] at h1; simp at h1
  | some i =>
    rw [hi] at h1
    cases hm : i.methods.find? (fun x => x.name == nm) with
    | none => simp [hm] at h1
    | some m =>
      simp only [Option.bind_some, hm, Option.map_some, Option.some.injEq, Prod.mk.injEq] at h1
      have hp : m.path = #[] := by
        have := h1.1
        simpa using this
      have hl := load_heap a v w h
      simp [method, typeInfo, hi, hm, hp, h1.2, follow, receiverAt, run_underlying Tryz.underlying228, Place.get, wrap_ok, asAddr, hl]
theorem meth_len (a : Addr) (v : Value) (w : World) (n : Nat) (h : w.cell? a = some v) : (method (n + 1) 228 (.pointer (some a)) "Len").run Tryz.prog w = .ok (193, v) w := meth_val (by kernel_rfl) a v w n h
theorem meth_less (a : Addr) (v : Value) (w : World) (n : Nat) (h : w.cell? a = some v) : (method (n + 1) 228 (.pointer (some a)) "Less").run Tryz.prog w = .ok (231, v) w := meth_val (by kernel_rfl) a v w n h
theorem meth_swap (a : Addr) (v : Value) (w : World) (n : Nat) (h : w.cell? a = some v) : (method (n + 1) 228 (.pointer (some a)) "Swap").run Tryz.prog w = .ok (232, v) w := meth_val (by kernel_rfl) a v w n h
theorem meth_push (a : Addr) (w : World) (n : Nat) : (method (n + 1) 228 (.pointer (some a)) "Push").run Tryz.prog w = .ok (234, .pointer (some a)) w := by kernel_rfl
theorem meth_pop (a : Addr) (w : World) (n : Nat) : (method (n + 1) 228 (.pointer (some a)) "Pop").run Tryz.prog w = .ok (233, .pointer (some a)) w := by kernel_rfl
end Go.Proofs.YtbdffcjganlblaaGreatDoor
