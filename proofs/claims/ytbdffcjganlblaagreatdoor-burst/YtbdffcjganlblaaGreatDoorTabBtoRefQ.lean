/-
  Own work. Tables, as lists: what a sound one is, said twice; its text.
-/
import Derived.Test.YtbdffcjganlblaaGreatDoorProgEtoTabA
import Derived.Test.YtbdffcjganlblaaGreatDoorRefOtoRefP
namespace Go.Proofs.YtbdffcjganlblaaGreatDoor
set_option linter.unusedVariables false
set_option linter.unusedSimpArgs false

abbrev FSl := Nat × Sl
/-- The slices in their order, each with its frame. -/
def flatF : Nat → List (List Sl) → List FSl
  | _, [] => []
  | j, f :: r => f.map (fun s => (j, s)) ++ flatF (j + 1) r

/-! ### Budgets -/
def budS : List Sl → Nat
  | [] => 0
  | s :: r => s.bud + budS r
theorem budS_app (a b : List Sl) : budS (a ++ b) = budS a + budS b := by
  induction a with
  | nil => simp [budS]
  | cons s r ih => simp [budS, ih]; omega
def usedJ : List FSl → Nat → Nat
  | [], _ => 0
  | x :: r, j => (if x.1 = j then x.2.bud else 0) + usedJ r j
theorem usedJ_app (a b : List FSl) (j : Nat) : usedJ (a ++ b) j = usedJ a j + usedJ b j := by
  induction a with
  | nil => simp [usedJ]
  | cons s r ih => simp [usedJ, ih]; omega
/-- The document's look at the budgets. -/
def BudR (fr : Nat) (P : List FSl) (l : List FSl) : Prop := ∀ k (h : k < l.length), 1 ≤ l[k].2.bud ∧ usedJ (P ++ l.take k) l[k].1 + l[k].2.bud ≤ fr
/-- The program's. -/
def BudP (fr : Nat) (f : List Sl) : Prop := ∀ k (h : k < f.length), 1 ≤ f[k].bud ∧ budS (f.take k) + f[k].bud ≤ fr

theorem usedJ_map (j : Nat) (f : List Sl) : usedJ (f.map (fun s => (j, s))) j = budS f := by
  induction f with
  | nil => rfl
  | cons s r ih => simp [usedJ, budS, ih]
theorem usedJ_other (j i : Nat) (h : i ≠ j) (f : List Sl) : usedJ (f.map (fun s => (j, s))) i = 0 := by
  induction f with
  | nil => rfl
  | cons s r ih => simp [usedJ, ih]; omega

theorem budR_app (fr : Nat) (P a b : List FSl) : BudR fr P (a ++ b) ↔ BudR fr P a ∧ BudR fr (P ++ a) b := by
  constructor
  · intro h
    constructor
    · intro k hk
      have := h k (by simp; omega)
      rw [List.getElem_append_left hk, List.take_append_of_le_length (by omega)] at this
      exact this
    · intro k hk
      have := h (a.length + k) (by simp; omega)
      rw [List.getElem_append_right (by omega)] at this
      simp only [Nat.add_sub_cancel_left, List.take_length_add_append] at this
      rw [List.append_assoc]
      exact this
  · rintro ⟨h1, h2⟩ k hk
    rcases Nat.lt_or_ge k a.length with h | h
    · rw [List.getElem_append_left h, List.take_append_of_le_length (by omega)]
      exact h1 k h
    · have := h2 (k - a.length) (by simp at hk; omega)
      rw [List.getElem_append_right h]
      have e : (a ++ b).take k = a ++ b.take (k - a.length) := by
        conv => lhs; rw [show k = a.length + (k - a.length) by omega]
        rw [List.take_length_add_append]
      rw [e, ← List.append_assoc]
      exact this
theorem budR_frame (fr j : Nat) (P : List FSl) (hP : usedJ P j = 0) (f : List Sl) : BudR fr P (f.map (fun s => (j, s))) ↔ BudP fr f := by
  constructor
  · intro h k hk
    have := h k (by simpa using hk)
    simp only [List.getElem_map, ← List.map_take, usedJ_app, hP, usedJ_map, Nat.zero_add] at this
    exact this
  · intro h k hk
    have := h k (by simpa using hk)
    simp only [List.getElem_map, ← List.map_take, usedJ_app, hP, usedJ_map, Nat.zero_add]
    exact this
theorem budR_flat (fr : Nat) : ∀ (fs : List (List Sl)) (j : Nat) (P : List FSl), (∀ i, j ≤ i → usedJ P i = 0) → (BudR fr P (flatF j fs) ↔ ∀ f ∈ fs, BudP fr f)
  | [], j, P, _ => by simp [flatF, BudR]
  | f :: r, j, P, hP => by
    rw [flatF, budR_app, budR_frame fr j P (hP j (Nat.le_refl _)), budR_flat fr r (j + 1) (P ++ f.map (fun s => (j, s)))]
    · simp
    · intro i hi
      rw [usedJ_app, hP i (by omega), usedJ_other j i (by omega)]

/-! ### Jobs -/
def nextJ (P : List FSl) (n : UInt8) : Nat := P.foldl (fun m x => if x.2.nm = n then (if m < x.2.job + 1 then x.2.job + 1 else m) else m) 0
def lastF (P : List FSl) (n : UInt8) : Nat := P.foldl (fun m x => if x.2.nm = n then x.1 else m) 0
def dupJ (P : List FSl) (x : FSl) : Prop := ∃ y ∈ P, y.2.nm = x.2.nm ∧ y.2.job = x.2.job ∧ y.1 = x.1
/-- The document's look at the jobs, and the program's. -/
def okR (P : List FSl) (x : FSl) : Prop := ¬ dupJ P x ∧ (x.2.job = nextJ P x.2.nm ∨ x.2.job + 1 = nextJ P x.2.nm)
def okP (P : List FSl) (x : FSl) : Prop := x.2.job = nextJ P x.2.nm ∨ (x.2.job + 1 = nextJ P x.2.nm ∧ lastF P x.2.nm ≠ x.1)
def JobsR (l : List FSl) : Prop := ∀ k (h : k < l.length), okR (l.take k) l[k]
def JobsP (l : List FSl) : Prop := ∀ k (h : k < l.length), okP (l.take k) l[k]

theorem nextJ_snoc (P : List FSl) (x : FSl) (n : UInt8) : nextJ (P ++ [x]) n = if x.2.nm = n then (if nextJ P n < x.2.job + 1 then x.2.job + 1 else nextJ P n) else nextJ P n := by
  unfold nextJ
  rw [List.foldl_append]; rfl
theorem lastF_snoc (P : List FSl) (x : FSl) (n : UInt8) : lastF (P ++ [x]) n = if x.2.nm = n then x.1 else lastF P n := by
  unfold lastF
  rw [List.foldl_append]; rfl

/-- What holds of a prefix that is as it should be. -/
def JInv (P : List FSl) : Prop := ∀ n, ((∀ z ∈ P, z.2.nm ≠ n) ∧ nextJ P n = 0) ∨ ((∃ y ∈ P, y.2.nm = n ∧ y.1 = lastF P n ∧ y.2.job + 1 = nextJ P n) ∧ ∀ z ∈ P, z.2.nm = n → z.1 ≤ lastF P n ∧ z.2.job + 1 ≤ nextJ P n)

theorem ok_same {P : List FSl} {x : FSl} (h : JInv P) (hm : ∀ z ∈ P, z.1 ≤ x.1) : okR P x ↔ okP P x := by
  unfold okR okP
  rcases h x.2.nm with ⟨h1, h2⟩ | ⟨⟨y, hy, hyn, hyf, hyj⟩, h2⟩
  · rw [h2]
    constructor
    · rintro ⟨_, h3 | h3⟩
      · exact .inl h3
      · omega
    · rintro (h3 | ⟨h3, _⟩)
      · refine ⟨?_, .inl h3⟩
        rintro ⟨z, hz, hzn, _⟩
        exact h1 z hz hzn
      · omega
  · constructor
    · rintro ⟨hd, h3 | h3⟩
      · exact .inl h3
      · refine .inr ⟨h3, ?_⟩
        intro he
        exact hd ⟨y, hy, hyn, by omega, by omega⟩
    · rintro (h3 | ⟨h3, h4⟩)
      · refine ⟨?_, .inl h3⟩
        rintro ⟨z, hz, hzn, hzj, _⟩
        have := (h2 z hz hzn).2
        omega
      · refine ⟨?_, .inr h3⟩
        rintro ⟨z, hz, hzn, hzj, hzf⟩
        have h5 := (h2 z hz hzn).1
        have h6 := hm y hy
        omega

theorem jinv_snoc {P : List FSl} {x : FSl} (h : JInv P) (hm : ∀ z ∈ P, z.1 ≤ x.1) (hk : x.2.job = nextJ P x.2.nm ∨ x.2.job + 1 = nextJ P x.2.nm) : JInv (P ++ [x]) := by
  intro n
  rw [nextJ_snoc, lastF_snoc]
  by_cases hn : x.2.nm = n
  · subst hn
    right
    have hnx : (if nextJ P x.2.nm < x.2.job + 1 then x.2.job + 1 else nextJ P x.2.nm) = x.2.job + 1 := by split <;> omega
    simp only [if_true]
    rw [hnx]
    refine ⟨⟨x, by simp, rfl, rfl, rfl⟩, ?_⟩
    intro z hz hzn
    rcases List.mem_append.1 hz with hz | hz
    · refine ⟨hm z hz, ?_⟩
      rcases h x.2.nm with ⟨h1, _⟩ | ⟨_, h2⟩
      · exact absurd hzn (h1 z hz)
      · have := (h2 z hz hzn).2
        omega
    · simp at hz
      subst hz
      omega
  · rw [if_neg hn, if_neg hn]
    rcases h n with ⟨h1, h2⟩ | ⟨⟨y, hy, h3⟩, h2⟩
    · left
      refine ⟨?_, h2⟩
      intro z hz
      rcases List.mem_append.1 hz with hz | hz
      · exact h1 z hz
      · simp at hz
        subst hz
        exact hn
    · right
      refine ⟨⟨y, by simp [hy], h3⟩, ?_⟩
      intro z hz hzn
      rcases List.mem_append.1 hz with hz | hz
      · exact h2 z hz hzn
      · simp at hz
        subst hz
        exact absurd hzn hn

/-- The frames rise. -/
def Rises (l : List FSl) : Prop := ∀ i j (hi : i < l.length) (hj : j < l.length), i ≤ j → l[i].1 ≤ l[j].1

theorem take_mem {l : List FSl} {k : Nat} {z : FSl} (h : z ∈ l.take k) : ∃ i, ∃ hi : i < l.length, i < k ∧ l[i] = z := by
  obtain ⟨i, hi, rfl⟩ := List.mem_iff_getElem.1 h
  simp at hi
  exact ⟨i, by omega, by omega, by simp⟩

theorem jinv_take {l : List FSl} (hr : Rises l) : ∀ k, k ≤ l.length → (∀ i (h : i < l.length), i < k → l[i].2.job = nextJ (l.take i) l[i].2.nm ∨ l[i].2.job + 1 = nextJ (l.take i) l[i].2.nm) → JInv (l.take k) ∧ ∀ n, nextJ (l.take k) n ≤ k
  | 0, _, _ => by
    simp only [List.take_zero]
    exact ⟨fun n => .inl ⟨by simp, rfl⟩, fun n => Nat.le_refl _⟩
  | k + 1, hk, h => by
    obtain ⟨h1, h2⟩ := jinv_take hr k (by omega) (fun i hi hik => h i hi (by omega))
    rw [List.take_succ_eq_append_getElem (by omega)]
    have hx := h k (by omega) (by omega)
    refine ⟨jinv_snoc h1 ?_ hx, ?_⟩
    · intro z hz
      obtain ⟨i, hi, hik, rfl⟩ := take_mem hz
      exact hr i k hi (by omega) (by omega)
    · intro n
      rw [nextJ_snoc]
      have := h2 n
      split
      · rename_i hn
        subst hn
        split <;> omega
      · omega
theorem jobs_same {l : List FSl} (hr : Rises l) : JobsR l ↔ JobsP l := by
  have key : ∀ k, k ≤ l.length → ((∀ i (h : i < l.length), i < k → okR (l.take i) l[i]) ↔ (∀ i (h : i < l.length), i < k → okP (l.take i) l[i])) := by
    intro k
    induction k with
    | zero => intro _; simp
    | succ k ih =>
      intro hk
      have ih := ih (by omega)
      have hm : ∀ z ∈ l.take k, z.1 ≤ l[k].1 := by
        intro z hz
        obtain ⟨i, hi, hik, rfl⟩ := take_mem hz
        exact hr i k hi (by omega) (by omega)
      constructor
      · intro h i hi hik
        have h0 := ih.1 (fun i hi hik => h i hi (by omega))
        rcases Nat.lt_or_ge i k with h1 | h1
        · exact h0 i hi h1
        · have : i = k := by omega
          subst this
          exact (ok_same (jinv_take hr i (by omega) (fun j hj hjk => (h j hj (by omega)).2)).1 hm).1 (h i hi (by omega))
      · intro h i hi hik
        have h0 := ih.2 (fun i hi hik => h i hi (by omega))
        rcases Nat.lt_or_ge i k with h1 | h1
        · exact h0 i hi h1
        · have : i = k := by omega
          subst this
          exact (ok_same (jinv_take hr i (by omega) (fun j hj hjk => (h0 j hj (by omega)).2)).1 hm).2 (h i hi (by omega))
  have := key l.length (Nat.le_refl _)
  exact ⟨fun h k hk => this.1 (fun i hi _ => h i hi) k hk hk, fun h k hk => this.2 (fun i hi _ => h i hi) k hk hk⟩

theorem flatF_mem : ∀ (fs : List (List Sl)) (j : Nat) (x : FSl), x ∈ flatF j fs → j ≤ x.1 ∧ x.1 < j + fs.length ∧ ∃ f ∈ fs, x.2 ∈ f
  | [], j, x, h => by simp [flatF] at h
  | f :: r, j, x, h => by
    rw [flatF] at h
    rcases List.mem_append.1 h with h | h
    · simp at h
      obtain ⟨s, hs, rfl⟩ := h
      exact ⟨Nat.le_refl _, by simp, f, by simp, hs⟩
    · obtain ⟨h1, h2, g, hg, h3⟩ := flatF_mem r (j + 1) x h
      exact ⟨by omega, by simp; omega, g, by simp [hg], h3⟩
theorem flatF_rises : ∀ (fs : List (List Sl)) (j : Nat), Rises (flatF j fs)
  | [], j => by intro a b ha; simp [flatF] at ha
  | f :: r, j => by
    intro a b ha hb hab
    have ih := flatF_rises r (j + 1)
    simp only [flatF]
    rcases Nat.lt_or_ge a f.length with h1 | h1
    · rw [List.getElem_append_left (by simpa using h1)]
      simp only [List.getElem_map]
      rcases Nat.lt_or_ge b f.length with h2 | h2
      · rw [List.getElem_append_left (by simpa using h2)]
        simp
      · rw [List.getElem_append_right (by simpa using h2)]
        have := (flatF_mem r (j + 1) _ (List.getElem_mem (l := flatF (j + 1) r) (n := b - (f.map (fun s => (j, s))).length) (by simp [flatF] at hb ⊢; omega))).1
        omega
    · rw [List.getElem_append_right (by simpa using h1), List.getElem_append_right (by simp; omega)]
      exact ih _ _ _ _ (by simp; omega)
theorem flatF_len : ∀ (fs : List (List Sl)) (j : Nat), (flatF j fs).length = fs.flatten.length
  | [], j => rfl
  | f :: r, j => by simp [flatF, flatF_len r (j + 1)]
theorem flatF_snd : ∀ (fs : List (List Sl)) (j : Nat), (flatF j fs).map Prod.snd = fs.flatten
  | [], j => rfl
  | f :: r, j => by simp [flatF, flatF_snd r (j + 1), Function.comp_def]
theorem flatF_snoc : ∀ (fs : List (List Sl)) (j : Nat) (f : List Sl), flatF j (fs ++ [f]) = flatF j fs ++ f.map (fun s => (j + fs.length, s))
  | [], j, f => by simp [flatF]
  | g :: r, j, f => by
    simp only [List.cons_append, flatF, flatF_snoc r (j + 1) f, List.append_assoc, List.length_cons]
    rw [show j + 1 + r.length = j + (r.length + 1) by omega]

/-! ### A sound table -/
structure Sound (t : Tb) : Prop where
  c1 : 1 ≤ t.cyc
  c2 : t.cyc ≤ 60
  c3 : t.fr * t.fs.length = t.cyc
  bud : ∀ f ∈ t.fs, BudP t.fr f
  jobs : JobsP (flatF 0 t.fs)

theorem budP_sum {fr : Nat} {f : List Sl} (h : BudP fr f) : f.length ≤ budS f ∧ budS f ≤ fr := by
  have key : ∀ k, k ≤ f.length → k ≤ budS (f.take k) ∧ (k = 0 ∨ budS (f.take k) ≤ fr) := by
    intro k
    induction k with
    | zero => intro _; simp
    | succ k ih =>
      intro hk
      have h1 := ih (by omega)
      have h2 := h k (by omega)
      rw [List.take_succ_eq_append_getElem (by omega), budS_app]
      simp only [budS]
      omega
  have := key f.length (Nat.le_refl _)
  rw [List.take_length] at this
  refine ⟨this.1, ?_⟩
  rcases this.2 with h0 | h0
  · have : f = [] := List.length_eq_zero_iff.1 h0
    subst this
    simp [budS]
  · exact h0
theorem flatten_le {n : Nat} : ∀ (fs : List (List Sl)), (∀ f ∈ fs, f.length ≤ n) → fs.flatten.length ≤ n * fs.length
  | [], _ => by simp
  | f :: r, h => by
    have h1 := h f (by simp)
    have h2 := flatten_le r (fun g hg => h g (by simp [hg]))
    simp only [List.flatten_cons, List.length_append, List.length_cons, Nat.mul_add, Nat.mul_one]
    omega
theorem Sound.frames {t : Tb} (h : Sound t) : 1 ≤ t.fr ∧ t.fr ≤ 60 ∧ 1 ≤ t.fs.length ∧ t.fs.length ≤ 60 ∧ t.fs.flatten.length ≤ 60 := by
  have h1 := h.c1
  have h2 := h.c2
  have h3 := h.c3
  have hf : 1 ≤ t.fr := by
    rcases Nat.eq_zero_or_pos t.fr with h0 | h0
    · rw [h0] at h3; omega
    · exact h0
  have hn : 1 ≤ t.fs.length := by
    rcases Nat.eq_zero_or_pos t.fs.length with h0 | h0
    · rw [h0] at h3; omega
    · exact h0
  have e1 : t.fr ≤ t.fr * t.fs.length := Nat.le_mul_of_pos_right _ (by omega)
  have e2 : t.fs.length ≤ t.fr * t.fs.length := Nat.le_mul_of_pos_left _ (by omega)
  have e3 := flatten_le (n := t.fr) t.fs (fun f hf => by have := budP_sum (h.bud f hf); omega)
  omega
theorem Sound.small {t : Tb} (h : Sound t) : ∀ f ∈ t.fs, f.length ≤ 60 ∧ ∀ s ∈ f, s.job < 60 ∧ 1 ≤ s.bud ∧ s.bud ≤ 60 := by
  intro f hf
  obtain ⟨h1, h2, h3, h4, h5⟩ := h.frames
  have hb := h.bud f hf
  have hs := budP_sum hb
  refine ⟨by omega, ?_⟩
  intro s hsf
  obtain ⟨k, hk, rfl⟩ := List.mem_iff_getElem.1 hsf
  have hk' := hb k hk
  refine ⟨?_, by omega, by omega⟩
  have hm : f[k] ∈ (flatF 0 t.fs).map Prod.snd := by
    rw [flatF_snd]
    exact List.mem_flatten.2 ⟨f, hf, hsf⟩
  obtain ⟨x, hx, hxe⟩ := List.mem_map.1 hm
  obtain ⟨i, hi, rfl⟩ := List.mem_iff_getElem.1 hx
  have hj := (jobs_same (flatF_rises t.fs 0)).2 h.jobs
  have hn := (jinv_take (flatF_rises t.fs 0) i (by omega) (fun j hj' _ => (hj j hj').2)).2 (flatF 0 t.fs)[i].2.nm
  have hji := (hj i hi).2
  have hl := flatF_len t.fs 0
  rw [← hxe]
  omega

/-! ### The text -/
def slTxt (s : Sl) : List UInt8 := [s.nm] ++ dL s.job ++ [58] ++ dL s.bud
def frTxt : List Sl → List UInt8
  | [] => []
  | [s] => slTxt s
  | s :: r => slTxt s ++ [44] ++ frTxt r
def hdTxt (c f : Nat) : List UInt8 := [99, 121, 99, 108, 101, 32] ++ dL c ++ [32, 102, 114, 97, 109, 101, 32] ++ dL f ++ [59, 10]
def tbTxt (t : Tb) : List UInt8 := hdTxt t.cyc t.fr ++ t.fs.flatMap (fun f => frTxt f ++ [59, 10])

theorem slTxt_len (s : Sl) : (slTxt s).length ≤ 6 := by
  have h1 := dL_len s.job
  have h2 := dL_len s.bud
  simp [slTxt]
  omega
theorem frTxt_len : ∀ (f : List Sl), (frTxt f).length ≤ 7 * f.length
  | [] => by simp [frTxt]
  | [s] => by have := slTxt_len s; simp [frTxt]; omega
  | s :: x :: r => by
    have h1 := slTxt_len s
    have h2 := frTxt_len (x :: r)
    simp [frTxt] at h2 ⊢
    omega
theorem frames_len : ∀ (fs : List (List Sl)), (fs.flatMap (fun f => frTxt f ++ [59, 10])).length ≤ 7 * fs.flatten.length + 2 * fs.length
  | [] => by simp
  | f :: r => by
    have h1 := frTxt_len f
    have h2 := frames_len r
    simp at h2 ⊢
    omega
theorem hdTxt_len (c f : Nat) : (hdTxt c f).length ≤ 19 := by
  have h1 := dL_len c
  have h2 := dL_len f
  simp [hdTxt]
  omega
theorem tbTxt_len {t : Tb} (h : Sound t) : (tbTxt t).length ≤ 800 := by
  have h1 := hdTxt_len t.cyc t.fr
  have h2 := frames_len t.fs
  obtain ⟨_, _, _, h3, h4⟩ := h.frames
  unfold tbTxt
  simp only [List.length_append]
  omega
end Go.Proofs.YtbdffcjganlblaaGreatDoor

namespace Go.Proofs.YtbdffcjganlblaaGreatDoor
open Go.RowKit
set_option linter.unusedVariables false
set_option linter.unusedSimpArgs false

def fsk (l : List FSl) (k : Nat) : FSl := l.getD k (0, ⟨0, 0, 0⟩)
theorem fsk_eq {l : List FSl} {k : Nat} (h : k < l.length) : l[k] = fsk l k := by simp [fsk, List.getD_eq_getElem?_getD, h]
/-- The slices lie in block g. -/
def RowF (w : World) (g : Nat) (l : List FSl) : Prop := ∀ k, k < l.length →
  w.cell? ⟨g, k * 4, none⟩ = some (.int .i64 (fsk l k).1) ∧ w.cell? ⟨g, k * 4 + 1, none⟩ = some (.int .u8 (fsk l k).2.nm.toNat) ∧ w.cell? ⟨g, k * 4 + 2, none⟩ = some (.int .i64 (fsk l k).2.job) ∧ w.cell? ⟨g, k * 4 + 3, none⟩ = some (.int .i64 (fsk l k).2.bud)
theorem RowF.below {w w' : World} {g B : Nat} {l : List FSl} (h : RowF w g l) (hb : Below B w w') (hg : g < B) : RowF w' g l := by
  intro k hk
  have e : ∀ o, w'.cell? ⟨g, o, none⟩ = w.cell? ⟨g, o, none⟩ := fun o => hb.cell (p := ⟨g, o, none⟩) hg
  rw [e, e, e, e]
  exact h k hk

/-- A table that a method was handed. -/
structure TBx (w wr : World) (c f : Nat) (sv : Value) : Prop where
  h : wr.heap[w.heap.size]? = some (.cells #[.int .i64 c, .int .i64 f, sv] 39 (0, 0))
  b : Below w.heap.size w wr
section
variable {w wr : World} {c f : Nat} {sv : Value}
theorem TBx.start (w : World) (c f : Nat) (sv : Value) : TBx w (w.alloc (.cells #[.int .i64 c, .int .i64 f, sv] 39)) c f sv := ⟨blk_new _ _ _, below_new _ _⟩
theorem TBx.keep (h : TBx w wr c f sv) {w' : World} (hb : Below wr.heap.size wr w') : TBx w w' c f sv := ⟨blk_keep h.h hb, h.b.trans (hb.mono h.b.size)⟩
theorem TBx.drewN (h : TBx w wr c f sv) (n : Nat) : TBx w (wr.drewN n) c f sv := h.keep (below_drewN (Below.refl _ _) n)
theorem TBx.alloc (h : TBx w wr c f sv) (o : Obj) : TBx w (wr.alloc o) c f sv := h.keep (below_new _ _)
theorem TBx.cells (h : TBx w wr c f sv) : wr.cell? ⟨w.heap.size, 0, none⟩ = some (.int .i64 c) ∧ wr.cell? ⟨w.heap.size, 1, none⟩ = some (.int .i64 f) ∧ wr.cell? ⟨w.heap.size, 2, none⟩ = some sv := by
  refine ⟨?_, ?_, ?_⟩ <;> (rw [blk_cell h.h]; rfl)
end

def FSl.small (x : FSl) : Prop := x.1 ≤ 60 ∧ x.2.job ≤ 9999 ∧ x.2.bud ≤ 9999

theorem take_next {l : List FSl} {k : Nat} (h : k < l.length) : l.take (k + 1) = l.take k ++ [fsk l k] := by
  rw [List.take_succ_eq_append_getElem h, fsk_eq h]
end Go.Proofs.YtbdffcjganlblaaGreatDoor
