/-
  Own work. Tables, as lists: what a sound one is, said twice; its text.
-/
import Derived.Test.YtbdffcjganlblaaGreatDoorMRefHtoRefI
import Derived.Test.YtbdffcjganlblaaGreatDoorMRefMtoRefO
import Derived.Test.YtbdffcjganlblaaGreatDoorMRefFtoRefG
namespace Go.Proofs.YtbdffcjganlblaaGreatDoor
set_option linter.unusedVariables false
set_option linter.unusedSimpArgs false

abbrev FSl := Nat × Sl
/-- The slices in their order, each with its frame. -/
def flatF : Nat → List (List Sl) → List FSl
  | _, [] => []
  | j, f :: r => f.map (fun s => (j, s)) ++ flatF (j + 1) r

/-! ### Budgets -/
def budS : List Sl → Nat
  | [] => 0
  | s :: r => s.bud + budS r
theorem budS_app (a b : List Sl) : budS (a ++ b) = budS a + budS b := by
  induction a with
  | nil => simp [budS]
  | cons s r ih => simp [budS, ih]; omega
def usedJ : List FSl → Nat → Nat
  | [], _ => 0
  | x :: r, j => (if x.1 = j then x.2.bud else 0) + usedJ r j
theorem usedJ_app (a b : List FSl) (j : Nat) : usedJ (a ++ b) j = usedJ a j + usedJ b j := by
  induction a with
  | nil => simp [usedJ]
  | cons s r ih => simp [usedJ, ih]; omega
/-- The document's look at the budgets. -/
def BudR (fr : Nat) (P : List FSl) (l : List FSl) : Prop := ∀ k (h : k < l.length), 1 ≤ l[k].2.bud ∧ usedJ (P ++ l.take k) l[k].1 + l[k].2.bud ≤ fr
/-- The program's. -/
def BudP (fr : Nat) (f : List Sl) : Prop := ∀ k (h : k < f.length), 1 ≤ f[k].bud ∧ budS (f.take k) + f[k].bud ≤ fr

theorem usedJ_map (j : Nat) (f : List Sl) : usedJ (f.map (fun s => (j, s))) j = budS f := by
  induction f with
  | nil => rfl
  | cons s r ih => simp [usedJ, budS, ih]
theorem usedJ_other (j i : Nat) (h : i ≠ j) (f : List Sl) : usedJ (f.map (fun s => (j, s))) i = 0 := by
  induction f with
  | nil => rfl
  | cons s r ih => simp [usedJ, ih]; omega

theorem budR_app (fr : Nat) (P a b : List FSl) : BudR fr P (a ++ b) ↔ BudR fr P a ∧ BudR fr (P ++ a) b := by
  constructor
  · intro h
    constructor
    · intro k hk
      have := h k (by simp; omega)
      rw [List.getElem_append_left hk, List.take_append_of_le_length (by omega)] at this
      exact this
    · intro k hk
      have := h (a.length + k) (by simp; omega)
      rw [List.getElem_append_right (by omega)] at this
      simp only [Nat.add_sub_cancel_left, List.take_length_add_append] at this
      rw [List.append_assoc]
      exact this
  · rintro ⟨h1, h2⟩ k hk
    rcases Nat.lt_or_ge k a.length with h | h
    · rw [List.getElem_append_left h, List.take_append_of_le_length (by omega)]
      exact h1 k h
    · have := h2 (k - a.length) (by simp at hk; omega)
      rw [List.getElem_append_right h]
      have e : (a ++ b).take k = a ++ b.take (k - a.length) := by
        conv => lhs; rw [show k = a.length + (k - a.length) by omega]
        rw [List.take_length_add_append]
      rw [e, ← List.append_assoc]
      exact this
theorem budR_frame (fr j : Nat) (P : List FSl) (hP : usedJ P j = 0) (f : List Sl) : BudR fr P (f.map (fun s => (j, s))) ↔ BudP fr f := by
  constructor
  · intro h k hk
    have := h k (by simpa using hk)
    simp only [List.getElem_map, ← List.map_take, usedJ_app, hP, usedJ_map, Nat.zero_add] at this
    exact this
  · intro h k hk
    have := h k (by simpa using hk)
    simp only [List.getElem_map, ← List.map_take, usedJ_app, hP, usedJ_map, Nat.zero_add]
    exact this
theorem budR_flat (fr : Nat) : ∀ (fs : List (List Sl)) (j : Nat) (P : List FSl), (∀ i, j ≤ i → usedJ P i = 0) → (BudR fr P (flatF j fs) ↔ ∀ f ∈ fs, BudP fr f)
  | [], j, P, _ => by simp [flatF, BudR]
  | f :: r, j, P, hP => by
    rw [flatF, budR_app, budR_frame fr j P (hP j (Nat.le_refl _)), budR_flat fr r (j + 1) (P ++ f.map (fun s => (j, s)))]
    · simp
    · intro i hi
      rw [usedJ_app, hP i (by omega), usedJ_other j i (by omega)]

/-! ### Jobs -/
def nextJ (P : List FSl) (n : UInt8) : Nat := P.foldl (fun m x => if x.2.nm = n then (if m < x.2.job + 1 then x.2.job + 1 else m) else m) 0
def lastF (P : List FSl) (n : UInt8) : Nat := P.foldl (fun m x => if x.2.nm = n then x.1 else m) 0
def dupJ (P : List FSl) (x : FSl) : Prop := ∃ y ∈ P, y.2.nm = x.2.nm ∧ y.2.job = x.2.job ∧ y.1 = x.1
/-- The document's look at the jobs, and the program's. -/
def okR (P : List FSl) (x : FSl) : Prop := ¬ dupJ P x ∧ (x.2.job = nextJ P x.2.nm ∨ x.2.job + 1 = nextJ P x.2.nm)
def okP (P : List FSl) (x : FSl) : Prop := x.2.job = nextJ P x.2.nm ∨ (x.2.job + 1 = nextJ P x.2.nm ∧ lastF P x.2.nm ≠ x.1)
def JobsR (l : List FSl) : Prop := ∀ k (h : k < l.length), okR (l.take k) l[k]
def JobsP (l : List FSl) : Prop := ∀ k (h : k < l.length), okP (l.take k) l[k]

theorem nextJ_snoc (P : List FSl) (x : FSl) (n : UInt8) : nextJ (P ++ [x]) n = if x.2.nm = n then (if nextJ P n < x.2.job + 1 then x.2.job + 1 else nextJ P n) else nextJ P n := by
  unfold nextJ
  rw [List.foldl_append]; rfl
theorem lastF_snoc (P : List FSl) (x : FSl) (n : UInt8) : lastF (P ++ [x]) n = if x.2.nm = n then x.1 else lastF P n := by
  unfold lastF
  rw [List.foldl_append]; rfl

/-- What holds of a prefix that is as it should be. -/
def JInv (P : List FSl) : Prop := ∀ n, ((∀ z ∈ P, z.2.nm ≠ n) ∧ nextJ P n = 0) ∨ ((∃ y ∈ P, y.2.nm = n ∧ y.1 = lastF P n ∧ y.2.job + 1 = nextJ P n) ∧ ∀ z ∈ P, z.2.nm = n → z.1 ≤ lastF P n ∧ z.2.job + 1 ≤ nextJ P n)

theorem ok_same {P : List FSl} {x : FSl} (h : JInv P) (hm : ∀ z ∈ P, z.1 ≤ x.1) : okR P x ↔ okP P x := by
  unfold okR okP
  rcases h x.2.nm with ⟨h1, h2⟩ | ⟨⟨y, hy, hyn, hyf, hyj⟩, h2⟩
  · rw [h2]
    constructor
    · rintro ⟨_, h3 | h3⟩
      · exact .inl h3
      · omega
    · rintro (h3 | ⟨h3, _⟩)
      · refine ⟨?_, .inl h3⟩
        rintro ⟨z, hz, hzn, _⟩
        exact h1 z hz hzn
      · omega
  · constructor
    · rintro ⟨hd, h3 | h3⟩
      · exact .inl h3
      · refine .inr ⟨h3, ?_⟩
        intro he
        exact hd ⟨y, hy, hyn, by omega, by omega⟩
    · rintro (h3 | ⟨h3, h4⟩)
      · refine ⟨?_, .inl h3⟩
        rintro ⟨z, hz, hzn, hzj, _⟩
        have := (h2 z hz hzn).2
        omega
      · refine ⟨?_, .inr h3⟩
        rintro ⟨z, hz, hzn, hzj, hzf⟩
        have h5 := (h2 z hz hzn).1
        have h6 := hm y hy
        omega

theorem jinv_snoc {P : List FSl} {x : FSl} (h : JInv P) (hm : ∀ z ∈ P, z.1 ≤ x.1) (hk : x.2.job = nextJ P x.2.nm ∨ x.2.job + 1 = nextJ P x.2.nm) : JInv (P ++ [x]) := by
  intro n
  rw [nextJ_snoc, lastF_snoc]
  by_cases hn : x.2.nm = n
  · subst hn
    right
    have hnx : (if nextJ P x.2.nm < x.2.job + 1 then x.2.job + 1 else nextJ P x.2.nm) = x.2.job + 1 := by split <;> omega
    simp only [if_true]
    rw [hnx]
    refine ⟨⟨x, by simp, rfl, rfl, rfl⟩, ?_⟩
    intro z hz hzn
    rcases List.mem_append.1 hz with hz | hz
    · refine ⟨hm z hz, ?_⟩
      rcases h x.2.nm with ⟨h1, _⟩ | ⟨_, h2⟩
      · exact absurd hzn (h1 z hz)
      · have := (h2 z hz hzn).2
        omega
    · simp at hz
      subst hz
      omega
  · rw [if_neg hn, if_neg hn]
    rcases h n with ⟨h1, h2⟩ | ⟨⟨y, hy, h3⟩, h2⟩
    · left
      refine ⟨?_, h2⟩
      intro z hz
      rcases List.mem_append.1 hz with hz | hz
      · exact h1 z hz
      · simp at hz
        subst hz
        exact hn
    · right
      refine ⟨⟨y, by simp [hy], h3⟩, ?_⟩
      intro z hz hzn
      rcases List.mem_append.1 hz with hz | hz
      · exact h2 z hz hzn
      · simp at hz
        subst hz
        exact absurd hzn hn

/-- The frames rise. -/
def Rises (l : List FSl) : Prop := ∀ i j (hi : i < l.length) (hj : j < l.length), i ≤ j → l[i].1 ≤ l[j].1

theorem take_mem {l : List FSl} {k : Nat} {z : FSl} (h : z ∈ l.take k) : ∃ i, ∃ hi : i < l.length, i < k ∧ l[i] = z := by
  obtain ⟨i, hi, rfl⟩ := List.mem_iff_getElem.1 h
  simp at hi
  exact ⟨i, by omega, by omega, by simp⟩

theorem jinv_take {l : List FSl} (hr : Rises l) : ∀ k, k ≤ l.length → (∀ i (h : i < l.length), i < k → l[i].2.job = nextJ (l.take i) l[i].2.nm ∨ l[i].2.job + 1 = nextJ (l.take i) l[i].2.nm) → JInv (l.take k) ∧ ∀ n, nextJ (l.take k) n ≤ k
  | 0, _, _ => by
    simp only [List.take_zero]
    exact ⟨fun n => .inl ⟨by simp, rfl⟩, fun n => Nat.le_refl _⟩
  | k + 1, hk, h => by
    obtain ⟨h1, h2⟩ := jinv_take hr k (by omega) (fun i hi hik => h i hi (by omega))
    rw [List.take_succ_eq_append_getElem (by omega)]
    have hx := h k (by omega) (by omega)
    refine ⟨jinv_snoc h1 ?_ hx, ?_⟩
    · intro z hz
      obtain ⟨i, hi, hik, rfl⟩ := take_mem hz
      exact hr i k hi (by omega) (by omega)
    · intro n
      rw [nextJ_snoc]
      have := h2 n
      split
      · rename_i hn
        subst hn
        split <;> omega
      · omega
theorem jobs_same {l : List FSl} (hr : Rises l) : JobsR l ↔ JobsP l := by
  have key : ∀ k, k ≤ l.length → ((∀ i (h : i < l.length), i < k → okR (l.take i) l[i]) ↔ (∀ i (h : i < l.length), i < k → okP (l.take i) l[i])) := by
    intro k
    induction k with
    | zero => intro _; simp
    | succ k ih =>
      intro hk
      have ih := ih (by omega)
      have hm : ∀ z ∈ l.take k, z.1 ≤ l[k].1 := by
        intro z hz
        obtain ⟨i, hi, hik, rfl⟩ := take_mem hz
        exact hr i k hi (by omega) (by omega)
      constructor
      · intro h i hi hik
        have h0 := ih.1 (fun i hi hik => h i hi (by omega))
        rcases Nat.lt_or_ge i k with h1 | h1
        · exact h0 i hi h1
        · have : i = k := by omega
          subst this
          exact (ok_same (jinv_take hr i (by omega) (fun j hj hjk => (h j hj (by omega)).2)).1 hm).1 (h i hi (by omega))
      · intro h i hi hik
        have h0 := ih.2 (fun i hi hik => h i hi (by omega))
        rcases Nat.lt_or_ge i k with h1 | h1
        · exact h0 i hi h1
        · have : i = k := by omega
          subst this
          exact (ok_same (jinv_take hr i (by omega) (fun j hj hjk => (h0 j hj (by omega)).2)).1 hm).2 (h i hi (by omega))
  have := key l.length (Nat.le_refl _)
  exact ⟨fun h k hk => this.1 (fun i hi _ => h i hi) k hk hk, fun h k hk => this.2 (fun i hi _ => h i hi) k hk hk⟩

theorem flatF_mem : ∀ (fs : List (List Sl)) (j : Nat) (x : FSl), x ∈ flatF j fs → j ≤ x.1 ∧ x.1 < j + fs.length ∧ ∃ f ∈ fs, x.2 ∈ f
  | [], j, x, h => by simp [flatF] at h
  | f :: r, j, x, h => by
    rw [flatF] at h
    rcases List.mem_append.1 h with h | h
    · simp at h
      obtain ⟨s, hs, rfl⟩ := h
      exact ⟨Nat.le_refl _, by simp, f, by simp, hs⟩
    · obtain ⟨h1, h2, g, hg, h3⟩ := flatF_mem r (j + 1) x h
      exact ⟨by omega, by simp; omega, g, by simp [hg], h3⟩
theorem flatF_rises : ∀ (fs : List (List Sl)) (j : Nat), Rises (flatF j fs)
  | [], j => by intro a b ha; simp [flatF] at ha
  | f :: r, j => by
    intro a b ha hb hab
    have ih := flatF_rises r (j + 1)
    simp only [flatF]
    rcases Nat.lt_or_ge a f.length with h1 | h1
    · rw [List.getElem_append_left (by simpa using h1)]
      simp only [List.getElem_map]
      rcases Nat.lt_or_ge b f.length with h2 | h2
      · rw [List.getElem_append_left (by simpa using h2)]
        simp
      · rw [List.getElem_append_right (by simpa using h2)]
        have := (flatF_mem r (j + 1) _ (List.getElem_mem (l := flatF (j + 1) r) (n := b - (f.map (fun s => (j, s))).length) (by simp [flatF] at hb ⊢; omega))).1
        omega
    · rw [List.getElem_append_right (by simpa using h1), List.getElem_append_right (by simp; omega)]
      exact ih _ _ _ _ (by simp; omega)
theorem flatF_len : ∀ (fs : List (List Sl)) (j : Nat), (flatF j fs).length = fs.flatten.length
  | [], j => rfl
  | f :: r, j => by simp [flatF, flatF_len r (j + 1)]
theorem flatF_snd : ∀ (fs : List (List Sl)) (j : Nat), (flatF j fs).map Prod.snd = fs.flatten
  | [], j => rfl
  | f :: r, j => by simp [flatF, flatF_snd r (j + 1), Function.comp_def]
theorem flatF_snoc : ∀ (fs : List (List Sl)) (j : Nat) (f : List Sl), flatF j (fs ++ [f]) = flatF j fs ++ f.map (fun s => (j + fs.length, s))
  | [], j, f => by simp [flatF]
  | g :: r, j, f => by
    simp only [List.cons_append, flatF, flatF_snoc r (j + 1) f, List.append_assoc, List.length_cons]
    rw [show j + 1 + r.length = j + (r.length + 1) by omega]

/-! ### A sound table -/
structure Sound (t : Tb) : Prop where
  c1 : 1 ≤ t.cyc
  c2 : t.cyc ≤ 60
  c3 : t.fr * t.fs.length = t.cyc
  bud : ∀ f ∈ t.fs, BudP t.fr f
  jobs : JobsP (flatF 0 t.fs)

theorem budP_sum {fr : Nat} {f : List Sl} (h : BudP fr f) : f.length ≤ budS f ∧ budS f ≤ fr := by
  have key : ∀ k, k ≤ f.length → k ≤ budS (f.take k) ∧ (k = 0 ∨ budS (f.take k) ≤ fr) := by
    intro k
    induction k with
    | zero => intro _; simp
    | succ k ih =>
      intro hk
      have h1 := ih (by omega)
      have h2 := h k (by omega)
      rw [List.take_succ_eq_append_getElem (by omega), budS_app]
      simp only [budS]
      omega
  have := key f.length (Nat.le_refl _)
  rw [List.take_length] at this
  refine ⟨this.1, ?_⟩
  rcases this.2 with h0 | h0
  · have : f = [] := List.length_eq_zero_iff.1 h0
    subst this
    simp [budS]
  · exact h0
theorem flatten_le {n : Nat} : ∀ (fs : List (List Sl)), (∀ f ∈ fs, f.length ≤ n) → fs.flatten.length ≤ n * fs.length
  | [], _ => by simp
  | f :: r, h => by
    have h1 := h f (by simp)
    have h2 := flatten_le r (fun g hg => h g (by simp [hg]))
    simp only [List.flatten_cons, List.length_append, List.length_cons, Nat.mul_add, Nat.mul_one]
    omega
theorem Sound.frames {t : Tb} (h : Sound t) : 1 ≤ t.fr ∧ t.fr ≤ 60 ∧ 1 ≤ t.fs.length ∧ t.fs.length ≤ 60 ∧ t.fs.flatten.length ≤ 60 := by
  have h1 := h.c1
  have h2 := h.c2
  have h3 := h.c3
  have hf : 1 ≤ t.fr := by
    rcases Nat.eq_zero_or_pos t.fr with h0 | h0
    · rw [h0] at h3; omega
    · exact h0
  have hn : 1 ≤ t.fs.length := by
    rcases Nat.eq_zero_or_pos t.fs.length with h0 | h0
    · rw [h0] at h3; omega
    · exact h0
  have e1 : t.fr ≤ t.fr * t.fs.length := Nat.le_mul_of_pos_right _ (by omega)
  have e2 : t.fs.length ≤ t.fr * t.fs.length := Nat.le_mul_of_pos_left _ (by omega)
  have e3 := flatten_le (n := t.fr) t.fs (fun f hf => by have := budP_sum (h.bud f hf); omega)
  omega
theorem Sound.small {t : Tb} (h : Sound t) : ∀ f ∈ t.fs, f.length ≤ 60 ∧ ∀ s ∈ f, s.job < 60 ∧ 1 ≤ s.bud ∧ s.bud ≤ 60 := by
  intro f hf
  obtain ⟨h1, h2, h3, h4, h5⟩ := h.frames
  have hb := h.bud f hf
  have hs := budP_sum hb
  refine ⟨by omega, ?_⟩
  intro s hsf
  obtain ⟨k, hk, rfl⟩ := List.mem_iff_getElem.1 hsf
  have hk' := hb k hk
  refine ⟨?_, by omega, by omega⟩
  have hm : f[k] ∈ (flatF 0 t.fs).map Prod.snd := by
    rw [flatF_snd]
    exact List.mem_flatten.2 ⟨f, hf, hsf⟩
  obtain ⟨x, hx, hxe⟩ := List.mem_map.1 hm
  obtain ⟨i, hi, rfl⟩ := List.mem_iff_getElem.1 hx
  have hj := (jobs_same (flatF_rises t.fs 0)).2 h.jobs
  have hn := (jinv_take (flatF_rises t.fs 0) i (by omega) (fun j hj' _ => (hj j hj').2)).2 (flatF 0 t.fs)[i].2.nm
  have hji := (hj i hi).2
  have hl := flatF_len t.fs 0
  rw [← hxe]
  omega

/-! ### The text -/
def slTxt (s : Sl) : List UInt8 := [s.nm] ++ dL s.job ++ [58] ++ dL s.bud
def frTxt : List Sl → List UInt8
  | [] => []
  | [s] => slTxt s
  | s :: r => slTxt s ++ [44] ++ frTxt r
def hdTxt (c f : Nat) : List UInt8 := [99, 121, 99, 108, 101, 32] ++ dL c ++ [32, 102, 114, 97, 109, 101, 32] ++ dL f ++ [59, 10]
def tbTxt (t : Tb) : List UInt8 := hdTxt t.cyc t.fr ++ t.fs.flatMap (fun f => frTxt f ++ [59, 10])

theorem slTxt_len (s : Sl) : (slTxt s).length ≤ 6 := by
  have h1 := dL_len s.job
  have h2 := dL_len s.bud
  simp [slTxt]
  omega
theorem frTxt_len : ∀ (f : List Sl), (frTxt f).length ≤ 7 * f.length
  | [] => by simp [frTxt]
  | [s] => by have := slTxt_len s; simp [frTxt]; omega
  | s :: x :: r => by
    have h1 := slTxt_len s
    have h2 := frTxt_len (x :: r)
    simp [frTxt] at h2 ⊢
    omega
theorem frames_len : ∀ (fs : List (List Sl)), (fs.flatMap (fun f => frTxt f ++ [59, 10])).length ≤ 7 * fs.flatten.length + 2 * fs.length
  | [] => by simp
  | f :: r => by
    have h1 := frTxt_len f
    have h2 := frames_len r
    simp at h2 ⊢
    omega
theorem hdTxt_len (c f : Nat) : (hdTxt c f).length ≤ 19 := by
  have h1 := dL_len c
  have h2 := dL_len f
  simp [hdTxt]
  omega
theorem tbTxt_len {t : Tb} (h : Sound t) : (tbTxt t).length ≤ 800 := by
  have h1 := hdTxt_len t.cyc t.fr
  have h2 := frames_len t.fs
  obtain ⟨_, _, _, h3, h4⟩ := h.frames
  unfold tbTxt
  simp only [List.length_append]
  omega
end Go.Proofs.YtbdffcjganlblaaGreatDoor

namespace Go.Proofs.YtbdffcjganlblaaGreatDoor
set_option linter.unusedVariables false
set_option linter.unusedSimpArgs false

def outJ (js : List Jb) (f : List (Nat × Nat)) : List Sl := f.map fun x => ⟨(jk js x.1).ltr, (jk js x.1).num, x.2⟩
def tabJ (js : List Jb) (ps : List Pr) (cyc fr : Nat) : Tb := ⟨cyc, fr, (runJ js ps cyc fr).1.map (outJ js)⟩

/-! ### One frame -/
def bsum : List (Nat × Nat) → Nat
  | [] => 0
  | x :: r => x.2 + bsum r
def gvn (k : Nat) : List (Nat × Nat) → Nat
  | [] => 0
  | x :: r => (if x.1 = k then x.2 else 0) + gvn k r
theorem gvn_pos {k : Nat} : ∀ {f : List (Nat × Nat)}, 0 < gvn k f → ∃ x ∈ f, x.1 = k
  | [], h => by simp [gvn] at h
  | x :: r, h => by
    by_cases e : x.1 = k
    · exact ⟨x, by simp, e⟩
    · rw [gvn, if_neg e, Nat.zero_add] at h
      obtain ⟨y, hy, ey⟩ := gvn_pos h
      exact ⟨y, by simp [hy], ey⟩
structure FrOk (js : List Jb) (s e F : Nat) (f : List (Nat × Nat)) : Prop where
  each : ∀ x ∈ f, x.1 < js.length ∧ (jk js x.1).rel ≤ s ∧ e ≤ (jk js x.1).dl ∧ 1 ≤ x.2
  sum : bsum f ≤ F
  one : (f.map Prod.fst).Nodup
theorem pick_some {js : List Jb} {ps : List Pr} {left : Nat → Nat} {s e k : Nat} (h : pickJ js ps left s e = some k) : k < js.length ∧ (jk js k).rel ≤ s ∧ 0 < left k ∧ mayJ js ps left e k = true ∧ e ≤ (jk js k).dl ∧ ∀ j, j < js.length → (jk js j).rel ≤ s → 0 < left j → mayJ js ps left e j = true → keyJ js k ≤ keyJ js j := by
  obtain ⟨h1, h2⟩ := leastB_some h
  simp only [List.mem_filter, List.mem_range, rdyJ, Bool.and_eq_true, decide_eq_true_eq] at h1 h2
  have h3 := h1.2.2
  unfold mayJ at h3
  simp only [Bool.and_eq_true, decide_eq_true_eq] at h3
  exact ⟨h1.1, h1.2.1.1, h1.2.1.2, h1.2.2, h3.1, fun j a b c d => h2 j ⟨a, ⟨b, c⟩, d⟩⟩
theorem pick_none {js : List Jb} {ps : List Pr} {left : Nat → Nat} {s e : Nat} (h : pickJ js ps left s e = none) : ∀ j, j < js.length → (jk js j).rel ≤ s → 0 < left j → mayJ js ps left e j = false := by
  have h1 := leastB_none h
  intro j a b c
  have h2 : j ∉ (List.range js.length).filter fun k => rdyJ js left s k && mayJ js ps left e k := by rw [h1]; simp
  simp only [List.mem_filter, List.mem_range, rdyJ, Bool.and_eq_true, decide_eq_true_eq] at h2
  cases hm : mayJ js ps left e j with
  | false => rfl
  | true => exact absurd ⟨a, ⟨b, c⟩, hm⟩ h2
/-- What a frame's slices are. -/
theorem fill_ok (js : List Jb) (ps : List Pr) (s e : Nat) : ∀ (f a : Nat) (left : Nat → Nat),
    FrOk js s e (e - a) (fillJ js ps s e f a left).1 ∧ (∀ k, (fillJ js ps s e f a left).2 k + gvn k (fillJ js ps s e f a left).1 = left k) ∧ ∀ x ∈ (fillJ js ps s e f a left).1, 0 < left x.1
  | 0, a, left => by
    rw [fillJ]
    exact ⟨⟨fun x h => by simp at h, by simp [bsum], by simp⟩, fun k => by simp [gvn], fun x h => by simp at h⟩
  | f + 1, a, left => by
    rw [fillJ]
    by_cases ha : a < e
    · rw [if_pos ha]
      cases hp : pickJ js ps left s e with
      | none => exact ⟨⟨fun x h => by simp at h, by simp [bsum], by simp⟩, fun k => by simp [gvn], fun x h => by simp at h⟩
      | some k =>
        obtain ⟨p1, p2, p3, p4, p5, p6⟩ := pick_some hp
        simp only
        generalize hb : min (left k) (e - a) = b
        have hb1 : 1 ≤ b := by omega
        have hb2 : b ≤ left k := by omega
        have hb3 : b ≤ e - a := by omega
        obtain ⟨⟨i1, i2, i3⟩, i4, i5⟩ := fill_ok js ps s e f (a + b) (updL left k (left k - b))
        generalize hr : fillJ js ps s e f (a + b) (updL left k (left k - b)) = r at *
        have hnk : ∀ x ∈ r.1, x.1 ≠ k := by
          intro x hx ex
          have h5 := i5 x hx
          rw [ex] at h5
          unfold updL at h5
          rw [if_pos rfl] at h5
          have hfull : a + b = e := by omega
          have h6 : r.1 = [] := by
            rw [← hr, hfull]
            cases f with
            | zero => rfl
            | succ f => rw [fillJ, if_neg (by omega)]
          rw [h6] at hx
          simp at hx
        refine ⟨⟨?_, ?_, ?_⟩, ?_, ?_⟩
        · intro x hx
          rcases List.mem_cons.1 hx with rfl | hx
          · exact ⟨p1, p2, p5, hb1⟩
          · exact i1 x hx
        · rw [bsum]
          omega
        · rw [List.map_cons, List.nodup_cons]
          refine ⟨fun hm => ?_, i3⟩
          obtain ⟨x, hx, ex⟩ := List.mem_map.1 hm
          exact hnk x hx ex
        · intro j
          have h7 := i4 j
          rw [gvn]
          unfold updL at h7
          by_cases ej : k = j
          · subst ej
            rw [if_pos rfl] at h7 ⊢
            omega
          · rw [if_neg ej]
            rw [if_neg (fun h => ej h.symm)] at h7
            omega
        · intro x hx
          rcases List.mem_cons.1 hx with rfl | hx
          · exact p3
          · have h8 := i5 x hx
            unfold updL at h8
            rw [if_neg (hnk x hx)] at h8
            exact h8
    · rw [if_neg ha]
      exact ⟨⟨fun x h => by simp at h, by simp [bsum], by simp⟩, fun k => by simp [gvn], fun x h => by simp at h⟩

/-! ### All frames -/
def SchOk (js : List Jb) (fr : Nat) : Nat → List (List (Nat × Nat)) → Prop
  | _, [] => True
  | s, f :: r => FrOk js s (s + fr) fr f ∧ SchOk js fr (s + fr) r
def gvF (k : Nat) : List (List (Nat × Nat)) → Nat
  | [] => 0
  | f :: r => gvn k f + gvF k r
theorem plan_ok (js : List Jb) (ps : List Pr) (fr : Nat) : ∀ (n s : Nat) (left : Nat → Nat), SchOk js fr s (planJ js ps fr n s left).1 ∧ (∀ k, (planJ js ps fr n s left).2 k + gvF k (planJ js ps fr n s left).1 = left k) ∧ (planJ js ps fr n s left).1.length = n
  | 0, s, left => ⟨trivial, fun k => by simp [planJ, gvF], rfl⟩
  | n + 1, s, left => by
    rw [planJ]
    obtain ⟨a1, a2, a3⟩ := fill_ok js ps s (s + fr) fr s left
    generalize fillJ js ps s (s + fr) fr s left = r at *
    obtain ⟨b1, b2, b3⟩ := plan_ok js ps fr n (s + fr) r.2
    simp only
    generalize planJ js ps fr n (s + fr) r.2 = q at *
    refine ⟨⟨?_, b1⟩, fun k => ?_, by simp [b3]⟩
    · rw [show s + fr - s = fr by omega] at a1
      exact a1
    · have h1 := a2 k
      have h2 := b2 k
      rw [gvF]
      omega
theorem sch_at {js : List Jb} {fr : Nat} : ∀ {fs : List (List (Nat × Nat))} {s : Nat}, SchOk js fr s fs → ∀ i (h : i < fs.length), FrOk js (s + i * fr) (s + i * fr + fr) fr fs[i]
  | f :: r, s, h, 0, _ => by simpa using h.1
  | f :: r, s, h, i + 1, hi => by
    have := sch_at h.2 i (by simpa using hi)
    rw [show s + fr + i * fr = s + (i + 1) * fr by rw [Nat.add_mul]; omega] at this
    simpa using this
theorem gvF_pos {k : Nat} : ∀ {fs : List (List (Nat × Nat))}, 0 < gvF k fs → ∃ i, ∃ h : i < fs.length, ∃ x ∈ fs[i], x.1 = k
  | [], h => by simp [gvF] at h
  | f :: r, h => by
    rw [gvF] at h
    by_cases h0 : 0 < gvn k f
    · obtain ⟨x, hx, ex⟩ := gvn_pos h0
      exact ⟨0, by simp, x, by simpa using hx, ex⟩
    · obtain ⟨i, hi, x, hx, ex⟩ := gvF_pos (fs := r) (k := k) (by omega)
      exact ⟨i + 1, by simp; omega, x, by simpa using hx, ex⟩

/-! ### Jobs of tasks -/
/-- Jobs of one name lie one behind the other, by their numbers, from 0 on. -/
structure JsOk (js : List Jb) (cyc : Nat) : Prop where
  apart : ∀ i j, i < js.length → j < js.length → (jk js i).ltr = (jk js j).ltr → (jk js i).num < (jk js j).num → (jk js i).dl ≤ (jk js j).rel
  one : ∀ i j, i < js.length → j < js.length → (jk js i).ltr = (jk js j).ltr → (jk js i).num = (jk js j).num → i = j
  prev : ∀ i, i < js.length → 0 < (jk js i).num → ∃ j, j < js.length ∧ (jk js j).ltr = (jk js i).ltr ∧ (jk js j).num + 1 = (jk js i).num
  cost : ∀ i, i < js.length → 1 ≤ (jk js i).cost
  tsk : ∀ i j, i < js.length → j < js.length → ((jk js i).tsk = (jk js j).tsk ↔ (jk js i).ltr = (jk js j).ltr)
  low : ∀ i, i < js.length → (jk js i).tsk < 1000
  win : ∀ i, i < js.length → (jk js i).rel + (jk js i).cost ≤ (jk js i).dl
  cyc : ∀ i, i < js.length → (jk js i).dl ≤ cyc
theorem JsOk.key {js : List Jb} {cyc : Nat} (h : JsOk js cyc) {i j : Nat} (hi : i < js.length) (hj : j < js.length) (e : keyJ js i = keyJ js j) : i = j := by
  unfold keyJ at e
  have h1 := h.low i hi
  have h2 := h.low j hj
  have e1 : (jk js i).tsk = (jk js j).tsk := by omega
  have e2 : (jk js i).dl = (jk js j).dl := by omega
  have e3 := (h.tsk i j hi hj).1 e1
  rcases Nat.lt_trichotomy (jk js i).num (jk js j).num with h3 | h3 | h3
  · have := h.apart i j hi hj e3 h3
    have := h.win j hj
    have := h.cost j hj
    omega
  · exact h.one i j hi hj e3 h3
  · have := h.apart j i hj hi e3.symm h3
    have := h.win i hi
    have := h.cost i hi
    omega

/-! ### A plan is a table -/
theorem nextJ_most {n : UInt8} {M : Nat} : ∀ (P : List FSl), (∀ y ∈ P, y.2.nm = n → y.2.job + 1 ≤ M) → nextJ P n ≤ M := by
  intro P h
  unfold nextJ
  have : ∀ (P : List FSl) (m : Nat), m ≤ M → (∀ y ∈ P, y.2.nm = n → y.2.job + 1 ≤ M) → P.foldl (fun m x => if x.2.nm = n then (if m < x.2.job + 1 then x.2.job + 1 else m) else m) m ≤ M := by
    intro P
    induction P with
    | nil => intro m hm _; exact hm
    | cons x r ih =>
      intro m hm h
      rw [List.foldl_cons]
      refine ih _ ?_ (fun y hy => h y (by simp [hy]))
      split
      · rename_i e
        have := h x (by simp) e
        split <;> omega
      · exact hm
  exact this P 0 (Nat.zero_le _) h
theorem nextJ_least {n : UInt8} {P : List FSl} {y : FSl} (hy : y ∈ P) (hn : y.2.nm = n) : y.2.job + 1 ≤ nextJ P n := by
  unfold nextJ
  have mono : ∀ (P : List FSl) (m : Nat), m ≤ P.foldl (fun m x => if x.2.nm = n then (if m < x.2.job + 1 then x.2.job + 1 else m) else m) m := by
    intro P
    induction P with
    | nil => intro m; exact Nat.le_refl _
    | cons x r ih =>
      intro m
      rw [List.foldl_cons]
      refine Nat.le_trans ?_ (ih _)
      split
      · split <;> omega
      · exact Nat.le_refl _
  have : ∀ (P : List FSl) (m : Nat), y ∈ P → y.2.job + 1 ≤ P.foldl (fun m x => if x.2.nm = n then (if m < x.2.job + 1 then x.2.job + 1 else m) else m) m := by
    intro P
    induction P with
    | nil => intro m h; simp at h
    | cons x r ih =>
      intro m h
      rw [List.foldl_cons]
      rcases List.mem_cons.1 h with rfl | h
      · refine Nat.le_trans ?_ (mono r _)
        rw [if_pos hn]
        split <;> omega
      · exact ih _ h
  exact this P 0 hy
theorem budS_out (js : List Jb) : ∀ f : List (Nat × Nat), budS (outJ js f) = bsum f
  | [] => rfl
  | x :: r => by
    have := budS_out js r
    unfold outJ at this ⊢
    rw [List.map_cons, budS, bsum, this]
theorem bsum_app : ∀ (a b : List (Nat × Nat)), bsum (a ++ b) = bsum a + bsum b
  | [], b => by simp [bsum]
  | x :: r, b => by rw [List.cons_append, bsum, bsum, bsum_app r b]; omega
theorem budP_out {js : List Jb} {s e F : Nat} {f : List (Nat × Nat)} (h : FrOk js s e F f) : BudP F (outJ js f) := by
  intro k hk
  have hk2 : k < f.length := by simpa [outJ] using hk
  have e1 : (outJ js f).take k = outJ js (f.take k) := by simp [outJ, List.map_take]
  have e2 : (outJ js f)[k].bud = f[k].2 := by simp [outJ]
  rw [e1, budS_out, e2]
  refine ⟨(h.each f[k] (List.getElem_mem _)).2.2.2, ?_⟩
  have hs := h.sum
  have h3 : f = f.take k ++ (f[k] :: f.drop (k + 1)) := by rw [← List.drop_eq_getElem_cons hk2, List.take_append_drop]
  have h4 : bsum f = bsum (f.take k) + (f[k].2 + bsum (f.drop (k + 1))) := by
    have h5 := congrArg bsum h3
    rw [bsum_app, bsum] at h5
    exact h5
  omega
theorem flat_of (js : List Jb) : ∀ (fs : List (List (Nat × Nat))) (j : Nat) (x : FSl), x ∈ flatF j (fs.map (outJ js)) ↔ ∃ i, ∃ h : i < fs.length, ∃ y ∈ fs[i], x = (j + i, ⟨(jk js y.1).ltr, (jk js y.1).num, y.2⟩)
  | [], j, x => by simp [flatF]
  | f :: r, j, x => by
    rw [List.map_cons, flatF, List.mem_append, flat_of js r (j + 1) x]
    constructor
    · rintro (h | ⟨i, hi, y, hy, rfl⟩)
      · obtain ⟨z, hz, rfl⟩ := List.mem_map.1 h
        obtain ⟨y, hy, rfl⟩ := List.mem_map.1 hz
        exact ⟨0, by simp, y, by simpa using hy, rfl⟩
      · exact ⟨i + 1, by simp; omega, y, by simpa using hy, by rw [show j + 1 + i = j + (i + 1) by omega]⟩
    · rintro ⟨i, hi, y, hy, rfl⟩
      cases i with
      | zero =>
        left
        refine List.mem_map.2 ⟨⟨(jk js y.1).ltr, (jk js y.1).num, y.2⟩, List.mem_map.2 ⟨y, by simpa using hy, rfl⟩, rfl⟩
      | succ i =>
        right
        exact ⟨i, by simpa using hi, y, by simpa using hy, by rw [show j + 1 + i = j + (i + 1) by omega]⟩
def tagF (x : FSl) : Nat × UInt8 × Nat := (x.1, x.2.nm, x.2.job)
theorem flat_nodup {js : List Jb} {cyc fr : Nat} (hj : JsOk js cyc) : ∀ (fs : List (List (Nat × Nat))) (s j : Nat), SchOk js fr s fs → ((flatF j (fs.map (outJ js))).map tagF).Nodup
  | [], s, j, _ => by simp [flatF]
  | f :: r, s, j, h => by
    rw [List.map_cons, flatF, List.map_append, List.nodup_append]
    refine ⟨?_, flat_nodup hj r (s + fr) (j + 1) h.2, ?_⟩
    · have h1 := h.1.one
      have h2 := h.1.each
      unfold outJ
      rw [List.map_map, List.map_map]
      clear h
      induction f with
      | nil => simp
      | cons x t ih =>
        rw [List.map_cons, List.nodup_cons] at h1 ⊢
        refine ⟨fun hm => ?_, ih h1.2 (fun y hy => h2 y (by simp [hy]))⟩
        obtain ⟨y, hy, ey⟩ := List.mem_map.1 hm
        simp [tagF] at ey
        have := hj.one y.1 x.1 (h2 y (by simp [hy])).1 (h2 x (by simp)).1 ey.1 ey.2
        exact h1.1 (List.mem_map.2 ⟨y, hy, this⟩)
    · intro a ha b hb e
      obtain ⟨x, hx, rfl⟩ := List.mem_map.1 ha
      obtain ⟨z, hz, rfl⟩ := List.mem_map.1 hx
      obtain ⟨y, hy, rfl⟩ := List.mem_map.1 hb
      obtain ⟨hy1, _, _⟩ := flatF_mem _ _ _ hy
      simp [tagF] at e
      omega
theorem jobs_ok {js : List Jb} {cyc fr : Nat} (hj : JsOk js cyc) (hfr : 1 ≤ fr) {fs : List (List (Nat × Nat))} (h : SchOk js fr 0 fs) (hd : ∀ k, k < js.length → 0 < gvF k fs) : JobsR (flatF 0 (fs.map (outJ js))) := by
  have hr := flatF_rises (fs.map (outJ js)) 0
  have hn := flat_nodup hj fs 0 0 h
  have hof := flat_of js fs 0
  generalize flatF 0 (fs.map (outJ js)) = L at *
  intro q hq
  obtain ⟨i, hi, y, hy, ex⟩ := (hof L[q]).1 (List.getElem_mem _)
  rw [Nat.zero_add] at ex
  have hy1 := (sch_at h i hi).each y hy
  rw [Nat.zero_add] at hy1
  refine ⟨?_, ?_⟩
  · rintro ⟨z, hz, z1, z2, z3⟩
    obtain ⟨q', hq', ez⟩ := List.getElem_of_mem hz
    have hq2 : q' < q := by simp at hq'; omega
    rw [List.getElem_take] at ez
    refine absurd ?_ ((List.pairwise_iff_getElem.1 hn) q' q (by simp; omega) (by simp; omega) hq2)
    simp only [List.getElem_map, tagF]
    rw [ez, z1, z2, z3]
  · have hup : nextJ (L.take q) L[q].2.nm ≤ L[q].2.job + 1 := by
      refine nextJ_most _ (fun z hz hzn => ?_)
      obtain ⟨q', hq', ez⟩ := List.getElem_of_mem hz
      have hq2 : q' < q := by simp at hq'; omega
      rw [List.getElem_take] at ez
      obtain ⟨i', hi', y', hy', ez'⟩ := (hof L[q']).1 (List.getElem_mem _)
      rw [Nat.zero_add] at ez'
      have hy2 := (sch_at h i' hi').each y' hy'
      rw [Nat.zero_add] at hy2
      have hii := hr q' q (by omega) hq (by omega)
      rw [ez', ex] at hii
      rw [← ez, ez'] at hzn
      rw [ex] at hzn
      rw [← ez, ez', ex]
      simp only at hzn hii ⊢
      rcases Nat.lt_or_ge (jk js y.1).num (jk js y'.1).num with h5 | h5
      · have h6 := hj.apart y.1 y'.1 hy1.1 hy2.1 hzn.symm h5
        have h7 : i' * fr ≤ i * fr := Nat.mul_le_mul_right _ hii
        omega
      · omega
    have hlo : L[q].2.job ≤ nextJ (L.take q) L[q].2.nm := by
      by_cases h0 : 0 < (jk js y.1).num
      · obtain ⟨k, hk1, hk2, hk3⟩ := hj.prev y.1 hy1.1 h0
        obtain ⟨i', hi', y', hy', ey'⟩ := gvF_pos (hd k hk1)
        have hy2 := (sch_at h i' hi').each y' hy'
        rw [Nat.zero_add, ey'] at hy2
        have h6 := hj.apart k y.1 hk1 hy1.1 hk2 (by omega)
        have hlt : i' < i := by
          rcases Nat.lt_or_ge i' i with h8 | h8
          · exact h8
          · have h7 : i * fr ≤ i' * fr := Nat.mul_le_mul_right _ h8
            omega
        have hm := (hof (0 + i', ⟨(jk js y'.1).ltr, (jk js y'.1).num, y'.2⟩)).2 ⟨i', hi', y', hy', rfl⟩
        rw [Nat.zero_add] at hm
        obtain ⟨q', hq', ez⟩ := List.getElem_of_mem hm
        have hq2 : q' < q := by
          rcases Nat.lt_or_ge q' q with h8 | h8
          · exact h8
          · rcases Nat.eq_or_lt_of_le h8 with h9 | h9
            · subst h9
              rw [ez] at ex
              simp at ex
              omega
            · have hii := hr q q' hq hq' (by omega)
              rw [ez, ex] at hii
              simp only at hii
              omega
        have hz : L[q'] ∈ L.take q := by
          rw [List.mem_iff_getElem]
          exact ⟨q', by simp; omega, by rw [List.getElem_take]⟩
        have h9 := nextJ_least (n := L[q].2.nm) hz (by rw [ez, ex, ey']; exact hk2)
        rw [ez, ey'] at h9
        rw [ex] at h9 ⊢
        simp only at h9 ⊢
        omega
      · rw [ex]
        simp only
        omega
    omega
/-- A plan that goes is a sound table. -/
theorem plan_sound {js : List Jb} {ps : List Pr} {cyc fr : Nat} (hj : JsOk js cyc) (h1 : 1 ≤ cyc) (h2 : cyc ≤ 60) (hfr : 1 ≤ fr) (hdv : cyc % fr = 0) (hg : goesJ js ps cyc fr = true) : Sound (tabJ js ps cyc fr) := by
  unfold goesJ at hg
  unfold tabJ
  obtain ⟨a1, a2, a3⟩ := plan_ok js ps fr (cyc / fr) 0 (costJ js)
  unfold runJ at *
  generalize planJ js ps fr (cyc / fr) 0 (costJ js) = r at *
  have hdone : ∀ k, k < js.length → r.2 k = 0 := fun k hk => by
    unfold allJ at hg
    rw [List.all_eq_true] at hg
    have := hg k (by simpa using hk)
    simpa using this
  refine ⟨h1, h2, ?_, ?_, ?_⟩
  · show fr * (r.1.map (outJ js)).length = cyc
    rw [List.length_map, a3]
    exact Nat.mul_div_cancel' (Nat.dvd_of_mod_eq_zero hdv)
  · intro f hf
    obtain ⟨g, hg2, rfl⟩ := List.mem_map.1 hf
    obtain ⟨i, hi, rfl⟩ := List.getElem_of_mem hg2
    exact budP_out (sch_at a1 i hi)
  · show JobsP (flatF 0 (r.1.map (outJ js)))
    refine (jobs_same (flatF_rises _ 0)).1 (jobs_ok hj hfr a1 (fun k hk => ?_))
    have h5 := a2 k
    have h6 := hdone k hk
    have h7 := hj.cost k hk
    unfold costJ at h5
    omega
end Go.Proofs.YtbdffcjganlblaaGreatDoor

namespace Go.Proofs.YtbdffcjganlblaaGreatDoor
set_option linter.unusedVariables false
set_option linter.unusedSimpArgs false

/-- Tasks as they should be. -/
structure TsOk (ts : List Tk) (cyc : Nat) : Prop where
  name : (ts.map Tk.nm).Nodup
  len : ts.length ≤ 6
  c1 : 1 ≤ cyc
  c2 : cyc ≤ 60
  each : ∀ t ∈ ts, 1 ≤ t.P ∧ cyc % t.P = 0 ∧ 1 ≤ t.C ∧ t.C ≤ t.D ∧ t.O + t.D ≤ t.P
def jobA (i : Nat) (t : Tk) (k : Nat) : Jb := ⟨t.nm, k, i, k * t.P + t.O, k * t.P + t.O + t.D, t.C⟩
theorem jobsL_mem (cyc : Nat) : ∀ (ts : List Tk) (i0 : Nat) (x : Jb), x ∈ jobsL cyc i0 ts ↔ ∃ i, ∃ h : i < ts.length, ∃ n, n < cyc / ts[i].P ∧ x = jobA (i0 + i) ts[i] n
  | [], i0, x => by simp [jobsL]
  | t :: r, i0, x => by
    rw [jobsL, List.mem_append, jobsL_mem cyc r (i0 + 1) x]
    constructor
    · rintro (h | ⟨i, hi, n, hn, rfl⟩)
      · obtain ⟨n, hn, rfl⟩ := List.mem_map.1 h
        exact ⟨0, by simp, n, by simpa using hn, rfl⟩
      · exact ⟨i + 1, by simp; omega, n, by simpa using hn, by simp [show i0 + 1 + i = i0 + (i + 1) by omega]⟩
    · rintro ⟨i, hi, n, hn, rfl⟩
      cases i with
      | zero =>
        left
        exact List.mem_map.2 ⟨n, by simpa using hn, rfl⟩
      | succ i =>
        right
        exact ⟨i, by simpa using hi, n, by simpa using hn, by simp [show i0 + 1 + i = i0 + (i + 1) by omega]⟩
theorem names_inj {ts : List Tk} (h : (ts.map Tk.nm).Nodup) {i j : Nat} (hi : i < ts.length) (hj : j < ts.length) (e : ts[i].nm = ts[j].nm) : i = j := by
  rcases Nat.lt_trichotomy i j with h1 | h1 | h1
  · exact absurd (by rw [List.getElem_map, List.getElem_map]; exact e) ((List.pairwise_iff_getElem.1 h) i j (by simpa using hi) (by simpa using hj) h1)
  · exact h1
  · exact absurd (by rw [List.getElem_map, List.getElem_map]; exact e.symm) ((List.pairwise_iff_getElem.1 h) j i (by simpa using hj) (by simpa using hi) h1)
theorem jobsL_tags (cyc : Nat) : ∀ (ts : List Tk) (i0 : Nat), (ts.map Tk.nm).Nodup → ((jobsL cyc i0 ts).map fun x => (x.ltr, x.num)).Nodup
  | [], i0, _ => by simp [jobsL]
  | t :: r, i0, h => by
    rw [List.map_cons, List.nodup_cons] at h
    rw [jobsL, List.map_append, List.nodup_append]
    refine ⟨?_, jobsL_tags cyc r (i0 + 1) h.2, ?_⟩
    · unfold jobsT
      rw [List.map_map]
      rw [List.Nodup, List.pairwise_map]
      exact List.nodup_range.imp (fun hne e => hne (by simpa using e))
    · intro a ha b hb e
      obtain ⟨x, hx, rfl⟩ := List.mem_map.1 ha
      obtain ⟨y, hy, rfl⟩ := List.mem_map.1 hb
      obtain ⟨n, _, rfl⟩ := List.mem_map.1 hx
      obtain ⟨i, hi, m, _, rfl⟩ := (jobsL_mem cyc r (i0 + 1) y).1 hy
      simp [jobA] at e
      exact h.1 (by rw [e.1]; exact List.mem_map.2 ⟨r[i], List.getElem_mem _, rfl⟩)
theorem num_win {n P O D cyc : Nat} (h : n < cyc / P) (hm : cyc % P = 0) (hP : 1 ≤ P) (h2 : O + D ≤ P) : n * P + O + D ≤ cyc := by
  have h3 : (n + 1) * P ≤ cyc / P * P := Nat.mul_le_mul_right _ h
  have h4 := Nat.div_mul_cancel (Nat.dvd_of_mod_eq_zero hm)
  rw [Nat.add_mul] at h3
  omega
theorem jobs_of {ts : List Tk} {cyc : Nat} (h : TsOk ts cyc) : JsOk (jobsL cyc 0 ts) cyc := by
  have hm : ∀ i, i < (jobsL cyc 0 ts).length → ∃ q, ∃ hq : q < ts.length, ∃ n, n < cyc / ts[q].P ∧ jk (jobsL cyc 0 ts) i = jobA q ts[q] n := fun i hi => by
    have h1 : jk (jobsL cyc 0 ts) i ∈ jobsL cyc 0 ts := by rw [jk_get hi]; exact List.getElem_mem _
    obtain ⟨q, hq, n, hn, e⟩ := (jobsL_mem cyc ts 0 _).1 h1
    exact ⟨q, hq, n, hn, by rw [e, Nat.zero_add]⟩
  have ht := jobsL_tags cyc ts 0 h.name
  have hin := fun x => jobsL_mem cyc ts 0 x
  generalize jobsL cyc 0 ts = js at *
  have hw : ∀ i, i < js.length → (jk js i).rel + (jk js i).cost ≤ (jk js i).dl ∧ (jk js i).dl ≤ cyc ∧ 1 ≤ (jk js i).cost := fun i hi => by
    obtain ⟨q, hq, n, hn, e⟩ := hm i hi
    obtain ⟨t1, t2, t3, t4, t5⟩ := h.each ts[q] (List.getElem_mem _)
    have := num_win hn t2 t1 t5
    rw [e]
    simp only [jobA]
    omega
  refine ⟨?_, ?_, ?_, fun i hi => (hw i hi).2.2, ?_, ?_, fun i hi => (hw i hi).1, fun i hi => (hw i hi).2.1⟩
  · intro i j hi hj hl hn
    obtain ⟨q, hq, n, hnn, e⟩ := hm i hi
    obtain ⟨q', hq', n', hnn', e'⟩ := hm j hj
    rw [e, e'] at hl hn ⊢
    simp only [jobA] at hl hn ⊢
    have := names_inj h.name hq hq' hl
    subst this
    obtain ⟨t1, t2, t3, t4, t5⟩ := h.each ts[q] (List.getElem_mem _)
    have h3 : (n + 1) * ts[q].P ≤ n' * ts[q].P := Nat.mul_le_mul_right _ hn
    rw [Nat.add_mul] at h3
    omega
  · intro i j hi hj hl hn
    have key : ∀ i j (hi : i < js.length) (hj : j < js.length), i < j → ¬ ((jk js i).ltr = (jk js j).ltr ∧ (jk js i).num = (jk js j).num) := fun i j hi hj hij hh => by
      refine absurd ?_ ((List.pairwise_iff_getElem.1 ht) i j (by simpa using hi) (by simpa using hj) hij)
      simp only [List.getElem_map]
      rw [← jk_get hi, ← jk_get hj, hh.1, hh.2]
    rcases Nat.lt_trichotomy i j with h1 | h1 | h1
    · exact absurd ⟨hl, hn⟩ (key i j hi hj h1)
    · exact h1
    · exact absurd ⟨hl.symm, hn.symm⟩ (key j i hj hi h1)
  · intro i hi hn
    obtain ⟨q, hq, n, hnn, e⟩ := hm i hi
    rw [e] at hn ⊢
    simp only [jobA] at hn ⊢
    have hx := (hin (jobA q ts[q] (n - 1))).2 ⟨q, hq, n - 1, by omega, by rw [Nat.zero_add]⟩
    obtain ⟨j, hj, ej⟩ := List.getElem_of_mem hx
    refine ⟨j, hj, ?_⟩
    rw [jk_get hj, ej]
    simp only [jobA]
    refine ⟨trivial, by omega⟩
  · intro i j hi hj
    obtain ⟨q, hq, n, hnn, e⟩ := hm i hi
    obtain ⟨q', hq', n', hnn', e'⟩ := hm j hj
    rw [e, e']
    simp only [jobA]
    constructor
    · intro h1
      subst h1
      rfl
    · exact names_inj h.name hq hq'
  · intro i hi
    obtain ⟨q, hq, n, hnn, e⟩ := hm i hi
    rw [e]
    simp only [jobA]
    have := h.len
    omega
theorem jobsT_len (cyc i : Nat) (t : Tk) : (jobsT cyc i t).length = cyc / t.P := by simp [jobsT]
theorem jobsL_len {cyc : Nat} (hc : cyc ≤ 60) : ∀ (ts : List Tk) (i : Nat), (jobsL cyc i ts).length ≤ 60 * ts.length
  | [], i => by simp [jobsL]
  | t :: r, i => by
    have ih := jobsL_len hc r (i + 1)
    have h1 : cyc / t.P ≤ cyc := Nat.div_le_self _ _
    rw [jobsL, List.length_append, jobsT_len, List.length_cons]
    omega
theorem jobs_few {ts : List Tk} {cyc : Nat} (h : TsOk ts cyc) : (jobsL cyc 0 ts).length ≤ 360 := by
  have h1 := jobsL_len h.c2 ts 0
  have h2 := h.len
  omega
end Go.Proofs.YtbdffcjganlblaaGreatDoor
