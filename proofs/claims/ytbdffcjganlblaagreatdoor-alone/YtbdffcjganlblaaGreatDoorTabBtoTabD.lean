/-
  Own work. Tables, as lists: what a sound one is, said twice; its text.
-/
import Derived.Test.YtbdffcjganlblaaGreatDoorTabAtoRefP
import Derived.Test.YtbdffcjganlblaaGreatDoorRefO
namespace Go.Proofs.YtbdffcjganlblaaGreatDoor
set_option linter.unusedVariables false
set_option linter.unusedSimpArgs false

abbrev FSl := Nat × Sl
/-- The slices in their order, each with its frame. -/
def flatF : Nat → List (List Sl) → List FSl
  | _, [] => []
  | j, f :: r => f.map (fun s => (j, s)) ++ flatF (j + 1) r

/-! ### Budgets -/
def budS : List Sl → Nat
  | [] => 0
  | s :: r => s.bud + budS r
theorem budS_app (a b : List Sl) : budS (a ++ b) = budS a + budS b := by
  induction a with
  | nil => simp [budS]
  | cons s r ih => simp [budS, ih]; omega
def usedJ : List FSl → Nat → Nat
  | [], _ => 0
  | x :: r, j => (if x.1 = j then x.2.bud else 0) + usedJ r j
theorem usedJ_app (a b : List FSl) (j : Nat) : usedJ (a ++ b) j = usedJ a j + usedJ b j := by
  induction a with
  | nil => simp [usedJ]
  | cons s r ih => simp [usedJ, ih]; omega
/-- The document's look at the budgets. -/
def BudR (fr : Nat) (P : List FSl) (l : List FSl) : Prop := ∀ k (h : k < l.length), 1 ≤ l[k].2.bud ∧ usedJ (P ++ l.take k) l[k].1 + l[k].2.bud ≤ fr
/-- The program's. -/
def BudP (fr : Nat) (f : List Sl) : Prop := ∀ k (h : k < f.length), 1 ≤ f[k].bud ∧ budS (f.take k) + f[k].bud ≤ fr

theorem usedJ_map (j : Nat) (f : List Sl) : usedJ (f.map (fun s => (j, s))) j = budS f := by
  induction f with
  | nil => rfl
  | cons s r ih => simp [usedJ, budS, ih]
theorem usedJ_other (j i : Nat) (h : i ≠ j) (f : List Sl) : usedJ (f.map (fun s => (j, s))) i = 0 := by
  induction f with
  | nil => rfl
  | cons s r ih => simp [usedJ, ih]; omega

theorem budR_app (fr : Nat) (P a b : List FSl) : BudR fr P (a ++ b) ↔ BudR fr P a ∧ BudR fr (P ++ a) b := by
  constructor
  · intro h
    constructor
    · intro k hk
      have := h k (by simp; omega)
      rw [List.getElem_append_left hk, List.take_append_of_le_length (by omega)] at this
      exact this
    · intro k hk
      have := h (a.length + k) (by simp; omega)
      rw [List.getElem_append_right (by omega)] at this
      simp only [Nat.add_sub_cancel_left, List.take_length_add_append] at this
      rw [List.append_assoc]
      exact this
  · rintro ⟨h1, h2⟩ k hk
    rcases Nat.lt_or_ge k a.length with h | h
    · rw [List.getElem_append_left h, List.take_append_of_le_length (by omega)]
      exact h1 k h
    · have := h2 (k - a.length) (by simp at hk; omega)
      rw [List.getElem_append_right h]
      have e : (a ++ b).take k = a ++ b.take (k - a.length) := by
        conv => lhs; rw [show k = a.length + (k - a.length) by omega]
        rw [List.take_length_add_append]
      rw [e, ← List.append_assoc]
      exact this
theorem budR_frame (fr j : Nat) (P : List FSl) (hP : usedJ P j = 0) (f : List Sl) : BudR fr P (f.map (fun s => (j, s))) ↔ BudP fr f := by
  constructor
  · intro h k hk
    have := h k (by simpa using hk)
    simp only [List.getElem_map, ← List.map_take, usedJ_app, hP, usedJ_map, Nat.zero_add] at this
    exact this
  · intro h k hk
    have := h k (by simpa using hk)
    simp only [List.getElem_map, ← List.map_take, usedJ_app, hP, usedJ_map, Nat.zero_add]
    exact this
theorem budR_flat (fr : Nat) : ∀ (fs : List (List Sl)) (j : Nat) (P : List FSl), (∀ i, j ≤ i → usedJ P i = 0) → (BudR fr P (flatF j fs) ↔ ∀ f ∈ fs, BudP fr f)
  | [], j, P, _ => by simp [flatF, BudR]
  | f :: r, j, P, hP => by
    rw [flatF, budR_app, budR_frame fr j P (hP j (Nat.le_refl _)), budR_flat fr r (j + 1) (P ++ f.map (fun s => (j, s)))]
    · simp
    · intro i hi
      rw [usedJ_app, hP i (by omega), usedJ_other j i (by omega)]

/-! ### Jobs -/
def nextJ (P : List FSl) (n : UInt8) : Nat := P.foldl (fun m x => if x.2.nm = n then (if m < x.2.job + 1 then x.2.job + 1 else m) else m) 0
def lastF (P : List FSl) (n : UInt8) : Nat := P.foldl (fun m x => if x.2.nm = n then x.1 else m) 0
def dupJ (P : List FSl) (x : FSl) : Prop := ∃ y ∈ P, y.2.nm = x.2.nm ∧ y.2.job = x.2.job ∧ y.1 = x.1
/-- The document's look at the jobs, and the program's. -/
def okR (P : List FSl) (x : FSl) : Prop := ¬ dupJ P x ∧ (x.2.job = nextJ P x.2.nm ∨ x.2.job + 1 = nextJ P x.2.nm)
def okP (P : List FSl) (x : FSl) : Prop := x.2.job = nextJ P x.2.nm ∨ (x.2.job + 1 = nextJ P x.2.nm ∧ lastF P x.2.nm ≠ x.1)
def JobsR (l : List FSl) : Prop := ∀ k (h : k < l.length), okR (l.take k) l[k]
def JobsP (l : List FSl) : Prop := ∀ k (h : k < l.length), okP (l.take k) l[k]

theorem nextJ_snoc (P : List FSl) (x : FSl) (n : UInt8) : nextJ (P ++ [x]) n = if x.2.nm = n then (if nextJ P n < x.2.job + 1 then x.2.job + 1 else nextJ P n) else nextJ P n := by
  unfold nextJ
  rw [List.foldl_append]; rfl
theorem lastF_snoc (P : List FSl) (x : FSl) (n : UInt8) : lastF (P ++ [x]) n = if x.2.nm = n then x.1 else lastF P n := by
  unfold lastF
  rw [List.foldl_append]; rfl

/-- What holds of a prefix that is as it should be. -/
def JInv (P : List FSl) : Prop := ∀ n, ((∀ z ∈ P, z.2.nm ≠ n) ∧ nextJ P n = 0) ∨ ((∃ y ∈ P, y.2.nm = n ∧ y.1 = lastF P n ∧ y.2.job + 1 = nextJ P n) ∧ ∀ z ∈ P, z.2.nm = n → z.1 ≤ lastF P n ∧ z.2.job + 1 ≤ nextJ P n)

theorem ok_same {P : List FSl} {x : FSl} (h : JInv P) (hm : ∀ z ∈ P, z.1 ≤ x.1) : okR P x ↔ okP P x := by
  unfold okR okP
  rcases h x.2.nm with ⟨h1, h2⟩ | ⟨⟨y, hy, hyn, hyf, hyj⟩, h2⟩
  · rw [h2]
    constructor
    · rintro ⟨_, h3 | h3⟩
      · exact .inl h3
      · omega
    · rintro (h3 | ⟨h3, _⟩)
      · refine ⟨?_, .inl h3⟩
        rintro ⟨z, hz, hzn, _⟩
        exact h1 z hz hzn
      · omega
  · constructor
    · rintro ⟨hd, h3 | h3⟩
      · exact .inl h3
      · refine .inr ⟨h3, ?_⟩
        intro he
        exact hd ⟨y, hy, hyn, by omega, by omega⟩
    · rintro (h3 | ⟨h3, h4⟩)
      · refine ⟨?_, .inl h3⟩
        rintro ⟨z, hz, hzn, hzj, _⟩
        have := (h2 z hz hzn).2
        omega
      · refine ⟨?_, .inr h3⟩
        rintro ⟨z, hz, hzn, hzj, hzf⟩
        have h5 := (h2 z hz hzn).1
        have h6 := hm y hy
        omega

theorem jinv_snoc {P : List FSl} {x : FSl} (h : JInv P) (hm : ∀ z ∈ P, z.1 ≤ x.1) (hk : x.2.job = nextJ P x.2.nm ∨ x.2.job + 1 = nextJ P x.2.nm) : JInv (P ++ [x]) := by
  intro n
  rw [nextJ_snoc, lastF_snoc]
  by_cases hn : x.2.nm = n
  · subst hn
    right
    have hnx : (if nextJ P x.2.nm < x.2.job + 1 then x.2.job + 1 else nextJ P x.2.nm) = x.2.job + 1 := by split <;> omega
    simp only [if_true]
    rw [hnx]
    refine ⟨⟨x, by simp, rfl, rfl, rfl⟩, ?_⟩
    intro z hz hzn
    rcases List.mem_append.1 hz with hz | hz
    · refine ⟨hm z hz, ?_⟩
      rcases h x.2.nm with ⟨h1, _⟩ | ⟨_, h2⟩
      · exact absurd hzn (h1 z hz)
      · have := (h2 z hz hzn).2
        omega
    · simp at hz
      subst hz
      omega
  · rw [if_neg hn, if_neg hn]
    rcases h n with ⟨h1, h2⟩ | ⟨⟨y, hy, h3⟩, h2⟩
    · left
      refine ⟨?_, h2⟩
      intro z hz
      rcases List.mem_append.1 hz with hz | hz
      · exact h1 z hz
      · simp at hz
        subst hz
        exact hn
    · right
      refine ⟨⟨y, by simp [hy], h3⟩, ?_⟩
      intro z hz hzn
      rcases List.mem_append.1 hz with hz | hz
      · exact h2 z hz hzn
      · simp at hz
        subst hz
        exact absurd hzn hn

/-- The frames rise. -/
def Rises (l : List FSl) : Prop := ∀ i j (hi : i < l.length) (hj : j < l.length), i ≤ j → l[i].1 ≤ l[j].1

theorem take_mem {l : List FSl} {k : Nat} {z : FSl} (h : z ∈ l.take k) : ∃ i, ∃ hi : i < l.length, i < k ∧ l[i] = z := by
  obtain ⟨i, hi, rfl⟩ := List.mem_iff_getElem.1 h
  simp at hi
  exact ⟨i, by omega, by omega, by simp⟩

theorem jinv_take {l : List FSl} (hr : Rises l) : ∀ k, k ≤ l.length → (∀ i (h : i < l.length), i < k → l[i].2.job = nextJ (l.take i) l[i].2.nm ∨ l[i].2.job + 1 = nextJ (l.take i) l[i].2.nm) → JInv (l.take k) ∧ ∀ n, nextJ (l.take k) n ≤ k
  | 0, _, _ => by
    simp only [List.take_zero]
    exact ⟨fun n => .inl ⟨by simp, rfl⟩, fun n => Nat.le_refl _⟩
  | k + 1, hk, h => by
    obtain ⟨h1, h2⟩ := jinv_take hr k (by omega) (fun i hi hik => h i hi (by omega))
    rw [List.take_succ_eq_append_getElem (by omega)]
    have hx := h k (by omega) (by omega)
    refine ⟨jinv_snoc h1 ?_ hx, ?_⟩
    · intro z hz
      obtain ⟨i, hi, hik, rfl⟩ := take_mem hz
      exact hr i k hi (by omega) (by omega)
    · intro n
      rw [nextJ_snoc]
      have := h2 n
      split
      · rename_i hn
        subst hn
        split <;> omega
      · omega
theorem jobs_same {l : List FSl} (hr : Rises l) : JobsR l ↔ JobsP l := by
  have key : ∀ k, k ≤ l.length → ((∀ i (h : i < l.length), i < k → okR (l.take i) l[i]) ↔ (∀ i (h : i < l.length), i < k → okP (l.take i) l[i])) := by
    intro k
    induction k with
    | zero => intro _; simp
    | succ k ih =>
      intro hk
      have ih := ih (by omega)
      have hm : ∀ z ∈ l.take k, z.1 ≤ l[k].1 := by
        intro z hz
        obtain ⟨i, hi, hik, rfl⟩ := take_mem hz
        exact hr i k hi (by omega) (by omega)
      constructor
      · intro h i hi hik
        have h0 := ih.1 (fun i hi hik => h i hi (by omega))
        rcases Nat.lt_or_ge i k with h1 | h1
        · exact h0 i hi h1
        · have : i = k := by omega
          subst this
          exact (ok_same (jinv_take hr i (by omega) (fun j hj hjk => (h j hj (by omega)).2)).1 hm).1 (h i hi (by omega))
      · intro h i hi hik
        have h0 := ih.2 (fun i hi hik => h i hi (by omega))
        rcases Nat.lt_or_ge i k with h1 | h1
        · exact h0 i hi h1
        · have : i = k := by omega
          subst this
          exact (ok_same (jinv_take hr i (by omega) (fun j hj hjk => (h0 j hj (by omega)).2)).1 hm).2 (h i hi (by omega))
  have := key l.length (Nat.le_refl _)
  exact ⟨fun h k hk => this.1 (fun i hi _ => h i hi) k hk hk, fun h k hk => this.2 (fun i hi _ => h i hi) k hk hk⟩

theorem flatF_mem : ∀ (fs : List (List Sl)) (j : Nat) (x : FSl), x ∈ flatF j fs → j ≤ x.1 ∧ x.1 < j + fs.length ∧ ∃ f ∈ fs, x.2 ∈ f
  | [], j, x, h => by simp [flatF] at h
  | f :: r, j, x, h => by
    rw [flatF] at h
    rcases List.mem_append.1 h with h | h
    · simp at h
      obtain ⟨s, hs, rfl⟩ := h
      exact ⟨Nat.le_refl _, by simp, f, by simp, hs⟩
    · obtain ⟨h1, h2, g, hg, h3⟩ := flatF_mem r (j + 1) x h
      exact ⟨by omega, by simp; omega, g, by simp [hg], h3⟩
theorem flatF_rises : ∀ (fs : List (List Sl)) (j : Nat), Rises (flatF j fs)
  | [], j => by intro a b ha; simp [flatF] at ha
  | f :: r, j => by
    intro a b ha hb hab
    have ih := flatF_rises r (j + 1)
    simp only [flatF]
    rcases Nat.lt_or_ge a f.length with h1 | h1
    · rw [List.getElem_append_left (by simpa using h1)]
      simp only [List.getElem_map]
      rcases Nat.lt_or_ge b f.length with h2 | h2
      · rw [List.getElem_append_left (by simpa using h2)]
        simp
      · rw [List.getElem_append_right (by simpa using h2)]
        have := (flatF_mem r (j + 1) _ (List.getElem_mem (l := flatF (j + 1) r) (n := b - (f.map (fun s => (j, s))).length) (by simp [flatF] at hb ⊢; omega))).1
        omega
    · rw [List.getElem_append_right (by simpa using h1), List.getElem_append_right (by simp; omega)]
      exact ih _ _ _ _ (by simp; omega)
theorem flatF_len : ∀ (fs : List (List Sl)) (j : Nat), (flatF j fs).length = fs.flatten.length
  | [], j => rfl
  | f :: r, j => by simp [flatF, flatF_len r (j + 1)]
theorem flatF_snd : ∀ (fs : List (List Sl)) (j : Nat), (flatF j fs).map Prod.snd = fs.flatten
  | [], j => rfl
  | f :: r, j => by simp [flatF, flatF_snd r (j + 1), Function.comp_def]
theorem flatF_snoc : ∀ (fs : List (List Sl)) (j : Nat) (f : List Sl), flatF j (fs ++ [f]) = flatF j fs ++ f.map (fun s => (j + fs.length, s))
  | [], j, f => by simp [flatF]
  | g :: r, j, f => by
    simp only [List.cons_append, flatF, flatF_snoc r (j + 1) f, List.append_assoc, List.length_cons]
    rw [show j + 1 + r.length = j + (r.length + 1) by omega]

/-! ### A sound table -/
structure Sound (t : Tb) : Prop where
  c1 : 1 ≤ t.cyc
  c2 : t.cyc ≤ 60
  c3 : t.fr * t.fs.length = t.cyc
  bud : ∀ f ∈ t.fs, BudP t.fr f
  jobs : JobsP (flatF 0 t.fs)

theorem budP_sum {fr : Nat} {f : List Sl} (h : BudP fr f) : f.length ≤ budS f ∧ budS f ≤ fr := by
  have key : ∀ k, k ≤ f.length → k ≤ budS (f.take k) ∧ (k = 0 ∨ budS (f.take k) ≤ fr) := by
    intro k
    induction k with
    | zero => intro _; simp
    | succ k ih =>
      intro hk
      have h1 := ih (by omega)
      have h2 := h k (by omega)
      rw [List.take_succ_eq_append_getElem (by omega), budS_app]
      simp only [budS]
      omega
  have := key f.length (Nat.le_refl _)
  rw [List.take_length] at this
  refine ⟨this.1, ?_⟩
  rcases this.2 with h0 | h0
  · have : f = [] := List.length_eq_zero_iff.1 h0
    subst this
    simp [budS]
  · exact h0
theorem flatten_le {n : Nat} : ∀ (fs : List (List Sl)), (∀ f ∈ fs, f.length ≤ n) → fs.flatten.length ≤ n * fs.length
  | [], _ => by simp
  | f :: r, h => by
    have h1 := h f (by simp)
    have h2 := flatten_le r (fun g hg => h g (by simp [hg]))
    simp only [List.flatten_cons, List.length_append, List.length_cons, Nat.mul_add, Nat.mul_one]
    omega
theorem Sound.frames {t : Tb} (h : Sound t) : 1 ≤ t.fr ∧ t.fr ≤ 60 ∧ 1 ≤ t.fs.length ∧ t.fs.length ≤ 60 ∧ t.fs.flatten.length ≤ 60 := by
  have h1 := h.c1
  have h2 := h.c2
  have h3 := h.c3
  have hf : 1 ≤ t.fr := by
    rcases Nat.eq_zero_or_pos t.fr with h0 | h0
    · rw [h0] at h3; omega
    · exact h0
  have hn : 1 ≤ t.fs.length := by
    rcases Nat.eq_zero_or_pos t.fs.length with h0 | h0
    · rw [h0] at h3; omega
    · exact h0
  have e1 : t.fr ≤ t.fr * t.fs.length := Nat.le_mul_of_pos_right _ (by omega)
  have e2 : t.fs.length ≤ t.fr * t.fs.length := Nat.le_mul_of_pos_left _ (by omega)
  have e3 := flatten_le (n := t.fr) t.fs (fun f hf => by have := budP_sum (h.bud f hf); omega)
  omega
theorem Sound.small {t : Tb} (h : Sound t) : ∀ f ∈ t.fs, f.length ≤ 60 ∧ ∀ s ∈ f, s.job < 60 ∧ 1 ≤ s.bud ∧ s.bud ≤ 60 := by
  intro f hf
  obtain ⟨h1, h2, h3, h4, h5⟩ := h.frames
  have hb := h.bud f hf
  have hs := budP_sum hb
  refine ⟨by omega, ?_⟩
  intro s hsf
  obtain ⟨k, hk, rfl⟩ := List.mem_iff_getElem.1 hsf
  have hk' := hb k hk
  refine ⟨?_, by omega, by omega⟩
  have hm : f[k] ∈ (flatF 0 t.fs).map Prod.snd := by
    rw [flatF_snd]
    exact List.mem_flatten.2 ⟨f, hf, hsf⟩
  obtain ⟨x, hx, hxe⟩ := List.mem_map.1 hm
  obtain ⟨i, hi, rfl⟩ := List.mem_iff_getElem.1 hx
  have hj := (jobs_same (flatF_rises t.fs 0)).2 h.jobs
  have hn := (jinv_take (flatF_rises t.fs 0) i (by omega) (fun j hj' _ => (hj j hj').2)).2 (flatF 0 t.fs)[i].2.nm
  have hji := (hj i hi).2
  have hl := flatF_len t.fs 0
  rw [← hxe]
  omega

/-! ### The text -/
def slTxt (s : Sl) : List UInt8 := [s.nm] ++ dL s.job ++ [58] ++ dL s.bud
def frTxt : List Sl → List UInt8
  | [] => []
  | [s] => slTxt s
  | s :: r => slTxt s ++ [44] ++ frTxt r
def hdTxt (c f : Nat) : List UInt8 := [99, 121, 99, 108, 101, 32] ++ dL c ++ [32, 102, 114, 97, 109, 101, 32] ++ dL f ++ [59, 10]
def tbTxt (t : Tb) : List UInt8 := hdTxt t.cyc t.fr ++ t.fs.flatMap (fun f => frTxt f ++ [59, 10])

theorem slTxt_len (s : Sl) : (slTxt s).length ≤ 6 := by
  have h1 := dL_len s.job
  have h2 := dL_len s.bud
  simp [slTxt]
  omega
theorem frTxt_len : ∀ (f : List Sl), (frTxt f).length ≤ 7 * f.length
  | [] => by simp [frTxt]
  | [s] => by have := slTxt_len s; simp [frTxt]; omega
  | s :: x :: r => by
    have h1 := slTxt_len s
    have h2 := frTxt_len (x :: r)
    simp [frTxt] at h2 ⊢
    omega
theorem frames_len : ∀ (fs : List (List Sl)), (fs.flatMap (fun f => frTxt f ++ [59, 10])).length ≤ 7 * fs.flatten.length + 2 * fs.length
  | [] => by simp
  | f :: r => by
    have h1 := frTxt_len f
    have h2 := frames_len r
    simp at h2 ⊢
    omega
theorem hdTxt_len (c f : Nat) : (hdTxt c f).length ≤ 19 := by
  have h1 := dL_len c
  have h2 := dL_len f
  simp [hdTxt]
  omega
theorem tbTxt_len {t : Tb} (h : Sound t) : (tbTxt t).length ≤ 800 := by
  have h1 := hdTxt_len t.cyc t.fr
  have h2 := frames_len t.fs
  obtain ⟨_, _, _, h3, h4⟩ := h.frames
  unfold tbTxt
  simp only [List.length_append]
  omega
end Go.Proofs.YtbdffcjganlblaaGreatDoor

namespace Go.Proofs.YtbdffcjganlblaaGreatDoor
set_option linter.unusedVariables false
set_option linter.unusedSimpArgs false

/-! ### Tokens without their places -/
def key (t : PT) : Nat × List UInt8 := (t.k, t.tx)
def tokL (l : List UInt8) : Nat × List UInt8 :=
  match l with
  | [] => (101, [])
  | c :: r =>
    if signB (c.toNat : Int) then (c.toNat, [c])
    else if letterB (c.toNat : Int) then (119, (c :: r).take (lead letterB (c :: r)))
    else if 1 ≤ lead digitB (c :: r) ∧ lead digitB (c :: r) ≤ 4 then (110, (c :: r).take (lead digitB (c :: r)))
    else (120, [])
def nextL (l : List UInt8) : Nat × List UInt8 := tokL (l.drop (lead blankB l))
def finK (k : Nat) : Bool := k == 101 || k == 120
def lexL : Nat → List UInt8 → List (Nat × List UInt8)
  | 0, l => [nextL l]
  | f + 1, l => if finK (nextL l).1 then [nextL l] else nextL l :: lexL f (l.drop (lead blankB l + (nextL l).2.length))

theorem key_tok (l : List UInt8) (i : Nat) : key (tokAt l i) = tokL (l.drop i) := by
  unfold tokAt tokL key
  cases l.drop i with
  | nil => rfl
  | cons c r =>
    simp only
    split
    · rfl
    · split
      · rfl
      · split <;> rfl
theorem key_next (l : List UInt8) (i : Nat) : key (nextTok l i) = nextL (l.drop i) := by
  unfold nextTok nextL skipB
  rw [key_tok, List.drop_drop]
theorem toks_lex : ∀ (f : Nat) (l : List UInt8) (i : Nat), i ≤ l.length → (toks f l i).map key = lexL f (l.drop i)
  | 0, l, i, _ => by simp [toks, lexL, key_next]
  | f + 1, l, i, hi => by
    have hk := key_next l i
    have hf : (nextTok l i).fin = finK (nextL (l.drop i)).1 := by rw [← hk]; rfl
    rw [toks, lexL, hf]
    split
    · simp [hk]
    · have hb := nextTok_bound l i hi
      have hat : (nextTok l i).at_ = skipB l i := by
        unfold nextTok
        exact (tokAt_bound l (skipB l i) (skipB_le l i hi).2).1
      have hx : (nextTok l i).nx = i + (lead blankB (l.drop i) + (nextL (l.drop i)).2.length) := by
        unfold PT.nx
        rw [hat, ← hk]
        show skipB l i + (nextTok l i).tx.length = _
        unfold skipB key
        simp only
        omega
      rw [List.map_cons, hk, toks_lex f l (nextTok l i).nx hb.2.1, hx, List.drop_drop]

theorem lead_all (P : Int → Bool) : ∀ (x l : List UInt8), (∀ c ∈ x, P (c.toNat : Int) = true) → (∀ c r, l = c :: r → P (c.toNat : Int) = false) → lead P (x ++ l) = x.length
  | [], [], _, _ => rfl
  | [], c :: r, _, h => by simp [lead, h c r rfl]
  | d :: x, l, h, h2 => by
    simp only [List.cons_append, lead, h d (by simp), if_true, List.length_cons]
    rw [lead_all P x l (fun c hc => h c (by simp [hc])) h2]
theorem blank_no {P : Int → Bool} (c : UInt8) (h : blankB (c.toNat : Int) = false) (r : List UInt8) : lead blankB (c :: r) = 0 := by simp [lead, h]

theorem lex_blank (f : Nat) (c : UInt8) (l : List UInt8) (h : blankB (c.toNat : Int) = true) : lexL f (c :: l) = lexL f l := by
  have h1 : lead blankB (c :: l) = lead blankB l + 1 := by simp [lead, h]
  have h2 : nextL (c :: l) = nextL l := by unfold nextL; rw [h1]; rfl
  cases f with
  | zero => simp [lexL, h2]
  | succ f =>
    rw [lexL, lexL, h2, h1, show lead blankB l + 1 + (nextL l).2.length = lead blankB l + (nextL l).2.length + 1 by omega]
    rfl
theorem lex_sign (f : Nat) (c : UInt8) (l : List UInt8) (h : signB (c.toNat : Int) = true) : lexL (f + 1) (c :: l) = (c.toNat, [c]) :: lexL f l := by
  have hb : blankB (c.toNat : Int) = false := by
    simp only [signB, Bool.or_eq_true, beq_iff_eq] at h
    simp only [blankB, Bool.or_eq_false_iff, beq_eq_false_iff_ne, ne_eq]
    omega
  have h1 := blank_no (P := blankB) c hb l
  have h2 : nextL (c :: l) = (c.toNat, [c]) := by unfold nextL; rw [h1]; simp [tokL, h]
  have h3 : finK c.toNat = false := by
    simp only [signB, Bool.or_eq_true, beq_iff_eq] at h
    simp only [finK, Bool.or_eq_false_iff, beq_eq_false_iff_ne, ne_eq]
    omega
  rw [lexL, h2, h1]
  simp [h3]
theorem lex_word (f : Nat) (c : UInt8) (x l : List UInt8) (h : ∀ d ∈ c :: x, letterB (d.toNat : Int) = true) (hl : ∀ d r, l = d :: r → letterB (d.toNat : Int) = false) : lexL (f + 1) (c :: x ++ l) = (119, c :: x) :: lexL f l := by
  have hc := h c (by simp)
  have hb : blankB (c.toNat : Int) = false := by
    simp only [letterB, Bool.and_eq_true, decide_eq_true_eq] at hc
    simp only [blankB, Bool.or_eq_false_iff, beq_eq_false_iff_ne, ne_eq]
    omega
  have hs : signB (c.toNat : Int) = false := by
    simp only [letterB, Bool.and_eq_true, decide_eq_true_eq] at hc
    simp only [signB, Bool.or_eq_false_iff, beq_eq_false_iff_ne, ne_eq]
    omega
  have h1 : lead blankB (c :: x ++ l) = 0 := blank_no (P := blankB) c hb (x ++ l)
  have hlead := lead_all letterB (c :: x) l h hl
  have h2 : nextL (c :: x ++ l) = (119, c :: x) := by
    unfold nextL
    rw [h1, List.drop_zero]
    show tokL (c :: (x ++ l)) = _
    unfold tokL
    simp only [hs, hc, Bool.false_eq_true, if_false, if_true]
    rw [show c :: (x ++ l) = c :: x ++ l from rfl, hlead, List.take_left']
    rfl
  rw [lexL, h2, h1]
  simp [finK]
theorem lex_num (f : Nat) (c : UInt8) (x l : List UInt8) (h : ∀ d ∈ c :: x, digitB (d.toNat : Int) = true) (h4 : x.length < 4) (hl : ∀ d r, l = d :: r → digitB (d.toNat : Int) = false) : lexL (f + 1) (c :: x ++ l) = (110, c :: x) :: lexL f l := by
  have hc := h c (by simp)
  have hb : blankB (c.toNat : Int) = false := by
    simp only [digitB, Bool.and_eq_true, decide_eq_true_eq] at hc
    simp only [blankB, Bool.or_eq_false_iff, beq_eq_false_iff_ne, ne_eq]
    omega
  have hs : signB (c.toNat : Int) = false := by
    simp only [digitB, Bool.and_eq_true, decide_eq_true_eq] at hc
    simp only [signB, Bool.or_eq_false_iff, beq_eq_false_iff_ne, ne_eq]
    omega
  have hle : letterB (c.toNat : Int) = false := by
    simp only [digitB, Bool.and_eq_true, decide_eq_true_eq] at hc
    simp only [letterB, Bool.and_eq_false_iff, decide_eq_false_iff_not]
    omega
  have h1 : lead blankB (c :: x ++ l) = 0 := blank_no (P := blankB) c hb (x ++ l)
  have hlead := lead_all digitB (c :: x) l h hl
  have h2 : nextL (c :: x ++ l) = (110, c :: x) := by
    unfold nextL
    rw [h1, List.drop_zero]
    show tokL (c :: (x ++ l)) = _
    unfold tokL
    simp only [hs, hle, Bool.false_eq_true, if_false]
    rw [show c :: (x ++ l) = c :: x ++ l from rfl, hlead, if_pos (by simp; omega), List.take_left']
    rfl
  rw [lexL, h2, h1]
  simp [finK]
theorem lex_end (f : Nat) : lexL f [] = [(101, [])] := by
  cases f with
  | zero => rfl
  | succ f => simp [lexL, nextL, tokL, lead, finK]

/-! ### Numbers -/
set_option maxRecDepth 100000 in
theorem dL_facts : ∀ n < 100, (∀ d ∈ dL n, digitB (d.toNat : Int) = true) ∧ 1 ≤ (dL n).length ∧ dval (dL n) = n := by decide
theorem lex_dL (f n : Nat) (hn : n < 100) (l : List UInt8) (hl : ∀ d r, l = d :: r → digitB (d.toNat : Int) = false) : lexL (f + 1) (dL n ++ l) = (110, dL n) :: lexL f l := by
  obtain ⟨h1, h2, _⟩ := dL_facts n hn
  have h3 := dL_len n
  cases hd : dL n with
  | nil => rw [hd] at h2; simp at h2
  | cons c x =>
    rw [hd] at h1 h3
    exact lex_num f c x l h1 (by simp at h3; omega) hl
theorem dL_head (n : Nat) (hn : n < 100) (l : List UInt8) : ∀ d r, dL n ++ l = d :: r → letterB (d.toNat : Int) = false := by
  obtain ⟨h1, h2, _⟩ := dL_facts n hn
  intro d r h
  cases hd : dL n with
  | nil => rw [hd] at h2; simp at h2
  | cons c x =>
    rw [hd] at h
    simp at h
    have hc := h1 c (by rw [hd]; simp)
    rw [h.1] at hc
    simp only [digitB, Bool.and_eq_true, decide_eq_true_eq] at hc
    simp only [letterB, Bool.and_eq_false_iff, decide_eq_false_iff_not]
    omega

/-! ### A table's text -/
def slK (s : Sl) : List (Nat × List UInt8) := [(119, [s.nm]), (110, dL s.job), (58, [58]), (110, dL s.bud)]
def frK : List Sl → List (Nat × List UInt8)
  | [] => []
  | [s] => slK s
  | s :: r => slK s ++ [(44, [44])] ++ frK r
def tbK (t : Tb) : List (Nat × List UInt8) := [(119, wCycle.data.toList), (110, dL t.cyc), (119, wFrame.data.toList), (110, dL t.fr), (59, [59])] ++ t.fs.flatMap (fun f => frK f ++ [(59, [59])]) ++ [(101, [])]

def Sl.fine (s : Sl) : Prop := letterB (s.nm.toNat : Int) = true ∧ s.job < 100 ∧ s.bud < 100

theorem lex_sl (f : Nat) (s : Sl) (hs : s.fine) (l : List UInt8) (hl : ∀ d r, l = d :: r → digitB (d.toNat : Int) = false) : lexL (f + 4) (slTxt s ++ l) = slK s ++ lexL f l := by
  obtain ⟨h1, h2, h3⟩ := hs
  have e : slTxt s ++ l = [s.nm] ++ (dL s.job ++ (58 :: (dL s.bud ++ l))) := by simp [slTxt]
  rw [e]
  have a := lex_word (f + 3) s.nm [] (dL s.job ++ (58 :: (dL s.bud ++ l))) (by simpa using h1) (dL_head s.job h2 _)
  have b := lex_dL (f + 2) s.job h2 (58 :: (dL s.bud ++ l)) (by intro d r h; simp at h; rw [← h.1]; decide)
  have c := lex_sign (f + 1) 58 (dL s.bud ++ l) (by decide)
  have d := lex_dL f s.bud h3 l hl
  rw [a, b, c, d]
  rfl
theorem lex_fr : ∀ (f : Nat) (x : List Sl) (hx : ∀ s ∈ x, s.fine) (l : List UInt8) (hl : ∀ d r, l = d :: r → digitB (d.toNat : Int) = false), lexL (f + (frK x).length) (frTxt x ++ l) = frK x ++ lexL f l
  | f, [], _, l, hl => by simp [frK, frTxt]
  | f, [s], hx, l, hl => lex_sl f s (hx s (by simp)) l hl
  | f, s :: y :: r, hx, l, hl => by
    have ih := lex_fr f (y :: r) (fun z hz => hx z (by simp [hz])) l hl
    have e1 : frK (s :: y :: r) = slK s ++ [(44, [44])] ++ frK (y :: r) := rfl
    have e2 : frTxt (s :: y :: r) ++ l = slTxt s ++ (44 :: (frTxt (y :: r) ++ l)) := by simp [frTxt]
    have e3 : f + (frK (s :: y :: r)).length = (f + (frK (y :: r)).length + 1) + 4 := by rw [e1]; simp [slK]; omega
    rw [e2, e3, lex_sl _ s (hx s (by simp)) _ (by intro d r h; simp at h; rw [← h.1]; decide), lex_sign _ 44 _ (by decide), ih, e1]
    simp
theorem lex_frames : ∀ (f : Nat) (fs : List (List Sl)) (hx : ∀ x ∈ fs, ∀ s ∈ x, s.fine), lexL (f + (fs.flatMap (fun f => frK f ++ [(59, [59])])).length) (fs.flatMap (fun f => frTxt f ++ [59, 10])) = fs.flatMap (fun f => frK f ++ [(59, [59])]) ++ [(101, [])]
  | f, [], _ => by simp [lex_end]
  | f, x :: r, hx => by
    have ih := lex_frames f r (fun z hz => hx z (by simp [hz]))
    simp only [List.flatMap_cons]
    have e : f + (frK x ++ [(59, [59])] ++ r.flatMap (fun f => frK f ++ [(59, [59])])).length = (f + (r.flatMap (fun f => frK f ++ [(59, [59])])).length + 1) + (frK x).length := by simp; omega
    have e2 : frTxt x ++ [59, 10] ++ r.flatMap (fun f => frTxt f ++ [59, 10]) = frTxt x ++ (59 :: 10 :: r.flatMap (fun f => frTxt f ++ [59, 10])) := by simp
    rw [e, e2, lex_fr _ x (hx x (by simp)) _ (by intro d r h; simp at h; rw [← h.1]; decide), lex_sign _ 59 _ (by decide), lex_blank _ 10 _ (by decide), ih]
    simp
theorem lex_tb (f : Nat) (t : Tb) (hc : t.cyc < 100) (hf : t.fr < 100) (hx : ∀ x ∈ t.fs, ∀ s ∈ x, s.fine) : lexL (f + 5 + (t.fs.flatMap (fun f => frK f ++ [(59, [59])])).length) (tbTxt t) = tbK t := by
  have e : tbTxt t = (99 :: [121, 99, 108, 101]) ++ (32 :: (dL t.cyc ++ (32 :: ((102 :: [114, 97, 109, 101]) ++ (32 :: (dL t.fr ++ (59 :: 10 :: t.fs.flatMap (fun f => frTxt f ++ [59, 10])))))))) := by
    simp [tbTxt, hdTxt]
  have e1 : f + 5 + (t.fs.flatMap (fun f => frK f ++ [(59, [59])])).length = (f + (t.fs.flatMap (fun f => frK f ++ [(59, [59])])).length) + 4 + 1 := by omega
  rw [e, e1, lex_word _ 99 _ _ (by decide) (by intro d r h; simp at h; rw [← h.1]; decide), lex_blank _ 32 _ (by decide),
    lex_dL _ _ hc _ (by intro d r h; simp at h; rw [← h.1]; decide), lex_blank _ 32 _ (by decide),
    lex_word _ 102 _ _ (by decide) (by intro d r h; simp at h; rw [← h.1]; decide), lex_blank _ 32 _ (by decide),
    lex_dL _ _ hf _ (by intro d r h; simp at h; rw [← h.1]; decide), lex_sign _ 59 _ (by decide), lex_blank _ 10 _ (by decide), lex_frames f t.fs hx]
  rfl

theorem frK_len : ∀ (f : List Sl), (∀ s ∈ f, s.fine) → (frK f).length ≤ (frTxt f).length
  | [], _ => by simp [frK, frTxt]
  | [s], h => by
    have h1 := (dL_facts s.job (h s (by simp)).2.1).2.1
    have h2 := (dL_facts s.bud (h s (by simp)).2.2).2.1
    simp [frK, frTxt, slK, slTxt]
    omega
  | s :: y :: r, h => by
    have ih := frK_len (y :: r) (fun z hz => h z (by simp [hz]))
    have h1 := (dL_facts s.job (h s (by simp)).2.1).2.1
    have h2 := (dL_facts s.bud (h s (by simp)).2.2).2.1
    simp [frK, frTxt, slK, slTxt] at ih ⊢
    omega
theorem framesK_len : ∀ (fs : List (List Sl)), (∀ f ∈ fs, ∀ s ∈ f, s.fine) → (fs.flatMap (fun f => frK f ++ [(59, [59])])).length ≤ (fs.flatMap (fun f => frTxt f ++ [59, 10])).length
  | [], _ => by simp
  | f :: r, h => by
    have h1 := frK_len f (h f (by simp))
    have h2 := framesK_len r (fun g hg => h g (by simp [hg]))
    simp only [List.flatMap_cons, List.length_append, List.length_cons, List.length_nil] at h2 ⊢
    omega
theorem toks_tb (t : Tb) (hc : t.cyc < 100) (hf : t.fr < 100) (hx : ∀ x ∈ t.fs, ∀ s ∈ x, s.fine) : (allToks (tbTxt t)).map key = tbK t := by
  unfold allToks
  rw [toks_lex _ _ _ (by omega), List.drop_zero]
  have h1 := framesK_len t.fs hx
  have h2 : 5 ≤ (hdTxt t.cyc t.fr).length := by simp [hdTxt]
  have h3 : (tbTxt t).length = (hdTxt t.cyc t.fr).length + (t.fs.flatMap (fun f => frTxt f ++ [59, 10])).length := by simp [tbTxt]
  obtain ⟨f, hfu⟩ : ∃ f, (tbTxt t).length + 1 = f + 5 + (t.fs.flatMap (fun f => frK f ++ [(59, [59])])).length := ⟨(tbTxt t).length + 1 - 5 - (t.fs.flatMap (fun f => frK f ++ [(59, [59])])).length, by omega⟩
  rw [hfu]
  exact lex_tb f t hc hf hx

/-! ### The tokens of a table's text say the table -/
theorem tk_key {T : List PT} {K : List (Nat × List UInt8)} (h : T.map key = K) (i : Nat) {k : Nat} {x : List UInt8} (hk : K[i]? = some (k, x)) : (tk T i).k = k ∧ (tk T i).tx = x := by
  subst h
  rw [List.getElem?_map] at hk
  unfold tk
  rw [List.getD_eq_getElem?_getD]
  cases hq : T[i]? with
  | none => rw [hq] at hk; simp at hk
  | some t =>
    rw [hq] at hk
    simp [key] at hk
    exact hk
theorem drop_at {α : Type} {K : List α} {i : Nat} {L : List α} (h : K.drop i = L) (m : Nat) : K[i + m]? = L[m]? := by
  rw [← h, List.getElem?_drop]
theorem num_key {T : List PT} {i n : Nat} (h : (tk T i).k = 110 ∧ (tk T i).tx = dL n) (hn : n < 100) : (tk T i).N = n := by
  unfold PT.N
  rw [h.1, h.2]
  exact (dL_facts n hn).2.2
theorem name_key {T : List PT} {i : Nat} {c : UInt8} (h : (tk T i).k = 119 ∧ (tk T i).tx = [c]) : isName (tk T i) = true ∧ nameB (tk T i) = c := by
  have hS : (tk T i).S = [c] := by unfold PT.S; rw [h.1, h.2]; rfl
  unfold isName nameB
  rw [hS, h.1]
  exact ⟨rfl, rfl⟩
theorem sl_key {T : List PT} {i : Nat} {s : Sl} {L : List (Nat × List UInt8)} (hs : s.fine) (h : (T.map key).drop i = slK s ++ L) : slOk T i = true ∧ slAt T i = s ∧ (T.map key).drop (i + 4) = L := by
  have d := fun m => drop_at h m
  have k0 := tk_key rfl (i + 0) ((d 0).trans rfl)
  have k1 := tk_key rfl (i + 1) ((d 1).trans rfl)
  have k2 := tk_key rfl (i + 2) ((d 2).trans rfl)
  have k3 := tk_key rfl (i + 3) ((d 3).trans rfl)
  have n0 := name_key k0
  refine ⟨?_, ?_, ?_⟩
  · unfold slOk
    rw [show tk T i = tk T (i + 0) from rfl, n0.1, k1.1, k2.1, k3.1]
    rfl
  · unfold slAt
    rw [show tk T i = tk T (i + 0) from rfl, n0.2, num_key k1 hs.2.1, num_key k3 hs.2.2]
  · rw [← List.drop_drop, h]
    rfl
theorem more_key : ∀ (f : List Sl) (T : List PT) (i : Nat) (L : List (Nat × List UInt8)), f ≠ [] → (∀ s ∈ f, s.fine) → (T.map key).drop i = frK f ++ (59, [59]) :: L → ∃ j, pMore T i = some (f, j) ∧ (T.map key).drop j = L
  | [], _, _, _, h, _, _ => absurd rfl h
  | [s], T, i, L, _, hf, h => by
    obtain ⟨h1, h2, h3⟩ := sl_key (hf s (by simp)) h
    have k := tk_key rfl (i + 4 + 0) ((drop_at h3 0).trans rfl)
    refine ⟨i + 5, ?_, ?_⟩
    · rw [pMore_last h1 k.1, h2]
    · rw [show i + 5 = i + 4 + 1 by omega, ← List.drop_drop, h3]; rfl
  | s :: y :: r, T, i, L, _, hf, h => by
    have h' : (T.map key).drop i = slK s ++ ((44, [44]) :: (frK (y :: r) ++ (59, [59]) :: L)) := by rw [h]; simp [frK]
    obtain ⟨h1, h2, h3⟩ := sl_key (hf s (by simp)) h'
    have k := tk_key rfl (i + 4 + 0) ((drop_at h3 0).trans rfl)
    have h4 : (T.map key).drop (i + 5) = frK (y :: r) ++ (59, [59]) :: L := by
      rw [show i + 5 = i + 4 + 1 by omega, ← List.drop_drop, h3]; rfl
    obtain ⟨j, h5, h6⟩ := more_key (y :: r) T (i + 5) L (by simp) (fun z hz => hf z (by simp [hz])) h4
    refine ⟨j, ?_, h6⟩
    rw [pMore_on h1 k.1, h5, h2]
theorem frame_key (f : List Sl) (T : List PT) (i : Nat) (L : List (Nat × List UInt8)) (hf : ∀ s ∈ f, s.fine) (h : (T.map key).drop i = frK f ++ (59, [59]) :: L) : ∃ j, pFrame T i = some (f, j) ∧ (T.map key).drop j = L := by
  unfold pFrame
  cases f with
  | nil =>
    have k := tk_key rfl (i + 0) ((drop_at h 0).trans rfl)
    refine ⟨i + 1, ?_, ?_⟩
    · rw [show tk T i = tk T (i + 0) from rfl, k.1]; rfl
    · rw [← List.drop_drop, h]; rfl
  | cons s r =>
    have h0 : ∃ L', (T.map key).drop i = (119, [s.nm]) :: L' := by
      rw [h]
      cases r with
      | nil => exact ⟨_, rfl⟩
      | cons y r => exact ⟨_, rfl⟩
    obtain ⟨L', h0⟩ := h0
    have k := tk_key rfl (i + 0) ((drop_at h0 0).trans rfl)
    rw [show tk T i = tk T (i + 0) from rfl, k.1]
    exact more_key (s :: r) T i L (by simp) hf h
theorem frames_key : ∀ (fs : List (List Sl)) (T : List PT) (i : Nat), (∀ f ∈ fs, ∀ s ∈ f, s.fine) → (T.map key).drop i = fs.flatMap (fun f => frK f ++ [(59, [59])]) ++ [(101, [])] → pFrames T i = some fs
  | [], T, i, _, h => by
    have hd := drop_at h 0
    have k := tk_key rfl (i + 0) (hd.trans rfl)
    refine pFrames_end ?_ k.1
    have := congrArg List.length h
    simp at this
    omega
  | f :: r, T, i, hf, h => by
    have h' : (T.map key).drop i = frK f ++ (59, [59]) :: (r.flatMap (fun f => frK f ++ [(59, [59])]) ++ [(101, [])]) := by rw [h]; simp
    obtain ⟨j, h1, h2⟩ := frame_key f T i _ (hf f (by simp)) h'
    rw [pFrames_on h1, frames_key r T j (fun g hg => hf g (by simp [hg])) h2]
theorem sees_key {T : List PT} {i : Nat} {wd : ByteArray} (h : (tk T i).k = 119 ∧ (tk T i).tx = wd.data.toList) : sees (tk T i) wd = true := by
  have hS : (tk T i).S = wd.data.toList := by unfold PT.S; rw [h.1, h.2]; rfl
  unfold sees
  rw [hS, h.1, bs_list]
  simp

/-- A table's own text is read as that table. -/
theorem pTab_txt (t : Tb) (hc : t.cyc < 100) (hf : t.fr < 100) (hx : ∀ x ∈ t.fs, ∀ s ∈ x, s.fine) : pTab (allToks (tbTxt t)) = some t := by
  have h := toks_tb t hc hf hx
  generalize allToks (tbTxt t) = T at h
  have d := fun m => drop_at (K := T.map key) (i := 0) (L := tbK t) (by rw [List.drop_zero, h]) m
  have k0 := tk_key rfl (0 + 0) ((d 0).trans rfl)
  have k1 := tk_key rfl (0 + 1) ((d 1).trans rfl)
  have k2 := tk_key rfl (0 + 2) ((d 2).trans rfl)
  have k3 := tk_key rfl (0 + 3) ((d 3).trans rfl)
  have k4 := tk_key rfl (0 + 4) ((d 4).trans rfl)
  simp only [Nat.zero_add] at k0 k1 k2 k3 k4
  have hh : hdOk T = true := by
    unfold hdOk
    rw [sees_key k0, sees_key k2, k1.1, k3.1, k4.1]; rfl
  have hfr := frames_key t.fs T 5 hx (by rw [h]; simp [tbK])
  unfold pTab
  rw [if_pos hh, hfr, num_key k1 hc, num_key k3 hf]
end Go.Proofs.YtbdffcjganlblaaGreatDoor

namespace Go.Proofs.YtbdffcjganlblaaGreatDoor
set_option linter.unusedVariables false
set_option linter.unusedSimpArgs false

def u8 (n : Nat) : UInt8 := UInt8.ofNat n
def slB (s : Sl) : List UInt8 := [s.nm, u8 s.job, u8 s.bud]
def frB (f : List Sl) : List UInt8 := u8 f.length :: f.flatMap slB
def bodyB (t : Tb) : List UInt8 := u8 t.cyc :: u8 t.fr :: t.fs.flatMap frB

theorem u8_nat {n : Nat} (h : n < 256) : (u8 n).toNat = n := by simp [u8]; omega
theorem u8_of (c : UInt8) : u8 c.toNat = c := by simp [u8]

/-- n slices out of bytes; the bytes behind them. -/
def bSl : Nat → List UInt8 → Option (List Sl × List UInt8)
  | 0, l => some ([], l)
  | n + 1, a :: b :: c :: r => match bSl n r with
    | none => none
    | some (f, r') => some (⟨a, b.toNat, c.toNat⟩ :: f, r')
  | _ + 1, _ => none
theorem bSl_inv : ∀ (n : Nat) (l : List UInt8) (f : List Sl) (r : List UInt8), bSl n l = some (f, r) → l = f.flatMap slB ++ r ∧ f.length = n ∧ ∀ s ∈ f, s.job < 256 ∧ s.bud < 256
  | 0, l, f, r, h => by
    simp [bSl] at h
    obtain ⟨rfl, rfl⟩ := h
    simp
  | n + 1, [], f, r, h => by simp [bSl] at h
  | n + 1, [a], f, r, h => by simp [bSl] at h
  | n + 1, [a, b], f, r, h => by simp [bSl] at h
  | n + 1, a :: b :: c :: t, f, r, h => by
    rw [bSl] at h
    cases h1 : bSl n t with
    | none => rw [h1] at h; simp at h
    | some x =>
      obtain ⟨g, r'⟩ := x
      rw [h1] at h
      simp at h
      obtain ⟨rfl, rfl⟩ := h
      obtain ⟨h2, h3, h4⟩ := bSl_inv n t g r' h1
      refine ⟨?_, by simp [h3], ?_⟩
      · simp [slB, u8_of, h2]
      · intro s hs
        rcases List.mem_cons.1 hs with rfl | hs
        · exact ⟨b.toNat_lt, c.toNat_lt⟩
        · exact h4 s hs
theorem bSl_pack : ∀ (f : List Sl) (r : List UInt8), (∀ s ∈ f, s.job < 256 ∧ s.bud < 256) → bSl f.length (f.flatMap slB ++ r) = some (f, r)
  | [], r, _ => by simp [bSl]
  | s :: f, r, h => by
    have ih := bSl_pack f r (fun z hz => h z (by simp [hz]))
    have hs := h s (by simp)
    simp only [List.length_cons, List.flatMap_cons, slB, List.cons_append, List.nil_append, bSl, ih]
    rw [u8_nat hs.1, u8_nat hs.2]
theorem bSl_len {n : Nat} {l : List UInt8} {f : List Sl} {r : List UInt8} (h : bSl n l = some (f, r)) : r.length ≤ l.length := by
  rw [(bSl_inv n l f r h).1]; simp

/-- Frames out of bytes, up to their end. -/
def bFr : List UInt8 → Option (List (List Sl))
  | [] => some []
  | c :: r => match bSl c.toNat r with
    | none => none
    | some (f, r') => if h : r'.length ≤ r.length then (match bFr r' with | none => none | some fs => some (f :: fs)) else none
termination_by l => l.length
decreasing_by simp; omega

theorem bFr_nil : bFr [] = some [] := by rw [bFr]
theorem bFr_no {c : UInt8} {r : List UInt8} (h : bSl c.toNat r = none) : bFr (c :: r) = none := by rw [bFr, h]
theorem bFr_on {c : UInt8} {r : List UInt8} {f : List Sl} {r' : List UInt8} (h : bSl c.toNat r = some (f, r')) : bFr (c :: r) = (match bFr r' with | none => none | some fs => some (f :: fs)) := by
  rw [bFr, h]
  simp only
  rw [dif_pos (bSl_len h)]
theorem bFr_pack : ∀ (fs : List (List Sl)), (∀ f ∈ fs, f.length < 256 ∧ ∀ s ∈ f, s.job < 256 ∧ s.bud < 256) → bFr (fs.flatMap frB) = some fs
  | [], _ => by simp [bFr_nil]
  | f :: r, h => by
    have ih := bFr_pack r (fun g hg => h g (by simp [hg]))
    obtain ⟨h1, h2⟩ := h f (by simp)
    simp only [List.flatMap_cons, frB, List.cons_append]
    have := bSl_pack f (r.flatMap frB) h2
    rw [bFr_on (f := f) (r' := r.flatMap frB) (by rw [u8_nat h1]; exact this), ih]
theorem bFr_inv : ∀ (n : Nat) (l : List UInt8) (fs : List (List Sl)), l.length ≤ n → bFr l = some fs → fs.flatMap frB = l ∧ ∀ f ∈ fs, f.length < 256 ∧ ∀ s ∈ f, s.job < 256 ∧ s.bud < 256
  | n, [], fs, _, h => by
    rw [bFr_nil] at h
    simp at h
    subst h
    simp
  | 0, c :: r, fs, hn, h => by simp at hn
  | n + 1, c :: r, fs, hn, h => by
    cases h1 : bSl c.toNat r with
    | none => rw [bFr_no h1] at h; simp at h
    | some x =>
      obtain ⟨f, r'⟩ := x
      rw [bFr_on h1] at h
      cases h2 : bFr r' with
      | none => rw [h2] at h; simp at h
      | some gs =>
        rw [h2] at h
        simp at h
        subst h
        obtain ⟨h3, h4, h5⟩ := bSl_inv _ _ _ _ h1
        obtain ⟨h6, h7⟩ := bFr_inv n r' gs (by have := bSl_len h1; simp at hn; omega) h2
        refine ⟨?_, ?_⟩
        · simp only [List.flatMap_cons, frB, h4, h6, u8_of, List.cons_append]
          rw [← h3]
        · intro g hg
          rcases List.mem_cons.1 hg with rfl | hg
          · exact ⟨by rw [h4]; exact c.toNat_lt, h5⟩
          · exact h7 g hg

def bTab : List UInt8 → Option Tb
  | c :: f :: r => match bFr r with
    | none => none
    | some fs => some ⟨c.toNat, f.toNat, fs⟩
  | _ => none
theorem bTab_inv {l : List UInt8} {t : Tb} (h : bTab l = some t) : bodyB t = l := by
  match l, h with
  | c :: f :: r, h =>
    simp only [bTab] at h
    cases h1 : bFr r with
    | none => rw [h1] at h; simp at h
    | some fs =>
      rw [h1] at h
      simp at h
      subst h
      simp only [bodyB, u8_of, (bFr_inv _ r fs (Nat.le_refl _) h1).1]
theorem bTab_pack {t : Tb} (h : Sound t) : bTab (bodyB t) = some t := by
  obtain ⟨h1, h2, h3, h4, h5⟩ := h.frames
  have hc := h.c2
  have hs := h.small
  unfold bodyB bTab
  simp only
  rw [bFr_pack t.fs (fun f hf => ⟨by have := (hs f hf).1; omega, fun s hss => by have := (hs f hf).2 s hss; omega⟩), u8_nat (by omega), u8_nat (by omega)]
theorem frB_len : ∀ (fs : List (List Sl)), (fs.flatMap frB).length = fs.length + 3 * fs.flatten.length
  | [] => by simp
  | f :: r => by
    have ih := frB_len r
    have h1 : (f.flatMap slB).length = 3 * f.length := by
      induction f with
      | nil => rfl
      | cons s f ih => simp [slB] at ih ⊢; omega
    simp only [List.flatMap_cons, frB, List.cons_append, List.length_cons, List.length_append, h1, List.flatten_cons] at ih ⊢
    omega
theorem bodyB_len {t : Tb} (h : Sound t) : (bodyB t).length ≤ 242 := by
  obtain ⟨h1, h2, h3, h4, h5⟩ := h.frames
  have := frB_len t.fs
  simp only [bodyB, List.length_cons]
  omega
end Go.Proofs.YtbdffcjganlblaaGreatDoor
