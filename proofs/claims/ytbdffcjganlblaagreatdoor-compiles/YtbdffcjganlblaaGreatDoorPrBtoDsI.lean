/-
  Own work. The program's run, as lists: what a job has had.
-/
import Derived.Test.YtbdffcjganlblaaGreatDoorRunDtoPrA
import Derived.Test.YtbdffcjganlblaaGreatDoorEdDtoEdF
import Derived.Test.YtbdffcjganlblaaGreatDoorChAtoEdB
namespace Go.Proofs.YtbdffcjganlblaaGreatDoor
set_option linter.unusedVariables false
set_option linter.unusedSimpArgs false

/-! ### The program's run, as a walk over the jobs' numbers -/
theorem lst_spec (l : List FSl) (n : UInt8) (k : Nat) : ∀ q, (∀ i, i < q → isOf (fsk l i) n k → (i : Int) ≤ (spotTo l n k q).lst) ∧ ((spotTo l n k q).lst = -1 ∨ ∃ m : Nat, (spotTo l n k q).lst = m ∧ m < q ∧ isOf (fsk l m) n k)
  | 0 => ⟨fun i h => by omega, .inl rfl⟩
  | q + 1 => by
    obtain ⟨a, b⟩ := lst_spec l n k q
    by_cases h : isOf (fsk l q) n k
    · rw [spotTo_yes h]
      refine ⟨fun i hi _ => ?_, .inr ⟨q, rfl, by omega, h⟩⟩
      show (i : Int) ≤ (q : Int)
      omega
    · rw [spotTo_no h]
      refine ⟨fun i hi ho => ?_, ?_⟩
      · rcases Nat.lt_or_ge i q with h5 | h5
        · exact a i h5 ho
        · have : i = q := by omega
          subst this
          exact absurd ho h
      · rcases b with b | ⟨m, b1, b2, b3⟩
        · exact .inl b
        · exact .inr ⟨m, b1, by omega, b3⟩
end Go.Proofs.YtbdffcjganlblaaGreatDoor

namespace Go.Proofs.YtbdffcjganlblaaGreatDoor
set_option linter.unusedVariables false
set_option linter.unusedSimpArgs false

/-! ### One slice behind the other -/
/-- Each that is picked may run by what is left then. -/
def PickOk (js : List Jb) (ps : List Pr) : (Nat → Nat) → List (Nat × Nat) → Prop
  | _, [] => True
  | left, x :: r => freeJ js ps left x.1 = true ∧ PickOk js ps (updL left x.1 (left x.1 - x.2)) r
theorem pickOk_app {js : List Jb} {ps : List Pr} : ∀ {a b : List (Nat × Nat)} {left : Nat → Nat}, PickOk js ps left a → PickOk js ps (fun k => left k - gvn k a) b → PickOk js ps left (a ++ b)
  | [], b, left, _, h => by simpa [gvn] using h
  | x :: r, b, left, h1, h2 => by
    refine ⟨h1.1, pickOk_app h1.2 ?_⟩
    have : (fun k => updL left x.1 (left x.1 - x.2) k - gvn k r) = fun k => left k - gvn k (x :: r) := by
      funext k
      unfold updL
      rw [gvn]
      by_cases e : k = x.1
      · subst e
        rw [if_pos rfl, if_pos rfl]
        omega
      · rw [if_neg e, if_neg (fun h => e h.symm), Nat.zero_add]
    rw [this]
    exact h2
theorem fill_pick (js : List Jb) (ps : List Pr) (s e : Nat) : ∀ (f a : Nat) (left : Nat → Nat), PickOk js ps left (fillJ js ps s e f a left).1
  | 0, a, left => by rw [fillJ]; trivial
  | f + 1, a, left => by
    rw [fillJ]
    by_cases ha : a < e
    · rw [if_pos ha]
      cases hp : pickJ js ps left s e with
      | none => trivial
      | some k =>
        obtain ⟨p1, p2, p3, p4, p5, p6⟩ := pick_some hp
        rw [may_free, Bool.and_eq_true] at p4
        exact ⟨p4.2, fill_pick js ps s e f _ _⟩
    · rw [if_neg ha]
      trivial
theorem plan_pick (js : List Jb) (ps : List Pr) (fr : Nat) : ∀ (n s : Nat) (left : Nat → Nat), PickOk js ps left (planJ js ps fr n s left).1.flatten
  | 0, s, left => by rw [planJ]; trivial
  | n + 1, s, left => by
    rw [planJ]
    simp only [List.flatten_cons]
    refine pickOk_app (fill_pick js ps s (s + fr) fr s left) ?_
    have h := plan_pick js ps fr n (s + fr) (fillJ js ps s (s + fr) fr s left).2
    have : (fillJ js ps s (s + fr) fr s left).2 = fun k => left k - gvn k (fillJ js ps s (s + fr) fr s left).1 := by
      funext k
      have := (fill_ok js ps s (s + fr) fr s left).2.1 k
      omega
    rw [this] at h
    rw [this]
    exact h
theorem pick_at {js : List Jb} {ps : List Pr} : ∀ {P : List (Nat × Nat)} {left : Nat → Nat}, PickOk js ps left P → ∀ q (h : q < P.length), freeJ js ps (fun k => left k - gvn k (P.take q)) P[q].1 = true
  | x :: r, left, h, 0, _ => by simpa [gvn] using h.1
  | x :: r, left, h, q + 1, hq => by
    have ih := pick_at h.2 q (by simpa using hq)
    have : (fun k => updL left x.1 (left x.1 - x.2) k - gvn k (r.take q)) = fun k => left k - gvn k ((x :: r).take (q + 1)) := by
      funext k
      unfold updL
      rw [List.take_succ_cons, gvn]
      by_cases e : k = x.1
      · subst e
        rw [if_pos rfl, if_pos rfl]
        omega
      · rw [if_neg e, if_neg (fun h => e h.symm), Nat.zero_add]
    rw [this] at ih
    simpa using ih
theorem gvn_app (k : Nat) : ∀ (a b : List (Nat × Nat)), gvn k (a ++ b) = gvn k a + gvn k b
  | [], b => by simp [gvn]
  | x :: r, b => by rw [List.cons_append, gvn, gvn, gvn_app k r b]; omega
theorem gvF_flat (k : Nat) : ∀ (fs : List (List (Nat × Nat))), gvF k fs = gvn k fs.flatten
  | [] => rfl
  | f :: r => by rw [gvF, List.flatten_cons, gvn_app, gvF_flat k r]
theorem gvn_ge {k : Nat} {x : Nat × Nat} : ∀ {f : List (Nat × Nat)}, x ∈ f → x.1 = k → x.2 ≤ gvn k f
  | y :: r, h, e => by
    rw [gvn]
    rcases List.mem_cons.1 h with rfl | h
    · rw [if_pos e]; omega
    · have := gvn_ge h e
      omega

section
variable {js : List Jb} {ps : List Pr} {cyc F : Nat}
/-- What a plan that goes is, slice by slice. -/
structure Flat (js : List Jb) (ps : List Pr) (F : Nat) (P : List (Nat × Nat)) (L : List FSl) : Prop where
  len : L.length = P.length
  is : ∀ q (h : q < P.length), P[q].1 < js.length ∧ (fsk L q).2 = ⟨(jk js P[q].1).ltr, (jk js P[q].1).num, P[q].2⟩ ∧ (jk js P[q].1).rel ≤ (fsk L q).1 * F ∧ ((fsk L q).1 + 1) * F ≤ (jk js P[q].1).dl ∧ 1 ≤ P[q].2
  free : ∀ q (h : q < P.length), freeJ js ps (fun k => (jk js k).cost - gvn k (P.take q)) P[q].1 = true
  all : ∀ k, k < js.length → gvn k P = (jk js k).cost
theorem flat_get (js : List Jb) : ∀ (fs : List (List (Nat × Nat))) (j q : Nat) (h : q < fs.flatten.length), ∃ i, ∃ hi : i < fs.length, fs.flatten[q] ∈ fs[i] ∧ fsk (flatF j (fs.map (outJ js))) q = (j + i, ⟨(jk js fs.flatten[q].1).ltr, (jk js fs.flatten[q].1).num, fs.flatten[q].2⟩)
  | [], j, q, h => by simp at h
  | f :: r, j, q, h => by
    by_cases hq : q < f.length
    · refine ⟨0, by simp, ?_, ?_⟩
      · simp only [List.flatten_cons, List.getElem_append_left hq, List.getElem_cons_zero]
        exact List.getElem_mem _
      · simp only [List.map_cons, flatF, List.flatten_cons]
        unfold fsk
        rw [List.getD_eq_getElem?_getD, List.getElem?_append_left (by simpa [outJ] using hq), List.getElem_append_left hq]
        simp [outJ, hq]
    · have hq2 : q - f.length < r.flatten.length := by rw [List.flatten_cons, List.length_append] at h; omega
      obtain ⟨i, hi, h1, h2⟩ := flat_get js r (j + 1) (q - f.length) hq2
      refine ⟨i + 1, by simp; omega, ?_, ?_⟩
      · simp only [List.flatten_cons, List.getElem_append_right (by omega : f.length ≤ q), List.getElem_cons_succ]
        exact h1
      · simp only [List.map_cons, flatF, List.flatten_cons]
        unfold fsk at h2 ⊢
        rw [List.getD_eq_getElem?_getD, List.getElem?_append_right (by simp [outJ]; omega), List.getElem_append_right (by omega)]
        rw [List.getD_eq_getElem?_getD] at h2
        simp only [List.length_map, outJ] at h2 ⊢
        rw [h2, show j + 1 + i = j + (i + 1) by omega]
theorem flat_plan (hg : goesJ js ps cyc F = true) : Flat js ps F (runJ js ps cyc F).1.flatten (flatF 0 (tabJ js ps cyc F).fs) := by
  unfold goesJ at hg
  unfold tabJ
  obtain ⟨a1, a2, a3⟩ := plan_ok js ps F (cyc / F) 0 (costJ js)
  have a4 := plan_pick js ps F (cyc / F) 0 (costJ js)
  unfold runJ at *
  generalize planJ js ps F (cyc / F) 0 (costJ js) = r at *
  have hdone : ∀ k, k < js.length → r.2 k = 0 := fun k hk => by
    unfold allJ at hg
    rw [List.all_eq_true] at hg
    have := hg k (by simpa using hk)
    simpa using this
  refine ⟨?_, ?_, ?_, ?_⟩
  · rw [flatF_len]
    show (r.1.map (outJ js)).flatten.length = _
    simp [List.length_flatten, outJ, Function.comp_def]
  · intro q hq
    obtain ⟨i, hi, h1, h2⟩ := flat_get js r.1 0 q hq
    have h3 := (sch_at a1 i hi).each _ h1
    rw [h2]
    rw [Nat.zero_add] at h3 ⊢
    refine ⟨h3.1, rfl, h3.2.1, ?_, h3.2.2.2⟩
    rw [Nat.succ_mul]
    exact h3.2.2.1
  · intro q hq
    exact pick_at a4 q hq
  · intro k hk
    rw [← gvF_flat]
    have h2 := a2 k
    have h3 := hdone k hk
    unfold costJ at h2
    omega
variable {P : List (Nat × Nat)} {L : List FSl}
theorem Flat.of (h : Flat js ps F P L) (hj : JsOk js cyc) {k : Nat} (hk : k < js.length) {q : Nat} (hq : q < P.length) : isOf (fsk L q) (jk js k).ltr (jk js k).num ↔ P[q].1 = k := by
  obtain ⟨h1, h2, _⟩ := h.is q hq
  unfold isOf
  rw [h2]
  constructor
  · rintro ⟨a, b⟩
    exact hj.one _ _ h1 hk a b
  · intro e
    rw [e]
    exact ⟨rfl, rfl⟩
theorem Flat.cost (h : Flat js ps F P L) (hj : JsOk js cyc) {k : Nat} (hk : k < js.length) : ∀ q, q ≤ P.length → (spotTo L (jk js k).ltr (jk js k).num q).cost = gvn k (P.take q)
  | 0, _ => by simp [spotTo, gvn]
  | q + 1, hq => by
    have ih := h.cost hj hk q (by omega)
    have ho := h.of hj hk (q := q) (by omega)
    rw [List.take_succ_eq_append_getElem (by omega), gvn_app, gvn, gvn]
    by_cases e : P[q].1 = k
    · rw [spotTo_yes (ho.2 e), if_pos e]
      show (spotTo L (jk js k).ltr (jk js k).num q).cost + (fsk L q).2.bud = _
      rw [ih, (h.is q (by omega)).2.1]
      show _ + P[q].2 = _
      omega
    · rw [spotTo_no (fun h => e (ho.1 h)), if_neg e, ih]
      omega
/-- Where a job's slices lie. -/
theorem Flat.spot (h : Flat js ps F P L) (hj : JsOk js cyc) {k : Nat} (hk : k < js.length) : ∃ a b : Nat, ∃ ha : a < P.length, ∃ hb : b < P.length, (spotL L (jk js k).ltr (jk js k).num) = ⟨a, b, (jk js k).cost⟩ ∧ P[a].1 = k ∧ P[b].1 = k ∧ a ≤ b ∧ ∀ q (hq : q < P.length), P[q].1 = k → a ≤ q ∧ q ≤ b := by
  have hl := h.len
  have hc := h.cost hj hk P.length (Nat.le_refl _)
  rw [List.take_length, h.all k hk] at hc
  have hof := fun q (hq : q < P.length) => h.of hj hk hq
  have hgk : 0 < gvn k P := by rw [h.all k hk]; exact hj.cost k hk
  obtain ⟨x, hx, ex⟩ := gvn_pos hgk
  obtain ⟨q0, hq0, e0⟩ := List.getElem_of_mem hx
  have hin := spotTo_in L (jk js k).ltr (jk js k).num L.length
  unfold spotL
  rw [← hl] at hc
  rcases spotTo_fst L (jk js k).ltr (jk js k).num L.length with ⟨_, h2⟩ | ⟨a, h1, h2, h3, h4⟩
  · exact absurd ((hof q0 hq0).2 (by rw [e0]; exact ex)) (h2 q0 (by omega))
  · obtain ⟨l1, l2⟩ := lst_spec L (jk js k).ltr (jk js k).num L.length
    rcases l2 with l2 | ⟨b, b1, b2, b3⟩
    · omega
    · refine ⟨a, b, by omega, by omega, ?_, (hof a (by omega)).1 h3, (hof b (by omega)).1 b3, by omega, fun q hq e => ?_⟩
      · cases hs : spotTo L (jk js k).ltr (jk js k).num L.length with
        | mk x y z =>
          rw [hs] at h1 b1 hc
          simp only at h1 b1 hc
          rw [h1, b1, hc]
      · have hq2 := (hof q hq).2 e
        refine ⟨?_, ?_⟩
        · rcases Nat.lt_or_ge q a with h5 | h5
          · exact absurd hq2 (h4 q h5)
          · exact h5
        · have := l1 q (by omega) hq2
          omega
theorem free_pair {left : Nat → Nat} {k : Nat} {p : Pr} (hp : p ∈ ps) (h : freeJ js ps left k = true) : holdsN js left k p = false := by
  unfold freeJ at h
  cases hh : holdsN js left k p with
  | false => rfl
  | true =>
    have : ps.any (holdsN js left k) = true := List.any_eq_true.2 ⟨p, hp, hh⟩
    rw [this] at h
    simp at h
theorem gvn_split (k : Nat) (P : List (Nat × Nat)) (q : Nat) : gvn k (P.take q) + gvn k (P.drop q) = gvn k P := by
  rw [← gvn_app, List.take_append_drop]
/-- before: all slices of the one come ahead of those of the other. -/
theorem Flat.before (h : Flat js ps F P L) (hj : JsOk js cyc) {p : Pr} (hp : p ∈ ps) (hap : p.ap = false) {i k : Nat} (hi : i < js.length) (hk : k < js.length) (hil : (jk js i).ltr = p.a) (hkl : (jk js k).ltr = p.b) (hn : (jk js i).num = (jk js k).num) :
    ∀ q q' (hq : q < P.length) (hq' : q' < P.length), P[q].1 = k → P[q'].1 = i → q' < q := by
  intro q q' hq hq' e e'
  have h1 := free_pair hp (h.free q hq)
  unfold holdsN at h1
  rw [if_pos hap, e, hkl] at h1
  simp only [beq_self_eq_true, Bool.true_and, Bool.not_eq_false'] at h1
  unfold doneN at h1
  rw [List.all_eq_true] at h1
  have h2 := h1 i (by simpa using hi)
  rw [hil, hn] at h2
  simp at h2
  have h3 := gvn_split i P q
  rw [h.all i hi] at h3
  rcases Nat.lt_or_ge q' q with h4 | h4
  · exact h4
  · exfalso
    have hm : P[q'] ∈ P.drop q := by
      rw [List.mem_iff_getElem]
      exact ⟨q' - q, by simp; omega, by simp [show q + (q' - q) = q' by omega]⟩
    have h5 := gvn_ge hm e'
    have h6 := (h.is q' hq').2.2.2.2
    omega
/-- apart: none between the other's. -/
theorem Flat.apart (h : Flat js ps F P L) (hj : JsOk js cyc) {p : Pr} (hp : p ∈ ps) (hap : p.ap = true) {i k : Nat} (hi : i < js.length) (hk : k < js.length) (hne : p.a ≠ p.b) (hl : ((jk js i).ltr = p.a ∧ (jk js k).ltr = p.b) ∨ ((jk js i).ltr = p.b ∧ (jk js k).ltr = p.a)) :
    ∀ a q b (ha : a < P.length) (hq : q < P.length) (hb : b < P.length), a < q → q < b → P[a].1 = i → P[b].1 = i → P[q].1 ≠ k := by
  intro a q b ha hq hb h1 h2 ea eb ek
  have hf := free_pair hp (h.free q hq)
  have hbusy : busyN js (fun k => (jk js k).cost - gvn k (P.take q)) (jk js i).ltr = true := by
    unfold busyN
    rw [List.any_eq_true]
    refine ⟨i, by simpa using hi, ?_⟩
    have h3 := gvn_split i P q
    rw [h.all i hi] at h3
    have hm1 : P[a] ∈ P.take q := by
      rw [List.mem_iff_getElem]
      exact ⟨a, by simp; omega, by simp⟩
    have hm2 : P[b] ∈ P.drop q := by
      rw [List.mem_iff_getElem]
      exact ⟨b - q, by simp; omega, by simp [show q + (b - q) = b by omega]⟩
    have h5 := gvn_ge hm1 ea
    have h6 := gvn_ge hm2 eb
    have h7 := (h.is a ha).2.2.2.2
    have h8 := (h.is b hb).2.2.2.2
    simp
    omega
  unfold holdsN at hf
  rw [if_neg (by rw [hap]; simp), ek] at hf
  rcases hl with ⟨l1, l2⟩ | ⟨l1, l2⟩
  · rw [l2, if_neg (fun e => hne e.symm), if_pos rfl, ← l1, hbusy] at hf
    simp at hf
  · rw [l2, if_pos rfl, ← l1, hbusy] at hf
    simp at hf
end
end Go.Proofs.YtbdffcjganlblaaGreatDoor

namespace Go.Proofs.YtbdffcjganlblaaGreatDoor
set_option linter.unusedVariables false
set_option linter.unusedSimpArgs false

/-! ### Jobs and their tasks -/
theorem jobsL_mono (cyc : Nat) : ∀ (ts : List Tk) (i0 : Nat), (jobsL cyc i0 ts).Pairwise (fun x y => x.tsk ≤ y.tsk) ∧ ∀ x ∈ jobsL cyc i0 ts, i0 ≤ x.tsk
  | [], i0 => by simp [jobsL]
  | t :: r, i0 => by
    obtain ⟨h1, h2⟩ := jobsL_mono cyc r (i0 + 1)
    have h3 : ∀ x ∈ jobsT cyc i0 t, x.tsk = i0 := fun x hx => by
      obtain ⟨n, _, rfl⟩ := List.mem_map.1 hx
      rfl
    rw [jobsL]
    refine ⟨List.pairwise_append.2 ⟨?_, h1, fun a ha b hb => ?_⟩, fun x hx => ?_⟩
    · exact List.pairwise_of_forall_mem_list (fun a ha b hb => by rw [h3 a ha, h3 b hb]; exact Nat.le_refl _)
    · rw [h3 a ha]
      exact Nat.le_trans (Nat.le_succ _) (h2 b hb)
    · rcases List.mem_append.1 hx with h | h
      · rw [h3 x h]; exact Nat.le_refl _
      · exact Nat.le_trans (Nat.le_succ _) (h2 x h)
theorem tsk_mono {cyc : Nat} {ts : List Tk} {i j : Nat} (h : i ≤ j) (hj : j < (jobsL cyc 0 ts).length) : (jk (jobsL cyc 0 ts) i).tsk ≤ (jk (jobsL cyc 0 ts) j).tsk := by
  by_cases e : i = j
  · rw [e]; exact Nat.le_refl _
  · rw [jk_get (show i < (jobsL cyc 0 ts).length by omega), jk_get hj]
    exact (List.pairwise_iff_getElem.1 (jobsL_mono cyc ts 0).1) i j (by omega) hj (by omega)
theorem job_task {cyc : Nat} {ts : List Tk} {k : Nat} (hk : k < (jobsL cyc 0 ts).length) : (jk (jobsL cyc 0 ts) k).tsk < ts.length ∧ (jk (jobsL cyc 0 ts) k).ltr = (tsk ts (jk (jobsL cyc 0 ts) k).tsk).nm ∧ (jk (jobsL cyc 0 ts) k).num < cyc / (tsk ts (jk (jobsL cyc 0 ts) k).tsk).P ∧ jk (jobsL cyc 0 ts) k = jobA (jk (jobsL cyc 0 ts) k).tsk (tsk ts (jk (jobsL cyc 0 ts) k).tsk) (jk (jobsL cyc 0 ts) k).num := by
  have hm : jk (jobsL cyc 0 ts) k ∈ jobsL cyc 0 ts := by rw [jk_get hk]; exact List.getElem_mem _
  obtain ⟨i, hi, n, hn, e⟩ := (jobsL_mem cyc ts 0 _).1 hm
  have hg : tsk ts i = ts[i] := by simp [tsk, List.getD_eq_getElem?_getD, hi]
  rw [e, Nat.zero_add]
  simp only [jobA]
  rw [hg]
  exact ⟨hi, rfl, hn, rfl⟩
theorem task_is {cyc : Nat} {ts : List Tk} (h : (ts.map Tk.nm).Nodup) {k i : Nat} (hk : k < (jobsL cyc 0 ts).length) (hi : i < ts.length) : (jk (jobsL cyc 0 ts) k).tsk = i ↔ (jk (jobsL cyc 0 ts) k).ltr = (tsk ts i).nm := by
  obtain ⟨h1, h2, _, _⟩ := job_task hk
  constructor
  · intro e
    rw [h2, e]
  · intro e
    rw [h2] at e
    refine names_inj h h1 hi ?_
    simpa [tsk, List.getD_eq_getElem?_getD, h1, hi] using e

/-! ### What holds a job up -/
/-- The document's test of job n against job k, at a pair of the tasks a and b. -/
def heldD (js : List Jb) (left : Nat → Nat) (ap : Bool) (a b k n : Nat) : Prop :=
  (ap = false ∧ (jk js k).tsk = b ∧ (jk js n).tsk = a ∧ (jk js n).num = (jk js k).num ∧ 0 < left n) ∨
  (ap = true ∧ (((jk js k).tsk = a ∧ (jk js n).tsk = b) ∨ ((jk js k).tsk = b ∧ (jk js n).tsk = a)) ∧ 0 < left n ∧ left n < (jk js n).cost)
instance (js : List Jb) (left : Nat → Nat) (ap : Bool) (a b k n : Nat) : Decidable (heldD js left ap a b k n) := by unfold heldD; infer_instance
theorem holds_iff {cyc : Nat} {ts : List Tk} (h : (ts.map Tk.nm).Nodup) {p : Pr} {a b : Nat} (P : PairT ts p a b) {left : Nat → Nat} {k : Nat} (hk : k < (jobsL cyc 0 ts).length) :
    holdsN (jobsL cyc 0 ts) left k p = true ↔ ∃ n, n < (jobsL cyc 0 ts).length ∧ heldD (jobsL cyc 0 ts) left p.ap a b k n := by
  have ta : ∀ {q}, q < (jobsL cyc 0 ts).length → ((jk (jobsL cyc 0 ts) q).tsk = a ↔ (jk (jobsL cyc 0 ts) q).ltr = p.a) := fun hq => by rw [task_is h hq P.hi, P.a]
  have tb : ∀ {q}, q < (jobsL cyc 0 ts).length → ((jk (jobsL cyc 0 ts) q).tsk = b ↔ (jk (jobsL cyc 0 ts) q).ltr = p.b) := fun hq => by rw [task_is h hq P.hj, P.b]
  have hne : p.a ≠ p.b := fun e => P.ne (names_inj h P.hi P.hj (by
    have h1 := P.a
    have h2 := P.b
    rw [e, ← h2] at h1
    simpa [tsk, List.getD_eq_getElem?_getD, P.hi, P.hj] using h1))
  unfold holdsN heldD
  cases hap : p.ap with
  | false =>
    rw [if_pos rfl]
    simp only [true_and, Bool.false_eq_true, false_and, or_false]
    rw [Bool.and_eq_true, beq_iff_eq, Bool.not_eq_true']
    constructor
    · rintro ⟨h1, h2⟩
      unfold doneN at h2
      rw [List.all_eq_false] at h2
      obtain ⟨n, hn, h3⟩ := h2
      have hn' : n < (jobsL cyc 0 ts).length := by simpa using hn
      simp at h3
      exact ⟨n, hn', (tb hk).2 h1, (ta hn').2 h3.1.1, h3.1.2, by omega⟩
    · rintro ⟨n, hn, h1, h2, h3, h4⟩
      refine ⟨(tb hk).1 h1, ?_⟩
      unfold doneN
      rw [List.all_eq_false]
      refine ⟨n, by simpa using hn, ?_⟩
      simp
      exact ⟨⟨(ta hn).1 h2, h3⟩, by omega⟩
  | true =>
    rw [if_neg (by simp)]
    simp only [Bool.true_eq_false, false_and, false_or, true_and]
    have busy : ∀ c, busyN (jobsL cyc 0 ts) left c = true ↔ ∃ n, n < (jobsL cyc 0 ts).length ∧ (jk (jobsL cyc 0 ts) n).ltr = c ∧ 0 < left n ∧ left n < (jk (jobsL cyc 0 ts) n).cost := fun c => by
      unfold busyN
      rw [List.any_eq_true]
      constructor
      · rintro ⟨n, hn, h1⟩
        simp at hn h1
        exact ⟨n, hn, h1.1, h1.2.1, h1.2.2⟩
      · rintro ⟨n, hn, h1, h2, h3⟩
        exact ⟨n, by simpa using hn, by simp [h1, h2, h3]⟩
    by_cases e1 : (jk (jobsL cyc 0 ts) k).ltr = p.a
    · rw [if_pos e1, busy]
      constructor
      · rintro ⟨n, hn, h1, h2, h3⟩
        exact ⟨n, hn, .inl ⟨(ta hk).2 e1, (tb hn).2 h1⟩, h2, h3⟩
      · rintro ⟨n, hn, h1 | h1, h2, h3⟩
        · exact ⟨n, hn, (tb hn).1 h1.2, h2, h3⟩
        · exact absurd (e1.symm.trans ((tb hk).1 h1.1)) hne
    · rw [if_neg e1]
      by_cases e2 : (jk (jobsL cyc 0 ts) k).ltr = p.b
      · rw [if_pos e2, busy]
        constructor
        · rintro ⟨n, hn, h1, h2, h3⟩
          exact ⟨n, hn, .inr ⟨(tb hk).2 e2, (ta hn).2 h1⟩, h2, h3⟩
        · rintro ⟨n, hn, h1 | h1, h2, h3⟩
          · exact absurd ((ta hk).1 h1.1) e1
          · exact ⟨n, hn, (ta hn).1 h1.2, h2, h3⟩
      · rw [if_neg e2]
        constructor
        · intro h; simp at h
        · rintro ⟨n, hn, h1 | h1, _⟩
          · exact absurd ((ta hk).1 h1.1) e1
          · exact absurd ((tb hk).1 h1.1) e2

/-! ### The one with the least deadline -/
def candJ (js : List Jb) (ps : List Pr) (left : Nat → Nat) (t k : Nat) : Prop := 0 < left k ∧ (jk js k).rel ≤ t ∧ freeJ js ps left k = true
instance (js : List Jb) (ps : List Pr) (left : Nat → Nat) (t k : Nat) : Decidable (candJ js ps left t k) := by unfold candJ; infer_instance
def sooB (js : List Jb) (k : Nat) : Option Nat → Bool
  | none => true
  | some b => decide ((jk js k).dl < (jk js b).dl)
def bestTo (js : List Jb) (ps : List Pr) (left : Nat → Nat) (t : Nat) : Nat → Option Nat
  | 0 => none
  | k + 1 => if candJ js ps left t k ∧ sooB js k (bestTo js ps left t k) = true then some k else bestTo js ps left t k
theorem bestTo_spec (js : List Jb) (ps : List Pr) (left : Nat → Nat) (t : Nat) : ∀ k, (bestTo js ps left t k = none → ∀ i, i < k → ¬ candJ js ps left t i) ∧ ∀ b, bestTo js ps left t k = some b → b < k ∧ candJ js ps left t b ∧ ∀ i, i < k → candJ js ps left t i → (jk js b).dl < (jk js i).dl ∨ ((jk js b).dl = (jk js i).dl ∧ b ≤ i)
  | 0 => ⟨fun _ i h => by omega, fun b h => by simp [bestTo] at h⟩
  | k + 1 => by
    obtain ⟨ih1, ih2⟩ := bestTo_spec js ps left t k
    rw [bestTo]
    by_cases hc : candJ js ps left t k ∧ sooB js k (bestTo js ps left t k) = true
    · rw [if_pos hc]
      refine ⟨fun h => by simp at h, fun b hb => ?_⟩
      obtain rfl : k = b := by simpa using hb
      refine ⟨by omega, hc.1, fun i hi hci => ?_⟩
      by_cases e : i = k
      · rw [e]; exact .inr ⟨rfl, Nat.le_refl _⟩
      · cases hbt : bestTo js ps left t k with
        | none => exact absurd hci (ih1 hbt i (by omega))
        | some b =>
          obtain ⟨_, _, h3⟩ := ih2 b hbt
          have h4 := hc.2
          rw [hbt] at h4
          simp [sooB] at h4
          have := h3 i (by omega) hci
          exact .inl (by omega)
    · rw [if_neg hc]
      refine ⟨fun hn i hi hci => ?_, fun b hb => ?_⟩
      · by_cases e : i = k
        · subst e
          exact hc ⟨hci, by rw [hn]; rfl⟩
        · exact ih1 hn i (by omega) hci
      · obtain ⟨h1, h2, h3⟩ := ih2 b hb
        refine ⟨by omega, h2, fun i hi hci => ?_⟩
        by_cases e : i = k
        · subst e
          have h4 : ¬ sooB js i (bestTo js ps left t i) = true := fun h => hc ⟨hci, h⟩
          rw [hb] at h4
          simp [sooB] at h4
          omega
        · exact h3 i (by omega) hci
theorem best_is {cyc : Nat} {ts : List Tk} (hj : JsOk (jobsL cyc 0 ts) cyc) (ps : List Pr) (left : Nat → Nat) (t : Nat) : bestTo (jobsL cyc 0 ts) ps left t (jobsL cyc 0 ts).length = bestJ (jobsL cyc 0 ts) ps left t := by
  obtain ⟨h1, h2⟩ := bestTo_spec (jobsL cyc 0 ts) ps left t (jobsL cyc 0 ts).length
  cases hb : bestJ (jobsL cyc 0 ts) ps left t with
  | none =>
    cases hbt : bestTo (jobsL cyc 0 ts) ps left t (jobsL cyc 0 ts).length with
    | none => rfl
    | some b =>
      obtain ⟨a1, a2, _⟩ := h2 b hbt
      have := best_none hb b a1 a2.2.1 a2.1
      rw [a2.2.2] at this
      simp at this
  | some c =>
    obtain ⟨c1, c2, c3, c4, c5⟩ := best_some hb
    cases hbt : bestTo (jobsL cyc 0 ts) ps left t (jobsL cyc 0 ts).length with
    | none => exact absurd ⟨c3, c2, c4⟩ (h1 hbt c c1)
    | some b =>
      obtain ⟨a1, a2, a3⟩ := h2 b hbt
      have k1 := c5 b a1 a2.2.1 a2.1 a2.2.2
      have k2 : keyJ (jobsL cyc 0 ts) b ≤ keyJ (jobsL cyc 0 ts) c := by
        unfold keyJ
        have lb := hj.low b a1
        have lc := hj.low c c1
        rcases a3 c c1 ⟨c3, c2, c4⟩ with h | ⟨h, h'⟩
        · omega
        · have := tsk_mono (cyc := cyc) (ts := ts) h' c1
          omega
      rw [hj.key a1 c1 (by omega)]
/-- Unit by unit, as the document's loop goes. -/
theorem greedy_step {cyc : Nat} {ts : List Tk} (hj : JsOk (jobsL cyc 0 ts) cyc) (ps : List Pr) (left : Nat → Nat) (t n : Nat) : greedyJ (jobsL cyc 0 ts) ps (n + 1) t left = match bestTo (jobsL cyc 0 ts) ps left t (jobsL cyc 0 ts).length with
    | none => greedyJ (jobsL cyc 0 ts) ps n (t + 1) left
    | some k => if (jk (jobsL cyc 0 ts) k).dl ≤ t then false else greedyJ (jobsL cyc 0 ts) ps n (t + 1) (updL left k (left k - 1)) := by
  rw [best_is hj, greedyJ]
  cases bestJ (jobsL cyc 0 ts) ps left t <;> rfl
end Go.Proofs.YtbdffcjganlblaaGreatDoor

namespace Go.Proofs.YtbdffcjganlblaaGreatDoor
set_option linter.unusedVariables false
set_option linter.unusedSimpArgs false

/-- A table keeps the jobs. -/
structure KpT (js : List Jb) (F : Nat) (l : List FSl) : Prop where
  spot : ∀ k, k < js.length → ∃ a b : Nat, a < l.length ∧ b < l.length ∧ spotL l (jk js k).ltr (jk js k).num = ⟨a, b, (jk js k).cost⟩ ∧ (jk js k).rel ≤ (fsk l a).1 * F ∧ ((fsk l b).1 + 1) * F ≤ (jk js k).dl
  sum : sumN (fun k => (jk js k).cost) js.length = sumN (fun q => (fsk l q).2.bud) l.length

theorem bsum_at : ∀ (P : List (Nat × Nat)) (f : Nat → Nat), (∀ q (h : q < P.length), f q = P[q].2) → sumN f P.length = bsum P
  | [], f, _ => rfl
  | x :: r, f, h => by
    rw [List.length_cons, sumN_shift, bsum, bsum_at r (fun i => f (i + 1)) (fun q hq => by
      have := h (q + 1) (by simp; omega)
      simpa using this)]
    have := h 0 (by simp)
    simp only [List.getElem_cons_zero] at this
    rw [this]

theorem Flat.kept {js : List Jb} {ps : List Pr} {cyc F : Nat} {P : List (Nat × Nat)} {L : List FSl} (h : Flat js ps F P L) (hj : JsOk js cyc) : KpT js F L := by
  refine ⟨fun k hk => ?_, ?_⟩
  · obtain ⟨a, b, ha, hb, hs, ea, eb, _, _⟩ := h.spot hj hk
    have h1 := h.is a ha
    have h2 := h.is b hb
    rw [ea] at h1
    rw [eb] at h2
    exact ⟨a, b, by rw [h.len]; exact ha, by rw [h.len]; exact hb, hs, h1.2.2.1, h2.2.2.2.1⟩
  · rw [sumN_same (g := fun k => gvn k P) js.length (fun k hk => (h.all k hk).symm), sum_gvn P (fun x hx => by
      obtain ⟨q, hq, rfl⟩ := List.getElem_of_mem hx
      exact (h.is q hq).1), h.len]
    exact (bsum_at P _ (fun q hq => by rw [(h.is q hq).2.1])).symm

/-- The job of a task by its number. -/
theorem job_of {cyc : Nat} {ts : List Tk} {i a : Nat} (hi : i < ts.length) (ha : a < cyc / (tsk ts i).P) : ∃ k, k < (jobsL cyc 0 ts).length ∧ (jk (jobsL cyc 0 ts) k).ltr = (tsk ts i).nm ∧ (jk (jobsL cyc 0 ts) k).num = a := by
  have hg : tsk ts i = ts[i] := by simp [tsk, List.getD_eq_getElem?_getD, hi]
  have hm : jobA (0 + i) ts[i] a ∈ jobsL cyc 0 ts := (jobsL_mem cyc ts 0 _).2 ⟨i, hi, a, by rw [← hg]; exact ha, rfl⟩
  obtain ⟨k, hk, e⟩ := List.getElem_of_mem hm
  refine ⟨k, hk, ?_, ?_⟩ <;> rw [jk_get hk, e]
  · rw [hg]; rfl
  · rfl

section
variable {ts : List Tk} {ps : List Pr} {cyc F : Nat} {P : List (Nat × Nat)} {L : List FSl}
theorem Flat.ord1 (h : Flat (jobsL cyc 0 ts) ps F P L) (hts : TsOk ts cyc) {p : Pr} (hp : p ∈ ps) {i j : Nat} (ht : PairT ts p i j) (hap : p.ap = false) {a : Nat} (ha : a < cyc / (tsk ts i).P) : (spotL L p.a a).lst ≤ (spotL L p.b a).fst := by
  have hj := jobs_of hts
  obtain ⟨x, hx, x1, x2⟩ := job_of ht.hi ha
  obtain ⟨y, hy, y1, y2⟩ := job_of (cyc := cyc) ht.hj (a := a) (by rw [← ht.bef hap]; exact ha)
  obtain ⟨a1, b1, ha1, hb1, hs1, ea1, eb1, _, _⟩ := h.spot hj hx
  obtain ⟨a2, b2, ha2, hb2, hs2, ea2, eb2, _, _⟩ := h.spot hj hy
  rw [x1, x2, ht.a] at hs1
  rw [y1, y2, ht.b] at hs2
  have := h.before hj hp hap hx hy (by rw [x1, ht.a]) (by rw [y1, ht.b]) (by rw [x2, y2]) a2 b1 ha2 hb1 ea2 eb1
  rw [hs1, hs2]
  show (b1 : Int) ≤ (a2 : Int)
  omega
theorem Flat.ord2 (h : Flat (jobsL cyc 0 ts) ps F P L) (hts : TsOk ts cyc) {p : Pr} (hp : p ∈ ps) {i j : Nat} (ht : PairT ts p i j) (hap : p.ap = true) {a b : Nat} (ha : a < cyc / (tsk ts i).P) (hb : b < cyc / (tsk ts j).P) : ¬ ((spotL L p.a a).fst < (spotL L p.b b).lst ∧ (spotL L p.b b).fst < (spotL L p.a a).lst) := by
  have hj := jobs_of hts
  obtain ⟨x, hx, x1, x2⟩ := job_of ht.hi ha
  obtain ⟨y, hy, y1, y2⟩ := job_of ht.hj hb
  obtain ⟨a1, b1, ha1, hb1, hs1, ea1, eb1, _, _⟩ := h.spot hj hx
  obtain ⟨a2, b2, ha2, hb2, hs2, ea2, eb2, _, _⟩ := h.spot hj hy
  have hne : p.a ≠ p.b := fun e => ht.ne (names_inj hts.name ht.hi ht.hj (by
    have e2 := ht.a.trans (e.trans ht.b.symm)
    simpa [tsk, List.getD_eq_getElem?_getD, ht.hi, ht.hj] using e2))
  have hxy : x ≠ y := fun e => hne (by rw [← ht.a, ← x1, e, y1, ht.b])
  rw [x1, x2, ht.a] at hs1
  rw [y1, y2, ht.b] at hs2
  rw [hs1, hs2]
  show ¬ ((a1 : Int) < (b2 : Int) ∧ (a2 : Int) < (b1 : Int))
  rintro ⟨q1, q2⟩
  have n1 : a1 ≠ a2 := fun e => hxy (by subst e; rw [← ea1, ← ea2])
  by_cases hlt : a1 < a2
  · exact h.apart hj hp hap hx hy hne (.inl ⟨by rw [x1, ht.a], by rw [y1, ht.b]⟩) a1 a2 b1 ha1 ha2 hb1 hlt (by omega) ea1 eb1 ea2
  · exact h.apart hj hp hap hy hx hne (.inr ⟨by rw [y1, ht.b], by rw [x1, ht.a]⟩) a2 a1 b2 ha2 ha1 hb2 (by omega) (by omega) ea2 eb2 ea1
end
end Go.Proofs.YtbdffcjganlblaaGreatDoor
