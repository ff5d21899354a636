/-
  Own work. The program's tables: frames that are read; the check's parts.
-/
import Derived.Test.YtbdffcjganlblaaGreatDoorTbCtoTbD
import Derived.Test.YtbdffcjganlblaaGreatDoorRefQtoRefS
namespace Go.Proofs.YtbdffcjganlblaaGreatDoor
open Go.RowKit
set_option linter.unusedVariables false
set_option linter.unusedSimpArgs false

def slk (f : List Sl) (k : Nat) : Sl := f.getD k ⟨0, 0, 0⟩
def frk (fs : List (List Sl)) (j : Nat) : List Sl := fs.getD j []
theorem slk_eq {f : List Sl} {k : Nat} (h : k < f.length) : f[k] = slk f k := by simp [slk, List.getD_eq_getElem?_getD, h]
theorem frk_eq {fs : List (List Sl)} {j : Nat} (h : j < fs.length) : fs[j] = frk fs j := by simp [frk, List.getD_eq_getElem?_getD, h]

/-- The slices of a frame lie in block g. -/
def RowS (w : World) (g : Nat) (f : List Sl) : Prop := ∀ k, k < f.length →
  w.cell? ⟨g, k * 3, none⟩ = some (.int .u8 (slk f k).nm.toNat) ∧ w.cell? ⟨g, k * 3 + 1, none⟩ = some (.int .i64 (slk f k).job) ∧ w.cell? ⟨g, k * 3 + 2, none⟩ = some (.int .i64 (slk f k).bud)
theorem slPs_get (T : List Sl) : ∀ (j : Nat), j < T.length → ∀ o, o < 3 → (slPs T)[j * 3 + o]? = (slP (slk T j))[o]? := by
  induction T with
  | nil => intro j h; simp at h
  | cons t r ih =>
    intro j hj o ho
    have e : slPs (t :: r) = slP t ++ slPs r := rfl
    have el : (slP t).length = 3 := rfl
    cases j with
    | zero => rw [e, List.getElem?_append_left (by omega)]; simp [slk]
    | succ j =>
      have := ih j (by simpa using hj) o ho
      rw [e, List.getElem?_append_right (by omega), el, show (j + 1) * 3 + o - 3 = j * 3 + o by omega, this]
      simp [slk]
theorem rowS_own {w : World} {base g cap : Nat} {l : List Sl} (h : w.ownsRow base 106 3 (.slice (some ⟨g, 0, none⟩) l.length cap) l.length (slPs l)) : RowS w g l := by
  intro k hk
  have e : ∀ o, o < 3 → w.cell? ⟨g, k * 3 + o, none⟩ = (slP (slk l k))[o]? := fun o ho => by rw [h.cellAt _ (by omega)]; exact slPs_get l k hk o ho
  have e0 := e 0 (by omega)
  simp only [Nat.add_zero] at e0
  rw [e0, e 1 (by omega), e 2 (by omega)]
  exact ⟨rfl, rfl, rfl⟩
theorem RowS.below {w w' : World} {g B : Nat} {l : List Sl} (h : RowS w g l) (hb : Below B w w') (hg : g < B) : RowS w' g l := by
  intro k hk
  have e : ∀ o, w'.cell? ⟨g, o, none⟩ = w.cell? ⟨g, o, none⟩ := fun o => hb.cell (p := ⟨g, o, none⟩) hg
  rw [e, e, e]
  exact h k hk
/-- A frame's value, as it may be read. -/
def FrA (w : World) (a : Option Addr) (f : List Sl) : Prop := 0 < f.length → ∃ g, a = some ⟨g, 0, none⟩ ∧ g < w.heap.size ∧ RowS w g f
theorem FrA.below {w w' : World} {a : Option Addr} {f : List Sl} (h : FrA w a f) {B : Nat} (hb : Below B w w') (hB : w.heap.size ≤ B) : FrA w' a f := by
  intro hf
  obtain ⟨g, h1, h2, h3⟩ := h hf
  exact ⟨g, h1, Nat.lt_of_lt_of_le h2 hb.size, h3.below hb (by omega)⟩
theorem frA_own {w : World} {base : Nat} {a : Option Addr} {c : Nat} {f : List Sl} (h : w.ownsRow base 106 3 (.slice a f.length c) f.length (slPs f)) : FrA w a f := by
  intro hf
  obtain ⟨g, cap, he, h1, h2⟩ := own_form h hf
  injection he with e1 _ e3
  subst e1 e3
  exact ⟨g, rfl, h2, rowS_own h⟩
/-- The frames, as they may be read. -/
def FrsA (w : World) (g : Nat) (fs : List (List Sl)) : Prop := ∀ j, j < fs.length → ∃ a c, w.cell? ⟨g, j, none⟩ = some (.slice a (frk fs j).length c) ∧ FrA w a (frk fs j)
theorem FrsA.below {w w' : World} {g : Nat} {fs : List (List Sl)} (h : FrsA w g fs) (hg : g < w.heap.size) {B : Nat} (hb : Below B w w') (hB : w.heap.size ≤ B) : FrsA w' g fs := by
  intro j hj
  obtain ⟨a, c, h1, h2⟩ := h j hj
  exact ⟨a, c, by rw [hb.cell (p := ⟨g, j, none⟩) (by show g < B; omega)]; exact h1, h2.below hb hB⟩
theorem frsA_own {w : World} {base g c : Nat} {P : List (Value × List Sl)} (h : FrM w base (.slice (some ⟨g, 0, none⟩) P.length c) P) : FrsA w g (P.map Prod.snd) := by
  intro j hj
  have hj' : j < P.length := by simpa using hj
  have hm : P[j] ∈ P := List.getElem_mem _
  have hv := h.2 _ hm
  obtain ⟨a, cc, hva⟩ := own_slice hv
  have hf : frk (P.map Prod.snd) j = P[j].2 := by rw [← frk_eq hj]; simp
  rw [hf]
  refine ⟨a, cc, ?_, frA_own (by rw [← hva]; exact hv)⟩
  rw [h.1.cellAt j (by omega), List.getElem?_map, List.getElem?_eq_getElem hj']
  simp [hva]

theorem budP_no {fr : Nat} {f : List Sl} {k : Nat} (hk : k < f.length) (h : ¬ (1 ≤ (slk f k).bud ∧ budS (f.take k) + (slk f k).bud ≤ fr)) : ¬ BudP fr f := by
  intro hb
  have := hb k hk
  rw [slk_eq hk] at this
  exact h this
theorem budS_take {f : List Sl} {k : Nat} (hk : k < f.length) : budS (f.take (k + 1)) = budS (f.take k) + (slk f k).bud := by
  rw [List.take_succ_eq_append_getElem hk, budS_app, slk_eq hk]
  simp [budS]
def BPto (fr : Nat) (f : List Sl) (k : Nat) : Prop := ∀ i, i < k → 1 ≤ (slk f i).bud ∧ budS (f.take i) + (slk f i).bud ≤ fr
theorem bpTo_all {fr : Nat} {f : List Sl} (h : BPto fr f f.length) : BudP fr f := by
  intro k hk
  rw [slk_eq hk]
  exact h k hk

/-- It passes, or refuses. -/
def PassOut (Q : Prop) (w : World) (en : Ending) (w' : World) : Prop := Below w.heap.size w w' ∧ ((Q ∧ en = .returned (.tuple #[])) ∨ (¬ Q ∧ en = pan 8 0))

set_option maxRecDepth 100000 in
set_option maxHeartbeats 2000000 in
theorem checkBudgets_any (f : List Sl) (a : Option Addr) (c : Nat) (most : Nat) (w : World) (hr : FrA w a f) (hn : f.length ≤ 1000) (hm : most ≤ 10000) (hs : ∀ k, k < f.length → (slk f k).bud ≤ 9999) :
    Calls Tryz.prog 105 #[.slice a f.length c, .int .i64 most] w (PassOut (BudP most f) w) := by
  have Hr := hide hr
  have Hs := hide hs
  clear hr hs
  go_enter Tryz.func105, Tryz.ntmps105
  go_wp2_with fail
  go_loopw [4, 9] (fun s i wr => ∃ k : Nat, k ≤ f.length ∧ i = .int .i64 k ∧ s = .int .i64 (budS (f.take k) : Nat) ∧ budS (f.take k) ≤ 10000 ∧ Below w.heap.size w wr ∧ BPto most f k) (fun _ i _ => 2000 - (intOf i).toNat)
  case atStart => exact ⟨0, by omega, rfl, rfl, by simp [budS], Below.refl _ _, fun i hi => by omega⟩
  case round =>
    obtain ⟨k, hk, rfl, rfl, hsum, hb, hP⟩ := hrel
    have HB := hide hb
    have HP := hide hP
    clear hP
    by_cases hlt : k < f.length
    · have hlt' : (k : Int) < f.length := by omega
      obtain ⟨g, rfl, hg1, hrow⟩ := Hr.out (by omega)
      obtain ⟨r0, r1, r2⟩ := hrow.below hb hg1 k hlt
      have hbk := Hs.out k hlt
      have hst := hide (budS_take hlt)
      have hws := hb.size
      clear hb hrow
      by_cases hq : 1 ≤ (slk f k).bud ∧ budS (f.take k) + (slk f k).bud ≤ most
      · obtain ⟨hq1, hq2⟩ := hq
        have hq1' : ¬ ((slk f k).bud : Int) < 1 := by omega
        have hq2' : ¬ (most : Int) < budS (f.take k) + (slk f k).bud := by omega
        have hBP : Hid (BPto most f (k + 1)) := by
          intro i hi
          rcases Nat.lt_or_ge i k with h | h
          · exact HP.out i h
          · have : i = k := by omega
            subst this
            exact ⟨hq1, hq2⟩
        generalize budS (f.take k) = B at *
        go_wp2
        go_roundw
        case rel => exact ⟨k + 1, by omega, by go_num, by rw [hst.out]; go_num, by rw [hst.out]; omega, HB.out.alloc HB.out.size _, hBP.out⟩
        case measure => simp [intOf]; omega
      · have hno := hide (budP_no hlt hq)
        have hcs : ((slk f k).bud : Int) < 1 ∨ (¬ ((slk f k).bud : Int) < 1 ∧ (most : Int) < budS (f.take k) + (slk f k).bud) := by omega
        clear hq
        generalize budS (f.take k) = B at *
        rcases hcs with h1 | ⟨h1, h2⟩
        all_goals
          go_wp2_with fail
          refine (refuse_any 8 0 _ rfl _).mono ?_
          rintro e w' ⟨rfl, rfl⟩
          exact ⟨rfl, HB.out.alloc HB.out.size _, .inr ⟨hno.out, rfl⟩⟩
    · have hlt' : ¬ (k : Int) < f.length := by omega
      have hok : Hid (BudP most f) := by
        have : k = f.length := by omega
        rw [this] at HP
        exact bpTo_all HP.out
      go_wp2
      go_end0
      exact ⟨HB.out, .inl ⟨hok.out, rfl⟩⟩

/-- What is known of one name, in memory. -/
def NxC (J o : Nat) (w w' : World) (x y : Nat) : Prop := w'.cell? ⟨J, o, none⟩ = some (.int .i64 x) ∧ w'.cell? ⟨J, o + 1, none⟩ = some (.int .i64 y) ∧ (∀ p, p ≠ o → p ≠ o + 1 → w'.cell? ⟨J, p, none⟩ = w.cell? ⟨J, p, none⟩) ∧ (∀ o, w'.frozen? ⟨J, o, none⟩ = false)
def NxOut (J o bg job fr lf : Nat) (w : World) (en : Ending) (w' : World) : Prop :=
  w.grownBy w' (some J) ∧ ((job = bg ∧ en = .returned (.tuple #[]) ∧ NxC J o w w' (bg + 1) fr) ∨ (job + 1 = bg ∧ lf ≠ fr ∧ en = .returned (.tuple #[]) ∧ NxC J o w w' bg fr) ∨ (¬ (job = bg ∨ (job + 1 = bg ∧ lf ≠ fr)) ∧ en = pan 8 0))

set_option maxRecDepth 100000 in
set_option maxHeartbeats 2000000 in
theorem checkNext_any (J o bg job fr lf : Nat) (w : World) (c0 : w.cell? ⟨J, o, none⟩ = some (.int .i64 bg)) (c1 : w.cell? ⟨J, o + 1, none⟩ = some (.int .i64 lf)) (fz : ∀ o, w.frozen? ⟨J, o, none⟩ = false) (hb : bg ≤ 100000) (hj : job ≤ 100000) :
    Calls Tryz.prog 107 #[.pointer (some ⟨J, o, none⟩), .int .i64 job, .int .i64 fr] w (NxOut J o bg job fr lf w) := by
  have Hc0 := hide c0
  have Hc1 := hide c1
  have Hfz := hide fz
  have f0 := fz o
  have f1 := fz (o + 1)
  clear fz
  by_cases h1 : job = bg
  · have h1' : ((job : Int) == bg) = true := by simp [h1]
    have hneg : ((-1 : Int) == fr) = false := by rw [beq_eq_false_iff_ne]; omega
    have Hfin : Hid (NxOut J o bg job fr lf w (.returned (.tuple #[])) (((w.setCell ⟨J, o, none⟩ (.int .i64 (bg + 1))).setCell ⟨J, o + 1, none⟩ (.int .i64 (-1))).setCell ⟨J, o + 1, none⟩ (.int .i64 fr))) := by
      refine ⟨grownBy_set (grownBy_set (grownBy_set (grownBy_refl _ _) _ _) _ _) _ _, .inl ⟨h1, rfl, ?_, ?_, ?_, ?_⟩⟩
      · rw [set_other (by simp), set_other (by simp), set_same Hc0.out]; rfl
      · exact set_same (set_same (by rw [set_other (by simp)]; exact Hc1.out))
      · intro p hp hp'
        rw [set_other (by intro e; injection e with _ e2; omega), set_other (by intro e; injection e with _ e2; omega), set_other (by intro e; injection e with _ e2; omega)]
      · intro q
        simpa using Hfz.out q
    clear h1
    go_enter Tryz.func107, Tryz.ntmps107
    go_wp2
    go_end0
    exact Hfin.out
  · have h1' : ((job : Int) == bg) = false := by simp; omega
    by_cases h2 : job + 1 = bg
    · have h2' : ((job : Int) == (bg : Int) - 1) = true := by simp; omega
      by_cases h3 : lf = fr
      · have h3' : ((lf : Int) == fr) = true := by simp [h3]
        have hno : Hid (¬ (job = bg ∨ (job + 1 = bg ∧ lf ≠ fr))) := by
          rintro (h | ⟨_, h⟩)
          · exact h1 h
          · exact h h3
        clear h1 h2 h3
        go_enter Tryz.func107, Tryz.ntmps107
        go_wp2_with fail
        refine (refuse_any 8 0 _ rfl _).mono ?_
        rintro e w' ⟨rfl, rfl⟩
        exact ⟨rfl, grownBy_refl _ _, .inr (.inr ⟨hno.out, rfl⟩)⟩
      · have h3' : ((lf : Int) == fr) = false := by simp; omega
        have Hfin : Hid (NxOut J o bg job fr lf w (.returned (.tuple #[])) (w.setCell ⟨J, o + 1, none⟩ (.int .i64 fr))) := by
          refine ⟨grownBy_set (grownBy_refl _ _) _ _, .inr (.inl ⟨h2, h3, rfl, ?_, ?_, ?_, ?_⟩)⟩
          · rw [set_other (by simp)]; exact Hc0.out
          · exact set_same Hc1.out
          · intro p hp hp'
            rw [set_other (by intro e; injection e with _ e2; omega)]
          · intro q
            simpa using Hfz.out q
        clear h1 h2 h3
        go_enter Tryz.func107, Tryz.ntmps107
        go_wp2
        go_end0
        exact Hfin.out
    · have h2' : ((job : Int) == (bg : Int) - 1) = false := by simp; omega
      have hno : Hid (¬ (job = bg ∨ (job + 1 = bg ∧ lf ≠ fr))) := by
        rintro (h | ⟨h, _⟩)
        · exact h1 h
        · exact h2 h
      clear h1 h2
      go_enter Tryz.func107, Tryz.ntmps107
      go_wp2_with fail
      refine (refuse_any 8 0 _ rfl _).mono ?_
      rintro e w' ⟨rfl, rfl⟩
      exact ⟨rfl, grownBy_refl _ _, .inr (.inr ⟨hno.out, rfl⟩)⟩

/-! ### The jobs so far -/
/-- The 26 names' cells, behind the slices P. -/
def JC (w : World) (J : Nat) (P : List FSl) : Prop := (∀ n : UInt8, letterB (n.toNat : Int) = true → w.cell? ⟨J, (n.toNat - 97) * 2, none⟩ = some (.int .i64 (nextJ P n)) ∧ w.cell? ⟨J, (n.toNat - 97) * 2 + 1, none⟩ = some (.int .i64 (lastF P n))) ∧ ∀ o, w.frozen? ⟨J, o, none⟩ = false
theorem JC.next {w w' : World} {J : Nat} {P : List FSl} {x : FSl} (h : JC w J P) (hl : letterB (x.2.nm.toNat : Int) = true) {n y : Nat} (hn : n = nextJ (P ++ [x]) x.2.nm) (hy : y = x.1) (hc : NxC J ((x.2.nm.toNat - 97) * 2) w w' n y) : JC w' J (P ++ [x]) := by
  obtain ⟨c1, c2, c3, c4⟩ := hc
  refine ⟨?_, c4⟩
  intro m hm
  rw [lastF_snoc]
  by_cases he : x.2.nm = m
  · subst he
    rw [if_pos rfl, c1, c2, hn, hy]
    exact ⟨rfl, rfl⟩
  · rw [nextJ_snoc, if_neg he, if_neg he]
    have hne : x.2.nm.toNat ≠ m.toNat := fun e => he (UInt8.toNat_inj.1 e)
    simp only [letterB, Bool.and_eq_true, decide_eq_true_eq] at hl hm
    rw [c3 _ (by omega) (by omega), c3 _ (by omega) (by omega)]
    exact h.1 m (by simp only [letterB, Bool.and_eq_true, decide_eq_true_eq]; exact hm)
theorem JC.keep {w w' : World} {J : Nat} {P : List FSl} (h : JC w J P) (hb : w'.heap[J]? = w.heap[J]?) (hf : ∀ o, w'.frozen? ⟨J, o, none⟩ = w.frozen? ⟨J, o, none⟩) : JC w' J P := by
  refine ⟨?_, fun o => by rw [hf]; exact h.2 o⟩
  intro n hn
  have e : ∀ o, w'.cell? ⟨J, o, none⟩ = w.cell? ⟨J, o, none⟩ := fun o => World.cell?_of_block (a := ⟨J, o, none⟩) hb
  rw [e, e]
  exact h.1 n hn

/-- All that check asks. -/
def ChkOk (t : Tb) : Prop := Sound t ∧ ∀ f ∈ t.fs, ∀ s ∈ f, letterB (s.nm.toNat : Int) = true

theorem jobsP_nil : JobsP [] := fun k h => by simp at h
theorem jobsP_snoc {A : List FSl} {x : FSl} (h : JobsP A) (hx : okP A x) : JobsP (A ++ [x]) := by
  intro k hk
  rcases Nat.lt_or_ge k A.length with h1 | h1
  · rw [List.getElem_append_left h1, List.take_append_of_le_length (by omega)]
    exact h k h1
  · have : k = A.length := by simp at hk; omega
    subst this
    rw [List.getElem_append_right (by omega), List.take_left']
    · simpa using hx
    · rfl
theorem jobsP_mid {A R : List FSl} {x : FSl} (h : JobsP (A ++ x :: R)) : okP A x := by
  have := h A.length (by simp)
  rw [List.getElem_append_right (by omega), List.take_left'] at this
  · simpa using this
  · rfl
theorem flat_split (fs : List (List Sl)) : ∀ (j i : Nat), (hj : j < fs.length) → flatF i fs = flatF i (fs.take j) ++ ((frk fs j).map (fun s => (i + j, s)) ++ flatF (i + j + 1) (fs.drop (j + 1))) := by
  induction fs with
  | nil => intro j i hj; simp at hj
  | cons f r ih =>
    intro j i hj
    cases j with
    | zero => simp [flatF, frk]
    | succ j =>
      have := ih j (i + 1) (by simpa using hj)
      simp only [flatF, List.take_succ_cons, List.drop_succ_cons, this, List.append_assoc]
      rw [show i + 1 + j = i + (j + 1) by omega]
      rfl
theorem map_take_next {f : List Sl} {k j : Nat} (h : k < f.length) : (f.take (k + 1)).map (fun s => (j, s)) = (f.take k).map (fun s => (j, s)) ++ [(j, slk f k)] := by
  rw [List.take_succ_eq_append_getElem h, List.map_append, slk_eq h]
  rfl
theorem chk_no_bud {t : Tb} {j : Nat} (hj : j < t.fs.length) (h : ¬ BudP t.fr (frk t.fs j)) : ¬ ChkOk t := by
  intro hc
  exact h (hc.1.bud _ (by rw [← frk_eq hj]; exact List.getElem_mem _))
theorem chk_no_letter {t : Tb} {j k : Nat} (hj : j < t.fs.length) (hk : k < (frk t.fs j).length) (h : letterB ((slk (frk t.fs j) k).nm.toNat : Int) = false) : ¬ ChkOk t := by
  intro hc
  have := hc.2 (frk t.fs j) (by rw [← frk_eq hj]; exact List.getElem_mem _) (slk (frk t.fs j) k) (by rw [← slk_eq hk]; exact List.getElem_mem _)
  rw [this] at h
  simp at h
theorem chk_no_job {t : Tb} {j k : Nat} (hj : j < t.fs.length) (hk : k < (frk t.fs j).length) (h : ¬ okP (flatF 0 (t.fs.take j) ++ ((frk t.fs j).take k).map (fun s => (j, s))) (j, slk (frk t.fs j) k)) : ¬ ChkOk t := by
  intro hc
  have hJ := hc.1.jobs
  rw [flat_split t.fs j 0 hj, Nat.zero_add] at hJ
  have e : (frk t.fs j).map (fun s => (j, s)) = ((frk t.fs j).take k).map (fun s => (j, s)) ++ (j, slk (frk t.fs j) k) :: ((frk t.fs j).drop (k + 1)).map (fun s => (j, s)) := by
    conv => lhs; rw [← List.take_append_drop k (frk t.fs j)]
    rw [List.map_append, List.drop_eq_getElem_cons hk, slk_eq hk]
    rfl
  rw [e] at hJ
  refine h (jobsP_mid (R := ((frk t.fs j).drop (k + 1)).map (fun s => (j, s)) ++ flatF (j + 1) (t.fs.drop (j + 1))) ?_)
  simpa using hJ
end Go.Proofs.YtbdffcjganlblaaGreatDoor
