/-
  Own work. Heaps, pure: rows of numbers, the least key on top.
-/
import Derived.Test.YtbdffcjganlblaaGreatDoorRows
import Derived.Test.YtbdffcjganlblaaGreatDoorRefEtoRefF
import Derived.Maps.AppendAt
import Derived.BigQuiet
import Derived.Deep.RegionHeldLaw
namespace Go.Proofs.YtbdffcjganlblaaGreatDoor
set_option linter.unusedVariables false
set_option linter.unusedSimpArgs false

def gd (L : List Nat) (i : Nat) : Nat := L.getD i 0
theorem gd_get {L : List Nat} {i : Nat} (h : i < L.length) : gd L i = L[i] := by simp [gd, List.getD_eq_getElem?_getD, h]
theorem gd_mem {L : List Nat} {i : Nat} (h : i < L.length) : gd L i ∈ L := by rw [gd_get h]; exact List.getElem_mem _
theorem mem_gd {L : List Nat} {x : Nat} (h : x ∈ L) : ∃ i, i < L.length ∧ gd L i = x := by
  obtain ⟨i, hi, e⟩ := List.getElem_of_mem h
  exact ⟨i, hi, by rw [gd_get hi, e]⟩
theorem gd_take {L : List Nat} {i n : Nat} (h : i < n) : gd (L.take n) i = gd L i := by
  simp [gd, List.getD_eq_getElem?_getD, List.getElem?_take, h]
theorem gd_append {L : List Nat} {x i : Nat} (h : i < L.length) : gd (L ++ [x]) i = gd L i := by
  simp [gd, List.getD_eq_getElem?_getD, List.getElem?_append_left h]
def swp (L : List Nat) (i j : Nat) : List Nat := (L.set i (gd L j)).set j (gd L i)
theorem swp_len (L : List Nat) (i j : Nat) : (swp L i j).length = L.length := by simp [swp]
theorem swp_perm {L : List Nat} {i j : Nat} (hi : i < L.length) (hj : j < L.length) : (swp L i j).Perm L := by
  unfold swp
  rw [gd_get hi, gd_get hj]
  exact List.set_set_perm hi hj
theorem gd_swp {L : List Nat} {i j : Nat} (hi : i < L.length) (hj : j < L.length) (k : Nat) : gd (swp L i j) k = if k = j then gd L i else if k = i then gd L j else gd L k := by
  unfold swp
  unfold gd
  simp only [List.getD_eq_getElem?_getD, List.getElem?_set, List.length_set]
  by_cases h1 : j = k
  · subst h1; simp [hj]
  · by_cases h2 : i = k
    · subst h2
      have h3 : ¬ i = j := fun e => h1 e.symm
      simp [hi, h1, h3]
    · have h3 : ¬ k = j := fun e => h1 e.symm
      have h4 : ¬ k = i := fun e => h2 e.symm
      simp [h1, h2, h3, h4]

/-- Each is at least its parent. -/
def Hp (key : Nat → Nat) (L : List Nat) (n : Nat) : Prop := ∀ i, 0 < i → i < n → key (gd L ((i - 1) / 2)) ≤ key (gd L i)
theorem Hp.least {key : Nat → Nat} {L : List Nat} {n : Nat} (h : Hp key L n) : ∀ i, i < n → key (gd L 0) ≤ key (gd L i) := by
  intro i
  induction i using Nat.strongRecOn with
  | _ i ih =>
    intro hi
    by_cases h0 : i = 0
    · subst h0; exact Nat.le_refl _
    · exact Nat.le_trans (ih ((i - 1) / 2) (by omega) (by omega)) (h i (by omega) hi)

def upP (key : Nat → Nat) (L : List Nat) (j : Nat) : List Nat :=
  if h : 0 < j then
    if key (gd L j) < key (gd L ((j - 1) / 2)) then upP key (swp L ((j - 1) / 2) j) ((j - 1) / 2) else L
  else L
termination_by j
decreasing_by omega
theorem upP_zero (key : Nat → Nat) (L : List Nat) : upP key L 0 = L := by rw [upP, dif_neg (by omega)]
theorem upP_stop {key : Nat → Nat} {L : List Nat} {j : Nat} (h : ¬ key (gd L j) < key (gd L ((j - 1) / 2))) : upP key L j = L := by
  rw [upP]
  split <;> rfl
theorem upP_go {key : Nat → Nat} {L : List Nat} {j : Nat} (h0 : 0 < j) (h : key (gd L j) < key (gd L ((j - 1) / 2))) : upP key L j = upP key (swp L ((j - 1) / 2) j) ((j - 1) / 2) := by
  rw [upP, dif_pos h0, if_pos h]
theorem upP_perm (key : Nat → Nat) (j : Nat) : ∀ (L : List Nat), j < L.length → (upP key L j).Perm L := by
  induction j using Nat.strongRecOn with
  | _ j ih =>
    intro L hj
    by_cases h0 : 0 < j
    · by_cases h : key (gd L j) < key (gd L ((j - 1) / 2))
      · rw [upP_go h0 h]
        exact (ih ((j - 1) / 2) (by omega) _ (by rw [swp_len]; omega)).trans (swp_perm (by omega) hj)
      · rw [upP_stop h]
    · rw [show j = 0 by omega, upP_zero]
theorem upP_heap (key : Nat → Nat) (n j : Nat) : ∀ (L : List Nat), L.length = n → j < n → (∀ i, 0 < i → i < n → i ≠ j → key (gd L ((i - 1) / 2)) ≤ key (gd L i)) → (∀ c, 0 < c → c < n → (c - 1) / 2 = j → 0 < j → key (gd L ((j - 1) / 2)) ≤ key (gd L c)) → Hp key (upP key L j) n := by
  induction j using Nat.strongRecOn with
  | _ j ih =>
    intro L hL hj h1 h2
    by_cases h0 : 0 < j
    · by_cases h : key (gd L j) < key (gd L ((j - 1) / 2))
      · rw [upP_go h0 h]
        have hp : (j - 1) / 2 < j := by omega
        generalize hq : (j - 1) / 2 = q at *
        have g := fun k => gd_swp (L := L) (i := q) (j := j) (by omega) (by omega) k
        refine ih q hp _ (by rw [swp_len]; exact hL) (by omega) ?_ ?_
        · intro i hi0 hin hiq
          rw [g, g]
          by_cases e1 : i = j
          · subst e1
            rw [hq, if_neg (by omega), if_pos rfl, if_pos rfl]
            omega
          · rw [if_neg e1, if_neg hiq]
            by_cases e2 : (i - 1) / 2 = j
            · rw [if_pos e2]
              exact h2 i hi0 hin e2 h0
            · rw [if_neg e2]
              by_cases e3 : (i - 1) / 2 = q
              · rw [if_pos e3]
                have := h1 i hi0 hin e1
                rw [e3] at this
                omega
              · rw [if_neg e3]
                exact h1 i hi0 hin e1
        · intro c hc0 hcn hcq hq0
          rw [g, g]
          rw [if_neg (show (q - 1) / 2 ≠ j by omega), if_neg (show (q - 1) / 2 ≠ q by omega)]
          have hqq := h1 q hq0 (by omega) (by omega)
          by_cases e1 : c = j
          · rw [if_pos e1]
            exact hqq
          · rw [if_neg e1, if_neg (show c ≠ q by omega)]
            have := h1 c hc0 hcn e1
            rw [hcq] at this
            omega
      · rw [upP_stop h]
        intro i hi0 hin
        by_cases e : i = j
        · subst e; omega
        · exact h1 i hi0 hin e
    · have e : j = 0 := by omega
      rw [e, upP_zero]
      intro i hi0 hin
      exact h1 i hi0 hin (by omega)
theorem up_push {key : Nat → Nat} {L : List Nat} (h : Hp key L L.length) (x : Nat) : Hp key (upP key (L ++ [x]) L.length) (L.length + 1) ∧ (upP key (L ++ [x]) L.length).Perm (L ++ [x]) := by
  refine ⟨upP_heap key (L.length + 1) L.length (L ++ [x]) (by simp) (by omega) ?_ ?_, upP_perm key _ _ (by simp)⟩
  · intro i hi0 hin hne
    rw [gd_append (by omega), gd_append (by omega)]
    exact h i hi0 (by omega)
  · intro c hc0 hcn hc hL
    omega

/-- The lesser child. -/
def kid (key : Nat → Nat) (L : List Nat) (i n : Nat) : Nat := if 2 * i + 2 < n ∧ key (gd L (2 * i + 2)) < key (gd L (2 * i + 1)) then 2 * i + 2 else 2 * i + 1
theorem kid_cases (key : Nat → Nat) (L : List Nat) (i n : Nat) : kid key L i n = 2 * i + 1 ∨ kid key L i n = 2 * i + 2 := by
  unfold kid; split <;> simp
theorem kid_lt {key : Nat → Nat} {L : List Nat} {i n : Nat} (h : 2 * i + 1 < n) : kid key L i n < n := by
  unfold kid; split <;> omega
theorem kid_least {key : Nat → Nat} {L : List Nat} {i n : Nat} (c : Nat) (hc : c < n) (hp : c = 2 * i + 1 ∨ c = 2 * i + 2) : key (gd L (kid key L i n)) ≤ key (gd L c) := by
  unfold kid
  split
  · rcases hp with rfl | rfl <;> omega
  · rename_i hno
    rcases hp with rfl | rfl
    · omega
    · omega
def dnP (key : Nat → Nat) (L : List Nat) (i n : Nat) : List Nat :=
  if h : 2 * i + 1 < n then
    if key (gd L (kid key L i n)) < key (gd L i) then dnP key (swp L i (kid key L i n)) (kid key L i n) n else L
  else L
termination_by n - i
decreasing_by
  have := kid_lt (key := key) (L := L) h
  rcases kid_cases key L i n with e | e <;> omega
theorem dnP_end {key : Nat → Nat} {L : List Nat} {i n : Nat} (h : ¬ 2 * i + 1 < n) : dnP key L i n = L := by rw [dnP, dif_neg h]
theorem dnP_stop {key : Nat → Nat} {L : List Nat} {i n : Nat} (h : ¬ key (gd L (kid key L i n)) < key (gd L i)) : dnP key L i n = L := by
  rw [dnP]
  split <;> rfl
theorem dnP_go {key : Nat → Nat} {L : List Nat} {i n : Nat} (h0 : 2 * i + 1 < n) (h : key (gd L (kid key L i n)) < key (gd L i)) : dnP key L i n = dnP key (swp L i (kid key L i n)) (kid key L i n) n := by
  rw [dnP, dif_pos h0, if_pos h]
theorem dnP_len (key : Nat → Nat) (n : Nat) (d : Nat) : ∀ (i : Nat) (L : List Nat), n - i ≤ d → (dnP key L i n).length = L.length := by
  induction d with
  | zero =>
    intro i L h
    rw [dnP_end (by omega)]
  | succ d ih =>
    intro i L h
    by_cases h0 : 2 * i + 1 < n
    · by_cases h1 : key (gd L (kid key L i n)) < key (gd L i)
      · rw [dnP_go h0 h1, ih _ _ (by rcases kid_cases key L i n with e | e <;> omega), swp_len]
      · rw [dnP_stop h1]
    · rw [dnP_end h0]
theorem dnP_perm (key : Nat → Nat) (n : Nat) (d : Nat) : ∀ (i : Nat) (L : List Nat), n - i ≤ d → n ≤ L.length → (dnP key L i n).Perm L ∧ ∀ k, n ≤ k → gd (dnP key L i n) k = gd L k := by
  induction d with
  | zero =>
    intro i L h hn
    rw [dnP_end (by omega)]
    exact ⟨List.Perm.refl _, fun _ _ => rfl⟩
  | succ d ih =>
    intro i L h hn
    by_cases h0 : 2 * i + 1 < n
    · by_cases h1 : key (gd L (kid key L i n)) < key (gd L i)
      · have hk := kid_lt (key := key) (L := L) h0
        obtain ⟨a, b⟩ := ih (kid key L i n) (swp L i (kid key L i n)) (by rcases kid_cases key L i n with e | e <;> omega) (by rw [swp_len]; exact hn)
        rw [dnP_go h0 h1]
        refine ⟨a.trans (swp_perm (by omega) (by omega)), fun k hk2 => ?_⟩
        rw [b k hk2, gd_swp (by omega) (by omega), if_neg (by omega), if_neg (by omega)]
      · rw [dnP_stop h1]
        exact ⟨List.Perm.refl _, fun _ _ => rfl⟩
    · rw [dnP_end h0]
      exact ⟨List.Perm.refl _, fun _ _ => rfl⟩
theorem dnP_heap (key : Nat → Nat) (n : Nat) (d : Nat) : ∀ (i : Nat) (L : List Nat), n - i ≤ d → n ≤ L.length → (∀ c, 0 < c → c < n → (c - 1) / 2 ≠ i → key (gd L ((c - 1) / 2)) ≤ key (gd L c)) → (∀ c, 0 < c → c < n → (c - 1) / 2 = i → 0 < i → key (gd L ((i - 1) / 2)) ≤ key (gd L c)) → Hp key (dnP key L i n) n := by
  induction d with
  | zero =>
    intro i L h hn h1 h2
    rw [dnP_end (by omega)]
    intro c hc0 hcn
    exact h1 c hc0 hcn (by omega)
  | succ d ih =>
    intro i L h hn h1 h2
    by_cases h0 : 2 * i + 1 < n
    · have hk := kid_lt (key := key) (L := L) h0
      have hle := fun c hc hp => kid_least (key := key) (L := L) (i := i) (n := n) c hc hp
      have hkc := kid_cases key L i n
      by_cases h3 : key (gd L (kid key L i n)) < key (gd L i)
      · rw [dnP_go h0 h3]
        generalize kid key L i n = q at *
        have g := fun k => gd_swp (L := L) (i := i) (j := q) (by omega) (by omega) k
        refine ih q _ (by omega) (by rw [swp_len]; exact hn) ?_ ?_
        · intro c hc0 hcn hcq
          rw [g, g, if_neg hcq]
          by_cases e1 : c = q
          · rw [if_pos e1, if_pos (by omega)]
            omega
          · rw [if_neg e1]
            by_cases e2 : (c - 1) / 2 = i
            · rw [if_pos e2, if_neg (by omega)]
              exact hle c hcn (by omega)
            · rw [if_neg e2]
              by_cases e3 : c = i
              · rw [if_pos e3]
                have := h2 q (by omega) hk (by omega) (by omega)
                rw [e3]
                exact this
              · rw [if_neg e3]
                exact h1 c hc0 hcn e2
        · intro c hc0 hcn hcq hq0
          rw [g, g, if_neg (show (q - 1) / 2 ≠ q by omega), if_pos (show (q - 1) / 2 = i by omega), if_neg (show c ≠ q by omega), if_neg (show c ≠ i by omega)]
          have := h1 c hc0 hcn (by omega)
          rw [hcq] at this
          exact this
      · rw [dnP_stop h3]
        intro c hc0 hcn
        by_cases e : (c - 1) / 2 = i
        · have := hle c hcn (by omega)
          rw [e]
          omega
        · exact h1 c hc0 hcn e
    · rw [dnP_end h0]
      intro c hc0 hcn
      exact h1 c hc0 hcn (by omega)
/-- The row without the least. -/
def popP (key : Nat → Nat) (L : List Nat) : List Nat := (dnP key (swp L 0 (L.length - 1)) 0 (L.length - 1)).take (L.length - 1)
theorem pop_last {key : Nat → Nat} {L : List Nat} (h0 : 0 < L.length) : gd (dnP key (swp L 0 (L.length - 1)) 0 (L.length - 1)) (L.length - 1) = gd L 0 := by
  rw [(dnP_perm key (L.length - 1) _ 0 (swp L 0 (L.length - 1)) (Nat.le_refl _) (by rw [swp_len]; omega)).2 _ (Nat.le_refl _), gd_swp (by omega) (by omega), if_pos rfl]
theorem pop_ok {key : Nat → Nat} {L : List Nat} (h : Hp key L L.length) (h0 : 0 < L.length) : (∀ x ∈ L, key (gd L 0) ≤ key x) ∧ L.Perm (gd L 0 :: popP key L) ∧ Hp key (popP key L) (popP key L).length ∧ (popP key L).length = L.length - 1 := by
  have hp := dnP_perm key (L.length - 1) _ 0 (swp L 0 (L.length - 1)) (Nat.le_refl _) (by rw [swp_len]; omega)
  have hl : (dnP key (swp L 0 (L.length - 1)) 0 (L.length - 1)).length = L.length := by rw [dnP_len key _ _ 0 _ (Nat.le_refl _), swp_len]
  have hlen : (popP key L).length = L.length - 1 := by unfold popP; rw [List.length_take, hl]; omega
  have hpl := pop_last (key := key) h0
  refine ⟨?_, ?_, ?_, hlen⟩
  · intro x hx
    obtain ⟨i, hi, e⟩ := mem_gd hx
    rw [← e]
    exact h.least i hi
  · have e : (dnP key (swp L 0 (L.length - 1)) 0 (L.length - 1)) = popP key L ++ [gd L 0] := by
      rw [← hpl]
      unfold popP
      generalize dnP key (swp L 0 (L.length - 1)) 0 (L.length - 1) = M at *
      rw [gd_get (by omega)]
      have : M = M.take (L.length - 1 + 1) := by rw [List.take_of_length_le (by omega)]
      conv => lhs; rw [this, List.take_succ_eq_append_getElem (by omega)]
    have h1 : L.Perm (popP key L ++ [gd L 0]) := by
      rw [← e]
      exact (hp.1.trans (swp_perm (by omega) (by omega))).symm
    exact h1.trans (List.perm_append_comm)
  · rw [hlen]
    have hh := dnP_heap key (L.length - 1) _ 0 (swp L 0 (L.length - 1)) (Nat.le_refl _) (by rw [swp_len]; omega) (by
      intro c hc0 hcn hci
      rw [gd_swp (by omega) (by omega), gd_swp (by omega) (by omega), if_neg (by omega), if_neg hci, if_neg (by omega), if_neg (by omega)]
      exact h c hc0 (by omega)) (by intro c _ _ _ h; omega)
    intro i hi0 hin
    unfold popP
    rw [gd_take (by omega), gd_take hin]
    exact hh i hi0 hin
theorem hp_nil (key : Nat → Nat) : Hp key [] 0 := fun i _ h => by omega
end Go.Proofs.YtbdffcjganlblaaGreatDoor

namespace Go.Proofs.YtbdffcjganlblaaGreatDoor
set_option linter.unusedVariables false
set_option linter.unusedSimpArgs false

/-- A job of the cycle. -/
structure Jb where
  ltr : UInt8
  num : Nat
  tsk : Nat
  rel : Nat
  dl : Nat
  cost : Nat
def jk (js : List Jb) (k : Nat) : Jb := js.getD k ⟨0, 0, 0, 0, 0, 0⟩
theorem jk_get {js : List Jb} {k : Nat} (h : k < js.length) : jk js k = js[k] := by simp [jk, List.getD_eq_getElem?_getD, h]
def jobsT (cyc i : Nat) (t : Tk) : List Jb := (List.range (cyc / t.P)).map fun k => ⟨t.nm, k, i, k * t.P + t.O, k * t.P + t.O + t.D, t.C⟩
/-- The jobs of the tasks, from number i on. -/
def jobsL (cyc : Nat) : Nat → List Tk → List Jb
  | _, [] => []
  | i, t :: r => jobsT cyc i t ++ jobsL cyc (i + 1) r
theorem jobsL_snoc (cyc : Nat) : ∀ (l : List Tk) (i : Nat) (t : Tk), jobsL cyc i (l ++ [t]) = jobsL cyc i l ++ jobsT cyc (i + l.length) t
  | [], i, t => by simp [jobsL]
  | x :: r, i, t => by
    simp only [List.cons_append, jobsL, jobsL_snoc cyc r (i + 1) t, List.append_assoc, List.length_cons]
    rw [show i + 1 + r.length = i + (r.length + 1) by omega]

/-- By the deadline, then by the task. -/
def keyJ (js : List Jb) (k : Nat) : Nat := (jk js k).dl * 1000 + (jk js k).tsk
def updL (left : Nat → Nat) (k v : Nat) : Nat → Nat := fun i => if i = k then v else left i
def doneN (js : List Jb) (left : Nat → Nat) (c : UInt8) (n : Nat) : Bool := (List.range js.length).all fun i => !((jk js i).ltr == c && (jk js i).num == n) || left i == 0
def busyN (js : List Jb) (left : Nat → Nat) (c : UInt8) : Bool := (List.range js.length).any fun i => (jk js i).ltr == c && (decide (0 < left i) && decide (left i < (jk js i).cost))
def holdsN (js : List Jb) (left : Nat → Nat) (k : Nat) (p : Pr) : Bool :=
  if p.ap = false then (jk js k).ltr == p.b && !doneN js left p.a (jk js k).num
  else if (jk js k).ltr = p.a then busyN js left p.b
  else if (jk js k).ltr = p.b then busyN js left p.a else false
/-- May the job run in a frame with that end? -/
def mayJ (js : List Jb) (ps : List Pr) (left : Nat → Nat) (e k : Nat) : Bool := decide (e ≤ (jk js k).dl) && !(ps.any (holdsN js left k))
def leastB (key : Nat → Nat) : List Nat → Option Nat
  | [] => none
  | x :: r => match leastB key r with
    | none => some x
    | some y => if key x ≤ key y then some x else some y
theorem leastB_none {key : Nat → Nat} : ∀ {l : List Nat}, leastB key l = none → l = []
  | [], _ => rfl
  | x :: r, h => by
    rw [leastB] at h
    cases hr : leastB key r with
    | none => rw [hr] at h; simp at h
    | some y =>
      rw [hr] at h
      simp only at h
      split at h <;> simp at h
theorem leastB_some {key : Nat → Nat} : ∀ {l : List Nat} {k : Nat}, leastB key l = some k → k ∈ l ∧ ∀ x ∈ l, key k ≤ key x
  | [], k, h => by simp [leastB] at h
  | x :: r, k, h => by
    rw [leastB] at h
    cases hr : leastB key r with
    | none =>
      rw [hr] at h
      have := leastB_none hr
      simp at h
      subst this h
      simp
    | some y =>
      obtain ⟨h1, h2⟩ := leastB_some hr
      rw [hr] at h
      simp only at h
      split at h
      · rename_i hle
        simp at h
        subst h
        refine ⟨by simp, fun z hz => ?_⟩
        rcases List.mem_cons.1 hz with rfl | hz
        · exact Nat.le_refl _
        · exact Nat.le_trans hle (h2 z hz)
      · rename_i hle
        simp at h
        subst h
        refine ⟨by simp [h1], fun z hz => ?_⟩
        rcases List.mem_cons.1 hz with rfl | hz
        · omega
        · exact h2 z hz
/-- Ready in the frame that begins at s. -/
def rdyJ (js : List Jb) (left : Nat → Nat) (s k : Nat) : Bool := decide ((jk js k).rel ≤ s) && decide (0 < left k)
def pickJ (js : List Jb) (ps : List Pr) (left : Nat → Nat) (s e : Nat) : Option Nat := leastB (keyJ js) ((List.range js.length).filter fun k => rdyJ js left s k && mayJ js ps left e k)
/-- The slices of the frame from s to e, from the time a on (fuel f): job and budget; what is left then. -/
def fillJ (js : List Jb) (ps : List Pr) (s e : Nat) : Nat → Nat → (Nat → Nat) → List (Nat × Nat) × (Nat → Nat)
  | 0, _, left => ([], left)
  | f + 1, a, left =>
    if a < e then
      match pickJ js ps left s e with
      | none => ([], left)
      | some k => let r := fillJ js ps s e f (a + min (left k) (e - a)) (updL left k (left k - min (left k) (e - a))); ((k, min (left k) (e - a)) :: r.1, r.2)
    else ([], left)
/-- The frames from s on. -/
def planJ (js : List Jb) (ps : List Pr) (fr : Nat) : Nat → Nat → (Nat → Nat) → List (List (Nat × Nat)) × (Nat → Nat)
  | 0, _, left => ([], left)
  | n + 1, s, left => let r := fillJ js ps s (s + fr) fr s left; let q := planJ js ps fr n (s + fr) r.2; (r.1 :: q.1, q.2)
def costJ (js : List Jb) : Nat → Nat := fun k => (jk js k).cost
def allJ (js : List Jb) (left : Nat → Nat) : Bool := (List.range js.length).all fun k => left k == 0
/-- The plan with frames of fr. -/
def runJ (js : List Jb) (ps : List Pr) (cyc fr : Nat) : List (List (Nat × Nat)) × (Nat → Nat) := planJ js ps fr (cyc / fr) 0 (costJ js)
def goesJ (js : List Jb) (ps : List Pr) (cyc fr : Nat) : Bool := allJ js (runJ js ps cyc fr).2
/-- The greatest frame from f down that goes; 0: none. -/
def wideJ (js : List Jb) (ps : List Pr) (cyc : Nat) : Nat → Nat
  | 0 => 0
  | f + 1 => if cyc % (f + 1) = 0 ∧ goesJ js ps cyc (f + 1) = true then f + 1 else wideJ js ps cyc f
end Go.Proofs.YtbdffcjganlblaaGreatDoor

namespace Go.Proofs.YtbdffcjganlblaaGreatDoor
open Go.RowKit
set_option linter.unusedVariables false
set_option linter.unusedSimpArgs false

/-- Old blocks stand, but for those in X. -/
structure Frm (X : Nat → Prop) (w w' : World) : Prop where
  os : w'.os = w.os
  tape : w'.tape = w.tape
  output : w'.output = w.output
  size : w.heap.size ≤ w'.heap.size
  block : ∀ k, k < w.heap.size → ¬ X k → w'.heap[k]? = w.heap[k]?
theorem Frm.refl (X : Nat → Prop) (w : World) : Frm X w w := ⟨rfl, rfl, rfl, Nat.le_refl _, fun _ _ _ => rfl⟩
theorem Frm.trans {X : Nat → Prop} {a b c : World} (h : Frm X a b) (k : Frm X b c) : Frm X a c :=
  ⟨k.os.trans h.os, k.tape.trans h.tape, k.output.trans h.output, Nat.le_trans h.size k.size, fun i hi hx => (k.block i (Nat.lt_of_lt_of_le hi h.size) hx).trans (h.block i hi hx)⟩
theorem Frm.wide {X Y : Nat → Prop} {a b : World} (h : Frm X a b) (hxy : ∀ k, k < a.heap.size → X k → Y k) : Frm Y a b := ⟨h.os, h.tape, h.output, h.size, fun i hi hy => h.block i hi (fun hx => hy (hxy i hi hx))⟩
theorem Frm.drew {X : Nat → Prop} {a b : World} (h : Frm X a b) : Frm X a b.drew := ⟨h.os, h.tape, h.output, h.size, h.block⟩
theorem Frm.sames {X : Nat → Prop} {a b : World} (h1 : b.os = a.os) (h2 : b.tape = a.tape) (h3 : b.output = a.output) (h4 : b.heap = a.heap) : Frm X a b := ⟨h1, h2, h3, by rw [h4]; exact Nat.le_refl _, fun k _ _ => by rw [h4]⟩
theorem Frm.alloc {X : Nat → Prop} {a b : World} (h : Frm X a b) (o : Obj) : Frm X a (b.alloc o) :=
  ⟨h.os, h.tape, h.output, Nat.le_trans h.size (by simp), fun i hi hx => (Below.heap_alloc b o i (Nat.lt_of_lt_of_le hi h.size)).trans (h.block i hi hx)⟩
theorem Frm.setCell {X : Nat → Prop} {a b : World} (h : Frm X a b) {p : Addr} (hp : X p.block) (u : Value) : Frm X a (b.setCell p u) :=
  ⟨h.os, h.tape, h.output, by simpa [World.setCell] using h.size, fun i hi hx => (Below.heap_setCell b p u i (fun e => hx (e ▸ hp))).trans (h.block i hi hx)⟩
theorem Frm.grown {X : Nat → Prop} {a b c : World} {row : Option Nat} (h : Frm X a b) (hg : b.grownBy c row) (hr : ∀ k, row = some k → k < a.heap.size → X k) : Frm X a c :=
  ⟨hg.os.trans h.os, hg.tape.trans h.tape, hg.output.trans h.output, Nat.le_trans h.size hg.size, fun i hi hx => (hg.block i (Nat.lt_of_lt_of_le hi h.size) (fun e => hx (hr i e.symm hi))).trans (h.block i hi hx)⟩
theorem Frm.blk {X : Nat → Prop} {a b : World} (h : Frm X a b) {i : Nat} {o : Obj} (hb : a.heap[i]? = some o) (hx : ¬ X i) : b.heap[i]? = some o := (h.block i (blk_lt hb) hx).trans hb
theorem Frm.below {X : Nat → Prop} {a b : World} (h : Frm X a b) {B : Nat} (hB : B ≤ a.heap.size) (hx : ∀ k, k < B → ¬ X k) : Below B a b := ⟨h.os, h.tape, h.output, h.size, fun k hk => h.block k (by omega) (hx k hk)⟩
theorem Below.frm {B : Nat} {a b : World} (h : Below B a b) : Frm (fun k => B ≤ k) a b := ⟨h.os, h.tape, h.output, h.size, fun k _ hx => h.block k (by omega)⟩

/-- A job in memory. -/
def jbV (j : Jb) (l : Nat) : Array Value := #[.string (bs [j.ltr]), .int .i64 j.num, .int .i64 j.tsk, .int .i64 j.rel, .int .i64 j.dl, .int .i64 j.cost, .int .i64 l]
def JobsAt (js : List Jb) (bl : Nat → Nat) (left : Nat → Nat) (w : World) : Prop := ∀ k, k < js.length → w.heap[bl k]? = some (.cells (jbV (jk js k) (left k)) 225 (0, 0))
theorem JobsAt.keep {js : List Jb} {bl left : Nat → Nat} {X : Nat → Prop} {w w' : World} (h : JobsAt js bl left w) (hf : Frm X w w') (hx : ∀ k, k < js.length → ¬ X (bl k)) : JobsAt js bl left w' := fun k hk => hf.blk (h k hk) (hx k hk)
def ptV (bl : Nat → Nat) (L : List Nat) : List Value := L.map fun k => .pointer (some ⟨bl k, 0, none⟩)
/-- A row of jobs. -/
abbrev RowJ (w : World) (base : Nat) (v : Value) (bl : Nat → Nat) (L : List Nat) : Prop := w.ownsRow base 226 1 v L.length (ptV bl L)
theorem RowJ.form {w : World} {base : Nat} {v : Value} {bl : Nat → Nat} {L : List Nat} (h : RowJ w base v bl L) (h0 : 0 < L.length) : ∃ g cap cur, v = .slice (some ⟨g, 0, none⟩) L.length cap ∧ base ≤ g ∧ w.heap[g]? = some (.cells cur 226 (0, 0)) ∧ L.length ≤ cap ∧ cap ≤ maxLen ∧ cur.size = cap ∧ ∀ i, i < L.length → cur[i]? = some (.pointer (some ⟨bl (gd L i), 0, none⟩)) := by
  rcases h.2 with ⟨_, h1⟩ | ⟨g, cap, cur, h1, h2, h3, h4, h5, h6, h7⟩
  · omega
  · refine ⟨g, cap, cur, h1, h2, h3, h4, h5, by omega, fun i hi => ?_⟩
    have h8 : (cur.toList.take (L.length * 1))[i]? = (ptV bl L)[i]? := by rw [h7]
    rw [List.getElem?_take, if_pos (by omega)] at h8
    rw [Array.getElem?_toList] at h8
    rw [h8, ptV, List.getElem?_map, List.getElem?_eq_getElem hi, gd_get hi]
    rfl
theorem RowJ.len {w : World} {base : Nat} {v : Value} {bl : Nat → Nat} {L : List Nat} (h : RowJ w base v bl L) : ∃ a cap, v = .slice a L.length cap ∧ L.length ≤ cap ∧ cap ≤ maxLen := by
  rcases h.2 with ⟨h0, h1⟩ | ⟨g, cap, cur, h1, h2, h3, h4, h5, h6, h7⟩
  · exact ⟨none, 0, by rw [h1]; exact h0, by omega, by simp [maxLen]⟩
  · exact ⟨_, cap, h1, h4, h5⟩
theorem keyJ_lt {js : List Jb} {i j : Nat} (hi : (jk js i).tsk < 1000) (hj : (jk js j).tsk < 1000) : keyJ js i < keyJ js j ↔ (jk js i).dl < (jk js j).dl ∨ ((jk js i).dl = (jk js j).dl ∧ (jk js i).tsk < (jk js j).tsk) := by
  unfold keyJ
  omega

set_option maxRecDepth 100000 in
set_option maxHeartbeats 1000000 in
theorem hlen_any (a : Option Addr) (n cap : Nat) (w : World) :
    Calls Tryz.prog 193 #[.slice a n cap] w fun e w' => e = .returned (.int .i64 n) ∧ w' = w := by
  go_enter Tryz.func193, Tryz.ntmps193
  go_wp2
  go_ret
  exact ⟨rfl, rfl⟩

set_option maxRecDepth 100000 in
set_option maxHeartbeats 1000000 in
theorem isDone_any (j : Jb) (l b : Nat) (w : World) (h : w.heap[b]? = some (.cells (jbV j l) 225 (0, 0))) :
    Calls Tryz.prog 176 #[.pointer (some ⟨b, 0, none⟩)] w fun e w' => e = .returned (.bool (decide (l = 0))) ∧ w' = w := by
  have h6 : w.cell? ⟨b, 6, none⟩ = some (.int .i64 l) := by rw [blk_cell h]; rfl
  clear h
  go_enter Tryz.func176, Tryz.ntmps176
  go_wp2
  go_ret
  refine ⟨?_, rfl⟩
  have e : ((l : Int) == 0) = decide (l = 0) := by
    by_cases h0 : l = 0
    · simp [h0]
    · rw [decide_eq_false h0, beq_eq_false_iff_ne]
      omega
  rw [e]
  rfl

set_option maxRecDepth 100000 in
set_option maxHeartbeats 2000000 in
theorem hless_any (js : List Jb) (bl left : Nat → Nat) (L : List Nat) (base : Nat) (v : Value) (w : World) (hv : RowJ w base v bl L) (hj : JobsAt js bl left w) (hL : ∀ x ∈ L, x < js.length) (ht : ∀ k, k < js.length → (jk js k).tsk < 1000) (i j : Nat) (hi : i < L.length) (hjl : j < L.length) :
    Calls Tryz.prog 231 #[v, .int .i64 i, .int .i64 j] w fun e w' => e = .returned (.bool (decide (keyJ js (gd L i) < keyJ js (gd L j)))) ∧ w'.heap = w.heap ∧ Frm (fun _ => False) w w' := by
  obtain ⟨g, cap, cur, rfl, hb, hg, hc1, hc2, hc3, hcell⟩ := hv.form (by omega)
  have ci : w.cell? ⟨g, i, none⟩ = some (.pointer (some ⟨bl (gd L i), 0, none⟩)) := by rw [blk_cell hg]; exact hcell i hi
  have cj : w.cell? ⟨g, j, none⟩ = some (.pointer (some ⟨bl (gd L j), 0, none⟩)) := by rw [blk_cell hg]; exact hcell j hjl
  have ki := hL _ (gd_mem hi)
  have kj := hL _ (gd_mem hjl)
  have bi := hj _ ki
  have bj := hj _ kj
  have ti := ht _ ki
  have tj := ht _ kj
  have ai4 : w.cell? ⟨bl (gd L i), 4, none⟩ = some (.int .i64 (jk js (gd L i)).dl) := by rw [blk_cell bi]; rfl
  have aj4 : w.cell? ⟨bl (gd L j), 4, none⟩ = some (.int .i64 (jk js (gd L j)).dl) := by rw [blk_cell bj]; rfl
  have ai2 : w.cell? ⟨bl (gd L i), 2, none⟩ = some (.int .i64 (jk js (gd L i)).tsk) := by rw [blk_cell bi]; rfl
  have aj2 : w.cell? ⟨bl (gd L j), 2, none⟩ = some (.int .i64 (jk js (gd L j)).tsk) := by rw [blk_cell bj]; rfl
  have hkey : Hid (decide (keyJ js (gd L i) < keyJ js (gd L j)) = decide ((jk js (gd L i)).dl < (jk js (gd L j)).dl ∨ ((jk js (gd L i)).dl = (jk js (gd L j)).dl ∧ (jk js (gd L i)).tsk < (jk js (gd L j)).tsk))) := decide_eq_decide.2 (keyJ_lt ti tj)
  rw [hkey.out]
  clear hkey bi bj hj hg hcell hv hL ht ki kj
  generalize bl (gd L i) = bi at *
  generalize bl (gd L j) = bj at *
  generalize jk js (gd L i) = x at *
  generalize jk js (gd L j) = y at *
  have hil : (i : Int) < L.length := by omega
  have hjl' : (j : Int) < L.length := by omega
  generalize L.length = n at *
  by_cases hd : x.dl = y.dl
  · have hd' : ((x.dl : Int) != y.dl) = false := by simp [hd]
    have hz : Hid (decide (x.dl < y.dl ∨ x.dl = y.dl ∧ x.tsk < y.tsk) = decide (x.tsk < y.tsk)) := decide_eq_decide.2 (by omega)
    rw [hz.out]
    clear hz hd
    go_enter Tryz.func231, Tryz.ntmps231
    go_wp2_with fail
    go_quiet (fail)
    go_wp2_with fail
    go_quiet (fail)
    go_wp2_with fail
    go_ret
    exact ⟨rfl, rfl, Frm.sames rfl rfl rfl rfl⟩
  · have hd' : ((x.dl : Int) != y.dl) = true := by simp; omega
    have hz : Hid (decide (x.dl < y.dl ∨ x.dl = y.dl ∧ x.tsk < y.tsk) = decide (x.dl < y.dl)) := decide_eq_decide.2 (by omega)
    rw [hz.out]
    clear hz hd
    go_enter Tryz.func231, Tryz.ntmps231
    go_wp2_with fail
    go_quiet (fail)
    go_wp2_with fail
    go_quiet (fail)
    go_wp2_with fail
    go_ret
    exact ⟨rfl, rfl, Frm.sames rfl rfl rfl rfl⟩

theorem RowJ.set {w : World} {base g cap : Nat} {bl : Nat → Nat} {L : List Nat} (h : RowJ w base (.slice (some ⟨g, 0, none⟩) L.length cap) bl L) {i : Nat} (hi : i < L.length) (k : Nat) : RowJ (w.setCell ⟨g, i, none⟩ (.pointer (some ⟨bl k, 0, none⟩))) base (.slice (some ⟨g, 0, none⟩) L.length cap) bl (L.set i k) := by
  rcases h.2 with ⟨h0, _⟩ | ⟨g', cap', cur, h1, h2, h3, h4, h5, h6, h7⟩
  · simp at h0
  · injection h1 with e1 e2 e3
    injection e1 with e1
    injection e1 with e1
    subst e1 e3
    refine ⟨by simp [ptV], .inr ⟨g, cap, cur.setIfInBounds i (.pointer (some ⟨bl k, 0, none⟩)), by simp, h2, blk_set h3 i _, by simpa using h4, h5, by simpa using h6, ?_⟩⟩
    rw [Array.toList_setIfInBounds, List.length_set, List.take_set, h7]
    simp [ptV, List.map_set]
theorem RowJ.drew {w : World} {base : Nat} {v : Value} {bl : Nat → Nat} {L : List Nat} (h : RowJ w base v bl L) : RowJ w.drew base v bl L := h

set_option maxRecDepth 100000 in
set_option maxHeartbeats 2000000 in
theorem hswap_any (bl : Nat → Nat) (L : List Nat) (base : Nat) (v : Value) (w : World) (hv : RowJ w base v bl L) (i j : Nat) (hi : i < L.length) (hjl : j < L.length) :
    Calls Tryz.prog 232 #[v, .int .i64 i, .int .i64 j] w fun e w' => e = .returned (.tuple #[]) ∧ RowJ w' base v bl (swp L i j) ∧ Frm (fun k => v.ownBlock = some k) w w' := by
  obtain ⟨g, cap, cur, rfl, hb, hg, hc1, hc2, hc3, hcell⟩ := hv.form (by omega)
  have ci : w.cell? ⟨g, i, none⟩ = some (.pointer (some ⟨bl (gd L i), 0, none⟩)) := by rw [blk_cell hg]; exact hcell i hi
  have cj : w.cell? ⟨g, j, none⟩ = some (.pointer (some ⟨bl (gd L j), 0, none⟩)) := by rw [blk_cell hg]; exact hcell j hjl
  have fz := blk_frozen hg
  have H1 : Hid (RowJ ((w.setCell ⟨g, i, none⟩ (.pointer (some ⟨bl (gd L j), 0, none⟩))).setCell ⟨g, j, none⟩ (.pointer (some ⟨bl (gd L i), 0, none⟩))) base (.slice (some ⟨g, 0, none⟩) L.length cap) bl (swp L i j)) := by
    have h1 := hv.set hi (gd L j)
    have h2 := RowJ.set (L := L.set i (gd L j)) (by simpa using h1) (i := j) (by simpa using hjl) (gd L i)
    unfold Hid swp
    simpa using h2
  have H2 : Hid (Frm (fun k => (Value.slice (some ⟨g, 0, none⟩) L.length cap).ownBlock = some k) w ((w.setCell ⟨g, i, none⟩ (.pointer (some ⟨bl (gd L j), 0, none⟩))).setCell ⟨g, j, none⟩ (.pointer (some ⟨bl (gd L i), 0, none⟩)))) := ((Frm.refl _ w).setCell (p := ⟨g, i, none⟩) (by simp [Value.ownBlock]) _).setCell (p := ⟨g, j, none⟩) (by simp [Value.ownBlock]) _
  obtain ⟨X, hX⟩ : ∃ X, (w.setCell ⟨g, i, none⟩ (.pointer (some ⟨bl (gd L j), 0, none⟩))).cell? ⟨g, j, none⟩ = some X := by
    rw [blk_cell (blk_set hg i _)]
    exact ⟨_, Array.getElem?_eq_getElem (by simp; omega)⟩
  have fz2 := blk_frozen (blk_set hg i (.pointer (some ⟨bl (gd L j), 0, none⟩)))
  clear hg hcell hv
  generalize bl (gd L i) = bi at *
  generalize bl (gd L j) = bj at *
  have hil : (i : Int) < L.length := by omega
  have hjl' : (j : Int) < L.length := by omega
  generalize L.length = n at *
  go_enter Tryz.func232, Tryz.ntmps232
  go_wp2_with fail
  go_region
  all_goals
    go_wp2
    go_end0
    exact ⟨rfl, H1.out.drew, H2.out.drew⟩

/-! ### The methods, through the interface -/
theorem load_heap (a : Addr) (v : Value) (w : World) (h : w.cell? a = some v) : (loadVar 219 a).run Tryz.prog w = .ok v w := by
  simp [loadVar, isAgg, run_underlying Tryz.underlying219, h]
theorem wrap_ok (t : TypeId) (a : Addr) (nm : String) (w : World) : (Builtin.ssaWrapNilChk_ #[t] t #[.pointer (some a), strVal "", strVal nm]).run Tryz.prog w = .ok (.pointer (some a)) w := rfl
theorem meth_val {nm : String} {f : Nat} (h1 : ((Tryz.prog.info? 228).bind fun i => (i.methods.find? (fun x => x.name == nm)).map fun m => (m.path.toList.length, m.func)) = some (0, some (f, false))) (a : Addr) (v : Value) (w : World) (n : Nat) (h : w.cell? a = some v) : (method (n + 1) 228 (.pointer (some a)) nm).run Tryz.prog w = .ok (f, v) w := by
  cases hi : Tryz.prog.info? 228 with
  | none => rw [hi] at h1; simp at h1
  | some i =>
    rw [hi] at h1
    cases hm : i.methods.find? (fun x => x.name == nm) with
    | none => simp [hm] at h1
    | some m =>
      simp only [Option.bind_some, hm, Option.map_some, Option.some.injEq, Prod.mk.injEq] at h1
      have hp : m.path = #[] := by
        have := h1.1
        simpa using this
      have hl := load_heap a v w h
      simp [method, typeInfo, hi, hm, hp, h1.2, follow, receiverAt, run_underlying Tryz.underlying228, Place.get, wrap_ok, asAddr, hl]
theorem meth_len (a : Addr) (v : Value) (w : World) (n : Nat) (h : w.cell? a = some v) : (method (n + 1) 228 (.pointer (some a)) "Len").run Tryz.prog w = .ok (193, v) w := meth_val (by kernel_rfl) a v w n h
theorem meth_less (a : Addr) (v : Value) (w : World) (n : Nat) (h : w.cell? a = some v) : (method (n + 1) 228 (.pointer (some a)) "Less").run Tryz.prog w = .ok (231, v) w := meth_val (by kernel_rfl) a v w n h
theorem meth_swap (a : Addr) (v : Value) (w : World) (n : Nat) (h : w.cell? a = some v) : (method (n + 1) 228 (.pointer (some a)) "Swap").run Tryz.prog w = .ok (232, v) w := meth_val (by kernel_rfl) a v w n h
theorem meth_push (a : Addr) (w : World) (n : Nat) : (method (n + 1) 228 (.pointer (some a)) "Push").run Tryz.prog w = .ok (234, .pointer (some a)) w := by kernel_rfl
theorem meth_pop (a : Addr) (w : World) (n : Nat) : (method (n + 1) 228 (.pointer (some a)) "Pop").run Tryz.prog w = .ok (233, .pointer (some a)) w := by kernel_rfl
end Go.Proofs.YtbdffcjganlblaaGreatDoor
