/-
  Own work. Heaps, pure: rows of numbers, the least key on top.
-/
import Derived.Test.YtbdffcjganlblaaGreatDoorRows
import Derived.WalkKit
import Derived.WalkSpells
import Derived.WalkLawsBesides
namespace Go.Proofs.YtbdffcjganlblaaGreatDoor
set_option linter.unusedVariables false
set_option linter.unusedSimpArgs false

def gd (L : List Nat) (i : Nat) : Nat := L.getD i 0
theorem gd_get {L : List Nat} {i : Nat} (h : i < L.length) : gd L i = L[i] := by simp [gd, List.getD_eq_getElem?_getD, h]
theorem gd_mem {L : List Nat} {i : Nat} (h : i < L.length) : gd L i ∈ L := by rw [gd_get h]; exact List.getElem_mem _
theorem mem_gd {L : List Nat} {x : Nat} (h : x ∈ L) : ∃ i, i < L.length ∧ gd L i = x := by
  obtain ⟨i, hi, e⟩ := List.getElem_of_mem h
  exact ⟨i, hi, by rw [gd_get hi, e]⟩
theorem gd_take {L : List Nat} {i n : Nat} (h : i < n) : gd (L.take n) i = gd L i := by
  simp [gd, List.getD_eq_getElem?_getD, List.getElem?_take, h]
theorem gd_append {L : List Nat} {x i : Nat} (h : i < L.length) : gd (L ++ [x]) i = gd L i := by
  simp [gd, List.getD_eq_getElem?_getD, List.getElem?_append_left h]
def swp (L : List Nat) (i j : Nat) : List Nat := (L.set i (gd L j)).set j (gd L i)
theorem swp_len (L : List Nat) (i j : Nat) : (swp L i j).length = L.length := by simp [swp]
theorem swp_perm {L : List Nat} {i j : Nat} (hi : i < L.length) (hj : j < L.length) : (swp L i j).Perm L := by
  unfold swp
  rw [gd_get hi, gd_get hj]
  exact List.set_set_perm hi hj
theorem gd_swp {L : List Nat} {i j : Nat} (hi : i < L.length) (hj : j < L.length) (k : Nat) : gd (swp L i j) k = if k = j then gd L i else if k = i then gd L j else gd L k := by
  unfold swp
  unfold gd
  simp only [List.getD_eq_getElem?_getD, List.getElem?_set, List.length_set]
  by_cases h1 : j = k
  · subst h1; simp [hj]
  · by_cases h2 : i = k
    · subst h2
      have h3 : ¬ i = j := fun e => h1 e.symm
      simp [hi, h1, h3]
    · have h3 : ¬ k = j := fun e => h1 e.symm
      have h4 : ¬ k = i := fun e => h2 e.symm
      simp [h1, h2, h3, h4]

/-- Each is at least its parent. -/
def Hp (key : Nat → Nat) (L : List Nat) (n : Nat) : Prop := ∀ i, 0 < i → i < n → key (gd L ((i - 1) / 2)) ≤ key (gd L i)
theorem Hp.least {key : Nat → Nat} {L : List Nat} {n : Nat} (h : Hp key L n) : ∀ i, i < n → key (gd L 0) ≤ key (gd L i) := by
  intro i
  induction i using Nat.strongRecOn with
  | _ i ih =>
    intro hi
    by_cases h0 : i = 0
    · subst h0; exact Nat.le_refl _
    · exact Nat.le_trans (ih ((i - 1) / 2) (by omega) (by omega)) (h i (by omega) hi)

def upP (key : Nat → Nat) (L : List Nat) (j : Nat) : List Nat :=
  if h : 0 < j then
    if key (gd L j) < key (gd L ((j - 1) / 2)) then upP key (swp L ((j - 1) / 2) j) ((j - 1) / 2) else L
  else L
termination_by j
decreasing_by omega
theorem upP_zero (key : Nat → Nat) (L : List Nat) : upP key L 0 = L := by rw [upP, dif_neg (by omega)]
theorem upP_stop {key : Nat → Nat} {L : List Nat} {j : Nat} (h : ¬ key (gd L j) < key (gd L ((j - 1) / 2))) : upP key L j = L := by
  rw [upP]
  split <;> rfl
theorem upP_go {key : Nat → Nat} {L : List Nat} {j : Nat} (h0 : 0 < j) (h : key (gd L j) < key (gd L ((j - 1) / 2))) : upP key L j = upP key (swp L ((j - 1) / 2) j) ((j - 1) / 2) := by
  rw [upP, dif_pos h0, if_pos h]
theorem upP_perm (key : Nat → Nat) (j : Nat) : ∀ (L : List Nat), j < L.length → (upP key L j).Perm L := by
  induction j using Nat.strongRecOn with
  | _ j ih =>
    intro L hj
    by_cases h0 : 0 < j
    · by_cases h : key (gd L j) < key (gd L ((j - 1) / 2))
      · rw [upP_go h0 h]
        exact (ih ((j - 1) / 2) (by omega) _ (by rw [swp_len]; omega)).trans (swp_perm (by omega) hj)
      · rw [upP_stop h]
    · rw [show j = 0 by omega, upP_zero]
theorem upP_heap (key : Nat → Nat) (n j : Nat) : ∀ (L : List Nat), L.length = n → j < n → (∀ i, 0 < i → i < n → i ≠ j → key (gd L ((i - 1) / 2)) ≤ key (gd L i)) → (∀ c, 0 < c → c < n → (c - 1) / 2 = j → 0 < j → key (gd L ((j - 1) / 2)) ≤ key (gd L c)) → Hp key (upP key L j) n := by
  induction j using Nat.strongRecOn with
  | _ j ih =>
    intro L hL hj h1 h2
    by_cases h0 : 0 < j
    · by_cases h : key (gd L j) < key (gd L ((j - 1) / 2))
      · rw [upP_go h0 h]
        have hp : (j - 1) / 2 < j := by omega
        generalize hq : (j - 1) / 2 = q at *
        have g := fun k => gd_swp (L := L) (i := q) (j := j) (by omega) (by omega) k
        refine ih q hp _ (by rw [swp_len]; exact hL) (by omega) ?_ ?_
        · intro i hi0 hin hiq
          rw [g, g]
          by_cases e1 : i = j
          · subst e1
            rw [hq, if_neg (by omega), if_pos rfl, if_pos rfl]
            omega
          · rw [if_neg e1, if_neg hiq]
            by_cases e2 : (i - 1) / 2 = j
            · rw [if_pos e2]
              exact h2 i hi0 hin e2 h0
            · rw [if_neg e2]
              by_cases e3 : (i - 1) / 2 = q
              · rw [if_pos e3]
                have := h1 i hi0 hin e1
                rw [e3] at this
                omega
              · rw [if_neg e3]
                exact h1 i hi0 hin e1
        · intro c hc0 hcn hcq hq0
          rw [g, g]
          rw [if_neg (show (q - 1) / 2 ≠ j by omega), if_neg (show (q - 1) / 2 ≠ q by omega)]
          have hqq := h1 q hq0 (by omega) (by omega)
          by_cases e1 : c = j
          · rw [if_pos e1]
            exact hqq
          · rw [if_neg e1, if_neg (show c ≠ q by omega)]
            have := h1 c hc0 hcn e1
            rw [hcq] at this
            omega
      · rw [upP_stop h]
        intro i hi0 hin
        by_cases e : i = j
        · subst e; omega
        · exact h1 i hi0 hin e
    · have e : j = 0 := by omega
      rw [e, upP_zero]
      intro i hi0 hin
      exact h1 i hi0 hin (by omega)
theorem up_push {key : Nat → Nat} {L : List Nat} (h : Hp key L L.length) (x : Nat) : Hp key (upP key (L ++ [x]) L.length) (L.length + 1) ∧ (upP key (L ++ [x]) L.length).Perm (L ++ [x]) := by
  refine ⟨upP_heap key (L.length + 1) L.length (L ++ [x]) (by simp) (by omega) ?_ ?_, upP_perm key _ _ (by simp)⟩
  · intro i hi0 hin hne
    rw [gd_append (by omega), gd_append (by omega)]
    exact h i hi0 (by omega)
  · intro c hc0 hcn hc hL
    omega

/-- The lesser child. -/
def kid (key : Nat → Nat) (L : List Nat) (i n : Nat) : Nat := if 2 * i + 2 < n ∧ key (gd L (2 * i + 2)) < key (gd L (2 * i + 1)) then 2 * i + 2 else 2 * i + 1
theorem kid_cases (key : Nat → Nat) (L : List Nat) (i n : Nat) : kid key L i n = 2 * i + 1 ∨ kid key L i n = 2 * i + 2 := by
  unfold kid; split <;> simp
theorem kid_lt {key : Nat → Nat} {L : List Nat} {i n : Nat} (h : 2 * i + 1 < n) : kid key L i n < n := by
  unfold kid; split <;> omega
theorem kid_least {key : Nat → Nat} {L : List Nat} {i n : Nat} (c : Nat) (hc : c < n) (hp : c = 2 * i + 1 ∨ c = 2 * i + 2) : key (gd L (kid key L i n)) ≤ key (gd L c) := by
  unfold kid
  split
  · rcases hp with rfl | rfl <;> omega
  · rename_i hno
    rcases hp with rfl | rfl
    · omega
    · omega
def dnP (key : Nat → Nat) (L : List Nat) (i n : Nat) : List Nat :=
  if h : 2 * i + 1 < n then
    if key (gd L (kid key L i n)) < key (gd L i) then dnP key (swp L i (kid key L i n)) (kid key L i n) n else L
  else L
termination_by n - i
decreasing_by
  have := kid_lt (key := key) (L := L) h
  rcases kid_cases key L i n with e | e <;> omega
theorem dnP_end {key : Nat → Nat} {L : List Nat} {i n : Nat} (h : ¬ 2 * i + 1 < n) : dnP key L i n = L := by rw [dnP, dif_neg h]
theorem dnP_stop {key : Nat → Nat} {L : List Nat} {i n : Nat} (h : ¬ key (gd L (kid key L i n)) < key (gd L i)) : dnP key L i n = L := by
  rw [dnP]
  split <;> rfl
theorem dnP_go {key : Nat → Nat} {L : List Nat} {i n : Nat} (h0 : 2 * i + 1 < n) (h : key (gd L (kid key L i n)) < key (gd L i)) : dnP key L i n = dnP key (swp L i (kid key L i n)) (kid key L i n) n := by
  rw [dnP, dif_pos h0, if_pos h]
theorem dnP_len (key : Nat → Nat) (n : Nat) (d : Nat) : ∀ (i : Nat) (L : List Nat), n - i ≤ d → (dnP key L i n).length = L.length := by
  induction d with
  | zero =>
    intro i L h
    rw [dnP_end (by omega)]
  | succ d ih =>
    intro i L h
    by_cases h0 : 2 * i + 1 < n
    · by_cases h1 : key (gd L (kid key L i n)) < key (gd L i)
      · rw [dnP_go h0 h1, ih _ _ (by rcases kid_cases key L i n with e | e <;> omega), swp_len]
      · rw [dnP_stop h1]
    · rw [dnP_end h0]
theorem dnP_perm (key : Nat → Nat) (n : Nat) (d : Nat) : ∀ (i : Nat) (L : List Nat), n - i ≤ d → n ≤ L.length → (dnP key L i n).Perm L ∧ ∀ k, n ≤ k → gd (dnP key L i n) k = gd L k := by
  induction d with
  | zero =>
    intro i L h hn
    rw [dnP_end (by omega)]
    exact ⟨List.Perm.refl _, fun _ _ => rfl⟩
  | succ d ih =>
    intro i L h hn
    by_cases h0 : 2 * i + 1 < n
    · by_cases h1 : key (gd L (kid key L i n)) < key (gd L i)
      · have hk := kid_lt (key := key) (L := L) h0
        obtain ⟨a, b⟩ := ih (kid key L i n) (swp L i (kid key L i n)) (by rcases kid_cases key L i n with e | e <;> omega) (by rw [swp_len]; exact hn)
        rw [dnP_go h0 h1]
        refine ⟨a.trans (swp_perm (by omega) (by omega)), fun k hk2 => ?_⟩
        rw [b k hk2, gd_swp (by omega) (by omega), if_neg (by omega), if_neg (by omega)]
      · rw [dnP_stop h1]
        exact ⟨List.Perm.refl _, fun _ _ => rfl⟩
    · rw [dnP_end h0]
      exact ⟨List.Perm.refl _, fun _ _ => rfl⟩
theorem dnP_heap (key : Nat → Nat) (n : Nat) (d : Nat) : ∀ (i : Nat) (L : List Nat), n - i ≤ d → n ≤ L.length → (∀ c, 0 < c → c < n → (c - 1) / 2 ≠ i → key (gd L ((c - 1) / 2)) ≤ key (gd L c)) → (∀ c, 0 < c → c < n → (c - 1) / 2 = i → 0 < i → key (gd L ((i - 1) / 2)) ≤ key (gd L c)) → Hp key (dnP key L i n) n := by
  induction d with
  | zero =>
    intro i L h hn h1 h2
    rw [dnP_end (by omega)]
    intro c hc0 hcn
    exact h1 c hc0 hcn (by omega)
  | succ d ih =>
    intro i L h hn h1 h2
    by_cases h0 : 2 * i + 1 < n
    · have hk := kid_lt (key := key) (L := L) h0
      have hle := fun c hc hp => kid_least (key := key) (L := L) (i := i) (n := n) c hc hp
      have hkc := kid_cases key L i n
      by_cases h3 : key (gd L (kid key L i n)) < key (gd L i)
      · rw [dnP_go h0 h3]
        generalize kid key L i n = q at *
        have g := fun k => gd_swp (L := L) (i := i) (j := q) (by omega) (by omega) k
        refine ih q _ (by omega) (by rw [swp_len]; exact hn) ?_ ?_
        · intro c hc0 hcn hcq
          rw [g, g, if_neg hcq]
          by_cases e1 : c = q
          · rw [if_pos e1, if_pos (by omega)]
            omega
          · rw [if_neg e1]
            by_cases e2 : (c - 1) / 2 = i
            · rw [if_pos e2, if_neg (by omega)]
              exact hle c hcn (by omega)
            · rw [if_neg e2]
              by_cases e3 : c = i
              · rw [if_pos e3]
                have := h2 q (by omega) hk (by omega) (by omega)
                rw [e3]
                exact this
              · rw [if_neg e3]
                exact h1 c hc0 hcn e2
        · intro c hc0 hcn hcq hq0
          rw [g, g, if_neg (show (q - 1) / 2 ≠ q by omega), if_pos (show (q - 1) / 2 = i by omega), if_neg (show c ≠ q by omega), if_neg (show c ≠ i by omega)]
          have := h1 c hc0 hcn (by omega)
          rw [hcq] at this
          exact this
      · rw [dnP_stop h3]
        intro c hc0 hcn
        by_cases e : (c - 1) / 2 = i
        · have := hle c hcn (by omega)
          rw [e]
          omega
        · exact h1 c hc0 hcn e
    · rw [dnP_end h0]
      intro c hc0 hcn
      exact h1 c hc0 hcn (by omega)
/-- The row without the least. -/
def popP (key : Nat → Nat) (L : List Nat) : List Nat := (dnP key (swp L 0 (L.length - 1)) 0 (L.length - 1)).take (L.length - 1)
theorem pop_last {key : Nat → Nat} {L : List Nat} (h0 : 0 < L.length) : gd (dnP key (swp L 0 (L.length - 1)) 0 (L.length - 1)) (L.length - 1) = gd L 0 := by
  rw [(dnP_perm key (L.length - 1) _ 0 (swp L 0 (L.length - 1)) (Nat.le_refl _) (by rw [swp_len]; omega)).2 _ (Nat.le_refl _), gd_swp (by omega) (by omega), if_pos rfl]
theorem pop_ok {key : Nat → Nat} {L : List Nat} (h : Hp key L L.length) (h0 : 0 < L.length) : (∀ x ∈ L, key (gd L 0) ≤ key x) ∧ L.Perm (gd L 0 :: popP key L) ∧ Hp key (popP key L) (popP key L).length ∧ (popP key L).length = L.length - 1 := by
  have hp := dnP_perm key (L.length - 1) _ 0 (swp L 0 (L.length - 1)) (Nat.le_refl _) (by rw [swp_len]; omega)
  have hl : (dnP key (swp L 0 (L.length - 1)) 0 (L.length - 1)).length = L.length := by rw [dnP_len key _ _ 0 _ (Nat.le_refl _), swp_len]
  have hlen : (popP key L).length = L.length - 1 := by unfold popP; rw [List.length_take, hl]; omega
  have hpl := pop_last (key := key) h0
  refine ⟨?_, ?_, ?_, hlen⟩
  · intro x hx
    obtain ⟨i, hi, e⟩ := mem_gd hx
    rw [← e]
    exact h.least i hi
  · have e : (dnP key (swp L 0 (L.length - 1)) 0 (L.length - 1)) = popP key L ++ [gd L 0] := by
      rw [← hpl]
      unfold popP
      generalize dnP key (swp L 0 (L.length - 1)) 0 (L.length - 1) = M at *
      rw [gd_get (by omega)]
      have : M = M.take (L.length - 1 + 1) := by rw [List.take_of_length_le (by omega)]
      conv => lhs; rw [this, List.take_succ_eq_append_getElem (by omega)]
    have h1 : L.Perm (popP key L ++ [gd L 0]) := by
      rw [← e]
      exact (hp.1.trans (swp_perm (by omega) (by omega))).symm
    exact h1.trans (List.perm_append_comm)
  · rw [hlen]
    have hh := dnP_heap key (L.length - 1) _ 0 (swp L 0 (L.length - 1)) (Nat.le_refl _) (by rw [swp_len]; omega) (by
      intro c hc0 hcn hci
      rw [gd_swp (by omega) (by omega), gd_swp (by omega) (by omega), if_neg (by omega), if_neg hci, if_neg (by omega), if_neg (by omega)]
      exact h c hc0 (by omega)) (by intro c _ _ _ h; omega)
    intro i hi0 hin
    unfold popP
    rw [gd_take (by omega), gd_take hin]
    exact hh i hi0 hin
theorem hp_nil (key : Nat → Nat) : Hp key [] 0 := fun i _ h => by omega
end Go.Proofs.YtbdffcjganlblaaGreatDoor

namespace Go.Proofs.YtbdffcjganlblaaGreatDoor
set_option linter.unusedVariables false
set_option linter.unusedSimpArgs false

def blankB (c : Int) : Bool := c == 32 || c == 10
def letterB (c : Int) : Bool := decide (97 ≤ c) && decide (c ≤ 122)
def digitB (c : Int) : Bool := decide (48 ≤ c) && decide (c ≤ 57)
def signB (c : Int) : Bool := c == 44 || c == 59 || c == 58

def lead (P : Int → Bool) : List UInt8 → Nat
  | [] => 0
  | c :: r => if P (c.toNat : Int) then lead P r + 1 else 0

theorem lead_le (P : Int → Bool) : ∀ l, lead P l ≤ l.length
  | [] => Nat.le_refl _
  | c :: r => by
    simp only [lead, List.length_cons]
    have := lead_le P r
    split <;> omega

/-- A string of bytes, out of a list. -/
def bs (l : List UInt8) : ByteArray := ⟨l.toArray⟩
theorem bs_list (s : ByteArray) : bs s.data.toList = s := by cases s; simp [bs]
theorem bs_size (l : List UInt8) : (bs l).size = l.length := by simp [bs, ByteArray.size]
theorem bs_data (l : List UInt8) : (bs l).data.toList = l := by simp [bs]
theorem bs_inj {a b : List UInt8} : bs a = bs b ↔ a = b := by
  constructor
  · intro h; have := congrArg (fun s => s.data.toList) h; simpa [bs] using this
  · intro h; rw [h]
theorem ext_list (s : ByteArray) (a b : Nat) : (s.extract a b).data.toList = (s.data.toList.drop a).take (b - a) := by
  simp [ByteArray.data_extract, List.extract_eq_take_drop]
theorem ext_bs (s : ByteArray) (a b : Nat) : s.extract a b = bs ((s.data.toList.drop a).take (b - a)) := by
  rw [← ext_list, bs_list]

/-- A token: its kind (101 the end, 119 a word, 110 a number, 120 none, else the sign itself), its text, its place. -/
structure PT where
  k : Nat
  tx : List UInt8
  at_ : Nat

def skipB (l : List UInt8) (i : Nat) : Nat := i + lead blankB (l.drop i)

/-- The token that begins at place i. -/
def tokAt (l : List UInt8) (i : Nat) : PT :=
  match l.drop i with
  | [] => ⟨101, [], i⟩
  | c :: r =>
    if signB (c.toNat : Int) then ⟨c.toNat, [c], i⟩
    else if letterB (c.toNat : Int) then ⟨119, (c :: r).take (lead letterB (c :: r)), i⟩
    else if 1 ≤ lead digitB (c :: r) ∧ lead digitB (c :: r) ≤ 4 then ⟨110, (c :: r).take (lead digitB (c :: r)), i⟩
    else ⟨120, [], i⟩

def dval (l : List UInt8) : Nat := l.foldl (fun n c => 10 * n + (c.toNat - 48)) 0

def PT.fin (t : PT) : Bool := t.k == 101 || t.k == 120
def PT.nx (t : PT) : Nat := t.at_ + t.tx.length
def PT.S (t : PT) : List UInt8 := if t.k == 110 then [] else t.tx
def PT.N (t : PT) : Nat := if t.k == 110 then dval t.tx else 0

def nextTok (l : List UInt8) (i : Nat) : PT := tokAt l (skipB l i)

/-- The tokens from place i on, up to the end or what is none. -/
def toks : Nat → List UInt8 → Nat → List PT
  | 0, l, i => [nextTok l i]
  | f + 1, l, i => if (nextTok l i).fin then [nextTok l i] else nextTok l i :: toks f l (nextTok l i).nx

theorem skipB_le (l : List UInt8) (i : Nat) (h : i ≤ l.length) : i ≤ skipB l i ∧ skipB l i ≤ l.length := by
  have := lead_le blankB (l.drop i)
  simp only [skipB, List.length_drop] at *
  omega

theorem tokAt_bound (l : List UInt8) (i : Nat) (h : i ≤ l.length) : (tokAt l i).at_ = i ∧ i + (tokAt l i).tx.length ≤ l.length := by
  have hl : (l.drop i).length = l.length - i := List.length_drop
  unfold tokAt
  split
  · exact ⟨rfl, by simpa using h⟩
  · rename_i c r hd
    have h1 := lead_le letterB (c :: r)
    have h2 := lead_le digitB (c :: r)
    rw [hd] at hl
    simp only [List.length_cons] at hl h1 h2
    split
    · exact ⟨rfl, by simp; omega⟩
    · split
      · exact ⟨rfl, by simp [List.length_take]; omega⟩
      · split
        · exact ⟨rfl, by simp [List.length_take]; omega⟩
        · exact ⟨rfl, by simp; omega⟩

theorem tokAt_long (l : List UInt8) (i : Nat) (h : (tokAt l i).fin = false) : 0 < (tokAt l i).tx.length := by
  revert h
  unfold tokAt
  split
  · intro h; simp [PT.fin] at h
  · rename_i c r hd
    split
    · intro _; simp
    · split
      · rename_i hlt
        intro _
        have : lead letterB (c :: r) = lead letterB r + 1 := by simp [lead, hlt]
        simp [this]
      · split
        · rename_i hd4
          intro _
          simp [List.length_take]
          omega
        · intro h; simp [PT.fin] at h

theorem nextTok_bound (l : List UInt8) (i : Nat) (h : i ≤ l.length) : i ≤ (nextTok l i).at_ ∧ (nextTok l i).nx ≤ l.length ∧ (nextTok l i).at_ ≤ (nextTok l i).nx := by
  have h1 := skipB_le l i h
  have h2 := tokAt_bound l (skipB l i) h1.2
  unfold nextTok PT.nx
  rw [h2.1]
  omega

theorem nextTok_long (l : List UInt8) (i : Nat) (h : (nextTok l i).fin = false) : (nextTok l i).at_ < (nextTok l i).nx := by
  have := tokAt_long l (skipB l i) h
  unfold nextTok PT.nx
  omega

end Go.Proofs.YtbdffcjganlblaaGreatDoor

namespace Go.Proofs.YtbdffcjganlblaaGreatDoor
open Go.RowKit
set_option linter.unusedVariables false
set_option linter.unusedSimpArgs false

theorem hide {p : Prop} (h : p) : Hid p := h
theorem unhide {p : Prop} (h : Hid p) : p := h

set_option maxHeartbeats 400000 in
theorem isBlank_any (c : Int) (w : World) :
    Calls Tryz.prog 161 #[.int .u8 c] w fun e w' => e = .returned (.bool (blankB c)) ∧ w' = w := by
  go_enter Tryz.func161, Tryz.ntmps161
  go_wp2
  all_goals
    go_ret
    refine ⟨?_, rfl⟩
    first | (simp_all [blankB]; done) | (simp_all [blankB]; omega)

set_option maxHeartbeats 400000 in
theorem isLetter_any (c : Int) (w : World) :
    Calls Tryz.prog 106 #[.int .u8 c] w fun e w' => e = .returned (.bool (letterB c)) ∧ w' = w := by
  go_enter Tryz.func106, Tryz.ntmps106
  go_wp2
  all_goals
    go_ret
    refine ⟨?_, rfl⟩
    first | (simp_all [letterB]; done) | (simp_all [letterB]; omega)

set_option maxHeartbeats 400000 in
theorem isDigit_any (c : Int) (w : World) :
    Calls Tryz.prog 162 #[.int .u8 c] w fun e w' => e = .returned (.bool (digitB c)) ∧ w' = w := by
  go_enter Tryz.func162, Tryz.ntmps162
  go_wp2
  all_goals
    go_ret
    refine ⟨?_, rfl⟩
    first | (simp_all [digitB]; done) | (simp_all [digitB]; omega)

set_option maxHeartbeats 400000 in
theorem isSign_any (c : Int) (w : World) :
    Calls Tryz.prog 163 #[.int .u8 c] w fun e w' => e = .returned (.bool (signB c)) ∧ w' = w := by
  go_enter Tryz.func163, Tryz.ntmps163
  go_wp2
  all_goals
    go_ret
    refine ⟨?_, rfl⟩
    first | (simp_all [signB]; done) | (simp_all [signB]; omega)

set_option maxHeartbeats 400000 in
theorem rIsLetter_any (c : Int) (w : World) :
    Calls Tryz.prog 118 #[.int .u8 c] w fun e w' => e = .returned (.bool (letterB c)) ∧ w' = w := by
  go_enter Tryz.func118, Tryz.ntmps118
  go_wp2
  all_goals
    go_ret
    refine ⟨?_, rfl⟩
    first | (simp_all [letterB]; done) | (simp_all [letterB]; omega)

set_option maxHeartbeats 400000 in
theorem rIsDigit_any (c : Int) (w : World) :
    Calls Tryz.prog 119 #[.int .u8 c] w fun e w' => e = .returned (.bool (digitB c)) ∧ w' = w := by
  go_enter Tryz.func119, Tryz.ntmps119
  go_wp2
  all_goals
    go_ret
    refine ⟨?_, rfl⟩
    first | (simp_all [digitB]; done) | (simp_all [digitB]; omega)
end Go.Proofs.YtbdffcjganlblaaGreatDoor

namespace Go.Proofs.YtbdffcjganlblaaGreatDoor
open Go.RowKit
set_option linter.unusedVariables false
set_option linter.unusedSimpArgs false

theorem ret_int {k : IntKind} {a b : Int} (h : a = b) : Ending.returned (.int k a) = .returned (.int k b) := by rw [h]

theorem drop_cons (s : ByteArray) (k : Nat) (h : k < s.size) : s.data.toList.drop k = s[k] :: s.data.toList.drop (k + 1) := by
  rw [List.drop_eq_getElem_cons (by simpa using h)]; rfl

theorem lead_yes (P : Int → Bool) (s : ByteArray) (k : Nat) (h : k < s.size) (hp : P (s[k].toNat : Int) = true) : lead P (s.data.toList.drop k) = lead P (s.data.toList.drop (k + 1)) + 1 := by
  rw [drop_cons s k h, lead, if_pos hp]
theorem lead_no (P : Int → Bool) (s : ByteArray) (k : Nat) (h : k < s.size) (hp : P (s[k].toNat : Int) = false) : lead P (s.data.toList.drop k) = 0 := by
  rw [drop_cons s k h, lead, if_neg (by simp [hp])]
theorem lead_end (P : Int → Bool) (s : ByteArray) (k : Nat) (h : s.size ≤ k) : lead P (s.data.toList.drop k) = 0 := by
  rw [List.drop_of_length_le (by simpa using h), lead]

set_option maxRecDepth 100000 in
set_option maxHeartbeats 400000 in
theorem countBlank_any (s : ByteArray) (w : World) (hs : s.size ≤ 1000) :
    Calls Tryz.prog 160 #[.string s, .func (.func 161) #[] #[]] w fun e w' => e = .returned (.int .i64 (lead blankB s.data.toList)) ∧ w' = w := by
  go_enter Tryz.func160, Tryz.ntmps160
  go_wp2
  go_loop [5] (fun i => ∃ k : Nat, k ≤ s.size ∧ i = .int .i64 k ∧ Hid (lead blankB s.data.toList = k + lead blankB (s.data.toList.drop k))) (fun i => s.size - (intOf i).toNat)
  case atStart => exact ⟨0, Nat.zero_le _, rfl, by simp [Hid]⟩
  case round =>
    obtain ⟨k, hk, rfl, hl⟩ := hrel
    by_cases hlt : k < s.size
    · by_cases hp : blankB (s[k].toNat : Int) = true
      · have hy := hide (lead_yes blankB s k hlt hp)
        go_wp2_with (go_at_call 161; refine (isBlank_any _ _).mono ?_; rintro e w' ⟨rfl, rfl⟩)
        go_round
        case rel => exact ⟨k + 1, by omega, by go_num, by have := hl.out; have := unhide hy; unfold Hid; omega⟩
        case measure => simp [intOf]; omega
      · have hp' : blankB (s[k].toNat : Int) = false := by simpa using hp
        have hy := hide (lead_no blankB s k hlt hp')
        clear hp
        go_wp2_with (go_at_call 161; refine (isBlank_any _ _).mono ?_; rintro e w' ⟨rfl, rfl⟩)
        go_ret
        exact ⟨ret_int (by have := hl.out; have := unhide hy; omega), rfl⟩
    · have hy := hide (lead_end blankB s k (by omega))
      go_wp2
      go_ret
      exact ⟨ret_int (by have := hl.out; have := unhide hy; omega), rfl⟩

set_option maxRecDepth 100000 in
set_option maxHeartbeats 400000 in
theorem countLetter_any (s : ByteArray) (w : World) (hs : s.size ≤ 1000) :
    Calls Tryz.prog 160 #[.string s, .func (.func 106) #[] #[]] w fun e w' => e = .returned (.int .i64 (lead letterB s.data.toList)) ∧ w' = w := by
  go_enter Tryz.func160, Tryz.ntmps160
  go_wp2
  go_loop [5] (fun i => ∃ k : Nat, k ≤ s.size ∧ i = .int .i64 k ∧ Hid (lead letterB s.data.toList = k + lead letterB (s.data.toList.drop k))) (fun i => s.size - (intOf i).toNat)
  case atStart => exact ⟨0, Nat.zero_le _, rfl, by simp [Hid]⟩
  case round =>
    obtain ⟨k, hk, rfl, hl⟩ := hrel
    by_cases hlt : k < s.size
    · by_cases hp : letterB (s[k].toNat : Int) = true
      · have hy := hide (lead_yes letterB s k hlt hp)
        go_wp2_with (go_at_call 106; refine (isLetter_any _ _).mono ?_; rintro e w' ⟨rfl, rfl⟩)
        go_round
        case rel => exact ⟨k + 1, by omega, by go_num, by have := hl.out; have := unhide hy; unfold Hid; omega⟩
        case measure => simp [intOf]; omega
      · have hp' : letterB (s[k].toNat : Int) = false := by simpa using hp
        have hy := hide (lead_no letterB s k hlt hp')
        clear hp
        go_wp2_with (go_at_call 106; refine (isLetter_any _ _).mono ?_; rintro e w' ⟨rfl, rfl⟩)
        go_ret
        exact ⟨ret_int (by have := hl.out; have := unhide hy; omega), rfl⟩
    · have hy := hide (lead_end letterB s k (by omega))
      go_wp2
      go_ret
      exact ⟨ret_int (by have := hl.out; have := unhide hy; omega), rfl⟩

set_option maxRecDepth 100000 in
set_option maxHeartbeats 400000 in
theorem countDigit_any (s : ByteArray) (w : World) (hs : s.size ≤ 1000) :
    Calls Tryz.prog 160 #[.string s, .func (.func 162) #[] #[]] w fun e w' => e = .returned (.int .i64 (lead digitB s.data.toList)) ∧ w' = w := by
  go_enter Tryz.func160, Tryz.ntmps160
  go_wp2
  go_loop [5] (fun i => ∃ k : Nat, k ≤ s.size ∧ i = .int .i64 k ∧ Hid (lead digitB s.data.toList = k + lead digitB (s.data.toList.drop k))) (fun i => s.size - (intOf i).toNat)
  case atStart => exact ⟨0, Nat.zero_le _, rfl, by simp [Hid]⟩
  case round =>
    obtain ⟨k, hk, rfl, hl⟩ := hrel
    by_cases hlt : k < s.size
    · by_cases hp : digitB (s[k].toNat : Int) = true
      · have hy := hide (lead_yes digitB s k hlt hp)
        go_wp2_with (go_at_call 162; refine (isDigit_any _ _).mono ?_; rintro e w' ⟨rfl, rfl⟩)
        go_round
        case rel => exact ⟨k + 1, by omega, by go_num, by have := hl.out; have := unhide hy; unfold Hid; omega⟩
        case measure => simp [intOf]; omega
      · have hp' : digitB (s[k].toNat : Int) = false := by simpa using hp
        have hy := hide (lead_no digitB s k hlt hp')
        clear hp
        go_wp2_with (go_at_call 162; refine (isDigit_any _ _).mono ?_; rintro e w' ⟨rfl, rfl⟩)
        go_ret
        exact ⟨ret_int (by have := hl.out; have := unhide hy; omega), rfl⟩
    · have hy := hide (lead_end digitB s k (by omega))
      go_wp2
      go_ret
      exact ⟨ret_int (by have := hl.out; have := unhide hy; omega), rfl⟩
end Go.Proofs.YtbdffcjganlblaaGreatDoor

namespace Go.Proofs.YtbdffcjganlblaaGreatDoor
open Go.RowKit
set_option linter.unusedVariables false
set_option linter.unusedSimpArgs false

def tokV (t : PT) : Value := .agg #[.int .u8 t.k, .string (bs t.S), .int .i64 t.N, .int .i64 t.at_]

def TokPost (l : List UInt8) (i : Nat) (w : World) (e : Ending) (w' : World) : Prop :=
  ∃ j : Nat, e = .returned (.tuple #[tokV (tokAt l i), .int .i64 j]) ∧ Below w.heap.size w w' ∧ i ≤ j ∧ j ≤ l.length ∧ ((tokAt l i).fin = false → j = (tokAt l i).nx)

theorem tokPost_mk {l : List UInt8} {i : Nat} {w w' : World} {t : PT} (ht : tokAt l i = t) {v : Value} (hv : v = tokV t) {j : Nat} {jv : Int} (hj : jv = j) (hb : Below w.heap.size w w') (h1 : i ≤ j) (h2 : j ≤ l.length) (h3 : t.fin = false → j = t.nx) :
    TokPost l i w (.returned (.tuple #[v, .int .i64 jv])) w' := by
  subst ht hv hj
  exact ⟨j, rfl, hb, h1, h2, h3⟩

theorem below_new (w : World) (o : Obj) : Below w.heap.size w (w.alloc o) := (Below.refl _ _).alloc (Nat.le_refl _) _

theorem tok_end (l : List UInt8) (i : Nat) (h : l.length ≤ i) : tokAt l i = ⟨101, [], i⟩ := by
  unfold tokAt; rw [List.drop_of_length_le h]
theorem tok_sign (s : ByteArray) (i : Nat) (h : i < s.size) (hg : signB (s[i].toNat : Int) = true) : tokAt s.data.toList i = ⟨s[i].toNat, [s[i]], i⟩ := by
  unfold tokAt; rw [drop_cons s i h]; simp only; rw [if_pos hg]
theorem tok_word (s : ByteArray) (i : Nat) (h : i < s.size) (hg : signB (s[i].toNat : Int) = false) (hl : letterB (s[i].toNat : Int) = true) :
    tokAt s.data.toList i = ⟨119, (s.data.toList.drop i).take (lead letterB (s.data.toList.drop i)), i⟩ := by
  unfold tokAt; rw [drop_cons s i h]; simp only; rw [if_neg (by simp [hg]), if_pos hl]
theorem tok_num (s : ByteArray) (i : Nat) (h : i < s.size) (hg : signB (s[i].toNat : Int) = false) (hl : letterB (s[i].toNat : Int) = false) (hd : 1 ≤ lead digitB (s.data.toList.drop i) ∧ lead digitB (s.data.toList.drop i) ≤ 4) :
    tokAt s.data.toList i = ⟨110, (s.data.toList.drop i).take (lead digitB (s.data.toList.drop i)), i⟩ := by
  unfold tokAt; rw [drop_cons s i h] at hd ⊢; simp only; rw [if_neg (by simp [hg]), if_neg (by simp [hl]), if_pos hd]
theorem tok_none (s : ByteArray) (i : Nat) (h : i < s.size) (hg : signB (s[i].toNat : Int) = false) (hl : letterB (s[i].toNat : Int) = false) (hd : ¬ (1 ≤ lead digitB (s.data.toList.drop i) ∧ lead digitB (s.data.toList.drop i) ≤ 4)) :
    tokAt s.data.toList i = ⟨120, [], i⟩ := by
  unfold tokAt; rw [drop_cons s i h] at hd ⊢; simp only; rw [if_neg (by simp [hg]), if_neg (by simp [hl]), if_neg hd]

theorem ext_one (s : ByteArray) (i : Nat) (h : i < s.size) : s.extract i (i + 1) = bs [s[i]] := by
  rw [ext_bs, drop_cons s i h]; simp

theorem dval_snoc (l : List UInt8) (c : UInt8) : dval (l ++ [c]) = 10 * dval l + (c.toNat - 48) := by
  simp [dval]
theorem dval_lt (l : List UInt8) (h : ∀ c ∈ l, c.toNat ≤ 57) : dval l < 10 ^ l.length := by
  have : ∀ r : List UInt8, (∀ c ∈ r, c.toNat ≤ 57) → dval r.reverse < 10 ^ r.length := by
    intro r
    induction r with
    | nil => intro _; simp [dval]
    | cons c r ih =>
      intro hr
      rw [List.reverse_cons, dval_snoc]
      have h1 := ih (fun x hx => hr x (List.mem_cons_of_mem _ hx))
      have h2 := hr c (List.mem_cons_self)
      simp only [List.length_cons, Nat.pow_succ]
      omega
  have := this l.reverse (by simpa using h)
  simpa using this
theorem take_more (s : ByteArray) (i k : Nat) (h1 : i ≤ k) (h2 : k < s.size) : (s.data.toList.drop i).take (k + 1 - i) = (s.data.toList.drop i).take (k - i) ++ [s[k]] := by
  rw [show k + 1 - i = (k - i) + 1 by omega, List.take_succ_eq_append_getElem (by simp; omega)]
  have e : (s.data.toList.drop i)[k - i]'(by simp; omega) = s[k] := by
    rw [List.getElem_drop]
    have h3 : i + (k - i) = k := by omega
    simp only [h3]
    rfl
  rw [e]

set_option maxRecDepth 100000 in
set_option maxHeartbeats 400000 in
theorem rtoken_end (s : ByteArray) (i : Nat) (w : World) (hs : s.size ≤ 800) (hi : i = s.size) :
    Calls Tryz.prog 77 #[.string s, .int .i64 i] w (TokPost s.data.toList i w) := by
  have hn : ¬ (i : Int) < s.size := by omega
  have Ht := hide (tok_end s.data.toList i (by simp [hi]))
  have hi2 : i ≤ s.size := by omega
  clear hi
  go_enter Tryz.func77, Tryz.ntmps77
  go_wp2
  exact bodyPost_ret (v := .tuple #[tokV ⟨101, [], i⟩, .int .i64 i]) (by simp [results, Tryz.results77, go_sem, tokV, PT.S, PT.N, bs]) rfl
    (tokPost_mk Ht.out rfl rfl (below_new _ _) (Nat.le_refl _) (by simpa using hi2) (by simp [PT.fin]))

set_option maxRecDepth 100000 in
set_option maxHeartbeats 400000 in
theorem rtoken_sign (s : ByteArray) (i : Nat) (w : World) (hs : s.size ≤ 800) (hi : i < s.size) (hg : signB (s[i].toNat : Int) = true) :
    Calls Tryz.prog 77 #[.string s, .int .i64 i] w (TokPost s.data.toList i w) := by
  have Ht := hide (tok_sign s i hi hg)
  have He := hide (ext_one s i hi)
  have hq : ((s[i].toNat : Int) = 44 ∨ (s[i].toNat : Int) = 59) ∨ (s[i].toNat : Int) = 58 := by simpa [signB] using hg
  have Hk : Hid (s[i].toNat ≠ 110 ∧ s[i].toNat ≠ 101 ∧ s[i].toNat ≠ 120) := by unfold Hid; omega
  have key : ∀ b1 b2 b3 : Bool, ((s[i].toNat : Int) == 44) = b1 → ((s[i].toNat : Int) == 59) = b2 → ((s[i].toNat : Int) == 58) = b3 → (b1 || b2 || b3) = true → Calls Tryz.prog 77 #[.string s, .int .i64 i] w (TokPost s.data.toList i w) := by
    clear hg hq
    intro b1 b2 b3 h1 h2 h3 h4
    cases b1 <;> cases b2 <;> cases b3 <;> simp at h4 <;> (try clear h4)
    all_goals
      go_enter Tryz.func77, Tryz.ntmps77
      go_wp2
      refine bodyPost_ret (v := .tuple #[tokV ⟨s[i].toNat, [s[i]], i⟩, .int .i64 (i + 1)]) ?_ rfl
        (tokPost_mk Ht.out rfl (j := i + 1) (by omega) (below_new _ _) (by omega) (by simp; omega) (by intro _; simp [PT.nx]))
      have hk := Hk.out
      simp [results, Tryz.results77, go_sem, tokV, PT.S, PT.N, He.out, hk.1]
  refine key _ _ _ rfl rfl rfl ?_
  simpa [signB] using hg

set_option maxRecDepth 100000 in
set_option maxHeartbeats 400000 in
theorem rtoken_word (s : ByteArray) (i : Nat) (w : World) (hs : s.size ≤ 800) (hi : i < s.size) (hg : signB (s[i].toNat : Int) = false) (hl : letterB (s[i].toNat : Int) = true) :
    Calls Tryz.prog 77 #[.string s, .int .i64 i] w (TokPost s.data.toList i w) := by
  have Ht := hide (tok_word s i hi hg hl)
  have hg1 : ((s[i].toNat : Int) == 44) = false := by simp [signB] at hg; simp [hg]
  have hg2 : ((s[i].toNat : Int) == 59) = false := by simp [signB] at hg; simp [hg]
  have hg3 : ((s[i].toNat : Int) == 58) = false := by simp [signB] at hg; simp [hg]
  clear hg
  go_enter Tryz.func77, Tryz.ntmps77
  go_wp2_with (go_at_call 118; refine (rIsLetter_any _ _).mono ?_; rintro e w' ⟨rfl, rfl⟩)
  go_loop [1] (fun t => ∃ k : Nat, i ≤ k ∧ k ≤ s.size ∧ t = .int .i64 k ∧ Hid (lead letterB (s.data.toList.drop i) = (k - i) + lead letterB (s.data.toList.drop k))) (fun t => s.size - (intOf t).toNat)
  case atStart => exact ⟨i, Nat.le_refl _, by omega, rfl, by simp [Hid]⟩
  case round =>
    clear hl
    obtain ⟨k, hk1, hk2, rfl, hld⟩ := hrel
    have hend : lead letterB (s.data.toList.drop k) = 0 → ∀ x : World, Below w.heap.size w x → TokPost s.data.toList i w (.returned (.tuple #[tokV ⟨119, (s.data.toList.drop i).take (k - i), i⟩, .int .i64 k])) x := by
      intro h0 x hx
      have h1 := hld.out
      rw [h0] at h1
      have h2 := Ht.out
      rw [h1] at h2
      simp only [Nat.add_zero] at h2
      exact tokPost_mk h2 rfl (j := k) rfl hx hk1 (by simpa using hk2) (by intro _; simp [PT.nx, List.length_take]; omega)
    have Hend := hide hend
    clear hend
    have he : s.extract i k = bs ((s.data.toList.drop i).take (k - i)) := ext_bs s i k
    have He := hide he
    clear he
    by_cases hlt : k < s.size
    · by_cases hp : letterB (s[k].toNat : Int) = true
      · have hy := hide (lead_yes letterB s k hlt hp)
        go_wp2_with (go_at_call 118; refine (rIsLetter_any _ _).mono ?_; rintro e w' ⟨rfl, rfl⟩)
        go_round
        case rel => exact ⟨k + 1, by omega, by omega, by go_num, by have := hld.out; have := unhide hy; unfold Hid; omega⟩
        case measure => simp [intOf]; omega
      · have hp' : letterB (s[k].toNat : Int) = false := by simpa using hp
        have hy := hide (lead_no letterB s k hlt hp')
        clear hp
        go_wp2_with (go_at_call 118; refine (rIsLetter_any _ _).mono ?_; rintro e w' ⟨rfl, rfl⟩)
        refine bodyPost_ret (v := .tuple #[tokV ⟨119, (s.data.toList.drop i).take (k - i), i⟩, .int .i64 k]) ?_ rfl (Hend.out hy.out _ (below_new _ _))
        simp [results, Tryz.results77, go_sem, tokV, PT.S, PT.N, He.out]
    · have hy := hide (lead_end letterB s k (by omega))
      go_wp2
      refine bodyPost_ret (v := .tuple #[tokV ⟨119, (s.data.toList.drop i).take (k - i), i⟩, .int .i64 k]) ?_ rfl (Hend.out hy.out _ (below_new _ _))
      simp [results, Tryz.results77, go_sem, tokV, PT.S, PT.N, He.out]

theorem mem_lead (P : Int → Bool) : ∀ (l : List UInt8) (n : Nat), n ≤ lead P l → ∀ c ∈ l.take n, P (c.toNat : Int) = true
  | [], n, _, c, h => by simp at h
  | d :: r, 0, _, c, h => by simp at h
  | d :: r, n + 1, hn, c, h => by
    simp only [lead] at hn
    split at hn
    · rename_i hd
      rcases List.mem_cons.1 (by simpa using h) with rfl | h'
      · exact hd
      · exact mem_lead P r n (by omega) c h'
    · omega

set_option maxRecDepth 100000 in
set_option maxHeartbeats 800000 in
theorem rtoken_num (s : ByteArray) (i : Nat) (w : World) (hs : s.size ≤ 800) (hi : i < s.size) (hg : signB (s[i].toNat : Int) = false) (hl : letterB (s[i].toNat : Int) = false) :
    Calls Tryz.prog 77 #[.string s, .int .i64 i] w (TokPost s.data.toList i w) := by
  have Ht := hide (tok_num s i hi hg hl)
  have Hx := hide (tok_none s i hi hg hl)
  have hg1 : ((s[i].toNat : Int) == 44) = false := by simp [signB] at hg; simp [hg]
  have hg2 : ((s[i].toNat : Int) == 59) = false := by simp [signB] at hg; simp [hg]
  have hg3 : ((s[i].toNat : Int) == 58) = false := by simp [signB] at hg; simp [hg]
  clear hg
  go_enter Tryz.func77, Tryz.ntmps77
  go_wp2_with (go_at_call 118; refine (rIsLetter_any _ _).mono ?_; rintro e w' ⟨rfl, rfl⟩)
  go_loop [8, 1] (fun n t => ∃ k d : Nat, i ≤ k ∧ k ≤ s.size ∧ k ≤ i + 5 ∧ t = .int .i64 k ∧ n = .int .i64 d ∧ d < 100000 ∧ Hid (d = dval ((s.data.toList.drop i).take (k - i))) ∧ Hid (lead digitB (s.data.toList.drop i) = (k - i) + lead digitB (s.data.toList.drop k))) (fun _ t => s.size - (intOf t).toNat)
  case atStart => exact ⟨i, 0, Nat.le_refl _, by omega, by omega, rfl, rfl, by omega, by simp [Hid, dval], by simp [Hid]⟩
  case round =>
    clear hl
    obtain ⟨k, d, hk1, hk2, hk3, rfl, rfl, hdl, hdv, hld⟩ := hrel
    have hfin : (lead digitB (s.data.toList.drop k) = 0 ∨ k = i + 5) → ∀ x : World, Below w.heap.size w x →
        (k = i ∨ k = i + 5 → TokPost s.data.toList i w (.returned (.tuple #[tokV ⟨120, [], i⟩, .int .i64 k])) x) ∧
        (¬ k = i → ¬ k = i + 5 → TokPost s.data.toList i w (.returned (.tuple #[.agg #[.int .u8 110, .string (bs []), .int .i64 d, .int .i64 i], .int .i64 k])) x) := by
      intro h0 x hx
      have h1 := hld.out
      constructor
      · intro h2
        have h3 := Hx.out (by omega)
        exact tokPost_mk h3 rfl (j := k) rfl hx hk1 (by simpa using hk2) (by simp [PT.fin])
      · intro h2 h2'
        have h3 := Ht.out (by omega)
        rw [show lead digitB (s.data.toList.drop i) = k - i by omega] at h3
        exact tokPost_mk h3 (by simp [tokV, PT.S, PT.N, hdv.out]) (j := k) rfl hx hk1 (by simpa using hk2) (by intro _; simp [PT.nx, List.length_take]; omega)
    have Hfin := hide hfin
    clear hfin
    by_cases h5 : k = i + 5
    · have hz1 : ((k : Int) == i) = false := by simp; omega
      have hz2 : ¬ ((k : Int) - i < 5) := by omega
      have hz3 : (4 : Int) < (k : Int) - i := by omega
      have H5 := hide h5
      clear h5
      by_cases hlt : k < s.size
      · by_cases hp : digitB (s[k].toNat : Int) = true
        all_goals
          go_wp2_with (go_at_call 119; refine (rIsDigit_any _ _).mono ?_; rintro e w' ⟨rfl, rfl⟩)
          refine bodyPost_ret (v := .tuple #[tokV ⟨120, [], i⟩, .int .i64 k]) ?_ rfl ((Hfin.out (.inr H5.out) _ (below_new _ _)).1 (.inr H5.out))
          simp [results, Tryz.results77, go_sem, tokV, PT.S, PT.N, bs]
      · go_wp2
        refine bodyPost_ret (v := .tuple #[tokV ⟨120, [], i⟩, .int .i64 k]) ?_ rfl ((Hfin.out (.inr H5.out) _ (below_new _ _)).1 (.inr H5.out))
        simp [results, Tryz.results77, go_sem, tokV, PT.S, PT.N, bs]
    · have hk5 : k < i + 5 := by omega
      clear h5
      by_cases hyes : ∃ h : k < s.size, digitB (s[k].toNat : Int) = true
      · obtain ⟨hlt, hp⟩ := hyes
        have hy := hide (lead_yes digitB s k hlt hp)
        have htm := hide (take_more s i k hk1 hlt)
        have hb : (48 : Int) ≤ (s[k].toNat : Int) ∧ (s[k].toNat : Int) ≤ 57 := by simpa [digitB] using hp
        have hdd : Hid (dval ((s.data.toList.drop i).take (k + 1 - i)) = 10 * d + (s[k].toNat - 48)) := by
          unfold Hid; rw [htm.out, dval_snoc, ← hdv.out]
        have hd5 : 10 * d + (s[k].toNat - 48) < 100000 := by
          have h1 := dval_lt ((s.data.toList.drop i).take (k + 1 - i)) (by
            intro c hc
            have := mem_lead digitB (s.data.toList.drop i) (k + 1 - i) (by have := hld.out; have := unhide hy; omega) c hc
            simp [digitB] at this
            omega)
          rw [hdd.out] at h1
          have h2 : ((s.data.toList.drop i).take (k + 1 - i)).length ≤ 5 := by simp; omega
          have h3 : 10 ^ ((s.data.toList.drop i).take (k + 1 - i)).length ≤ 10 ^ 5 := Nat.pow_le_pow_right (by omega) h2
          omega
        obtain ⟨hb1, hb2⟩ := hb
        go_wp2_with (go_at_call 119; refine (rIsDigit_any _ _).mono ?_; rintro e w' ⟨rfl, rfl⟩)
        go_round
        case rel => exact ⟨k + 1, 10 * d + (s[k].toNat - 48), by omega, by omega, by omega, by go_num, by go_num, hd5, by rw [hdd.out]; rfl, by have := hld.out; have := unhide hy; unfold Hid; omega⟩
        case measure => simp [intOf]; omega
      · have h0 : lead digitB (s.data.toList.drop k) = 0 := by
          by_cases hlt : k < s.size
          · exact lead_no digitB s k hlt (by
              cases hq : digitB (s[k].toNat : Int)
              · rfl
              · exact absurd ⟨hlt, hq⟩ hyes)
          · exact lead_end digitB s k (by omega)
        have H0 := hide h0
        clear h0
        have Hk := hide hk5
        by_cases hki : k = i
        · have hz1 : ((k : Int) == i) = true := by simp; omega
          have Hki := hide hki
          clear hki
          by_cases hlt : k < s.size
          · have hp : digitB (s[k].toNat : Int) = false := by
              cases hq : digitB (s[k].toNat : Int)
              · rfl
              · exact absurd ⟨hlt, hq⟩ hyes
            clear hyes
            go_wp2_with (go_at_call 119; refine (rIsDigit_any _ _).mono ?_; rintro e w' ⟨rfl, rfl⟩)
            refine bodyPost_ret (v := .tuple #[tokV ⟨120, [], i⟩, .int .i64 k]) ?_ rfl ((Hfin.out (.inl H0.out) _ (below_new _ _)).1 (.inl Hki.out))
            simp [results, Tryz.results77, go_sem, tokV, PT.S, PT.N, bs]
          · clear hyes
            go_wp2
            refine bodyPost_ret (v := .tuple #[tokV ⟨120, [], i⟩, .int .i64 k]) ?_ rfl ((Hfin.out (.inl H0.out) _ (below_new _ _)).1 (.inl Hki.out))
            simp [results, Tryz.results77, go_sem, tokV, PT.S, PT.N, bs]
        · have hz1 : ((k : Int) == i) = false := by simp; omega
          have hz3 : ¬ (4 : Int) < (k : Int) - i := by omega
          have Hki := hide hki
          clear hki
          by_cases hlt : k < s.size
          · have hp : digitB (s[k].toNat : Int) = false := by
              cases hq : digitB (s[k].toNat : Int)
              · rfl
              · exact absurd ⟨hlt, hq⟩ hyes
            clear hyes
            go_wp2_with (go_at_call 119; refine (rIsDigit_any _ _).mono ?_; rintro e w' ⟨rfl, rfl⟩)
            refine bodyPost_ret (v := .tuple #[.agg #[.int .u8 110, .string (bs []), .int .i64 d, .int .i64 i], .int .i64 k]) ?_ rfl ((Hfin.out (.inl H0.out) _ (below_new _ _)).2 Hki.out (by have := Hk.out; omega))
            simp [results, Tryz.results77, go_sem, bs]
          · clear hyes
            go_wp2
            refine bodyPost_ret (v := .tuple #[.agg #[.int .u8 110, .string (bs []), .int .i64 d, .int .i64 i], .int .i64 k]) ?_ rfl ((Hfin.out (.inl H0.out) _ (below_new _ _)).2 Hki.out (by have := Hk.out; omega))
            simp [results, Tryz.results77, go_sem, bs]

/-- token, at whatever place of the text. -/
theorem rtoken_any (s : ByteArray) (i : Nat) (w : World) (hs : s.size ≤ 800) (hi : i ≤ s.size) :
    Calls Tryz.prog 77 #[.string s, .int .i64 i] w (TokPost s.data.toList i w) := by
  by_cases h1 : i = s.size
  · exact rtoken_end s i w hs h1
  · have h2 : i < s.size := by omega
    cases hg : signB (s[i].toNat : Int)
    · cases hl : letterB (s[i].toNat : Int)
      · exact rtoken_num s i w hs h2 hg hl
      · exact rtoken_word s i w hs h2 hg hl
    · exact rtoken_sign s i w hs h2 hg
end Go.Proofs.YtbdffcjganlblaaGreatDoor
