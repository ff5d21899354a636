/-
  Own work. Sorting, pure: merging in place.
-/
import Derived.Test.YtbdffcjganlblaaGreatDoorMPnDtoPnE
import Derived.Test.YtbdffcjganlblaaGreatDoorMDsDtoSoA
namespace Go.Proofs.YtbdffcjganlblaaGreatDoor
set_option linter.unusedVariables false
set_option linter.unusedSimpArgs false

/-! ### Blocks that change places -/
def swrP (L : List Nat) (a b : Nat) : Nat → List Nat
  | 0 => L
  | n + 1 => swp (swrP L a b n) (a + n) (b + n)
theorem swrP_len (L : List Nat) (a b : Nat) : ∀ n, (swrP L a b n).length = L.length
  | 0 => rfl
  | n + 1 => by rw [swrP, swp_len, swrP_len L a b n]
theorem swrP_gd (L : List Nat) (a b : Nat) : ∀ n, a + n ≤ b → b + n ≤ L.length → ∀ q, gd (swrP L a b n) q = if a ≤ q ∧ q < a + n then gd L (q - a + b) else if b ≤ q ∧ q < b + n then gd L (q - b + a) else gd L q
  | 0, _, _, q => by
    rw [swrP, if_neg (by omega), if_neg (by omega)]
  | n + 1, h1, h2, q => by
    have ih := swrP_gd L a b n (by omega) (by omega)
    rw [swrP, gd_swp (by rw [swrP_len]; omega) (by rw [swrP_len]; omega), ih, ih, ih]
    by_cases e1 : q = b + n
    · subst e1
      rw [if_pos rfl, if_neg (by omega), if_neg (by omega), if_neg (by omega), if_pos (by omega)]
      congr 1
      omega
    · rw [if_neg e1]
      by_cases e2 : q = a + n
      · subst e2
        rw [if_pos rfl, if_neg (by omega), if_neg (by omega), if_pos (by omega)]
        congr 1
        omega
      · rw [if_neg e2]
        by_cases e3 : a ≤ q ∧ q < a + n
        · rw [if_pos e3, if_pos (by omega)]
        · rw [if_neg e3, if_neg (show ¬ (a ≤ q ∧ q < a + (n + 1)) by omega)]
          by_cases e4 : b ≤ q ∧ q < b + n
          · rw [if_pos e4, if_pos (by omega)]
          · rw [if_neg e4, if_neg (by omega)]
theorem swrP_mov (L : List Nat) (a b lo hi : Nat) : ∀ n, lo ≤ a → lo ≤ b → a + n ≤ hi → b + n ≤ hi → hi ≤ L.length → Mov L (swrP L a b n) lo hi
  | 0, _, _, _, _, _ => Mov.refl _ _ _
  | n + 1, h1, h2, h3, h4, h5 => (swrP_mov L a b lo hi n h1 h2 (by omega) (by omega) h5).trans (Mov.swp (by omega) (by omega) (by omega) (by omega) (by rw [swrP_len]; exact h5))

/-! ### Two blocks one behind the other, of any lengths -/
/-- What stands where behind the call: what stood from m to b, then what stood from a to m. -/
def tgt (L : List Nat) (a m b q : Nat) : Nat := if a ≤ q ∧ q < a + (b - m) then gd L (q - a + m) else if a + (b - m) ≤ q ∧ q < b then gd L (q - (b - m)) else gd L q
theorem tgt_left {L : List Nat} {m i j : Nat} (hij : j < i) (hj : 0 < j) (him : i ≤ m) (hb : m + j ≤ L.length) (q : Nat) : tgt (swrP L (m - i) m j) (m - (i - j)) m (m + j) q = tgt L (m - i) m (m + j) q := by
  have g := swrP_gd L (m - i) m j (by omega) (by omega)
  unfold tgt
  rw [show m + j - m = j by omega]
  by_cases e1 : m - (i - j) ≤ q ∧ q < m - (i - j) + j
  · rw [if_pos e1, g, if_neg (by omega), if_pos (by omega), if_neg (by omega), if_pos (by omega)]
    congr 1
    omega
  · rw [if_neg e1]
    by_cases e2 : m - (i - j) + j ≤ q ∧ q < m + j
    · rw [if_pos e2, g, if_neg (by omega), if_neg (by omega), if_neg (by omega), if_pos (by omega)]
    · rw [if_neg e2, g]
      by_cases e3 : m - i ≤ q ∧ q < m - i + j
      · rw [if_pos e3, if_pos e3]
      · rw [if_neg e3, if_neg e3, if_neg (by omega), if_neg (by omega)]
theorem tgt_right {L : List Nat} {m i j : Nat} (hij : i < j) (hi : 0 < i) (him : i ≤ m) (hb : m + j ≤ L.length) (q : Nat) : tgt (swrP L (m - i) (m + j - i) i) (m - i) m (m + (j - i)) q = tgt L (m - i) m (m + j) q := by
  have g := swrP_gd L (m - i) (m + j - i) i (by omega) (by omega)
  unfold tgt
  rw [show m + j - m = j by omega, show m + (j - i) - m = j - i by omega]
  by_cases e1 : m - i ≤ q ∧ q < m - i + (j - i)
  · rw [if_pos e1, g, if_neg (by omega), if_neg (by omega), if_pos (by omega)]
  · rw [if_neg e1]
    by_cases e2 : m - i + (j - i) ≤ q ∧ q < m + (j - i)
    · rw [if_pos e2, g, if_pos (by omega), if_pos (by omega)]
      congr 1
      omega
    · rw [if_neg e2, g]
      by_cases e3 : m + j - i ≤ q ∧ q < m + j - i + i
      · rw [if_neg (by omega), if_pos e3, if_neg (by omega), if_pos (by omega)]
        congr 1
        omega
      · rw [if_neg (by omega), if_neg e3, if_neg (by omega), if_neg (by omega)]
theorem tgt_both {L : List Nat} {m i : Nat} (him : i ≤ m) (hb : m + i ≤ L.length) (q : Nat) : gd (swrP L (m - i) m i) q = tgt L (m - i) m (m + i) q := by
  rw [swrP_gd L (m - i) m i (by omega) (by omega)]
  unfold tgt
  rw [show m + i - m = i by omega]
  by_cases e1 : m - i ≤ q ∧ q < m - i + i
  · rw [if_pos e1, if_pos e1]
  · rw [if_neg e1, if_neg e1]
    by_cases e2 : m ≤ q ∧ q < m + i
    · rw [if_pos e2, if_pos (by omega)]
      congr 1
      omega
    · rw [if_neg e2, if_neg (by omega)]

/-! ### One that moves through others -/
def upM (L : List Nat) (k : Nat) : Nat → List Nat
  | 0 => L
  | n + 1 => swp (upM L k n) (k + n) (k + n + 1)
theorem upM_len (L : List Nat) (k : Nat) : ∀ n, (upM L k n).length = L.length
  | 0 => rfl
  | n + 1 => by rw [upM, swp_len, upM_len L k n]
theorem upM_gd (L : List Nat) (k : Nat) : ∀ n, k + n < L.length → ∀ q, gd (upM L k n) q = if k ≤ q ∧ q < k + n then gd L (q + 1) else if q = k + n then gd L k else gd L q
  | 0, _, q => by
    rw [upM, if_neg (by omega)]
    split
    · rename_i h; rw [h]; rfl
    · rfl
  | n + 1, h, q => by
    have ih := upM_gd L k n (by omega)
    rw [upM, gd_swp (by rw [upM_len]; omega) (by rw [upM_len]; omega), ih, ih, ih]
    by_cases e1 : q = k + n + 1
    · subst e1
      rw [if_pos rfl, if_neg (by omega), if_pos rfl, if_neg (by omega), if_pos (by omega)]
    · rw [if_neg e1]
      by_cases e2 : q = k + n
      · subst e2
        rw [if_pos rfl, if_neg (by omega), if_neg (by omega), if_pos (by omega)]
      · rw [if_neg e2]
        by_cases e3 : k ≤ q ∧ q < k + n
        · rw [if_pos e3, if_pos (by omega)]
        · rw [if_neg e3, if_neg e2, if_neg (by omega), if_neg (by omega)]
theorem upM_mov (L : List Nat) (k lo hi : Nat) : ∀ n, lo ≤ k → k + n < hi → hi ≤ L.length → Mov L (upM L k n) lo hi
  | 0, _, _, _ => Mov.refl _ _ _
  | n + 1, h1, h2, h3 => (upM_mov L k lo hi n h1 (by omega) h3).trans (Mov.swp (by omega) (by omega) (by omega) (by omega) (by rw [upM_len]; exact h3))
def dnM (L : List Nat) (k : Nat) : Nat → List Nat
  | 0 => L
  | n + 1 => swp (dnM L k n) (k - n) (k - n - 1)
theorem dnM_len (L : List Nat) (k : Nat) : ∀ n, (dnM L k n).length = L.length
  | 0 => rfl
  | n + 1 => by rw [dnM, swp_len, dnM_len L k n]
theorem dnM_gd (L : List Nat) (k : Nat) (hk : k < L.length) : ∀ n, n ≤ k → ∀ q, gd (dnM L k n) q = if q = k - n then gd L k else if k - n < q ∧ q ≤ k then gd L (q - 1) else gd L q
  | 0, _, q => by
    rw [dnM]
    split
    · rename_i h; rw [h]; rfl
    · rw [if_neg (by omega)]
  | n + 1, h, q => by
    have ih := dnM_gd L k hk n (by omega)
    rw [dnM, gd_swp (by rw [dnM_len]; omega) (by rw [dnM_len]; omega), ih, ih, ih]
    by_cases e1 : q = k - n - 1
    · subst e1
      rw [if_pos rfl, if_pos rfl, if_pos (by omega)]
    · rw [if_neg e1]
      by_cases e2 : q = k - n
      · subst e2
        rw [if_pos rfl, if_neg (by omega), if_neg (by omega), if_neg (by omega), if_pos (by omega)]
      · rw [if_neg e2, if_neg e2]
        by_cases e3 : k - n < q ∧ q ≤ k
        · rw [if_pos e3, if_neg (by omega), if_pos (by omega)]
        · rw [if_neg e3, if_neg (by omega), if_neg (by omega)]
theorem dnM_mov (L : List Nat) (k lo hi : Nat) : ∀ n, lo + n ≤ k → k < hi → hi ≤ L.length → Mov L (dnM L k n) lo hi
  | 0, _, _, _ => Mov.refl _ _ _
  | n + 1, h1, h2, h3 => (dnM_mov L k lo hi n (by omega) h2 h3).trans (Mov.swp (by omega) (by omega) (by omega) (by omega) (by rw [dnM_len]; exact h3))

/-! ### Merging -/
/-- The first alone goes to its place. -/
theorem merge_first {key : Nat → Nat} {L : List Nat} {a b i : Nat} (h : Srt key L (a + 1) b) (hb : b ≤ L.length) (h1 : a + 1 ≤ i) (h2 : i ≤ b) (hlo : ∀ q, a + 1 ≤ q → q < i → key (gd L q) < key (gd L a)) (hhi : ∀ q, i ≤ q → q < b → ¬ key (gd L q) < key (gd L a)) : Srt key (upM L a (i - 1 - a)) a b := by
  have g := upM_gd L a (i - 1 - a) (by omega)
  intro q h3 h4
  rw [g, g]
  by_cases e1 : q + 1 < i - 1
  · rw [if_pos (by omega), if_pos (by omega)]
    exact h (q + 1) (by omega) (by omega)
  · by_cases e2 : q + 1 = i - 1
    · rw [if_pos (by omega), if_neg (by omega), if_pos (by omega)]
      exact Nat.le_of_lt (hlo (q + 1) (by omega) (by omega))
    · rw [if_neg (by omega), if_neg (show ¬ (a ≤ q + 1 ∧ q + 1 < a + (i - 1 - a)) by omega)]
      by_cases e3 : q = i - 1
      · rw [if_pos (by omega), if_neg (by omega)]
        have := hhi (q + 1) (by omega) h4
        omega
      · rw [if_neg (by omega), if_neg (by omega)]
        exact h q (by omega) h4
/-- The last alone goes to its place. -/
theorem merge_last {key : Nat → Nat} {L : List Nat} {a m i : Nat} (h : Srt key L a m) (hb : m < L.length) (h1 : a ≤ i) (h2 : i ≤ m) (hlo : ∀ q, a ≤ q → q < i → ¬ key (gd L m) < key (gd L q)) (hhi : ∀ q, i ≤ q → q < m → key (gd L m) < key (gd L q)) : Srt key (dnM L m (m - i)) a (m + 1) := by
  have g := dnM_gd L m hb (m - i) (by omega)
  intro q h3 h4
  rw [g, g]
  by_cases e1 : q + 1 < i
  · rw [if_neg (by omega), if_neg (by omega), if_neg (by omega), if_neg (by omega)]
    exact h q h3 (by omega)
  · by_cases e2 : q + 1 = i
    · rw [if_neg (by omega), if_neg (by omega), if_pos (by omega)]
      have := hlo q h3 (by omega)
      omega
    · by_cases e3 : q = i
      · rw [if_pos (by omega), if_neg (by omega), if_pos (by omega)]
        have := hhi q (by omega) (by omega)
        rw [Nat.add_sub_cancel]
        omega
      · rw [if_neg (by omega), if_pos (by omega), if_neg (by omega), if_pos (by omega), Nat.add_sub_cancel]
        have := h (q - 1) (by omega) (by omega)
        rw [show q - 1 + 1 = q by omega] at this
        exact this
/-- Each half for itself: behind the change of places the lesser ones stand in the first half. -/
structure Halves (key : Nat → Nat) (L : List Nat) (a s mid e b : Nat) : Prop where
  s1 : Srt key L a s
  s2 : Srt key L s mid
  s3 : Srt key L mid e
  s4 : Srt key L e b
  cross : ∀ i j, a ≤ i → i < mid → mid ≤ j → j < b → key (gd L i) ≤ key (gd L j)
theorem halves {key : Nat → Nat} {L L1 : List Nat} {a m b mid s e lo hi : Nat} (h1 : Srt key L a m) (h2 : Srt key L m b) (ham : a ≤ m) (hmb : m ≤ b) (hb : b ≤ L.length)
    (he : e = mid + m - s) (hs : s ≤ m) (has : a ≤ s) (hsm : s ≤ mid) (heb : e ≤ b) (hlo : (lo = a ∨ lo + b = mid + m)) (hhi : hi = m ∨ hi = mid) (hl : lo ≤ s) (hh : s ≤ hi)
    (hlt : ∀ q, lo ≤ q → q < s → ¬ key (gd L (mid + m - 1 - q)) < key (gd L q)) (hge : ∀ q, s ≤ q → q < hi → key (gd L (mid + m - 1 - q)) < key (gd L q))
    (hg : ∀ q, gd L1 q = tgt L s m e q) : Halves key L1 a s mid e b := by
  have hem : e - m = mid - s := by omega
  have g1 : ∀ q, q < s → gd L1 q = gd L q := fun q hq => by rw [hg]; unfold tgt; rw [if_neg (by omega), if_neg (by omega)]
  have g2 : ∀ q, s ≤ q → q < mid → gd L1 q = gd L (q - s + m) := fun q h3 h4 => by rw [hg]; unfold tgt; rw [if_pos (by omega)]
  have g3 : ∀ q, mid ≤ q → q < e → gd L1 q = gd L (q - (e - m)) := fun q h3 h4 => by rw [hg]; unfold tgt; rw [if_neg (by omega), if_pos (by omega)]
  have g4 : ∀ q, e ≤ q → gd L1 q = gd L q := fun q h3 => by
    rw [hg]
    unfold tgt
    by_cases h5 : m ≤ e
    · rw [if_neg (by omega), if_neg (by omega)]
    · omega
  refine ⟨?_, ?_, ?_, ?_, ?_⟩
  · exact fun i h3 h4 => by rw [g1 i (by omega), g1 (i + 1) h4]; exact h1 i h3 (by omega)
  · exact fun i h3 h4 => by
      rw [g2 i h3 (by omega), g2 (i + 1) (by omega) h4, show i + 1 - s + m = i - s + m + 1 by omega]
      exact h2 _ (by omega) (by omega)
  · exact fun i h3 h4 => by
      rw [g3 i h3 (by omega), g3 (i + 1) (by omega) h4, show i + 1 - (e - m) = i - (e - m) + 1 by omega]
      exact h1 _ (by omega) (by omega)
  · exact fun i h3 h4 => by rw [g4 i h3, g4 (i + 1) (by omega)]; exact h2 i (by omega) h4
  · intro i j hi1 hi2 hj1 hj2
    by_cases hiS : i < s
    · rw [g1 i hiS]
      by_cases hjE : j < e
      · rw [g3 j hj1 hjE]
        exact h1.le hi1 _ (by omega) (by omega)
      · rw [g4 j (by omega)]
        have hls : lo ≤ s - 1 := by
          rcases hlo with h | h
          · omega
          · omega
        have h5 := hlt (s - 1) hls (by omega)
        rw [show mid + m - 1 - (s - 1) = e by omega] at h5
        have h6 := h1.le hi1 (s - 1) (by omega) (by omega)
        have h7 := h2.le (i := e) (by omega) j (by omega) hj2
        omega
    · rw [g2 i (by omega) hi2]
      by_cases hjE : j < e
      · rw [g3 j hj1 hjE]
        have hsh : s < hi := by
          rcases hhi with h | h
          · omega
          · omega
        have h5 := hge s (Nat.le_refl _) hsh
        rw [show mid + m - 1 - s = e - 1 by omega] at h5
        have h6 := h2.le (i := i - s + m) (by omega) (e - 1) (by omega) (by omega)
        have h7 := h1.le has (j - (e - m)) (by omega) (by omega)
        omega
      · rw [g4 j (by omega)]
        exact h2.le (by omega) _ (by omega) hj2
theorem merged {key : Nat → Nat} {L2 L3 : List Nat} {a mid b : Nat} (h1 : Srt key L3 a mid) (h2 : Srt key L3 mid b) (hc : ∀ i j, a ≤ i → i < mid → mid ≤ j → j < b → key (gd L3 i) ≤ key (gd L3 j)) : Srt key L3 a b := fun i h3 h4 => by
  by_cases h5 : i + 1 < mid
  · exact h1 i h3 h5
  · by_cases h6 : i + 1 = mid
    · exact hc i (i + 1) h3 (by omega) (by omega) h4
    · exact h2 i (by omega) h4
/-- Moves within the halves leave the lesser ones in the first. -/
theorem cross_mov {key : Nat → Nat} {L L' : List Nat} {a mid b : Nat} (ham : a ≤ mid) (hmb : mid ≤ b) (hb : b ≤ L.length) (h : Mov L L' a mid ∨ Mov L L' mid b) (hc : ∀ i j, a ≤ i → i < mid → mid ≤ j → j < b → key (gd L i) ≤ key (gd L j)) : ∀ i j, a ≤ i → i < mid → mid ≤ j → j < b → key (gd L' i) ≤ key (gd L' j) := by
  intro i j h1 h2 h3 h4
  rcases h with h | h
  · obtain ⟨i', a1, a2, a3⟩ := h.each ham (by omega) h1 h2
    rw [a3, h.out j (by omega)]
    exact hc i' j a1 a2 h3 h4
  · obtain ⟨j', a1, a2, a3⟩ := h.each hmb hb h3 h4
    rw [a3, h.out i (by omega)]
    exact hc i j' h1 h2 a1 a2
end Go.Proofs.YtbdffcjganlblaaGreatDoor

namespace Go.Proofs.YtbdffcjganlblaaGreatDoor
open Go.RowKit
set_option linter.unusedVariables false
set_option linter.unusedSimpArgs false

set_option maxRecDepth 100000 in
set_option maxHeartbeats 4000000 in
theorem swapRange_any (bl : Nat → Nat) (L : List Nat) (base : Nat) (v : Value) (w : World) (hv : RowJ w base v bl L) (a b n : Nat) (hab : a + n ≤ b) (hb : b + n ≤ L.length) (hn : L.length ≤ 100000) :
    Calls Tryz.prog 212 #[v, .int .i64 a, .int .i64 b, .int .i64 n, cmpF] w fun e w' => e = .returned (.tuple #[]) ∧ RowJ w' base v bl (swrP L a b n) ∧ Frm (fun k => v.ownBlock = some k) w w' := by
  obtain ⟨va, vcap, hvf, _, _⟩ := hv.len
  subst hvf
  have HV := hide hv
  clear hv
  go_enter Tryz.func212, Tryz.ntmps212
  go_wp2_with fail
  go_loopw [10] (fun iv wr => ∃ i : Nat, i ≤ n ∧ iv = .int .i64 i ∧ RowJ wr base (.slice va L.length vcap) bl (swrP L a b i) ∧ Frm (fun k => (Value.slice va L.length vcap).ownBlock = some k) w wr) (fun iv _ => n - (intOf iv).toNat)
  case atStart => exact ⟨0, by omega, rfl, HV.out, Frm.refl _ _⟩
  case round =>
    obtain ⟨i, hi, rfl, hr, hf⟩ := hrel
    by_cases hlt : i < n
    · have hlt' : (i : Int) < n := by omega
      have hl2 := swrP_len L a b i
      obtain ⟨g, cap, cur, hvv, _, hg, hc1, _, _, hcell⟩ := hr.form (by omega)
      injection hvv with e1 e2 e3
      subst e1
      subst e3
      clear e2
      have ca : wr.cell? ⟨g, a + i, none⟩ = some (.pointer (some ⟨bl (gd (swrP L a b i) (a + i)), 0, none⟩)) := by rw [blk_cell hg]; exact hcell _ (by omega)
      have cb : wr.cell? ⟨g, b + i, none⟩ = some (.pointer (some ⟨bl (gd (swrP L a b i) (b + i)), 0, none⟩)) := by rw [blk_cell hg]; exact hcell _ (by omega)
      have fz := blk_frozen hg
      have hX : (wr.setCell ⟨g, a + i, none⟩ (.pointer (some ⟨bl (gd (swrP L a b i) (b + i)), 0, none⟩))).cell? ⟨g, b + i, none⟩ = some (.pointer (some ⟨bl (gd (swrP L a b i) (b + i)), 0, none⟩)) := by
        rw [blk_cell (blk_set hg _ _), Array.getElem?_setIfInBounds, if_neg (by omega)]
        exact hcell _ (by omega)
      have fz2 := blk_frozen (blk_set hg (a + i) (.pointer (some ⟨bl (gd (swrP L a b i) (b + i)), 0, none⟩)))
      have HS : Hid (RowJ ((wr.setCell ⟨g, a + i, none⟩ (.pointer (some ⟨bl (gd (swrP L a b i) (b + i)), 0, none⟩))).setCell ⟨g, b + i, none⟩ (.pointer (some ⟨bl (gd (swrP L a b i) (a + i)), 0, none⟩))) base (.slice (some ⟨g, 0, none⟩) L.length vcap) bl (swrP L a b (i + 1))) := by
        unfold Hid
        rw [swrP]
        generalize swrP L a b i = L2 at *
        have hle : L.length = L2.length := hl2.symm
        rw [hle] at hr ⊢
        have h1 := hr.set (i := a + i) (by omega) (gd L2 (b + i))
        have h2 := RowJ.set (L := L2.set (a + i) (gd L2 (b + i))) (by simpa using h1) (i := b + i) (by simp; omega) (gd L2 (a + i))
        unfold swp
        simpa using h2
      have HF : Hid (Frm (fun k => (Value.slice (some ⟨g, 0, none⟩) L.length vcap).ownBlock = some k) w ((wr.setCell ⟨g, a + i, none⟩ (.pointer (some ⟨bl (gd (swrP L a b i) (b + i)), 0, none⟩))).setCell ⟨g, b + i, none⟩ (.pointer (some ⟨bl (gd (swrP L a b i) (a + i)), 0, none⟩)))) := (hf.setCell (p := ⟨g, a + i, none⟩) (by simp [Value.ownBlock]) _).setCell (p := ⟨g, b + i, none⟩) (by simp [Value.ownBlock]) _
      have ha1 : (a : Int) + i < L.length := by omega
      have hb1 : (b : Int) + i < L.length := by omega
      clear hg hcell hr hf hl2
      generalize bl (gd (swrP L a b i) (a + i)) = pa at *
      generalize bl (gd (swrP L a b i) (b + i)) = pb at *
      go_wp2_with fail
      go_region
      all_goals
        go_wp2_with fail
        go_roundw
        case rel => exact ⟨i + 1, by omega, by go_num, HS.out, ⟨HF.out.os, HF.out.tape, HF.out.output, HF.out.size, HF.out.block⟩⟩
        case measure => simp [intOf]; omega
    · have hlt' : ¬ (i : Int) < n := by omega
      have e : i = n := by omega
      subst e
      have HR := hide hr
      have HF := hide hf
      clear hr hf
      go_wp2_with fail
      go_end0
      exact ⟨rfl, HR.out, HF.out⟩

/-- The row behind a rotation. -/
structure RotOut (bl : Nat → Nat) (L : List Nat) (base : Nat) (v : Value) (a m b : Nat) (L' : List Nat) (w w' : World) : Prop where
  row : RowJ w' base v bl L'
  gd : ∀ q, gd L' q = tgt L a m b q
  mov : Mov L L' a b
  f : Frm (fun k => v.ownBlock = some k) w w'

set_option maxRecDepth 100000 in
set_option maxHeartbeats 8000000 in
theorem rotate_any (bl : Nat → Nat) (L : List Nat) (base : Nat) (v : Value) (w : World) (hv : RowJ w base v bl L) (a m b : Nat) (ham : a < m) (hmb : m < b) (hb : b ≤ L.length) (hn : L.length ≤ 100000) :
    Calls Tryz.prog 210 #[v, .int .i64 a, .int .i64 m, .int .i64 b, cmpF] w fun e w' => e = .returned (.tuple #[]) ∧ ∃ L', RotOut bl L base v a m b L' w w' := by
  have HV := hide hv
  clear hv
  go_enter Tryz.func210, Tryz.ntmps210
  go_wp2_with fail
  go_loopw [10, 11] (fun iv jv wr => ∃ (i j : Nat) (L1 : List Nat), iv = .int .i64 i ∧ jv = .int .i64 j ∧ 0 < i ∧ 0 < j ∧ a + i ≤ m ∧ m + j ≤ b ∧ RowJ wr base v bl L1 ∧ (∀ q, tgt L1 (m - i) m (m + j) q = tgt L a m b q) ∧ Mov L L1 a b ∧ Frm (fun k => v.ownBlock = some k) w wr) (fun iv jv _ => (intOf iv).toNat + (intOf jv).toNat)
  case atStart => exact ⟨m - a, b - m, L, by simp; omega, by simp; omega, by omega, by omega, by omega, by omega, HV.out, (fun q => by rw [show m - (m - a) = a by omega, show m + (b - m) = b by omega]), Mov.refl _ _ _, Frm.refl _ _⟩
  case round =>
    obtain ⟨i, j, L1, rfl, rfl, hi0, hj0, hia, hjb, hr, hg, hm, hf⟩ := hrel
    have hl1 := hm.len
    have HR := hide hr
    have HG := hide hg
    have HM := hide hm
    have HF := hide hf
    clear hr hg hm hf
    have CS : Hid (∀ (x y n : Nat) (X Y N : Int), X = x → Y = y → N = n → x + n ≤ y → y + n ≤ L1.length → Calls Tryz.prog 212 #[v, .int .i64 X, .int .i64 Y, .int .i64 N, cmpF] wr fun e w' => e = .returned (.tuple #[]) ∧ RowJ w' base v bl (swrP L1 x y n) ∧ Frm (fun k => v.ownBlock = some k) wr w') := fun x y n X Y N e1 e2 e3 h1 h2 => by
      subst e1 e2 e3
      exact swapRange_any bl L1 base v wr HR.out x y n h1 h2 (by omega)
    rcases (show i = j ∨ j < i ∨ i < j by omega) with hij | hij | hij
    · subst hij
      have hne : ((i : Int) != (i : Int)) = false := by simp
      go_wp2_with fail
      refine (CS.out (m - i) m i _ _ _ (by omega) rfl rfl (by omega) (by omega)).mono ?_
      rintro e w1 ⟨rfl, hr1, hf1⟩
      have HOut : Hid (RotOut bl L base v a m b (swrP L1 (m - i) m i) w w1) := ⟨hr1, fun q => by rw [tgt_both (by omega) (by omega)]; exact HG.out q, HM.out.trans (swrP_mov L1 (m - i) m a b i (by omega) (by omega) (by omega) (by omega) (by omega)), HF.out.trans hf1⟩
      clear hr1 hf1 CS
      go_wp2_with fail
      go_end0
      exact ⟨rfl, _, HOut.out⟩
    · have hne : ((i : Int) != (j : Int)) = true := by simp; omega
      have hgt : (j : Int) < i := by omega
      go_wp2_with fail
      refine (CS.out (m - i) m j _ _ _ (by omega) rfl rfl (by omega) (by omega)).mono ?_
      rintro e w1 ⟨rfl, hr1, hf1⟩
      have HR1 := hide hr1
      have HG1 : Hid (∀ q, tgt (swrP L1 (m - i) m j) (m - (i - j)) m (m + j) q = tgt L a m b q) := fun q => by rw [tgt_left hij hj0 (by omega) (by omega)]; exact HG.out q
      have HM1 := hide (HM.out.trans (swrP_mov L1 (m - i) m a b j (by omega) (by omega) (by omega) (by omega) (by omega)))
      have HF1 := hide (HF.out.trans hf1)
      clear hr1 hf1 CS HR HG HM HF
      go_wp2_with fail
      go_roundw
      case rel => exact ⟨i - j, j, _, by go_num, rfl, by omega, hj0, by omega, hjb, HR1.out, HG1.out, HM1.out, HF1.out⟩
      case measure => simp [intOf]; omega
    · have hne : ((i : Int) != (j : Int)) = true := by simp; omega
      have hgt : ¬ (j : Int) < i := by omega
      go_wp2_with fail
      refine (CS.out (m - i) (m + j - i) i _ _ _ (by omega) (by omega) rfl (by omega) (by omega)).mono ?_
      rintro e w1 ⟨rfl, hr1, hf1⟩
      have HR1 := hide hr1
      have HG1 : Hid (∀ q, tgt (swrP L1 (m - i) (m + j - i) i) (m - i) m (m + (j - i)) q = tgt L a m b q) := fun q => by rw [tgt_right hij hi0 (by omega) (by omega)]; exact HG.out q
      have HM1 := hide (HM.out.trans (swrP_mov L1 (m - i) (m + j - i) a b i (by omega) (by omega) (by omega) (by omega) (by omega)))
      have HF1 := hide (HF.out.trans hf1)
      clear hr1 hf1 CS HR HG HM HF
      go_wp2_with fail
      go_roundw
      case rel => exact ⟨i, j - i, _, rfl, by go_num, hi0, by omega, hia, by omega, HR1.out, HG1.out, HM1.out, HF1.out⟩
      case measure => simp [intOf]; omega
end Go.Proofs.YtbdffcjganlblaaGreatDoor

namespace Go.Proofs.YtbdffcjganlblaaGreatDoor
open Go.RowKit
set_option linter.unusedVariables false
set_option linter.unusedSimpArgs false

/-- The row behind a merge. -/
structure MrgOut (js : List Jb) (bl : Nat → Nat) (L : List Nat) (base : Nat) (v : Value) (a b : Nat) (L' : List Nat) (w w' : World) : Prop where
  row : RowJ w' base v bl L'
  srt : Srt (relK js) L' a b
  mov : Mov L L' a b
  f : Frm (fun k => v.ownBlock = some k) w w'

set_option maxRecDepth 100000 in
set_option maxHeartbeats 8000000 in
theorem symFirst_any (js : List Jb) (bl left : Nat → Nat) (L : List Nat) (base : Nat) (v : Value) (w : World) (hv : RowJ w base v bl L) (hj : JobsAt js bl left w) (hL : ∀ x ∈ L, x < js.length) (a b : Nat) (hab : a + 1 < b) (hb : b ≤ L.length) (hn : L.length ≤ 100000) (hs : Srt (relK js) L (a + 1) b) :
    Calls Tryz.prog 208 #[v, .int .i64 a, .int .i64 (a + 1 : Nat), .int .i64 b, cmpF] w fun e w' => e = .returned (.tuple #[]) ∧ ∃ L', MrgOut js bl L base v a b L' w w' := by
  obtain ⟨va, vcap, hvf, _, _⟩ := hv.len
  subst hvf
  have HV := hide hv
  have HJ := hide hj
  have HL := hide hL
  have HS := hide hs
  clear hv hj hL hs
  have h1 : (((a + 1 : Nat) : Int) - a == 1) = true := by simp; omega
  go_enter Tryz.func208, Tryz.ntmps208
  go_wp2_with fail
  clear h1
  go_loopw [10, 11] (fun iv jv wr => ∃ i j : Nat, iv = .int .i64 i ∧ jv = .int .i64 j ∧ a + 1 ≤ i ∧ i ≤ j ∧ j ≤ b ∧ wr.heap = w.heap ∧ Frm (fun _ => False) w wr ∧ (∀ q, a + 1 ≤ q → q < i → relK js (gd L q) < relK js (gd L a)) ∧ (∀ q, j ≤ q → q < b → ¬ relK js (gd L q) < relK js (gd L a))) (fun iv jv _ => (intOf jv).toNat - (intOf iv).toNat)
  case atStart => exact ⟨a + 1, b, by go_num, rfl, by omega, by omega, by omega, rfl, Frm.refl _ _, (fun q h1 h2 => by omega), (fun q h1 h2 => by omega)⟩
  case round =>
    obtain ⟨i, j, rfl, rfl, hi1, hij, hjb, hh, hf, hlo, hhi⟩ := hrel
    have Hh := hide hh
    have Hf := hide hf
    have Hlo := hide hlo
    have Hhi := hide hhi
    clear hh hf hlo hhi
    by_cases hlt : i < j
    · have hlt' : (i : Int) < j := by omega
      obtain ⟨h, hh⟩ : ∃ h, h = (i + j) / 2 := ⟨_, rfl⟩
      have eH : ((i : Int) + j) / 2 = (h : Int) := by omega
      have hi2 : i ≤ h := by omega
      have hj2 : h < j := by omega
      have EH := hide eH
      clear eH hh
      obtain ⟨g, cap, cur, hvv, _, hg, hc1, _, _, hcell⟩ := HV.out.form (by omega)
      injection hvv with e1 e2 e3
      subst e1
      subst e3
      clear e2
      have ce : ∀ o, wr.cell? ⟨g, o, none⟩ = w.cell? ⟨g, o, none⟩ := fun o => by simp only [World.cell?, Hh.out]
      have ch : wr.cell? ⟨g, h, none⟩ = some (.pointer (some ⟨bl (gd L h), 0, none⟩)) := by rw [ce, blk_cell hg]; exact hcell h (by omega)
      have ca : wr.cell? ⟨g, a, none⟩ = some (.pointer (some ⟨bl (gd L a), 0, none⟩)) := by rw [ce, blk_cell hg]; exact hcell a (by omega)
      have kh := HL.out _ (gd_mem (L := L) (i := h) (by omega))
      have ka := HL.out _ (gd_mem (L := L) (i := a) (by omega))
      have CQ : Hid (∀ x, Calls Tryz.prog 190 #[.pointer (some ⟨bl (gd L h), 0, none⟩), .pointer (some ⟨bl (gd L a), 0, none⟩)] (wr.drewN x) fun e w' => e = .returned (.int .i64 (cmpI (relK js (gd L h)) (relK js (gd L a)))) ∧ ∃ n, w' = wr.drewN n) := fun x => (relCmp_any js bl left (wr.drewN x) (HJ.out.same Hh.out) _ _ kh ka).mono (fun e w' h => ⟨h.1, by
        obtain ⟨n, hn⟩ := h.2
        exact ⟨x + n, by rw [hn]; exact World.drewN_drewN _ _ _⟩⟩)
      have hcmp := cmpI_lt (relK js (gd L h)) (relK js (gd L a))
      have hh1 : (h : Int) < L.length := by omega
      have ha1 : (a : Int) < L.length := by omega
      by_cases hk : relK js (gd L h) < relK js (gd L a)
      · have hcd : decide (cmpI (relK js (gd L h)) (relK js (gd L a)) < 0) = true := decide_eq_true (hcmp.2 (by omega))
        have Hlo2 : Hid (∀ q, a + 1 ≤ q → q < h + 1 → relK js (gd L q) < relK js (gd L a)) := fun q h1 h2 => Nat.lt_of_le_of_lt (HS.out.le h1 h (by omega) (by omega)) hk
        clear hk hcmp hg hcell ce Hlo
        generalize bl (gd L h) = bh at *
        generalize bl (gd L a) = ba at *
        generalize cmpI (relK js (gd L h)) (relK js (gd L a)) = cc at *
        go_wp2_with fail
        rw [EH.out]
        go_quiet (first | (go_at_call 190; exact CQ.out _))
        go_wp2_with fail
        go_roundw
        case rel => exact ⟨h + 1, j, by go_num, rfl, by omega, by omega, hjb, Hh.out, Hf.out.trans (Frm.sames rfl rfl rfl rfl), Hlo2.out, Hhi.out⟩
        case measure => simp [intOf]; omega
      · have hcd : decide (cmpI (relK js (gd L h)) (relK js (gd L a)) < 0) = false := decide_eq_false (fun h => hk (by have := hcmp.1 h; omega))
        have Hhi2 : Hid (∀ q, h ≤ q → q < b → ¬ relK js (gd L q) < relK js (gd L a)) := fun q h1 h2 h3 => hk (Nat.lt_of_le_of_lt (HS.out.le (i := h) (by omega) q h1 h2) h3)
        clear hk hcmp hg hcell ce Hhi
        generalize bl (gd L h) = bh at *
        generalize bl (gd L a) = ba at *
        generalize cmpI (relK js (gd L h)) (relK js (gd L a)) = cc at *
        go_wp2_with fail
        rw [EH.out]
        go_quiet (first | (go_at_call 190; exact CQ.out _))
        go_wp2_with fail
        go_roundw
        case rel => exact ⟨i, h, rfl, by go_num, hi1, hi2, by omega, Hh.out, Hf.out.trans (Frm.sames rfl rfl rfl rfl), Hlo.out, Hhi2.out⟩
        case measure => simp [intOf]; omega
    · have hlt' : ¬ (i : Int) < j := by omega
      have hje : j = i := by omega
      subst hje
      have hR0 : RowJ wr base (.slice va L.length vcap) bl L := ⟨HV.out.1, by rw [Hh.out]; exact HV.out.2⟩
      have HR0 := hide hR0
      have HFin : Hid (Srt (relK js) (upM L a (j - 1 - a)) a b) := merge_first HS.out hb hi1 hjb Hlo.out Hhi.out
      clear Hlo Hhi hR0
      go_wp2_with fail
      go_loopw [13] (fun kv wr2 => ∃ t : Nat, kv = .int .i64 (a + t : Nat) ∧ a + t + 1 ≤ j ∧ RowJ wr2 base (.slice va L.length vcap) bl (upM L a t) ∧ Frm (fun k => (Value.slice va L.length vcap).ownBlock = some k) w wr2) (fun kv _ => j - (intOf kv).toNat)
      case atStart => exact ⟨0, rfl, by omega, HR0.out, Hf.out.wide (fun k _ hx => hx.elim)⟩
      case round =>
        obtain ⟨t, rfl, ht, hr, hf⟩ := hrel
        by_cases hlt2 : a + t + 1 < j
        · obtain ⟨k, hk⟩ : ∃ k, k = a + t := ⟨_, rfl⟩
          have hl2 := upM_len L a t
          have HS2 : Hid (upM L a (t + 1) = swp (upM L a t) k (k + 1)) := by unfold Hid; rw [hk]; rfl
          have Hk := hide hk
          rw [← hk]
          have hk1 : k + 1 < L.length := by omega
          have hkj : k + 1 < j := by omega
          have hkt : (k : Int) < (j : Int) - 1 := by omega
          clear hk
          generalize upM L a t = L2 at *
          obtain ⟨g, cap, cur, hvv, _, hg, hc1, _, _, hcell⟩ := hr.form (by omega)
          injection hvv with e1 e2 e3
          subst e1
          subst e3
          clear e2
          have ca : wr.cell? ⟨g, k, none⟩ = some (.pointer (some ⟨bl (gd L2 k), 0, none⟩)) := by rw [blk_cell hg]; exact hcell _ (by omega)
          have cb : wr.cell? ⟨g, k + 1, none⟩ = some (.pointer (some ⟨bl (gd L2 (k + 1)), 0, none⟩)) := by rw [blk_cell hg]; exact hcell _ (by omega)
          have fz := blk_frozen hg
          have hX : (wr.setCell ⟨g, k, none⟩ (.pointer (some ⟨bl (gd L2 (k + 1)), 0, none⟩))).cell? ⟨g, k + 1, none⟩ = some (.pointer (some ⟨bl (gd L2 (k + 1)), 0, none⟩)) := by
            rw [blk_cell (blk_set hg _ _), Array.getElem?_setIfInBounds, if_neg (by omega)]
            exact hcell _ (by omega)
          have fz2 := blk_frozen (blk_set hg k (.pointer (some ⟨bl (gd L2 (k + 1)), 0, none⟩)))
          have HS3 : Hid (RowJ ((wr.setCell ⟨g, k, none⟩ (.pointer (some ⟨bl (gd L2 (k + 1)), 0, none⟩))).setCell ⟨g, k + 1, none⟩ (.pointer (some ⟨bl (gd L2 k), 0, none⟩))) base (.slice (some ⟨g, 0, none⟩) L.length vcap) bl (swp L2 k (k + 1))) := by
            unfold Hid
            have hle : L.length = L2.length := hl2.symm
            rw [hle] at hr ⊢
            have h1 := hr.set (i := k) (by omega) (gd L2 (k + 1))
            have h2 := RowJ.set (L := L2.set k (gd L2 (k + 1))) (by simpa using h1) (i := k + 1) (by simp; omega) (gd L2 k)
            unfold swp
            simpa using h2
          have HF3 : Hid (Frm (fun k => (Value.slice (some ⟨g, 0, none⟩) L.length vcap).ownBlock = some k) w ((wr.setCell ⟨g, k, none⟩ (.pointer (some ⟨bl (gd L2 (k + 1)), 0, none⟩))).setCell ⟨g, k + 1, none⟩ (.pointer (some ⟨bl (gd L2 k), 0, none⟩)))) := (hf.setCell (p := ⟨g, k, none⟩) (by simp [Value.ownBlock]) _).setCell (p := ⟨g, k + 1, none⟩) (by simp [Value.ownBlock]) _
          have hb1 : (k : Int) + 1 < L.length := by omega
          have hb2 : (k : Int) < L.length := by omega
          clear hg hcell hr hf hl2 hlt2 ht
          generalize bl (gd L2 k) = pa at *
          generalize bl (gd L2 (k + 1)) = pb at *
          go_wp2_with fail
          go_region
          all_goals
            go_wp2_with fail
            go_roundw
            case rel =>
              have hk := Hk.out
              exact ⟨t + 1, by rw [hk]; go_num, by omega, by rw [HS2.out]; exact HS3.out, ⟨HF3.out.os, HF3.out.tape, HF3.out.output, HF3.out.size, HF3.out.block⟩⟩
            case measure => simp [intOf]; omega
        · have hte : t = j - 1 - a := by omega
          have hlt3 : ¬ ((a + t : Nat) : Int) < (j : Int) - 1 := by omega
          have HOut : Hid (MrgOut js bl L base (.slice va L.length vcap) a b (upM L a t) w wr) := ⟨hr, by rw [hte]; exact HFin.out, upM_mov L a a b t (Nat.le_refl _) (by omega) hb, hf⟩
          clear hr hf hte
          go_wp2_with fail
          refine bodyPost_ret (results_none rfl _ _ _) rfl ?_
          exact ⟨rfl, _, HOut.out⟩

set_option maxRecDepth 100000 in
set_option maxHeartbeats 8000000 in
theorem symLast_any (js : List Jb) (bl left : Nat → Nat) (L : List Nat) (base : Nat) (v : Value) (w : World) (hv : RowJ w base v bl L) (hj : JobsAt js bl left w) (hL : ∀ x ∈ L, x < js.length) (a m : Nat) (ham : a + 1 < m) (hb : m + 1 ≤ L.length) (hn : L.length ≤ 100000) (hs : Srt (relK js) L a m) :
    Calls Tryz.prog 208 #[v, .int .i64 a, .int .i64 m, .int .i64 (m + 1 : Nat), cmpF] w fun e w' => e = .returned (.tuple #[]) ∧ ∃ L', MrgOut js bl L base v a (m + 1) L' w w' := by
  obtain ⟨va, vcap, hvf, _, _⟩ := hv.len
  subst hvf
  have HV := hide hv
  have HJ := hide hj
  have HL := hide hL
  have HS := hide hs
  clear hv hj hL hs
  have h0 : ((m : Int) - a == 1) = false := by simp; omega
  have h1 : (((m + 1 : Nat) : Int) - m == 1) = true := by simp; omega
  go_enter Tryz.func208, Tryz.ntmps208
  go_wp2_with fail
  clear h1 h0
  go_loopw [14, 15] (fun iv jv wr => ∃ i j : Nat, iv = .int .i64 i ∧ jv = .int .i64 j ∧ a ≤ i ∧ i ≤ j ∧ j ≤ m ∧ wr.heap = w.heap ∧ Frm (fun _ => False) w wr ∧ (∀ q, a ≤ q → q < i → ¬ relK js (gd L m) < relK js (gd L q)) ∧ (∀ q, j ≤ q → q < m → relK js (gd L m) < relK js (gd L q))) (fun iv jv _ => (intOf jv).toNat - (intOf iv).toNat)
  case atStart => exact ⟨a, m, rfl, rfl, by omega, by omega, by omega, rfl, Frm.refl _ _, (fun q h1 h2 => by omega), (fun q h1 h2 => by omega)⟩
  case round =>
    obtain ⟨i, j, rfl, rfl, hi1, hij, hjb, hh, hf, hlo, hhi⟩ := hrel
    have Hh := hide hh
    have Hf := hide hf
    have Hlo := hide hlo
    have Hhi := hide hhi
    clear hh hf hlo hhi
    by_cases hlt : i < j
    · have hlt' : (i : Int) < j := by omega
      obtain ⟨h, hh⟩ : ∃ h, h = (i + j) / 2 := ⟨_, rfl⟩
      have eH : ((i : Int) + j) / 2 = (h : Int) := by omega
      have hi2 : i ≤ h := by omega
      have hj2 : h < j := by omega
      have EH := hide eH
      clear eH hh
      obtain ⟨g, cap, cur, hvv, _, hg, hc1, _, _, hcell⟩ := HV.out.form (by omega)
      injection hvv with e1 e2 e3
      subst e1
      subst e3
      clear e2
      have ce : ∀ o, wr.cell? ⟨g, o, none⟩ = w.cell? ⟨g, o, none⟩ := fun o => by simp only [World.cell?, Hh.out]
      have ch : wr.cell? ⟨g, h, none⟩ = some (.pointer (some ⟨bl (gd L h), 0, none⟩)) := by rw [ce, blk_cell hg]; exact hcell h (by omega)
      have ca : wr.cell? ⟨g, m, none⟩ = some (.pointer (some ⟨bl (gd L m), 0, none⟩)) := by rw [ce, blk_cell hg]; exact hcell m (by omega)
      have kh := HL.out _ (gd_mem (L := L) (i := h) (by omega))
      have ka := HL.out _ (gd_mem (L := L) (i := m) (by omega))
      have CQ : Hid (∀ x, Calls Tryz.prog 190 #[.pointer (some ⟨bl (gd L m), 0, none⟩), .pointer (some ⟨bl (gd L h), 0, none⟩)] (wr.drewN x) fun e w' => e = .returned (.int .i64 (cmpI (relK js (gd L m)) (relK js (gd L h)))) ∧ ∃ n, w' = wr.drewN n) := fun x => (relCmp_any js bl left (wr.drewN x) (HJ.out.same Hh.out) _ _ ka kh).mono (fun e w' h => ⟨h.1, by
        obtain ⟨n, hn⟩ := h.2
        exact ⟨x + n, by rw [hn]; exact World.drewN_drewN _ _ _⟩⟩)
      have hcmp := cmpI_lt (relK js (gd L m)) (relK js (gd L h))
      have hh1 : (h : Int) < L.length := by omega
      have ha1 : (m : Int) < L.length := by omega
      by_cases hk : relK js (gd L m) < relK js (gd L h)
      · have hcd : decide (cmpI (relK js (gd L m)) (relK js (gd L h)) < 0) = true := decide_eq_true (hcmp.2 (by omega))
        have Hhi2 : Hid (∀ q, h ≤ q → q < m → relK js (gd L m) < relK js (gd L q)) := fun q h1 h2 => Nat.lt_of_lt_of_le hk (HS.out.le (i := h) (by omega) q h1 h2)
        clear hk hcmp hg hcell ce Hhi
        generalize bl (gd L h) = bh at *
        generalize bl (gd L m) = ba at *
        generalize cmpI (relK js (gd L m)) (relK js (gd L h)) = cc at *
        go_wp2_with fail
        rw [EH.out]
        go_quiet (first | (go_at_call 190; exact CQ.out _))
        go_wp2_with fail
        go_roundw
        case rel => exact ⟨i, h, rfl, by go_num, hi1, hi2, by omega, Hh.out, Hf.out.trans (Frm.sames rfl rfl rfl rfl), Hlo.out, Hhi2.out⟩
        case measure => simp [intOf]; omega
      · have hcd : decide (cmpI (relK js (gd L m)) (relK js (gd L h)) < 0) = false := decide_eq_false (fun h => hk (by have := hcmp.1 h; omega))
        have Hlo2 : Hid (∀ q, a ≤ q → q < h + 1 → ¬ relK js (gd L m) < relK js (gd L q)) := fun q h1 h2 h3 => hk (Nat.lt_of_lt_of_le h3 (HS.out.le h1 h (by omega) (by omega)))
        clear hk hcmp hg hcell ce Hlo
        generalize bl (gd L h) = bh at *
        generalize bl (gd L m) = ba at *
        generalize cmpI (relK js (gd L m)) (relK js (gd L h)) = cc at *
        go_wp2_with fail
        rw [EH.out]
        go_quiet (first | (go_at_call 190; exact CQ.out _))
        go_wp2_with fail
        go_roundw
        case rel => exact ⟨h + 1, j, by go_num, rfl, by omega, by omega, hjb, Hh.out, Hf.out.trans (Frm.sames rfl rfl rfl rfl), Hlo2.out, Hhi.out⟩
        case measure => simp [intOf]; omega
    · have hlt' : ¬ (i : Int) < j := by omega
      have hje : j = i := by omega
      subst hje
      have hR0 : RowJ wr base (.slice va L.length vcap) bl L := ⟨HV.out.1, by rw [Hh.out]; exact HV.out.2⟩
      have HR0 := hide hR0
      have HFin : Hid (Srt (relK js) (dnM L m (m - j)) a (m + 1)) := merge_last HS.out (by omega) hi1 hjb Hlo.out Hhi.out
      clear Hlo Hhi hR0
      go_wp2_with fail
      go_loopw [17] (fun kv wr2 => ∃ t : Nat, kv = .int .i64 (m - t : Nat) ∧ t + j ≤ m ∧ RowJ wr2 base (.slice va L.length vcap) bl (dnM L m t) ∧ Frm (fun k => (Value.slice va L.length vcap).ownBlock = some k) w wr2) (fun kv _ => (intOf kv).toNat)
      case atStart => exact ⟨0, rfl, by omega, HR0.out, Hf.out.wide (fun k _ hx => hx.elim)⟩
      case round =>
        obtain ⟨t, rfl, ht, hr, hf⟩ := hrel
        obtain ⟨k, hk⟩ : ∃ k, k = m - t := ⟨_, rfl⟩
        rw [← hk]
        by_cases hlt2 : j < k
        · have hl2 := dnM_len L m t
          have HS2 : Hid (dnM L m (t + 1) = swp (dnM L m t) k (k - 1)) := by unfold Hid; rw [hk]; rfl
          have Hk := hide hk
          have hk1 : k < L.length := by omega
          have hkt : (j : Int) < (k : Int) := by omega
          have htm : t + 1 + j ≤ m := by omega
          have hmk : (k - 1) = m - (t + 1) := by omega
          have Hmk := hide hmk
          clear hk hmk
          generalize dnM L m t = L2 at *
          obtain ⟨g, cap, cur, hvv, _, hg, hc1, _, _, hcell⟩ := hr.form (by omega)
          injection hvv with e1 e2 e3
          subst e1
          subst e3
          clear e2
          have ca : wr.cell? ⟨g, k, none⟩ = some (.pointer (some ⟨bl (gd L2 k), 0, none⟩)) := by rw [blk_cell hg]; exact hcell _ (by omega)
          have cb : wr.cell? ⟨g, k - 1, none⟩ = some (.pointer (some ⟨bl (gd L2 (k - 1)), 0, none⟩)) := by rw [blk_cell hg]; exact hcell _ (by omega)
          have fz := blk_frozen hg
          have hX : (wr.setCell ⟨g, k, none⟩ (.pointer (some ⟨bl (gd L2 (k - 1)), 0, none⟩))).cell? ⟨g, k - 1, none⟩ = some (.pointer (some ⟨bl (gd L2 (k - 1)), 0, none⟩)) := by
            rw [blk_cell (blk_set hg _ _), Array.getElem?_setIfInBounds, if_neg (by omega)]
            exact hcell _ (by omega)
          have fz2 := blk_frozen (blk_set hg k (.pointer (some ⟨bl (gd L2 (k - 1)), 0, none⟩)))
          have HS3 : Hid (RowJ ((wr.setCell ⟨g, k, none⟩ (.pointer (some ⟨bl (gd L2 (k - 1)), 0, none⟩))).setCell ⟨g, k - 1, none⟩ (.pointer (some ⟨bl (gd L2 k), 0, none⟩))) base (.slice (some ⟨g, 0, none⟩) L.length vcap) bl (swp L2 k (k - 1))) := by
            unfold Hid
            have hle : L.length = L2.length := hl2.symm
            rw [hle] at hr ⊢
            have h1 := hr.set (i := k) (by omega) (gd L2 (k - 1))
            have h2 := RowJ.set (L := L2.set k (gd L2 (k - 1))) (by simpa using h1) (i := k - 1) (by simp; omega) (gd L2 k)
            unfold swp
            simpa using h2
          have HF3 : Hid (Frm (fun k => (Value.slice (some ⟨g, 0, none⟩) L.length vcap).ownBlock = some k) w ((wr.setCell ⟨g, k, none⟩ (.pointer (some ⟨bl (gd L2 (k - 1)), 0, none⟩))).setCell ⟨g, k - 1, none⟩ (.pointer (some ⟨bl (gd L2 k), 0, none⟩)))) := (hf.setCell (p := ⟨g, k, none⟩) (by simp [Value.ownBlock]) _).setCell (p := ⟨g, k - 1, none⟩) (by simp [Value.ownBlock]) _
          have hb1 : (k : Int) - 1 < L.length := by omega
          have hb0 : 0 ≤ (k : Int) - 1 := by omega
          have hb2 : (k : Int) < L.length := by omega
          clear hg hcell hr hf hl2 ht
          generalize bl (gd L2 k) = pa at *
          generalize bl (gd L2 (k - 1)) = pb at *
          go_wp2_with fail
          go_region
          all_goals
            go_wp2_with fail
            go_roundw
            case rel => exact ⟨t + 1, by rw [← Hmk.out]; go_num, htm, by rw [HS2.out]; exact HS3.out, ⟨HF3.out.os, HF3.out.tape, HF3.out.output, HF3.out.size, HF3.out.block⟩⟩
            case measure => simp [intOf]; omega
        · have hte : t = m - j := by omega
          have hlt3 : ¬ (j : Int) < (k : Int) := by omega
          have HOut : Hid (MrgOut js bl L base (.slice va L.length vcap) a (m + 1) (dnM L m t) w wr) := ⟨hr, by rw [hte]; exact HFin.out, dnM_mov L m a (m + 1) t (by omega) (by omega) hb, hf⟩
          clear hr hf hte hk
          go_wp2_with fail
          refine bodyPost_ret (results_none rfl _ _ _) rfl ?_
          exact ⟨rfl, _, HOut.out⟩
end Go.Proofs.YtbdffcjganlblaaGreatDoor
