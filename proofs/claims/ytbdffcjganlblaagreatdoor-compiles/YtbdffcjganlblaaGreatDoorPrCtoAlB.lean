/-
  Own work. The program's run is the document's.
-/
import Derived.Test.YtbdffcjganlblaaGreatDoorPrBtoDsI
import Derived.Test.YtbdffcjganlblaaGreatDoorTbEtoTbF
import Derived.Test.YtbdffcjganlblaaGreatDoorRunFtoRunF
namespace Go.Proofs.YtbdffcjganlblaaGreatDoor
set_option linter.unusedVariables false
set_option linter.unusedSimpArgs false

theorem left_zero {l : List FSl} {cyc fr c p i : Nat} (G : Goes l cyc fr) {x : PZ} (h : PI l fr c p i x) (hi : i < l.length) (h1 : startI l fr i ≤ p) : x.left (numI l i) = 0 ↔ p = startI l fr (jobI l (numI l i)) := by
  have h2 := h.i3 hi
  have h3 := used_lt hi h1 h2
  rw [h.left i hi, ← used_zero G hi h1 h2]
  split
  · rename_i e
    exact ⟨fun _ => e, fun _ => rfl⟩
  · rename_i e
    exact ⟨fun _ => by omega, fun h' => absurd h' e⟩
theorem beg_num {l : List FSl} {cyc fr c p i : Nat} (G : Goes l cyc fr) {x : PZ} (h : PI l fr c p i x) (hi : i < l.length) (h1 : startI l fr i ≤ p) (h0 : x.left (numI l i) = 0) : x.beg = c * cntTo l l.length + numI l i ∧ jobI l (numI l i) = i ∧ p = startI l fr i := by
  have h2 := h.i3 hi
  have e := (left_zero G h hi h1).1 h0
  have e1 : jobI l (numI l i) = i := by
    have := (used_zero G hi h1 h2).2 e
    unfold usedK at this
    exact (had_zero G hi).1 (by omega)
  rw [e1] at e
  refine ⟨?_, e1, e⟩
  rw [h.beg]
  unfold begK
  rw [if_neg (by omega)]
  have := (jobI_num hi).1
  rw [e1] at this
  unfold numI
  rw [this]
  rfl
theorem cnt_next {l : List FSl} {i : Nat} (hi : i < l.length) : cntTo l (i + 1) = cntTo l i + if jobI l (numI l i) = i then 1 else 0 := by
  have h1 := (jobI_num hi).1
  rw [cntTo, h1]
  by_cases h : jobI l (numI l i) = i
  · rw [if_pos h, if_pos (by rw [h])]
  · rw [if_neg h, if_neg (by omega)]
    rfl
theorem setN_same (L : Nat → Nat) (k v : Nat) : setN L k v k = v := by simp [setN]
theorem setN_other {L : Nat → Nat} {k j : Nat} (v : Nat) (h : j ≠ k) : setN L k v j = L j := by simp [setN, h]
def prNow (l : List FSl) (cs : List Int) (k : Nat) (x : PZ) : PZ := if x.left k = 0 then prBegin l cs k x else x
theorem give_left (l : List FSl) (k : Nat) (x : PZ) : (prGive l k x).left = setN x.left k (x.left k - 1) ∧ (prGive l k x).beg = x.beg := by
  unfold prGive
  split <;> exact ⟨rfl, rfl⟩
theorem PI.some {l : List FSl} {cyc fr c p i : Nat} (G : Goes l cyc fr) {x : PZ} (h : PI l fr c p i x) (hi : i < l.length) (h1 : startI l fr i ≤ p) (cs : List Int) :
    atL l fr p = some i ∧ ∃ i', PI l fr c (p + 1) i' (prGive l (numI l i) (prNow l cs (numI l i) x)) ∧ (prGive l (numI l i) (prNow l cs (numI l i) x)).left (numI l i) = budK l (numI l i) - (usedK l fr i p (numI l i) + 1) ∧
      ∀ k, k < l.length → usedK l fr i' (p + 1) (numI l k) = usedK l fr i p (numI l k) + if numI l i = numI l k then 1 else 0 := by
  have h2 := h.i3 hi
  have hlt := used_lt hi h1 h2
  have hlz := left_zero G h hi h1
  have huz := used_zero G hi h1 h2
  have hli := h.left i hi
  obtain ⟨g1, g2⟩ := give_left l (numI l i) (prNow l cs (numI l i) x)
  have hnow : (prNow l cs (numI l i) x).left (numI l i) = budK l (numI l i) - usedK l fr i p (numI l i) := by
    unfold prNow
    by_cases e : x.left (numI l i) = 0
    · rw [if_pos e]
      have := huz.2 (hlz.1 e)
      rw [this]
      exact setN_same _ _ _
    · rw [if_neg e, hli]
      rw [if_neg (fun e2 => e (by rw [hli, if_pos e2]))]
  have hoth : ∀ k, k ≠ numI l i → (prNow l cs (numI l i) x).left k = x.left k := by
    intro k hk
    unfold prNow
    split
    · exact setN_other _ hk
    · rfl
  have hleft : ∀ k, k < l.length → (prGive l (numI l i) (prNow l cs (numI l i) x)).left (numI l k) = if usedK l fr i (p + 1) (numI l k) = 0 then 0 else budK l (numI l k) - usedK l fr i (p + 1) (numI l k) := by
    intro k hk
    rw [g1, used_next hi h1 h2 hk]
    by_cases e : numI l i = numI l k
    · rw [← e, setN_same, hnow, if_pos rfl, if_neg (by omega)]
      omega
    · rw [setN_other _ (fun e2 => e e2.symm), if_neg e, hoth _ (fun e2 => e e2.symm)]
      exact h.left k hk
  have hbeg : (prGive l (numI l i) (prNow l cs (numI l i) x)).beg = c * cntTo l l.length + cntTo l (i + 1) := by
    rw [g2]
    unfold prNow
    by_cases e : x.left (numI l i) = 0
    · obtain ⟨b1, b2, b3⟩ := beg_num G h hi h1 e
      rw [if_pos e]
      show x.beg + 1 = _
      have hb := h.beg
      unfold begK at hb
      rw [if_neg (by omega)] at hb
      rw [hb, cnt_next hi, if_pos b2]
      omega
    · rw [if_neg e, h.beg]
      unfold begK
      by_cases e2 : startI l fr i < p
      · rw [if_pos ⟨hi, e2⟩]
      · rw [if_neg (fun y => e2 y.2), cnt_next hi, if_neg]
        · rfl
        · intro e3
          apply e
          apply hlz.2
          rw [e3]
          omega
  refine ⟨G.atu hi h1 h2, ?_⟩
  have hlast : (prGive l (numI l i) (prNow l cs (numI l i) x)).left (numI l i) = budK l (numI l i) - (usedK l fr i p (numI l i) + 1) := by
    rw [g1, setN_same, hnow]
    omega
  by_cases e : p + 1 < stopI l fr i
  · refine ⟨i, ⟨h.i1, fun k hk => by have := h.i2 k hk; omega, fun _ => e, ?_, hleft⟩, hlast, fun k hk => used_next hi h1 h2 hk⟩
    rw [hbeg]
    unfold begK
    rw [if_pos ⟨hi, by omega⟩]
  · have e1 : p + 1 = stopI l fr i := by omega
    refine ⟨i + 1, ⟨hi, fun k hk => ?_, fun hi' => ?_, ?_, ?_⟩, hlast, fun k hk => by rw [e1, used_end G hi hk, ← e1]; exact used_next hi h1 h2 hk⟩
    · rcases Nat.lt_or_ge k i with h5 | h5
      · have := h.i2 k h5
        omega
      · have : k = i := by omega
        subst this
        omega
    · have := G.next hi'
      have := G.start_fin hi'
      omega
    · rw [hbeg]
      unfold begK
      rw [if_neg]
      rintro ⟨y1, y2⟩
      have := G.next y1
      omega
    · intro k hk
      rw [hleft k hk, e1, used_end G hi hk]
theorem PI.wrap {l : List FSl} {cyc fr c i : Nat} (G : Goes l cyc fr) {x : PZ} (h : PI l fr c cyc i x) : PI l fr (c + 1) 0 0 x := by
  have hi : i = l.length := by
    rcases Nat.lt_or_ge i l.length with h5 | h5
    · have := h.i3 h5
      have := G.fin_cyc h5
      omega
    · have := h.i1
      omega
  subst hi
  refine ⟨Nat.zero_le _, fun k hk => by omega, fun h0 => by have := G.start_fin h0; omega, ?_, ?_⟩
  · have hb := h.beg
    unfold begK at hb
    rw [if_neg (by omega)] at hb
    rw [hb, mul_next]
    unfold begK
    rw [if_neg (by omega)]
    rfl
  · intro k hk
    have := h.left k hk
    have eU : usedK l fr l.length cyc (numI l k) = budK l (numI l k) := by
      unfold usedK
      rw [if_neg (fun y => absurd y.1 (by omega)), Nat.add_zero, hadK_all]
    rw [eU] at this
    have h0 : usedK l fr 0 0 (numI l k) = 0 := by
      unfold usedK
      rw [show hadK l (numI l k) 0 = 0 from rfl, Nat.zero_sub]
      split <;> rfl
    rw [h0, if_pos rfl, this]
    split
    · rfl
    · omega
theorem PI.start (l : List FSl) {cyc fr : Nat} (G : Goes l cyc fr) : PI l fr 0 0 0 ⟨fun _ => 0, fun _ => 0, 0, []⟩ := by
  refine ⟨Nat.zero_le _, fun k hk => by omega, fun h0 => by have := G.start_fin h0; omega, ?_, ?_⟩
  · unfold begK
    rw [if_neg (by omega)]
    simp [cntTo]
  · intro k hk
    have h0 : usedK l fr 0 0 (numI l k) = 0 := by
      unfold usedK
      rw [show hadK l (numI l k) 0 = 0 from rfl, Nat.zero_sub]
      split <;> rfl
    rw [h0, if_pos rfl]

/-- How time goes on. -/
theorem time_next {cyc : Nat} (hc : 1 ≤ cyc) (u : Nat) : (u % cyc + 1 < cyc ∧ (u + 1) % cyc = u % cyc + 1 ∧ (u + 1) / cyc = u / cyc) ∨ (u % cyc + 1 = cyc ∧ (u + 1) % cyc = 0 ∧ (u + 1) / cyc = u / cyc + 1) := by
  have h1 := Nat.mod_lt u (show 0 < cyc by omega)
  have h2 := Nat.div_add_mod u cyc
  by_cases h : u % cyc + 1 < cyc
  · left
    have e : u + 1 = cyc * (u / cyc) + (u % cyc + 1) := by omega
    refine ⟨h, ?_, ?_⟩
    · rw [e, Nat.mul_add_mod, Nat.mod_eq_of_lt h]
    · rw [e, Nat.mul_add_div (by omega), Nat.div_eq_of_lt h]
      rfl
  · right
    have e0 : u % cyc + 1 = cyc := by omega
    have e : u + 1 = cyc * (u / cyc + 1) := by rw [Nat.mul_add]; omega
    refine ⟨e0, ?_, ?_⟩
    · rw [e, Nat.mul_mod_right]
    · rw [e, Nat.mul_div_cancel_left _ (by omega)]
/-- One tick, whichever it is. -/
theorem PI.tick {l : List FSl} {cyc fr c p i : Nat} (G : Goes l cyc fr) {x : PZ} (h : PI l fr c p i x) (cs : List Int) : ∃ i', PI l fr c (p + 1) i' (prTick l cs (unitL l fr p) x) := by
  by_cases hg : i < l.length ∧ startI l fr i ≤ p
  · obtain ⟨a, i', b, _⟩ := PI.some G h hg.1 hg.2 cs
    refine ⟨i', ?_⟩
    unfold unitL
    rw [a]
    exact b
  · obtain ⟨a, b, _⟩ := PI.none G h (fun hi => by omega) (x.out ++ [46])
    refine ⟨i, ?_⟩
    unfold unitL
    rw [a]
    exact b
theorem PI.all {l : List FSl} {cyc fr : Nat} (G : Goes l cyc fr) (cs : List Int) : ∀ u, ∃ i, PI l fr (u / cyc) (u % cyc) i (prT l cyc fr cs u)
  | 0 => ⟨0, by rw [Nat.zero_div, Nat.zero_mod]; exact PI.start l G⟩
  | u + 1 => by
    obtain ⟨i, h⟩ := PI.all G cs u
    obtain ⟨i', h'⟩ := PI.tick G h cs
    rcases time_next G.c1 u with ⟨_, a, b⟩ | ⟨e, a, b⟩
    · rw [a, b]
      exact ⟨i', h'⟩
    · rw [a, b]
      rw [e] at h'
      exact ⟨0, PI.wrap G h'⟩

end Go.Proofs.YtbdffcjganlblaaGreatDoor

namespace Go.Proofs.YtbdffcjganlblaaGreatDoor
set_option linter.unusedVariables false
set_option linter.unusedSimpArgs false

/-! ### Traces without their marks -/
def bareL : List UInt8 → List UInt8
  | [] => []
  | c :: r => if c = 33 then bareL (r.drop 1) else c :: bareL r
termination_by l => l.length
decreasing_by all_goals simp; try omega
theorem bareL_nil : bareL [] = [] := by rw [bareL]
theorem bareL_mark (r : List UInt8) (c : UInt8) : bareL (33 :: c :: r) = bareL r := by rw [bareL]; simp
theorem bareL_one {c : UInt8} (h : c ≠ 33) (r : List UInt8) : bareL (c :: r) = c :: bareL r := by rw [bareL, if_neg h]
/-- No mark stands open at the end. -/
def Shut (a : List UInt8) : Prop := ∀ b, bareL (a ++ b) = bareL a ++ bareL b
theorem shut_nil : Shut [] := fun b => by simp [bareL_nil]
theorem Shut.one {a : List UInt8} (h : Shut a) {c : UInt8} (hc : c ≠ 33) : Shut (a ++ [c]) ∧ bareL (a ++ [c]) = bareL a ++ [c] := by
  have e : bareL (a ++ [c]) = bareL a ++ [c] := by rw [h, bareL_one hc, bareL_nil]
  refine ⟨fun b => ?_, e⟩
  rw [e, List.append_assoc, h, List.append_assoc]
  show bareL a ++ bareL (c :: b) = _
  rw [bareL_one hc]
  rfl
theorem Shut.mark {a : List UInt8} (h : Shut a) (c : UInt8) : Shut (a ++ [33, c]) ∧ bareL (a ++ [33, c]) = bareL a := by
  have e : bareL (a ++ [33, c]) = bareL a := by rw [h, bareL_mark, bareL_nil, List.append_nil]
  refine ⟨fun b => ?_, e⟩
  rw [e, List.append_assoc, h]
  show bareL a ++ bareL (33 :: c :: b) = _
  rw [bareL_mark]

/-! ### Jobs that get all that they have -/
def barU (l : List FSl) (fr p : Nat) : UInt8 := match unitL l fr p with | none => 46 | some k => nmK l k
def barL (l : List FSl) (cyc fr : Nat) : Nat → List UInt8
  | 0 => []
  | u + 1 => barL l cyc fr u ++ [barU l fr (u % cyc)]
structure AI (l : List FSl) (cyc fr : Nat) (e : Nat → Nat) (u : Nat) (x : PZ) : Prop where
  want : ∀ i, i < l.length → 0 < x.left (numI l i) → x.want (numI l i) = x.left (numI l i) + e (numI l i)
  shut : Shut x.out
  bare : bareL x.out = barL l cyc fr u
  bars : (∀ k, e k = 0) → 33 ∉ x.out
theorem setL_same (L : Nat → Int) (k : Nat) (v : Int) : setL L k v k = v := by simp [setL]
theorem setL_other {L : Nat → Int} {k j : Nat} (v : Int) (h : j ≠ k) : setL L k v j = L j := by simp [setL, h]
theorem AI.unit {l : List FSl} {cyc fr c p i u : Nat} (G : Goes l cyc fr) {x : PZ} (h : PI l fr c p i x) (hi : i < l.length) (h1 : startI l fr i ≤ p) (cs : List Int) (e : Nat → Nat)
    (hw : ∀ c i, i < l.length → wantsL cs (c * cntTo l l.length + numI l i) (budK l (numI l i)) = (budK l (numI l i) + e (numI l i) : Nat)) (ha : AI l cyc fr e u x) :
    (∀ k, k < l.length → 0 < (prGive l (numI l i) (prNow l cs (numI l i) x)).left (numI l k) → (prGive l (numI l i) (prNow l cs (numI l i) x)).want (numI l k) = (prGive l (numI l i) (prNow l cs (numI l i) x)).left (numI l k) + e (numI l k)) ∧
    (prGive l (numI l i) (prNow l cs (numI l i) x)).out = x.out ++ [nmK l (numI l i)] ++ if (prGive l (numI l i) (prNow l cs (numI l i) x)).left (numI l i) = 0 ∧ 0 < e (numI l i) then [33, nmK l (numI l i)] else [] := by
  have h2 := h.i3 hi
  have hlt := used_lt hi h1 h2
  have hy : 0 < (prNow l cs (numI l i) x).left (numI l i) ∧ (prNow l cs (numI l i) x).want (numI l i) = (prNow l cs (numI l i) x).left (numI l i) + e (numI l i) ∧ (prNow l cs (numI l i) x).out = x.out ∧
      ∀ k, k ≠ numI l i → (prNow l cs (numI l i) x).left k = x.left k ∧ (prNow l cs (numI l i) x).want k = x.want k := by
    unfold prNow
    by_cases e0 : x.left (numI l i) = 0
    · rw [if_pos e0]
      obtain ⟨b1, _, _⟩ := beg_num G h hi h1 e0
      refine ⟨?_, ?_, rfl, fun k hk => ⟨setN_other _ hk, setL_other _ hk⟩⟩
      · show 0 < setN x.left (numI l i) (budK l (numI l i)) (numI l i)
        rw [setN_same]
        omega
      · show setL x.want (numI l i) (wantsL cs x.beg (budK l (numI l i))) (numI l i) = setN x.left (numI l i) (budK l (numI l i)) (numI l i) + (e (numI l i) : Int)
        rw [setL_same, setN_same, b1, hw c i hi]
        omega
    · rw [if_neg e0]
      exact ⟨by omega, ha.want i hi (by omega), rfl, fun k hk => ⟨rfl, rfl⟩⟩
  generalize prNow l cs (numI l i) x = y at *
  obtain ⟨y1, y2, y3, y4⟩ := hy
  have hne : ¬ y.want (numI l i) = 0 := by omega
  have eG : prGive l (numI l i) y = ⟨setN y.left (numI l i) (y.left (numI l i) - 1), setL y.want (numI l i) (y.want (numI l i) - 1), y.beg, y.out ++ [nmK l (numI l i)] ++ if y.left (numI l i) - 1 = 0 ∧ 0 < y.want (numI l i) - 1 then [33, nmK l (numI l i)] else []⟩ := by
    unfold prGive
    rw [if_neg hne]
  rw [eG]
  refine ⟨fun k hk => ?_, ?_⟩
  · show 0 < setN y.left (numI l i) (y.left (numI l i) - 1) (numI l k) → setL y.want (numI l i) (y.want (numI l i) - 1) (numI l k) = setN y.left (numI l i) (y.left (numI l i) - 1) (numI l k) + (e (numI l k) : Int)
    by_cases e1 : numI l k = numI l i
    · rw [e1, setL_same, setN_same]
      intro _
      omega
    · rw [setL_other _ e1, setN_other _ e1, (y4 _ e1).1, (y4 _ e1).2]
      exact ha.want k hk
  · show y.out ++ [nmK l (numI l i)] ++ (if y.left (numI l i) - 1 = 0 ∧ 0 < y.want (numI l i) - 1 then [33, nmK l (numI l i)] else []) = x.out ++ [nmK l (numI l i)] ++ (if setN y.left (numI l i) (y.left (numI l i) - 1) (numI l i) = 0 ∧ 0 < e (numI l i) then [33, nmK l (numI l i)] else [])
    rw [setN_same, y3]
    congr 1
    have : (y.left (numI l i) - 1 = 0 ∧ 0 < y.want (numI l i) - 1) ↔ (y.left (numI l i) - 1 = 0 ∧ 0 < e (numI l i)) := by omega
    by_cases e1 : y.left (numI l i) - 1 = 0 ∧ 0 < e (numI l i)
    · rw [if_pos e1, if_pos (this.2 e1)]
    · rw [if_neg e1, if_neg (fun z => e1 (this.1 z))]
theorem AI.all {l : List FSl} {cyc fr : Nat} (G : Goes l cyc fr) (cs : List Int) (e : Nat → Nat) (hn : ∀ i, i < l.length → (fsk l i).2.nm ≠ 33)
    (hw : ∀ c i, i < l.length → wantsL cs (c * cntTo l l.length + numI l i) (budK l (numI l i)) = (budK l (numI l i) + e (numI l i) : Nat)) : ∀ u, AI l cyc fr e u (prT l cyc fr cs u)
  | 0 => ⟨fun i _ h => absurd h (by simp [prT]), shut_nil, bareL_nil, fun _ => by simp [prT]⟩
  | u + 1 => by
    have ih := AI.all G cs e hn hw u
    obtain ⟨i, h⟩ := PI.all G cs u
    rw [prT]
    by_cases hg : i < l.length ∧ startI l fr i ≤ u % cyc
    · obtain ⟨hi, h1⟩ := hg
      obtain ⟨a, i', b, hlast, _⟩ := PI.some G h hi h1 cs
      obtain ⟨c1, c2⟩ := AI.unit G h hi h1 cs e hw ih
      have eu : unitL l fr (u % cyc) = some (numI l i) := by unfold unitL; rw [a]; rfl
      have hnm : nmK l (numI l i) ≠ 33 := by rw [nmK_num hi]; exact hn i hi
      have eb : barL l cyc fr (u + 1) = barL l cyc fr u ++ [nmK l (numI l i)] := by
        rw [barL]
        unfold barU
        rw [eu]
      rw [eu]
      show AI l cyc fr e (u + 1) (prGive l (numI l i) (prNow l cs (numI l i) (prT l cyc fr cs u)))
      obtain ⟨s1, s2⟩ := ih.shut.one hnm
      by_cases hz : (prGive l (numI l i) (prNow l cs (numI l i) (prT l cyc fr cs u))).left (numI l i) = 0 ∧ 0 < e (numI l i)
      · rw [if_pos hz] at c2
        obtain ⟨s3, s4⟩ := s1.mark (nmK l (numI l i))
        refine ⟨c1, by rw [c2]; exact s3, by rw [c2, s4, s2, ih.bare, eb], fun h0 => ?_⟩
        have := h0 (numI l i)
        omega
      · rw [if_neg hz, List.append_nil] at c2
        refine ⟨c1, by rw [c2]; exact s1, by rw [c2, s2, ih.bare, eb], fun h0 => ?_⟩
        rw [c2, List.mem_append]
        rintro (h5 | h5)
        · exact ih.bars h0 h5
        · simp at h5
          exact hnm h5.symm
    · obtain ⟨a, b, _⟩ := PI.none G h (fun hi => by omega) ((prT l cyc fr cs u).out ++ [46])
      have eu : unitL l fr (u % cyc) = none := by unfold unitL; rw [a]; rfl
      have eb : barL l cyc fr (u + 1) = barL l cyc fr u ++ [46] := by
        rw [barL]
        unfold barU
        rw [eu]
      rw [eu]
      obtain ⟨s1, s2⟩ := ih.shut.one (show (46 : UInt8) ≠ 33 by decide)
      refine ⟨ih.want, s1, by rw [eb]; show bareL (_ ++ [46]) = _; rw [s2, ih.bare], fun h0 => ?_⟩
      show 33 ∉ (prT l cyc fr cs u).out ++ [46]
      rw [List.mem_append]
      rintro (h5 | h5)
      · exact ih.bars h0 h5
      · simp at h5
end Go.Proofs.YtbdffcjganlblaaGreatDoor

namespace Go.Proofs.YtbdffcjganlblaaGreatDoor
set_option linter.unusedVariables false
set_option linter.unusedSimpArgs false

theorem job_small {t : Tb} (h : Sound t) : ∀ i, i < (flatF 0 t.fs).length → (fsk (flatF 0 t.fs) i).2.job ≤ 9999 ∧ (fsk (flatF 0 t.fs) i).2.bud ≤ 60 ∧ (fsk (flatF 0 t.fs) i).small := by
  intro i hi
  have hm : fsk (flatF 0 t.fs) i ∈ flatF 0 t.fs := by rw [← fsk_eq hi]; exact List.getElem_mem _
  obtain ⟨_, h2, f, hf, hx⟩ := flatF_mem t.fs 0 _ hm
  obtain ⟨_, h3⟩ := h.small f hf
  obtain ⟨a, b, c⟩ := h3 _ hx
  obtain ⟨_, _, _, n2, _⟩ := h.frames
  exact ⟨by omega, c, by unfold FSl.small; omega⟩
theorem flat_len {t : Tb} (h : Sound t) : (flatF 0 t.fs).length ≤ 60 := by
  rw [flatF_len]
  exact h.frames.2.2.2.2
end Go.Proofs.YtbdffcjganlblaaGreatDoor

namespace Go.Proofs.YtbdffcjganlblaaGreatDoor
open Go.RowKit
set_option linter.unusedVariables false
set_option linter.unusedSimpArgs false

end Go.Proofs.YtbdffcjganlblaaGreatDoor
