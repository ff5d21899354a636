/-
  Own work. The program's run is the document's.
-/
import Derived.Test.YtbdffcjganlblaaGreatDoorMRunEtoEdG
import Derived.Test.YtbdffcjganlblaaGreatDoorMProgFtoRefV
import Derived.Test.YtbdffcjganlblaaGreatDoorMRefHtoRefI
import Derived.Deep.DeepCutAuto
namespace Go.Proofs.YtbdffcjganlblaaGreatDoor
set_option linter.unusedVariables false
set_option linter.unusedSimpArgs false

theorem left_zero {l : List FSl} {cyc fr c p i : Nat} (G : Goes l cyc fr) {x : PZ} (h : PI l fr c p i x) (hi : i < l.length) (h1 : startI l fr i ≤ p) : x.left (numI l i) = 0 ↔ p = startI l fr (jobI l (numI l i)) := by
  have h2 := h.i3 hi
  have h3 := used_lt hi h1 h2
  rw [h.left i hi, ← used_zero G hi h1 h2]
  split
  · rename_i e
    exact ⟨fun _ => e, fun _ => rfl⟩
  · rename_i e
    exact ⟨fun _ => by omega, fun h' => absurd h' e⟩
theorem beg_num {l : List FSl} {cyc fr c p i : Nat} (G : Goes l cyc fr) {x : PZ} (h : PI l fr c p i x) (hi : i < l.length) (h1 : startI l fr i ≤ p) (h0 : x.left (numI l i) = 0) : x.beg = c * cntTo l l.length + numI l i ∧ jobI l (numI l i) = i ∧ p = startI l fr i := by
  have h2 := h.i3 hi
  have e := (left_zero G h hi h1).1 h0
  have e1 : jobI l (numI l i) = i := by
    have := (used_zero G hi h1 h2).2 e
    unfold usedK at this
    exact (had_zero G hi).1 (by omega)
  rw [e1] at e
  refine ⟨?_, e1, e⟩
  rw [h.beg]
  unfold begK
  rw [if_neg (by omega)]
  have := (jobI_num hi).1
  rw [e1] at this
  unfold numI
  rw [this]
  rfl
theorem cnt_next {l : List FSl} {i : Nat} (hi : i < l.length) : cntTo l (i + 1) = cntTo l i + if jobI l (numI l i) = i then 1 else 0 := by
  have h1 := (jobI_num hi).1
  rw [cntTo, h1]
  by_cases h : jobI l (numI l i) = i
  · rw [if_pos h, if_pos (by rw [h])]
  · rw [if_neg h, if_neg (by omega)]
    rfl
theorem setN_same (L : Nat → Nat) (k v : Nat) : setN L k v k = v := by simp [setN]
theorem setN_other {L : Nat → Nat} {k j : Nat} (v : Nat) (h : j ≠ k) : setN L k v j = L j := by simp [setN, h]
def prNow (l : List FSl) (cs : List Int) (k : Nat) (x : PZ) : PZ := if x.left k = 0 then prBegin l cs k x else x
theorem give_left (l : List FSl) (k : Nat) (x : PZ) : (prGive l k x).left = setN x.left k (x.left k - 1) ∧ (prGive l k x).beg = x.beg := by
  unfold prGive
  split <;> exact ⟨rfl, rfl⟩
theorem PI.some {l : List FSl} {cyc fr c p i : Nat} (G : Goes l cyc fr) {x : PZ} (h : PI l fr c p i x) (hi : i < l.length) (h1 : startI l fr i ≤ p) (cs : List Int) :
    atL l fr p = some i ∧ ∃ i', PI l fr c (p + 1) i' (prGive l (numI l i) (prNow l cs (numI l i) x)) ∧ (prGive l (numI l i) (prNow l cs (numI l i) x)).left (numI l i) = budK l (numI l i) - (usedK l fr i p (numI l i) + 1) ∧
      ∀ k, k < l.length → usedK l fr i' (p + 1) (numI l k) = usedK l fr i p (numI l k) + if numI l i = numI l k then 1 else 0 := by
  have h2 := h.i3 hi
  have hlt := used_lt hi h1 h2
  have hlz := left_zero G h hi h1
  have huz := used_zero G hi h1 h2
  have hli := h.left i hi
  obtain ⟨g1, g2⟩ := give_left l (numI l i) (prNow l cs (numI l i) x)
  have hnow : (prNow l cs (numI l i) x).left (numI l i) = budK l (numI l i) - usedK l fr i p (numI l i) := by
    unfold prNow
    by_cases e : x.left (numI l i) = 0
    · rw [if_pos e]
      have := huz.2 (hlz.1 e)
      rw [this]
      exact setN_same _ _ _
    · rw [if_neg e, hli]
      rw [if_neg (fun e2 => e (by rw [hli, if_pos e2]))]
  have hoth : ∀ k, k ≠ numI l i → (prNow l cs (numI l i) x).left k = x.left k := by
    intro k hk
    unfold prNow
    split
    · exact setN_other _ hk
    · rfl
  have hleft : ∀ k, k < l.length → (prGive l (numI l i) (prNow l cs (numI l i) x)).left (numI l k) = if usedK l fr i (p + 1) (numI l k) = 0 then 0 else budK l (numI l k) - usedK l fr i (p + 1) (numI l k) := by
    intro k hk
    rw [g1, used_next hi h1 h2 hk]
    by_cases e : numI l i = numI l k
    · rw [← e, setN_same, hnow, if_pos rfl, if_neg (by omega)]
      omega
    · rw [setN_other _ (fun e2 => e e2.symm), if_neg e, hoth _ (fun e2 => e e2.symm)]
      exact h.left k hk
  have hbeg : (prGive l (numI l i) (prNow l cs (numI l i) x)).beg = c * cntTo l l.length + cntTo l (i + 1) := by
    rw [g2]
    unfold prNow
    by_cases e : x.left (numI l i) = 0
    · obtain ⟨b1, b2, b3⟩ := beg_num G h hi h1 e
      rw [if_pos e]
      show x.beg + 1 = _
      have hb := h.beg
      unfold begK at hb
      rw [if_neg (by omega)] at hb
      rw [hb, cnt_next hi, if_pos b2]
      omega
    · rw [if_neg e, h.beg]
      unfold begK
      by_cases e2 : startI l fr i < p
      · rw [if_pos ⟨hi, e2⟩]
      · rw [if_neg (fun y => e2 y.2), cnt_next hi, if_neg]
        · rfl
        · intro e3
          apply e
          apply hlz.2
          rw [e3]
          omega
  refine ⟨G.atu hi h1 h2, ?_⟩
  have hlast : (prGive l (numI l i) (prNow l cs (numI l i) x)).left (numI l i) = budK l (numI l i) - (usedK l fr i p (numI l i) + 1) := by
    rw [g1, setN_same, hnow]
    omega
  by_cases e : p + 1 < stopI l fr i
  · refine ⟨i, ⟨h.i1, fun k hk => by have := h.i2 k hk; omega, fun _ => e, ?_, hleft⟩, hlast, fun k hk => used_next hi h1 h2 hk⟩
    rw [hbeg]
    unfold begK
    rw [if_pos ⟨hi, by omega⟩]
  · have e1 : p + 1 = stopI l fr i := by omega
    refine ⟨i + 1, ⟨hi, fun k hk => ?_, fun hi' => ?_, ?_, ?_⟩, hlast, fun k hk => by rw [e1, used_end G hi hk, ← e1]; exact used_next hi h1 h2 hk⟩
    · rcases Nat.lt_or_ge k i with h5 | h5
      · have := h.i2 k h5
        omega
      · have : k = i := by omega
        subst this
        omega
    · have := G.next hi'
      have := G.start_fin hi'
      omega
    · rw [hbeg]
      unfold begK
      rw [if_neg]
      rintro ⟨y1, y2⟩
      have := G.next y1
      omega
    · intro k hk
      rw [hleft k hk, e1, used_end G hi hk]
theorem PI.wrap {l : List FSl} {cyc fr c i : Nat} (G : Goes l cyc fr) {x : PZ} (h : PI l fr c cyc i x) : PI l fr (c + 1) 0 0 x := by
  have hi : i = l.length := by
    rcases Nat.lt_or_ge i l.length with h5 | h5
    · have := h.i3 h5
      have := G.fin_cyc h5
      omega
    · have := h.i1
      omega
  subst hi
  refine ⟨Nat.zero_le _, fun k hk => by omega, fun h0 => by have := G.start_fin h0; omega, ?_, ?_⟩
  · have hb := h.beg
    unfold begK at hb
    rw [if_neg (by omega)] at hb
    rw [hb, mul_next]
    unfold begK
    rw [if_neg (by omega)]
    rfl
  · intro k hk
    have := h.left k hk
    have eU : usedK l fr l.length cyc (numI l k) = budK l (numI l k) := by
      unfold usedK
      rw [if_neg (fun y => absurd y.1 (by omega)), Nat.add_zero, hadK_all]
    rw [eU] at this
    have h0 : usedK l fr 0 0 (numI l k) = 0 := by
      unfold usedK
      rw [show hadK l (numI l k) 0 = 0 from rfl, Nat.zero_sub]
      split <;> rfl
    rw [h0, if_pos rfl, this]
    split
    · rfl
    · omega
theorem PI.start (l : List FSl) {cyc fr : Nat} (G : Goes l cyc fr) : PI l fr 0 0 0 ⟨fun _ => 0, fun _ => 0, 0, []⟩ := by
  refine ⟨Nat.zero_le _, fun k hk => by omega, fun h0 => by have := G.start_fin h0; omega, ?_, ?_⟩
  · unfold begK
    rw [if_neg (by omega)]
    simp [cntTo]
  · intro k hk
    have h0 : usedK l fr 0 0 (numI l k) = 0 := by
      unfold usedK
      rw [show hadK l (numI l k) 0 = 0 from rfl, Nat.zero_sub]
      split <;> rfl
    rw [h0, if_pos rfl]

/-- How time goes on. -/
theorem time_next {cyc : Nat} (hc : 1 ≤ cyc) (u : Nat) : (u % cyc + 1 < cyc ∧ (u + 1) % cyc = u % cyc + 1 ∧ (u + 1) / cyc = u / cyc) ∨ (u % cyc + 1 = cyc ∧ (u + 1) % cyc = 0 ∧ (u + 1) / cyc = u / cyc + 1) := by
  have h1 := Nat.mod_lt u (show 0 < cyc by omega)
  have h2 := Nat.div_add_mod u cyc
  by_cases h : u % cyc + 1 < cyc
  · left
    have e : u + 1 = cyc * (u / cyc) + (u % cyc + 1) := by omega
    refine ⟨h, ?_, ?_⟩
    · rw [e, Nat.mul_add_mod, Nat.mod_eq_of_lt h]
    · rw [e, Nat.mul_add_div (by omega), Nat.div_eq_of_lt h]
      rfl
  · right
    have e0 : u % cyc + 1 = cyc := by omega
    have e : u + 1 = cyc * (u / cyc + 1) := by rw [Nat.mul_add]; omega
    refine ⟨e0, ?_, ?_⟩
    · rw [e, Nat.mul_mod_right]
    · rw [e, Nat.mul_div_cancel_left _ (by omega)]
/-- One tick, whichever it is. -/
theorem PI.tick {l : List FSl} {cyc fr c p i : Nat} (G : Goes l cyc fr) {x : PZ} (h : PI l fr c p i x) (cs : List Int) : ∃ i', PI l fr c (p + 1) i' (prTick l cs (unitL l fr p) x) := by
  by_cases hg : i < l.length ∧ startI l fr i ≤ p
  · obtain ⟨a, i', b, _⟩ := PI.some G h hg.1 hg.2 cs
    refine ⟨i', ?_⟩
    unfold unitL
    rw [a]
    exact b
  · obtain ⟨a, b, _⟩ := PI.none G h (fun hi => by omega) (x.out ++ [46])
    refine ⟨i, ?_⟩
    unfold unitL
    rw [a]
    exact b
theorem PI.all {l : List FSl} {cyc fr : Nat} (G : Goes l cyc fr) (cs : List Int) : ∀ u, ∃ i, PI l fr (u / cyc) (u % cyc) i (prT l cyc fr cs u)
  | 0 => ⟨0, by rw [Nat.zero_div, Nat.zero_mod]; exact PI.start l G⟩
  | u + 1 => by
    obtain ⟨i, h⟩ := PI.all G cs u
    obtain ⟨i', h'⟩ := PI.tick G h cs
    rcases time_next G.c1 u with ⟨_, a, b⟩ | ⟨e, a, b⟩
    · rw [a, b]
      exact ⟨i', h'⟩
    · rw [a, b]
      rw [e] at h'
      exact ⟨0, PI.wrap G h'⟩

/-- The program's run is the document's. -/
theorem pr_trc {l : List FSl} {cyc fr : Nat} (G : Goes l cyc fr) (cs : List Int) (hf : ∀ u i k, 0 ≤ begunL l cyc fr cs u i (trcL l cyc fr cs u).1 k) : ∀ u, (prT l cyc fr cs u).want = (trcL l cyc fr cs u).1 ∧ (prT l cyc fr cs u).out = (trcL l cyc fr cs u).2
  | 0 => ⟨rfl, rfl⟩
  | u + 1 => by
    obtain ⟨ih1, ih2⟩ := pr_trc G cs hf u
    obtain ⟨i, h⟩ := PI.all G cs u
    rw [trcL, prT, tickL]
    by_cases hg : i < l.length ∧ startI l fr i ≤ u % cyc
    · obtain ⟨hi, h1⟩ := hg
      have h2 := h.i3 hi
      obtain ⟨a, i', b, hlast, _⟩ := PI.some G h hi h1 cs
      have hee := (at_some a).2.2.2
      have eu : unitL l fr (u % cyc) = some (numI l i) := by unfold unitL; rw [a]; rfl
      rw [eu, a]
      show (prGive l (numI l i) (prNow l cs (numI l i) (prT l cyc fr cs u))).want = _ ∧ (prGive l (numI l i) (prNow l cs (numI l i) (prT l cyc fr cs u))).out = _
      have hb : (prNow l cs (numI l i) (prT l cyc fr cs u)).want = begunL l cyc fr cs u i (trcL l cyc fr cs u).1 ∧ (prNow l cs (numI l i) (prT l cyc fr cs u)).out = (trcL l cyc fr cs u).2 := by
        unfold prNow begunL
        have hf : (spotI l i).fst.toNat = jobI l (numI l i) := by rw [(jobI_num hi).1]; rfl
        rw [hf]
        by_cases e : (prT l cyc fr cs u).left (numI l i) = 0
        · obtain ⟨b1, b2, b3⟩ := beg_num G h hi h1 e
          rw [if_pos e, if_pos (by rw [← (left_zero G h hi h1).1 e])]
          refine ⟨?_, ih2⟩
          show setL (prT l cyc fr cs u).want (numI l i) (wantsL cs (prT l cyc fr cs u).beg (budK l (numI l i))) = _
          rw [ih1, b1, budK_num hi]
        · rw [if_neg e, if_neg (fun e2 => e ((left_zero G h hi h1).2 (by omega)))]
          exact ⟨ih1, ih2⟩
      generalize prNow l cs (numI l i) (prT l cyc fr cs u) = y at *
      obtain ⟨hb1, hb2⟩ := hb
      have hm : ((prGive l (numI l i) y).left (numI l i) = 0) ↔ (u % cyc + 1 = endI l fr (u % cyc / fr) i ∧ (i : Int) = (spotI l i).lst) := by
        rw [hlast, hee, ← used_full G hi h1 h2]
        have := used_lt hi h1 h2
        omega
      rw [(give_left l (numI l i) y).1, setN_same] at hm
      have hy := hf u i (numI l i)
      show (prGive l (numI l i) y).want = lessL (numI l i) (begunL l cyc fr cs u i (trcL l cyc fr cs u).1) ∧ (prGive l (numI l i) y).out = (trcL l cyc fr cs u).2 ++ ranL (fsk l i).2.nm (numI l i) (begunL l cyc fr cs u i (trcL l cyc fr cs u).1) ++ markL l cyc fr u i (lessL (numI l i) (begunL l cyc fr cs u i (trcL l cyc fr cs u).1))
      unfold markL
      rw [← hb1, ← hb2, ← nmK_num hi]
      rw [← hb1] at hy
      unfold prGive lessL ranL
      by_cases e : y.want (numI l i) = 0
      · rw [if_pos e]
        have e2 : ¬ 0 < y.want (numI l i) := by omega
        rw [if_neg e2, if_neg e2, if_neg (fun z => e2 z.2.2)]
        exact ⟨rfl, by simp⟩
      · rw [if_neg e]
        have e2 : 0 < y.want (numI l i) := by omega
        rw [if_pos e2, if_pos e2]
        refine ⟨rfl, ?_⟩
        have e3 : setL y.want (numI l i) (y.want (numI l i) - 1) (numI l i) = y.want (numI l i) - 1 := by simp [setL]
        rw [e3]
        show y.out ++ [nmK l (numI l i)] ++ _ = y.out ++ [nmK l (numI l i)] ++ _
        congr 1
        by_cases e4 : y.left (numI l i) - 1 = 0 ∧ 0 < y.want (numI l i) - 1
        · obtain ⟨z1, z2⟩ := hm.1 e4.1
          rw [if_pos e4, if_pos ⟨z1, z2, e4.2⟩]
        · rw [if_neg e4, if_neg]
          rintro ⟨z1, z2, z3⟩
          exact e4 ⟨hm.2 ⟨z1, z2⟩, z3⟩
    · obtain ⟨a, b, _⟩ := PI.none G h (fun hi => by omega) ((prT l cyc fr cs u).out ++ [46])
      have eu : unitL l fr (u % cyc) = none := by unfold unitL; rw [a]; rfl
      rw [eu, a]
      show (prT l cyc fr cs u).want = _ ∧ (prT l cyc fr cs u).out ++ [46] = _
      exact ⟨ih1, by rw [ih2]⟩
end Go.Proofs.YtbdffcjganlblaaGreatDoor

namespace Go.Proofs.YtbdffcjganlblaaGreatDoor
set_option linter.unusedVariables false
set_option linter.unusedSimpArgs false

/-! ### Traces without their marks -/
def bareL : List UInt8 → List UInt8
  | [] => []
  | c :: r => if c = 33 then bareL (r.drop 1) else c :: bareL r
termination_by l => l.length
decreasing_by all_goals simp; try omega
theorem bareL_nil : bareL [] = [] := by rw [bareL]
theorem bareL_mark (r : List UInt8) (c : UInt8) : bareL (33 :: c :: r) = bareL r := by rw [bareL]; simp
theorem bareL_one {c : UInt8} (h : c ≠ 33) (r : List UInt8) : bareL (c :: r) = c :: bareL r := by rw [bareL, if_neg h]
/-- No mark stands open at the end. -/
def Shut (a : List UInt8) : Prop := ∀ b, bareL (a ++ b) = bareL a ++ bareL b
theorem shut_nil : Shut [] := fun b => by simp [bareL_nil]
theorem Shut.one {a : List UInt8} (h : Shut a) {c : UInt8} (hc : c ≠ 33) : Shut (a ++ [c]) ∧ bareL (a ++ [c]) = bareL a ++ [c] := by
  have e : bareL (a ++ [c]) = bareL a ++ [c] := by rw [h, bareL_one hc, bareL_nil]
  refine ⟨fun b => ?_, e⟩
  rw [e, List.append_assoc, h, List.append_assoc]
  show bareL a ++ bareL (c :: b) = _
  rw [bareL_one hc]
  rfl
theorem Shut.mark {a : List UInt8} (h : Shut a) (c : UInt8) : Shut (a ++ [33, c]) ∧ bareL (a ++ [33, c]) = bareL a := by
  have e : bareL (a ++ [33, c]) = bareL a := by rw [h, bareL_mark, bareL_nil, List.append_nil]
  refine ⟨fun b => ?_, e⟩
  rw [e, List.append_assoc, h]
  show bareL a ++ bareL (33 :: c :: b) = _
  rw [bareL_mark]

/-! ### Jobs that get all that they have -/
def barU (l : List FSl) (fr p : Nat) : UInt8 := match unitL l fr p with | none => 46 | some k => nmK l k
def barL (l : List FSl) (cyc fr : Nat) : Nat → List UInt8
  | 0 => []
  | u + 1 => barL l cyc fr u ++ [barU l fr (u % cyc)]
structure AI (l : List FSl) (cyc fr : Nat) (e : Nat → Nat) (u : Nat) (x : PZ) : Prop where
  want : ∀ i, i < l.length → 0 < x.left (numI l i) → x.want (numI l i) = x.left (numI l i) + e (numI l i)
  shut : Shut x.out
  bare : bareL x.out = barL l cyc fr u
  bars : (∀ k, e k = 0) → 33 ∉ x.out
theorem setL_same (L : Nat → Int) (k : Nat) (v : Int) : setL L k v k = v := by simp [setL]
theorem setL_other {L : Nat → Int} {k j : Nat} (v : Int) (h : j ≠ k) : setL L k v j = L j := by simp [setL, h]
theorem AI.unit {l : List FSl} {cyc fr c p i u : Nat} (G : Goes l cyc fr) {x : PZ} (h : PI l fr c p i x) (hi : i < l.length) (h1 : startI l fr i ≤ p) (cs : List Int) (e : Nat → Nat)
    (hw : ∀ c i, i < l.length → wantsL cs (c * cntTo l l.length + numI l i) (budK l (numI l i)) = (budK l (numI l i) + e (numI l i) : Nat)) (ha : AI l cyc fr e u x) :
    (∀ k, k < l.length → 0 < (prGive l (numI l i) (prNow l cs (numI l i) x)).left (numI l k) → (prGive l (numI l i) (prNow l cs (numI l i) x)).want (numI l k) = (prGive l (numI l i) (prNow l cs (numI l i) x)).left (numI l k) + e (numI l k)) ∧
    (prGive l (numI l i) (prNow l cs (numI l i) x)).out = x.out ++ [nmK l (numI l i)] ++ if (prGive l (numI l i) (prNow l cs (numI l i) x)).left (numI l i) = 0 ∧ 0 < e (numI l i) then [33, nmK l (numI l i)] else [] := by
  have h2 := h.i3 hi
  have hlt := used_lt hi h1 h2
  have hy : 0 < (prNow l cs (numI l i) x).left (numI l i) ∧ (prNow l cs (numI l i) x).want (numI l i) = (prNow l cs (numI l i) x).left (numI l i) + e (numI l i) ∧ (prNow l cs (numI l i) x).out = x.out ∧
      ∀ k, k ≠ numI l i → (prNow l cs (numI l i) x).left k = x.left k ∧ (prNow l cs (numI l i) x).want k = x.want k := by
    unfold prNow
    by_cases e0 : x.left (numI l i) = 0
    · rw [if_pos e0]
      obtain ⟨b1, _, _⟩ := beg_num G h hi h1 e0
      refine ⟨?_, ?_, rfl, fun k hk => ⟨setN_other _ hk, setL_other _ hk⟩⟩
      · show 0 < setN x.left (numI l i) (budK l (numI l i)) (numI l i)
        rw [setN_same]
        omega
      · show setL x.want (numI l i) (wantsL cs x.beg (budK l (numI l i))) (numI l i) = setN x.left (numI l i) (budK l (numI l i)) (numI l i) + (e (numI l i) : Int)
        rw [setL_same, setN_same, b1, hw c i hi]
        omega
    · rw [if_neg e0]
      exact ⟨by omega, ha.want i hi (by omega), rfl, fun k hk => ⟨rfl, rfl⟩⟩
  generalize prNow l cs (numI l i) x = y at *
  obtain ⟨y1, y2, y3, y4⟩ := hy
  have hne : ¬ y.want (numI l i) = 0 := by omega
  have eG : prGive l (numI l i) y = ⟨setN y.left (numI l i) (y.left (numI l i) - 1), setL y.want (numI l i) (y.want (numI l i) - 1), y.beg, y.out ++ [nmK l (numI l i)] ++ if y.left (numI l i) - 1 = 0 ∧ 0 < y.want (numI l i) - 1 then [33, nmK l (numI l i)] else []⟩ := by
    unfold prGive
    rw [if_neg hne]
  rw [eG]
  refine ⟨fun k hk => ?_, ?_⟩
  · show 0 < setN y.left (numI l i) (y.left (numI l i) - 1) (numI l k) → setL y.want (numI l i) (y.want (numI l i) - 1) (numI l k) = setN y.left (numI l i) (y.left (numI l i) - 1) (numI l k) + (e (numI l k) : Int)
    by_cases e1 : numI l k = numI l i
    · rw [e1, setL_same, setN_same]
      intro _
      omega
    · rw [setL_other _ e1, setN_other _ e1, (y4 _ e1).1, (y4 _ e1).2]
      exact ha.want k hk
  · show y.out ++ [nmK l (numI l i)] ++ (if y.left (numI l i) - 1 = 0 ∧ 0 < y.want (numI l i) - 1 then [33, nmK l (numI l i)] else []) = x.out ++ [nmK l (numI l i)] ++ (if setN y.left (numI l i) (y.left (numI l i) - 1) (numI l i) = 0 ∧ 0 < e (numI l i) then [33, nmK l (numI l i)] else [])
    rw [setN_same, y3]
    congr 1
    have : (y.left (numI l i) - 1 = 0 ∧ 0 < y.want (numI l i) - 1) ↔ (y.left (numI l i) - 1 = 0 ∧ 0 < e (numI l i)) := by omega
    by_cases e1 : y.left (numI l i) - 1 = 0 ∧ 0 < e (numI l i)
    · rw [if_pos e1, if_pos (this.2 e1)]
    · rw [if_neg e1, if_neg (fun z => e1 (this.1 z))]
theorem AI.all {l : List FSl} {cyc fr : Nat} (G : Goes l cyc fr) (cs : List Int) (e : Nat → Nat) (hn : ∀ i, i < l.length → (fsk l i).2.nm ≠ 33)
    (hw : ∀ c i, i < l.length → wantsL cs (c * cntTo l l.length + numI l i) (budK l (numI l i)) = (budK l (numI l i) + e (numI l i) : Nat)) : ∀ u, AI l cyc fr e u (prT l cyc fr cs u)
  | 0 => ⟨fun i _ h => absurd h (by simp [prT]), shut_nil, bareL_nil, fun _ => by simp [prT]⟩
  | u + 1 => by
    have ih := AI.all G cs e hn hw u
    obtain ⟨i, h⟩ := PI.all G cs u
    rw [prT]
    by_cases hg : i < l.length ∧ startI l fr i ≤ u % cyc
    · obtain ⟨hi, h1⟩ := hg
      obtain ⟨a, i', b, hlast, _⟩ := PI.some G h hi h1 cs
      obtain ⟨c1, c2⟩ := AI.unit G h hi h1 cs e hw ih
      have eu : unitL l fr (u % cyc) = some (numI l i) := by unfold unitL; rw [a]; rfl
      have hnm : nmK l (numI l i) ≠ 33 := by rw [nmK_num hi]; exact hn i hi
      have eb : barL l cyc fr (u + 1) = barL l cyc fr u ++ [nmK l (numI l i)] := by
        rw [barL]
        unfold barU
        rw [eu]
      rw [eu]
      show AI l cyc fr e (u + 1) (prGive l (numI l i) (prNow l cs (numI l i) (prT l cyc fr cs u)))
      obtain ⟨s1, s2⟩ := ih.shut.one hnm
      by_cases hz : (prGive l (numI l i) (prNow l cs (numI l i) (prT l cyc fr cs u))).left (numI l i) = 0 ∧ 0 < e (numI l i)
      · rw [if_pos hz] at c2
        obtain ⟨s3, s4⟩ := s1.mark (nmK l (numI l i))
        refine ⟨c1, by rw [c2]; exact s3, by rw [c2, s4, s2, ih.bare, eb], fun h0 => ?_⟩
        have := h0 (numI l i)
        omega
      · rw [if_neg hz, List.append_nil] at c2
        refine ⟨c1, by rw [c2]; exact s1, by rw [c2, s2, ih.bare, eb], fun h0 => ?_⟩
        rw [c2, List.mem_append]
        rintro (h5 | h5)
        · exact ih.bars h0 h5
        · simp at h5
          exact hnm h5.symm
    · obtain ⟨a, b, _⟩ := PI.none G h (fun hi => by omega) ((prT l cyc fr cs u).out ++ [46])
      have eu : unitL l fr (u % cyc) = none := by unfold unitL; rw [a]; rfl
      have eb : barL l cyc fr (u + 1) = barL l cyc fr u ++ [46] := by
        rw [barL]
        unfold barU
        rw [eu]
      rw [eu]
      obtain ⟨s1, s2⟩ := ih.shut.one (show (46 : UInt8) ≠ 33 by decide)
      refine ⟨ih.want, s1, by rw [eb]; show bareL (_ ++ [46]) = _; rw [s2, ih.bare], fun h0 => ?_⟩
      show 33 ∉ (prT l cyc fr cs u).out ++ [46]
      rw [List.mem_append]
      rintro (h5 | h5)
      · exact ih.bars h0 h5
      · simp at h5
/-- A trace grows. -/
theorem pr_grows (l : List FSl) (cyc fr : Nat) (cs : List Int) (u : Nat) : ∃ r, (prT l cyc fr cs (u + 1)).out = (prT l cyc fr cs u).out ++ r := by
  rw [prT]
  cases unitL l fr (u % cyc) with
  | none => exact ⟨[46], rfl⟩
  | some k =>
    show ∃ r, (prGive l k (prNow l cs k (prT l cyc fr cs u))).out = _
    have ho : (prNow l cs k (prT l cyc fr cs u)).out = (prT l cyc fr cs u).out := by
      unfold prNow
      split <;> rfl
    unfold prGive
    split
    · exact ⟨[46], by rw [← ho]⟩
    · exact ⟨[nmK l k] ++ _, by rw [← ho]; exact List.append_assoc _ _ _⟩
theorem pr_keeps (l : List FSl) (cyc fr : Nat) (cs : List Int) (u : Nat) {c : UInt8} (h : c ∈ (prT l cyc fr cs u).out) : ∀ d, c ∈ (prT l cyc fr cs (u + d)).out
  | 0 => h
  | d + 1 => by
    obtain ⟨r, hr⟩ := pr_grows l cyc fr cs (u + d)
    rw [← Nat.add_assoc, hr, List.mem_append]
    exact .inl (pr_keeps l cyc fr cs u h d)
/-- A job that wants more is marked in the first cycle. -/
theorem marked_to {l : List FSl} {cyc fr : Nat} (G : Goes l cyc fr) (cs : List Int) (e : Nat → Nat) (hn : ∀ i, i < l.length → (fsk l i).2.nm ≠ 33)
    (hw : ∀ c i, i < l.length → wantsL cs (c * cntTo l l.length + numI l i) (budK l (numI l i)) = (budK l (numI l i) + e (numI l i) : Nat)) {m : Nat} (hm : m < l.length) (he : 0 < e (numI l m)) : ∀ u, u ≤ cyc → ∃ i, PI l fr 0 u i (prT l cyc fr cs u) ∧ (usedK l fr i u (numI l m) = budK l (numI l m) → 33 ∈ (prT l cyc fr cs u).out)
  | 0, _ => by
    refine ⟨0, PI.start l G, fun h => ?_⟩
    exfalso
    have h0 : usedK l fr 0 0 (numI l m) = 0 := by
      unfold usedK
      rw [show hadK l (numI l m) 0 = 0 from rfl, Nat.zero_sub]
      split <;> rfl
    have h3 := hadK_next (q := m) hm hm
    rw [if_pos rfl] at h3
    have h4 := hadK_le (q := m + 1) hm hm
    have h5 := G.bud m hm
    omega
  | u + 1, hu => by
    obtain ⟨i, h, hk⟩ := marked_to G cs e hn hw hm he u (by omega)
    have eu0 : u % cyc = u := Nat.mod_eq_of_lt (by omega)
    have ha := AI.all G cs e hn hw u
    by_cases hg : i < l.length ∧ startI l fr i ≤ u
    · obtain ⟨hi, h1⟩ := hg
      obtain ⟨a, i', b, hlast, hus⟩ := PI.some G h hi h1 cs
      obtain ⟨c1, c2⟩ := AI.unit G h hi h1 cs e hw ha
      have eu : unitL l fr (u % cyc) = some (numI l i) := by unfold unitL; rw [eu0, a]; rfl
      refine ⟨i', ?_, ?_⟩
      · rw [prT, eu]
        exact b
      · intro hf
        rw [hus m hm] at hf
        by_cases hs : numI l i = numI l m
        · rw [if_pos hs] at hf
          rw [prT, eu]
          show 33 ∈ (prGive l (numI l i) (prNow l cs (numI l i) (prT l cyc fr cs u))).out
          rw [hs] at hlast c2
          rw [hs, c2, if_pos ⟨by rw [hlast]; omega, he⟩]
          simp
        · rw [if_neg hs] at hf
          exact pr_keeps l cyc fr cs u (hk hf) 1
    · obtain ⟨a, b, hus⟩ := PI.none G h (fun hi => by omega) ((prT l cyc fr cs u).out ++ [46])
      have eu : unitL l fr (u % cyc) = none := by unfold unitL; rw [eu0, a]; rfl
      refine ⟨i, ?_, ?_⟩
      · rw [prT, eu]
        exact b
      · intro hf
        rw [hus] at hf
        exact pr_keeps l cyc fr cs u (hk hf) 1
theorem marked {l : List FSl} {cyc fr : Nat} (G : Goes l cyc fr) (cs : List Int) (e : Nat → Nat) (hn : ∀ i, i < l.length → (fsk l i).2.nm ≠ 33)
    (hw : ∀ c i, i < l.length → wantsL cs (c * cntTo l l.length + numI l i) (budK l (numI l i)) = (budK l (numI l i) + e (numI l i) : Nat)) {m : Nat} (hm : m < l.length) (he : 0 < e (numI l m)) {u : Nat} (hu : cyc ≤ u) : 33 ∈ (prT l cyc fr cs u).out := by
  obtain ⟨i, h, hk⟩ := marked_to G cs e hn hw hm he cyc (Nat.le_refl _)
  have hi : i = l.length := by
    rcases Nat.lt_or_ge i l.length with h5 | h5
    · have := h.i3 h5
      have := G.fin_cyc h5
      omega
    · have := h.i1
      omega
  subst hi
  have := pr_keeps l cyc fr cs cyc (hk (by unfold usedK; rw [if_neg (fun y => absurd y.1 (by omega)), Nat.add_zero, hadK_all])) (u - cyc)
  rwa [show cyc + (u - cyc) = u by omega] at this
end Go.Proofs.YtbdffcjganlblaaGreatDoor

namespace Go.Proofs.YtbdffcjganlblaaGreatDoor
open Go.RowKit
set_option linter.unusedVariables false
set_option linter.unusedSimpArgs false

theorem tok_sgn2 {l : List UInt8} {q : Nat} {c : UInt8} (hc : signB (c.toNat : Int) = true) (h : (tokAt l q).k = c.toNat) : (tokAt l q).tx = [c] := by
  have hc' : c.toNat = 44 ∨ c.toNat = 59 ∨ c.toNat = 58 := by
    simp only [signB, Bool.or_eq_true, beq_iff_eq] at hc
    omega
  revert h
  unfold tokAt
  split
  · intro h; simp only at h; omega
  · rename_i d r' hd
    split
    · intro h
      simp only at h ⊢
      rw [UInt8.toNat_inj.1 h]
    · split
      · intro h; simp only at h; omega
      · split <;> (intro h; simp only at h; omega)
theorem seesP_sgn (l : List UInt8) (j : Nat) (c : UInt8) (hc : signB (c.toNat : Int) = true) : seesP (tk (allToks l) j) ⟨#[c]⟩ = ((tk (allToks l) j).k == c.toNat) := by
  unfold seesP
  rw [ByteArray.toList_eq, bs_data, ByteArray.toList_eq]
  cases hk : ((tk (allToks l) j).k == c.toNat)
  · cases h : ((tk (allToks l) j).tx == (ByteArray.mk #[c]).data.toList)
    · rfl
    · have h' : (tk (allToks l) j).tx = [c] := by simpa using h
      simp only [beq_eq_false_iff_ne, ne_eq] at hk
      simp only [signB, Bool.or_eq_true, beq_iff_eq] at hc
      rcases tk_first h' with ⟨h1, _⟩ | ⟨h1, _⟩ | ⟨_, h1, _⟩
      · simp only [letterB, Bool.and_eq_true, decide_eq_true_eq] at h1; omega
      · simp only [digitB, Bool.and_eq_true, decide_eq_true_eq] at h1; omega
      · exact absurd h1 hk
  · have hk' : (tk (allToks l) j).k = c.toNat := by simpa using hk
    have : (tk (allToks l) j).tx = [c] := by
      rcases tk_form l j with ⟨i, hi⟩ | hi
      · rw [hi] at hk' ⊢; exact tok_sgn2 hc hk'
      · rw [hi] at hk'
        simp only [signB, Bool.or_eq_true, beq_iff_eq] at hc
        simp only at hk'
        omega
    rw [this]; simp
theorem s_colon (l : List UInt8) (j : Nat) : seesP (tk (allToks l) j) ⟨#[58]⟩ = ((tk (allToks l) j).k == 58) := seesP_sgn l j 58 (by decide)
theorem s_comma (l : List UInt8) (j : Nat) : seesP (tk (allToks l) j) ⟨#[44]⟩ = ((tk (allToks l) j).k == 44) := seesP_sgn l j 44 (by decide)
theorem s_cycle (l : List UInt8) (j : Nat) : seesP (tk (allToks l) j) wCycle = sees (tk (allToks l) j) wCycle := seesP_eq l j 99 [121, 99, 108, 101] wCycle (by rw [ByteArray.toList_eq]; rfl) rfl
theorem s_frame (l : List UInt8) (j : Nat) : seesP (tk (allToks l) j) wFrame = sees (tk (allToks l) j) wFrame := seesP_eq l j 102 [114, 97, 109, 101] wFrame (by rw [ByteArray.toList_eq]; rfl) rfl

/-- What a part of a table comes to: it may be no part; else what stands behind it may be no token. -/
def Dead {α : Type} (T : List PT) (R : Option (α × Nat)) : Prop := R = none ∨ ∃ a j, R = some (a, j) ∧ (tk T j).k = 120
def slR (T : List PT) (i : Nat) : Option (Sl × Nat) := if slOk T i then some (slAt T i, i + 4) else none
def slRaw (s : Sl) : Value := .agg #[.int .u8 s.nm.toNat, .int .i64 s.job, .int .i64 s.bud]

section
variable {w wk : World} {ty : TypeId} {c d : Array Value} {b : Nat} {s : ByteArray} {i : Nat} {er : Nat}

def SlOut (er : Nat) (s : ByteArray) (b i : Nat) (w : World) (en : Ending) (w' : World) : Prop :=
  w.grownBy w' (some b) ∧ ((∃ p, en = pan er p ∧ Dead (allToks s.data.toList) (slR (allToks s.data.toList) i)) ∨ (slOk (allToks s.data.toList) i = true ∧ RS er w' b s (i + 4) ∧ en = .returned (slRaw (slAt (allToks s.data.toList) i))))

theorem dead_no {T : List PT} {i : Nat} (h : slOk T i = false) : Dead T (slR T i) := .inl (by unfold slR; rw [h]; rfl)
theorem name_at (t : PT) (h : t.tx = [nameB t]) (w : World) : (Instr.index 9 (.string (bs t.tx)) (.int .i64 0)).run Tryz.prog w = .ok (.int .u8 (nameB t).toNat) w := by
  rw [h]
  simp [Instr.index, run_underlying Tryz.underlying9, go_sem, bs]
  rfl
theorem name_text (x : ByteArray) (c : Value) (w : World) : (Instr.field 170 (.agg #[.string x, c]) 0).run Tryz.prog w = .ok (.string x) w := by
  simp [Instr.field, run_underlying Tryz.underlying170, go_sem, asAgg]
theorem num_val (x : Int) (c : Value) (w : World) : (Instr.field 145 (.agg #[.int .i64 x, c]) 0).run Tryz.prog w = .ok (.int .i64 x) w := by
  simp [Instr.field, run_underlying Tryz.underlying145, go_sem, asAgg]

set_option maxRecDepth 100000 in
set_option maxHeartbeats 4000000 in
theorem takeSlice_any (h : RS er w b s i) :
    Calls Tryz.prog 144 #[.pointer (some ⟨b, 0, none⟩)] w (SlOut er s b i w) := by
  have S0 := Sp.start h 106 #[.int .u8 0, .int .i64 0, .int .i64 0] #[.int .u8 0, .int .i64 0, .int .i64 0]
  clear h
  go_enter Tryz.func144, Tryz.ntmps144
  go_wp2_with fail
  refine (takeName_any S0.rs).mono ?_
  rintro e w1 ⟨hg, hcase⟩
  have hgw := grownBy_trans S0.g hg
  rw [isNameP_eq] at hcase
  rcases hcase with ⟨h0, rfl⟩ | ⟨h0, h1, rfl⟩ | ⟨h0, h1, rfl⟩
  · exact ⟨rfl, hgw, .inl ⟨_, rfl, dead_no (by simp [slOk, h0])⟩⟩
  · exact ⟨rfl, hgw, .inl ⟨_, rfl, dead_no (by simp [slOk, h1])⟩⟩
  have F1 := hide h0
  have S1 := S0.call h1 hg
  obtain ⟨x1, x2, x3, x4⟩ := S1.cells
  have hnx := name_at _ (name_tx h0)
  clear hg hgw h0 h1 S0
  have hft := name_text
  have hfn := num_val
  go_wp2_with fail
  have S1 := S1.set 0 (.int .u8 (nameB (tk (allToks s.data.toList) i)).toNat) (c' := #[.int .u8 (nameB (tk (allToks s.data.toList) i)).toNat, .int .i64 0, .int .i64 0]) rfl
  clear x1 x2 x3 x4 hnx
  refine (takeNumber_any S1.rs).mono ?_
  rintro e w2 ⟨hg, hcase⟩
  have hgw := grownBy_trans S1.g hg
  rcases hcase with ⟨h0, rfl⟩ | ⟨h0, h1, rfl⟩ | ⟨h0, h1, rfl⟩
  · exact ⟨rfl, hgw, .inl ⟨_, rfl, dead_no (by simp [slOk, h0])⟩⟩
  · exact ⟨rfl, hgw, .inl ⟨_, rfl, dead_no (by simp [slOk, h1])⟩⟩
  have F2 := hide h0
  have S2 := S1.call h1 hg
  obtain ⟨x1, x2, x3, x4⟩ := S2.cells
  clear hg hgw h0 h1 S1
  go_wp2_with fail
  have S2 := S2.set 1 (.int .i64 (tk (allToks s.data.toList) (i + 1)).N) (c' := #[.int .u8 (nameB (tk (allToks s.data.toList) i)).toNat, .int .i64 (tk (allToks s.data.toList) (i + 1)).N, .int .i64 0]) rfl
  clear x1 x2 x3 x4
  refine (takeText_any S2.rs ⟨#[58]⟩ (by rw [ByteArray.toList_eq]; decide)).mono ?_
  rintro e w3 ⟨hg, hcase⟩
  have hgw := grownBy_trans S2.g hg
  rw [s_colon] at hcase
  rcases hcase with ⟨h0, rfl⟩ | ⟨h0, h1, rfl⟩ | ⟨h0, h1, rfl⟩
  · exact ⟨rfl, hgw, .inl ⟨_, rfl, dead_no (by simp [slOk]; intro _ _; simp at h0; simp [h0])⟩⟩
  · exact ⟨rfl, hgw, .inl ⟨_, rfl, dead_no (by simp [slOk, h1])⟩⟩
  have F3 := hide h0
  have S3 := S2.call h1 hg
  obtain ⟨x1, x2, x3, x4⟩ := S3.cells
  clear hg hgw h0 h1 S2
  go_wp2_with fail
  clear x1 x2 x3 x4
  refine (takeNumber_any S3.rs).mono ?_
  rintro e w4 ⟨hg, hcase⟩
  have hgw := grownBy_trans S3.g hg
  rcases hcase with ⟨h0, rfl⟩ | ⟨h0, h1, rfl⟩ | ⟨h0, h1, rfl⟩
  · exact ⟨rfl, hgw, .inl ⟨_, rfl, dead_no (by simp [slOk]; intro _ _ _; simp at h0; simp [h0])⟩⟩
  · refine ⟨rfl, hgw, .inl ⟨_, rfl, .inr ⟨slAt (allToks s.data.toList) i, i + 4, ?_, h1⟩⟩⟩
    unfold slR
    rw [if_pos (by simp only [slOk, F1.out, F2.out, F3.out, h0]; rfl)]
  have hok : Hid (slOk (allToks s.data.toList) i = true) := by unfold Hid; simp only [slOk, F1.out, F2.out, F3.out, h0]; rfl
  have S4 := S3.call h1 hg
  obtain ⟨x1, x2, x3, x4⟩ := S4.cells
  clear hg hgw h0 h1 S3
  have hbb := S4.hb
  have S4' := hide (S4.set 2 (.int .i64 (tk (allToks s.data.toList) (i + 3)).N) (c' := #[.int .u8 (nameB (tk (allToks s.data.toList) i)).toNat, .int .i64 (tk (allToks s.data.toList) (i + 1)).N, .int .i64 (tk (allToks s.data.toList) (i + 3)).N]) rfl)
  clear S4
  go_wp2
  refine bodyPost_ret (v := slRaw (slAt (allToks s.data.toList) i)) (by simp [results, Tryz.results144, go_sem, x3, slRaw, slAt]) rfl ⟨?_, .inr ⟨hok.out, ?_, rfl⟩⟩
  · have Y : ∀ (wz : World) (o : Nat) (v : Value), w.grownBy wz (some b) → w.grownBy (wz.setCell ⟨w.heap.size, o, none⟩ v) (some b) := fun wz o v hz => grownBy_setNew hz (Nat.le_refl _) o v
    exact Y _ _ _ (Y _ _ _ (Y _ _ _ S4'.out.g))
  · have Y : ∀ (wz : World) (o : Nat) (v : Value), RS er wz b s (i + 4) → RS er (wz.setCell ⟨w.heap.size, o, none⟩ v) b s (i + 4) := fun wz o v hz => hz.set (by omega) o v
    exact Y _ _ _ (Y _ _ _ (Y _ _ _ S4'.out.rs))
end
end Go.Proofs.YtbdffcjganlblaaGreatDoor

namespace Go.Proofs.YtbdffcjganlblaaGreatDoor
open Go.RowKit
set_option linter.unusedVariables false
set_option linter.unusedSimpArgs false

def slP (s : Sl) : List Value := [.int .u8 s.nm.toNat, .int .i64 s.job, .int .i64 s.bud]
def slPs (f : List Sl) : List Value := f.flatMap slP
theorem Tryz.infoPSl : (Tryz.prog.info? 106).map (fun i => (i.zero, i.size, i.bytes)) = some (some (.agg #[.int .u8 0, .int .i64 0, .int .i64 0]), 3, 24) := by kernel_rfl

/-- How far a frame has been read, a slice at the least. -/
def SlsP (T : List PT) (i0 i : Nat) (l : List Sl) : Prop := i0 + 5 * l.length ≤ i + 1 ∧ 1 ≤ l.length ∧
  pFrame T i0 = if (tk T i).k == 44 then (match pMore T (i + 1) with | none => none | some (r, k) => some (l ++ r, k)) else if (tk T i).k == 59 then some (l, i + 1) else none
theorem slsP_first {T : List PT} {i : Nat} (h : slOk T i = true) (hk : ((tk T i).k == 59) = false) : SlsP T i (i + 4) [slAt T i] := by
  refine ⟨by simp, by simp, ?_⟩
  unfold pFrame
  rw [hk, pMore_eq, h]
  simp only [Bool.false_eq_true, if_false, if_true]
  cases h4 : ((tk T (i + 4)).k == 44)
  · rfl
  · simp only [if_true]
    cases pMore T (i + 4 + 1) <;> rfl
theorem pFrame_first {T : List PT} {i : Nat} (h : Dead T (slR T i)) (hk : ((tk T i).k == 59) = false) : pFrame T i = none := by
  unfold pFrame
  rw [hk]
  simp only [Bool.false_eq_true, if_false]
  rcases h with h | ⟨a, j, h, hx⟩
  · unfold slR at h
    split at h
    · simp at h
    · rename_i hs
      exact pMore_no (by simpa using hs)
  · unfold slR at h
    split at h
    · rename_i hs
      simp at h
      obtain ⟨_, rfl⟩ := h
      exact pMore_cut hs (by omega) (by omega)
    · simp at h
theorem slsP_more {T : List PT} {i0 i : Nat} {l : List Sl} (h : SlsP T i0 i l) (hk : ((tk T i).k == 44) = true) (hs : slOk T (i + 1) = true) : SlsP T i0 (i + 1 + 4) (l ++ [slAt T (i + 1)]) := by
  obtain ⟨h1, h2, h3⟩ := h
  refine ⟨by simp; omega, by simp, ?_⟩
  rw [h3, hk, pMore_eq, hs]
  simp only [if_true]
  cases h4 : ((tk T (i + 1 + 4)).k == 44)
  · simp only [Bool.false_eq_true, if_false]
    cases h5 : ((tk T (i + 1 + 4)).k == 59) <;> simp
  · simp only [if_true]
    cases pMore T (i + 1 + 5) <;> simp
theorem slsP_dead {T : List PT} {i0 i : Nat} {l : List Sl} (h : SlsP T i0 i l) (hk : ((tk T i).k == 44) = true) (hs : Dead T (slR T (i + 1))) : pFrame T i0 = none := by
  obtain ⟨h1, h2, h3⟩ := h
  rw [h3, hk]
  simp only [if_true]
  have : pMore T (i + 1) = none := by
    rcases hs with h | ⟨a, j, h, hx⟩
    · unfold slR at h
      split at h
      · simp at h
      · rename_i hs
        exact pMore_no (by simpa using hs)
    · unfold slR at h
      split at h
      · rename_i hs
        simp at h
        obtain ⟨_, rfl⟩ := h
        exact pMore_cut hs (by omega) (by omega)
      · simp at h
  rw [this]
theorem slsP_x {T : List PT} {i0 i : Nat} {l : List Sl} (h : SlsP T i0 i l) (hk : ((tk T i).k == 44) = true) (hx : (tk T (i + 1)).k = 120) : pFrame T i0 = none := by
  refine slsP_dead h hk (.inl ?_)
  unfold slR
  rw [if_neg (by simp [slOk, isName, hx])]
theorem slsP_end {T : List PT} {i0 i : Nat} {l : List Sl} (h : SlsP T i0 i l) (hk : ((tk T i).k == 44) = false) : pFrame T i0 = if (tk T i).k == 59 then some (l, i + 1) else none := by
  rw [h.2.2, hk]; rfl

/-- The memory of takeFrame. -/
structure FW (er : Nat) (w wk : World) (b : Nat) (s : ByteArray) (i : Nat) (v : Value) (n : Nat) (xs : List Value) : Prop where
  rs : RS er wk b s i
  ow : wk.ownsRow w.heap.size 106 3 v n xs
  g : w.grownBy wk (some b)
  hb : b < w.heap.size
section
variable {w wk : World} {b : Nat} {s : ByteArray} {i : Nat} {er : Nat} {v : Value} {n : Nat} {xs : List Value}
theorem FW.call (h : FW er w wk b s i v n xs) {w' : World} {i' : Nat} (p : RS er w' b s i') (g : wk.grownBy w' (some b)) : FW er w w' b s i' v n xs :=
  ⟨p, h.ow.kept g (.inr (own_ge h.ow h.hb)), grownBy_trans h.g g, h.hb⟩
theorem FW.push (h : FW er w wk b s i v n xs) {o : Obj} {w2 : World} {v' : Value} {news : List Value} {m : Nat} (hg : (wk.alloc o).grownBy w2 v.ownBlock) (hown : w2.ownsRow w.heap.size 106 3 v' m news) : FW er w w2 b s i v' m news := by
  have hb := h.hb
  have hsz := h.g.size
  refine ⟨h.rs.keep ?_, hown, ?_, hb⟩
  · rw [hg.block b (by simp; omega) (fun e => own_ge h.ow hb e.symm), Below.heap_alloc _ _ _ (by omega)]
  · have ha := grownBy_alloc' h.g o
    refine ⟨hg.os.trans ha.os, hg.tape.trans ha.tape, hg.output.trans ha.output, Nat.le_trans ha.size hg.size, fun k hk hne => ?_⟩
    rw [hg.block k (by simp; omega) (fun e => own_ge h.ow hk e.symm)]
    exact ha.block k hk hne

def FrOut (er : Nat) (s : ByteArray) (b i : Nat) (w : World) (en : Ending) (w' : World) : Prop :=
  w.grownBy w' (some b) ∧ ((∃ p, en = pan er p ∧ Dead (allToks s.data.toList) (pFrame (allToks s.data.toList) i)) ∨
    (∃ l j v, pFrame (allToks s.data.toList) i = some (l, j) ∧ RS er w' b s j ∧ en = .returned v ∧ l.length ≤ 200 ∧ w'.ownsRow w.heap.size 106 3 v l.length (slPs l)))

set_option maxRecDepth 100000 in
set_option maxHeartbeats 4000000 in
theorem takeFrame_any (h : RS er w b s i) :
    Calls Tryz.prog 104 #[.pointer (some ⟨b, 0, none⟩)] w (FrOut er s b i w) := by
  obtain ⟨i0, hi0, hz0, hz1, hz2⟩ := info_parts Tryz.infoPSl
  have hlt := blk_lt h.h
  have hTl : (allToks s.data.toList).length ≤ 802 := by
    have h1 := toks_le (s.data.toList.length + 1) s.data.toList 0
    have h2 := h.hs
    have h3 : s.data.toList.length = s.size := by simp
    unfold allToks
    omega
  have hsemi := seesP_semi s.data.toList i
  unfold seesP at hsemi
  have Hsemi := hide hsemi
  have hcom := fun j => s_comma s.data.toList j
  unfold seesP at hcom
  have Hcom := hide hcom
  clear hsemi hcom
  go_enter Tryz.func104, Tryz.ntmps104
  go_wp2_with fail
  refine (sees_any h ⟨#[59]⟩).mono ?_
  rintro e w' ⟨rfl, hww⟩
  have hww := hww.symm
  subst hww
  rw [Hsemi.out]
  cases hk : ((tk (allToks s.data.toList) i).k == 59)
  · have Hk := hide hk
    clear hk
    go_wp2_with fail
    refine (takeSlice_any h).mono ?_
    rintro e w1 ⟨hg, hcase⟩
    rcases hcase with ⟨p, rfl, hd⟩ | ⟨hok, hrs, rfl⟩
    · exact ⟨rfl, hg, .inl ⟨p, rfl, .inl (pFrame_first hd Hk.out)⟩⟩
    have hS := hide (slsP_first hok Hk.out)
    have F0 : FW er w (w1.alloc (.cells #[.int .u8 (slAt (allToks s.data.toList) i).nm.toNat, .int .i64 (slAt (allToks s.data.toList) i).job, .int .i64 (slAt (allToks s.data.toList) i).bud] 106)) b s (i + 4) (.slice (some ⟨w1.heap.size, 0, none⟩) 1 1) 1 (slPs [slAt (allToks s.data.toList) i]) :=
      ⟨hrs.alloc _, World.ownsRow_lit (base := w.heap.size) (size := 3) w1 #[.int .u8 (slAt (allToks s.data.toList) i).nm.toNat, .int .i64 (slAt (allToks s.data.toList) i).job, .int .i64 (slAt (allToks s.data.toList) i).bud] 1 hg.size (by decide) rfl, grownBy_alloc' hg _, hlt⟩
    have H0 := hide F0
    clear F0 hg hok hrs h Hk
    unfold slRaw
    go_wp2_with fail
    go_loopw [3] (fun v wr => ∃ (j : Nat) (l : List Sl), FW er w wr b s j v l.length (slPs l) ∧ SlsP (allToks s.data.toList) i j l) (fun v _ => 300 - lenOf (some v))
    case atStart => exact ⟨i + 4, [_], H0.out, hS.out⟩
    case round =>
      clear H0 hS
      obtain ⟨j, l, hF, hP⟩ := hrel
      obtain ⟨va, vc, rfl⟩ := own_slice hF.ow
      have hj := hF.rs.hi
      have hl : l.length ≤ 161 := by have := hP.1; omega
      have HF := hide hF
      have HP := hide hP
      clear hP
      go_wp2_with fail
      refine (sees_any hF.rs ⟨#[44]⟩).mono ?_
      clear hF
      rintro e w' ⟨rfl, rfl⟩
      rw [Hcom.out]
      cases hk : ((tk (allToks s.data.toList) j).k == 44)
      · have Hk := hide hk
        clear hk
        go_wp2_with fail
        refine (takeText_any HF.out.rs ⟨#[59]⟩ (by rw [ByteArray.toList_eq]; decide)).mono ?_
        rintro e w2 ⟨hg, hcase⟩
        rw [seesP_semi] at hcase
        have hend := slsP_end HP.out Hk.out
        have hgw := grownBy_trans HF.out.g hg
        rcases hcase with ⟨h0, rfl⟩ | ⟨h0, h1, rfl⟩ | ⟨h0, h1, rfl⟩
        · exact ⟨rfl, hgw, .inl ⟨_, rfl, .inl (by rw [hend, h0]; rfl)⟩⟩
        · exact ⟨rfl, hgw, .inl ⟨_, rfl, .inr ⟨l, j + 1, by rw [hend, h0]; rfl, h1⟩⟩⟩
        · have H2 := hide (HF.out.call h1 hg)
          have hfin : Hid (pFrame (allToks s.data.toList) i = some (l, j + 1)) := by unfold Hid; rw [hend, h0]; rfl
          clear hg hend hgw h0 h1
          go_wp2
          go_ret
          exact ⟨H2.out.g, .inr ⟨l, j + 1, _, hfin.out, H2.out.rs, rfl, by omega, H2.out.ow⟩⟩
      · have Hk := hide hk
        have hfin : (tk (allToks s.data.toList) j).fin = false := by
          simp at hk
          unfold PT.fin
          rw [hk]; rfl
        clear hk
        go_wp2_with fail
        refine (take_any HF.out.rs hfin).mono ?_
        rintro e w2 ⟨hg, hcase⟩
        have hgw := grownBy_trans HF.out.g hg
        rcases hcase with ⟨h1, rfl⟩ | ⟨h1, rfl⟩
        · exact ⟨rfl, hgw, .inl ⟨_, rfl, .inl (slsP_x HP.out Hk.out h1)⟩⟩
        have H2 := hide (HF.out.call h1 hg)
        clear hg hgw h1 hfin
        go_wp2_with fail
        refine (takeSlice_any H2.out.rs).mono ?_
        rintro e w3 ⟨hg, hcase⟩
        have hgw := grownBy_trans H2.out.g hg
        rcases hcase with ⟨p, rfl, hd⟩ | ⟨hok, hrs, rfl⟩
        · exact ⟨rfl, hgw, .inl ⟨p, rfl, .inl (slsP_dead HP.out Hk.out hd)⟩⟩
        have H3 := hide (H2.out.call hrs hg)
        have hP3 := hide (slsP_more HP.out Hk.out hok)
        have hws := hgw.size
        clear hg hgw hrs hok H2
        have ow3 := H3.out.ow
        unfold slRaw
        go_wp2_with (at_builtin; refine wpList_append_own _ rfl _ _ 104 rfl w.heap.size 106 i0 _ 3 24 Tryz.underlying104 hi0 hz0 hz1 hz2 rfl (by decide) _ _ _ rfl (ow3.alloc _) ⟨w3.heap.size, 0, none⟩ 1 1 (slP (slAt (allToks s.data.toList) (j + 1))) rfl rfl ?c1 ?c2 ?c3 ?c4 ?c5 ?_)
        case c1 => exact cells_new w3 #[_, _, _] _ _ rfl
        case c2 => simp [slP, Value.oneCell']
        case c3 => unfold maxLen; omega
        case c4 => omega
        case c5 => simp; omega
        intro v' w4 hown4 hgr _
        have S4 := H3.out.push hgr hown4
        have hsl : slPs l ++ slP (slAt (allToks s.data.toList) (j + 1)) = slPs (l ++ [slAt (allToks s.data.toList) (j + 1)]) := by
          unfold slPs
          rw [List.flatMap_append]
          simp
        rw [hsl] at S4
        obtain ⟨va', vc', rfl⟩ := own_slice S4.ow
        have H4 := hide S4
        clear hown4 hgr ow3 H3 hsl S4
        go_wp2
        go_roundw
        case rel => exact ⟨j + 1 + 4, l ++ [slAt (allToks s.data.toList) (j + 1)], by simpa using H4.out, hP3.out⟩
        case measure => simp [lenOf]; omega
  · have Hk := hide hk
    have hfin : (tk (allToks s.data.toList) i).fin = false := by
      simp at hk
      unfold PT.fin
      rw [hk]; rfl
    have hpf : Hid (pFrame (allToks s.data.toList) i = some ([], i + 1)) := by unfold Hid pFrame; rw [hk]; rfl
    clear hk
    go_wp2_with fail
    refine (take_any h hfin).mono ?_
    rintro e w2 ⟨hg, hcase⟩
    rcases hcase with ⟨h1, rfl⟩ | ⟨h1, rfl⟩
    · exact ⟨rfl, hg, .inl ⟨_, rfl, .inr ⟨[], i + 1, hpf.out, h1⟩⟩⟩
    · have Hg := hide hg
      have H1 := hide h1
      clear hg h1 h
      go_wp2
      go_ret
      exact ⟨Hg.out, .inr ⟨[], i + 1, _, hpf.out, H1.out, rfl, by simp, World.ownsRow_nil _ _ _ _⟩⟩
end
end Go.Proofs.YtbdffcjganlblaaGreatDoor
