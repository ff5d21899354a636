/-
  Own work. Traces without their marks; jobs that get what they have.
-/
import Derived.Test.YtbdffcjganlblaaGreatDoorRnCtoPrC
import Derived.Test.YtbdffcjganlblaaGreatDoorTbEtoTbF
import Derived.Deep.DeepCutAuto
namespace Go.Proofs.YtbdffcjganlblaaGreatDoor
set_option linter.unusedVariables false
set_option linter.unusedSimpArgs false

/-! ### Traces without their marks -/
def bareL : List UInt8 → List UInt8
  | [] => []
  | c :: r => if c = 33 then bareL (r.drop 1) else c :: bareL r
termination_by l => l.length
decreasing_by all_goals simp; try omega
theorem bareL_nil : bareL [] = [] := by rw [bareL]
theorem bareL_mark (r : List UInt8) (c : UInt8) : bareL (33 :: c :: r) = bareL r := by rw [bareL]; simp
theorem bareL_one {c : UInt8} (h : c ≠ 33) (r : List UInt8) : bareL (c :: r) = c :: bareL r := by rw [bareL, if_neg h]
/-- No mark stands open at the end. -/
def Shut (a : List UInt8) : Prop := ∀ b, bareL (a ++ b) = bareL a ++ bareL b
theorem shut_nil : Shut [] := fun b => by simp [bareL_nil]
theorem Shut.one {a : List UInt8} (h : Shut a) {c : UInt8} (hc : c ≠ 33) : Shut (a ++ [c]) ∧ bareL (a ++ [c]) = bareL a ++ [c] := by
  have e : bareL (a ++ [c]) = bareL a ++ [c] := by rw [h, bareL_one hc, bareL_nil]
  refine ⟨fun b => ?_, e⟩
  rw [e, List.append_assoc, h, List.append_assoc]
  show bareL a ++ bareL (c :: b) = _
  rw [bareL_one hc]
  rfl
theorem Shut.mark {a : List UInt8} (h : Shut a) (c : UInt8) : Shut (a ++ [33, c]) ∧ bareL (a ++ [33, c]) = bareL a := by
  have e : bareL (a ++ [33, c]) = bareL a := by rw [h, bareL_mark, bareL_nil, List.append_nil]
  refine ⟨fun b => ?_, e⟩
  rw [e, List.append_assoc, h]
  show bareL a ++ bareL (33 :: c :: b) = _
  rw [bareL_mark]

/-! ### Jobs that get all that they have -/
def barU (l : List FSl) (fr p : Nat) : UInt8 := match unitL l fr p with | none => 46 | some k => nmK l k
def barL (l : List FSl) (cyc fr : Nat) : Nat → List UInt8
  | 0 => []
  | u + 1 => barL l cyc fr u ++ [barU l fr (u % cyc)]
structure AI (l : List FSl) (cyc fr : Nat) (e : Nat → Nat) (u : Nat) (x : PZ) : Prop where
  want : ∀ i, i < l.length → 0 < x.left (numI l i) → x.want (numI l i) = x.left (numI l i) + e (numI l i)
  shut : Shut x.out
  bare : bareL x.out = barL l cyc fr u
  bars : (∀ k, e k = 0) → 33 ∉ x.out
theorem setL_same (L : Nat → Int) (k : Nat) (v : Int) : setL L k v k = v := by simp [setL]
theorem setL_other {L : Nat → Int} {k j : Nat} (v : Int) (h : j ≠ k) : setL L k v j = L j := by simp [setL, h]
theorem AI.unit {l : List FSl} {cyc fr c p i u : Nat} (G : Goes l cyc fr) {x : PZ} (h : PI l fr c p i x) (hi : i < l.length) (h1 : startI l fr i ≤ p) (cs : List Int) (e : Nat → Nat)
    (hw : ∀ c i, i < l.length → wantsL cs (c * cntTo l l.length + numI l i) (budK l (numI l i)) = (budK l (numI l i) + e (numI l i) : Nat)) (ha : AI l cyc fr e u x) :
    (∀ k, k < l.length → 0 < (prGive l (numI l i) (prNow l cs (numI l i) x)).left (numI l k) → (prGive l (numI l i) (prNow l cs (numI l i) x)).want (numI l k) = (prGive l (numI l i) (prNow l cs (numI l i) x)).left (numI l k) + e (numI l k)) ∧
    (prGive l (numI l i) (prNow l cs (numI l i) x)).out = x.out ++ [nmK l (numI l i)] ++ if (prGive l (numI l i) (prNow l cs (numI l i) x)).left (numI l i) = 0 ∧ 0 < e (numI l i) then [33, nmK l (numI l i)] else [] := by
  have h2 := h.i3 hi
  have hlt := used_lt hi h1 h2
  have hy : 0 < (prNow l cs (numI l i) x).left (numI l i) ∧ (prNow l cs (numI l i) x).want (numI l i) = (prNow l cs (numI l i) x).left (numI l i) + e (numI l i) ∧ (prNow l cs (numI l i) x).out = x.out ∧
      ∀ k, k ≠ numI l i → (prNow l cs (numI l i) x).left k = x.left k ∧ (prNow l cs (numI l i) x).want k = x.want k := by
    unfold prNow
    by_cases e0 : x.left (numI l i) = 0
    · rw [if_pos e0]
      obtain ⟨b1, _, _⟩ := beg_num G h hi h1 e0
      refine ⟨?_, ?_, rfl, fun k hk => ⟨setN_other _ hk, setL_other _ hk⟩⟩
      · show 0 < setN x.left (numI l i) (budK l (numI l i)) (numI l i)
        rw [setN_same]
        omega
      · show setL x.want (numI l i) (wantsL cs x.beg (budK l (numI l i))) (numI l i) = setN x.left (numI l i) (budK l (numI l i)) (numI l i) + (e (numI l i) : Int)
        rw [setL_same, setN_same, b1, hw c i hi]
        omega
    · rw [if_neg e0]
      exact ⟨by omega, ha.want i hi (by omega), rfl, fun k hk => ⟨rfl, rfl⟩⟩
  generalize prNow l cs (numI l i) x = y at *
  obtain ⟨y1, y2, y3, y4⟩ := hy
  have hne : ¬ y.want (numI l i) = 0 := by omega
  have eG : prGive l (numI l i) y = ⟨setN y.left (numI l i) (y.left (numI l i) - 1), setL y.want (numI l i) (y.want (numI l i) - 1), y.beg, y.out ++ [nmK l (numI l i)] ++ if y.left (numI l i) - 1 = 0 ∧ 0 < y.want (numI l i) - 1 then [33, nmK l (numI l i)] else []⟩ := by
    unfold prGive
    rw [if_neg hne]
  rw [eG]
  refine ⟨fun k hk => ?_, ?_⟩
  · show 0 < setN y.left (numI l i) (y.left (numI l i) - 1) (numI l k) → setL y.want (numI l i) (y.want (numI l i) - 1) (numI l k) = setN y.left (numI l i) (y.left (numI l i) - 1) (numI l k) + (e (numI l k) : Int)
    by_cases e1 : numI l k = numI l i
    · rw [e1, setL_same, setN_same]
      intro _
      omega
    · rw [setL_other _ e1, setN_other _ e1, (y4 _ e1).1, (y4 _ e1).2]
      exact ha.want k hk
  · show y.out ++ [nmK l (numI l i)] ++ (if y.left (numI l i) - 1 = 0 ∧ 0 < y.want (numI l i) - 1 then [33, nmK l (numI l i)] else []) = x.out ++ [nmK l (numI l i)] ++ (if setN y.left (numI l i) (y.left (numI l i) - 1) (numI l i) = 0 ∧ 0 < e (numI l i) then [33, nmK l (numI l i)] else [])
    rw [setN_same, y3]
    congr 1
    have : (y.left (numI l i) - 1 = 0 ∧ 0 < y.want (numI l i) - 1) ↔ (y.left (numI l i) - 1 = 0 ∧ 0 < e (numI l i)) := by omega
    by_cases e1 : y.left (numI l i) - 1 = 0 ∧ 0 < e (numI l i)
    · rw [if_pos e1, if_pos (this.2 e1)]
    · rw [if_neg e1, if_neg (fun z => e1 (this.1 z))]
theorem AI.all {l : List FSl} {cyc fr : Nat} (G : Goes l cyc fr) (cs : List Int) (e : Nat → Nat) (hn : ∀ i, i < l.length → (fsk l i).2.nm ≠ 33)
    (hw : ∀ c i, i < l.length → wantsL cs (c * cntTo l l.length + numI l i) (budK l (numI l i)) = (budK l (numI l i) + e (numI l i) : Nat)) : ∀ u, AI l cyc fr e u (prT l cyc fr cs u)
  | 0 => ⟨fun i _ h => absurd h (by simp [prT]), shut_nil, bareL_nil, fun _ => by simp [prT]⟩
  | u + 1 => by
    have ih := AI.all G cs e hn hw u
    obtain ⟨i, h⟩ := PI.all G cs u
    rw [prT]
    by_cases hg : i < l.length ∧ startI l fr i ≤ u % cyc
    · obtain ⟨hi, h1⟩ := hg
      obtain ⟨a, i', b, hlast, _⟩ := PI.some G h hi h1 cs
      obtain ⟨c1, c2⟩ := AI.unit G h hi h1 cs e hw ih
      have eu : unitL l fr (u % cyc) = some (numI l i) := by unfold unitL; rw [a]; rfl
      have hnm : nmK l (numI l i) ≠ 33 := by rw [nmK_num hi]; exact hn i hi
      have eb : barL l cyc fr (u + 1) = barL l cyc fr u ++ [nmK l (numI l i)] := by
        rw [barL]
        unfold barU
        rw [eu]
      rw [eu]
      show AI l cyc fr e (u + 1) (prGive l (numI l i) (prNow l cs (numI l i) (prT l cyc fr cs u)))
      obtain ⟨s1, s2⟩ := ih.shut.one hnm
      by_cases hz : (prGive l (numI l i) (prNow l cs (numI l i) (prT l cyc fr cs u))).left (numI l i) = 0 ∧ 0 < e (numI l i)
      · rw [if_pos hz] at c2
        obtain ⟨s3, s4⟩ := s1.mark (nmK l (numI l i))
        refine ⟨c1, by rw [c2]; exact s3, by rw [c2, s4, s2, ih.bare, eb], fun h0 => ?_⟩
        have := h0 (numI l i)
        omega
      · rw [if_neg hz, List.append_nil] at c2
        refine ⟨c1, by rw [c2]; exact s1, by rw [c2, s2, ih.bare, eb], fun h0 => ?_⟩
        rw [c2, List.mem_append]
        rintro (h5 | h5)
        · exact ih.bars h0 h5
        · simp at h5
          exact hnm h5.symm
    · obtain ⟨a, b, _⟩ := PI.none G h (fun hi => by omega) ((prT l cyc fr cs u).out ++ [46])
      have eu : unitL l fr (u % cyc) = none := by unfold unitL; rw [a]; rfl
      have eb : barL l cyc fr (u + 1) = barL l cyc fr u ++ [46] := by
        rw [barL]
        unfold barU
        rw [eu]
      rw [eu]
      obtain ⟨s1, s2⟩ := ih.shut.one (show (46 : UInt8) ≠ 33 by decide)
      refine ⟨ih.want, s1, by rw [eb]; show bareL (_ ++ [46]) = _; rw [s2, ih.bare], fun h0 => ?_⟩
      show 33 ∉ (prT l cyc fr cs u).out ++ [46]
      rw [List.mem_append]
      rintro (h5 | h5)
      · exact ih.bars h0 h5
      · simp at h5
end Go.Proofs.YtbdffcjganlblaaGreatDoor

namespace Go.Proofs.YtbdffcjganlblaaGreatDoor
set_option linter.unusedVariables false
set_option linter.unusedSimpArgs false

theorem goes_of_sound {t : Tb} (h : Sound t) : Goes (flatF 0 t.fs) t.cyc t.fr := by
  obtain ⟨f1, f2, n1, n2, hl⟩ := h.frames
  have hr := flatF_rises t.fs 0
  have hb := (budR_flat t.fr t.fs 0 [] (fun i _ => rfl)).2 h.bud
  refine ⟨?_, ?_, ?_, ?_, f1, h.c1⟩
  · intro i hi
    have := hr i (i + 1) (by omega) hi (by omega)
    rw [fsk_eq (by omega), fsk_eq hi] at this
    exact this
  · intro i hi
    have := (hb i hi).1
    rwa [fsk_eq hi] at this
  · intro i hi
    have := (hb i hi).2
    rwa [fsk_eq hi] at this
  · intro i hi
    have hm : fsk (flatF 0 t.fs) i ∈ flatF 0 t.fs := by rw [← fsk_eq hi]; exact List.getElem_mem _
    obtain ⟨_, h2, _⟩ := flatF_mem t.fs 0 _ hm
    have h3 := Nat.mul_le_mul_right t.fr (show (fsk (flatF 0 t.fs) i).1 + 1 ≤ t.fs.length by omega)
    rw [Nat.mul_comm t.fs.length, h.c3] at h3
    exact h3
/-- How many slices lie ahead of frame j. -/
def baseJ (fs : List (List Sl)) (j : Nat) : Nat := (flatF 0 (fs.take j)).length
theorem base_zero (fs : List (List Sl)) : baseJ fs 0 = 0 := by simp [baseJ, flatF]
theorem base_all (fs : List (List Sl)) : baseJ fs fs.length = (flatF 0 fs).length := by simp [baseJ]
theorem base_next {fs : List (List Sl)} {j : Nat} (hj : j < fs.length) : baseJ fs (j + 1) = baseJ fs j + (frk fs j).length := by
  unfold baseJ
  rw [flatF_len, flatF_len, List.take_succ_eq_append_getElem hj, frk_eq hj]
  simp
theorem base_le {fs : List (List Sl)} {j : Nat} (hj : j < fs.length) : baseJ fs j + (frk fs j).length ≤ (flatF 0 fs).length := by
  have h1 := flat_split fs j 0 hj
  have h2 := congrArg List.length h1
  simp only [List.length_append, List.length_map] at h2
  unfold baseJ
  omega
theorem flat_at {fs : List (List Sl)} {j k : Nat} (hj : j < fs.length) (hk : k < (frk fs j).length) : fsk (flatF 0 fs) (baseJ fs j + k) = (j, slk (frk fs j) k) := by
  have hlt : baseJ fs j + k < (flatF 0 fs).length := by have := base_le hj; omega
  have h1 := flat_split fs j 0 hj
  rw [← fsk_eq hlt]
  have e : (flatF 0 fs)[baseJ fs j + k]? = some (j, slk (frk fs j) k) := by
    rw [h1]
    unfold baseJ
    rw [List.getElem?_append_right (by omega), Nat.add_sub_cancel_left, List.getElem?_append_left (by simpa using hk), List.getElem?_map, List.getElem?_eq_getElem hk, slk_eq hk]
    simp
  rw [List.getElem?_eq_getElem hlt] at e
  exact Option.some.inj e
theorem used_none {l : List FSl} {j : Nat} (h : ∀ x ∈ l, x.1 ≠ j) : usedJ l j = 0 := by
  induction l with
  | nil => rfl
  | cons x r ih =>
    have h1 := h x (by simp)
    have h2 := ih (fun y hy => h y (by simp [hy]))
    simp [usedJ, h1, h2]
theorem used_base (fs : List (List Sl)) (j : Nat) (hj : j ≤ fs.length) : usedJ ((flatF 0 fs).take (baseJ fs j)) j = 0 := by
  have e : (flatF 0 fs).take (baseJ fs j) = flatF 0 (fs.take j) := by
    rcases Nat.lt_or_ge j fs.length with h | h
    · have h1 := flat_split fs j 0 h
      conv => lhs; rw [h1]
      unfold baseJ
      rw [List.take_left]
    · have : j = fs.length := by omega
      subst this
      rw [base_all, List.take_length, List.take_length]
  rw [e]
  apply used_none
  intro x hx
  obtain ⟨_, h2, _⟩ := flatF_mem (fs.take j) 0 x hx
  simp at h2
  omega
/-- Where slice k of frame j begins; and where the frame's last one ends. -/
def atK (fs : List (List Sl)) (fr j k : Nat) : Nat := j * fr + usedJ ((flatF 0 fs).take (baseJ fs j + k)) j
theorem atK_zero {fs : List (List Sl)} {fr j : Nat} (hj : j ≤ fs.length) : atK fs fr j 0 = j * fr := by
  unfold atK
  rw [Nat.add_zero, used_base fs j hj]
  rfl
theorem atK_start {fs : List (List Sl)} {fr j k : Nat} (hj : j < fs.length) (hk : k < (frk fs j).length) : startI (flatF 0 fs) fr (baseJ fs j + k) = atK fs fr j k := by
  unfold startI atK
  rw [flat_at hj hk]
theorem atK_next {fs : List (List Sl)} {fr j k : Nat} (hj : j < fs.length) (hk : k < (frk fs j).length) : atK fs fr j (k + 1) = atK fs fr j k + (slk (frk fs j) k).bud := by
  have hlt : baseJ fs j + k < (flatF 0 fs).length := by have := base_le hj; omega
  unfold atK
  rw [← Nat.add_assoc (baseJ fs j) k 1, usedJ_next hlt, flat_at hj hk]
  simp
  omega
theorem job_small {t : Tb} (h : Sound t) : ∀ i, i < (flatF 0 t.fs).length → (fsk (flatF 0 t.fs) i).2.job ≤ 9999 ∧ (fsk (flatF 0 t.fs) i).2.bud ≤ 60 ∧ (fsk (flatF 0 t.fs) i).small := by
  intro i hi
  have hm : fsk (flatF 0 t.fs) i ∈ flatF 0 t.fs := by rw [← fsk_eq hi]; exact List.getElem_mem _
  obtain ⟨_, h2, f, hf, hx⟩ := flatF_mem t.fs 0 _ hm
  obtain ⟨_, h3⟩ := h.small f hf
  obtain ⟨a, b, c⟩ := h3 _ hx
  obtain ⟨_, _, _, n2, _⟩ := h.frames
  exact ⟨by omega, c, by unfold FSl.small; omega⟩
theorem flat_len {t : Tb} (h : Sound t) : (flatF 0 t.fs).length ≤ 60 := by
  rw [flatF_len]
  exact h.frames.2.2.2.2
end Go.Proofs.YtbdffcjganlblaaGreatDoor

namespace Go.Proofs.YtbdffcjganlblaaGreatDoor
open Go.RowKit Go.Maps
set_option linter.unusedVariables false
set_option linter.unusedSimpArgs false

theorem Tryz.infoJR : (Tryz.prog.info? 122).map (fun i => (i.zero, i.size, i.bytes)) = some (some (.pointer none), 1, 8) := by kernel_rfl
def nilsA (c : Nat) : Array Value := madeCells (Value.pointer none).cells c
theorem nilsA_at (c j : Nat) (h : j < c) : (nilsA c)[j]? = some (.pointer none) := by
  simp [nilsA, madeCells, h, Value.cells, Nat.mod_one]
theorem make_jobs (c : Nat) (hc : c ≤ 1000) (w : World) : (Instr.makeSlice 119 (.int .i64 c) (.int .i64 c)).run Tryz.prog w = .ok (.slice (some ⟨w.heap.size, 0, none⟩) c c) (w.alloc (.cells (nilsA c) 122)) := by
  obtain ⟨i0, hi, hz0, hz1, hz2⟩ := info_parts Tryz.infoJR
  have := run_make (P := Tryz.prog) w 119 122 i0 _ Tryz.underlying119 hi hz0 .i64 .i64 c c (by omega) (by omega) (by rw [hz2]; omega) (by omega)
  rw [hz1] at this
  simpa [nilsA] using this
theorem UX.start (w : World) (tv : Array Value) (cyc fr : Nat) (l : List FSl) : UX w (((w.alloc (.cells tv 61)).alloc (.cells (nilsA cyc) 122)).alloc (.map #[] 0)) tv cyc fr l 0 0 0 0 [] := by
  have h0 := blk_new w tv 61
  have h1 := blk_new (w.alloc (.cells tv 61)) (nilsA cyc) 122
  simp only [World.size_alloc] at h1
  have b1 := below_new (w.alloc (.cells tv 61)) (.cells (nilsA cyc) 122)
  have b2 := below_new ((w.alloc (.cells tv 61)).alloc (.cells (nilsA cyc) 122)) (.map #[] 0)
  have hm := KMap.made ((w.alloc (.cells tv 61)).alloc (.cells (nilsA cyc) 122))
  simp only [World.size_alloc] at hm
  refine ⟨blk_keep (blk_keep h0 b1) b2, ⟨nilsA cyc, blk_keep h1 b2, fun u hu => ?_⟩, hm, fun k hk => by simp at hk, fun a b ha => by simp at ha, rfl, Nat.zero_le _, ((below_new w _).alloc (by simp) _).alloc (by simp; omega) _⟩
  rw [nilsA_at cyc u hu]
  unfold uvV
  simp only [atTo]
  rw [if_neg (by omega)]

theorem eq_nil (o : Option Addr) (w : World) : (binOp .eql 122 (.pointer o) (.pointer none)).run Tryz.prog w = .ok (.bool (o == none)) w := by
  have h : ∀ d : Nat, (Op.equalIn (d + 1) 122 (.pointer o) (.pointer none)).run Tryz.prog w = .ok (o == none) w := fun d => by
    cases o <;> simp [Op.equalIn, run_underlying Tryz.underlying122, sizeOf, typeInfo]
  simp only [binOp]
  simp [Op.equal, Op.maxDepth, h 9999]
theorem hadK_small {t : Tb} (h : Sound t) (k q : Nat) (hq : q ≤ (flatF 0 t.fs).length) : hadK (flatF 0 t.fs) k q ≤ 599940 := by
  have := spotTo_cost (fun i hi => (job_small h i hi).2.2) (fsk (flatF 0 t.fs) (jobI (flatF 0 t.fs) k)).2.nm (fsk (flatF 0 t.fs) (jobI (flatF 0 t.fs) k)).2.job q hq
  have h2 := flat_len h
  have h3 : q * 9999 ≤ 60 * 9999 := Nat.mul_le_mul_right _ (by omega)
  unfold hadK
  omega

set_option maxRecDepth 100000 in
set_option maxHeartbeats 8000000 in
theorem units_any (t : Tb) (a : Option Addr) (cc : Nat) (w : World) (hr : FvA w a t.fs) (hS : Sound t) :
    Calls Tryz.prog 75 #[.agg #[.int .i64 t.cyc, .int .i64 t.fr, .slice a t.fs.length cc]] w fun e w' => ∃ P, e = .returned (.slice (some ⟨w.heap.size + 1, 0, none⟩) t.cyc t.cyc) ∧ UX w w' #[.int .i64 t.cyc, .int .i64 t.fr, .slice a t.fs.length cc] t.cyc t.fr (flatF 0 t.fs) (flatF 0 t.fs).length 0 (flatF 0 t.fs).length (flatF 0 t.fs).length P := by
  obtain ⟨f1, f2, n1, n2, _⟩ := hS.frames
  have hc1 := hS.c1
  have hc2 := hS.c2
  have hll := flat_len hS
  have hG := hide (goes_of_sound hS)
  have Hsm := hide (job_small hS)
  have Hbl := hide (fun j (hj : j < t.fs.length) => base_le hj)
  have Hhad := hide (fun k q hq => hadK_small hS k q hq)
  have H0 := hide (UX.start w #[.int .i64 t.cyc, .int .i64 t.fr, .slice a t.fs.length cc] t.cyc t.fr (flatF 0 t.fs))
  have hmk := make_jobs t.cyc (by omega)
  have hmm := @run_makeMap Tryz.prog
  have Hr := hide hr
  have Hba := hide (base_all t.fs)
  have HJs : Hid (∀ i, i < (flatF 0 t.fs).length → (fsk (flatF 0 t.fs) i).2.job ≤ 9999) := fun i hi => (Hsm.out i hi).1
  clear hr hS
  go_enter Tryz.func75, Tryz.ntmps75
  go_wp2_with fail
  clear hmk hmm
  go_loopw [18] (fun i wr => ∃ (j : Nat) (P : List Nat), j ≤ t.fs.length ∧ i = .int .i64 j ∧ UX w wr #[.int .i64 t.cyc, .int .i64 t.fr, .slice a t.fs.length cc] t.cyc t.fr (flatF 0 t.fs) (baseJ t.fs j) 0 (baseJ t.fs j) (baseJ t.fs j) P) (fun i _ => 200 - (intOf i).toNat)
  case atStart => exact ⟨0, [], by omega, rfl, by rw [base_zero]; exact H0.out⟩
  case round =>
    clear H0
    obtain ⟨j, P, hj, rfl, hU⟩ := hrel
    by_cases hlt : j < t.fs.length
    · have hlt' : (j : Int) < t.fs.length := by omega
      obtain ⟨g, rfl, hg, hF⟩ := Hr.out (by omega)
      obtain ⟨fa, fc, hfc0, hfa⟩ := hF j hlt
      have hfc := (hU.bel.cell (p := ⟨g, j, none⟩) hg).trans hfc0
      have x := blk_cell hU.hx
      have hbl := Hbl.out j hlt
      have hjf : j * t.fr ≤ 3600 := Nat.le_trans (Nat.mul_le_mul (show j ≤ 60 by omega) f2) (by omega)
      have hmul : ((j : Int) * (t.fr : Int)) = ((j * t.fr : Nat) : Int) := by rw [Int.natCast_mul]
      have hm1 : 0 ≤ (j : Int) * (t.fr : Int) := by omega
      have hm2 : (j : Int) * (t.fr : Int) ≤ 3600 := by omega
      have Hmul : Hid (Value.int .i64 ((j : Int) * (t.fr : Int)) = .int .i64 (atK t.fs t.fr j 0)) := by unfold Hid; rw [hmul, atK_zero (by omega)]
      have HFA := hide hfa
      have HU := hide hU
      have hsz := hU.bel.size
      clear hfc0 hF hU hfa hmul
      go_wp2_with fail
      go_loopw [7, 29] (fun av i wr => ∃ (k : Nat) (P : List Nat), k ≤ (frk t.fs j).length ∧ i = .int .i64 k ∧ av = .int .i64 (atK t.fs t.fr j k) ∧ UX w wr #[.int .i64 t.cyc, .int .i64 t.fr, .slice (some ⟨g, 0, none⟩) t.fs.length cc] t.cyc t.fr (flatF 0 t.fs) (baseJ t.fs j + k) 0 (baseJ t.fs j + k) (baseJ t.fs j + k) P) (fun _ i _ => 200 - (intOf i).toNat)
      case atStart => exact ⟨0, P, by omega, rfl, Hmul.out, HU.out⟩
      case round =>
        clear HU x hfc hsz
        obtain ⟨k, P, hk, rfl, rfl, hU⟩ := hrel
        by_cases hkl : k < (frk t.fs j).length
        · have hkl' : (k : Int) < (frk t.fs j).length := by omega
          obtain ⟨gf, rfl, hgf, hrow⟩ := HFA.out (by omega)
          obtain ⟨r0, r1, r2⟩ := hrow.below hU.bel hgf k hkl
          have hq : baseJ t.fs j + k < (flatF 0 t.fs).length := by omega
          have hfq := flat_at hlt hkl
          have hst := atK_start (fr := t.fr) hlt hkl
          have hnx := atK_next (fr := t.fr) hlt hkl
          have hsm := Hsm.out _ hq
          rw [hfq] at hsm
          obtain ⟨hjb, hbd, _⟩ := hsm
          have hfin := hG.out.fin_cyc hq
          unfold stopI at hfin
          rw [hst, hfq] at hfin
          simp only at hjb hbd hfin
          have HU := hide hU
          have hsz := hU.bel.size
          have Hnx := hide hnx
          have Hst := hide hst
          have Hfq := hide hfq
          clear hU hrow hnx hst hfq
          generalize hQ : baseJ t.fs j + k = q at *
          have HQ := hide hQ
          clear hQ
          generalize hY : slk (frk t.fs j) k = y at *
          clear hY
          generalize hT : atK t.fs t.fr j k = T at *
          clear hT
          obtain ⟨o, hlook, ho⟩ : ∃ o : Option Addr, (Instr.lookup 162 (.map (some (w.heap.size + 1 + 1))) (.agg #[.int .u8 y.nm.toNat, .int .i64 y.job]) false).run Tryz.prog ((wr.alloc (.cells #[.int .u8 y.nm.toNat, .int .i64 y.job, .int .i64 y.bud] 106)).alloc (.cells #[.int .u8 y.nm.toNat, .int .i64 y.job] 164)) = .ok (.pointer o) ((wr.alloc (.cells #[.int .u8 y.nm.toNat, .int .i64 y.job, .int .i64 y.bud] 106)).alloc (.cells #[.int .u8 y.nm.toNat, .int .i64 y.job] 164)) ∧
              Hid ((o = none ∧ jobI (flatF 0 t.fs) (numI (flatF 0 t.fs) q) = q) ∨ (o ≠ none ∧ jobI (flatF 0 t.fs) (numI (flatF 0 t.fs) q) ≠ q)) := by
            have h2 := (HU.out.keep (below_new wr (.cells #[.int .u8 y.nm.toNat, .int .i64 y.job, .int .i64 y.bud] 106))).keep (below_new _ (.cells #[.int .u8 y.nm.toNat, .int .i64 y.job] 164))
            by_cases hf : jobI (flatF 0 t.fs) (numI (flatF 0 t.fs) q) = q
            · have := (h2.look_none HJs.out hq rfl hf).1
              rw [Hfq.out] at this
              exact ⟨none, this, .inl ⟨rfl, hf⟩⟩
            · have h3 := h2.old hq hf
              have := h3.look_some HJs.out hq h3.job.1
              rw [Hfq.out] at this
              exact ⟨_, this, .inr ⟨by simp, hf⟩⟩
          have hnil := eq_nil o
          have hMw := HU.out.hm.lt
          go_upto_if 41 with (first | (at_lookup; refine wpList_look_at _ rfl _ _ _ rfl _ _ _ rfl rfl hlook ?_) | fail)
          go_cut [7] (fun av wc => av = .int .i64 T ∧ wc.heap[wr.heap.size]? = some (.cells #[.int .u8 y.nm.toNat, .int .i64 y.job, .int .i64 y.bud] 106 (0, 0)) ∧ wc.heap[wr.heap.size + 1]? = some (.cells #[.int .u8 y.nm.toNat, .int .i64 y.job] 164 (0, 0)) ∧ ∃ P', UX w wc #[.int .i64 t.cyc, .int .i64 t.fr, .slice (some ⟨g, 0, none⟩) t.fs.length cc] t.cyc t.fr (flatF 0 t.fs) q 0 (q + 1) q P')
          case first =>
            have hU2 := (HU.out.keep (below_new wr (.cells #[.int .u8 y.nm.toNat, .int .i64 y.job, .int .i64 y.bud] 106))).keep (below_new _ (.cells #[.int .u8 y.nm.toNat, .int .i64 y.job] 164))
            have s1 := blk_keep (blk_new wr #[.int .u8 y.nm.toNat, .int .i64 y.job, .int .i64 y.bud] 106) (below_new _ (.cells #[.int .u8 y.nm.toNat, .int .i64 y.job] 164))
            have s2 := blk_new (wr.alloc (.cells #[.int .u8 y.nm.toNat, .int .i64 y.job, .int .i64 y.bud] 106)) #[.int .u8 y.nm.toNat, .int .i64 y.job] 164
            have c10 := blk_cell s2 0
            have c11 := blk_cell s2 1
            have c00 := blk_cell s1 0
            simp only [World.size_alloc] at s2 c10 c11
            have S1 := hide s1
            have S2 := hide s2
            have HU2 := hide hU2
            clear hlook hnil s1 s2 hU2 HU r0 r1 r2
            rcases ho.out with ⟨rfl, hf⟩ | ⟨hne, hf⟩
            · obtain ⟨w3, hrun, hU3, hg3⟩ := UX.new hG.out HU2.out HJs.out (by omega) hq hf
              rw [Hfq.out] at hrun hg3
              have HU3 := hide hU3
              have HG3 := hide hg3
              have hrun' : (Instr.mapUpdate 162 (.map (some (w.heap.size + 1 + 1))) (.agg #[.int .u8 y.nm.toNat, .int .i64 y.job]) (.pointer (some ⟨wr.heap.size + 1 + 1, 0, none⟩))).run Tryz.prog (((wr.alloc (.cells #[.int .u8 y.nm.toNat, .int .i64 y.job, .int .i64 y.bud] 106)).alloc (.cells #[.int .u8 y.nm.toNat, .int .i64 y.job] 164)).alloc (.cells #[.int .u8 y.nm.toNat, .int .i64 0, .int .i64 0, .int .i64 0] 166)) = .ok () w3 := by
                simp only [World.size_alloc] at hrun
                exact hrun
              have hM := HU2.out.hm.lt
              clear hrun hU3 hg3 ho hf
              go_wp2_with (first | (at_mapUpdate; refine wpList_store_at _ rfl _ _ _ _ rfl _ _ _ rfl rfl rfl w3 hrun' ?_) | fail)
              go_meet
              case rel =>
                refine ⟨rfl, ?_, ?_, _, HU3.out⟩
                · rw [HG3.out.block wr.heap.size (by simp; omega) (fun e => by injection e with e; omega), Below.heap_alloc _ _ _ (by simp; omega)]
                  exact S1.out
                · rw [HG3.out.block (wr.heap.size + 1) (by simp) (fun e => by injection e with e; omega), Below.heap_alloc _ _ _ (by simp)]
                  exact S2.out
            · obtain ⟨ad, rfl⟩ := Option.ne_none_iff_exists'.1 hne
              have HU3 := hide (HU2.out.old hq hf)
              clear ho hf hne
              go_wp2_with fail
              go_meet
              case rel => exact ⟨rfl, S1.out, S2.out, _, HU3.out⟩
          case rest =>
            clear hlook hnil ho HU r0 r1 r2 hsz
            obtain ⟨rfl, s1, s2, P', hU⟩ := hcut
            generalize wr.heap.size = S0 at *
            obtain ⟨hk1, hk2, hk3⟩ := hU.job
            have hlk := hU.look_some HJs.out hq hk1
            rw [Hfq.out] at hlk
            have hl1 : (Instr.lookup 162 (.map (some (w.heap.size + 1 + 1))) (.agg #[.int .u8 y.nm.toNat, .int .i64 y.job]) false).run Tryz.prog wc.drew = .ok (.pointer (some ⟨P'.getD (numI (flatF 0 t.fs) q) 0, 0, none⟩)) wc.drew := by
              have h0 : UX w wc.drew #[.int .i64 t.cyc, .int .i64 t.fr, .slice (some ⟨g, 0, none⟩) t.fs.length cc] t.cyc t.fr (flatF 0 t.fs) q 0 (q + 1) q P' := ⟨hU.hx, hU.hu, hU.hm, hU.hj, hU.inj, hU.pl, hU.kl, hU.bel.drew⟩
              have := h0.look_some HJs.out hq hk1
              rw [Hfq.out] at this
              exact this
            have c02 := blk_cell s1 2
            have c10 := blk_cell s2 0
            have c11 := blk_cell s2 1
            have j1 : wc.cell? ⟨P'.getD (numI (flatF 0 t.fs) q) 0, 1, none⟩ = some (.int .i64 (hadK (flatF 0 t.fs) (numI (flatF 0 t.fs) q) q)) := by rw [blk_cell hk3]; rfl
            have jf := blk_frozen hk3
            have hhb := Hhad.out (numI (flatF 0 t.fs) q) q (by omega)
            have hUb := hU.bud hq
            rw [Hfq.out] at hUb
            simp only at hUb
            have e0 : ((hadK (flatF 0 t.fs) (numI (flatF 0 t.fs) q) q + y.bud : Nat) : Int) = (hadK (flatF 0 t.fs) (numI (flatF 0 t.fs) q) q : Int) + y.bud := by omega
            rw [e0] at hUb
            have HUb := hide hUb
            have hKJ : S0 + 1 ≠ P'.getD (numI (flatF 0 t.fs) q) 0 := by
              intro e
              rw [← e, s2] at hk3
              simp at hk3
            have S2 : Hid ((wc.setCell ⟨P'.getD (numI (flatF 0 t.fs) q) 0, 1, none⟩ (.int .i64 ((hadK (flatF 0 t.fs) (numI (flatF 0 t.fs) q) q : Int) + y.bud))).heap[S0 + 1]? = some (.cells #[.int .u8 y.nm.toNat, .int .i64 y.job] 164 (0, 0))) := by
              unfold Hid
              rw [Below.heap_setCell _ _ _ _ hKJ]
              exact s2
            have hSJ : S0 ≠ P'.getD (numI (flatF 0 t.fs) q) 0 := by
              intro e
              rw [← e, s1] at hk3
              simp at hk3
            have hSJ2 : ¬ P'.getD (numI (flatF 0 t.fs) q) 0 = S0 := fun e => hSJ e.symm
            have hSJ1 : ¬ S0 = P'.getD (numI (flatF 0 t.fs) q) 0 := hSJ
            clear hU hk2 hk3 hUb e0 s1 s2
            generalize hadK (flatF 0 t.fs) (numI (flatF 0 t.fs) q) q = HD at *
            generalize hPJ : P'.getD (numI (flatF 0 t.fs) q) 0 = J at *
            have HPJ := hide hPJ
            clear hPJ
            have hl2 := hide hlk
            clear hlk
            go_wp2_with fail
            go_region
            all_goals
              have HU3 := hide HUb.out.drew
              have S3 : Hid ((wc.setCell ⟨J, 1, none⟩ (.int .i64 ((HD : Int) + y.bud))).drew.heap[S0 + 1]? = some (.cells #[.int .u8 y.nm.toNat, .int .i64 y.job] 164 (0, 0))) := S2.out
              have hs2 : (wc.setCell ⟨J, 1, none⟩ (.int .i64 ((HD : Int) + y.bud))).drew.cell? ⟨S0, 2, none⟩ = some (.int .i64 y.bud) := by
                show (wc.setCell ⟨J, 1, none⟩ (.int .i64 ((HD : Int) + y.bud))).cell? ⟨S0, 2, none⟩ = _
                rw [set_other (by intro e; injection e with e1 _; exact hSJ2 e1)]
                exact c02
              generalize (wc.setCell ⟨J, 1, none⟩ (.int .i64 ((HD : Int) + y.bud))).drew = W3 at *
              clear hl1 hl2 c02 c10 c11 j1 jf hhb HUb S2 hSJ hSJ1 hSJ2 hKJ
              go_wp2_with fail
              clear hs2
              go_loopw [7, 61] (fun av i wr => ∃ r Z : Nat, r ≤ y.bud ∧ i = .int .i64 r ∧ av = .int .i64 Z ∧ Hid (Z = T + r) ∧ wr.heap[S0 + 1]? = some (.cells #[.int .u8 y.nm.toNat, .int .i64 y.job] 164 (0, 0)) ∧ UX w wr #[.int .i64 t.cyc, .int .i64 t.fr, .slice (some ⟨g, 0, none⟩) t.fs.length cc] t.cyc t.fr (flatF 0 t.fs) q r (q + 1) (q + 1) P') (fun _ i _ => 200 - (intOf i).toNat)
              case atStart => exact ⟨0, T, by omega, rfl, rfl, rfl, S3.out, HU3.out⟩
              case round =>
                clear S3 HU3
                obtain ⟨r, Z, hr, rfl, rfl, hZ, hK, hU⟩ := hrel
                by_cases hrl : r < y.bud
                · have hrl' : (r : Int) < y.bud := by omega
                  have hZ1 : (Z : Int) < t.cyc := by have := hZ.out; omega
                  have hlk := hU.look_some HJs.out hq hU.job.1
                  rw [Hfq.out] at hlk
                  have hlk' : (Instr.lookup 162 (.map (some (w.heap.size + 1 + 1))) (.agg #[.int .u8 y.nm.toNat, .int .i64 y.job]) false).run Tryz.prog wr = .ok (.pointer (some ⟨J, 0, none⟩)) wr := by rw [← HPJ.out]; exact hlk
                  have k0 := blk_cell hK 0
                  have k1 := blk_cell hK 1
                  obtain ⟨arr, ha1, ha2⟩ := hU.hu
                  have hcz := blk_cell ha1 Z
                  rw [ha2 Z (by have := hZ.out; omega)] at hcz
                  have hfz := blk_frozen ha1 Z
                  have hUn := hU.unit hG.out hq (by rw [Hfq.out]; exact hrl)
                  rw [Hst.out, ← hZ.out] at hUn
                  unfold ptrP at hUn
                  rw [HPJ.out] at hUn
                  have hne : S0 + 1 ≠ w.heap.size + 1 := by
                    intro e
                    rw [e, ha1] at hK
                    simp at hK
                  have HUn := hide hUn
                  have HK2 : Hid ((wr.setCell ⟨w.heap.size + 1, Z, none⟩ (.pointer (some ⟨J, 0, none⟩))).heap[S0 + 1]? = some (.cells #[.int .u8 y.nm.toNat, .int .i64 y.job] 164 (0, 0))) := by
                    unfold Hid
                    rw [Below.heap_setCell _ _ _ _ hne]
                    exact hK
                  clear hU hK ha1 ha2 hUn hlk hne
                  go_wp2_with (first | (at_lookup; refine wpList_look_at _ rfl _ _ _ rfl _ _ _ rfl rfl hlk' ?_) | fail)
                  go_roundw
                  case rel => exact ⟨r + 1, Z + 1, by omega, by go_num, by go_num, by have := hZ.out; unfold Hid; omega, HK2.out, HUn.out⟩
                  case measure => simp [intOf]; omega
                · have hre : r = y.bud := by omega
                  subst hre
                  have hrl' : ¬ (y.bud : Int) < y.bud := by omega
                  have HUn : Hid (UX w wr #[.int .i64 t.cyc, .int .i64 t.fr, .slice (some ⟨g, 0, none⟩) t.fs.length cc] t.cyc t.fr (flatF 0 t.fs) (q + 1) 0 (q + 1) (q + 1) P') := by
                    refine UX.next hG.out ?_ hq
                    rw [Hfq.out]
                    exact hU
                  clear hU hK
                  go_wp2_with fail
                  go_roundw
                  case rel => exact ⟨k + 1, P', by omega, by go_num, by rw [Hnx.out, hZ.out], by rw [← Nat.add_assoc, HQ.out]; exact HUn.out⟩
                  case measure => simp [intOf]; omega
        · have hkl' : ¬ (k : Int) < (frk t.fs j).length := by omega
          have hke : k = (frk t.fs j).length := by omega
          have HU2 : Hid (UX w wr #[.int .i64 t.cyc, .int .i64 t.fr, .slice (some ⟨g, 0, none⟩) t.fs.length cc] t.cyc t.fr (flatF 0 t.fs) (baseJ t.fs (j + 1)) 0 (baseJ t.fs (j + 1)) (baseJ t.fs (j + 1)) P) := by
            unfold Hid
            rw [base_next hlt, ← hke]
            exact hU
          clear hU hke
          go_wp2_with fail
          go_roundw
          case rel => exact ⟨j + 1, P, by omega, by go_num, HU2.out⟩
          case measure => simp [intOf]; omega
    · have hlt' : ¬ (j : Int) < t.fs.length := by omega
      have hje : j = t.fs.length := by omega
      subst hje
      rw [Hba.out] at hU
      have HU := hide hU
      clear hU
      go_wp2
      go_ret
      exact ⟨rfl, P, HU.out⟩
end Go.Proofs.YtbdffcjganlblaaGreatDoor
