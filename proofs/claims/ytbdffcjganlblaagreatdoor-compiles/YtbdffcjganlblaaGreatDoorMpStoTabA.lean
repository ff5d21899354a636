/-
  Own work. The program's plan: its map of the tasks' jobs.
-/
import Derived.Test.YtbdffcjganlblaaGreatDoorRefGtoHeC
import Derived.Maps.Keyed
import Derived.Maps.OwnOps
import Derived.DeepKeys4
namespace Go.Proofs.YtbdffcjganlblaaGreatDoor
open Go.RowKit Go.Maps
open Go.ChangeMaps (setBlock heap_setBlock_same heap_setBlock_other)
set_option linter.unusedVariables false
set_option linter.unusedSimpArgs false

theorem strLaw : Keyed Tryz.prog 9 := string_keyed Tryz.underlying9
def ltV (c : UInt8) : Value := .string (bs [c])
theorem ltV_inj {a b : UInt8} (h : ltV a = ltV b) : a = b := by
  unfold ltV at h
  injection h with h
  have := bs_inj.1 h
  simpa using this
theorem ltV_of (c : UInt8) : ∃ kl, keyOf Tryz.prog 9 (ltV c) = some kl := ⟨_, WideMaps.keyOf_string_mk Tryz.underlying9 (by rw [bs_size]; simp [maxLen])⟩
/-- The map in block M: each letter, and the slice that it leads to. -/
def SMap (w : World) (M : Nat) (es : List (UInt8 × Value)) : Prop :=
  ∃ arr clock, w.heap[M]? = some (.map arr clock) ∧ arr.toList.map (fun e => (e.key, e.val)) = es.map (fun x => (ltV x.1, x.2)) ∧ es.length ≤ 1000
theorem SMap.keep {w w' : World} {M : Nat} {es : List (UInt8 × Value)} (h : SMap w M es) (hb : w'.heap[M]? = w.heap[M]?) : SMap w' M es := by
  obtain ⟨arr, clock, h1, h2⟩ := h
  exact ⟨arr, clock, by rw [hb]; exact h1, h2⟩
theorem SMap.made (w : World) : SMap (w.alloc (.map #[] 0)) w.heap.size [] := ⟨#[], 0, (MapKept.heap_alloc w _).1, rfl, by simp⟩
theorem SMap.lt {w : World} {M : Nat} {es : List (UInt8 × Value)} (h : SMap w M es) : M < w.heap.size := by
  obtain ⟨arr, clock, h1, _⟩ := h
  exact (Array.getElem?_eq_some_iff.1 h1).1
theorem SMap.noCells {w : World} {M : Nat} {es : List (UInt8 × Value)} (h : SMap w M es) (c : Array Value) (ty : TypeId) (fr : Nat × Nat) : w.heap[M]? ≠ some (.cells c ty fr) := by
  obtain ⟨arr, clock, h1, _⟩ := h
  rw [h1]
  simp
theorem smap_keys {arr : Array MapEntry} {es : List (UInt8 × Value)} (h : arr.toList.map (fun e => (e.key, e.val)) = es.map (fun x => (ltV x.1, x.2))) : ∀ e ∈ arr.toList, ∃ l, keyOf Tryz.prog 9 e.key = some l := by
  intro e he
  have : (e.key, e.val) ∈ arr.toList.map (fun e => (e.key, e.val)) := List.mem_map.2 ⟨e, he, rfl⟩
  rw [h] at this
  obtain ⟨x, hx, ex⟩ := List.mem_map.1 this
  simp only [Prod.mk.injEq] at ex
  rw [← ex.1]
  exact ltV_of x.1
theorem zeroJobs (w : World) : (zeroValue 218).run Tryz.prog w = .ok (.slice none 0 0) w := by kernel_rfl
/-- A look-up. -/
theorem SMap.look {w : World} {M : Nat} {es : List (UInt8 × Value)} (h : SMap w M es) (k : UInt8) :
    ((∀ x ∈ es, x.1 ≠ k) ∧ (Instr.lookup 217 (.map (some M)) (ltV k) false).run Tryz.prog w = .ok (.slice none 0 0) w) ∨
    ∃ (j : Nat) (x : UInt8 × Value), es[j]? = some x ∧ x.1 = k ∧ (Instr.lookup 217 (.map (some M)) (ltV k) false).run Tryz.prog w = .ok x.2 w := by
  obtain ⟨arr, clock, hb, he, hl⟩ := h
  obtain ⟨kl, hkl⟩ := ltV_of k
  rcases strLaw.find w hkl arr.toList (smap_keys he) with ⟨h1, h2⟩ | ⟨j, e0, h1, h2, h3⟩
  · left
    refine ⟨fun x hx ex => ?_, ?_⟩
    · have : (ltV x.1, x.2) ∈ es.map (fun x => (ltV x.1, x.2)) := List.mem_map.2 ⟨x, hx, rfl⟩
      rw [← he] at this
      obtain ⟨e, hm, ee⟩ := List.mem_map.1 this
      simp only [Prod.mk.injEq] at ee
      exact h2 e hm (by rw [ee.1, ex])
    · simp [Instr.lookup, run_underlying Tryz.underlying217, MapKept.run_getObj_map hb, strLaw.check w _ hkl, h1, zeroJobs w, Result.andThen]
  · right
    have e1 : (arr.toList.map (fun e => (e.key, e.val)))[j]? = some (e0.key, e0.val) := by rw [List.getElem?_map, h2]; rfl
    rw [he, List.getElem?_map] at e1
    cases hx : es[j]? with
    | none => rw [hx] at e1; simp at e1
    | some x =>
      rw [hx] at e1
      simp only [Option.map_some, Option.some.injEq, Prod.mk.injEq] at e1
      refine ⟨j, x, hx, ltV_inj (e1.1.trans h3), ?_⟩
      simp [Instr.lookup, run_underlying Tryz.underlying217, MapKept.run_getObj_map hb, strLaw.check w _ hkl, h1, Result.andThen]
      exact e1.2.symm
/-- A new letter's store. -/
theorem SMap.store {w : World} {M : Nat} {es : List (UInt8 × Value)} (h : SMap w M es) (k : UInt8) (hn : ∀ x ∈ es, x.1 ≠ k) (hl : es.length + 1 ≤ 1000) (v : Value) :
    ∃ w', (Instr.mapUpdate 217 (.map (some M)) (ltV k) v).run Tryz.prog w = .ok () w' ∧ SMap w' M (es ++ [(k, v)]) ∧ w.grownBy w' (some M) := by
  obtain ⟨arr, clock, hb, he, _⟩ := h
  obtain ⟨kl, hkl⟩ := ltV_of k
  rcases strLaw.find w hkl arr.toList (smap_keys he) with ⟨h1, h2⟩ | ⟨j, e0, h1, h2, h3⟩
  · refine ⟨setBlock w M (.map (arr.push ⟨ltV k, v, clock⟩) (clock + 1)), ?_, ⟨_, _, heap_setBlock_same hb _, ?_, by simp; omega⟩, ⟨rfl, rfl, rfl, by simp [setBlock], fun i _ hi => heap_setBlock_other hb _ (fun e => hi (by rw [e]))⟩⟩
    · simp [Instr.mapUpdate, run_underlying Tryz.underlying217, MapKept.run_getObj_map hb, strLaw.check w false hkl, h1, MapKept.run_setObj_map _ hb, Result.andThen, setBlock]
    · rw [Array.toList_push, List.map_append, he, List.map_append]
      rfl
  · exfalso
    have e1 : (arr.toList.map (fun e => (e.key, e.val)))[j]? = some (e0.key, e0.val) := by rw [List.getElem?_map, h2]; rfl
    rw [he, List.getElem?_map] at e1
    cases hx : es[j]? with
    | none => rw [hx] at e1; simp at e1
    | some x =>
      rw [hx] at e1
      simp only [Option.map_some, Option.some.injEq, Prod.mk.injEq] at e1
      exact hn x (List.mem_of_getElem? hx) (ltV_inj (e1.1.trans h3))

/-- The jobs of each task, by its letter. -/
structure MapAt (js : List Jb) (bl : Nat → Nat) (M : Nat) (es : List (UInt8 × Value)) (w : World) : Prop where
  m : SMap w M es
  one : ∀ x ∈ es, ∀ y ∈ es, x.1 = y.1 → x = y
  each : ∀ x ∈ es, ∃ T : List Nat, RowJ w 0 x.2 bl T ∧ T.length ≤ 1000 ∧ (∀ k, k ∈ T ↔ k < js.length ∧ (jk js k).ltr = x.1) ∧ ∀ i, i < T.length → (jk js (gd T i)).num = i
theorem MapAt.same {js : List Jb} {bl : Nat → Nat} {M : Nat} {es : List (UInt8 × Value)} {w w' : World} (h : MapAt js bl M es w) (e : w'.heap = w.heap) : MapAt js bl M es w' :=
  ⟨h.m.keep (by rw [e]), h.one, fun x hx => by
    obtain ⟨T, h1, h2⟩ := h.each x hx
    exact ⟨T, ⟨h1.1, by rw [e]; exact h1.2⟩, h2⟩⟩
theorem MapAt.keep {js : List Jb} {bl : Nat → Nat} {M : Nat} {es : List (UInt8 × Value)} {w w' : World} {X : Nat → Prop} (h : MapAt js bl M es w) (hf : Frm X w w') (hM : ¬ X M) (hx : ∀ x ∈ es, ∀ b, x.2.ownBlock = some b → ¬ X b) : MapAt js bl M es w' :=
  ⟨h.m.keep (hf.block M h.m.lt hM), h.one, fun x hxe => by
    obtain ⟨T, h1, h2⟩ := h.each x hxe
    refine ⟨T, ⟨h1.1, ?_⟩, h2⟩
    rcases h1.2 with h3 | ⟨g, cap, cur, h3, h4, h5, h6⟩
    · exact .inl h3
    · refine .inr ⟨g, cap, cur, h3, h4, ?_, h6⟩
      exact hf.blk h5 (hx x hxe g (by rw [h3]; rfl))⟩
/-- A letter's look-up, whatever was drawn. -/
theorem MapAt.look {js : List Jb} {bl : Nat → Nat} {M : Nat} {es : List (UInt8 × Value)} {w : World} (h : MapAt js bl M es w) {x : UInt8 × Value} (hx : x ∈ es) : ∀ W : World, W.heap = w.heap → (Instr.lookup 217 (.map (some M)) (.string (bs [x.1])) false).run Tryz.prog W = .ok x.2 W := fun W hW => by
  rcases (h.same hW).m.look x.1 with ⟨h1, _⟩ | ⟨j', x', hj', hx', hlk'⟩
  · exact absurd rfl (h1 x hx)
  · have := h.one x' (List.mem_of_getElem? hj') x hx hx'
    subst this
    exact hlk'
theorem RowJ.cells {w : World} {base : Nat} {v : Value} {bl : Nat → Nat} {L : List Nat} (h : RowJ w base v bl L) : ∃ a cap, v = .slice a L.length cap ∧ ∀ i, i < L.length → ∃ g, a = some ⟨g, 0, none⟩ ∧ w.cell? ⟨g, i, none⟩ = some (.pointer (some ⟨bl (gd L i), 0, none⟩)) := by
  by_cases h0 : 0 < L.length
  · obtain ⟨g, cap, cur, hv, _, hg, _, _, _, hc⟩ := h.form h0
    exact ⟨_, cap, hv, fun i hi => ⟨g, rfl, by rw [blk_cell hg]; exact hc i hi⟩⟩
  · obtain ⟨a, cap, hv, _⟩ := h.len
    exact ⟨a, cap, hv, fun i hi => by omega⟩

set_option maxRecDepth 100000 in
set_option maxHeartbeats 2000000 in
theorem underWay_any (j : Jb) (l b : Nat) (w : World) (h : w.heap[b]? = some (.cells (jbV j l) 225 (0, 0))) :
    Calls Tryz.prog 211 #[.pointer (some ⟨b, 0, none⟩)] w fun e w' => e = .returned (.bool (decide (0 < l) && decide (l < j.cost))) ∧ w'.heap = w.heap ∧ Frm (fun _ => False) w w' := by
  have h6 : w.cell? ⟨b, 6, none⟩ = some (.int .i64 l) := by rw [blk_cell h]; rfl
  have h5 : w.cell? ⟨b, 5, none⟩ = some (.int .i64 j.cost) := by rw [blk_cell h]; rfl
  clear h
  by_cases h0 : 0 < l
  · have h0' : (0 : Int) < l := by omega
    have h0d : decide ((0 : Int) < l) = true := decide_eq_true h0'
    rw [decide_eq_true h0, Bool.true_and]
    go_enter Tryz.func211, Tryz.ntmps211
    go_wp2_with fail
    go_quiet (fail)
    go_wp2_with fail
    go_ret
    exact ⟨rfl, rfl, Frm.sames rfl rfl rfl rfl⟩
  · have h0' : ¬ (0 : Int) < l := by omega
    have h0d : decide ((0 : Int) < l) = false := decide_eq_false h0'
    rw [decide_eq_false h0, Bool.false_and]
    go_enter Tryz.func211, Tryz.ntmps211
    go_wp2_with fail
    go_quiet (fail)
    go_wp2_with fail
    go_ret
    exact ⟨rfl, rfl, Frm.sames rfl rfl rfl rfl⟩
end Go.Proofs.YtbdffcjganlblaaGreatDoor

namespace Go.Proofs.YtbdffcjganlblaaGreatDoor
set_option linter.unusedVariables false
set_option linter.unusedSimpArgs false

/-- A slice: whose job, and how much of it. -/
structure Sl where
  nm : UInt8
  job : Nat
  bud : Nat
/-- A table: the cycle, the frame, the frames' slices. -/
structure Tb where
  cyc : Nat
  fr : Nat
  fs : List (List Sl)

def wCycle : ByteArray := ⟨#[99, 121, 99, 108, 101]⟩
def wFrame : ByteArray := ⟨#[102, 114, 97, 109, 101]⟩

/-- Does a slice stand at token i, and which? -/
def slOk (T : List PT) (i : Nat) : Bool := isName (tk T i) && ((tk T (i + 1)).k == 110 && ((tk T (i + 2)).k == 58 && (tk T (i + 3)).k == 110))
def slAt (T : List PT) (i : Nat) : Sl := ⟨nameB (tk T i), (tk T (i + 1)).N, (tk T (i + 3)).N⟩

/-- The slices from token i on, up to the frame's end; the place behind it. -/
def pMore (T : List PT) (i : Nat) : Option (List Sl × Nat) :=
  if h : i < T.length then
    if slOk T i then
      if (tk T (i + 4)).k == 44 then (match pMore T (i + 5) with | none => none | some (l, k) => some (slAt T i :: l, k))
      else if (tk T (i + 4)).k == 59 then some ([slAt T i], i + 5) else none
    else none
  else none
termination_by T.length - i

theorem tk_out {T : List PT} {i : Nat} (h : T.length ≤ i) : tk T i = ⟨101, [], 0⟩ := by
  unfold tk
  rw [List.getD_eq_getElem?_getD, List.getElem?_eq_none h]; rfl
theorem slOk_lt {T : List PT} {i : Nat} (h : slOk T i = true) : i + 3 < T.length := by
  rcases Nat.lt_or_ge (i + 3) T.length with h1 | h1
  · exact h1
  · simp [slOk, tk_out h1] at h

theorem pMore_eq (T : List PT) (i : Nat) : pMore T i = if slOk T i then
      if (tk T (i + 4)).k == 44 then (match pMore T (i + 5) with | none => none | some (l, k) => some (slAt T i :: l, k))
      else if (tk T (i + 4)).k == 59 then some ([slAt T i], i + 5) else none
    else none := by
  conv => lhs; rw [pMore]
  split
  · rfl
  · rename_i h
    rw [if_neg]
    intro h1
    have := slOk_lt h1
    omega

theorem pMore_no {T : List PT} {i : Nat} (h : slOk T i = false) : pMore T i = none := by rw [pMore_eq, h]; rfl
theorem pMore_last {T : List PT} {i : Nat} (h : slOk T i = true) (h1 : (tk T (i + 4)).k = 59) : pMore T i = some ([slAt T i], i + 5) := by rw [pMore_eq, h, h1]; rfl
theorem pMore_cut {T : List PT} {i : Nat} (h : slOk T i = true) (h1 : (tk T (i + 4)).k ≠ 59) (h2 : (tk T (i + 4)).k ≠ 44) : pMore T i = none := by rw [pMore_eq, h]; simp [h1, h2]
theorem pMore_on {T : List PT} {i : Nat} (h : slOk T i = true) (h1 : (tk T (i + 4)).k = 44) : pMore T i = (match pMore T (i + 5) with | none => none | some (l, k) => some (slAt T i :: l, k)) := by rw [pMore_eq, h, h1]; rfl

theorem pMore_len : ∀ (n : Nat) (T : List PT) (i : Nat), T.length - i ≤ n → ∀ l j, pMore T i = some (l, j) → i + 4 * l.length < j ∧ 1 ≤ l.length ∧ j ≤ T.length := by
  intro n
  induction n with
  | zero =>
    intro T i hn l j h
    rw [pMore, dif_neg (by omega)] at h
    simp at h
  | succ n ih =>
    intro T i hn l j h
    rw [pMore_eq] at h
    split at h
    · rename_i hs
      have hlt := slOk_lt hs
      split at h
      · cases hm : pMore T (i + 5) with
        | none => rw [hm] at h; simp at h
        | some x =>
          obtain ⟨l', k⟩ := x
          rw [hm] at h
          simp at h
          obtain ⟨rfl, rfl⟩ := h
          have := ih T (i + 5) (by omega) l' k hm
          simp
          omega
      · split at h
        · rename_i h1
          simp at h
          obtain ⟨rfl, rfl⟩ := h
          simp
          rcases Nat.lt_or_ge (i + 4) T.length with h2 | h2
          · omega
          · simp [tk_out h2] at h1
        · simp at h
    · simp at h

def pFrame (T : List PT) (i : Nat) : Option (List Sl × Nat) := if (tk T i).k == 59 then some ([], i + 1) else pMore T i

theorem pFrame_len {T : List PT} {i : Nat} {l : List Sl} {j : Nat} (h : pFrame T i = some (l, j)) : i + 4 * l.length < j ∧ j ≤ T.length := by
  unfold pFrame at h
  split at h
  · rename_i h1
    simp at h
    obtain ⟨rfl, rfl⟩ := h
    simp
    rcases Nat.lt_or_ge i T.length with h2 | h2
    · omega
    · simp [tk_out h2] at h1
  · have := pMore_len _ T i (Nat.le_refl _) l j h
    omega
theorem pFrame_k {T : List PT} {i : Nat} {x : List Sl × Nat} (h : pFrame T i = some x) : (tk T i).k ≠ 101 ∧ (tk T i).k ≠ 120 := by
  unfold pFrame at h
  split at h
  · rename_i h1
    have : (tk T i).k = 59 := by simpa using h1
    omega
  · rw [pMore_eq] at h
    split at h
    · rename_i hs
      simp only [slOk, isName, Bool.and_eq_true, beq_iff_eq] at hs
      omega
    · simp at h

/-- The frames from token i on, up to the text's end. -/
def pFrames (T : List PT) (i : Nat) : Option (List (List Sl)) :=
  if h : i < T.length then
    if (tk T i).k == 101 then some [] else
    match pFrame T i with
    | none => none
    | some (f, j) => if hj : i < j then (match pFrames T j with | none => none | some r => some (f :: r)) else none
  else none
termination_by T.length - i

theorem pFrames_end {T : List PT} {i : Nat} (h : i < T.length) (hk : (tk T i).k = 101) : pFrames T i = some [] := by
  rw [pFrames, dif_pos h, hk]; rfl
theorem pFrames_on {T : List PT} {i : Nat} {f : List Sl} {j : Nat} (h : pFrame T i = some (f, j)) : pFrames T i = (match pFrames T j with | none => none | some r => some (f :: r)) := by
  have h1 := pFrame_len h
  have h2 := (pFrame_k h).1
  rw [pFrames, dif_pos (by omega), if_neg (by simpa using h2), h]
  simp only
  rw [dif_pos (by omega)]

/-- Just n frames from token i on. -/
def pN : Nat → List PT → Nat → Option (List (List Sl) × Nat)
  | 0, T, i => some ([], i)
  | n + 1, T, i => match pN n T i with
    | none => none
    | some (fs, j) => match pFrame T j with
      | none => none
      | some (f, k) => some (fs ++ [f], k)

theorem pN_frames {T : List PT} {i : Nat} : ∀ {n : Nat} {fs : List (List Sl)} {j : Nat}, pN n T i = some (fs, j) → fs.length = n ∧ i + 4 * fs.flatten.length ≤ j ∧ pFrames T i = (match pFrames T j with | none => none | some r => some (fs ++ r))
  | 0, fs, j, h => by
    simp [pN] at h
    obtain ⟨rfl, rfl⟩ := h
    refine ⟨rfl, by simp, ?_⟩
    cases pFrames T i <;> simp
  | n + 1, fs, j, h => by
    rw [pN] at h
    cases h1 : pN n T i with
    | none => rw [h1] at h; simp at h
    | some x =>
      obtain ⟨gs, k⟩ := x
      rw [h1] at h
      simp only at h
      cases h2 : pFrame T k with
      | none => rw [h2] at h; simp at h
      | some y =>
        obtain ⟨f, k'⟩ := y
        rw [h2] at h
        simp at h
        obtain ⟨rfl, rfl⟩ := h
        obtain ⟨h3, h4, h5⟩ := pN_frames h1
        have h6 := pFrame_len h2
        refine ⟨by simp [h3], by simp; simp at h4; omega, ?_⟩
        rw [h5, pFrames_on h2]
        cases pFrames T k' <;> simp

theorem pFrames_pN {T : List PT} {i : Nat} {fs : List (List Sl)} (h : pFrames T i = some fs) : ∀ n, n ≤ fs.length → ∃ j, pN n T i = some (fs.take n, j) ∧ pFrames T j = some (fs.drop n)
  | 0, _ => ⟨i, by simp [pN], by simpa using h⟩
  | n + 1, hn => by
    obtain ⟨j, h1, h2⟩ := pFrames_pN h n (by omega)
    rw [pN, h1]
    simp only
    have hd : fs.drop n = fs[n] :: fs.drop (n + 1) := List.drop_eq_getElem_cons (by omega)
    have h2k := h2
    rw [pFrames] at h2
    split at h2
    · split at h2
      · rw [hd] at h2
        simp at h2
        omega
      · cases h3 : pFrame T j with
        | none => rw [h3] at h2; simp at h2
        | some y =>
          obtain ⟨f, k⟩ := y
          have h4 := pFrames_on h3
          rw [h2k, hd] at h4
          cases h5 : pFrames T k with
          | none => rw [h5] at h4; simp at h4
          | some r =>
            rw [h5] at h4
            obtain ⟨h6a, h6⟩ := List.cons.inj (Option.some.inj h4)
            refine ⟨k, ?_, by rw [h5, h6]⟩
            simp only
            rw [List.take_succ_eq_append_getElem (by omega), h6a]
    · simp at h2

def hdOk (T : List PT) : Bool := sees (tk T 0) wCycle && ((tk T 1).k == 110 && (sees (tk T 2) wFrame && ((tk T 3).k == 110 && (tk T 4).k == 59)))
/-- The table that the tokens say. -/
def pTab (T : List PT) : Option Tb :=
  if hdOk T then (match pFrames T 5 with | none => none | some fs => some ⟨(tk T 1).N, (tk T 3).N, fs⟩) else none

theorem pTab_pN {T : List PT} {t : Tb} (h : pTab T = some t) : hdOk T = true ∧ t.cyc = (tk T 1).N ∧ t.fr = (tk T 3).N ∧ pFrames T 5 = some t.fs ∧ ∃ j, pN t.fs.length T 5 = some (t.fs, j) ∧ j < T.length ∧ (tk T j).k = 101 := by
  unfold pTab at h
  split at h
  · rename_i h1
    cases h2 : pFrames T 5 with
    | none => rw [h2] at h; simp at h
    | some fs =>
      rw [h2] at h
      simp at h
      subst h
      refine ⟨h1, rfl, rfl, rfl, ?_⟩
      obtain ⟨j, h3, h4⟩ := pFrames_pN h2 fs.length (Nat.le_refl _)
      refine ⟨j, by simpa using h3, ?_⟩
      rw [pFrames] at h4
      split at h4
      · rename_i h5
        split at h4
        · rename_i h6
          exact ⟨h5, by simpa using h6⟩
        · exfalso
          simp at h4
          split at h4
          · simp at h4
          · rename_i f k h7
            have := pFrame_len h7
            rw [if_pos (by omega)] at h4
            split at h4 <;> simp at h4
      · simp at h4
  · simp at h
theorem pTab_of {T : List PT} {fs : List (List Sl)} {n j : Nat} (h : hdOk T = true) (h1 : pN n T 5 = some (fs, j)) (h2 : j < T.length) (h3 : (tk T j).k = 101) : pTab T = some ⟨(tk T 1).N, (tk T 3).N, fs⟩ := by
  unfold pTab
  rw [if_pos h, (pN_frames h1).2.2, pFrames_end h2 h3]
  simp
end Go.Proofs.YtbdffcjganlblaaGreatDoor
