/-
  Own work. A set that is checked is right, and so are its pairs.
-/
import Derived.Test.YtbdffcjganlblaaGreatDoorPnItoPnJ
import Derived.Test.YtbdffcjganlblaaGreatDoorPnMtoEqvB
import Derived.Test.YtbdffcjganlblaaGreatDoorRefAtoRefC
import Derived.ProofKit
import Derived.LaidMore
import Derived.OpenShut
import Derived.Stop.Joined
import Derived.Deep.Slices
import Derived.Test.YtbdffcjganlblaaGreatDoorTbMtoPnL
import Derived.Test.YtbdffcjganlblaaGreatDoorHpAtoWalkB
namespace Go.Proofs.YtbdffcjganlblaaGreatDoor
set_option linter.unusedVariables false
set_option linter.unusedSimpArgs false

theorem findF_spec (ts : List Tk) (c : UInt8) : ∀ (f k : Nat), (0 ≤ findF ts c f k → ∃ i : Nat, findF ts c f k = i ∧ k ≤ i ∧ i < k + f ∧ (tsk ts i).nm = c) ∧ (findF ts c f k < 0 → ∀ i, k ≤ i → i < k + f → (tsk ts i).nm ≠ c)
  | 0, k => ⟨fun h => by simp [findF] at h, fun _ i h1 h2 => by omega⟩
  | f + 1, k => by
    have ih := findF_spec ts c f (k + 1)
    rw [findF]
    by_cases h : (tsk ts k).nm = c
    · rw [if_pos h]
      exact ⟨fun _ => ⟨k, rfl, Nat.le_refl _, by omega, h⟩, fun h2 => by omega⟩
    · rw [if_neg h]
      refine ⟨fun h2 => ?_, fun h2 i h3 h4 => ?_⟩
      · obtain ⟨i, a1, a2, a3, a4⟩ := ih.1 h2
        exact ⟨i, a1, by omega, by omega, a4⟩
      · by_cases e : i = k
        · rw [e]; exact h
        · exact ih.2 h2 i (by omega) (by omega)
theorem tsk_get {ts : List Tk} {k : Nat} (h : k < ts.length) : ts[k] = tsk ts k := by
  unfold tsk
  rw [List.getD_eq_getElem?_getD, List.getElem?_eq_getElem h]
  rfl
theorem lcm_dvd (h P : Nat) (hh : 1 ≤ h) : h ∣ h / Nat.gcd h P * P ∧ P ∣ h / Nat.gcd h P * P := by
  refine ⟨?_, Nat.dvd_mul_left _ _⟩
  have h1 := Nat.gcd_dvd_left h P
  have h2 := Nat.gcd_dvd_right h P
  obtain ⟨q, hq⟩ := h2
  have h3 : h / Nat.gcd h P * P = h * q := by
    have : h / Nat.gcd h P * P = h / Nat.gcd h P * (Nat.gcd h P * q) := by rw [← hq]
    rw [this, ← Nat.mul_assoc, Nat.div_mul_cancel h1]
  rw [h3]
  exact Nat.dvd_mul_right _ _
theorem cycF_ok (ts : List Tk) : ∀ (f k h : Nat), 1 ≤ h → h ≤ 60 → (∀ i, k ≤ i → i < k + f → 1 ≤ (tsk ts i).P) → cycF ts f k h ≠ 0 → 1 ≤ cycF ts f k h ∧ cycF ts f k h ≤ 60 ∧ h ∣ cycF ts f k h ∧ ∀ i, k ≤ i → i < k + f → (tsk ts i).P ∣ cycF ts f k h
  | 0, k, h, h1, h2, _, _ => ⟨h1, h2, Nat.dvd_refl _, fun i a b => by omega⟩
  | f + 1, k, h, h1, h2, hP, hne => by
    rw [cycF] at hne ⊢
    by_cases h6 : 60 < h / Nat.gcd h (tsk ts k).P * (tsk ts k).P
    · rw [if_pos h6] at hne
      exact absurd rfl hne
    · rw [if_neg h6] at hne ⊢
      have hd := lcm_dvd h (tsk ts k).P h1
      obtain ⟨a1, a2, a3, a4⟩ := cycF_ok ts f (k + 1) _ (lcm_pos h _ h1 (hP k (Nat.le_refl _) (by omega))) (by omega) (fun i b1 b2 => hP i (by omega) (by omega)) hne
      refine ⟨a1, a2, Nat.dvd_trans hd.1 a3, fun i b1 b2 => ?_⟩
      by_cases e : i = k
      · rw [e]; exact Nat.dvd_trans hd.2 a3
      · exact a4 i (by omega) (by omega)
theorem timed_all {t : Tk} (h : timedI t < 0) : 1 ≤ t.P ∧ 1 ≤ t.C ∧ t.C ≤ t.D ∧ t.O + t.D ≤ t.P := by
  unfold timedI at h
  repeat (split at h; omega)
  omega
theorem ckP_none {l : List (Tk × Nat)} {ps : List Pr} : ∀ (f k : Nat), ckP l ps f k = none → ∀ j, k ≤ j → j < k + f → pE l (psk ps j) = none
  | 0, k, _, j, h1, h2 => by omega
  | f + 1, k, h, j, h1, h2 => by
    rw [ckP] at h
    cases ht : pE l (psk ps k) with
    | some x => rw [ht] at h; simp at h
    | none =>
      rw [ht] at h
      by_cases e : j = k
      · rw [e]; exact ht
      · exact ckP_none f (k + 1) h j (by omega) (by omega)

/-- The tasks that a pair names. -/
structure PairT (ts : List Tk) (p : Pr) (i j : Nat) : Prop where
  fa : findI ts p.a = i
  fb : findI ts p.b = j
  hi : i < ts.length
  hj : j < ts.length
  a : (tsk ts i).nm = p.a
  b : (tsk ts j).nm = p.b
  ne : i ≠ j
  bef : p.ap = false → (tsk ts i).P = (tsk ts j).P

theorem pE_none {l : List (Tk × Nat)} {p : Pr} (h : pE l p = none) : ∃ i j, PairT (l.map Prod.fst) p i j := by
  have ef : ∀ c, findL l c l.length 0 = findI (l.map Prod.fst) c := fun c => by
    rw [findL_F]
    unfold findI
    rw [List.length_map]
  unfold pE at h
  simp only [ef, lk_fst] at h
  split at h
  · simp at h
  · split at h
    · simp at h
    · split at h
      · simp at h
      · split at h
        · simp at h
        · rename_i h1 h2 h3 h4
          obtain ⟨i, a1, a2, a3, a4⟩ := (findF_spec (l.map Prod.fst) p.a (l.map Prod.fst).length 0).1 (by unfold findI at h1; omega)
          obtain ⟨j, b1, b2, b3, b4⟩ := (findF_spec (l.map Prod.fst) p.b (l.map Prod.fst).length 0).1 (by unfold findI at h2; omega)
          have e1 : findI (l.map Prod.fst) p.a = i := a1
          have e2 : findI (l.map Prod.fst) p.b = j := b1
          rw [e1, e2] at h3 h4
          refine ⟨i, j, e1, e2, by omega, by omega, a4, b4, by omega, fun hap => ?_⟩
          simp only [Int.toNat_natCast] at h4
          exact Classical.byContradiction (fun hne => h4 ⟨hap, hne⟩)

theorem check_right {l : List (Tk × Nat)} {ps : List Pr} (h : checkR l ps = none) (hn : l.length ≤ 6) (hm : ps.length ≤ 6) : TsOk (l.map Prod.fst) (cycI (l.map Prod.fst)) ∧ PrOk l (cycI (l.map Prod.fst)) ps ∧ ∀ p ∈ ps, ∃ i j, PairT (l.map Prod.fst) p i j := by
  unfold checkR at h
  cases hc : ckT l l.length 0 with
  | some x => rw [hc] at h; simp at h
  | none =>
    rw [hc] at h
    simp only at h
    cases hp : ckP l ps ps.length 0 with
    | some x => rw [hp] at h; simp at h
    | none =>
      rw [hp] at h
      simp only at h
      have hnz : cycI (l.map Prod.fst) ≠ 0 := fun e => by rw [if_pos e] at h; simp at h
      have hT := fun k (hk : k < l.length) => ckT_none l.length 0 hc k (by omega) (by omega)
      have hlen : (l.map Prod.fst).length = l.length := List.length_map _
      have htm : ∀ k, k < (l.map Prod.fst).length → timedI (tsk (l.map Prod.fst) k) < 0 := fun k hk => by
        have := tE_none (hT k (by omega))
        rw [lk_fst] at this
        exact this
      have hge : ∀ k (hk : k < (l.map Prod.fst).length), (l.map Prod.fst)[k] = tsk (l.map Prod.fst) k := fun k hk => tsk_get hk
      obtain ⟨c1, c2, _, c4⟩ := cycF_ok (l.map Prod.fst) (l.map Prod.fst).length 0 1 (Nat.le_refl _) (by omega) (fun i _ h2 => (timed_all (htm i (by omega))).1) hnz
      have hts : TsOk (l.map Prod.fst) (cycI (l.map Prod.fst)) := by
        refine ⟨?_, by omega, c1, c2, fun t ht => ?_⟩
        · rw [List.Nodup, List.pairwise_iff_getElem]
          intro i j hi hj hij e
          have hj' : j < l.length := by simpa using hj
          have hi' : i < (l.map Prod.fst).length := by simpa using hi
          have hjm : j < (l.map Prod.fst).length := by simpa using hj
          have e : ((l.map Prod.fst)[i]).nm = ((l.map Prod.fst)[j]).nm := by simpa using e
          rw [hge i hi', hge j hjm] at e
          have h5 := hT j hj'
          unfold tE at h5
          rw [lk_fst, findL_F] at h5
          split at h5
          · simp at h5
          · rename_i h6
            exact (findF_spec (l.map Prod.fst) _ j 0).2 (by omega) i (by omega) (by omega) e
        · obtain ⟨k, hk, rfl⟩ := List.getElem_of_mem ht
          rw [hge k hk]
          have h5 := timed_all (htm k hk)
          exact ⟨h5.1, Nat.mod_eq_zero_of_dvd (c4 k (by omega) (by omega)), h5.2.1, h5.2.2.1, h5.2.2.2⟩
      have hpr : ∀ p ∈ ps, ∃ i j, PairT (l.map Prod.fst) p i j := fun p hpp => by
        obtain ⟨k, hk, rfl⟩ := List.getElem_of_mem hpp
        have h5 := ckP_none ps.length 0 hp k (by omega) (by omega)
        have e : psk ps k = ps[k] := by simp [psk, List.getD_eq_getElem?_getD, hk]
        rw [e] at h5
        exact pE_none h5
      have hin : ∀ {k : Nat} {c : UInt8}, k < (l.map Prod.fst).length → (tsk (l.map Prod.fst) k).nm = c → c ∈ l.map (·.1.nm) := fun {k c} hk e => by
        rw [← e, ← hge k hk]
        have hk' : k < l.length := by simpa using hk
        exact List.mem_map.2 ⟨l[k], List.getElem_mem _, by simp⟩
      refine ⟨hts, ⟨fun p hpp => ?_, fun p hpp => ?_, fun p hpp hap i j hi hj ea eb => ?_, hm⟩, hpr⟩
      · obtain ⟨i, j, P⟩ := hpr p hpp
        exact hin P.hi P.a
      · obtain ⟨i, j, P⟩ := hpr p hpp
        exact hin P.hj P.b
      · obtain ⟨i', j', P⟩ := hpr p hpp
        have hi' : i < (l.map Prod.fst).length := by simpa using hi
        have hj' : j < (l.map Prod.fst).length := by simpa using hj
        have g1 : (l.map Prod.fst)[i] = l[i].1 := by simp
        have g2 : (l.map Prod.fst)[j] = l[j].1 := by simp
        have e1 : i = i' := names_inj hts.name hi' P.hi (by rw [hge i' P.hi, P.a, g1]; exact ea)
        have e2 : j = j' := names_inj hts.name hj' P.hj (by rw [hge j' P.hj, P.b, g2]; exact eb)
        have hb := P.bef hap
        rw [← e1, ← e2, ← hge i hi', ← hge j hj', g1, g2] at hb
        exact hb
end Go.Proofs.YtbdffcjganlblaaGreatDoor

namespace Go.Proofs.YtbdffcjganlblaaGreatDoor
open Go.ChangeShapes Go.WideShapes Go.ChangeAt Go.RowKit Go.Deep
set_option linter.unusedVariables false
set_option linter.unusedSimpArgs false

/-- One step of a script in memory. -/
def OpAt (w : World) (b off k : Nat) : Prop := ∃ (K A B C : Int) (s : ByteArray) (la : Option Addr) (ln lc : Nat), w.cell? ⟨b, off + k * 6, none⟩ = some (.int .i64 K) ∧ w.cell? ⟨b, off + k * 6 + 1, none⟩ = some (.int .i64 A) ∧ w.cell? ⟨b, off + k * 6 + 2, none⟩ = some (.int .i64 B) ∧
  w.cell? ⟨b, off + k * 6 + 3, none⟩ = some (.int .i64 C) ∧ w.cell? ⟨b, off + k * 6 + 4, none⟩ = some (.string s) ∧ w.cell? ⟨b, off + k * 6 + 5, none⟩ = some (.slice la ln lc) ∧ s.size ≤ 9223372036854775807

theorem own : ownKnob Tryz.prog.godebug = none := by kernel_rfl
theorem laidOut : laidOutB Tryz.prog = true := by kernel_rfl
theorem cellsOp : Tryz.prog.cellsOf 27 = 6 := by kernel_rfl
theorem cellsInt : Tryz.prog.cellsOf 3 = 1 := by kernel_rfl
theorem cellsStr : Tryz.prog.cellsOf 9 = 1 := by kernel_rfl
theorem cellsSl : Tryz.prog.cellsOf 25 = 1 := by kernel_rfl

theorem lt_of_cell {w : World} {b off : Nat} {o : Option Value} (h : w.cell? ⟨b, off, none⟩ = o) (ho : o.isSome = true) : b < w.heap.size := by
  rcases Nat.lt_or_ge b w.heap.size with h1 | h1
  · exact h1
  · rw [← h] at ho
    simp [World.cell?, Array.getElem?_eq_none h1] at ho

section
variable {H : Type} {enc : TypeId × Value → H} {w : World} {base : Nat} {spare : Nat → Bool} {held : Bool}

set_option maxRecDepth 100000 in
/-- One step of a script, opened. -/
theorem opAt_of {fuel : Nat} {cs : List Value} {x : DataW H × List MemPlace} {b off k : Nat} (hc : w.cells? base ((⟨b, off, none⟩ : Addr).add (k * 6)) 6 = some cs) (h : DataW.trod enc Tryz.prog w base spare held fuel 27 cs = some x) : OpAt w b off k := by
  obtain ⟨_, hlen, hcell⟩ := World.cells?_some hc
  obtain ⟨xs, n, _, _, _, hxl, hf⟩ := DataW.trod_struct Tryz.underlying27 h
  match cs, hlen with
  | [v0, v1, v2, v3, v4, v5], _ =>
    match xs, hxl with
    | [y0, y1, y2, y3, y4, y5], _ =>
      have g0 := hf 0 _ rfl
      have g1 := hf 1 _ rfl
      have g2 := hf 2 _ rfl
      have g3 := hf 3 _ rfl
      have g4 := hf 4 _ rfl
      have g5 := hf 5 _ rfl
      simp [cellsInt, cellsStr, cellsSl] at g0 g1 g2 g3 g4 g5
      obtain ⟨K, e0, _⟩ := DataW.trod_int Tryz.underlying3 g0
      obtain ⟨A, e1, _⟩ := DataW.trod_int Tryz.underlying3 g1
      obtain ⟨B, e2, _⟩ := DataW.trod_int Tryz.underlying3 g2
      obtain ⟨C, e3, _⟩ := DataW.trod_int Tryz.underlying3 g3
      obtain ⟨s, e4, _, hs⟩ := DataW.trod_string Tryz.underlying9 g4
      have e5 : ∃ la ln lc, v5 = .slice la ln lc := by
        rcases DataW.trod_slice Tryz.underlying25 g5 with ⟨h5, _⟩ | ⟨a, ln, lc, _, _, _, _, h5, _⟩
        · exact ⟨none, 0, 0, by simpa using h5⟩
        · exact ⟨some a, ln, lc, by simpa using h5⟩
      obtain ⟨la, ln, lc, rfl⟩ := e5
      simp at e0 e1 e2 e3 e4
      subst e0 e1 e2 e3 e4
      have cc : ∀ j v, w.cell? (((⟨b, off, none⟩ : Addr).add (k * 6)).add j) = some v → w.cell? ⟨b, off + k * 6 + j, none⟩ = some v := by
        intro j v hv
        rw [add_add] at hv
        rw [show off + k * 6 + j = off + (k * 6 + j) by omega]
        unfold Addr.add at hv
        by_cases h0 : k * 6 + j = 0
        · rw [if_pos h0] at hv
          rw [h0]
          exact hv
        · rw [if_neg h0] at hv
          exact hv
      refine ⟨K, A, B, C, s, la, ln, lc, ?_, ?_, ?_, ?_, ?_, ?_, hs⟩
      · simpa using cc 0 _ (by simpa using hcell 0 (by omega))
      · exact cc 1 _ (by simpa using hcell 1 (by omega))
      · exact cc 2 _ (by simpa using hcell 2 (by omega))
      · exact cc 3 _ (by simpa using hcell 3 (by omega))
      · exact cc 4 _ (by simpa using hcell 4 (by omega))
      · exact cc 5 _ (by simpa using hcell 5 (by omega))
end

end Go.Proofs.YtbdffcjganlblaaGreatDoor

namespace Go.Proofs.YtbdffcjganlblaaGreatDoor
open Go.RowKit
set_option linter.unusedVariables false
set_option linter.unusedSimpArgs false

/-! ### What is packed is unpacked; what is unpacked was packed -/
theorem tab_one {l : List UInt8} {t t' : Tb} (h : TabOk l t) (h' : TabOk l t') : t = t' := by
  have := h.2.1
  rw [h'.2.1] at this
  exact (Option.some.inj this).symm
theorem pack_unp {t : Tb} (h : ChkOk t) : UnpOk (packB t) t := by
  refine ⟨?_, bodyB t, rfl, bTab_pack h.1, h⟩
  have := bodyB_len h.1
  unfold packB
  rw [List.length_append, show (sumL (bodyB t)).length = 4 from rfl]
  omega
theorem unp_one {l : List UInt8} {t t' : Tb} (h : UnpOk l t) (h' : UnpOk l t') : t = t' := by
  obtain ⟨_, b, e, h1, _⟩ := h
  obtain ⟨_, b', e', h1', _⟩ := h'
  have hl := congrArg List.length (e.symm.trans e')
  rw [List.length_append, List.length_append, show (sumL b).length = 4 from rfl, show (sumL b').length = 4 from rfl] at hl
  have hb : b = b' := by
    have := congrArg (List.take b.length) (e.symm.trans e')
    rw [List.take_left', List.take_append_of_le_length (by omega), show b.length = b'.length by omega, List.take_length] at this
    · exact this
    · rfl
  subst hb
  rw [h1] at h1'
  exact Option.some.inj h1'
theorem unp_tab {l : List UInt8} {t : Tb} (h : UnpOk l t) : TabOk (tbTxt t) t ∧ packB t = l := by
  obtain ⟨_, b, e, h1, h2, h3⟩ := h
  obtain ⟨f1, f2, f3, f4, f5⟩ := h2.frames
  have hc := h2.c2
  have hs := h2.small
  refine ⟨⟨tbTxt_len h2, pTab_txt t (by omega) (by omega) (fun x hx s hsx => ⟨h3 x hx s hsx, by have := (hs x hx).2 s hsx; omega, by have := (hs x hx).2 s hsx; omega⟩), h2, rfl⟩, ?_⟩
  unfold packB
  rw [bTab_inv h1, e]

set_option maxRecDepth 100000 in
theorem num_any (n : Nat) (w : World) : Calls Tryz.prog 15 #[.int .i64 n] w fun e w' => e = .returned (.int .i64 n) ∧ w' = w := by
  go_enter Tryz.func15, Tryz.ntmps15
  go_wp2
  go_ret
  exact ⟨rfl, rfl⟩

end Go.Proofs.YtbdffcjganlblaaGreatDoor

namespace Go.Proofs.YtbdffcjganlblaaGreatDoor
set_option linter.unusedVariables false
set_option linter.unusedSimpArgs false

/-! ### Slots given to jobs: the least deadline first goes, if anything goes -/
/-- How many of the m slots from s on job k has. -/
def cntS (f : Nat → Option Nat) (k s : Nat) : Nat → Nat
  | 0 => 0
  | m + 1 => (if f s = some k then 1 else 0) + cntS f k (s + 1) m
def updS (f : Nat → Option Nat) (p : Nat) (v : Option Nat) : Nat → Option Nat := fun u => if u = p then v else f u
theorem cntS_same {f g : Nat → Option Nat} (k : Nat) : ∀ (m s : Nat), (∀ u, s ≤ u → u < s + m → f u = g u) → cntS f k s m = cntS g k s m
  | 0, _, _ => rfl
  | m + 1, s, h => by
    rw [cntS, cntS, h s (Nat.le_refl _) (by omega), cntS_same k m (s + 1) (fun u h1 h2 => h u (by omega) (by omega))]
theorem cntS_upd (f : Nat → Option Nat) (k p : Nat) (v : Option Nat) : ∀ (m s : Nat), s ≤ p → p < s + m → cntS (updS f p v) k s m + (if f p = some k then 1 else 0) = cntS f k s m + (if v = some k then 1 else 0)
  | 0, s, h1, h2 => by omega
  | m + 1, s, h1, h2 => by
    rw [cntS, cntS]
    by_cases e : s = p
    · subst e
      have h3 : cntS (updS f s v) k (s + 1) m = cntS f k (s + 1) m := cntS_same k m (s + 1) (fun u h1 h2 => by unfold updS; rw [if_neg (by omega)])
      have h4 : updS f s v s = v := by simp [updS]
      rw [h3, h4]
      omega
    · have ih := cntS_upd f k p v m (s + 1) (by omega) (by omega)
      have h4 : updS f p v s = f s := by simp [updS, e]
      rw [h4]
      omega
theorem cntS_pos {f : Nat → Option Nat} {k : Nat} : ∀ (m s : Nat), 0 < cntS f k s m → ∃ u, s ≤ u ∧ u < s + m ∧ f u = some k
  | 0, s, h => by simp [cntS] at h
  | m + 1, s, h => by
    rw [cntS] at h
    by_cases e : f s = some k
    · exact ⟨s, Nat.le_refl _, by omega, e⟩
    · rw [if_neg e] at h
      obtain ⟨u, h1, h2, h3⟩ := cntS_pos (f := f) (k := k) m (s + 1) (by omega)
      exact ⟨u, by omega, by omega, h3⟩
/-- What is left can be done in the m slots from s on, each job (below n) within its own time from r to d. -/
def DoneBy (n : Nat) (r d left : Nat → Nat) (s m : Nat) : Prop :=
  ∃ f : Nat → Option Nat, (∀ u k, s ≤ u → u < s + m → f u = some k → k < n ∧ r k ≤ u ∧ u < d k) ∧ ∀ k, k < n → cntS f k s m = left k
/-- Job k may have slot s, and of those that may it has the least deadline. -/
def Least (n : Nat) (r d left : Nat → Nat) (s k : Nat) : Prop := k < n ∧ r k ≤ s ∧ 0 < left k ∧ ∀ j, j < n → r j ≤ s → 0 < left j → d k ≤ d j
def lessN (left : Nat → Nat) (k : Nat) : Nat → Nat := fun j => if j = k then left j - 1 else left j
theorem done_pick {n : Nat} {r d left : Nat → Nat} {s m k : Nat} (h : DoneBy n r d left s (m + 1)) (hk : Least n r d left s k) : s < d k ∧ DoneBy n r d (lessN left k) (s + 1) m := by
  obtain ⟨f, hf, hc⟩ := h
  obtain ⟨hkn, hkr, hkl, hmin⟩ := hk
  have hck := hc k hkn
  obtain ⟨p, hp1, hp2, hp3⟩ := cntS_pos (f := f) (k := k) (m + 1) s (by omega)
  have hpk := hf p k hp1 hp2 hp3
  refine ⟨by omega, ?_⟩
  by_cases e : p = s
  · subst e
    refine ⟨f, fun u j h1 h2 => hf u j (by omega) (by omega), fun j hj => ?_⟩
    have := hc j hj
    rw [cntS, hp3] at this
    unfold lessN
    by_cases ej : j = k
    · subst ej
      rw [if_pos rfl] at this ⊢
      omega
    · rw [if_neg (fun x => ej (by injection x with x; exact x.symm))] at this
      rw [if_neg ej]
      omega
  · -- the slot p of job k is taken by whoever has s
    by_cases es : f s = some k
    · refine ⟨f, fun u j h1 h2 => hf u j (by omega) (by omega), fun j hj => ?_⟩
      have := hc j hj
      rw [cntS, es] at this
      unfold lessN
      by_cases ej : j = k
      · subst ej
        rw [if_pos rfl] at this ⊢
        omega
      · rw [if_neg (fun x => ej (by injection x with x; exact x.symm))] at this
        rw [if_neg ej]
        omega
    · refine ⟨updS f p (f s), ?_, ?_⟩
      · intro u j h1 h2 hu
        unfold updS at hu
        by_cases eu : u = p
        · rw [if_pos eu] at hu
          have hj := hf s j (Nat.le_refl _) (by omega) hu
          have hjl : 0 < left j := by
            have := hc j hj.1
            rw [cntS, hu, if_pos rfl] at this
            omega
          have := hmin j hj.1 (by omega) hjl
          refine ⟨hj.1, by omega, by omega⟩
        · rw [if_neg eu] at hu
          exact hf u j (by omega) (by omega) hu
      · intro j hj
        have h1 := cntS_upd f j p (f s) m (s + 1) (by omega) (by omega)
        have h2 := hc j hj
        rw [cntS] at h2
        unfold lessN
        by_cases ej : j = k
        · subst ej
          rw [if_pos hp3, if_neg es] at h1
          rw [if_neg es] at h2
          rw [if_pos rfl]
          omega
        · rw [if_neg (by rw [hp3]; intro x; injection x with x; exact ej x.symm)] at h1
          rw [if_neg ej]
          omega
theorem done_idle {n : Nat} {r d left : Nat → Nat} {s m : Nat} (h : DoneBy n r d left s (m + 1)) (hno : ∀ k, k < n → r k ≤ s → left k = 0) : DoneBy n r d left (s + 1) m := by
  obtain ⟨f, hf, hc⟩ := h
  refine ⟨f, fun u j h1 h2 => hf u j (by omega) (by omega), fun j hj => ?_⟩
  have h2 := hc j hj
  rw [cntS] at h2
  by_cases e : f s = some j
  · have hj2 := hf s j (Nat.le_refl _) (by omega) e
    have := hno j hj hj2.2.1
    rw [if_pos e] at h2
    omega
  · rw [if_neg e] at h2
    omega
theorem done_end {n : Nat} {r d left : Nat → Nat} {s : Nat} (h : DoneBy n r d left s 0) : ∀ k, k < n → left k = 0 := by
  obtain ⟨f, _, hc⟩ := h
  intro k hk
  rw [← hc k hk]
  rfl
/-- A slot given back: what is done from s + 1 on, and slot s for job k. -/
theorem done_back {n : Nat} {r d left : Nat → Nat} {s m k : Nat} (hk : k < n) (hr : r k ≤ s) (hd : s < d k) (hl : 0 < left k) (h : DoneBy n r d (lessN left k) (s + 1) m) : DoneBy n r d left s (m + 1) := by
  obtain ⟨f, hf, hc⟩ := h
  refine ⟨updS f s (some k), ?_, ?_⟩
  · intro u j h1 h2 hu
    unfold updS at hu
    by_cases eu : u = s
    · rw [if_pos eu] at hu
      injection hu with hu
      subst hu
      exact ⟨hk, by omega, by omega⟩
    · rw [if_neg eu] at hu
      exact hf u j (by omega) (by omega) hu
  · intro j hj
    have h1 : cntS (updS f s (some k)) j (s + 1) m = cntS f j (s + 1) m := cntS_same j m (s + 1) (fun u h1 h2 => by unfold updS; rw [if_neg (by omega)])
    have h2 : updS f s (some k) s = some k := by simp [updS]
    have h3 := hc j hj
    rw [cntS, h1, h2, h3]
    unfold lessN
    by_cases ej : j = k
    · subst ej
      rw [if_pos rfl, if_pos rfl]
      omega
    · rw [if_neg (fun x => ej (by injection x with x; exact x.symm)), if_neg ej]
      omega
theorem done_wait {n : Nat} {r d left : Nat → Nat} {s m : Nat} (h : DoneBy n r d left (s + 1) m) : DoneBy n r d left s (m + 1) := by
  obtain ⟨f, hf, hc⟩ := h
  refine ⟨updS f s none, ?_, ?_⟩
  · intro u j h1 h2 hu
    unfold updS at hu
    by_cases eu : u = s
    · rw [if_pos eu] at hu
      cases hu
    · rw [if_neg eu] at hu
      exact hf u j (by omega) (by omega) hu
  · intro j hj
    have h1 : cntS (updS f s none) j (s + 1) m = cntS f j (s + 1) m := cntS_same j m (s + 1) (fun u h1 h2 => by unfold updS; rw [if_neg (by omega)])
    have h2 : updS f s none s = none := by simp [updS]
    rw [cntS, h1, h2, hc j hj]
    simp
end Go.Proofs.YtbdffcjganlblaaGreatDoor

namespace Go.Proofs.YtbdffcjganlblaaGreatDoor
set_option linter.unusedVariables false
set_option linter.unusedSimpArgs false

/-! ### Units of jobs in frames: where nothing can be moved nothing goes -/
def sumN (f : Nat → Nat) : Nat → Nat
  | 0 => 0
  | n + 1 => sumN f n + f n
theorem sumN_same {f g : Nat → Nat} : ∀ n, (∀ i, i < n → f i = g i) → sumN f n = sumN g n
  | 0, _ => rfl
  | n + 1, h => by rw [sumN, sumN, sumN_same n (fun i hi => h i (by omega)), h n (by omega)]
theorem sumN_le {f g : Nat → Nat} : ∀ n, (∀ i, i < n → f i ≤ g i) → sumN f n ≤ sumN g n
  | 0, _ => Nat.le_refl _
  | n + 1, h => by
    have h1 := sumN_le n (fun i hi => h i (by omega))
    have h2 := h n (by omega)
    rw [sumN, sumN]
    omega
theorem sumN_lt {f g : Nat → Nat} {p : Nat} : ∀ n, p < n → (∀ i, i < n → f i ≤ g i) → f p < g p → sumN f n < sumN g n
  | 0, h, _, _ => by omega
  | n + 1, h, hle, hp => by
    rw [sumN, sumN]
    by_cases e : p = n
    · subst e
      have := sumN_le p (fun i hi => hle i (by omega))
      omega
    · have := sumN_lt n (by omega) (fun i hi => hle i (by omega)) hp
      have := hle n (by omega)
      omega
theorem sumN_zero : ∀ n, sumN (fun _ => 0) n = 0
  | 0 => rfl
  | n + 1 => by rw [sumN, sumN_zero n]
theorem sumN_add (f g : Nat → Nat) : ∀ n, sumN (fun i => f i + g i) n = sumN f n + sumN g n
  | 0 => rfl
  | n + 1 => by rw [sumN, sumN, sumN, sumN_add f g n]; omega
theorem sumN_comm (x : Nat → Nat → Nat) (J : Nat) : ∀ n, sumN (fun j => sumN (fun k => x k j) J) n = sumN (fun k => sumN (fun j => x k j) n) J
  | 0 => by
    rw [sumN]
    exact (sumN_zero J).symm
  | n + 1 => by
    rw [sumN, sumN_comm x J n, ← sumN_add]
    rfl
/-- Can the jobs (below J) have what they cost in frames (below n) of F units, each only in frames that fit? -/
def Flows (J n F : Nat) (fit : Nat → Nat → Bool) (cost : Nat → Nat) : Prop :=
  ∃ x : Nat → Nat → Nat, (∀ k j, k < J → j < n → fit k j = false → x k j = 0) ∧ (∀ j, j < n → sumN (fun k => x k j) J ≤ F) ∧ ∀ k, k < J → sumN (fun j => x k j) n = cost k
/-- A job's one unit more: all frames that could be reached are full, and what lies in them reaches no other. -/
theorem flow_stuck {J n F : Nat} {fit : Nat → Nat → Bool} {cost : Nat → Nat} {has : Nat → Nat → Nat} {S : Nat → Bool} {p : Nat} (hp : p < J)
    (h1 : ∀ k j, k < J → j < n → fit k j = false → has k j = 0) (h2 : ∀ j, j < n → S j = true → sumN (fun k => has k j) J = F)
    (h3 : ∀ j, j < n → S j = true → ∀ k, k < J → 0 < has k j → ∀ i, i < n → fit k i = true → S i = true) (h4 : ∀ i, i < n → fit p i = true → S i = true)
    (h5 : ∀ k, k < J → sumN (fun j => has k j) n ≤ cost k) (h6 : sumN (fun j => has p j) n < cost p) : ¬ Flows J n F fit cost := by
  rintro ⟨x, hx1, hx2, hx3⟩
  have hA : sumN (fun j => sumN (fun k => if S j then x k j else 0) J) n ≤ sumN (fun j => sumN (fun k => if S j then has k j else 0) J) n := by
    apply sumN_le
    intro j hj
    cases hS : S j with
    | true =>
      simp only [if_true]
      rw [h2 j hj hS]
      exact hx2 j hj
    | false =>
      simp only [Bool.false_eq_true, if_false]
      exact Nat.le_refl _
  rw [sumN_comm (fun k j => if S j then x k j else 0), sumN_comm (fun k j => if S j then has k j else 0)] at hA
  -- all of a job that can be reached lies in what can be reached
  have full : ∀ k, k < J → (∀ i, i < n → fit k i = true → S i = true) → sumN (fun j => if S j then has k j else 0) n = sumN (fun j => has k j) n ∧ sumN (fun j => if S j then x k j else 0) n = cost k := by
    intro k hk hS
    refine ⟨sumN_same n (fun j hj => ?_), ?_⟩
    · cases hj2 : S j with
      | true => rfl
      | false =>
        have hf : fit k j = false := by
          cases hf : fit k j with
          | false => rfl
          | true => rw [hS j hj hf] at hj2; cases hj2
        simp only [Bool.false_eq_true, if_false]
        exact (h1 k j hk hj hf).symm
    · rw [← hx3 k hk]
      refine sumN_same n (fun j hj => ?_)
      cases hj2 : S j with
      | true => rfl
      | false =>
        have hf : fit k j = false := by
          cases hf : fit k j with
          | false => rfl
          | true => rw [hS j hj hf] at hj2; cases hj2
        simp only [Bool.false_eq_true, if_false]
        exact (hx1 k j hk hj hf).symm
  have hle : ∀ k, k < J → sumN (fun j => if S j then has k j else 0) n ≤ sumN (fun j => if S j then x k j else 0) n := by
    intro k hk
    by_cases hr : ∃ j, j < n ∧ S j = true ∧ 0 < has k j
    · obtain ⟨j, hj, hS, hh⟩ := hr
      obtain ⟨e1, e2⟩ := full k hk (fun i hi hf => h3 j hj hS k hk hh i hi hf)
      rw [e1, e2]
      exact h5 k hk
    · have e0 : sumN (fun j => if S j then has k j else 0) n = 0 := by
        refine (sumN_same n (fun j hj => ?_)).trans (sumN_zero n)
        cases hS : S j with
        | false => rfl
        | true =>
          simp only [if_true]
          rcases Nat.eq_zero_or_pos (has k j) with h | h
          · exact h
          · exact absurd ⟨j, hj, hS, h⟩ hr
      rw [e0]
      exact Nat.zero_le _
  have hlt : sumN (fun j => if S j then has p j else 0) n < sumN (fun j => if S j then x p j else 0) n := by
    obtain ⟨e1, e2⟩ := full p hp h4
    rw [e1, e2]
    exact h6
  have := sumN_lt J hp hle hlt
  omega

/-! ### Frames and slots -/
theorem done_same {n : Nat} {r d left left' : Nat → Nat} {s m : Nat} (h : DoneBy n r d left s m) (e : ∀ k, k < n → left k = left' k) : DoneBy n r d left' s m := by
  obtain ⟨f, hf, hc⟩ := h
  exact ⟨f, hf, fun k hk => by rw [hc k hk, e k hk]⟩
theorem done_waits {n : Nat} {r d left : Nat → Nat} {m : Nat} : ∀ F s, DoneBy n r d left (s + F) m → DoneBy n r d left s (m + F)
  | 0, s, h => h
  | F + 1, s, h => by
    have := done_waits (n := n) (r := r) (d := d) (left := left) (m := m) F (s + 1) (by rw [show s + 1 + F = s + (F + 1) by omega]; exact h)
    exact done_wait this
theorem sumN_pos {f : Nat → Nat} : ∀ n, 0 < sumN f n → ∃ i, i < n ∧ 0 < f i
  | 0, h => by simp [sumN] at h
  | n + 1, h => by
    rw [sumN] at h
    by_cases e : 0 < f n
    · exact ⟨n, by omega, e⟩
    · obtain ⟨i, hi, h2⟩ := sumN_pos (f := f) n (by omega)
      exact ⟨i, by omega, h2⟩
theorem sumN_less {f : Nat → Nat} {k : Nat} (hk : 0 < f k) : ∀ n, k < n → sumN (lessN f k) n + 1 = sumN f n
  | 0, h => by omega
  | n + 1, h => by
    rw [sumN, sumN]
    by_cases e : n = k
    · subst e
      have h1 : sumN (lessN f n) n = sumN f n := sumN_same n (fun i hi => by unfold lessN; rw [if_neg (by omega)])
      have h2 : lessN f n n = f n - 1 := by simp [lessN]
      rw [h1, h2]
      omega
    · have ih := sumN_less hk n (by omega)
      have h2 : lessN f k n = f n := by simp [lessN, e]
      rw [h2]
      omega
/-- The units of one frame. -/
theorem done_frame {J : Nat} {r d left : Nat → Nat} {m : Nat} : ∀ (F : Nat) (y : Nat → Nat) (s : Nat), sumN y J ≤ F → (∀ k, k < J → 0 < y k → r k ≤ s ∧ s + F ≤ d k) → DoneBy J r d left (s + F) m → DoneBy J r d (fun k => left k + y k) s (m + F)
  | 0, y, s, hy, hw, h => by
    refine done_same h (fun k hk => ?_)
    rcases Nat.eq_zero_or_pos (y k) with e | e
    · rw [e]
      rfl
    · exfalso
      have := sumN_lt (f := fun _ => 0) (g := y) J hk (fun i _ => Nat.zero_le _) e
      rw [sumN_zero] at this
      omega
  | F + 1, y, s, hy, hw, h => by
    by_cases h0 : 0 < sumN y J
    · obtain ⟨k, hk, hy0⟩ := sumN_pos J h0
      have hl := sumN_less hy0 J hk
      have ih := done_frame (J := J) (r := r) (d := d) (left := left) (m := m) F (lessN y k) (s + 1) (by omega) (fun j hj hj0 => by
        have hyj : 0 < y j := by
          unfold lessN at hj0
          split at hj0 <;> omega
        have := hw j hj hyj
        omega) (by rw [show s + 1 + F = s + (F + 1) by omega]; exact h)
      have hwk := hw k hk hy0
      refine done_back (k := k) hk hwk.1 (by omega) (by show 0 < left k + y k; omega) (done_same ih (fun j hj => ?_))
      unfold lessN
      by_cases e : j = k
      · subst e
        rw [if_pos rfl, if_pos rfl]
        show left j + (y j - 1) = left j + y j - 1
        omega
      · rw [if_neg e, if_neg e]
    · refine done_waits (F + 1) s (done_same h (fun k hk => ?_))
      rcases Nat.eq_zero_or_pos (y k) with e | e
      · rw [e]
        rfl
      · exfalso
        have := sumN_lt (f := fun _ => 0) (g := y) J hk (fun i _ => Nat.zero_le _) e
        rw [sumN_zero] at this
        omega
/-- What goes in frames goes slot by slot. -/
theorem flows_done {J n F : Nat} {fit : Nat → Nat → Bool} {cost r d : Nat → Nat} (hfit : ∀ k j, k < J → j < n → fit k j = true → r k ≤ j * F ∧ (j + 1) * F ≤ d k) (h : Flows J n F fit cost) : DoneBy J r d cost 0 (n * F) := by
  obtain ⟨x, h1, h2, h3⟩ := h
  have key : ∀ q, q ≤ n → DoneBy J r d (fun k => sumN (fun j => x k (n - q + j)) q) ((n - q) * F) (q * F) := by
    intro q
    induction q with
    | zero =>
      intro _
      rw [Nat.zero_mul]
      exact ⟨fun _ => none, fun u k h4 h5 => by omega, fun k hk => rfl⟩
    | succ q ih =>
      intro hq
      have ih := ih (by omega)
      have e1 : n - (q + 1) + 1 = n - q := by omega
      have := done_frame (J := J) (r := r) (d := d) (left := fun k => sumN (fun j => x k (n - q + j)) q) (m := q * F) F (fun k => x k (n - (q + 1))) ((n - (q + 1)) * F) (h2 _ (by omega)) (fun k hk h0 => by
        have hf : fit k (n - (q + 1)) = true := by
          cases hf : fit k (n - (q + 1)) with
          | true => rfl
          | false => rw [h1 k _ hk (by omega) hf] at h0; omega
        have := hfit k _ hk (by omega) hf
        rw [Nat.succ_mul] at this
        exact this) (by rw [show (n - (q + 1)) * F + F = (n - q) * F by rw [← e1, Nat.succ_mul]]; exact ih)
      rw [Nat.succ_mul]
      refine done_same this (fun k hk => ?_)
      have split : ∀ (f : Nat → Nat) (q : Nat), sumN f (q + 1) = f 0 + sumN (fun j => f (j + 1)) q := by
        intro f q
        induction q with
        | zero => simp [sumN]
        | succ q ih2 => rw [sumN, ih2, sumN]; omega
      rw [split (fun j => x k (n - (q + 1) + j)) q]
      have e2 : sumN (fun j => x k (n - (q + 1) + (j + 1))) q = sumN (fun j => x k (n - q + j)) q := sumN_same q (fun j hj => by rw [show n - (q + 1) + (j + 1) = n - q + j by omega])
      rw [e2]
      show sumN (fun j => x k (n - q + j)) q + x k (n - (q + 1)) = x k (n - (q + 1)) + sumN (fun j => x k (n - q + j)) q
      omega
  have := key n (Nat.le_refl _)
  rw [Nat.sub_self, Nat.zero_mul] at this
  refine done_same this (fun k hk => ?_)
  rw [← h3 k hk]
  exact sumN_same n (fun j hj => by rw [Nat.zero_add])
end Go.Proofs.YtbdffcjganlblaaGreatDoor
