/-
  Own work. The program's plan: which job may run.
-/
import Derived.Test.YtbdffcjganlblaaGreatDoorMpStoTabA
import Derived.Test.YtbdffcjganlblaaGreatDoorTabBtoPlC
import Derived.Test.YtbdffcjganlblaaGreatDoorProgItoProgK
namespace Go.Proofs.YtbdffcjganlblaaGreatDoor
open Go.RowKit
set_option linter.unusedVariables false
set_option linter.unusedSimpArgs false

theorem busy_iff {js : List Jb} {left : Nat → Nat} {c : UInt8} : busyN js left c = true ↔ ∃ k, k < js.length ∧ (jk js k).ltr = c ∧ 0 < left k ∧ left k < (jk js k).cost := by
  unfold busyN
  rw [List.any_eq_true]
  constructor
  · rintro ⟨k, h1, h2⟩
    simp at h1 h2
    exact ⟨k, h1, h2.1, h2.2.1, h2.2.2⟩
  · rintro ⟨k, h1, h2, h3, h4⟩
    exact ⟨k, by simpa using h1, by simp [h2, h3, h4]⟩
theorem busy_of {js : List Jb} {left : Nat → Nat} {c : UInt8} {T : List Nat} (hT : ∀ k, k ∈ T ↔ k < js.length ∧ (jk js k).ltr = c) : busyN js left c = true ↔ ∃ i, i < T.length ∧ 0 < left (gd T i) ∧ left (gd T i) < (jk js (gd T i)).cost := by
  rw [busy_iff]
  constructor
  · rintro ⟨k, h1, h2, h3, h4⟩
    obtain ⟨i, hi, e⟩ := mem_gd ((hT k).2 ⟨h1, h2⟩)
    exact ⟨i, hi, by rw [e]; exact h3, by rw [e]; exact h4⟩
  · rintro ⟨i, hi, h3, h4⟩
    obtain ⟨h1, h2⟩ := (hT _).1 (gd_mem hi)
    exact ⟨_, h1, h2, h3, h4⟩

/-- What a plan holds, for reading. -/
structure PlR (js : List Jb) (bl left : Nat → Nat) (P M : Nat) (es : List (UInt8 × Value)) (c0 c2 v : Value) (w : World) : Prop where
  blk : w.heap[P]? = some (.cells #[c0, .map (some M), c2, v] 221 (0, 0))
  jobs : JobsAt js bl left w
  map : MapAt js bl M es w
theorem PlR.same {js : List Jb} {bl left : Nat → Nat} {P M : Nat} {es : List (UInt8 × Value)} {c0 c2 v : Value} {w w' : World} (h : PlR js bl left P M es c0 c2 v w) (e : w'.heap = w.heap) : PlR js bl left P M es c0 c2 v w' :=
  ⟨by rw [e]; exact h.blk, h.jobs.same e, h.map.same e⟩
/-- Nothing is changed. -/
structure Idle (w w' : World) : Prop where
  h : w'.heap = w.heap
  f : Frm (fun _ => False) w w'
theorem Idle.refl (w : World) : Idle w w := ⟨rfl, Frm.refl _ _⟩
theorem Idle.trans {a b c : World} (h : Idle a b) (k : Idle b c) : Idle a c := ⟨k.h.trans h.h, h.f.trans k.f⟩
set_option maxRecDepth 100000 in
set_option maxHeartbeats 4000000 in
theorem busy_any (js : List Jb) (bl left : Nat → Nat) (P M : Nat) (es : List (UInt8 × Value)) (c0 c2 v : Value) (w : World) (h : PlR js bl left P M es c0 c2 v w) (c : UInt8) (hc : ∃ x ∈ es, x.1 = c) :
    Calls Tryz.prog 209 #[.pointer (some ⟨P, 0, none⟩), .string (bs [c])] w fun e w' => e = .returned (.bool (busyN js left c)) ∧ Idle w w' := by
  have c1 : w.cell? ⟨P, 1, none⟩ = some (.map (some M)) := by rw [blk_cell h.blk]; rfl
  rcases h.map.m.look c with ⟨h1, _⟩ | ⟨j, x, hj, hx, hlk⟩
  · obtain ⟨x, hx, e⟩ := hc
    exact absurd e (h1 x hx)
  · obtain ⟨T, hR, hT1, hT2, hT3⟩ := h.map.each x (List.mem_of_getElem? hj)
    rw [hx] at hT2
    obtain ⟨a, cap, hv, hcell⟩ := hR.cells
    rw [hv] at hlk
    unfold ltV at hlk
    have HJ := hide h.jobs
    have HB := hide (busy_of (left := left) hT2)
    have HT := hide hT2
    have HC := hide hcell
    clear h hT2 hT3 hR hv hx hj hc hcell
    generalize busyN js left c = bb at *
    go_enter Tryz.func209, Tryz.ntmps209
    go_wp2_with fail
    clear hlk c1
    go_loopw [14] (fun iv wr => ∃ i : Nat, i ≤ T.length ∧ iv = .int .i64 i ∧ Idle w wr ∧ ∀ q, q < i → ¬ (0 < left (gd T q) ∧ left (gd T q) < (jk js (gd T q)).cost)) (fun iv _ => T.length - (intOf iv).toNat)
    case atStart => exact ⟨0, by omega, rfl, Idle.refl _, fun q h => by omega⟩
    case round =>
      obtain ⟨i, hi, rfl, hid, hno⟩ := hrel
      have HI := hide hid
      have HN := hide hno
      clear hid hno
      by_cases hlt : i < T.length
      · have hlt' : (i : Int) < T.length := by omega
        obtain ⟨g, rfl, hg⟩ := HC.out i hlt
        have hg' : wr.cell? ⟨g, i, none⟩ = some (.pointer (some ⟨bl (gd T i), 0, none⟩)) := by rw [← hg]; simp only [World.cell?, HI.out.h]
        have hk := (HT.out _).1 (gd_mem hlt)
        have CU := hide (underWay_any (jk js (gd T i)) (left (gd T i)) (bl (gd T i)) wr (by rw [HI.out.h]; exact HJ.out _ hk.1))
        clear hg hk
        by_cases hu : 0 < left (gd T i) ∧ left (gd T i) < (jk js (gd T i)).cost
        · rw [decide_eq_true hu.1, decide_eq_true hu.2, Bool.true_and] at CU
          have hb : bb = true := HB.out.2 ⟨i, hlt, hu⟩
          subst hb
          clear hu HB HN
          go_wp2_with (go_at_call 211; refine CU.out.mono ?_; rintro e w1 ⟨rfl, hh1, hf1⟩; have HI1 := hide (HI.out.trans ⟨hh1, hf1⟩); clear hh1 hf1)
          go_ret
          exact ⟨rfl, HI1.out⟩
        · have hdn : (decide (0 < left (gd T i)) && decide (left (gd T i) < (jk js (gd T i)).cost)) = false := by
            rw [← Bool.not_eq_true, Bool.and_eq_true, decide_eq_true_eq, decide_eq_true_eq]
            exact hu
          rw [hdn] at CU
          have HN2 : Hid (∀ q, q < i + 1 → ¬ (0 < left (gd T q) ∧ left (gd T q) < (jk js (gd T q)).cost)) := fun q hq => by
            rcases Nat.lt_or_ge q i with h5 | h5
            · exact HN.out q h5
            · have : q = i := by omega
              subst this
              exact hu
          clear hu hdn HN
          go_wp2_with (go_at_call 211; refine CU.out.mono ?_; rintro e w1 ⟨rfl, hh1, hf1⟩; have HI1 := hide (HI.out.trans ⟨hh1, hf1⟩); clear hh1 hf1)
          go_roundw
          case rel => exact ⟨i + 1, by omega, by go_num, HI1.out, HN2.out⟩
          case measure => simp [intOf]; omega
      · have hlt' : ¬ (i : Int) < T.length := by omega
        have hb : bb = false := by
          cases hbb : bb with
          | false => rfl
          | true =>
            obtain ⟨q, hq, h5⟩ := HB.out.1 hbb
            exact absurd h5 (HN.out q (by omega))
        subst hb
        clear HN HB
        go_wp2_with fail
        go_ret
        exact ⟨rfl, HI.out⟩

theorem PlR.keep {js : List Jb} {bl left : Nat → Nat} {P M : Nat} {es : List (UInt8 × Value)} {c0 c2 v : Value} {w w' : World} (h : PlR js bl left P M es c0 c2 v w) (hf : Frm (fun _ => False) w w') : PlR js bl left P M es c0 c2 v w' :=
  ⟨hf.blk h.blk (fun x => x), h.jobs.keep hf (fun _ _ x => x), h.map.keep hf (fun x => x) (fun _ _ _ _ x => x)⟩
theorem done_of {js : List Jb} {cyc : Nat} (hj : JsOk js cyc) {left : Nat → Nat} {c : UInt8} {n i : Nat} (hi : i < js.length) (h1 : (jk js i).ltr = c) (h2 : (jk js i).num = n) : doneN js left c n = decide (left i = 0) := by
  unfold doneN
  rw [Bool.eq_iff_iff, List.all_eq_true, decide_eq_true_eq]
  constructor
  · intro h
    have := h i (by simpa using hi)
    simpa [h1, h2] using this
  · intro h k hk
    by_cases e : (jk js k).ltr = c ∧ (jk js k).num = n
    · have := hj.one k i (by simpa using hk) hi (by rw [e.1, h1]) (by rw [e.2, h2])
      subst this
      simp [h]
    · simp
      left
      exact Decidable.not_and_iff_or_not.1 e

theorem ppA_cells {w : World} {X : Nat} {p : Pr} {ty : TypeId} (h : w.heap[X]? = some (.cells (ppA p) ty (0, 0))) :
    w.cell? ⟨X, 0, none⟩ = some (.string (bs (pW p))) ∧ w.cell? ⟨X, 1, none⟩ = some (.string (bs [p.a])) ∧ w.cell? ⟨X, 2, none⟩ = some (.int .i64 p.q0) ∧ w.cell? ⟨X, 3, none⟩ = some (.string (bs [p.b])) ∧ w.cell? ⟨X, 4, none⟩ = some (.int .i64 p.q1) := by
  simp only [blk_cell h]
  exact ⟨rfl, rfl, rfl, rfl, rfl⟩

theorem ltr_eq (a c : UInt8) : ((bs [a]).toList == (bs [c]).toList) = decide (a = c) := bs_one_eq a c

set_option maxRecDepth 100000 in
set_option maxHeartbeats 4000000 in
theorem holdsUp_any (js : List Jb) (cyc : Nat) (hjs : JsOk js cyc) (bl left : Nat → Nat) (P M : Nat) (es : List (UInt8 × Value)) (c0 c2 v : Value) (w : World) (h : PlR js bl left P M es c0 c2 v w) (p : Pr) (hpa : ∃ x ∈ es, x.1 = p.a) (hpb : ∃ x ∈ es, x.1 = p.b) (k : Nat) (hk : k < js.length) (hbf : p.ap = false → (jk js k).ltr = p.b → ∃ i, i < js.length ∧ (jk js i).ltr = p.a ∧ (jk js i).num = (jk js k).num) :
    Calls Tryz.prog 204 #[.pointer (some ⟨P, 0, none⟩), .agg #[.string (bs (pW p)), .string (bs [p.a]), .int .i64 p.q0, .string (bs [p.b]), .int .i64 p.q1], .pointer (some ⟨bl k, 0, none⟩)] w fun e w' => e = .returned (.bool (holdsN js left k p)) ∧ Frm (fun _ => False) w w' := by
  have hX0 := ppA_cells (blk_new w (ppA p) 175)
  have F0 := hide ((Frm.refl (fun _ => False) w).alloc (.cells (ppA p) 175))
  have H0 := hide (h.keep F0.out)
  unfold ppA at hX0 F0 H0
  have hW : ((bs (pW p)).toList == [98, 101, 102, 111, 114, 101]) = !p.ap := by
    rw [ByteArray.toList_eq, bs_data]
    unfold pW
    cases p.ap <;> rfl
  have Hbf := hide hbf
  have Hpa := hide hpa
  have Hpb := hide hpb
  have Hjs := hide hjs
  clear h hbf hpa hpb hjs
  have HD : Hid (holdsN js left k p = if p.ap = false then (jk js k).ltr == p.b && !doneN js left p.a (jk js k).num else if (jk js k).ltr = p.a then busyN js left p.b else if (jk js k).ltr = p.b then busyN js left p.a else false) := rfl
  go_enter Tryz.func204, Tryz.ntmps204
  go_wp2_with fail
  generalize w.alloc (.cells #[.string (bs (pW p)), .string (bs [p.a]), .int .i64 p.q0, .string (bs [p.b]), .int .i64 p.q1] 175) = wr at *
  obtain ⟨y0, y1, y2, y3, y4⟩ := hX0
  generalize w.heap.size = X at *
  have jb0 := H0.out.jobs k hk
  have j0 : wr.cell? ⟨bl k, 0, none⟩ = some (.string (bs [(jk js k).ltr])) := by rw [blk_cell jb0]; rfl
  have j1 : wr.cell? ⟨bl k, 1, none⟩ = some (.int .i64 (jk js k).num) := by rw [blk_cell jb0]; rfl
  clear jb0
  have p1 : wr.cell? ⟨P, 1, none⟩ = some (.map (some M)) := by rw [blk_cell H0.out.blk]; rfl
  cases hap : p.ap with
  | false =>
    rw [hap, if_pos rfl] at HD
    rw [hap] at hW
    by_cases hb : (jk js k).ltr = p.b
    · obtain ⟨i, hi1, hi2, hi3⟩ := Hbf.out hap hb
      have hdn := done_of Hjs.out (left := left) hi1 hi2 hi3
      rw [hdn, hb, beq_self_eq_true, Bool.true_and] at HD
      have hs : ((bs [(jk js k).ltr]).toList == (bs [p.b]).toList) = true := by rw [ltr_eq, decide_eq_true hb]
      · obtain ⟨x, hxm, hx⟩ := Hpa.out
        obtain ⟨T, hR, hT1, hT2, hT3⟩ := H0.out.map.each x hxm
        rw [hx] at hT2
        obtain ⟨q, hq, eq⟩ := mem_gd ((hT2 i).2 ⟨hi1, hi2⟩)
        have eqn := hT3 q hq
        rw [eq, hi3] at eqn
        obtain ⟨a, cap, hv, hcell⟩ := hR.cells
        obtain ⟨g, rfl, hg⟩ := hcell q hq
        have Hlk : Hid (∀ W : World, W.heap = wr.heap → (Instr.lookup 217 (.map (some M)) (.string (bs [p.a])) false).run Tryz.prog W = .ok (.slice (some ⟨g, 0, none⟩) T.length cap) W) := fun W hW => by
          have := H0.out.map.look hxm W hW
          rw [hx, hv] at this
          exact this
        rw [eq, ← eqn] at hg
        have hqi : ((jk js k).num : Int) < T.length := by omega
        have CD : Hid (∀ W : World, W.heap = wr.heap → Calls Tryz.prog 176 #[.pointer (some ⟨bl i, 0, none⟩)] W fun e w' => e = .returned (.bool (decide (left i = 0))) ∧ w' = W) := fun W e => isDone_any (jk js i) (left i) (bl i) W (by rw [e]; exact H0.out.jobs i hi1)
        clear hR hT1 hT2 hT3 hcell hxm hx eq eqn hdn hq hv hb hi2 hi3 hap Hbf Hpa Hpb Hjs
        generalize T.length = tl at *
        generalize (jk js k).num = nm at *
        generalize decide (left i = 0) = dd at *
        go_quiet (fail)
        have hlk : ∀ n, (Instr.lookup 217 (.map (some M)) (.string (bs [p.a])) false).run Tryz.prog ((wr.drewN nq).drewN n) = .ok (.slice (some ⟨g, 0, none⟩) tl cap) ((wr.drewN nq).drewN n) := fun n => Hlk.out _ rfl
        have hlk2 : ∀ n, (Instr.lookup 217 (.map (some M)) (.string (bs [p.a])) false).run Tryz.prog (wr.drewN n) = .ok (.slice (some ⟨g, 0, none⟩) tl cap) (wr.drewN n) := fun n => Hlk.out _ rfl
        have CDQ : Hid (∀ x, Calls Tryz.prog 176 #[.pointer (some ⟨bl i, 0, none⟩)] (wr.drewN (nq + x)) fun e w' => e = .returned (.bool dd) ∧ ∃ n, w' = wr.drewN (nq + n)) := fun x => (CD.out (wr.drewN (nq + x)) rfl).mono (fun e w' h => ⟨h.1, x, h.2⟩)
        clear Hlk CD
        go_wp2_with fail
        go_quiet (first | (go_at_call 176; exact CDQ.out _))
        go_wp2_with fail
        go_ret
        exact ⟨by rw [HD.out]; rfl, F0.out.trans (Frm.sames rfl rfl rfl rfl)⟩
    · have hs : ((bs [(jk js k).ltr]).toList == (bs [p.b]).toList) = false := by rw [ltr_eq, decide_eq_false hb]
      rw [beq_eq_false_iff_ne.2 hb, Bool.false_and] at HD
      clear hb hap Hbf Hpa Hpb Hjs
      go_quiet (fail)
      go_wp2_with fail
      go_quiet (fail)
      go_wp2_with fail
      go_ret
      exact ⟨by rw [HD.out]; rfl, F0.out.trans (Frm.sames rfl rfl rfl rfl)⟩
  | true =>
    rw [hap, if_neg (by simp)] at HD
    rw [hap] at hW
    by_cases ha : (jk js k).ltr = p.a
    · have hs : ((bs [(jk js k).ltr]).toList == (bs [p.a]).toList) = true := by rw [ltr_eq, decide_eq_true ha]
      rw [if_pos ha] at HD
      have CB : Hid (∀ W : World, W.heap = wr.heap → Calls Tryz.prog 209 #[.pointer (some ⟨P, 0, none⟩), .string (bs [p.b])] W fun e w' => e = .returned (.bool (busyN js left p.b)) ∧ Idle W w') := fun W e => busy_any js bl left P M es c0 c2 v W (H0.out.same e) p.b Hpb.out
      clear ha hap Hbf Hpa Hpb Hjs
      go_quiet (fail)
      go_wp2_with (go_at_call 209; refine (CB.out (wr.drewN nq) rfl).mono ?_; rintro e w1 ⟨rfl, hid⟩; have F1 := hide ((F0.out.trans (Frm.sames (b := wr.drewN nq) rfl rfl rfl rfl)).trans hid.f); clear hid)
      go_ret
      exact ⟨by rw [HD.out]; rfl, F1.out⟩
    · have hs : ((bs [(jk js k).ltr]).toList == (bs [p.a]).toList) = false := by rw [ltr_eq, decide_eq_false ha]
      rw [if_neg ha] at HD
      by_cases hb : (jk js k).ltr = p.b
      · have hs2 : ((bs [(jk js k).ltr]).toList == (bs [p.b]).toList) = true := by rw [ltr_eq, decide_eq_true hb]
        rw [if_pos hb] at HD
        have CB : Hid (∀ W : World, W.heap = wr.heap → Calls Tryz.prog 209 #[.pointer (some ⟨P, 0, none⟩), .string (bs [p.a])] W fun e w' => e = .returned (.bool (busyN js left p.a)) ∧ Idle W w') := fun W e => busy_any js bl left P M es c0 c2 v W (H0.out.same e) p.a Hpa.out
        clear ha hb hap Hbf Hpa Hpb Hjs
        go_quiet (fail)
        go_wp2_with (go_at_call 209; refine (CB.out (wr.drewN nq) rfl).mono ?_; rintro e w1 ⟨rfl, hid⟩; have F1 := hide ((F0.out.trans (Frm.sames (b := wr.drewN nq) rfl rfl rfl rfl)).trans hid.f); clear hid)
        go_ret
        exact ⟨by rw [HD.out]; rfl, F1.out⟩
      · have hs2 : ((bs [(jk js k).ltr]).toList == (bs [p.b]).toList) = false := by rw [ltr_eq, decide_eq_false hb]
        rw [if_neg hb] at HD
        clear ha hb hap Hbf Hpa Hpb Hjs
        go_quiet (fail)
        go_wp2_with fail
        go_ret
        exact ⟨by rw [HD.out]; rfl, F0.out.trans (Frm.sames rfl rfl rfl rfl)⟩
end Go.Proofs.YtbdffcjganlblaaGreatDoor

namespace Go.Proofs.YtbdffcjganlblaaGreatDoor
open Go.RowKit
set_option linter.unusedVariables false
set_option linter.unusedSimpArgs false

/-- The pairs speak of tasks, and those of 'before' of as many jobs. -/
structure PsOk (js : List Jb) (es : List (UInt8 × Value)) (ps : List Pr) : Prop where
  a : ∀ p ∈ ps, ∃ x ∈ es, x.1 = p.a
  b : ∀ p ∈ ps, ∃ x ∈ es, x.1 = p.b
  bef : ∀ p ∈ ps, p.ap = false → ∀ k, k < js.length → (jk js k).ltr = p.b → ∃ i, i < js.length ∧ (jk js i).ltr = p.a ∧ (jk js i).num = (jk js k).num
theorem psk_mem {ps : List Pr} {i : Nat} (h : i < ps.length) : psk ps i ∈ ps := by
  unfold psk
  rw [List.getD_eq_getElem?_getD, List.getElem?_eq_getElem h]
  exact List.getElem_mem _
theorem mem_psk {ps : List Pr} {p : Pr} (h : p ∈ ps) : ∃ i, i < ps.length ∧ psk ps i = p := by
  obtain ⟨i, hi, e⟩ := List.getElem_of_mem h
  refine ⟨i, hi, ?_⟩
  unfold psk
  rw [List.getD_eq_getElem?_getD, List.getElem?_eq_getElem hi, ← e]
  rfl
/-- The pairs in memory. -/
def PairsAt (w : World) (pa : Option Addr) (ps : List Pr) : Prop := 0 < ps.length → ∃ gp, pa = some ⟨gp, 0, none⟩ ∧ gp < w.heap.size ∧ RowPP w gp ps
theorem PairsAt.keep {w w' : World} {pa : Option Addr} {ps : List Pr} {X : Nat → Prop} (h : PairsAt w pa ps) (hf : Frm X w w') (hx : ∀ gp, pa = some ⟨gp, 0, none⟩ → ¬ X gp) : PairsAt w' pa ps := fun h0 => by
  obtain ⟨gp, e, h1, h2⟩ := h h0
  exact ⟨gp, e, Nat.lt_of_lt_of_le h1 hf.size, h2.keep (hf.block gp h1 (hx gp e))⟩

set_option maxRecDepth 100000 in
set_option maxHeartbeats 4000000 in
theorem mayRun_any (js : List Jb) (cyc : Nat) (hjs : JsOk js cyc) (bl left : Nat → Nat) (P M : Nat) (es : List (UInt8 × Value)) (ps : List Pr) (hps : PsOk js es ps) (pa : Option Addr) (pc : Nat) (c2 v : Value) (w : World) (h : PlR js bl left P M es (.slice pa ps.length pc) c2 v w) (hpp : PairsAt w pa ps) (hpl : ps.length ≤ 6) (k : Nat) (hk : k < js.length) (e : Nat) :
    Calls Tryz.prog 195 #[.pointer (some ⟨P, 0, none⟩), .pointer (some ⟨bl k, 0, none⟩), .int .i64 e] w fun en w' => en = .returned (.bool (mayJ js ps left e k)) ∧ Frm (fun _ => False) w w' := by
  have jb0 := h.jobs k hk
  have j4 : w.cell? ⟨bl k, 4, none⟩ = some (.int .i64 (jk js k).dl) := by rw [blk_cell jb0]; rfl
  have p0 : w.cell? ⟨P, 0, none⟩ = some (.slice pa ps.length pc) := by rw [blk_cell h.blk]; rfl
  have HM : Hid (mayJ js ps left e k = (decide (e ≤ (jk js k).dl) && !(ps.any (holdsN js left k)))) := rfl
  have H := hide h
  have Hpp := hide hpp
  have Hps := hide hps
  have Hjs := hide hjs
  clear jb0 h hpp hps hjs
  by_cases hd : e ≤ (jk js k).dl
  · rw [decide_eq_true hd, Bool.true_and] at HM
    have hd' : ¬ ((jk js k).dl : Int) < e := by omega
    clear hd
    go_enter Tryz.func195, Tryz.ntmps195
    go_wp2_with fail
    clear j4 p0 hd'
    go_loopw [20] (fun iv wr => ∃ i : Nat, i ≤ ps.length ∧ iv = .int .i64 i ∧ Frm (fun _ => False) w wr ∧ ∀ q, q < i → holdsN js left k (psk ps q) = false) (fun iv _ => ps.length - (intOf iv).toNat)
    case atStart => exact ⟨0, by omega, rfl, Frm.refl _ _, fun q h => by omega⟩
    case round =>
      obtain ⟨i, hi, rfl, hf, hno⟩ := hrel
      have HF := hide hf
      have HN := hide hno
      clear hf hno
      by_cases hlt : i < ps.length
      · have hlt' : (i : Int) < ps.length := by omega
        obtain ⟨gp, rfl, hg1, hg2⟩ := Hpp.out (by omega)
        obtain ⟨r0, r1, r2, r3, r4⟩ := (hg2.keep (HF.out.block gp hg1 (fun x => x))) i hlt
        have hpm := psk_mem hlt
        generalize hP : psk ps i = p at *
        have HPi := hide hP
        clear hP
        have HBx := hide (HF.out.alloc (.cells #[.string (bs (pW p)), .string (bs [p.a]), .int .i64 p.q0, .string (bs [p.b]), .int .i64 p.q1] 175))
        have CH := hide (holdsUp_any js cyc Hjs.out bl left P M es _ c2 v _ (H.out.keep HBx.out) p (Hps.out.a p hpm) (Hps.out.b p hpm) k hk (fun a b => Hps.out.bef p hpm a k hk b))
        have hwd : (if p.ap then ([97, 112, 97, 114, 116] : List UInt8) else [98, 101, 102, 111, 114, 101]) = pW p := rfl
        rw [hwd] at r0
        clear hg1 hg2 hpm hwd
        go_wp2_with fail
        refine CH.out.mono ?_
        rintro en w1 ⟨rfl, hf1⟩
        have HF1 := hide (HBx.out.trans hf1)
        clear hf1 CH HBx r0 r1 r2 r3 r4
        cases hh : holdsN js left k p with
        | true =>
          have hres : Hid (mayJ js ps left e k = false) := by
            unfold Hid
            rw [HM.out]
            have : ps.any (holdsN js left k) = true := List.any_eq_true.2 ⟨p, by rw [← HPi.out]; exact psk_mem hlt, hh⟩
            rw [this]
            rfl
          clear hh HM HN
          go_wp2_with fail
          go_ret
          exact ⟨by rw [hres.out]; rfl, HF1.out⟩
        | false =>
          have HN2 : Hid (∀ q, q < i + 1 → holdsN js left k (psk ps q) = false) := fun q hq => by
            rcases Nat.lt_or_ge q i with h5 | h5
            · exact HN.out q h5
            · have : q = i := by omega
              subst this
              rw [HPi.out]
              exact hh
          clear hh HN
          go_wp2_with fail
          go_roundw
          case rel => exact ⟨i + 1, by omega, by go_num, HF1.out, HN2.out⟩
          case measure => simp [intOf]; omega
      · have hlt' : ¬ (i : Int) < ps.length := by omega
        have hres : Hid (mayJ js ps left e k = true) := by
          unfold Hid
          rw [HM.out]
          have : ps.any (holdsN js left k) = false := by
            rw [← Bool.not_eq_true, List.any_eq_true]
            rintro ⟨p, hp, h5⟩
            obtain ⟨q, hq, rfl⟩ := mem_psk hp
            rw [HN.out q (by omega)] at h5
            simp at h5
          rw [this]
          rfl
        clear HN HM
        go_wp2_with fail
        go_ret
        exact ⟨by rw [hres.out]; rfl, HF.out⟩
  · rw [decide_eq_false hd, Bool.false_and] at HM
    have hd' : ((jk js k).dl : Int) < e := by omega
    clear hd
    go_enter Tryz.func195, Tryz.ntmps195
    go_wp2_with fail
    go_ret
    exact ⟨by rw [HM.out]; rfl, Frm.refl _ _⟩
end Go.Proofs.YtbdffcjganlblaaGreatDoor
