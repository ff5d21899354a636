/-
  Own work. The document's tables: which jobs a table may name.
-/
import Derived.Test.YtbdffcjganlblaaGreatDoorRefO
import Derived.Test.YtbdffcjganlblaaGreatDoorTabAtoRefP
import Derived.Test.YtbdffcjganlblaaGreatDoorTabBtoTabD
import Derived.Test.YtbdffcjganlblaaGreatDoorLays
import Derived.Lib.ItoaLen
import Derived.Lib.LaidTab
import Derived.Laws.MakeOwn
import Derived.Deep.DeepCutAuto
namespace Go.Proofs.YtbdffcjganlblaaGreatDoor
open Go.RowKit
set_option linter.unusedVariables false
set_option linter.unusedSimpArgs false

def fsk (l : List FSl) (k : Nat) : FSl := l.getD k (0, ⟨0, 0, 0⟩)
theorem fsk_eq {l : List FSl} {k : Nat} (h : k < l.length) : l[k] = fsk l k := by simp [fsk, List.getD_eq_getElem?_getD, h]
def flCells (x : FSl) : List Value := slCells x.1 x.2
def flRow (l : List FSl) : List Value := l.flatMap flCells
theorem flRow_get (T : List FSl) : ∀ (j : Nat), j < T.length → ∀ o, o < 4 → (flRow T)[j * 4 + o]? = (flCells (fsk T j))[o]? := by
  induction T with
  | nil => intro j h; simp at h
  | cons t r ih =>
    intro j hj o ho
    have e : flRow (t :: r) = flCells t ++ flRow r := rfl
    have el : (flCells t).length = 4 := rfl
    cases j with
    | zero => rw [e, List.getElem?_append_left (by omega)]; simp [fsk]
    | succ j =>
      have := ih j (by simpa using hj) o ho
      rw [e, List.getElem?_append_right (by omega), el, show (j + 1) * 4 + o - 4 = j * 4 + o by omega, this]
      simp [fsk]
/-- The slices lie in block g. -/
def RowF (w : World) (g : Nat) (l : List FSl) : Prop := ∀ k, k < l.length →
  w.cell? ⟨g, k * 4, none⟩ = some (.int .i64 (fsk l k).1) ∧ w.cell? ⟨g, k * 4 + 1, none⟩ = some (.int .u8 (fsk l k).2.nm.toNat) ∧ w.cell? ⟨g, k * 4 + 2, none⟩ = some (.int .i64 (fsk l k).2.job) ∧ w.cell? ⟨g, k * 4 + 3, none⟩ = some (.int .i64 (fsk l k).2.bud)
theorem rowF_own {w : World} {base g cap : Nat} {l : List FSl} (h : w.ownsRow base 44 4 (.slice (some ⟨g, 0, none⟩) l.length cap) l.length (flRow l)) : RowF w g l := by
  intro k hk
  have e : ∀ o, o < 4 → w.cell? ⟨g, k * 4 + o, none⟩ = (flCells (fsk l k))[o]? := fun o ho => by rw [h.cellAt _ (by omega)]; exact flRow_get l k hk o ho
  have e0 := e 0 (by omega)
  simp only [Nat.add_zero] at e0
  rw [e0, e 1 (by omega), e 2 (by omega), e 3 (by omega)]
  exact ⟨rfl, rfl, rfl, rfl⟩
theorem RowF.below {w w' : World} {g B : Nat} {l : List FSl} (h : RowF w g l) (hb : Below B w w') (hg : g < B) : RowF w' g l := by
  intro k hk
  have e : ∀ o, w'.cell? ⟨g, o, none⟩ = w.cell? ⟨g, o, none⟩ := fun o => hb.cell (p := ⟨g, o, none⟩) hg
  rw [e, e, e, e]
  exact h k hk

/-- A table that a method was handed. -/
structure TBx (w wr : World) (c f : Nat) (sv : Value) : Prop where
  h : wr.heap[w.heap.size]? = some (.cells #[.int .i64 c, .int .i64 f, sv] 39 (0, 0))
  b : Below w.heap.size w wr
section
variable {w wr : World} {c f : Nat} {sv : Value}
theorem TBx.start (w : World) (c f : Nat) (sv : Value) : TBx w (w.alloc (.cells #[.int .i64 c, .int .i64 f, sv] 39)) c f sv := ⟨blk_new _ _ _, below_new _ _⟩
theorem TBx.keep (h : TBx w wr c f sv) {w' : World} (hb : Below wr.heap.size wr w') : TBx w w' c f sv := ⟨blk_keep h.h hb, h.b.trans (hb.mono h.b.size)⟩
theorem TBx.drewN (h : TBx w wr c f sv) (n : Nat) : TBx w (wr.drewN n) c f sv := h.keep (below_drewN (Below.refl _ _) n)
theorem TBx.alloc (h : TBx w wr c f sv) (o : Obj) : TBx w (wr.alloc o) c f sv := h.keep (below_new _ _)
theorem TBx.cells (h : TBx w wr c f sv) : wr.cell? ⟨w.heap.size, 0, none⟩ = some (.int .i64 c) ∧ wr.cell? ⟨w.heap.size, 1, none⟩ = some (.int .i64 f) ∧ wr.cell? ⟨w.heap.size, 2, none⟩ = some sv := by
  refine ⟨?_, ?_, ?_⟩ <;> (rw [blk_cell h.h]; rfl)
end

/-- An answer that says whether Q. -/
def BoolPost (Q : Prop) (w : World) (e : Ending) (w' : World) : Prop := ∃ b : Bool, e = .returned (.bool b) ∧ (b = true ↔ Q) ∧ Below w.heap.size w w'
theorem boolPost_no {Q : Prop} {w w' : World} {v : Value} (hv : v = .bool false) (h : ¬ Q) (hb : Below w.heap.size w w') : BoolPost Q w (.returned v) w' := ⟨false, by rw [hv], by simp [h], hb⟩
theorem boolPost_yes {Q : Prop} {w w' : World} {v : Value} (hv : v = .bool true) (h : Q) (hb : Below w.heap.size w w') : BoolPost Q w (.returned v) w' := ⟨true, by rw [hv], by simp [h], hb⟩

def FSl.small (x : FSl) : Prop := x.1 ≤ 60 ∧ x.2.job ≤ 9999 ∧ x.2.bud ≤ 9999

theorem dup_snoc (P : List FSl) (y x : FSl) : dupJ (P ++ [y]) x ↔ dupJ P x ∨ (y.2.nm = x.2.nm ∧ y.2.job = x.2.job ∧ y.1 = x.1) := by
  unfold dupJ
  simp only [List.mem_append, List.mem_singleton]
  constructor
  · rintro ⟨z, hz | rfl, h⟩
    · exact .inl ⟨z, hz, h⟩
    · exact .inr h
  · rintro (⟨z, hz, h⟩ | h)
    · exact ⟨z, .inl hz, h⟩
    · exact ⟨y, .inr rfl, h⟩
theorem take_next {l : List FSl} {k : Nat} (h : k < l.length) : l.take (k + 1) = l.take k ++ [fsk l k] := by
  rw [List.take_succ_eq_append_getElem h, fsk_eq h]
theorem nextJ_le {l : List FSl} (hs : ∀ k, k < l.length → (fsk l k).small) (n : UInt8) : ∀ k, k ≤ l.length → nextJ (l.take k) n ≤ 10000
  | 0, _ => by simp [nextJ]
  | k + 1, h => by
    have ih := nextJ_le hs n k (by omega)
    have hk := (hs k (by omega)).2.1
    rw [take_next (by omega), nextJ_snoc]
    split
    · split <;> omega
    · exact ih

/-- Up to slice k all is as it should be. -/
def JTo (l : List FSl) (k : Nat) : Prop := ∀ i, i < k → okR (l.take i) (fsk l i)
theorem jTo_all {l : List FSl} : JobsR l ↔ JTo l l.length := by
  constructor
  · intro h i hi
    have := h i hi
    rw [fsk_eq hi] at this
    exact this
  · intro h i hi
    rw [fsk_eq hi]
    exact h i hi
theorem jTo_step {l : List FSl} {k : Nat} (h : JTo l k) (hk : okR (l.take k) (fsk l k)) : JTo l (k + 1) := by
  intro i hi
  rcases Nat.lt_or_ge i k with h1 | h1
  · exact h i h1
  · have : i = k := by omega
    subst this
    exact hk

set_option maxRecDepth 100000 in
set_option maxHeartbeats 4000000 in
theorem rjobs_any (c f : Nat) (l : List FSl) (g cap : Nat) (w : World) (hg : g < w.heap.size) (hr : RowF w g l) (hn : l.length ≤ 300) (hs : ∀ k, k < l.length → (fsk l k).small) :
    Calls Tryz.prog 81 #[.agg #[.int .i64 c, .int .i64 f, .slice (some ⟨g, 0, none⟩) l.length cap]] w (BoolPost (JobsR l) w) := by
  have Hr := hide hr
  have H0 := hide (TBx.start w c f (.slice (some ⟨g, 0, none⟩) l.length cap))
  have Hs := hide hs
  clear hr hs
  go_enter Tryz.func81, Tryz.ntmps81
  go_wp2_with fail
  go_loopw [3] (fun i wr => ∃ k : Nat, k ≤ l.length ∧ i = .int .i64 k ∧ TBx w wr c f (.slice (some ⟨g, 0, none⟩) l.length cap) ∧ JTo l k) (fun i _ => l.length - (intOf i).toNat)
  case atStart => exact ⟨0, by omega, rfl, H0.out, fun i hi => by omega⟩
  case round =>
    clear H0
    obtain ⟨k, hk, rfl, hT, hJ⟩ := hrel
    obtain ⟨x0, x1, x2⟩ := hT.cells
    have HT := hide hT
    have HJ := hide hJ
    clear hT hJ
    by_cases hlt : k < l.length
    · have hlt' : (k : Int) < l.length := by omega
      go_wp2_with fail
      clear x0 x1 x2
      go_loopw [4, 5] (fun nx j wr => ∃ q : Nat, q ≤ k ∧ j = .int .i64 q ∧ nx = .int .i64 (nextJ (l.take q) (fsk l k).2.nm : Nat) ∧ TBx w wr c f (.slice (some ⟨g, 0, none⟩) l.length cap) ∧ Hid (¬ dupJ (l.take q) (fsk l k))) (fun _ j _ => k - (intOf j).toNat)
      case atStart => exact ⟨0, by omega, rfl, rfl, HT.out, by simp [Hid, dupJ]⟩
      case round =>
        clear HT
        obtain ⟨q, hq, rfl, rfl, hT, hD⟩ := hrel
        obtain ⟨x0, x1, x2⟩ := hT.cells
        have HT := hide hT
        have hR := Hr.out.below hT.b hg
        obtain ⟨k0, k1, k2, k3⟩ := hR k hlt
        have hks := Hs.out k hlt
        obtain ⟨hk1, hk2, hk3⟩ := hks
        have hnl := nextJ_le Hs.out (fsk l k).2.nm q (by omega)
        by_cases hqk : q < k
        · have hqk' : (q : Int) < k := by omega
          obtain ⟨q0, q1, q2, q3⟩ := hR q (by omega)
          obtain ⟨hq1, hq2, hq3⟩ := Hs.out q (by omega)
          have htk := hide (take_next (l := l) (k := q) (by omega))
          clear hT hR
          by_cases hnm : (fsk l q).2.nm = (fsk l k).2.nm
          · have hb : (((fsk l q).2.nm.toNat : Int) == (fsk l k).2.nm.toNat) = true := by rw [u8_eq]; simpa using hnm
            have hnx : Hid (nextJ (l.take (q + 1)) (fsk l k).2.nm = if nextJ (l.take q) (fsk l k).2.nm < (fsk l q).2.job + 1 then (fsk l q).2.job + 1 else nextJ (l.take q) (fsk l k).2.nm) := by
              unfold Hid
              rw [htk.out, nextJ_snoc, if_pos hnm]
            have hds : Hid (dupJ (l.take (q + 1)) (fsk l k) ↔ (fsk l q).2.job = (fsk l k).2.job ∧ (fsk l q).1 = (fsk l k).1) := by
              unfold Hid
              rw [htk.out, dup_snoc]
              constructor
              · rintro (h | ⟨_, h⟩)
                · exact absurd h hD.out
                · exact h
              · intro h
                exact .inr ⟨hnm, h⟩
            have Hnm := hide hnm
            clear hnm htk
            generalize nextJ (l.take q) (fsk l k).2.nm = nq at *
            have hcase : ((((fsk l q).2.job : Int) == (fsk l k).2.job) = false) ∨ ((((fsk l q).2.job : Int) == (fsk l k).2.job) = true ∧ (((fsk l q).1 : Int) == (fsk l k).1) = false) ∨ ((((fsk l q).2.job : Int) == (fsk l k).2.job) = true ∧ (((fsk l q).1 : Int) == (fsk l k).1) = true) := by
              cases (((fsk l q).2.job : Int) == (fsk l k).2.job) <;> cases (((fsk l q).1 : Int) == (fsk l k).1) <;> simp
            by_cases hgt : nq < (fsk l q).2.job + 1
            · have hgt' : (nq : Int) < (fsk l q).2.job + 1 := by omega
              have hnx2 : Hid (nextJ (l.take (q + 1)) (fsk l k).2.nm = (fsk l q).2.job + 1) := by unfold Hid; rw [hnx.out, if_pos hgt]
              clear hnx hgt
              rcases hcase with h1 | ⟨h1, h2⟩ | ⟨h1, h2⟩
              · have hnd : Hid (¬ dupJ (l.take (q + 1)) (fsk l k)) := by unfold Hid; rw [hds.out]; simp at h1; omega
                clear hds
                go_wp2
                go_quiet (fail)
                go_wp2
                go_quiet (fail)
                go_wp2
                go_roundw
                case rel => exact ⟨q + 1, by omega, by go_num, by rw [hnx2.out]; go_num, HT.out.drewN _, hnd.out⟩
                case measure => simp [intOf]; omega
              · have hnd : Hid (¬ dupJ (l.take (q + 1)) (fsk l k)) := by unfold Hid; rw [hds.out]; simp at h2; omega
                clear hds
                go_wp2
                go_quiet (fail)
                go_wp2
                go_quiet (fail)
                go_wp2
                go_roundw
                case rel => exact ⟨q + 1, by omega, by go_num, by rw [hnx2.out]; go_num, HT.out.drewN _, hnd.out⟩
                case measure => simp [intOf]; omega
              · have hno : Hid (¬ JobsR l) := by
                  unfold Hid
                  intro hall
                  have := (jTo_all.1 hall k hlt).1
                  refine this ?_
                  obtain ⟨z, hz, hz'⟩ := hds.out.2 ⟨by simp at h1; omega, by simp at h2; omega⟩
                  exact ⟨z, List.mem_of_mem_take (i := q + 1) (by rw [List.take_take]; rw [show min (q + 1) k = q + 1 by omega]; exact hz), hz'⟩
                clear hds
                go_wp2
                go_quiet (fail)
                go_wp2
                go_quiet (fail)
                go_wp2
                go_ret
                exact boolPost_no rfl hno.out ((HT.out.drewN _).drewN _).b
            · have hgt' : ¬ (nq : Int) < (fsk l q).2.job + 1 := by omega
              have hnx2 : Hid (nextJ (l.take (q + 1)) (fsk l k).2.nm = nq) := by unfold Hid; rw [hnx.out, if_neg hgt]
              clear hnx hgt
              rcases hcase with h1 | ⟨h1, h2⟩ | ⟨h1, h2⟩
              · have hnd : Hid (¬ dupJ (l.take (q + 1)) (fsk l k)) := by unfold Hid; rw [hds.out]; simp at h1; omega
                clear hds
                go_wp2
                go_quiet (fail)
                go_wp2
                go_quiet (fail)
                go_wp2
                go_roundw
                case rel => exact ⟨q + 1, by omega, by go_num, by rw [hnx2.out], HT.out.drewN _, hnd.out⟩
                case measure => simp [intOf]; omega
              · have hnd : Hid (¬ dupJ (l.take (q + 1)) (fsk l k)) := by unfold Hid; rw [hds.out]; simp at h2; omega
                clear hds
                go_wp2
                go_quiet (fail)
                go_wp2
                go_quiet (fail)
                go_wp2
                go_roundw
                case rel => exact ⟨q + 1, by omega, by go_num, by rw [hnx2.out], HT.out.drewN _, hnd.out⟩
                case measure => simp [intOf]; omega
              · have hno : Hid (¬ JobsR l) := by
                  unfold Hid
                  intro hall
                  have := (jTo_all.1 hall k hlt).1
                  refine this ?_
                  obtain ⟨z, hz, hz'⟩ := hds.out.2 ⟨by simp at h1; omega, by simp at h2; omega⟩
                  exact ⟨z, List.mem_of_mem_take (i := q + 1) (by rw [List.take_take]; rw [show min (q + 1) k = q + 1 by omega]; exact hz), hz'⟩
                clear hds
                go_wp2
                go_quiet (fail)
                go_wp2
                go_quiet (fail)
                go_wp2
                go_ret
                exact boolPost_no rfl hno.out ((HT.out.drewN _).drewN _).b
          · have hb : (((fsk l q).2.nm.toNat : Int) == (fsk l k).2.nm.toNat) = false := by rw [u8_eq]; simpa using hnm
            have hnx : Hid (nextJ (l.take (q + 1)) (fsk l k).2.nm = nextJ (l.take q) (fsk l k).2.nm) := by
              unfold Hid
              rw [htk.out, nextJ_snoc, if_neg hnm]
            have hnd : Hid (¬ dupJ (l.take (q + 1)) (fsk l k)) := by
              unfold Hid
              rw [htk.out, dup_snoc]
              rintro (h | ⟨h, _⟩)
              · exact hD.out h
              · exact hnm h
            clear hnm htk
            go_wp2
            go_quiet (fail)
            go_wp2
            go_roundw
            case rel => exact ⟨q + 1, by omega, by go_num, by rw [hnx.out], HT.out.drewN _, hnd.out⟩
            case measure => simp [intOf]; omega
        · have hqe : q = k := by omega
          subst hqe
          have hqk' : ¬ (q : Int) < q := by omega
          clear hT hR hqk
          generalize hnq : nextJ (l.take q) (fsk l q).2.nm = nq at *
          have Hnq := hide hnq
          clear hnq
          have hcase : (((fsk l q).2.job : Int) != nq) = false ∨ ((((fsk l q).2.job : Int) != nq) = true ∧ (((fsk l q).2.job : Int) != (nq : Int) - 1) = false) ∨ ((((fsk l q).2.job : Int) != nq) = true ∧ (((fsk l q).2.job : Int) != (nq : Int) - 1) = true) := by
            cases (((fsk l q).2.job : Int) != nq) <;> cases (((fsk l q).2.job : Int) != (nq : Int) - 1) <;> simp
          rcases hcase with h1 | ⟨h1, h2⟩ | ⟨h1, h2⟩
          · have hok : Hid (JTo l (q + 1)) := by
              refine jTo_step HJ.out ⟨hD.out, .inl ?_⟩
              rw [Hnq.out]
              simp at h1
              omega
            go_wp2
            go_roundw
            case rel => exact ⟨q + 1, by omega, by go_num, HT.out, hok.out⟩
            case measure => simp [intOf]; omega
          · have hok : Hid (JTo l (q + 1)) := by
              refine jTo_step HJ.out ⟨hD.out, .inr ?_⟩
              rw [Hnq.out]
              simp at h2
              omega
            go_wp2
            go_roundw
            case rel => exact ⟨q + 1, by omega, by go_num, HT.out, hok.out⟩
            case measure => simp [intOf]; omega
          · have hno : Hid (¬ JobsR l) := by
              intro hall
              have := (jTo_all.1 hall q hlt).2
              rw [Hnq.out] at this
              simp at h1 h2
              omega
            go_wp2
            go_ret
            exact boolPost_no rfl hno.out HT.out.b
    · have hlt' : ¬ (k : Int) < l.length := by omega
      have hke : k = l.length := by omega
      have hok : Hid (JobsR l) := by
        rw [hke] at HJ
        exact jTo_all.2 HJ.out
      go_wp2
      go_ret
      exact boolPost_yes rfl hok.out HT.out.b
end Go.Proofs.YtbdffcjganlblaaGreatDoor

namespace Go.Proofs.YtbdffcjganlblaaGreatDoor
open Go.RowKit Go.Shelf
set_option linter.unusedVariables false
set_option linter.unusedSimpArgs false

/-! ### Numbers -/
/-- The library's table of powers of ten is as it was laid. -/
def T10 (w : World) : Prop := Lib.TabIs Tryz.prog w "internal/strconv.uint64pow10" .u64 Lib.pow10Tab
theorem T10.below {w w' : World} (h : T10 w) (hb : Below w.heap.size w w') : T10 w' := by
  unfold T10 Lib.TabIs World.var? at h ⊢
  cases hg : Tryz.prog.globalNamed "internal/strconv.uint64pow10" with
  | none => rw [hg] at h; simp at h
  | some g =>
    rw [hg] at h
    simp only [Option.bind_some] at h ⊢
    cases hc : w.heap[g]? with
    | none => rw [hc] at h; simp at h
    | some o =>
      rw [hb.block g (blk_lt hc)]
      exact h
/-- A number, written out. -/
def dX (n : Nat) : ByteArray := if n < 100 then dB n else ⟨(Lib.itoa n).toArray⟩
theorem dX_small {n : Nat} (h : n < 100) : dX n = dB n := by unfold dX; rw [if_pos h]
theorem dX_size (n : Nat) (hn : n ≤ 100000) : (dX n).size ≤ 21 := by
  unfold dX
  split
  · have := dB_size n
    omega
  · have := Lib.itoa_length_le n (by omega) (by omega)
    simpa [ByteArray.size] using this
theorem itoaX_any (n : Nat) (w : World) (hn : n ≤ 100000) (ht : T10 w) :
    Calls Tryz.prog 71 #[.int .i64 n] w fun e w' => e = .returned (.string (dX n)) ∧ Below w.heap.size w w' := by
  by_cases h : n < 100
  · rw [dX_small h]
    refine (itoa_any n w h).mono ?_
    rintro e w' ⟨rfl, rfl⟩
    exact ⟨rfl, Below.refl _ _⟩
  · unfold dX
    rw [if_neg h]
    refine (show Calls Tryz.prog 71 #[.int .i64 n] w fun e w' => e = .returned (.string ⟨(Lib.itoa n).toArray⟩) ∧ ∃ k os, w' = Sort.grow (w.drewN k) os from Any.strconv_Itoa Tryz.laysM171 n (by omega) (by omega) w ht).mono ?_
    rintro e w' ⟨rfl, k, os, rfl⟩
    refine ⟨rfl, rfl, rfl, rfl, ?_, ?_⟩
    · show w.heap.size ≤ (w.heap ++ os).size
      simp
    · intro j hj
      show (w.heap ++ os)[j]? = w.heap[j]?
      rw [Array.getElem?_append_left hj]

set_option maxRecDepth 100000 in
set_option maxHeartbeats 1000000 in
theorem rdecX_any (n : Nat) (w : World) (hn : n ≤ 100000) (ht : T10 w) :
    Calls Tryz.prog 82 #[.int .i64 n] w fun e w' => e = .returned (.string (dX n)) ∧ Below w.heap.size w w' := by
  have H := hide (itoaX_any n w hn ht)
  clear hn ht
  go_enter Tryz.func82, Tryz.ntmps82
  go_wp2_with fail
  refine H.out.mono ?_
  rintro e w1 ⟨rfl, hb⟩
  have Hb := hide hb
  clear hb H
  go_wp2
  go_ret
  exact ⟨rfl, Hb.out⟩

/-! ### Budgets -/
structure UB (w wr : World) (c f : Nat) (sv : Value) (l : List FSl) (k : Nat) : Prop where
  t : TBx w wr c f sv
  u : ∀ j, j < c → wr.cell? ⟨w.heap.size + 1, j, none⟩ = some (.int .i64 (usedJ (l.take k) j : Nat))
  fz : ∀ j, wr.frozen? ⟨w.heap.size + 1, j, none⟩ = false
  lt : w.heap.size + 1 < wr.heap.size
section
variable {w wr : World} {c f : Nat} {sv : Value} {l : List FSl} {k : Nat}
theorem UB.drewN (h : UB w wr c f sv l k) (n : Nat) : UB w (wr.drewN n) c f sv l k := ⟨h.t.drewN n, h.u, h.fz, h.lt⟩
theorem UB.set (h : UB w wr c f sv l k) (hk : k < l.length) (hj : (fsk l k).1 < c) : UB w (wr.setCell ⟨w.heap.size + 1, (fsk l k).1, none⟩ (.int .i64 (usedJ (l.take k) (fsk l k).1 + (fsk l k).2.bud : Nat))) c f sv l (k + 1) := by
  refine ⟨⟨?_, h.t.b.setCell (by show w.heap.size ≤ w.heap.size + 1; omega) _⟩, ?_, ?_, by rw [heap_set_size]; exact h.lt⟩
  · rw [Below.heap_setCell _ _ _ _ (by show w.heap.size ≠ w.heap.size + 1; omega)]; exact h.t.h
  · intro j hjc
    rw [take_next hk, usedJ_app]
    by_cases hjj : j = (fsk l k).1
    · subst hjj
      rw [set_same (h.u _ hjc)]
      simp [usedJ]
    · have h0 : usedJ [fsk l k] j = 0 := by
        simp only [usedJ]
        rw [if_neg (fun e => hjj e.symm)]
      rw [set_other (by intro e; injection e with _ e2; exact hjj e2.symm), h.u j hjc, h0, Nat.add_zero]
  · intro j
    simpa using h.fz j
end
theorem usedJ_le {l : List FSl} (hs : ∀ k, k < l.length → (fsk l k).small) (j : Nat) : ∀ k, k ≤ l.length → usedJ (l.take k) j ≤ 9999 * k
  | 0, _ => by simp [usedJ]
  | k + 1, h => by
    have ih := usedJ_le hs j k (by omega)
    have hk := (hs k (by omega)).2.2
    rw [take_next (by omega), usedJ_app]
    simp only [usedJ]
    split <;> omega

def BTo (f : Nat) (l : List FSl) (k : Nat) : Prop := ∀ i, i < k → 1 ≤ (fsk l i).2.bud ∧ usedJ (l.take i) (fsk l i).1 + (fsk l i).2.bud ≤ f
theorem bTo_all {f : Nat} {l : List FSl} : BudR f [] l ↔ BTo f l l.length := by
  constructor
  · intro h i hi
    have := h i hi
    rw [fsk_eq hi] at this
    exact this
  · intro h i hi
    rw [fsk_eq hi]
    exact h i hi
theorem bTo_step {f : Nat} {l : List FSl} {k : Nat} (h : BTo f l k) (hk : 1 ≤ (fsk l k).2.bud ∧ usedJ (l.take k) (fsk l k).1 + (fsk l k).2.bud ≤ f) : BTo f l (k + 1) := by
  intro i hi
  rcases Nat.lt_or_ge i k with h1 | h1
  · exact h i h1
  · have : i = k := by omega
    subst this
    exact hk
end Go.Proofs.YtbdffcjganlblaaGreatDoor

namespace Go.Proofs.YtbdffcjganlblaaGreatDoor
open Go.RowKit
set_option linter.unusedVariables false
set_option linter.unusedSimpArgs false

theorem Tryz.infoInt : (Tryz.prog.info? 3).map (fun i => (i.zero, i.size, i.bytes)) = some (some (.int .i64 0), 1, 8) := by kernel_rfl
def zerosA (c : Nat) : Array Value := madeCells (Value.int .i64 0).cells c
theorem zerosA_at (c j : Nat) (h : j < c) : (zerosA c)[j]? = some (.int .i64 0) := by
  simp [zerosA, madeCells, h, Value.cells, Nat.mod_one]
theorem make_ints (c : Nat) (hc : c ≤ 1000) (w : World) : (Instr.makeSlice 25 (.int .i64 c) (.int .i64 c)).run Tryz.prog w = .ok (.slice (some ⟨w.heap.size, 0, none⟩) c c) (w.alloc (.cells (zerosA c) 3)) := by
  obtain ⟨i0, hi, hz0, hz1, hz2⟩ := info_parts Tryz.infoInt
  have := run_make (P := Tryz.prog) w 25 3 i0 _ Tryz.underlying25 hi hz0 .i64 .i64 c c (by omega) (by omega) (by rw [hz2]; omega) (by omega)
  rw [hz1] at this
  simpa [zerosA] using this
theorem UB.start (w : World) (c f : Nat) (sv : Value) (l : List FSl) : UB w ((w.alloc (.cells #[.int .i64 c, .int .i64 f, sv] 39)).alloc (.cells (zerosA c) 3)) c f sv l 0 := by
  have hb := blk_new (w.alloc (.cells #[.int .i64 c, .int .i64 f, sv] 39)) (zerosA c) 3
  simp only [World.size_alloc] at hb
  refine ⟨(TBx.start w c f sv).alloc _, ?_, blk_frozen hb, by simp⟩
  intro j hj
  rw [blk_cell hb, zerosA_at c j hj]
  simp [usedJ]

set_option maxRecDepth 100000 in
set_option maxHeartbeats 4000000 in
theorem rsound_any (c f : Nat) (l : List FSl) (g cap : Nat) (w : World) (hg : g < w.heap.size) (hr : RowF w g l) (hn : l.length ≤ 300) (hs : ∀ k, k < l.length → (fsk l k).small) (hc : c ≤ 60) (hf : f ≤ 9999) (hl : ∀ k, k < l.length → (fsk l k).1 < c) :
    Calls Tryz.prog 45 #[.agg #[.int .i64 c, .int .i64 f, .slice (some ⟨g, 0, none⟩) l.length cap]] w (BoolPost (BudR f [] l ∧ JobsR l) w) := by
  have Hr := hide hr
  have Hs := hide hs
  have Hl := hide hl
  have H0 := hide (UB.start w c f (.slice (some ⟨g, 0, none⟩) l.length cap) l)
  have hmk := make_ints c (by omega)
  clear hr hs hl
  go_enter Tryz.func45, Tryz.ntmps45
  go_wp2_with fail
  clear hmk
  go_loopw [4] (fun i wr => ∃ k : Nat, k ≤ l.length ∧ i = .int .i64 k ∧ UB w wr c f (.slice (some ⟨g, 0, none⟩) l.length cap) l k ∧ BTo f l k) (fun i _ => l.length - (intOf i).toNat)
  case atStart => exact ⟨0, by omega, rfl, H0.out, fun i hi => by omega⟩
  case round =>
    clear H0
    obtain ⟨k, hk, rfl, hU, hB⟩ := hrel
    obtain ⟨x0, x1, x2⟩ := hU.t.cells
    have HU := hide hU
    have HB := hide hB
    by_cases hlt : k < l.length
    · have hlt' : (k : Int) < l.length := by omega
      have hR := Hr.out.below hU.t.b hg
      obtain ⟨k0, k1, k2, k3⟩ := hR k hlt
      obtain ⟨hk1, hk2, hk3⟩ := Hs.out k hlt
      have hlc := Hl.out k hlt
      have hu := hU.u _ hlc
      have hfz := hU.fz (fsk l k).1
      have hul := usedJ_le Hs.out (fsk l k).1 k (by omega)
      clear hR hB
      by_cases hb1 : (fsk l k).2.bud < 1
      · have hb1' : ((fsk l k).2.bud : Int) < 1 := by omega
        have hno : Hid (¬ (BudR f [] l ∧ JobsR l)) := by
          rintro ⟨h, _⟩
          have := (bTo_all.1 h k hlt).1
          omega
        clear hU hb1
        go_wp2
        go_ret
        exact boolPost_no rfl hno.out HU.out.t.b
      · have hb1' : ¬ ((fsk l k).2.bud : Int) < 1 := by omega
        have hU2 := hU.set hlt hlc
        rw [Int.natCast_add] at hU2
        have HU2 := hide (hU2.drewN 1)
        have hus : Hid (usedJ (l.take (k + 1)) (fsk l k).1 = usedJ (l.take k) (fsk l k).1 + (fsk l k).2.bud) := by
          unfold Hid
          rw [take_next hlt, usedJ_app]
          simp [usedJ]
        have hul2 := usedJ_le Hs.out (fsk l k).1 (k + 1) (by omega)
        have hne : ¬ g = w.heap.size + 1 := by omega
        have hne2 : ¬ w.heap.size + 1 = g := by omega
        clear hU hU2
        go_wp2_with fail
        go_region
        all_goals
          clear x0 x1 x2 k0 k1 k2 k3 hu hfz
          generalize hW : World.drew _ = W
          have HU3 : Hid (UB w W c f (.slice (some ⟨g, 0, none⟩) l.length cap) l (k + 1)) := by
            rw [← hW]
            exact HU2
          clear HU2 hW
          obtain ⟨x0, x1, x2⟩ := HU3.out.t.cells
          obtain ⟨k0, k1, k2, k3⟩ := Hr.out.below HU3.out.t.b hg k hlt
          have hu := HU3.out.u _ hlc
          by_cases hb2 : usedJ (l.take (k + 1)) (fsk l k).1 ≤ f
          · have hb2' : ¬ (f : Int) < usedJ (l.take (k + 1)) (fsk l k).1 := by omega
            have hB2 : Hid (BTo f l (k + 1)) := by
              refine bTo_step HB.out ⟨by omega, ?_⟩
              have := hus.out
              omega
            go_wp2
            go_quiet (fail)
            go_wp2
            go_roundw
            case rel => exact ⟨k + 1, by omega, by go_num, HU3.out.drewN _, hB2.out⟩
            case measure => simp [intOf]; omega
          · have hb2' : (f : Int) < usedJ (l.take (k + 1)) (fsk l k).1 := by omega
            have hno : Hid (¬ (BudR f [] l ∧ JobsR l)) := by
              rintro ⟨h, _⟩
              have h1 := (bTo_all.1 h k hlt).2
              have := hus.out
              omega
            go_wp2
            go_quiet (fail)
            go_wp2
            go_ret
            exact boolPost_no rfl hno.out (HU3.out.drewN _).t.b
    · have hlt' : ¬ (k : Int) < l.length := by omega
      have hke : k = l.length := by omega
      have hall : Hid (BudR f [] l) := by
        rw [hke] at HB
        exact bTo_all.2 HB.out
      clear hU hB
      go_wp2_with fail
      refine (rjobs_any c f l g cap wr (Nat.lt_of_lt_of_le hg HU.out.t.b.size) (Hr.out.below HU.out.t.b hg) hn Hs.out).mono ?_
      rintro e w1 ⟨b, rfl, hbj, hbb⟩
      have Hbj := hide hbj
      have Hbb := hide (HU.out.t.b.trans (hbb.mono HU.out.t.b.size))
      clear hbj hbb
      go_wp2
      go_ret
      exact ⟨b, rfl, by rw [Hbj.out]; simp [hall.out], Hbb.out⟩
end Go.Proofs.YtbdffcjganlblaaGreatDoor
