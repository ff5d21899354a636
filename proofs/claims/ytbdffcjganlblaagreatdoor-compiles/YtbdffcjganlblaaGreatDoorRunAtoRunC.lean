/-
  Own work. The document's run: where a job's slices lie.
-/
import Derived.Test.YtbdffcjganlblaaGreatDoorRefXtoRefX
import Derived.Deep.RegionHeldLaw
namespace Go.Proofs.YtbdffcjganlblaaGreatDoor
open Go.RowKit
set_option linter.unusedVariables false
set_option linter.unusedSimpArgs false

/-- A job's first slice, its last one, its budgets together. -/
structure Spt where
  fst : Int
  lst : Int
  cost : Nat
def isOf (x : FSl) (n : UInt8) (k : Nat) : Prop := x.2.nm = n ∧ x.2.job = k
instance (x : FSl) (n : UInt8) (k : Nat) : Decidable (isOf x n k) := by unfold isOf; infer_instance
def spotTo (l : List FSl) (n : UInt8) (k : Nat) : Nat → Spt
  | 0 => ⟨-1, -1, 0⟩
  | q + 1 => if isOf (fsk l q) n k then ⟨if (spotTo l n k q).fst < 0 then q else (spotTo l n k q).fst, q, (spotTo l n k q).cost + (fsk l q).2.bud⟩ else spotTo l n k q
def spotL (l : List FSl) (n : UInt8) (k : Nat) : Spt := spotTo l n k l.length
theorem spotTo_yes {l : List FSl} {n : UInt8} {k q : Nat} (h : isOf (fsk l q) n k) : spotTo l n k (q + 1) = ⟨if (spotTo l n k q).fst < 0 then q else (spotTo l n k q).fst, q, (spotTo l n k q).cost + (fsk l q).2.bud⟩ := by
  rw [spotTo, if_pos h]
theorem spotTo_no {l : List FSl} {n : UInt8} {k q : Nat} (h : ¬ isOf (fsk l q) n k) : spotTo l n k (q + 1) = spotTo l n k q := by
  rw [spotTo, if_neg h]
theorem spotTo_in (l : List FSl) (n : UInt8) (k : Nat) : ∀ q, -1 ≤ (spotTo l n k q).fst ∧ (spotTo l n k q).fst ≤ (spotTo l n k q).lst ∧ (spotTo l n k q).lst < q
  | 0 => by simp [spotTo]
  | q + 1 => by
    have ih := spotTo_in l n k q
    rw [spotTo]
    split
    · refine ⟨?_, ?_, ?_⟩
      · show -1 ≤ if (spotTo l n k q).fst < 0 then (q : Int) else (spotTo l n k q).fst
        split <;> omega
      · show (if (spotTo l n k q).fst < 0 then (q : Int) else (spotTo l n k q).fst) ≤ (q : Int)
        split <;> omega
      · show (q : Int) < ((q + 1 : Nat) : Int)
        omega
    · omega
theorem spotTo_cost {l : List FSl} (hs : ∀ i, i < l.length → (fsk l i).small) (n : UInt8) (k : Nat) : ∀ q, q ≤ l.length → (spotTo l n k q).cost ≤ q * 9999
  | 0, _ => Nat.zero_le _
  | q + 1, h => by
    have ih := spotTo_cost hs n k q (by omega)
    have hb : (fsk l q).2.bud ≤ 9999 := (hs q (by omega)).2.2
    have e : (q + 1) * 9999 = q * 9999 + 9999 := Nat.succ_mul q 9999
    rw [spotTo, e]
    clear e hs
    generalize q * 9999 = z at *
    split
    · show (spotTo l n k q).cost + (fsk l q).2.bud ≤ z + 9999
      omega
    · omega

def sptV (p : Spt) : Array Value := #[.int .i64 p.fst, .int .i64 p.lst, .int .i64 p.cost]
structure SpX (w wr : World) (c f : Nat) (sv : Value) (p : Spt) : Prop where
  t : TBx w wr c f sv
  r : wr.heap[w.heap.size + 1]? = some (.cells #[.int .i64 0, .int .i64 0, .int .i64 0] 78 (0, 0))
  p : wr.heap[w.heap.size + 1 + 1]? = some (.cells (sptV p) 78 (0, 0))
section
variable {w wr : World} {c f : Nat} {sv : Value} {p : Spt}
theorem SpX.start (w : World) (c f : Nat) (sv : Value) : SpX w (((w.alloc (.cells #[.int .i64 c, .int .i64 f, sv] 39)).alloc (.cells #[.int .i64 0, .int .i64 0, .int .i64 0] 78)).alloc (.cells #[.int .i64 (-1), .int .i64 (-1), .int .i64 0] 78)) c f sv ⟨-1, -1, 0⟩ := by
  have h1 := blk_new (w.alloc (.cells #[.int .i64 c, .int .i64 f, sv] 39)) #[.int .i64 0, .int .i64 0, .int .i64 0] 78
  have h2 := blk_new ((w.alloc (.cells #[.int .i64 c, .int .i64 f, sv] 39)).alloc (.cells #[.int .i64 0, .int .i64 0, .int .i64 0] 78)) #[.int .i64 (-1), .int .i64 (-1), .int .i64 0] 78
  have h1' := blk_keep h1 (below_new _ (.cells #[.int .i64 (-1), .int .i64 (-1), .int .i64 0] 78))
  simp only [World.size_alloc] at h1' h2
  exact ⟨((TBx.start w c f sv).alloc _).alloc _, h1', h2⟩
theorem SpX.drew (h : SpX w wr c f sv p) : SpX w wr.drew c f sv p := ⟨h.t.drewN 1, h.r, h.p⟩
theorem SpX.set (h : SpX w wr c f sv p) (o : Nat) (v : Int) (q : Spt) (hq : (sptV p).setIfInBounds o (.int .i64 v) = sptV q) : SpX w (wr.setCell ⟨w.heap.size + 1 + 1, o, none⟩ (.int .i64 v)) c f sv q := by
  refine ⟨⟨?_, ?_⟩, ?_, ?_⟩
  · rw [Below.heap_setCell _ _ _ _ (by show w.heap.size ≠ w.heap.size + 1 + 1; omega)]
    exact h.t.h
  · exact h.t.b.setCell (by show w.heap.size ≤ w.heap.size + 1 + 1; omega) _
  · rw [Below.heap_setCell _ _ _ _ (by show w.heap.size + 1 ≠ w.heap.size + 1 + 1; omega)]
    exact h.r
  · rw [blk_set h.p, hq]
theorem SpX.cells (h : SpX w wr c f sv p) : wr.cell? ⟨w.heap.size + 1 + 1, 0, none⟩ = some (.int .i64 p.fst) ∧ wr.cell? ⟨w.heap.size + 1 + 1, 1, none⟩ = some (.int .i64 p.lst) ∧ wr.cell? ⟨w.heap.size + 1 + 1, 2, none⟩ = some (.int .i64 p.cost) := by
  refine ⟨?_, ?_, ?_⟩ <;> (rw [blk_cell h.p]; rfl)
theorem SpX.loose (h : SpX w wr c f sv p) (o : Nat) : wr.frozen? ⟨w.heap.size + 1 + 1, o, none⟩ = false := blk_frozen h.p o
end

set_option maxRecDepth 100000 in
set_option maxHeartbeats 4000000 in
theorem rspot_any (c f : Nat) (l : List FSl) (g cap : Nat) (n : UInt8) (j : Nat) (w : World) (hg : g < w.heap.size) (hr : RowF w g l) (hn : l.length ≤ 300) (hs : ∀ k, k < l.length → (fsk l k).small) (hj : j ≤ 9999) :
    Calls Tryz.prog 47 #[.agg #[.int .i64 c, .int .i64 f, .slice (some ⟨g, 0, none⟩) l.length cap], .int .u8 n.toNat, .int .i64 j] w fun e w' => e = .returned (.agg (sptV (spotL l n j))) ∧ Below w.heap.size w w' := by
  have Hr := hide hr
  have Hs := hide hs
  have H0 := hide (SpX.start w c f (.slice (some ⟨g, 0, none⟩) l.length cap))
  clear hr hs
  go_enter Tryz.func47, Tryz.ntmps47
  go_wp2_with fail
  go_loopw [8] (fun i wr => ∃ q : Nat, q ≤ l.length ∧ i = .int .i64 q ∧ SpX w wr c f (.slice (some ⟨g, 0, none⟩) l.length cap) (spotTo l n j q)) (fun i _ => l.length - (intOf i).toNat)
  case atStart => exact ⟨0, by omega, rfl, H0.out⟩
  case round =>
    clear H0
    obtain ⟨q, hq, rfl, hS⟩ := hrel
    obtain ⟨x0, x1, x2⟩ := hS.t.cells
    obtain ⟨p0, p1, p2⟩ := hS.cells
    have hfz := hS.loose
    have HS := hide hS
    by_cases hlt : q < l.length
    · have hlt' : (q : Int) < l.length := by omega
      obtain ⟨k0, k1, k2, k3⟩ := Hr.out.below hS.t.b hg q hlt
      obtain ⟨hk1, hk2, hk3⟩ := Hs.out q hlt
      have hin := spotTo_in l n j q
      have hco := spotTo_cost Hs.out n j q hq
      have hne : ¬ g = w.heap.size + 1 + 1 := by omega
      have hne2 : ¬ w.heap.size + 1 + 1 = g := by omega
      clear hS
      by_cases hnm : (fsk l q).2.nm = n
      · have hnm' : (((fsk l q).2.nm.toNat : Int) == n.toNat) = true := by rw [hnm]; simp
        by_cases hjb : (fsk l q).2.job = j
        · have hjb' : (((fsk l q).2.job : Int) == j) = true := by rw [hjb]; simp
          have hy := spotTo_yes (l := l) (n := n) (k := j) (q := q) ⟨hnm, hjb⟩
          by_cases h0 : (spotTo l n j q).fst < 0
          · have HS2 := hide (((HS.out.set 0 q ⟨q, (spotTo l n j q).lst, (spotTo l n j q).cost⟩ rfl).set 1 q ⟨q, q, (spotTo l n j q).cost⟩ rfl).set 2 ((spotTo l n j q).cost + (fsk l q).2.bud) (spotTo l n j (q + 1)) (by rw [hy, if_pos h0]; rfl)).drew
            clear hnm hjb hy HS
            go_wp2_with fail
            go_region
            all_goals
              go_wp2_with fail
              go_roundw
              case rel => exact ⟨q + 1, by omega, by go_num, HS2.out⟩
              case measure => simp [intOf]; omega
          · have HS2 := hide ((HS.out.set 1 q ⟨(spotTo l n j q).fst, q, (spotTo l n j q).cost⟩ rfl).set 2 ((spotTo l n j q).cost + (fsk l q).2.bud) (spotTo l n j (q + 1)) (by rw [hy, if_neg h0]; rfl)).drew
            clear hnm hjb hy HS
            go_wp2_with fail
            go_region
            all_goals
              go_wp2_with fail
              go_roundw
              case rel => exact ⟨q + 1, by omega, by go_num, HS2.out⟩
              case measure => simp [intOf]; omega
        · have hjb' : (((fsk l q).2.job : Int) == j) = false := by simp; omega
          have hy := spotTo_no (l := l) (n := n) (k := j) (q := q) (fun h => hjb h.2)
          have HS2 : Hid (SpX w wr c f (.slice (some ⟨g, 0, none⟩) l.length cap) (spotTo l n j (q + 1))) := by rw [hy]; exact HS
          clear hnm hjb hy HS
          go_wp2_with fail
          go_roundw
          case rel => exact ⟨q + 1, by omega, by go_num, HS2.out⟩
          case measure => simp [intOf]; omega
      · have hnm' : (((fsk l q).2.nm.toNat : Int) == n.toNat) = false := by
          have : (fsk l q).2.nm.toNat ≠ n.toNat := fun h => hnm (UInt8.toNat_inj.1 h)
          simp; omega
        have hy := spotTo_no (l := l) (n := n) (k := j) (q := q) (fun h => hnm h.1)
        have HS2 : Hid (SpX w wr c f (.slice (some ⟨g, 0, none⟩) l.length cap) (spotTo l n j (q + 1))) := by rw [hy]; exact HS
        clear hnm hy HS
        go_wp2_with fail
        go_roundw
        case rel => exact ⟨q + 1, by omega, by go_num, HS2.out⟩
        case measure => simp [intOf]; omega
    · have hlt' : ¬ (q : Int) < l.length := by omega
      have hqe : q = l.length := by omega
      subst hqe
      have r0 : wr.cell? ⟨w.heap.size + 1, 0, none⟩ = some (.int .i64 0) := blk_cell hS.r 0
      have r1 : wr.cell? ⟨w.heap.size + 1, 1, none⟩ = some (.int .i64 0) := blk_cell hS.r 1
      have r2 : wr.cell? ⟨w.heap.size + 1, 2, none⟩ = some (.int .i64 0) := blk_cell hS.r 2
      have rz := blk_frozen hS.r
      have HB := hide hS.t.b
      have hsp : Hid (sptV (spotTo l n j l.length) = sptV (spotL l n j)) := rfl
      clear hS HS
      go_wp2
      exact bodyPost_ret (v := .agg (sptV (spotL l n j))) (by simp [results, Tryz.results47, go_sem, sptV, spotL, r0, r1, r2]) rfl
        ⟨rfl, ((HB.out.setCell (by show w.heap.size ≤ w.heap.size + 1; omega) _).setCell (by show w.heap.size ≤ w.heap.size + 1; omega) _).setCell (by show w.heap.size ≤ w.heap.size + 1; omega) _⟩
end Go.Proofs.YtbdffcjganlblaaGreatDoor

namespace Go.Proofs.YtbdffcjganlblaaGreatDoor
open Go.RowKit
set_option linter.unusedVariables false
set_option linter.unusedSimpArgs false

/-- The first slice of a job, or none. -/
theorem spotTo_fst (l : List FSl) (n : UInt8) (k : Nat) : ∀ q, ((spotTo l n k q).fst = -1 ∧ ∀ i, i < q → ¬ isOf (fsk l i) n k) ∨ ∃ m : Nat, (spotTo l n k q).fst = m ∧ m < q ∧ isOf (fsk l m) n k ∧ ∀ i, i < m → ¬ isOf (fsk l i) n k
  | 0 => .inl ⟨rfl, fun i h => by omega⟩
  | q + 1 => by
    rcases spotTo_fst l n k q with ⟨h1, h2⟩ | ⟨m, h1, h2, h3, h4⟩
    · by_cases h : isOf (fsk l q) n k
      · refine .inr ⟨q, ?_, by omega, h, h2⟩
        rw [spotTo_yes h]
        show (if (spotTo l n k q).fst < 0 then (q : Int) else (spotTo l n k q).fst) = q
        rw [if_pos (by omega)]
      · refine .inl ⟨by rw [spotTo_no h]; exact h1, fun i hi => ?_⟩
        rcases Nat.lt_or_ge i q with h5 | h5
        · exact h2 i h5
        · have : i = q := by omega
          subst this
          exact h
    · refine .inr ⟨m, ?_, by omega, h3, h4⟩
      by_cases h : isOf (fsk l q) n k
      · rw [spotTo_yes h]
        show (if (spotTo l n k q).fst < 0 then (q : Int) else (spotTo l n k q).fst) = m
        rw [if_neg (by omega), h1]
      · rw [spotTo_no h]
        exact h1
theorem below_set3 {B X : Nat} {w w8 : World} (h : Below B w w8) (hX : B ≤ X) (u v t : Value) : Below B w (((w8.setCell ⟨X, 0, none⟩ u).setCell ⟨X, 1, none⟩ v).setCell ⟨X, 2, none⟩ t) := ((h.setCell hX _).setCell hX _).setCell hX _

end Go.Proofs.YtbdffcjganlblaaGreatDoor

namespace Go.Proofs.YtbdffcjganlblaaGreatDoor
open Go.RowKit
set_option linter.unusedVariables false
set_option linter.unusedSimpArgs false

end Go.Proofs.YtbdffcjganlblaaGreatDoor
