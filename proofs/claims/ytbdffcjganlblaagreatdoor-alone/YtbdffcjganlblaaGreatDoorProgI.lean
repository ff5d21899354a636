/-
  Own work. The program's checks: cycle, mustFind, checkPair.
-/
import Derived.Test.YtbdffcjganlblaaGreatDoorProgH
namespace Go.Proofs.YtbdffcjganlblaaGreatDoor
open Go.RowKit
set_option linter.unusedVariables false
set_option linter.unusedSimpArgs false

theorem lk_fst (l : List (Tk × Nat)) (k : Nat) : (lk l k).1 = tsk (l.map Prod.fst) k := by
  unfold lk tsk
  rw [List.getD_eq_getElem?_getD, List.getD_eq_getElem?_getD, List.getElem?_map]
  cases l[k]? <;> rfl

set_option maxRecDepth 100000 in
set_option maxHeartbeats 1000000 in
theorem cycle_any (l : List (Tk × Nat)) (g cap : Nat) (pa : Option Addr) (pm pc : Nat) (w : World) (hg : g < w.heap.size) (hr : RowPT w g l) (hn : l.length ≤ 6) (hP : ∀ k, k < l.length → 1 ≤ (lk l k).1.P ∧ (lk l k).1.P ≤ 60) :
    Calls Tryz.prog 128 #[.agg #[.slice (some ⟨g, 0, none⟩) l.length cap, .slice pa pm pc]] w fun e w' => (∃ v : Nat, e = .returned (.int .i64 v) ∧ (60 < v ↔ cycI (l.map Prod.fst) = 0)) ∧ Below w.heap.size w w' := by
  have Hb := hide (below_new w (.cells #[.slice (some ⟨g, 0, none⟩) l.length cap, .slice pa pm pc] 84))
  have Hr := hide hr
  have HP := hide hP
  have Hc : Hid (cycI (l.map Prod.fst) = cycF (l.map Prod.fst) (l.map Prod.fst).length 0 1) := rfl
  have hml : Hid ((l.map Prod.fst).length = l.length) := by simp [Hid]
  clear hr hP
  go_enter Tryz.func128, Tryz.ntmps128
  go_wp2
  go_loopw [3, 9] (fun x i wr => ∃ (k h : Nat), k ≤ l.length ∧ i = .int .i64 k ∧ x = .int .i64 h ∧ 1 ≤ h ∧ h ≤ 60 ∧ Below w.heap.size w wr ∧ Hid (cycI (l.map Prod.fst) = cycF (l.map Prod.fst) (l.length - k) k h)) (fun _ i _ => l.length - (intOf i).toNat)
  case atStart => exact ⟨0, 1, by omega, rfl, rfl, by omega, by omega, Hb.out, by unfold Hid; rw [Hc.out, hml.out]; rfl⟩
  case round =>
    clear Hb Hc hml
    obtain ⟨k, h, hk, rfl, rfl, hh1, hh2, hbw, hf⟩ := hrel
    have Hb := hide hbw
    have hsz := hbw.size
    clear hbw
    by_cases hlt : k < l.length
    · obtain ⟨r0, r1, r2, r3, r4, r5, r6, r7, r8, r9⟩ := Hr.out.below Hb.out hg k hlt
      have hgw : g < wr.heap.size := by omega
      obtain ⟨hP1, hP2⟩ := HP.out k hlt
      have hfs : cycF (l.map Prod.fst) (l.length - k) k h = if 60 < h / Nat.gcd h (lk l k).1.P * (lk l k).1.P then 0 else cycF (l.map Prod.fst) (l.length - (k + 1)) (k + 1) (h / Nat.gcd h (lk l k).1.P * (lk l k).1.P) := by
        rw [lk_fst, show l.length - k = (l.length - (k + 1)) + 1 by omega, cycF]
      have hpos := lcm_pos h (lk l k).1.P hh1 hP1
      have Hfs := hide hfs
      clear hfs
      generalize lk l k = x at *
      go_wp2_with fail
      refine (lcm_any h x.1.P _ hh1 hh2 hP2).mono ?_
      rintro e w1 ⟨rfl, hb1⟩
      have Hb1 := hide (Hb.out.trans (((below_new wr _).trans (hb1.mono (by simp))).mono (by omega)))
      clear hb1
      generalize h / Nat.gcd h x.1.P * x.1.P = L at *
      by_cases h60 : 60 < L
      · have h60' : (60 : Int) < L := by omega
        go_wp2
        go_ret
        refine ⟨⟨L, rfl, ?_⟩, Hb1.out⟩
        rw [hf.out, Hfs.out, if_pos h60]
        exact ⟨fun _ => rfl, fun _ => h60⟩
      · have h60' : ¬ (60 : Int) < L := by omega
        go_wp2
        go_roundw
        case rel => exact ⟨k + 1, L, by omega, by go_num, rfl, by omega, by omega, Hb1.out, by unfold Hid; rw [hf.out, Hfs.out, if_neg h60]⟩
        case measure => simp [intOf]; omega
    · go_wp2
      go_ret
      refine ⟨⟨h, rfl, ?_⟩, Hb.out⟩
      rw [hf.out, show l.length - k = 0 by omega, cycF]
      omega

def FindOut (l : List (Tk × Nat)) (c : UInt8) (q : Nat) (w : World) (e : Ending) (w' : World) : Prop :=
  Below w.heap.size w w' ∧ ((findL l c l.length 0 < 0 ∧ e = pan 3 q) ∨ (0 ≤ findL l c l.length 0 ∧ e = .returned (.int .i64 (findL l c l.length 0))))

set_option maxRecDepth 100000 in
set_option maxHeartbeats 1000000 in
theorem mustFind_any (l : List (Tk × Nat)) (g cap : Nat) (pa : Option Addr) (pm pc : Nat) (c : UInt8) (q : Nat) (w : World) (hg : g < w.heap.size) (hr : RowPT w g l) (hn : l.length ≤ 6) :
    Calls Tryz.prog 152 #[.agg #[.slice (some ⟨g, 0, none⟩) l.length cap, .slice pa pm pc], .agg #[.string (bs [c]), .int .i64 q]] w (FindOut l c q w) := by
  have Hr := hide hr
  clear hr
  go_enter Tryz.func152, Tryz.ntmps152
  go_wp2_with fail
  refine (findTask_any l g l.length cap c q _ (by simp; omega) ((Hr.out.below (below_new w _) hg).below (below_new _ _) (by simp; omega)) (Nat.le_refl _) hn).mono ?_
  rintro e w1 ⟨rfl, hb1⟩
  have hB := hide (((below_new w _).alloc (by simp) _).trans (hb1.mono (by simp; omega)))
  have hX : w1.heap[w.heap.size + 1]? = some (.cells #[.string (bs [c]), .int .i64 q] 170 (0, 0)) := by
    refine blk_keep ?_ hb1
    simpa using blk_new (w.alloc _) _ _
  have xc := blk_cell hX
  clear hb1 hX
  by_cases h0 : findL l c l.length 0 < 0
  · have H0 := hide h0
    go_wp2_with fail
    refine (refuse_any 3 q _ rfl _).mono ?_
    rintro e w' ⟨rfl, rfl⟩
    exact ⟨rfl, hB.out, .inl ⟨H0.out, rfl⟩⟩
  · have H0 : Hid (0 ≤ findL l c l.length 0) := by unfold Hid; omega
    go_wp2
    go_ret
    exact ⟨hB.out, .inr ⟨H0.out, rfl⟩⟩

/-- What is wrong with a pair. -/
def pE (l : List (Tk × Nat)) (p : Pr) : Option (Nat × Nat) :=
  if findL l p.a l.length 0 < 0 then some (3, p.q0)
  else if findL l p.b l.length 0 < 0 then some (3, p.q1)
  else if findL l p.a l.length 0 = findL l p.b l.length 0 then some (5, p.q1)
  else if p.ap = false ∧ (lk l (findL l p.a l.length 0).toNat).1.P ≠ (lk l (findL l p.b l.length 0).toNat).1.P then some (5, p.q1)
  else none

def COut (E : Option (Nat × Nat)) (w : World) (e : Ending) (w' : World) : Prop :=
  Below w.heap.size w w' ∧ ((∃ f, E = some f ∧ e = pan f.1 f.2) ∨ (E = none ∧ e = .returned (.tuple #[])))

theorem findL_lt (l : List (Tk × Nat)) (c : UInt8) : ∀ (f k : Nat), findL l c f k < k + f ∧ -1 ≤ findL l c f k
  | 0, k => by simp [findL]; omega
  | f + 1, k => by
    rw [findL]
    have := findL_lt l c f (k + 1)
    split
    · omega
    · omega

def pW (p : Pr) : List UInt8 := if p.ap then [97, 112, 97, 114, 116] else [98, 101, 102, 111, 114, 101]
def ppA (p : Pr) : Array Value := #[.string (bs (pW p)), .string (bs [p.a]), .int .i64 p.q0, .string (bs [p.b]), .int .i64 p.q1]

set_option maxRecDepth 100000 in
set_option maxHeartbeats 1000000 in
theorem checkPair_any (l : List (Tk × Nat)) (g cap : Nat) (pa : Option Addr) (pm pc : Nat) (p : Pr) (w : World) (hg : g < w.heap.size) (hr : RowPT w g l) (hn : l.length ≤ 6) :
    Calls Tryz.prog 127 #[.agg #[.slice (some ⟨g, 0, none⟩) l.length cap, .slice pa pm pc], .agg #[.string (bs (pW p)), .string (bs [p.a]), .int .i64 p.q0, .string (bs [p.b]), .int .i64 p.q1]] w (COut (pE l p) w) := by
  have Hr := hide hr
  have hE : Hid (pE l p = if findL l p.a l.length 0 < 0 then some (3, p.q0)
    else if findL l p.b l.length 0 < 0 then some (3, p.q1)
    else if findL l p.a l.length 0 = findL l p.b l.length 0 then some (5, p.q1)
    else if p.ap = false ∧ (lk l (findL l p.a l.length 0).toNat).1.P ≠ (lk l (findL l p.b l.length 0).toNat).1.P then some (5, p.q1)
    else none) := rfl
  have hfa := findL_lt l p.a l.length 0
  have hfb := findL_lt l p.b l.length 0
  have hW : ((bs (pW p)).toList == [98, 101, 102, 111, 114, 101]) = !p.ap := by
    rw [ByteArray.toList_eq, bs_data]
    unfold pW
    cases p.ap <;> rfl
  clear hr
  go_enter Tryz.func127, Tryz.ntmps127
  go_wp2_with fail
  refine (mustFind_any l g cap pa pm pc p.a p.q0 _ (by simp; omega) ((Hr.out.below (below_new w _) hg).below (below_new _ _) (by simp; omega)) hn).mono ?_
  rintro e w1 ⟨hb1, hcase⟩
  have hB := ((below_new w _).alloc (by simp) _).trans (hb1.mono (by simp; omega))
  have hX : w1.heap[w.heap.size]? = some (.cells #[.slice (some ⟨g, 0, none⟩) l.length cap, .slice pa pm pc] 84 (0, 0)) := by
    refine blk_keep ?_ hb1
    rw [Below.heap_alloc _ _ _ (by simp)]
    exact blk_new _ _ _
  have hY : w1.heap[w.heap.size + 1]? = some (.cells (ppA p) 175 (0, 0)) := by
    refine blk_keep ?_ hb1
    simpa [ppA] using blk_new (w.alloc _) _ _
  have hR1 := Hr.out.below hB hg
  rcases hcase with ⟨h1, rfl⟩ | ⟨h1, rfl⟩
  · exact ⟨rfl, hB, .inl ⟨(3, p.q0), by rw [hE.out, if_pos h1], rfl⟩⟩
  have hsz := hB.size
  have xc := blk_cell hX
  have yc := blk_cell hY
  unfold ppA at yc
  have HX := hide hX
  have HY := hide hY
  have HB := hide hB
  have HR1 := hide hR1
  have H1 := hide h1
  clear hb1 hX hY hB hR1 h1
  go_wp2_with fail
  refine (mustFind_any l g cap pa pm pc p.b p.q1 _ (by omega) HR1.out hn).mono ?_
  rintro e w2 ⟨hb2, hcase⟩
  have hB2 := HB.out.trans (hb2.mono hsz)
  have hX2 := blk_keep HX.out hb2
  have hY2 := blk_keep HY.out hb2
  have hR2 := HR1.out.below hb2 (by omega)
  rcases hcase with ⟨h2, rfl⟩ | ⟨h2, rfl⟩
  · have h1 := H1.out
    exact ⟨rfl, hB2, .inl ⟨(3, p.q1), by rw [hE.out, if_neg (by omega), if_pos h2], rfl⟩⟩
  obtain ⟨na, hna⟩ := Int.eq_ofNat_of_zero_le H1.out
  obtain ⟨nb, hnb⟩ := Int.eq_ofNat_of_zero_le h2
  rw [hna] at hfa ⊢
  rw [hnb] at hfb ⊢
  have hE2 : Hid (pE l p = if na = nb then some (5, p.q1) else if p.ap = false ∧ (lk l na).1.P ≠ (lk l nb).1.P then some (5, p.q1) else none) := by
    unfold Hid
    rw [hE.out, hna, hnb, if_neg (by omega), if_neg (by omega)]
    simp only [Int.toNat_natCast]
    by_cases h : na = nb
    · rw [if_pos h, if_pos (by omega)]
    · rw [if_neg h, if_neg (by omega)]
  clear xc yc hna hnb h2
  have xc := blk_cell hX2
  have yc := blk_cell hY2
  unfold ppA at yc
  have ra := (hR2 na (by omega)).2.2.1
  have rb := (hR2 nb (by omega)).2.2.1
  have hna6 : na < l.length := by omega
  have hnb6 : nb < l.length := by omega
  have HB2 := hide hB2
  clear hb2 hX2 hY2 hR2 hB2 HX HY HB HR1 H1 hE hfa hfb
  have hnot : ∀ (x : Bool) (w : World), (Op.unary .not (.bool x)).run Tryz.prog w = .ok (.bool (!x)) w := fun _ _ => rfl
  by_cases he : na = nb
  · have he1 : ((na : Int) == nb) = true := by simp; omega
    have HE := hide (show pE l p = some (5, p.q1) by rw [hE2.out, if_pos he])
    clear he hE2
    go_wp2_with fail
    refine (refuse_any 5 p.q1 _ rfl _).mono ?_
    rintro e w' ⟨rfl, rfl⟩
    exact ⟨rfl, HB2.out, .inl ⟨(5, p.q1), HE.out, rfl⟩⟩
  · have he1 : ((na : Int) == nb) = false := by simp; omega
    have hE3 : Hid (pE l p = if p.ap = false ∧ (lk l na).1.P ≠ (lk l nb).1.P then some (5, p.q1) else none) := by unfold Hid; rw [hE2.out, if_neg he]
    clear he hE2
    cases hap : p.ap
    · rw [hap] at hW
      simp only [Bool.not_false] at hW
      by_cases hP : (lk l na).1.P = (lk l nb).1.P
      · have hP1 : (((lk l na).1.P : Int) == (lk l nb).1.P) = true := by simp; omega
        have HE := hide (show pE l p = none by rw [hE3.out, if_neg (by intro h; exact h.2 hP)])
        clear hP hE3 hap
        go_wp2
        go_quiet (fail)
        go_wp2
        go_end0
        exact ⟨below_drewN HB2.out _, .inr ⟨HE.out, rfl⟩⟩
      · have hP1 : (((lk l na).1.P : Int) == (lk l nb).1.P) = false := by simp; omega
        have HE := hide (show pE l p = some (5, p.q1) by rw [hE3.out, if_pos ⟨hap, hP⟩])
        clear hP hE3 hap
        go_wp2
        go_quiet (fail)
        go_wp2_with fail
        refine (refuse_any 5 p.q1 _ rfl _).mono ?_
        rintro e w' ⟨rfl, rfl⟩
        exact ⟨rfl, below_drewN HB2.out _, .inl ⟨(5, p.q1), HE.out, rfl⟩⟩
    · rw [hap] at hW
      simp only [Bool.not_true] at hW
      have HE := hide (show pE l p = none by rw [hE3.out, if_neg (by rw [hap]; simp)])
      clear hE3 hap
      cases hP1 : (((lk l na).1.P : Int) == (lk l nb).1.P)
      all_goals
        go_wp2
        go_quiet (fail)
        go_wp2
        go_end0
        exact ⟨below_drewN HB2.out _, .inr ⟨HE.out, rfl⟩⟩
end Go.Proofs.YtbdffcjganlblaaGreatDoor
