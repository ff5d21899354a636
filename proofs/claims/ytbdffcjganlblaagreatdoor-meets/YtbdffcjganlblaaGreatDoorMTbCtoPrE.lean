/-
  Own work. The program's tables: parseTable.
-/
import Derived.Test.YtbdffcjganlblaaGreatDoorMPrCtoTbB
import Derived.Deep.DeepCutAuto
import Derived.Test.YtbdffcjganlblaaGreatDoorMRefPtoRefQ
namespace Go.Proofs.YtbdffcjganlblaaGreatDoor
open Go.RowKit
set_option linter.unusedVariables false
set_option linter.unusedSimpArgs false

theorem Tryz.infoPFr : (Tryz.prog.info? 104).map (fun i => (i.zero, i.size, i.bytes)) = some (some (.slice none 0 0), 1, 24) := by kernel_rfl

theorem dead_or {α : Type} (T : List PT) (R : Option (α × Nat)) : Dead T R ∨ ∃ a j, R = some (a, j) ∧ (tk T j).k ≠ 120 := by
  cases R with
  | none => exact .inl (.inl rfl)
  | some x =>
    obtain ⟨a, j⟩ := x
    by_cases h : (tk T j).k = 120
    · exact .inl (.inr ⟨a, j, rfl, h⟩)
    · exact .inr ⟨a, j, rfl, h⟩
section
variable {w wk : World} {b : Nat} {s : ByteArray} {i : Nat} {er : Nat}
theorem takeFrame_bad (h : RS er w b s i) (hd : Dead (allToks s.data.toList) (pFrame (allToks s.data.toList) i)) :
    Calls Tryz.prog 104 #[.pointer (some ⟨b, 0, none⟩)] w fun en w' => (∃ p, en = pan er p) ∧ w.grownBy w' (some b) :=
  (takeFrame_any h).mono fun en w' h' => by
    obtain ⟨hg, ⟨p, rfl, _⟩ | ⟨l, j, v, h1, h2, _⟩⟩ := h'
    · exact ⟨⟨p, rfl⟩, hg⟩
    · exfalso
      rcases hd with hd | ⟨a, k, hd, hk⟩
      · rw [h1] at hd; simp at hd
      · rw [h1] at hd
        simp at hd
        obtain ⟨_, rfl⟩ := hd
        exact h2.hk hk
theorem takeFrame_good (h : RS er w b s i) {l : List Sl} {j : Nat} (hl : pFrame (allToks s.data.toList) i = some (l, j)) (hk : (tk (allToks s.data.toList) j).k ≠ 120) :
    Calls Tryz.prog 104 #[.pointer (some ⟨b, 0, none⟩)] w fun en w' => ∃ a c, en = .returned (.slice a l.length c) ∧ RS er w' b s j ∧ w.grownBy w' (some b) ∧ w'.ownsRow w.heap.size 106 3 (.slice a l.length c) l.length (slPs l) :=
  (takeFrame_any h).mono fun en w' h' => by
    obtain ⟨hg, ⟨p, rfl, hd⟩ | ⟨l', j', v, h1, h2, rfl, _, h3⟩⟩ := h'
    · exfalso
      rcases hd with hd | ⟨a, k, hd, hk'⟩
      · rw [hl] at hd; simp at hd
      · rw [hl] at hd
        simp at hd
        obtain ⟨_, rfl⟩ := hd
        exact hk hk'
    · rw [hl] at h1
      simp at h1
      obtain ⟨rfl, rfl⟩ := h1
      obtain ⟨a, c, rfl⟩ := own_slice h3
      exact ⟨a, c, rfl, h2, hg, h3⟩
end

/-! ### Frames in memory -/
/-- The frames' row and each frame's own. -/
def FrM (w : World) (base : Nat) (fv : Value) (P : List (Value × List Sl)) : Prop :=
  w.ownsRow base 104 1 fv P.length (P.map Prod.fst) ∧ ∀ p ∈ P, w.ownsRow base 106 3 p.1 p.2.length (slPs p.2)
theorem FrM.nil (w : World) (base : Nat) : FrM w base (.slice none 0 0) [] := ⟨World.ownsRow_nil _ _ _ _, fun p hp => by simp at hp⟩
theorem FrM.kept {w w' : World} {base : Nat} {fv : Value} {P : List (Value × List Sl)} (h : FrM w base fv P) {row : Option Nat} (g : w.grownBy w' row) (hr : ∀ k, row = some k → k < base ∨ ∃ c ty, w.heap[k]? = some (.cells c ty (0, 0)) ∧ 104 ≠ ty ∧ 106 ≠ ty) : FrM w' base fv P := by
  have key : ∀ {e : TypeId} {size : Nat} {v : Value} {n : Nat} {xs : List Value}, w.ownsRow base e size v n xs → (e = 104 ∨ e = 106) → w'.ownsRow base e size v n xs := by
    intro e size v n xs ho he
    refine ho.kept g ?_
    cases hq : v.ownBlock with
    | none => exact .inl rfl
    | some q =>
      right
      cases hrow : row with
      | none => simp
      | some k =>
        intro hqk
        have hqk : q = k := by simpa using hqk
        subst hqk
        rcases hr q hrow with h1 | ⟨c, ty, h1, h2, h3⟩
        · exact own_ge ho h1 hq
        · rcases he with rfl | rfl
          · exact own_type ho h1 h2 hq
          · exact own_type ho h1 h3 hq
  exact ⟨key h.1 (.inl rfl), fun p hp => key (h.2 p hp) (.inr rfl)⟩
theorem FrM.push {w w2 : World} {base : Nat} {fv fv' v : Value} {P : List (Value × List Sl)} {l : List Sl} (h : FrM w base fv P) (hv : w.ownsRow base 106 3 v l.length (slPs l)) (hg : w.grownBy w2 fv.ownBlock) (hown : w2.ownsRow base 104 1 fv' (P.length + 1) (P.map Prod.fst ++ [v])) : FrM w2 base fv' (P ++ [(v, l)]) := by
  have key : ∀ {v : Value} {n : Nat} {xs : List Value}, w.ownsRow base 106 3 v n xs → w2.ownsRow base 106 3 v n xs := by
    intro v n xs ho
    refine ho.kept hg ?_
    cases hq : v.ownBlock with
    | none => exact .inl rfl
    | some q => exact .inr (fun e => own_apart ho h.1 (by decide) q hq e.symm)
  refine ⟨by simpa using hown, ?_⟩
  intro p hp
  rcases List.mem_append.1 hp with hp | hp
  · exact key (h.2 p hp)
  · simp at hp
    subst hp
    exact key hv

def ptZ : Array Value := #[.int .i64 0, .int .i64 0, .slice none 0 0]
/-- The memory of parseTable. -/
structure TW (w wk : World) (b X : Nat) (s : ByteArray) (i : Nat) (c f : Nat) (fv : Value) (P : List (Value × List Sl)) : Prop where
  rs : RS 8 wk b s i
  hy : wk.heap[w.heap.size]? = some (.cells ptZ 61 (0, 0))
  hx : wk.heap[X]? = some (.cells #[.int .i64 c, .int .i64 f, fv] 61 (0, 0))
  fm : FrM wk (b + 1) fv P
  g : w.grownBy wk none
  h1 : w.heap.size < b
  h2 : b < X
section
variable {w wk : World} {b X : Nat} {s : ByteArray} {i c f : Nat} {fv : Value} {P : List (Value × List Sl)}
theorem TW.call (h : TW w wk b X s i c f fv P) {w' : World} {i' : Nat} (p : RS 8 w' b s i') (g : wk.grownBy w' (some b)) : TW w w' b X s i' c f fv P := by
  have h1 := h.h1
  have h2 := h.h2
  refine ⟨p, ?_, ?_, h.fm.kept g (fun k hk => .inl (by simp at hk; omega)), grownBy_new h.g g (by omega), h1, h2⟩
  · rw [g.block _ (blk_lt h.hy) (by simp; omega)]; exact h.hy
  · rw [g.block _ (blk_lt h.hx) (by simp; omega)]; exact h.hx
theorem TW.cells (h : TW w wk b X s i c f fv P) : wk.cell? ⟨X, 0, none⟩ = some (.int .i64 c) ∧ wk.cell? ⟨X, 1, none⟩ = some (.int .i64 f) ∧ wk.cell? ⟨X, 2, none⟩ = some fv ∧ (∀ o, wk.frozen? ⟨X, o, none⟩ = false) ∧ (∀ o, wk.cell? ⟨w.heap.size, o, none⟩ = #[Value.int .i64 0, .int .i64 0, .slice none 0 0][o]?) ∧ (∀ o, wk.frozen? ⟨w.heap.size, o, none⟩ = false) :=
  ⟨by rw [blk_cell h.hx]; rfl, by rw [blk_cell h.hx]; rfl, by rw [blk_cell h.hx]; rfl, blk_frozen h.hx, blk_cell h.hy, blk_frozen h.hy⟩
theorem TW.set (h : TW w wk b X s i c f fv P) (o : Nat) (v : Value) {c' f' : Nat} (hc : (#[Value.int .i64 c, .int .i64 f, fv].setIfInBounds o v) = #[.int .i64 c', .int .i64 f', fv]) : TW w (wk.setCell ⟨X, o, none⟩ v) b X s i c' f' fv P := by
  have h1 := h.h1
  have h2 := h.h2
  refine ⟨h.rs.set (by omega) o v, ?_, by rw [blk_set h.hx, hc], h.fm.kept (grownBy_set (k := X) (grownBy_refl _ _) o v) (fun k hk => .inr ?_), grownBy_setNew h.g (by omega) o v, h1, h2⟩
  · rw [Below.heap_setCell _ _ _ _ (by show w.heap.size ≠ X; omega)]; exact h.hy
  · simp at hk
    subst hk
    exact ⟨_, _, h.hx, by decide, by decide⟩
theorem TW.grow (h : TW w wk b X s i c f fv P) {o1 : Obj} {w2 : World} (hg : (wk.alloc o1).grownBy w2 fv.ownBlock) : w2.heap[X]? = some (.cells #[.int .i64 c, .int .i64 f, fv] 61 (0, 0)) := by
  have hX := blk_lt h.hx
  rw [hg.block X (by simp; omega) (fun e => own_type h.fm.1 h.hx (by decide) e.symm), Below.heap_alloc _ _ _ hX]
  exact h.hx
theorem TW.push (h : TW w wk b X s i c f fv P) {o1 : Obj} {w2 : World} {v fv' : Value} {l : List Sl} (hv : wk.ownsRow (b + 1) 106 3 v l.length (slPs l)) (hg : (wk.alloc o1).grownBy w2 fv.ownBlock) (hown : w2.ownsRow (b + 1) 104 1 fv' (P.length + 1) (P.map Prod.fst ++ [v])) :
    TW w (w2.setCell ⟨X, 2, none⟩ fv') b X s i c f fv' (P ++ [(v, l)]) := by
  have h1 := h.h1
  have h2 := h.h2
  have hX := blk_lt h.hx
  have hX2 := h.grow hg
  have hlow : ∀ k, k < b + 1 → fv.ownBlock ≠ some k := fun k hk => own_ge h.fm.1 hk
  have hblk : ∀ k, k < b + 1 → w2.heap[k]? = wk.heap[k]? := by
    intro k hk
    rw [hg.block k (by simp; omega) (fun e => hlow k hk e.symm), Below.heap_alloc _ _ _ (by omega)]
  have fm1 : FrM (wk.alloc o1) (b + 1) fv P := h.fm.kept (World.grownBy_alloc wk o1 none) (fun k hk => by simp at hk)
  have fm2 := fm1.push (l := l) (hv.alloc o1) hg hown
  refine ⟨(h.rs.keep (hblk b (by omega))).set (by omega) 2 fv', ?_, ?_, fm2.kept (grownBy_set (k := X) (grownBy_refl _ _) 2 fv') (fun k hk => .inr ?_), ?_, h1, h2⟩
  · rw [Below.heap_setCell _ _ _ _ (by show w.heap.size ≠ X; omega), hblk _ (by omega)]; exact h.hy
  · rw [blk_set hX2]; rfl
  · simp at hk
    subst hk
    exact ⟨_, _, hX2, by decide, by decide⟩
  · have hgw : w.grownBy w2 none := by
      have ha := grownBy_alloc' h.g o1
      refine ⟨hg.os.trans ha.os, hg.tape.trans ha.tape, hg.output.trans ha.output, Nat.le_trans ha.size hg.size, fun k hk hne => ?_⟩
      rw [hg.block k (by have := ha.size; omega) (fun e => hlow k (by omega) e.symm)]
      exact ha.block k hk hne
    exact grownBy_setNew hgw (by omega) _ _
end

def PtOut (s : ByteArray) (w : World) (en : Ending) (w' : World) : Prop :=
  Below w.heap.size w w' ∧ ((∃ p, en = pan 8 p ∧ pTab (allToks s.data.toList) = none) ∨
    (∃ (t : Tb) (P : List (Value × List Sl)) (fv : Value), pTab (allToks s.data.toList) = some t ∧ t.fs = P.map Prod.snd ∧ P.length ≤ 802 ∧ en = .returned (.agg #[.int .i64 t.cyc, .int .i64 t.fr, fv]) ∧ FrM w' w.heap.size fv P))
/-- How far the frames have been read. -/
def PfR (T : List PT) (i : Nat) (fs : List (List Sl)) : Prop := hdOk T = true ∧ 5 + fs.length ≤ i ∧ pFrames T 5 = (match pFrames T i with | none => none | some r => some (fs ++ r))
theorem pfR_start {T : List PT} (h : hdOk T = true) : PfR T 5 [] := ⟨h, by simp, by cases pFrames T 5 <;> simp⟩
theorem pfR_more {T : List PT} {i j : Nat} {fs : List (List Sl)} {l : List Sl} (h : PfR T i fs) (hp : pFrame T i = some (l, j)) : PfR T j (fs ++ [l]) := by
  have := pFrame_len hp
  refine ⟨h.1, by simp; have := h.2.1; omega, ?_⟩
  rw [h.2.2, pFrames_on hp]
  cases pFrames T j <;> simp
theorem pfR_dead {T : List PT} {i : Nat} {fs : List (List Sl)} (h : PfR T i fs) (hk : (tk T i).k ≠ 101) (hd : Dead T (pFrame T i)) : pTab T = none := by
  unfold pTab
  rw [if_pos h.1, h.2.2]
  have : pFrames T i = none := by
    rcases hd with hd | ⟨l, j, hd, hx⟩
    · exact pFrames_no hk hd
    · rw [pFrames_on hd, pFrames_x hx]
  rw [this]
theorem pfR_end {T : List PT} {i : Nat} {fs : List (List Sl)} (h : PfR T i fs) (hi : i < T.length) (hk : (tk T i).k = 101) : pTab T = some ⟨(tk T 1).N, (tk T 3).N, fs⟩ := by
  unfold pTab
  rw [if_pos h.1, h.2.2, pFrames_end hi hk]
  simp
theorem pTab_x5 {T : List PT} (h : (tk T 5).k = 120) : pTab T = none := by
  unfold pTab
  rw [pFrames_x h]
  split <;> rfl
end Go.Proofs.YtbdffcjganlblaaGreatDoor

namespace Go.Proofs.YtbdffcjganlblaaGreatDoor
open Go.RowKit
set_option linter.unusedVariables false
set_option linter.unusedSimpArgs false

theorem hd_no {T : List PT} (h : hdOk T = false) : pTab T = none := by unfold pTab; rw [h]; rfl

theorem tw_start {w w1 : World} {s : ByteArray} (hrs : RS 8 w1 (w.heap.size + 1) s 0) (hb : Below (w.heap.size + 1) (w.alloc (.cells ptZ 61)) w1) :
    TW w (w1.alloc (.cells #[.int .i64 0, .int .i64 0, .slice none 0 0] 61)) (w.heap.size + 1) w1.heap.size s 0 0 0 (.slice none 0 0) [] := by
  have hlt := blk_lt hrs.h
  refine ⟨hrs.alloc _, ?_, blk_new _ _ _, FrM.nil _ _, ?_, by omega, hlt⟩
  · rw [Below.heap_alloc _ _ _ (by omega), hb.block _ (by omega)]
    exact blk_new _ _ _
  · refine grownBy_alloc' ?_ _
    exact ⟨hb.os, hb.tape, hb.output, by omega, fun k hk _ => by rw [hb.block k (by omega), Below.heap_alloc _ _ _ hk]⟩

set_option maxRecDepth 100000 in
set_option maxHeartbeats 4000000 in
theorem parseTable_any (s : ByteArray) (w : World) (hs : s.size ≤ 800) :
    Calls Tryz.prog 66 #[.string s] w (PtOut s w) := by
  obtain ⟨it, hti, htz0, htz1, htz2⟩ := info_parts Tryz.infoPFr
  have hfn := num_val
  go_enter Tryz.func66, Tryz.ntmps66
  go_wp2_with fail
  refine (newReader_any 8 _ rfl s _ hs).mono ?_
  rintro e w1 ⟨hb, hcase⟩
  simp only [World.size_alloc] at hb hcase
  have hbw : Below w.heap.size w w1 := (below_new w _).trans (hb.mono (by omega))
  rcases hcase with ⟨h1, rfl⟩ | ⟨h1, rfl⟩
  · exact ⟨rfl, hbw, .inl ⟨_, rfl, hd_no (by simp [hdOk, sees, h1])⟩⟩
  have T0 := tw_start h1 hb
  clear hb hbw h1
  have hTl : (allToks s.data.toList).length ≤ 802 := by
    have h1 := toks_le (s.data.toList.length + 1) s.data.toList 0
    have h3 : s.data.toList.length = s.size := by simp
    unfold allToks
    omega
  have hs0 := s_cycle s.data.toList
  have hs2 := s_frame s.data.toList
  have hs4 := seesP_semi s.data.toList
  generalize w.heap.size + 1 = b at *
  have Hs0 := hide hs0
  have Hs2 := hide hs2
  have Hs4 := hide hs4
  clear hs0 hs2 hs4
  go_wp2_with fail
  refine (takeText_any T0.rs wCycle (by rw [ByteArray.toList_eq]; decide)).mono ?_
  rintro e w2 ⟨hg, hcase⟩
  rw [Hs0.out] at hcase
  have hgw := below_grown (grownBy_new T0.g hg (Nat.le_of_lt T0.h1))
  rcases hcase with ⟨h0, rfl⟩ | ⟨h0, h1, rfl⟩ | ⟨h0, h1, rfl⟩
  · exact ⟨rfl, hgw, .inl ⟨_, rfl, hd_no (by simp [hdOk, h0])⟩⟩
  · exact ⟨rfl, hgw, .inl ⟨_, rfl, hd_no (by simp at h1; simp [hdOk, h1])⟩⟩
  have F0 := hide h0
  have T1 := T0.call h1 hg
  clear hg hgw h0 h1 T0
  generalize w1.heap.size = X at *
  obtain ⟨x0, x1, x2, xf, y0, yf⟩ := T1.cells
  go_wp2_with fail
  clear x0 x1 x2 xf y0 yf
  refine (takeNumber_any T1.rs).mono ?_
  rintro e w3 ⟨hg, hcase⟩
  have hgw := below_grown (grownBy_new T1.g hg (Nat.le_of_lt T1.h1))
  rcases hcase with ⟨h0, rfl⟩ | ⟨h0, h1, rfl⟩ | ⟨h0, h1, rfl⟩
  · exact ⟨rfl, hgw, .inl ⟨_, rfl, hd_no (by simp at h0; simp [hdOk, h0])⟩⟩
  · exact ⟨rfl, hgw, .inl ⟨_, rfl, hd_no (by simp at h1; simp [hdOk, sees, h1])⟩⟩
  have F1 := hide h0
  have T2 := T1.call h1 hg
  clear hg hgw h0 h1 T1
  obtain ⟨x0, x1, x2, xf, y0, yf⟩ := T2.cells
  go_wp2_with fail
  clear x0 x1 x2 xf y0 yf
  have T2 := T2.set 0 (.int .i64 (tk (allToks s.data.toList) (0 + 1)).N) (c' := (tk (allToks s.data.toList) (0 + 1)).N) (f' := 0) rfl
  refine (takeText_any T2.rs wFrame (by rw [ByteArray.toList_eq]; decide)).mono ?_
  rintro e w4 ⟨hg, hcase⟩
  rw [Hs2.out] at hcase
  have hgw := below_grown (grownBy_new T2.g hg (Nat.le_of_lt T2.h1))
  rcases hcase with ⟨h0, rfl⟩ | ⟨h0, h1, rfl⟩ | ⟨h0, h1, rfl⟩
  · exact ⟨rfl, hgw, .inl ⟨_, rfl, hd_no (by simp at h0; simp [hdOk, h0])⟩⟩
  · exact ⟨rfl, hgw, .inl ⟨_, rfl, hd_no (by simp at h1; simp [hdOk, h1])⟩⟩
  have F2 := hide h0
  have T3 := T2.call h1 hg
  clear hg hgw h0 h1 T2
  obtain ⟨x0, x1, x2, xf, y0, yf⟩ := T3.cells
  go_wp2_with fail
  clear x0 x1 x2 xf y0 yf
  refine (takeNumber_any T3.rs).mono ?_
  rintro e w5 ⟨hg, hcase⟩
  have hgw := below_grown (grownBy_new T3.g hg (Nat.le_of_lt T3.h1))
  rcases hcase with ⟨h0, rfl⟩ | ⟨h0, h1, rfl⟩ | ⟨h0, h1, rfl⟩
  · exact ⟨rfl, hgw, .inl ⟨_, rfl, hd_no (by simp at h0; simp [hdOk, h0])⟩⟩
  · exact ⟨rfl, hgw, .inl ⟨_, rfl, hd_no (by simp at h1; simp [hdOk, h1])⟩⟩
  have F3 := hide h0
  have T4 := T3.call h1 hg
  clear hg hgw h0 h1 T3
  obtain ⟨x0, x1, x2, xf, y0, yf⟩ := T4.cells
  go_wp2_with fail
  clear x0 x1 x2 xf y0 yf
  have T4 := T4.set 1 (.int .i64 (tk (allToks s.data.toList) (0 + 1 + 1 + 1)).N) (c' := (tk (allToks s.data.toList) (0 + 1)).N) (f' := (tk (allToks s.data.toList) (0 + 1 + 1 + 1)).N) rfl
  refine (takeText_any T4.rs ⟨#[59]⟩ (by rw [ByteArray.toList_eq]; decide)).mono ?_
  rintro e w6 ⟨hg, hcase⟩
  rw [Hs4.out] at hcase
  have hgw := below_grown (grownBy_new T4.g hg (Nat.le_of_lt T4.h1))
  rcases hcase with ⟨h0, rfl⟩ | ⟨h0, h1, rfl⟩ | ⟨h0, h1, rfl⟩
  · exact ⟨rfl, hgw, .inl ⟨_, rfl, hd_no (by simp at h0; simp [hdOk, h0])⟩⟩
  · exact ⟨rfl, hgw, .inl ⟨_, rfl, pTab_x5 (by simpa using h1)⟩⟩
  have hhd : hdOk (allToks s.data.toList) = true := by
    have a0 := F0.out
    have a1 := F1.out
    have a2 := F2.out
    have a3 := F3.out
    simp only [Nat.zero_add, Nat.reduceAdd] at a0 a1 a2 a3 h0
    unfold hdOk
    rw [a0, a1, a2, a3, h0]; rfl
  have HS := hide (pfR_start hhd)
  have T5 := hide (T4.call h1 hg)
  clear hg hgw h0 h1 T4 F0 F1 F2 F3 hhd Hs0 Hs2 Hs4
  simp only [Nat.zero_add, Nat.reduceAdd] at T5
  simp only [Nat.zero_add, Nat.reduceAdd]
  generalize hcc : (tk (allToks s.data.toList) 1).N = c at *
  generalize hff : (tk (allToks s.data.toList) 3).N = f at *
  have Hc := hide hcc
  have Hf := hide hff
  clear hcc hff
  go_wp2_with fail
  go_loopw [21] (fun _ wr => ∃ (i : Nat) (P : List (Value × List Sl)) (fv : Value), TW w wr b X s i c f fv P ∧ PfR (allToks s.data.toList) i (P.map Prod.snd)) (fun _ wr => 900 - lenOf (wr.cell? ⟨X, 2, none⟩))
  case atStart => exact ⟨5, [], _, T5.out, HS.out⟩
  case round =>
    clear T5 HS
    obtain ⟨i, P, fv, hT, hR⟩ := hrel
    obtain ⟨fa, fc, rfl⟩ := own_slice hT.fm.1
    have hii := hT.rs.hi
    have hPl : P.length ≤ 802 := by have := hR.2.1; simp at this; omega
    have HL : Hid (lenOf (wr.cell? ⟨X, 2, none⟩) = P.length) := by
      unfold Hid
      rw [hT.cells.2.2.1]
      rfl
    obtain ⟨x0, x1, x2, xf, y0, yf⟩ := hT.cells
    have HT := hide hT
    have HR := hide hR
    clear hR
    go_wp2_with fail
    refine (seesEnd_any hT.rs).mono ?_
    clear hT
    rintro e w' ⟨rfl, hww⟩
    have hww := hww.symm
    subst hww
    cases hk : ((tk (allToks s.data.toList) i).k == 101)
    · have hk' : (tk (allToks s.data.toList) i).k ≠ 101 := by simpa using hk
      have Hk := hide hk'
      clear hk hk'
      go_wp2_with fail
      rcases dead_or (allToks s.data.toList) (pFrame (allToks s.data.toList) i) with hd | ⟨l, j, hl, hx⟩
      · have hbb := hide hd
        clear hd
        have hdr : RS 8 wr.drew b s i := HT.out.rs.keep rfl
        have Hdr := hide hdr
        clear hdr
        go_region_dies
        all_goals
          refine (takeFrame_bad Hdr.out hbb.out).mono ?_
          rintro e w9 ⟨⟨p, rfl⟩, hg⟩
          exact ⟨rfl, below_grown (grownBy_new (grownBy_drew HT.out.g) hg (Nat.le_of_lt HT.out.h1)), .inl ⟨p, rfl, pfR_dead HR.out Hk.out hbb.out⟩⟩
      · have Hl := hide hl
        have Hx := hide hx
        have HR2 := hide (pfR_more HR.out hl)
        clear hl hx
        have HTd : Hid (TW w wr.drew b X s i c f (.slice fa P.length fc) P) := HT.out.call (HT.out.rs.keep rfl) ⟨rfl, rfl, rfl, Nat.le_refl _, fun _ _ _ => rfl⟩
        have h1 := HT.out.h1
        have h2 := HT.out.h2
        go_region_law (first | (refine step_append_own rfl (.tmp 25) (.tmp 28) 59 rfl (b + 1) 104 it _ 1 24 Tryz.underlying59 hti htz0 htz1 htz2 rfl (by decide) _ _ _ rfl (fm9.1.alloc _) ⟨w9.heap.size, 0, none⟩ 1 1 [.slice la l.length lc] rfl rfl (cells_new w9 #[_] _ _ rfl) (by simp [Value.oneCell']) (by unfold maxLen; omega) (by omega) (by simp; omega) ?_; intro v' w10 hown10 hgr; have T10 := HT9.out.push hv9.out hgr hown10; have hX10 := HT9.out.grow hgr; have u1 := blk_cell hX10 2; have u2 := blk_frozen hX10 2; obtain ⟨fa', fc', rfl⟩ := own_slice hown10; have HT10 := hide T10; clear T10 hX10 hown10 hgr) | (go_simp; go_at_call 104; refine (takeFrame_good HTd.out.rs Hl.out Hx.out).mono ?_; rintro e w9 ⟨la, lc, rfl, hrs9, hg9, hv⟩; have T9 := HTd.out.call hrs9 hg9; obtain ⟨z0, z1, z2, z3, z4, z5⟩ := T9.cells; have HT9 := hide T9; have fm9 := T9.fm; have hl9 := blk_lt T9.hx; have hv9 := hide (own_weak (base' := b + 1) hv (by have := HT.out.rs.hi; have := blk_lt HT.out.rs.h; show b + 1 ≤ wr.heap.size; omega)); clear T9 hrs9 hg9 hv))
        all_goals
          go_wp2
          go_roundw
          case rel => exact ⟨j, P ++ [(.slice la l.length lc, l)], _, HT10.out, by rw [List.map_append]; exact HR2.out⟩
          case measure => rw [HL.out, HT10.out.cells.2.2.1]; show 900 - (P.length + 1) < 900 - P.length; omega
    · have hk' : (tk (allToks s.data.toList) i).k = 101 := by simpa using hk
      have hend := hide (pfR_end HR.out hii hk')
      rw [Hc.out, Hf.out] at hend
      clear hk hk'
      have h1 := HT.out.h1
      have h2 := HT.out.h2
      have hne1 : ¬ w.heap.size = X := by omega
      have hne2 : ¬ X = w.heap.size := by omega
      go_wp2
      refine bodyPost_ret (v := .agg #[.int .i64 c, .int .i64 f, .slice fa P.length fc]) (by simp [results, Tryz.results66, go_sem, y0]) rfl ⟨?_, .inr ⟨⟨c, f, P.map Prod.snd⟩, P, .slice fa P.length fc, hend.out, rfl, hPl, rfl, ?_⟩⟩
      · exact below_grown (grownBy_setNew (grownBy_setNew (grownBy_setNew HT.out.g (Nat.le_refl _) _ _) (Nat.le_refl _) _ _) (Nat.le_refl _) _ _)
      · have K : ∀ (W : World) (o : Nat) (v : Value), FrM W (b + 1) (.slice fa P.length fc) P → FrM (W.setCell ⟨w.heap.size, o, none⟩ v) (b + 1) (.slice fa P.length fc) P := fun W o v h => h.kept (grownBy_set (k := w.heap.size) (grownBy_refl _ _) o v) (fun k hk => .inl (by simp at hk; omega))
        have h3 := K _ 2 (.slice fa P.length fc) (K _ 1 (.int .i64 f) (K _ 0 (.int .i64 c) HT.out.fm))
        exact ⟨own_weak h3.1 (by omega), fun p hp => own_weak (h3.2 p hp) (by omega)⟩
end Go.Proofs.YtbdffcjganlblaaGreatDoor

namespace Go.Proofs.YtbdffcjganlblaaGreatDoor
open Go.RowKit
set_option linter.unusedVariables false
set_option linter.unusedSimpArgs false

def slk (f : List Sl) (k : Nat) : Sl := f.getD k ⟨0, 0, 0⟩
def frk (fs : List (List Sl)) (j : Nat) : List Sl := fs.getD j []
theorem slk_eq {f : List Sl} {k : Nat} (h : k < f.length) : f[k] = slk f k := by simp [slk, List.getD_eq_getElem?_getD, h]
theorem frk_eq {fs : List (List Sl)} {j : Nat} (h : j < fs.length) : fs[j] = frk fs j := by simp [frk, List.getD_eq_getElem?_getD, h]

/-- The slices of a frame lie in block g. -/
def RowS (w : World) (g : Nat) (f : List Sl) : Prop := ∀ k, k < f.length →
  w.cell? ⟨g, k * 3, none⟩ = some (.int .u8 (slk f k).nm.toNat) ∧ w.cell? ⟨g, k * 3 + 1, none⟩ = some (.int .i64 (slk f k).job) ∧ w.cell? ⟨g, k * 3 + 2, none⟩ = some (.int .i64 (slk f k).bud)
theorem slPs_get (T : List Sl) : ∀ (j : Nat), j < T.length → ∀ o, o < 3 → (slPs T)[j * 3 + o]? = (slP (slk T j))[o]? := by
  induction T with
  | nil => intro j h; simp at h
  | cons t r ih =>
    intro j hj o ho
    have e : slPs (t :: r) = slP t ++ slPs r := rfl
    have el : (slP t).length = 3 := rfl
    cases j with
    | zero => rw [e, List.getElem?_append_left (by omega)]; simp [slk]
    | succ j =>
      have := ih j (by simpa using hj) o ho
      rw [e, List.getElem?_append_right (by omega), el, show (j + 1) * 3 + o - 3 = j * 3 + o by omega, this]
      simp [slk]
theorem rowS_own {w : World} {base g cap : Nat} {l : List Sl} (h : w.ownsRow base 106 3 (.slice (some ⟨g, 0, none⟩) l.length cap) l.length (slPs l)) : RowS w g l := by
  intro k hk
  have e : ∀ o, o < 3 → w.cell? ⟨g, k * 3 + o, none⟩ = (slP (slk l k))[o]? := fun o ho => by rw [h.cellAt _ (by omega)]; exact slPs_get l k hk o ho
  have e0 := e 0 (by omega)
  simp only [Nat.add_zero] at e0
  rw [e0, e 1 (by omega), e 2 (by omega)]
  exact ⟨rfl, rfl, rfl⟩
theorem RowS.below {w w' : World} {g B : Nat} {l : List Sl} (h : RowS w g l) (hb : Below B w w') (hg : g < B) : RowS w' g l := by
  intro k hk
  have e : ∀ o, w'.cell? ⟨g, o, none⟩ = w.cell? ⟨g, o, none⟩ := fun o => hb.cell (p := ⟨g, o, none⟩) hg
  rw [e, e, e]
  exact h k hk
/-- A frame's value, as it may be read. -/
def FrA (w : World) (a : Option Addr) (f : List Sl) : Prop := 0 < f.length → ∃ g, a = some ⟨g, 0, none⟩ ∧ g < w.heap.size ∧ RowS w g f
theorem FrA.below {w w' : World} {a : Option Addr} {f : List Sl} (h : FrA w a f) {B : Nat} (hb : Below B w w') (hB : w.heap.size ≤ B) : FrA w' a f := by
  intro hf
  obtain ⟨g, h1, h2, h3⟩ := h hf
  exact ⟨g, h1, Nat.lt_of_lt_of_le h2 hb.size, h3.below hb (by omega)⟩
theorem frA_own {w : World} {base : Nat} {a : Option Addr} {c : Nat} {f : List Sl} (h : w.ownsRow base 106 3 (.slice a f.length c) f.length (slPs f)) : FrA w a f := by
  intro hf
  obtain ⟨g, cap, he, h1, h2⟩ := own_form h hf
  injection he with e1 _ e3
  subst e1 e3
  exact ⟨g, rfl, h2, rowS_own h⟩
/-- The frames, as they may be read. -/
def FrsA (w : World) (g : Nat) (fs : List (List Sl)) : Prop := ∀ j, j < fs.length → ∃ a c, w.cell? ⟨g, j, none⟩ = some (.slice a (frk fs j).length c) ∧ FrA w a (frk fs j)
theorem FrsA.below {w w' : World} {g : Nat} {fs : List (List Sl)} (h : FrsA w g fs) (hg : g < w.heap.size) {B : Nat} (hb : Below B w w') (hB : w.heap.size ≤ B) : FrsA w' g fs := by
  intro j hj
  obtain ⟨a, c, h1, h2⟩ := h j hj
  exact ⟨a, c, by rw [hb.cell (p := ⟨g, j, none⟩) (by show g < B; omega)]; exact h1, h2.below hb hB⟩
theorem frsA_own {w : World} {base g c : Nat} {P : List (Value × List Sl)} (h : FrM w base (.slice (some ⟨g, 0, none⟩) P.length c) P) : FrsA w g (P.map Prod.snd) := by
  intro j hj
  have hj' : j < P.length := by simpa using hj
  have hm : P[j] ∈ P := List.getElem_mem _
  have hv := h.2 _ hm
  obtain ⟨a, cc, hva⟩ := own_slice hv
  have hf : frk (P.map Prod.snd) j = P[j].2 := by rw [← frk_eq hj]; simp
  rw [hf]
  refine ⟨a, cc, ?_, frA_own (by rw [← hva]; exact hv)⟩
  rw [h.1.cellAt j (by omega), List.getElem?_map, List.getElem?_eq_getElem hj']
  simp [hva]

theorem budP_no {fr : Nat} {f : List Sl} {k : Nat} (hk : k < f.length) (h : ¬ (1 ≤ (slk f k).bud ∧ budS (f.take k) + (slk f k).bud ≤ fr)) : ¬ BudP fr f := by
  intro hb
  have := hb k hk
  rw [slk_eq hk] at this
  exact h this
theorem budS_take {f : List Sl} {k : Nat} (hk : k < f.length) : budS (f.take (k + 1)) = budS (f.take k) + (slk f k).bud := by
  rw [List.take_succ_eq_append_getElem hk, budS_app, slk_eq hk]
  simp [budS]
def BPto (fr : Nat) (f : List Sl) (k : Nat) : Prop := ∀ i, i < k → 1 ≤ (slk f i).bud ∧ budS (f.take i) + (slk f i).bud ≤ fr
theorem bpTo_all {fr : Nat} {f : List Sl} (h : BPto fr f f.length) : BudP fr f := by
  intro k hk
  rw [slk_eq hk]
  exact h k hk

/-- It passes, or refuses. -/
def PassOut (Q : Prop) (w : World) (en : Ending) (w' : World) : Prop := Below w.heap.size w w' ∧ ((Q ∧ en = .returned (.tuple #[])) ∨ (¬ Q ∧ en = pan 8 0))

set_option maxRecDepth 100000 in
set_option maxHeartbeats 2000000 in
theorem checkBudgets_any (f : List Sl) (a : Option Addr) (c : Nat) (most : Nat) (w : World) (hr : FrA w a f) (hn : f.length ≤ 1000) (hm : most ≤ 10000) (hs : ∀ k, k < f.length → (slk f k).bud ≤ 9999) :
    Calls Tryz.prog 105 #[.slice a f.length c, .int .i64 most] w (PassOut (BudP most f) w) := by
  have Hr := hide hr
  have Hs := hide hs
  clear hr hs
  go_enter Tryz.func105, Tryz.ntmps105
  go_wp2_with fail
  go_loopw [4, 9] (fun s i wr => ∃ k : Nat, k ≤ f.length ∧ i = .int .i64 k ∧ s = .int .i64 (budS (f.take k) : Nat) ∧ budS (f.take k) ≤ 10000 ∧ Below w.heap.size w wr ∧ BPto most f k) (fun _ i _ => 2000 - (intOf i).toNat)
  case atStart => exact ⟨0, by omega, rfl, rfl, by simp [budS], Below.refl _ _, fun i hi => by omega⟩
  case round =>
    obtain ⟨k, hk, rfl, rfl, hsum, hb, hP⟩ := hrel
    have HB := hide hb
    have HP := hide hP
    clear hP
    by_cases hlt : k < f.length
    · have hlt' : (k : Int) < f.length := by omega
      obtain ⟨g, rfl, hg1, hrow⟩ := Hr.out (by omega)
      obtain ⟨r0, r1, r2⟩ := hrow.below hb hg1 k hlt
      have hbk := Hs.out k hlt
      have hst := hide (budS_take hlt)
      have hws := hb.size
      clear hb hrow
      by_cases hq : 1 ≤ (slk f k).bud ∧ budS (f.take k) + (slk f k).bud ≤ most
      · obtain ⟨hq1, hq2⟩ := hq
        have hq1' : ¬ ((slk f k).bud : Int) < 1 := by omega
        have hq2' : ¬ (most : Int) < budS (f.take k) + (slk f k).bud := by omega
        have hBP : Hid (BPto most f (k + 1)) := by
          intro i hi
          rcases Nat.lt_or_ge i k with h | h
          · exact HP.out i h
          · have : i = k := by omega
            subst this
            exact ⟨hq1, hq2⟩
        generalize budS (f.take k) = B at *
        go_wp2
        go_roundw
        case rel => exact ⟨k + 1, by omega, by go_num, by rw [hst.out]; go_num, by rw [hst.out]; omega, HB.out.alloc HB.out.size _, hBP.out⟩
        case measure => simp [intOf]; omega
      · have hno := hide (budP_no hlt hq)
        have hcs : ((slk f k).bud : Int) < 1 ∨ (¬ ((slk f k).bud : Int) < 1 ∧ (most : Int) < budS (f.take k) + (slk f k).bud) := by omega
        clear hq
        generalize budS (f.take k) = B at *
        rcases hcs with h1 | ⟨h1, h2⟩
        all_goals
          go_wp2_with fail
          refine (refuse_any 8 0 _ rfl _).mono ?_
          rintro e w' ⟨rfl, rfl⟩
          exact ⟨rfl, HB.out.alloc HB.out.size _, .inr ⟨hno.out, rfl⟩⟩
    · have hlt' : ¬ (k : Int) < f.length := by omega
      have hok : Hid (BudP most f) := by
        have : k = f.length := by omega
        rw [this] at HP
        exact bpTo_all HP.out
      go_wp2
      go_end0
      exact ⟨HB.out, .inl ⟨hok.out, rfl⟩⟩

/-- What is known of one name, in memory. -/
def NxC (J o : Nat) (w w' : World) (x y : Nat) : Prop := w'.cell? ⟨J, o, none⟩ = some (.int .i64 x) ∧ w'.cell? ⟨J, o + 1, none⟩ = some (.int .i64 y) ∧ (∀ p, p ≠ o → p ≠ o + 1 → w'.cell? ⟨J, p, none⟩ = w.cell? ⟨J, p, none⟩) ∧ (∀ o, w'.frozen? ⟨J, o, none⟩ = false)
def NxOut (J o bg job fr lf : Nat) (w : World) (en : Ending) (w' : World) : Prop :=
  w.grownBy w' (some J) ∧ ((job = bg ∧ en = .returned (.tuple #[]) ∧ NxC J o w w' (bg + 1) fr) ∨ (job + 1 = bg ∧ lf ≠ fr ∧ en = .returned (.tuple #[]) ∧ NxC J o w w' bg fr) ∨ (¬ (job = bg ∨ (job + 1 = bg ∧ lf ≠ fr)) ∧ en = pan 8 0))

set_option maxRecDepth 100000 in
set_option maxHeartbeats 2000000 in
theorem checkNext_any (J o bg job fr lf : Nat) (w : World) (c0 : w.cell? ⟨J, o, none⟩ = some (.int .i64 bg)) (c1 : w.cell? ⟨J, o + 1, none⟩ = some (.int .i64 lf)) (fz : ∀ o, w.frozen? ⟨J, o, none⟩ = false) (hb : bg ≤ 100000) (hj : job ≤ 100000) :
    Calls Tryz.prog 107 #[.pointer (some ⟨J, o, none⟩), .int .i64 job, .int .i64 fr] w (NxOut J o bg job fr lf w) := by
  have Hc0 := hide c0
  have Hc1 := hide c1
  have Hfz := hide fz
  have f0 := fz o
  have f1 := fz (o + 1)
  clear fz
  by_cases h1 : job = bg
  · have h1' : ((job : Int) == bg) = true := by simp [h1]
    have hneg : ((-1 : Int) == fr) = false := by rw [beq_eq_false_iff_ne]; omega
    have Hfin : Hid (NxOut J o bg job fr lf w (.returned (.tuple #[])) (((w.setCell ⟨J, o, none⟩ (.int .i64 (bg + 1))).setCell ⟨J, o + 1, none⟩ (.int .i64 (-1))).setCell ⟨J, o + 1, none⟩ (.int .i64 fr))) := by
      refine ⟨grownBy_set (grownBy_set (grownBy_set (grownBy_refl _ _) _ _) _ _) _ _, .inl ⟨h1, rfl, ?_, ?_, ?_, ?_⟩⟩
      · rw [set_other (by simp), set_other (by simp), set_same Hc0.out]; rfl
      · exact set_same (set_same (by rw [set_other (by simp)]; exact Hc1.out))
      · intro p hp hp'
        rw [set_other (by intro e; injection e with _ e2; omega), set_other (by intro e; injection e with _ e2; omega), set_other (by intro e; injection e with _ e2; omega)]
      · intro q
        simpa using Hfz.out q
    clear h1
    go_enter Tryz.func107, Tryz.ntmps107
    go_wp2
    go_end0
    exact Hfin.out
  · have h1' : ((job : Int) == bg) = false := by simp; omega
    by_cases h2 : job + 1 = bg
    · have h2' : ((job : Int) == (bg : Int) - 1) = true := by simp; omega
      by_cases h3 : lf = fr
      · have h3' : ((lf : Int) == fr) = true := by simp [h3]
        have hno : Hid (¬ (job = bg ∨ (job + 1 = bg ∧ lf ≠ fr))) := by
          rintro (h | ⟨_, h⟩)
          · exact h1 h
          · exact h h3
        clear h1 h2 h3
        go_enter Tryz.func107, Tryz.ntmps107
        go_wp2_with fail
        refine (refuse_any 8 0 _ rfl _).mono ?_
        rintro e w' ⟨rfl, rfl⟩
        exact ⟨rfl, grownBy_refl _ _, .inr (.inr ⟨hno.out, rfl⟩)⟩
      · have h3' : ((lf : Int) == fr) = false := by simp; omega
        have Hfin : Hid (NxOut J o bg job fr lf w (.returned (.tuple #[])) (w.setCell ⟨J, o + 1, none⟩ (.int .i64 fr))) := by
          refine ⟨grownBy_set (grownBy_refl _ _) _ _, .inr (.inl ⟨h2, h3, rfl, ?_, ?_, ?_, ?_⟩)⟩
          · rw [set_other (by simp)]; exact Hc0.out
          · exact set_same Hc1.out
          · intro p hp hp'
            rw [set_other (by intro e; injection e with _ e2; omega)]
          · intro q
            simpa using Hfz.out q
        clear h1 h2 h3
        go_enter Tryz.func107, Tryz.ntmps107
        go_wp2
        go_end0
        exact Hfin.out
    · have h2' : ((job : Int) == (bg : Int) - 1) = false := by simp; omega
      have hno : Hid (¬ (job = bg ∨ (job + 1 = bg ∧ lf ≠ fr))) := by
        rintro (h | ⟨h, _⟩)
        · exact h1 h
        · exact h2 h
      clear h1 h2
      go_enter Tryz.func107, Tryz.ntmps107
      go_wp2_with fail
      refine (refuse_any 8 0 _ rfl _).mono ?_
      rintro e w' ⟨rfl, rfl⟩
      exact ⟨rfl, grownBy_refl _ _, .inr (.inr ⟨hno.out, rfl⟩)⟩

/-! ### The jobs so far -/
/-- The 26 names' cells, behind the slices P. -/
def JC (w : World) (J : Nat) (P : List FSl) : Prop := (∀ n : UInt8, letterB (n.toNat : Int) = true → w.cell? ⟨J, (n.toNat - 97) * 2, none⟩ = some (.int .i64 (nextJ P n)) ∧ w.cell? ⟨J, (n.toNat - 97) * 2 + 1, none⟩ = some (.int .i64 (lastF P n))) ∧ ∀ o, w.frozen? ⟨J, o, none⟩ = false
theorem JC.next {w w' : World} {J : Nat} {P : List FSl} {x : FSl} (h : JC w J P) (hl : letterB (x.2.nm.toNat : Int) = true) {n y : Nat} (hn : n = nextJ (P ++ [x]) x.2.nm) (hy : y = x.1) (hc : NxC J ((x.2.nm.toNat - 97) * 2) w w' n y) : JC w' J (P ++ [x]) := by
  obtain ⟨c1, c2, c3, c4⟩ := hc
  refine ⟨?_, c4⟩
  intro m hm
  rw [lastF_snoc]
  by_cases he : x.2.nm = m
  · subst he
    rw [if_pos rfl, c1, c2, hn, hy]
    exact ⟨rfl, rfl⟩
  · rw [nextJ_snoc, if_neg he, if_neg he]
    have hne : x.2.nm.toNat ≠ m.toNat := fun e => he (UInt8.toNat_inj.1 e)
    simp only [letterB, Bool.and_eq_true, decide_eq_true_eq] at hl hm
    rw [c3 _ (by omega) (by omega), c3 _ (by omega) (by omega)]
    exact h.1 m (by simp only [letterB, Bool.and_eq_true, decide_eq_true_eq]; exact hm)
theorem JC.keep {w w' : World} {J : Nat} {P : List FSl} (h : JC w J P) (hb : w'.heap[J]? = w.heap[J]?) (hf : ∀ o, w'.frozen? ⟨J, o, none⟩ = w.frozen? ⟨J, o, none⟩) : JC w' J P := by
  refine ⟨?_, fun o => by rw [hf]; exact h.2 o⟩
  intro n hn
  have e : ∀ o, w'.cell? ⟨J, o, none⟩ = w.cell? ⟨J, o, none⟩ := fun o => World.cell?_of_block (a := ⟨J, o, none⟩) hb
  rw [e, e]
  exact h.1 n hn

/-- All that check asks. -/
def ChkOk (t : Tb) : Prop := Sound t ∧ ∀ f ∈ t.fs, ∀ s ∈ f, letterB (s.nm.toNat : Int) = true

theorem jobsP_nil : JobsP [] := fun k h => by simp at h
theorem jobsP_snoc {A : List FSl} {x : FSl} (h : JobsP A) (hx : okP A x) : JobsP (A ++ [x]) := by
  intro k hk
  rcases Nat.lt_or_ge k A.length with h1 | h1
  · rw [List.getElem_append_left h1, List.take_append_of_le_length (by omega)]
    exact h k h1
  · have : k = A.length := by simp at hk; omega
    subst this
    rw [List.getElem_append_right (by omega), List.take_left']
    · simpa using hx
    · rfl
theorem jobsP_mid {A R : List FSl} {x : FSl} (h : JobsP (A ++ x :: R)) : okP A x := by
  have := h A.length (by simp)
  rw [List.getElem_append_right (by omega), List.take_left'] at this
  · simpa using this
  · rfl
theorem flat_split (fs : List (List Sl)) : ∀ (j i : Nat), (hj : j < fs.length) → flatF i fs = flatF i (fs.take j) ++ ((frk fs j).map (fun s => (i + j, s)) ++ flatF (i + j + 1) (fs.drop (j + 1))) := by
  induction fs with
  | nil => intro j i hj; simp at hj
  | cons f r ih =>
    intro j i hj
    cases j with
    | zero => simp [flatF, frk]
    | succ j =>
      have := ih j (i + 1) (by simpa using hj)
      simp only [flatF, List.take_succ_cons, List.drop_succ_cons, this, List.append_assoc]
      rw [show i + 1 + j = i + (j + 1) by omega]
      rfl
theorem map_take_next {f : List Sl} {k j : Nat} (h : k < f.length) : (f.take (k + 1)).map (fun s => (j, s)) = (f.take k).map (fun s => (j, s)) ++ [(j, slk f k)] := by
  rw [List.take_succ_eq_append_getElem h, List.map_append, slk_eq h]
  rfl
theorem chk_no_bud {t : Tb} {j : Nat} (hj : j < t.fs.length) (h : ¬ BudP t.fr (frk t.fs j)) : ¬ ChkOk t := by
  intro hc
  exact h (hc.1.bud _ (by rw [← frk_eq hj]; exact List.getElem_mem _))
theorem chk_no_letter {t : Tb} {j k : Nat} (hj : j < t.fs.length) (hk : k < (frk t.fs j).length) (h : letterB ((slk (frk t.fs j) k).nm.toNat : Int) = false) : ¬ ChkOk t := by
  intro hc
  have := hc.2 (frk t.fs j) (by rw [← frk_eq hj]; exact List.getElem_mem _) (slk (frk t.fs j) k) (by rw [← slk_eq hk]; exact List.getElem_mem _)
  rw [this] at h
  simp at h
theorem chk_no_job {t : Tb} {j k : Nat} (hj : j < t.fs.length) (hk : k < (frk t.fs j).length) (h : ¬ okP (flatF 0 (t.fs.take j) ++ ((frk t.fs j).take k).map (fun s => (j, s))) (j, slk (frk t.fs j) k)) : ¬ ChkOk t := by
  intro hc
  have hJ := hc.1.jobs
  rw [flat_split t.fs j 0 hj, Nat.zero_add] at hJ
  have e : (frk t.fs j).map (fun s => (j, s)) = ((frk t.fs j).take k).map (fun s => (j, s)) ++ (j, slk (frk t.fs j) k) :: ((frk t.fs j).drop (k + 1)).map (fun s => (j, s)) := by
    conv => lhs; rw [← List.take_append_drop k (frk t.fs j)]
    rw [List.map_append, List.drop_eq_getElem_cons hk, slk_eq hk]
    rfl
  rw [e] at hJ
  refine h (jobsP_mid (R := ((frk t.fs j).drop (k + 1)).map (fun s => (j, s)) ++ flatF (j + 1) (t.fs.drop (j + 1))) ?_)
  simpa using hJ
end Go.Proofs.YtbdffcjganlblaaGreatDoor

namespace Go.Proofs.YtbdffcjganlblaaGreatDoor
set_option linter.unusedVariables false
set_option linter.unusedSimpArgs false

theorem goes_of_sound {t : Tb} (h : Sound t) : Goes (flatF 0 t.fs) t.cyc t.fr := by
  obtain ⟨f1, f2, n1, n2, hl⟩ := h.frames
  have hr := flatF_rises t.fs 0
  have hb := (budR_flat t.fr t.fs 0 [] (fun i _ => rfl)).2 h.bud
  refine ⟨?_, ?_, ?_, ?_, f1, h.c1⟩
  · intro i hi
    have := hr i (i + 1) (by omega) hi (by omega)
    rw [fsk_eq (by omega), fsk_eq hi] at this
    exact this
  · intro i hi
    have := (hb i hi).1
    rwa [fsk_eq hi] at this
  · intro i hi
    have := (hb i hi).2
    rwa [fsk_eq hi] at this
  · intro i hi
    have hm : fsk (flatF 0 t.fs) i ∈ flatF 0 t.fs := by rw [← fsk_eq hi]; exact List.getElem_mem _
    obtain ⟨_, h2, _⟩ := flatF_mem t.fs 0 _ hm
    have h3 := Nat.mul_le_mul_right t.fr (show (fsk (flatF 0 t.fs) i).1 + 1 ≤ t.fs.length by omega)
    rw [Nat.mul_comm t.fs.length, h.c3] at h3
    exact h3
/-- How many slices lie ahead of frame j. -/
def baseJ (fs : List (List Sl)) (j : Nat) : Nat := (flatF 0 (fs.take j)).length
theorem base_zero (fs : List (List Sl)) : baseJ fs 0 = 0 := by simp [baseJ, flatF]
theorem base_all (fs : List (List Sl)) : baseJ fs fs.length = (flatF 0 fs).length := by simp [baseJ]
theorem base_next {fs : List (List Sl)} {j : Nat} (hj : j < fs.length) : baseJ fs (j + 1) = baseJ fs j + (frk fs j).length := by
  unfold baseJ
  rw [flatF_len, flatF_len, List.take_succ_eq_append_getElem hj, frk_eq hj]
  simp
theorem base_le {fs : List (List Sl)} {j : Nat} (hj : j < fs.length) : baseJ fs j + (frk fs j).length ≤ (flatF 0 fs).length := by
  have h1 := flat_split fs j 0 hj
  have h2 := congrArg List.length h1
  simp only [List.length_append, List.length_map] at h2
  unfold baseJ
  omega
theorem flat_at {fs : List (List Sl)} {j k : Nat} (hj : j < fs.length) (hk : k < (frk fs j).length) : fsk (flatF 0 fs) (baseJ fs j + k) = (j, slk (frk fs j) k) := by
  have hlt : baseJ fs j + k < (flatF 0 fs).length := by have := base_le hj; omega
  have h1 := flat_split fs j 0 hj
  rw [← fsk_eq hlt]
  have e : (flatF 0 fs)[baseJ fs j + k]? = some (j, slk (frk fs j) k) := by
    rw [h1]
    unfold baseJ
    rw [List.getElem?_append_right (by omega), Nat.add_sub_cancel_left, List.getElem?_append_left (by simpa using hk), List.getElem?_map, List.getElem?_eq_getElem hk, slk_eq hk]
    simp
  rw [List.getElem?_eq_getElem hlt] at e
  exact Option.some.inj e
theorem used_none {l : List FSl} {j : Nat} (h : ∀ x ∈ l, x.1 ≠ j) : usedJ l j = 0 := by
  induction l with
  | nil => rfl
  | cons x r ih =>
    have h1 := h x (by simp)
    have h2 := ih (fun y hy => h y (by simp [hy]))
    simp [usedJ, h1, h2]
theorem used_base (fs : List (List Sl)) (j : Nat) (hj : j ≤ fs.length) : usedJ ((flatF 0 fs).take (baseJ fs j)) j = 0 := by
  have e : (flatF 0 fs).take (baseJ fs j) = flatF 0 (fs.take j) := by
    rcases Nat.lt_or_ge j fs.length with h | h
    · have h1 := flat_split fs j 0 h
      conv => lhs; rw [h1]
      unfold baseJ
      rw [List.take_left]
    · have : j = fs.length := by omega
      subst this
      rw [base_all, List.take_length, List.take_length]
  rw [e]
  apply used_none
  intro x hx
  obtain ⟨_, h2, _⟩ := flatF_mem (fs.take j) 0 x hx
  simp at h2
  omega
/-- Where slice k of frame j begins; and where the frame's last one ends. -/
def atK (fs : List (List Sl)) (fr j k : Nat) : Nat := j * fr + usedJ ((flatF 0 fs).take (baseJ fs j + k)) j
theorem atK_zero {fs : List (List Sl)} {fr j : Nat} (hj : j ≤ fs.length) : atK fs fr j 0 = j * fr := by
  unfold atK
  rw [Nat.add_zero, used_base fs j hj]
  rfl
theorem atK_start {fs : List (List Sl)} {fr j k : Nat} (hj : j < fs.length) (hk : k < (frk fs j).length) : startI (flatF 0 fs) fr (baseJ fs j + k) = atK fs fr j k := by
  unfold startI atK
  rw [flat_at hj hk]
theorem atK_next {fs : List (List Sl)} {fr j k : Nat} (hj : j < fs.length) (hk : k < (frk fs j).length) : atK fs fr j (k + 1) = atK fs fr j k + (slk (frk fs j) k).bud := by
  have hlt : baseJ fs j + k < (flatF 0 fs).length := by have := base_le hj; omega
  unfold atK
  rw [← Nat.add_assoc (baseJ fs j) k 1, usedJ_next hlt, flat_at hj hk]
  simp
  omega
theorem job_small {t : Tb} (h : Sound t) : ∀ i, i < (flatF 0 t.fs).length → (fsk (flatF 0 t.fs) i).2.job ≤ 9999 ∧ (fsk (flatF 0 t.fs) i).2.bud ≤ 60 ∧ (fsk (flatF 0 t.fs) i).small := by
  intro i hi
  have hm : fsk (flatF 0 t.fs) i ∈ flatF 0 t.fs := by rw [← fsk_eq hi]; exact List.getElem_mem _
  obtain ⟨_, h2, f, hf, hx⟩ := flatF_mem t.fs 0 _ hm
  obtain ⟨_, h3⟩ := h.small f hf
  obtain ⟨a, b, c⟩ := h3 _ hx
  obtain ⟨_, _, _, n2, _⟩ := h.frames
  exact ⟨by omega, c, by unfold FSl.small; omega⟩
theorem flat_len {t : Tb} (h : Sound t) : (flatF 0 t.fs).length ≤ 60 := by
  rw [flatF_len]
  exact h.frames.2.2.2.2
end Go.Proofs.YtbdffcjganlblaaGreatDoor
