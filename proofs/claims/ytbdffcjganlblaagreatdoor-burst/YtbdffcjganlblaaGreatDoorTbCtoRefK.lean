/-
  Own work. The program's tables: parseTable.
-/
import Derived.Test.YtbdffcjganlblaaGreatDoorTbAtoTbB
import Derived.Deep.DeepCutAuto
import Derived.Test.YtbdffcjganlblaaGreatDoorRefItoProgA
namespace Go.Proofs.YtbdffcjganlblaaGreatDoor
open Go.RowKit
set_option linter.unusedVariables false
set_option linter.unusedSimpArgs false

theorem Tryz.infoPFr : (Tryz.prog.info? 104).map (fun i => (i.zero, i.size, i.bytes)) = some (some (.slice none 0 0), 1, 24) := by kernel_rfl

theorem dead_or {α : Type} (T : List PT) (R : Option (α × Nat)) : Dead T R ∨ ∃ a j, R = some (a, j) ∧ (tk T j).k ≠ 120 := by
  cases R with
  | none => exact .inl (.inl rfl)
  | some x =>
    obtain ⟨a, j⟩ := x
    by_cases h : (tk T j).k = 120
    · exact .inl (.inr ⟨a, j, rfl, h⟩)
    · exact .inr ⟨a, j, rfl, h⟩
section
variable {w wk : World} {b : Nat} {s : ByteArray} {i : Nat} {er : Nat}
theorem takeFrame_bad (h : RS er w b s i) (hd : Dead (allToks s.data.toList) (pFrame (allToks s.data.toList) i)) :
    Calls Tryz.prog 104 #[.pointer (some ⟨b, 0, none⟩)] w fun en w' => (∃ p, en = pan er p) ∧ w.grownBy w' (some b) :=
  (takeFrame_any h).mono fun en w' h' => by
    obtain ⟨hg, ⟨p, rfl, _⟩ | ⟨l, j, v, h1, h2, _⟩⟩ := h'
    · exact ⟨⟨p, rfl⟩, hg⟩
    · exfalso
      rcases hd with hd | ⟨a, k, hd, hk⟩
      · rw [h1] at hd; simp at hd
      · rw [h1] at hd
        simp at hd
        obtain ⟨_, rfl⟩ := hd
        exact h2.hk hk
theorem takeFrame_good (h : RS er w b s i) {l : List Sl} {j : Nat} (hl : pFrame (allToks s.data.toList) i = some (l, j)) (hk : (tk (allToks s.data.toList) j).k ≠ 120) :
    Calls Tryz.prog 104 #[.pointer (some ⟨b, 0, none⟩)] w fun en w' => ∃ a c, en = .returned (.slice a l.length c) ∧ RS er w' b s j ∧ w.grownBy w' (some b) ∧ w'.ownsRow w.heap.size 106 3 (.slice a l.length c) l.length (slPs l) :=
  (takeFrame_any h).mono fun en w' h' => by
    obtain ⟨hg, ⟨p, rfl, hd⟩ | ⟨l', j', v, h1, h2, rfl, _, h3⟩⟩ := h'
    · exfalso
      rcases hd with hd | ⟨a, k, hd, hk'⟩
      · rw [hl] at hd; simp at hd
      · rw [hl] at hd
        simp at hd
        obtain ⟨_, rfl⟩ := hd
        exact hk hk'
    · rw [hl] at h1
      simp at h1
      obtain ⟨rfl, rfl⟩ := h1
      obtain ⟨a, c, rfl⟩ := own_slice h3
      exact ⟨a, c, rfl, h2, hg, h3⟩
end

/-! ### Frames in memory -/
/-- The frames' row and each frame's own. -/
def FrM (w : World) (base : Nat) (fv : Value) (P : List (Value × List Sl)) : Prop :=
  w.ownsRow base 104 1 fv P.length (P.map Prod.fst) ∧ ∀ p ∈ P, w.ownsRow base 106 3 p.1 p.2.length (slPs p.2)
theorem FrM.nil (w : World) (base : Nat) : FrM w base (.slice none 0 0) [] := ⟨World.ownsRow_nil _ _ _ _, fun p hp => by simp at hp⟩
theorem FrM.kept {w w' : World} {base : Nat} {fv : Value} {P : List (Value × List Sl)} (h : FrM w base fv P) {row : Option Nat} (g : w.grownBy w' row) (hr : ∀ k, row = some k → k < base ∨ ∃ c ty, w.heap[k]? = some (.cells c ty (0, 0)) ∧ 104 ≠ ty ∧ 106 ≠ ty) : FrM w' base fv P := by
  have key : ∀ {e : TypeId} {size : Nat} {v : Value} {n : Nat} {xs : List Value}, w.ownsRow base e size v n xs → (e = 104 ∨ e = 106) → w'.ownsRow base e size v n xs := by
    intro e size v n xs ho he
    refine ho.kept g ?_
    cases hq : v.ownBlock with
    | none => exact .inl rfl
    | some q =>
      right
      cases hrow : row with
      | none => simp
      | some k =>
        intro hqk
        have hqk : q = k := by simpa using hqk
        subst hqk
        rcases hr q hrow with h1 | ⟨c, ty, h1, h2, h3⟩
        · exact own_ge ho h1 hq
        · rcases he with rfl | rfl
          · exact own_type ho h1 h2 hq
          · exact own_type ho h1 h3 hq
  exact ⟨key h.1 (.inl rfl), fun p hp => key (h.2 p hp) (.inr rfl)⟩
theorem FrM.push {w w2 : World} {base : Nat} {fv fv' v : Value} {P : List (Value × List Sl)} {l : List Sl} (h : FrM w base fv P) (hv : w.ownsRow base 106 3 v l.length (slPs l)) (hg : w.grownBy w2 fv.ownBlock) (hown : w2.ownsRow base 104 1 fv' (P.length + 1) (P.map Prod.fst ++ [v])) : FrM w2 base fv' (P ++ [(v, l)]) := by
  have key : ∀ {v : Value} {n : Nat} {xs : List Value}, w.ownsRow base 106 3 v n xs → w2.ownsRow base 106 3 v n xs := by
    intro v n xs ho
    refine ho.kept hg ?_
    cases hq : v.ownBlock with
    | none => exact .inl rfl
    | some q => exact .inr (fun e => own_apart ho h.1 (by decide) q hq e.symm)
  refine ⟨by simpa using hown, ?_⟩
  intro p hp
  rcases List.mem_append.1 hp with hp | hp
  · exact key (h.2 p hp)
  · simp at hp
    subst hp
    exact key hv

def ptZ : Array Value := #[.int .i64 0, .int .i64 0, .slice none 0 0]
/-- The memory of parseTable. -/
structure TW (w wk : World) (b X : Nat) (s : ByteArray) (i : Nat) (c f : Nat) (fv : Value) (P : List (Value × List Sl)) : Prop where
  rs : RS 8 wk b s i
  hy : wk.heap[w.heap.size]? = some (.cells ptZ 61 (0, 0))
  hx : wk.heap[X]? = some (.cells #[.int .i64 c, .int .i64 f, fv] 61 (0, 0))
  fm : FrM wk (b + 1) fv P
  g : w.grownBy wk none
  h1 : w.heap.size < b
  h2 : b < X
section
variable {w wk : World} {b X : Nat} {s : ByteArray} {i c f : Nat} {fv : Value} {P : List (Value × List Sl)}
theorem TW.call (h : TW w wk b X s i c f fv P) {w' : World} {i' : Nat} (p : RS 8 w' b s i') (g : wk.grownBy w' (some b)) : TW w w' b X s i' c f fv P := by
  have h1 := h.h1
  have h2 := h.h2
  refine ⟨p, ?_, ?_, h.fm.kept g (fun k hk => .inl (by simp at hk; omega)), grownBy_new h.g g (by omega), h1, h2⟩
  · rw [g.block _ (blk_lt h.hy) (by simp; omega)]; exact h.hy
  · rw [g.block _ (blk_lt h.hx) (by simp; omega)]; exact h.hx
theorem TW.cells (h : TW w wk b X s i c f fv P) : wk.cell? ⟨X, 0, none⟩ = some (.int .i64 c) ∧ wk.cell? ⟨X, 1, none⟩ = some (.int .i64 f) ∧ wk.cell? ⟨X, 2, none⟩ = some fv ∧ (∀ o, wk.frozen? ⟨X, o, none⟩ = false) ∧ (∀ o, wk.cell? ⟨w.heap.size, o, none⟩ = #[Value.int .i64 0, .int .i64 0, .slice none 0 0][o]?) ∧ (∀ o, wk.frozen? ⟨w.heap.size, o, none⟩ = false) :=
  ⟨by rw [blk_cell h.hx]; rfl, by rw [blk_cell h.hx]; rfl, by rw [blk_cell h.hx]; rfl, blk_frozen h.hx, blk_cell h.hy, blk_frozen h.hy⟩
theorem TW.set (h : TW w wk b X s i c f fv P) (o : Nat) (v : Value) {c' f' : Nat} (hc : (#[Value.int .i64 c, .int .i64 f, fv].setIfInBounds o v) = #[.int .i64 c', .int .i64 f', fv]) : TW w (wk.setCell ⟨X, o, none⟩ v) b X s i c' f' fv P := by
  have h1 := h.h1
  have h2 := h.h2
  refine ⟨h.rs.set (by omega) o v, ?_, by rw [blk_set h.hx, hc], h.fm.kept (grownBy_set (k := X) (grownBy_refl _ _) o v) (fun k hk => .inr ?_), grownBy_setNew h.g (by omega) o v, h1, h2⟩
  · rw [Below.heap_setCell _ _ _ _ (by show w.heap.size ≠ X; omega)]; exact h.hy
  · simp at hk
    subst hk
    exact ⟨_, _, h.hx, by decide, by decide⟩
theorem TW.grow (h : TW w wk b X s i c f fv P) {o1 : Obj} {w2 : World} (hg : (wk.alloc o1).grownBy w2 fv.ownBlock) : w2.heap[X]? = some (.cells #[.int .i64 c, .int .i64 f, fv] 61 (0, 0)) := by
  have hX := blk_lt h.hx
  rw [hg.block X (by simp; omega) (fun e => own_type h.fm.1 h.hx (by decide) e.symm), Below.heap_alloc _ _ _ hX]
  exact h.hx
theorem TW.push (h : TW w wk b X s i c f fv P) {o1 : Obj} {w2 : World} {v fv' : Value} {l : List Sl} (hv : wk.ownsRow (b + 1) 106 3 v l.length (slPs l)) (hg : (wk.alloc o1).grownBy w2 fv.ownBlock) (hown : w2.ownsRow (b + 1) 104 1 fv' (P.length + 1) (P.map Prod.fst ++ [v])) :
    TW w (w2.setCell ⟨X, 2, none⟩ fv') b X s i c f fv' (P ++ [(v, l)]) := by
  have h1 := h.h1
  have h2 := h.h2
  have hX := blk_lt h.hx
  have hX2 := h.grow hg
  have hlow : ∀ k, k < b + 1 → fv.ownBlock ≠ some k := fun k hk => own_ge h.fm.1 hk
  have hblk : ∀ k, k < b + 1 → w2.heap[k]? = wk.heap[k]? := by
    intro k hk
    rw [hg.block k (by simp; omega) (fun e => hlow k hk e.symm), Below.heap_alloc _ _ _ (by omega)]
  have fm1 : FrM (wk.alloc o1) (b + 1) fv P := h.fm.kept (World.grownBy_alloc wk o1 none) (fun k hk => by simp at hk)
  have fm2 := fm1.push (l := l) (hv.alloc o1) hg hown
  refine ⟨(h.rs.keep (hblk b (by omega))).set (by omega) 2 fv', ?_, ?_, fm2.kept (grownBy_set (k := X) (grownBy_refl _ _) 2 fv') (fun k hk => .inr ?_), ?_, h1, h2⟩
  · rw [Below.heap_setCell _ _ _ _ (by show w.heap.size ≠ X; omega), hblk _ (by omega)]; exact h.hy
  · rw [blk_set hX2]; rfl
  · simp at hk
    subst hk
    exact ⟨_, _, hX2, by decide, by decide⟩
  · have hgw : w.grownBy w2 none := by
      have ha := grownBy_alloc' h.g o1
      refine ⟨hg.os.trans ha.os, hg.tape.trans ha.tape, hg.output.trans ha.output, Nat.le_trans ha.size hg.size, fun k hk hne => ?_⟩
      rw [hg.block k (by have := ha.size; omega) (fun e => hlow k (by omega) e.symm)]
      exact ha.block k hk hne
    exact grownBy_setNew hgw (by omega) _ _
end

def PtOut (s : ByteArray) (w : World) (en : Ending) (w' : World) : Prop :=
  Below w.heap.size w w' ∧ ((∃ p, en = pan 8 p ∧ pTab (allToks s.data.toList) = none) ∨
    (∃ (t : Tb) (P : List (Value × List Sl)) (fv : Value), pTab (allToks s.data.toList) = some t ∧ t.fs = P.map Prod.snd ∧ P.length ≤ 802 ∧ en = .returned (.agg #[.int .i64 t.cyc, .int .i64 t.fr, fv]) ∧ FrM w' w.heap.size fv P))
/-- How far the frames have been read. -/
def PfR (T : List PT) (i : Nat) (fs : List (List Sl)) : Prop := hdOk T = true ∧ 5 + fs.length ≤ i ∧ pFrames T 5 = (match pFrames T i with | none => none | some r => some (fs ++ r))
theorem pfR_start {T : List PT} (h : hdOk T = true) : PfR T 5 [] := ⟨h, by simp, by cases pFrames T 5 <;> simp⟩
theorem pfR_more {T : List PT} {i j : Nat} {fs : List (List Sl)} {l : List Sl} (h : PfR T i fs) (hp : pFrame T i = some (l, j)) : PfR T j (fs ++ [l]) := by
  have := pFrame_len hp
  refine ⟨h.1, by simp; have := h.2.1; omega, ?_⟩
  rw [h.2.2, pFrames_on hp]
  cases pFrames T j <;> simp
theorem pfR_dead {T : List PT} {i : Nat} {fs : List (List Sl)} (h : PfR T i fs) (hk : (tk T i).k ≠ 101) (hd : Dead T (pFrame T i)) : pTab T = none := by
  unfold pTab
  rw [if_pos h.1, h.2.2]
  have : pFrames T i = none := by
    rcases hd with hd | ⟨l, j, hd, hx⟩
    · exact pFrames_no hk hd
    · rw [pFrames_on hd, pFrames_x hx]
  rw [this]
theorem pfR_end {T : List PT} {i : Nat} {fs : List (List Sl)} (h : PfR T i fs) (hi : i < T.length) (hk : (tk T i).k = 101) : pTab T = some ⟨(tk T 1).N, (tk T 3).N, fs⟩ := by
  unfold pTab
  rw [if_pos h.1, h.2.2, pFrames_end hi hk]
  simp
theorem pTab_x5 {T : List PT} (h : (tk T 5).k = 120) : pTab T = none := by
  unfold pTab
  rw [pFrames_x h]
  split <;> rfl
end Go.Proofs.YtbdffcjganlblaaGreatDoor

namespace Go.Proofs.YtbdffcjganlblaaGreatDoor
open Go.RowKit
set_option linter.unusedVariables false
set_option linter.unusedSimpArgs false

theorem hd_no {T : List PT} (h : hdOk T = false) : pTab T = none := by unfold pTab; rw [h]; rfl

theorem tw_start {w w1 : World} {s : ByteArray} (hrs : RS 8 w1 (w.heap.size + 1) s 0) (hb : Below (w.heap.size + 1) (w.alloc (.cells ptZ 61)) w1) :
    TW w (w1.alloc (.cells #[.int .i64 0, .int .i64 0, .slice none 0 0] 61)) (w.heap.size + 1) w1.heap.size s 0 0 0 (.slice none 0 0) [] := by
  have hlt := blk_lt hrs.h
  refine ⟨hrs.alloc _, ?_, blk_new _ _ _, FrM.nil _ _, ?_, by omega, hlt⟩
  · rw [Below.heap_alloc _ _ _ (by omega), hb.block _ (by omega)]
    exact blk_new _ _ _
  · refine grownBy_alloc' ?_ _
    exact ⟨hb.os, hb.tape, hb.output, by omega, fun k hk _ => by rw [hb.block k (by omega), Below.heap_alloc _ _ _ hk]⟩

set_option maxRecDepth 100000 in
set_option maxHeartbeats 4000000 in
theorem parseTable_any (s : ByteArray) (w : World) (hs : s.size ≤ 800) :
    Calls Tryz.prog 66 #[.string s] w (PtOut s w) := by
  obtain ⟨it, hti, htz0, htz1, htz2⟩ := info_parts Tryz.infoPFr
  have hfn := num_val
  go_enter Tryz.func66, Tryz.ntmps66
  go_wp2_with fail
  refine (newReader_any 8 _ rfl s _ hs).mono ?_
  rintro e w1 ⟨hb, hcase⟩
  simp only [World.size_alloc] at hb hcase
  have hbw : Below w.heap.size w w1 := (below_new w _).trans (hb.mono (by omega))
  rcases hcase with ⟨h1, rfl⟩ | ⟨h1, rfl⟩
  · exact ⟨rfl, hbw, .inl ⟨_, rfl, hd_no (by simp [hdOk, sees, h1])⟩⟩
  have T0 := tw_start h1 hb
  clear hb hbw h1
  have hTl : (allToks s.data.toList).length ≤ 802 := by
    have h1 := toks_le (s.data.toList.length + 1) s.data.toList 0
    have h3 : s.data.toList.length = s.size := by simp
    unfold allToks
    omega
  have hs0 := s_cycle s.data.toList
  have hs2 := s_frame s.data.toList
  have hs4 := seesP_semi s.data.toList
  generalize w.heap.size + 1 = b at *
  have Hs0 := hide hs0
  have Hs2 := hide hs2
  have Hs4 := hide hs4
  clear hs0 hs2 hs4
  go_wp2_with fail
  refine (takeText_any T0.rs wCycle (by rw [ByteArray.toList_eq]; decide)).mono ?_
  rintro e w2 ⟨hg, hcase⟩
  rw [Hs0.out] at hcase
  have hgw := below_grown (grownBy_new T0.g hg (Nat.le_of_lt T0.h1))
  rcases hcase with ⟨h0, rfl⟩ | ⟨h0, h1, rfl⟩ | ⟨h0, h1, rfl⟩
  · exact ⟨rfl, hgw, .inl ⟨_, rfl, hd_no (by simp [hdOk, h0])⟩⟩
  · exact ⟨rfl, hgw, .inl ⟨_, rfl, hd_no (by simp at h1; simp [hdOk, h1])⟩⟩
  have F0 := hide h0
  have T1 := T0.call h1 hg
  clear hg hgw h0 h1 T0
  generalize w1.heap.size = X at *
  obtain ⟨x0, x1, x2, xf, y0, yf⟩ := T1.cells
  go_wp2_with fail
  clear x0 x1 x2 xf y0 yf
  refine (takeNumber_any T1.rs).mono ?_
  rintro e w3 ⟨hg, hcase⟩
  have hgw := below_grown (grownBy_new T1.g hg (Nat.le_of_lt T1.h1))
  rcases hcase with ⟨h0, rfl⟩ | ⟨h0, h1, rfl⟩ | ⟨h0, h1, rfl⟩
  · exact ⟨rfl, hgw, .inl ⟨_, rfl, hd_no (by simp at h0; simp [hdOk, h0])⟩⟩
  · exact ⟨rfl, hgw, .inl ⟨_, rfl, hd_no (by simp at h1; simp [hdOk, sees, h1])⟩⟩
  have F1 := hide h0
  have T2 := T1.call h1 hg
  clear hg hgw h0 h1 T1
  obtain ⟨x0, x1, x2, xf, y0, yf⟩ := T2.cells
  go_wp2_with fail
  clear x0 x1 x2 xf y0 yf
  have T2 := T2.set 0 (.int .i64 (tk (allToks s.data.toList) (0 + 1)).N) (c' := (tk (allToks s.data.toList) (0 + 1)).N) (f' := 0) rfl
  refine (takeText_any T2.rs wFrame (by rw [ByteArray.toList_eq]; decide)).mono ?_
  rintro e w4 ⟨hg, hcase⟩
  rw [Hs2.out] at hcase
  have hgw := below_grown (grownBy_new T2.g hg (Nat.le_of_lt T2.h1))
  rcases hcase with ⟨h0, rfl⟩ | ⟨h0, h1, rfl⟩ | ⟨h0, h1, rfl⟩
  · exact ⟨rfl, hgw, .inl ⟨_, rfl, hd_no (by simp at h0; simp [hdOk, h0])⟩⟩
  · exact ⟨rfl, hgw, .inl ⟨_, rfl, hd_no (by simp at h1; simp [hdOk, h1])⟩⟩
  have F2 := hide h0
  have T3 := T2.call h1 hg
  clear hg hgw h0 h1 T2
  obtain ⟨x0, x1, x2, xf, y0, yf⟩ := T3.cells
  go_wp2_with fail
  clear x0 x1 x2 xf y0 yf
  refine (takeNumber_any T3.rs).mono ?_
  rintro e w5 ⟨hg, hcase⟩
  have hgw := below_grown (grownBy_new T3.g hg (Nat.le_of_lt T3.h1))
  rcases hcase with ⟨h0, rfl⟩ | ⟨h0, h1, rfl⟩ | ⟨h0, h1, rfl⟩
  · exact ⟨rfl, hgw, .inl ⟨_, rfl, hd_no (by simp at h0; simp [hdOk, h0])⟩⟩
  · exact ⟨rfl, hgw, .inl ⟨_, rfl, hd_no (by simp at h1; simp [hdOk, h1])⟩⟩
  have F3 := hide h0
  have T4 := T3.call h1 hg
  clear hg hgw h0 h1 T3
  obtain ⟨x0, x1, x2, xf, y0, yf⟩ := T4.cells
  go_wp2_with fail
  clear x0 x1 x2 xf y0 yf
  have T4 := T4.set 1 (.int .i64 (tk (allToks s.data.toList) (0 + 1 + 1 + 1)).N) (c' := (tk (allToks s.data.toList) (0 + 1)).N) (f' := (tk (allToks s.data.toList) (0 + 1 + 1 + 1)).N) rfl
  refine (takeText_any T4.rs ⟨#[59]⟩ (by rw [ByteArray.toList_eq]; decide)).mono ?_
  rintro e w6 ⟨hg, hcase⟩
  rw [Hs4.out] at hcase
  have hgw := below_grown (grownBy_new T4.g hg (Nat.le_of_lt T4.h1))
  rcases hcase with ⟨h0, rfl⟩ | ⟨h0, h1, rfl⟩ | ⟨h0, h1, rfl⟩
  · exact ⟨rfl, hgw, .inl ⟨_, rfl, hd_no (by simp at h0; simp [hdOk, h0])⟩⟩
  · exact ⟨rfl, hgw, .inl ⟨_, rfl, pTab_x5 (by simpa using h1)⟩⟩
  have hhd : hdOk (allToks s.data.toList) = true := by
    have a0 := F0.out
    have a1 := F1.out
    have a2 := F2.out
    have a3 := F3.out
    simp only [Nat.zero_add, Nat.reduceAdd] at a0 a1 a2 a3 h0
    unfold hdOk
    rw [a0, a1, a2, a3, h0]; rfl
  have HS := hide (pfR_start hhd)
  have T5 := hide (T4.call h1 hg)
  clear hg hgw h0 h1 T4 F0 F1 F2 F3 hhd Hs0 Hs2 Hs4
  simp only [Nat.zero_add, Nat.reduceAdd] at T5
  simp only [Nat.zero_add, Nat.reduceAdd]
  generalize hcc : (tk (allToks s.data.toList) 1).N = c at *
  generalize hff : (tk (allToks s.data.toList) 3).N = f at *
  have Hc := hide hcc
  have Hf := hide hff
  clear hcc hff
  go_wp2_with fail
  go_loopw [21] (fun _ wr => ∃ (i : Nat) (P : List (Value × List Sl)) (fv : Value), TW w wr b X s i c f fv P ∧ PfR (allToks s.data.toList) i (P.map Prod.snd)) (fun _ wr => 900 - lenOf (wr.cell? ⟨X, 2, none⟩))
  case atStart => exact ⟨5, [], _, T5.out, HS.out⟩
  case round =>
    clear T5 HS
    obtain ⟨i, P, fv, hT, hR⟩ := hrel
    obtain ⟨fa, fc, rfl⟩ := own_slice hT.fm.1
    have hii := hT.rs.hi
    have hPl : P.length ≤ 802 := by have := hR.2.1; simp at this; omega
    have HL : Hid (lenOf (wr.cell? ⟨X, 2, none⟩) = P.length) := by
      unfold Hid
      rw [hT.cells.2.2.1]
      rfl
    obtain ⟨x0, x1, x2, xf, y0, yf⟩ := hT.cells
    have HT := hide hT
    have HR := hide hR
    clear hR
    go_wp2_with fail
    refine (seesEnd_any hT.rs).mono ?_
    clear hT
    rintro e w' ⟨rfl, hww⟩
    have hww := hww.symm
    subst hww
    cases hk : ((tk (allToks s.data.toList) i).k == 101)
    · have hk' : (tk (allToks s.data.toList) i).k ≠ 101 := by simpa using hk
      have Hk := hide hk'
      clear hk hk'
      go_wp2_with fail
      rcases dead_or (allToks s.data.toList) (pFrame (allToks s.data.toList) i) with hd | ⟨l, j, hl, hx⟩
      · have hbb := hide hd
        clear hd
        have hdr : RS 8 wr.drew b s i := HT.out.rs.keep rfl
        have Hdr := hide hdr
        clear hdr
        go_region_dies
        all_goals
          refine (takeFrame_bad Hdr.out hbb.out).mono ?_
          rintro e w9 ⟨⟨p, rfl⟩, hg⟩
          exact ⟨rfl, below_grown (grownBy_new (grownBy_drew HT.out.g) hg (Nat.le_of_lt HT.out.h1)), .inl ⟨p, rfl, pfR_dead HR.out Hk.out hbb.out⟩⟩
      · have Hl := hide hl
        have Hx := hide hx
        have HR2 := hide (pfR_more HR.out hl)
        clear hl hx
        have HTd : Hid (TW w wr.drew b X s i c f (.slice fa P.length fc) P) := HT.out.call (HT.out.rs.keep rfl) ⟨rfl, rfl, rfl, Nat.le_refl _, fun _ _ _ => rfl⟩
        have h1 := HT.out.h1
        have h2 := HT.out.h2
        go_region_law (first | (refine step_append_own rfl (.tmp 25) (.tmp 28) 59 rfl (b + 1) 104 it _ 1 24 Tryz.underlying59 hti htz0 htz1 htz2 rfl (by decide) _ _ _ rfl (fm9.1.alloc _) ⟨w9.heap.size, 0, none⟩ 1 1 [.slice la l.length lc] rfl rfl (cells_new w9 #[_] _ _ rfl) (by simp [Value.oneCell']) (by unfold maxLen; omega) (by omega) (by simp; omega) ?_; intro v' w10 hown10 hgr; have T10 := HT9.out.push hv9.out hgr hown10; have hX10 := HT9.out.grow hgr; have u1 := blk_cell hX10 2; have u2 := blk_frozen hX10 2; obtain ⟨fa', fc', rfl⟩ := own_slice hown10; have HT10 := hide T10; clear T10 hX10 hown10 hgr) | (go_simp; go_at_call 104; refine (takeFrame_good HTd.out.rs Hl.out Hx.out).mono ?_; rintro e w9 ⟨la, lc, rfl, hrs9, hg9, hv⟩; have T9 := HTd.out.call hrs9 hg9; obtain ⟨z0, z1, z2, z3, z4, z5⟩ := T9.cells; have HT9 := hide T9; have fm9 := T9.fm; have hl9 := blk_lt T9.hx; have hv9 := hide (own_weak (base' := b + 1) hv (by have := HT.out.rs.hi; have := blk_lt HT.out.rs.h; show b + 1 ≤ wr.heap.size; omega)); clear T9 hrs9 hg9 hv))
        all_goals
          go_wp2
          go_roundw
          case rel => exact ⟨j, P ++ [(.slice la l.length lc, l)], _, HT10.out, by rw [List.map_append]; exact HR2.out⟩
          case measure => rw [HL.out, HT10.out.cells.2.2.1]; show 900 - (P.length + 1) < 900 - P.length; omega
    · have hk' : (tk (allToks s.data.toList) i).k = 101 := by simpa using hk
      have hend := hide (pfR_end HR.out hii hk')
      rw [Hc.out, Hf.out] at hend
      clear hk hk'
      have h1 := HT.out.h1
      have h2 := HT.out.h2
      have hne1 : ¬ w.heap.size = X := by omega
      have hne2 : ¬ X = w.heap.size := by omega
      go_wp2
      refine bodyPost_ret (v := .agg #[.int .i64 c, .int .i64 f, .slice fa P.length fc]) (by simp [results, Tryz.results66, go_sem, y0]) rfl ⟨?_, .inr ⟨⟨c, f, P.map Prod.snd⟩, P, .slice fa P.length fc, hend.out, rfl, hPl, rfl, ?_⟩⟩
      · exact below_grown (grownBy_setNew (grownBy_setNew (grownBy_setNew HT.out.g (Nat.le_refl _) _ _) (Nat.le_refl _) _ _) (Nat.le_refl _) _ _)
      · have K : ∀ (W : World) (o : Nat) (v : Value), FrM W (b + 1) (.slice fa P.length fc) P → FrM (W.setCell ⟨w.heap.size, o, none⟩ v) (b + 1) (.slice fa P.length fc) P := fun W o v h => h.kept (grownBy_set (k := w.heap.size) (grownBy_refl _ _) o v) (fun k hk => .inl (by simp at hk; omega))
        have h3 := K _ 2 (.slice fa P.length fc) (K _ 1 (.int .i64 f) (K _ 0 (.int .i64 c) HT.out.fm))
        exact ⟨own_weak h3.1 (by omega), fun p hp => own_weak (h3.2 p hp) (by omega)⟩
end Go.Proofs.YtbdffcjganlblaaGreatDoor

namespace Go.Proofs.YtbdffcjganlblaaGreatDoor
open Go.RowKit
set_option linter.unusedVariables false
set_option linter.unusedSimpArgs false

def tsk (ts : List Tk) (k : Nat) : Tk := ts.getD k ⟨0, 0, 0, 0, 0, 0, 0, 0, 0, 0⟩
def psk (ps : List Pr) (k : Nat) : Pr := ps.getD k ⟨0, 0, false, 0, 0⟩

/-- The tasks lie in block g. -/
def RowT (w : World) (g : Nat) (ts : List Tk) : Prop := ∀ k, k < ts.length →
  w.cell? ⟨g, k * 10, none⟩ = some (.int .u8 (tsk ts k).nm.toNat) ∧ w.cell? ⟨g, k * 10 + 1, none⟩ = some (.int .i64 (tsk ts k).P) ∧ w.cell? ⟨g, k * 10 + 2, none⟩ = some (.int .i64 (tsk ts k).O) ∧
  w.cell? ⟨g, k * 10 + 3, none⟩ = some (.int .i64 (tsk ts k).C) ∧ w.cell? ⟨g, k * 10 + 4, none⟩ = some (.int .i64 (tsk ts k).D) ∧ w.cell? ⟨g, k * 10 + 5, none⟩ = some (.int .i64 (tsk ts k).q0) ∧
  w.cell? ⟨g, k * 10 + 6, none⟩ = some (.int .i64 (tsk ts k).q1) ∧ w.cell? ⟨g, k * 10 + 7, none⟩ = some (.int .i64 (tsk ts k).q2) ∧ w.cell? ⟨g, k * 10 + 8, none⟩ = some (.int .i64 (tsk ts k).q3) ∧ w.cell? ⟨g, k * 10 + 9, none⟩ = some (.int .i64 (tsk ts k).q4)
def RowP (w : World) (g : Nat) (ps : List Pr) : Prop := ∀ k, k < ps.length →
  w.cell? ⟨g, k * 5, none⟩ = some (.int .u8 (psk ps k).a.toNat) ∧ w.cell? ⟨g, k * 5 + 1, none⟩ = some (.int .u8 (psk ps k).b.toNat) ∧ w.cell? ⟨g, k * 5 + 2, none⟩ = some (.bool (psk ps k).ap) ∧
  w.cell? ⟨g, k * 5 + 3, none⟩ = some (.int .i64 (psk ps k).q0) ∧ w.cell? ⟨g, k * 5 + 4, none⟩ = some (.int .i64 (psk ps k).q1)

theorem RowT.below {w w' : World} {g B : Nat} {ts : List Tk} (h : RowT w g ts) (hb : Below B w w') (hg : g < B) : RowT w' g ts := by
  intro k hk
  have e : ∀ o, w'.cell? ⟨g, o, none⟩ = w.cell? ⟨g, o, none⟩ := fun o => hb.cell (p := ⟨g, o, none⟩) hg
  rw [e, e, e, e, e, e, e, e, e, e]
  exact h k hk
theorem RowP.below {w w' : World} {g B : Nat} {ps : List Pr} (h : RowP w g ps) (hb : Below B w w') (hg : g < B) : RowP w' g ps := by
  intro k hk
  have e : ∀ o, w'.cell? ⟨g, o, none⟩ = w.cell? ⟨g, o, none⟩ := fun o => hb.cell (p := ⟨g, o, none⟩) hg
  rw [e, e, e, e, e]
  exact h k hk

/-- The number of the first task from k on whose name is c; -1: none. -/
def findF (ts : List Tk) (c : UInt8) : Nat → Nat → Int
  | 0, _ => -1
  | f + 1, k => if (tsk ts k).nm = c then k else findF ts c f (k + 1)
def findI (ts : List Tk) (c : UInt8) : Int := findF ts c ts.length 0

end Go.Proofs.YtbdffcjganlblaaGreatDoor

namespace Go.Proofs.YtbdffcjganlblaaGreatDoor
open Go.RowKit
set_option linter.unusedVariables false
set_option linter.unusedSimpArgs false

def Tk.small (t : Tk) : Prop := t.P ≤ 9999 ∧ t.O ≤ 9999 ∧ t.C ≤ 9999 ∧ t.D ≤ 9999

def timedI (t : Tk) : Int :=
  if t.P < 1 ∨ 60 < t.P then t.q1
  else if t.P ≤ t.O then t.q2
  else if t.C < 1 ∨ (t.P : Int) - t.O < t.C then t.q3
  else if t.D < t.C ∨ (t.P : Int) - t.O < t.D then t.q4
  else -1

/-- The sooner of two faults. -/
def soon (f : Nat × Nat) (e at_ : Nat) : Nat × Nat := if f.1 = 0 ∨ at_ < f.2 then (e, at_) else f
def cycF (ts : List Tk) : Nat → Nat → Nat → Nat
  | 0, _, h => h
  | f + 1, k, h => if 60 < h / Nat.gcd h (tsk ts k).P * (tsk ts k).P then 0 else cycF ts f (k + 1) (h / Nat.gcd h (tsk ts k).P * (tsk ts k).P)
/-- The cycle; 0: it is above 60. -/
def cycI (ts : List Tk) : Nat := cycF ts ts.length 0 1

theorem lcm_pos (h P : Nat) (h1 : 1 ≤ h) (h2 : 1 ≤ P) : 1 ≤ h / Nat.gcd h P * P := by
  have hg : Nat.gcd h P ∣ h := Nat.gcd_dvd_left h P
  have : 1 ≤ h / Nat.gcd h P := Nat.div_pos (Nat.le_of_dvd (by omega) hg) (Nat.gcd_pos_of_pos_left P (by omega))
  calc 1 ≤ h / Nat.gcd h P := this
    _ ≤ h / Nat.gcd h P * P := Nat.le_mul_of_pos_right _ (by omega)

theorem w64 (n : Int) (h : -9223372036854775808 ≤ n ∧ n ≤ 9223372036854775807) : wrap64 n = n := by unfold wrap64; omega
theorem lcm_wrap (h d P : Nat) (h1 : h / d ≤ 60) (h2 : P ≤ 60) : wrap64 (wrap64 ((h : Int) / (d : Nat)) * P) = ((h / d * P : Nat) : Int) := by
  have e1 : (h : Int) / (d : Nat) = ((h / d : Nat) : Int) := by simp
  rw [e1]
  generalize h / d = q at *
  have hm : q * P ≤ 60 * 60 := Nat.mul_le_mul h1 h2
  have e2 : wrap64 (q : Int) = q := w64 _ (by omega)
  rw [e2]
  have e3 : ((q : Int) * P) = ((q * P : Nat) : Int) := by simp
  rw [e3]
  exact w64 _ (by omega)

end Go.Proofs.YtbdffcjganlblaaGreatDoor
