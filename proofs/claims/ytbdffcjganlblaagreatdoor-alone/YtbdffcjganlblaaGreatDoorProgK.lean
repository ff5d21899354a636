/-
  Own work. The program: readSet; digits, line, a pair's tokens.
-/
import Derived.Test.YtbdffcjganlblaaGreatDoorShelf
namespace Go.Proofs.YtbdffcjganlblaaGreatDoor
open Go.RowKit
set_option linter.unusedVariables false
set_option linter.unusedSimpArgs false

theorem own_cap {w : World} {base : Nat} {e : TypeId} {size : Nat} {a : Option Addr} {n c : Nat} {xs : List Value} (h : w.ownsRow base e size (.slice a n c) n xs) : n ≤ c := by
  rcases h.2 with ⟨h1, h0⟩ | ⟨g, cap, cur, h1, _, _, _, h2, _⟩
  · omega
  · injection h1 with _ _ e3
    omega

theorem hpp_of {w : World} {base : Nat} {ps : List Pr} {pa : Option Addr} {pc : Nat} (h : w.ownsRow base 175 5 (.slice pa ps.length pc) ps.length (ppRow ps)) :
    0 < ps.length → ∃ gp, pa = some ⟨gp, 0, none⟩ ∧ gp < w.heap.size ∧ RowPP w gp ps := by
  intro hn
  obtain ⟨g, cap, e, h1, h2⟩ := own_form h hn
  injection e with e1 e2 e3
  subst e1
  exact ⟨g, rfl, h2, rowPP_own h⟩

theorem RowPT.keep {w w' : World} {g : Nat} {ts : List (Tk × Nat)} (h : RowPT w g ts) (hb : w'.heap[g]? = w.heap[g]?) : RowPT w' g ts := by
  intro k hk
  have e : ∀ o, w'.cell? ⟨g, o, none⟩ = w.cell? ⟨g, o, none⟩ := fun o => by simp only [World.cell?, hb]
  rw [e, e, e, e, e, e, e, e, e, e]
  exact h k hk
theorem RowPP.keep {w w' : World} {g : Nat} {ts : List Pr} (h : RowPP w g ts) (hb : w'.heap[g]? = w.heap[g]?) : RowPP w' g ts := by
  intro k hk
  have e : ∀ o, w'.cell? ⟨g, o, none⟩ = w.cell? ⟨g, o, none⟩ := fun o => by simp only [World.cell?, hb]
  rw [e, e, e, e, e]
  exact h k hk

/-- What readSet answers. -/
def ReadOut (s : ByteArray) (w : World) (en : Ending) (w' : World) : Prop :=
  Below w.heap.size w w' ∧
  ((400 < s.size ∧ en = pan 1 0) ∨
   (s.size ≤ 400 ∧ ∃ j, pSet (allToks s.data.toList) = .error j ∧ en = pan 2 (tk (allToks s.data.toList) j).at_) ∨
   (s.size ≤ 400 ∧ ∃ l ps, pSet (allToks s.data.toList) = .ok (l.map Prod.fst, ps) ∧ ZOk l ∧
     ((∃ f, checkR l ps = some f ∧ en = pan f.1 f.2) ∨
      (checkR l ps = none ∧ ∃ g cap pa pc, en = .returned (.agg #[.slice (some ⟨g, 0, none⟩) l.length cap, .slice pa ps.length pc]) ∧ l.length ≤ cap ∧ g < w'.heap.size ∧ RowPT w' g l ∧ (0 < ps.length → ∃ gp, pa = some ⟨gp, 0, none⟩ ∧ gp < w'.heap.size ∧ RowPP w' gp ps)))))

set_option maxRecDepth 100000 in
set_option maxHeartbeats 1000000 in
theorem readSet_any (s : ByteArray) (w : World) (hm : s.size ≤ 9223372036854775807) :
    Calls Tryz.prog 50 #[.string s] w (ReadOut s w) := by
  have hB0 := hide (below_new w (.cells #[.slice none 0 0, .slice none 0 0] 84))
  have hX0 := hide (blk_new w #[.slice none 0 0, .slice none 0 0] 84)
  go_enter Tryz.func50, Tryz.ntmps50
  by_cases hl : 400 < s.size
  · have hl' : (400 : Int) < s.size := by omega
    go_wp2_with fail
    refine (refuse_any 1 0 _ rfl _).mono ?_
    rintro e w' ⟨rfl, rfl⟩
    exact ⟨rfl, hB0.out, .inl ⟨hl, rfl⟩⟩
  · have hl' : ¬ (400 : Int) < s.size := by omega
    have hs4 : s.size ≤ 400 := by omega
    go_wp2_with fail
    refine (parseSet_any s _ hs4).mono ?_
    rintro e w1 ⟨hb1, hcase⟩
    have hB1 := hB0.out.trans (hb1.mono (by simp))
    have hX1 := blk_keep hX0.out hb1
    rcases hcase with ⟨j, hj, rfl⟩ | ⟨l, ps, tv, pv, hj, hz, rfl, ht, hp⟩
    · exact ⟨rfl, hB1, .inr (.inl ⟨hs4, j, hj, rfl⟩)⟩
    obtain ⟨b1, b2, b3, b4⟩ := pSet_bounds hj
    have hn1 : 1 ≤ l.length := by simpa using b2
    have hn6 : l.length ≤ 6 := by simpa using b3
    obtain ⟨g, cap, rfl, hg1, hg2⟩ := own_form ht (by omega)
    obtain ⟨pa, pc, rfl⟩ := own_slice hp
    have hcap := own_cap ht
    have hsm : Hid (∀ k, k < l.length → (lk l k).1.small) := by
      intro k hk
      rw [lk_fst]
      exact b1 _ (tsk_mem (by simpa using hk))
    have HR := hide (rowPT_own ht)
    have HP := hide (hpp_of hp)
    have hpne : Hid (pa ≠ some ⟨w.heap.size, 0, none⟩) := by
      intro e
      subst e
      exact own_ge hp (k := w.heap.size) (by simp) rfl
    have hgne : w.heap.size ≠ g := by simp at hg1; omega
    have HB := hide hB1
    have HX := hide hX1
    have hsz := hB1.size
    have hxl := blk_lt hX1
    have Hj := hide hj
    have Hz := hide hz
    clear hb1 hB1 hX1 ht hp hj hz b1 b2 b3
    have x0 := blk_cell HX.out
    have xf := blk_frozen HX.out
    have hY := hide (blk_new w1 #[.slice (some ⟨g, 0, none⟩) l.length cap, .slice pa ps.length pc] 84)
    go_wp2_with fail
    refine (check_any l ps g cap pa pc _ (by simp; omega) (HR.out.below (below_new w1 _) hg2) hcap hn6 hsm.out Hz.out b4 (by
      intro hn
      obtain ⟨gp, e1, e2, e3⟩ := HP.out hn
      exact ⟨gp, e1, by simp; omega, e3.below (below_new w1 _) e2⟩) _ rfl).mono ?_
    rintro e w2 ⟨hb2, hcase⟩
    have hB2 := (HB.out.alloc hsz _).trans (hb2.mono (by simp; omega))
    rcases hcase with ⟨f, hf, rfl⟩ | ⟨hf, rfl⟩
    · exact ⟨rfl, hB2, .inr (.inr ⟨hs4, l, ps, Hj.out, Hz.out, .inl ⟨f, hf, rfl⟩⟩)⟩
    have hX2 : w2.heap[w.heap.size]? = some (.cells #[.slice none 0 0, .slice none 0 0] 84 (0, 0)) := by
      refine blk_keep ?_ hb2
      rw [Below.heap_alloc _ _ _ hxl]
      exact HX.out
    have hY2 := blk_keep hY.out hb2
    have x2 := blk_cell hX2
    have f2 := blk_frozen hX2
    have y2 := blk_cell hY2
    have yl := blk_lt hY2
    have hbn := below_new w1 (.cells #[.slice (some ⟨g, 0, none⟩) l.length cap, .slice pa ps.length pc] 84)
    have hR2 := hide ((HR.out.below hbn hg2).below hb2 (by simp; omega))
    have hP2 : Hid (0 < ps.length → ∃ gp, pa = some ⟨gp, 0, none⟩ ∧ gp < w2.heap.size ∧ gp < w1.heap.size ∧ RowPP w2 gp ps) := by
      intro hn
      obtain ⟨gp, e1, e2, e3⟩ := HP.out hn
      exact ⟨gp, e1, by omega, e2, (e3.below hbn e2).below hb2 (by simp; omega)⟩
    have Hf := hide hf
    have HB2 := hide hB2
    have HX2 := hide hX2
    have hg3 : g < w2.heap.size := by omega
    clear hb2 hB2 hf hX2 hY2 hbn x0 xf HR HP
    go_wp2
    have hk : ∀ (k : Nat), w.heap.size ≠ k → ∀ u v, ((w2.setCell ⟨w.heap.size, 0, none⟩ u).setCell ⟨w.heap.size, 1, none⟩ v).heap[k]? = w2.heap[k]? := by
      intro k hne u v
      rw [Below.heap_setCell _ _ _ _ (fun e => hne e.symm), Below.heap_setCell _ _ _ _ (fun e => hne e.symm)]
    refine bodyPost_ret (v := .agg #[.slice (some ⟨g, 0, none⟩) l.length cap, .slice pa ps.length pc]) (by simp [results, Tryz.results50, go_sem, x2]) rfl ⟨?_, .inr (.inr ⟨hs4, l, ps, Hj.out, Hz.out, .inr ⟨Hf.out, g, cap, pa, pc, rfl, hcap, ?_, hR2.out.keep (hk g hgne _ _), ?_⟩⟩)⟩
    · exact (HB2.out.setCell (Nat.le_refl _) _).setCell (Nat.le_refl _) _
    · rw [heap_set_size, heap_set_size]; exact hg3
    · intro hn
      obtain ⟨gp, e1, e2, _, e4⟩ := hP2.out hn
      subst e1
      refine ⟨gp, rfl, by rw [heap_set_size, heap_set_size]; exact e2, e4.keep (hk gp ?_ _ _)⟩
      intro e
      exact hpne.out (by rw [e])

set_option maxHeartbeats 400000 in
theorem digits_any (n q : Nat) (w : World) (hn : n < 100) :
    Calls Tryz.prog 158 #[.agg #[.int .i64 n, .int .i64 q]] w fun e w' => e = .returned (.string (dB n)) ∧ w' = w.alloc (.cells #[.int .i64 n, .int .i64 q] 145) := by
  go_enter Tryz.func158, Tryz.ntmps158
  go_wp2_with fail
  refine (itoa_any n _ hn).mono ?_
  rintro e w' ⟨rfl, rfl⟩
  go_wp2
  go_ret
  exact ⟨rfl, rfl⟩

theorem addr_add (g j : Nat) : (⟨g, 0 + j, none⟩ : Addr) = (⟨g, 0, none⟩ : Addr).add j := by simp [Addr.add]

/-- A line's words, as a slice of strings of the call's own. -/
def TokOut (xs : List ByteArray) (w : World) (e : Ending) (w' : World) : Prop :=
  Below w.heap.size w w' ∧ ∃ g c, e = .returned (.slice (some ⟨g, 0, none⟩) xs.length c) ∧ g < w'.heap.size ∧ xs.length ≤ c ∧ ∀ j x, xs[j]? = some x → w'.cell? ⟨g, 0 + j, none⟩ = some (.string x)

set_option maxHeartbeats 400000 in
theorem line_any (g c : Nat) (xs : List ByteArray) (w : World) (hx : ∀ j x, xs[j]? = some x → w.cell? ⟨g, 0 + j, none⟩ = some (.string x)) (hg : g < w.heap.size) (hN : xs.length ≤ 10) (hc : xs.length ≤ c) (J : List UInt8) (hJ : Lib.join (xs.map (·.data.toList)) [32] = J) (hl : J.length ≤ 100) :
    Calls Tryz.prog 131 #[.slice (some ⟨g, 0, none⟩) xs.length c] w fun e w' => e = .returned (.string (bs (J ++ [59, 10]))) ∧ Below w.heap.size w w' := by
  have hJ' : Lib.join (xs.map (·.data.toList)) (ByteArray.mk #[32]).data.toList = J := hJ
  have Hj := hide (join_any g 0 c xs ⟨#[32]⟩ w hx hg (by omega) hc (by rw [hJ']; omega))
  rw [hJ'] at Hj
  clear hJ' hJ hx
  obtain ⟨X1, a1, z1, e1⟩ := add_named ⟨J.toArray⟩ ⟨#[59, 10]⟩ (by simp [ByteArray.size]; omega)
  have hX : Hid (X1 = bs (J ++ [59, 10])) := by
    unfold Hid
    rw [← bs_list X1, e1]
  clear z1 e1
  go_enter Tryz.func131, Tryz.ntmps131
  go_wp2_with fail
  refine Hj.out.mono ?_
  rintro e w' ⟨rfl, hb⟩
  have Hb := hide hb
  clear hb Hj
  go_wp2
  go_ret
  exact ⟨by rw [hX.out]; rfl, Hb.out⟩

set_option maxHeartbeats 400000 in
theorem pairTokens_any (p : Pr) (w : World) :
    Calls Tryz.prog 133 #[.agg #[.string (bs (pW p)), .string (bs [p.a]), .int .i64 p.q0, .string (bs [p.b]), .int .i64 p.q1]] w (TokOut [bs (pW p), bs [p.a], bs [p.b]] w) := by
  go_enter Tryz.func133, Tryz.ntmps133
  go_wp2
  go_ret
  refine ⟨((below_new w _).alloc (by simp) _), w.heap.size + 1, 3, ?_, by simp, by simp, ?_⟩
  · simp
  · intro j x hj
    rw [addr_add]
    refine cells_new (w.alloc _) #[.string (bs (pW p)), .string (bs [p.a]), .string (bs [p.b])] 9 (w.heap.size + 1) (by simp) j _ ?_
    match j, hj with
    | 0, hj => simp at hj; subst hj; rfl
    | 1, hj => simp at hj; subst hj; rfl
    | 2, hj => simp at hj; subst hj; rfl
    | j + 3, hj => simp at hj
end Go.Proofs.YtbdffcjganlblaaGreatDoor
