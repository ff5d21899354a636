/-
  Own work. The program's tables: parseBody.
-/
import Derived.Test.YtbdffcjganlblaaGreatDoorMTbCtoPrE
import Derived.Test.YtbdffcjganlblaaGreatDoorMProgMtoTbK
import Derived.Deep.DeepCutAuto
import Derived.RegionDies
import Derived.Test.YtbdffcjganlblaaGreatDoorMProgDtoProgE
import Derived.Defers
import Derived.Recover
namespace Go.Proofs.YtbdffcjganlblaaGreatDoor
open Go.RowKit
set_option linter.unusedVariables false
set_option linter.unusedSimpArgs false

section
variable {w wk : World} {b : Nat} {r : List UInt8}
theorem bframe_bad (h : BR w b r) (hd : bFrame r = none) : Calls Tryz.prog 110 #[.pointer (some ⟨b, 0, none⟩)] w fun en w' => en = pan 8 0 ∧ w.grownBy w' (some b) :=
  (bframe_any h).mono fun en w' h' => by
    obtain ⟨hg, ⟨_, rfl⟩ | ⟨f, r', a, c, h1, _⟩⟩ := h'
    · exact ⟨rfl, hg⟩
    · rw [hd] at h1; simp at h1
theorem bframe_good (h : BR w b r) {f : List Sl} {r' : List UInt8} (hl : bFrame r = some (f, r')) : Calls Tryz.prog 110 #[.pointer (some ⟨b, 0, none⟩)] w fun en w' => ∃ a c, en = .returned (.slice a f.length c) ∧ BR w' b r' ∧ w.grownBy w' (some b) ∧ w'.ownsRow w.heap.size 106 3 (.slice a f.length c) f.length (slPs f) :=
  (bframe_any h).mono fun en w' h' => by
    obtain ⟨hg, ⟨h1, _⟩ | ⟨f2, r2, a, c, h1, h2, rfl, h3⟩⟩ := h'
    · rw [hl] at h1; simp at h1
    · rw [hl] at h1
      simp at h1
      obtain ⟨rfl, rfl⟩ := h1
      exact ⟨a, c, rfl, h2, hg, h3⟩
end

/-- The memory of parseBody. -/
structure TVb (w wk : World) (b X : Nat) (r : List UInt8) (c f : Nat) (fv : Value) (P : List (Value × List Sl)) : Prop where
  br : BR wk b r
  hy : wk.heap[w.heap.size]? = some (.cells ptZ 61 (0, 0))
  hx : wk.heap[X]? = some (.cells #[.int .i64 c, .int .i64 f, fv] 61 (0, 0))
  fm : FrM wk (b + 1) fv P
  g : w.grownBy wk none
  h1 : w.heap.size < b
  h2 : b < X
section
variable {w wk : World} {b X : Nat} {r : List UInt8} {c f : Nat} {fv : Value} {P : List (Value × List Sl)}
theorem TVb.call (h : TVb w wk b X r c f fv P) {w' : World} {r' : List UInt8} (p : BR w' b r') (g : wk.grownBy w' (some b)) : TVb w w' b X r' c f fv P := by
  have h1 := h.h1
  have h2 := h.h2
  refine ⟨p, ?_, ?_, h.fm.kept g (fun k hk => .inl (by simp at hk; omega)), grownBy_new h.g g (by omega), h1, h2⟩
  · rw [g.block _ (blk_lt h.hy) (by simp; omega)]; exact h.hy
  · rw [g.block _ (blk_lt h.hx) (by simp; omega)]; exact h.hx
theorem TVb.cells (h : TVb w wk b X r c f fv P) : wk.cell? ⟨X, 0, none⟩ = some (.int .i64 c) ∧ wk.cell? ⟨X, 1, none⟩ = some (.int .i64 f) ∧ wk.cell? ⟨X, 2, none⟩ = some fv ∧ (∀ o, wk.frozen? ⟨X, o, none⟩ = false) ∧ (∀ o, wk.cell? ⟨w.heap.size, o, none⟩ = #[Value.int .i64 0, .int .i64 0, .slice none 0 0][o]?) ∧ (∀ o, wk.frozen? ⟨w.heap.size, o, none⟩ = false) :=
  ⟨by rw [blk_cell h.hx]; rfl, by rw [blk_cell h.hx]; rfl, by rw [blk_cell h.hx]; rfl, blk_frozen h.hx, blk_cell h.hy, blk_frozen h.hy⟩
theorem TVb.set (h : TVb w wk b X r c f fv P) (o : Nat) (v : Value) {c' f' : Nat} (hc : (#[Value.int .i64 c, .int .i64 f, fv].setIfInBounds o v) = #[.int .i64 c', .int .i64 f', fv]) : TVb w (wk.setCell ⟨X, o, none⟩ v) b X r c' f' fv P := by
  have h1 := h.h1
  have h2 := h.h2
  refine ⟨h.br.set (by omega) o v, ?_, by rw [blk_set h.hx, hc], h.fm.kept (grownBy_set (k := X) (grownBy_refl _ _) o v) (fun k hk => .inr ?_), grownBy_setNew h.g (by omega) o v, h1, h2⟩
  · rw [Below.heap_setCell _ _ _ _ (by show w.heap.size ≠ X; omega)]; exact h.hy
  · simp at hk
    subst hk
    exact ⟨_, _, h.hx, by decide, by decide⟩
theorem TVb.grow (h : TVb w wk b X r c f fv P) {o1 : Obj} {w2 : World} (hg : (wk.alloc o1).grownBy w2 fv.ownBlock) : w2.heap[X]? = some (.cells #[.int .i64 c, .int .i64 f, fv] 61 (0, 0)) := by
  have hX := blk_lt h.hx
  rw [hg.block X (by simp; omega) (fun e => own_type h.fm.1 h.hx (by decide) e.symm), Below.heap_alloc _ _ _ hX]
  exact h.hx
theorem TVb.push (h : TVb w wk b X r c f fv P) {o1 : Obj} {w2 : World} {v fv' : Value} {l : List Sl} (hv : wk.ownsRow (b + 1) 106 3 v l.length (slPs l)) (hg : (wk.alloc o1).grownBy w2 fv.ownBlock) (hown : w2.ownsRow (b + 1) 104 1 fv' (P.length + 1) (P.map Prod.fst ++ [v])) :
    TVb w (w2.setCell ⟨X, 2, none⟩ fv') b X r c f fv' (P ++ [(v, l)]) := by
  have h1 := h.h1
  have h2 := h.h2
  have hX := blk_lt h.hx
  have hX2 := h.grow hg
  have hlow : ∀ k, k < b + 1 → fv.ownBlock ≠ some k := fun k hk => own_ge h.fm.1 hk
  have hblk : ∀ k, k < b + 1 → w2.heap[k]? = wk.heap[k]? := by
    intro k hk
    rw [hg.block k (by simp; omega) (fun e => hlow k hk e.symm), Below.heap_alloc _ _ _ (by omega)]
  have fm1 : FrM (wk.alloc o1) (b + 1) fv P := h.fm.kept (World.grownBy_alloc wk o1 none) (fun k hk => by simp at hk)
  have fm2 := fm1.push (l := l) (hv.alloc o1) hg hown
  refine ⟨(h.br.keep (hblk b (by omega))).set (by omega) 2 fv', ?_, ?_, fm2.kept (grownBy_set (k := X) (grownBy_refl _ _) 2 fv') (fun k hk => .inr ?_), ?_, h1, h2⟩
  · rw [Below.heap_setCell _ _ _ _ (by show w.heap.size ≠ X; omega), hblk _ (by omega)]; exact h.hy
  · rw [blk_set hX2]; rfl
  · simp at hk
    subst hk
    exact ⟨_, _, hX2, by decide, by decide⟩
  · have hgw : w.grownBy w2 none := by
      have ha := grownBy_alloc' h.g o1
      refine ⟨hg.os.trans ha.os, hg.tape.trans ha.tape, hg.output.trans ha.output, Nat.le_trans ha.size hg.size, fun k hk hne => ?_⟩
      rw [hg.block k (by have := ha.size; omega) (fun e => hlow k (by omega) e.symm)]
      exact ha.block k hk hne
    exact grownBy_setNew hgw (by omega) _ _
end


theorem tv_start (w : World) (l : List UInt8) (hl : l.length ≤ 1000) : TVb w (((w.alloc (.cells ptZ 61)).alloc (.cells #[.string (bs l)] 158)).alloc (.cells #[.int .i64 0, .int .i64 0, .slice none 0 0] 61)) (w.heap.size + 1) (w.heap.size + 1 + 1) l 0 0 (.slice none 0 0) [] := by
  have hb := blk_new (w.alloc (.cells ptZ 61)) #[.string (bs l)] 158
  simp only [World.size_alloc] at hb
  have hx := blk_new ((w.alloc (.cells ptZ 61)).alloc (.cells #[.string (bs l)] 158)) #[.int .i64 0, .int .i64 0, .slice none 0 0] 61
  simp only [World.size_alloc] at hx
  refine ⟨⟨by rw [Below.heap_alloc _ _ _ (by simp)]; exact hb, hl⟩, ?_, hx, FrM.nil _ _, grownBy_alloc' (grownBy_alloc' (World.grownBy_alloc _ _ _) _) _, by omega, by omega⟩
  rw [Below.heap_alloc _ _ _ (by simp; omega), Below.heap_alloc _ _ _ (by simp)]
  exact blk_new _ _ _

def PbOut (l : List UInt8) (w : World) (en : Ending) (w' : World) : Prop :=
  Below w.heap.size w w' ∧ ((en = pan 8 0 ∧ bTab l = none) ∨
    (∃ (t : Tb) (P : List (Value × List Sl)) (a : Option Addr) (c : Nat), bTab l = some t ∧ t.fs = P.map Prod.snd ∧ P.length ≤ 1000 ∧ en = .returned (.agg #[.int .i64 t.cyc, .int .i64 t.fr, .slice a P.length c]) ∧ FrM w' w.heap.size (.slice a P.length c) P))
def BfR (r0 r : List UInt8) (fs : List (List Sl)) : Prop := fs.length + r.length ≤ r0.length ∧ bFr r0 = (match bFr r with | none => none | some gs => some (fs ++ gs))
theorem bfR_more {r0 r r' : List UInt8} {fs : List (List Sl)} {f : List Sl} (h : BfR r0 r fs) (hp : bFrame r = some (f, r')) : BfR r0 r' (fs ++ [f]) := by
  match r, hp with
  | c :: r1, hp =>
    have hp' : bSl c.toNat r1 = some (f, r') := hp
    have hl := bSl_len hp'
    refine ⟨by have := h.1; simp at this ⊢; omega, ?_⟩
    rw [h.2, bFr_on hp']
    cases bFr r' <;> simp
theorem bfR_dead {r0 r : List UInt8} {fs : List (List Sl)} (h : BfR r0 r fs) (hne : r ≠ []) (hp : bFrame r = none) : bFr r0 = none := by
  match r, hne, hp with
  | c :: r1, _, hp =>
    rw [h.2, bFr_no hp]

set_option maxRecDepth 100000 in
set_option maxHeartbeats 4000000 in
theorem parseBody_any (l : List UInt8) (w : World) (hl : l.length ≤ 1000) :
    Calls Tryz.prog 69 #[.string (bs l)] w (PbOut l w) := by
  obtain ⟨it, hti, htz0, htz1, htz2⟩ := info_parts Tryz.infoPFr
  have T0 := tv_start w l hl
  go_enter Tryz.func69, Tryz.ntmps69
  go_wp2_with fail
  refine (bnum_any T0.br).mono ?_
  rintro e w1 ⟨hg, ⟨rfl, rfl⟩ | ⟨c, r1, rfl, h1, rfl⟩⟩
  · exact ⟨rfl, below_grown (grownBy_new T0.g hg (Nat.le_of_lt T0.h1)), .inl ⟨rfl, rfl⟩⟩
  have T1 := T0.call h1 hg
  clear hg h1 T0
  generalize w.heap.size + 1 + 1 = X at *
  generalize w.heap.size + 1 = b at *
  obtain ⟨x0, x1, x2, xf, y0, yf⟩ := T1.cells
  go_wp2_with fail
  clear x0 x1 x2 xf y0 yf
  have T1 := T1.set 0 (.int .i64 (c.toNat : Int)) (c' := c.toNat) (f' := 0) rfl
  refine (bnum_any T1.br).mono ?_
  rintro e w2 ⟨hg, ⟨rfl, rfl⟩ | ⟨f, r2, rfl, h1, rfl⟩⟩
  · exact ⟨rfl, below_grown (grownBy_new T1.g hg (Nat.le_of_lt T1.h1)), .inl ⟨rfl, rfl⟩⟩
  have T2 := T1.call h1 hg
  clear hg h1 T1
  obtain ⟨x0, x1, x2, xf, y0, yf⟩ := T2.cells
  have T3 := hide (T2.set 1 (.int .i64 (f.toNat : Int)) (c' := c.toNat) (f' := f.toNat) rfl)
  have hbt : Hid (bTab (c :: f :: r2) = (match bFr r2 with | none => none | some fs => some ⟨c.toNat, f.toNat, fs⟩)) := rfl
  have hr2 : r2.length ≤ 998 := by simp at hl; omega
  clear T2 hl
  go_wp2_with fail
  clear x0 x1 x2 xf y0 yf
  go_loopw [14] (fun _ wr => ∃ (r : List UInt8) (P : List (Value × List Sl)) (fv : Value), TVb w wr b X r c.toNat f.toNat fv P ∧ BfR r2 r (P.map Prod.snd)) (fun _ wr => 1100 - lenOf (wr.cell? ⟨X, 2, none⟩))
  case atStart => exact ⟨r2, [], _, T3.out, by simp, by cases bFr r2 <;> simp⟩
  case round =>
    clear T3
    obtain ⟨r, P, fv, hT, hR⟩ := hrel
    obtain ⟨fa, fc, rfl⟩ := own_slice hT.fm.1
    have hPl : P.length ≤ 998 := by have := hR.1; simp at this; omega
    have HL : Hid (lenOf (wr.cell? ⟨X, 2, none⟩) = P.length) := by
      unfold Hid
      rw [hT.cells.2.2.1]
      rfl
    obtain ⟨x0, x1, x2, xf, y0, yf⟩ := hT.cells
    have b0 : wr.cell? ⟨b, 0, none⟩ = some (.string (bs r)) := blk_cell hT.br.h 0
    have HT := hide hT
    have HR := hide hR
    clear hR hT
    by_cases hre : r = []
    · have he : (bs r).toList.isEmpty = true := by rw [hre, ByteArray.toList_eq, bs_data]; rfl
      have hend : Hid (bTab (c :: f :: r2) = some ⟨c.toNat, f.toNat, P.map Prod.snd⟩) := by
        unfold Hid
        have := HR.out.2
        rw [hre, bFr_nil] at this
        rw [hbt.out, this]
        simp
      have h1 := HT.out.h1
      have h2 := HT.out.h2
      have hne1 : ¬ w.heap.size = X := by omega
      have hne2 : ¬ X = w.heap.size := by omega
      clear hre
      go_wp2
      refine bodyPost_ret (v := .agg #[.int .i64 c.toNat, .int .i64 f.toNat, .slice fa P.length fc]) (by simp [results, Tryz.results69, go_sem, y0]) rfl ⟨?_, .inr ⟨⟨c.toNat, f.toNat, P.map Prod.snd⟩, P, fa, fc, hend.out, rfl, by omega, rfl, ?_⟩⟩
      · exact below_grown (grownBy_setNew (grownBy_setNew (grownBy_setNew HT.out.g (Nat.le_refl _) _ _) (Nat.le_refl _) _ _) (Nat.le_refl _) _ _)
      · have K : ∀ (W : World) (o : Nat) (v : Value), FrM W (b + 1) (.slice fa P.length fc) P → FrM (W.setCell ⟨w.heap.size, o, none⟩ v) (b + 1) (.slice fa P.length fc) P := fun W o v h => h.kept (grownBy_set (k := w.heap.size) (grownBy_refl _ _) o v) (fun k hk => .inl (by simp at hk; omega))
        have h3 := K _ 2 (.slice fa P.length fc) (K _ 1 (.int .i64 f.toNat) (K _ 0 (.int .i64 c.toNat) HT.out.fm))
        exact ⟨own_weak h3.1 (by omega), fun p hp => own_weak (h3.2 p hp) (by omega)⟩
    · have he : (bs r).toList.isEmpty = false := by
        rw [ByteArray.toList_eq, bs_data]
        cases r with
        | nil => exact absurd rfl hre
        | cons a q => rfl
      have Hre := hide hre
      clear hre
      go_wp2_with fail
      cases hd : bFrame r with
      | none =>
        have hno : Hid (bTab (c :: f :: r2) = none) := by
          unfold Hid
          rw [hbt.out, bfR_dead HR.out Hre.out hd]
        have Hd := hide hd
        have Hdr : Hid (BR wr.drew b r) := HT.out.br.keep rfl
        clear hd
        go_region_dies
        all_goals
          refine (bframe_bad Hdr.out Hd.out).mono ?_
          rintro e w9 ⟨rfl, hg⟩
          exact ⟨rfl, below_grown (grownBy_new (grownBy_drew HT.out.g) hg (Nat.le_of_lt HT.out.h1)), .inl ⟨rfl, hno.out⟩⟩
      | some xx =>
        obtain ⟨q, r'⟩ := xx
        have Hd := hide hd
        have HR2 := hide (bfR_more HR.out hd)
        clear hd
        have HTd : Hid (TVb w wr.drew b X r c.toNat f.toNat (.slice fa P.length fc) P) := HT.out.call (HT.out.br.keep rfl) ⟨rfl, rfl, rfl, Nat.le_refl _, fun _ _ _ => rfl⟩
        have h1 := HT.out.h1
        have h2 := HT.out.h2
        go_region_law (first | (refine step_append_own rfl (.tmp 20) (.tmp 23) 59 rfl (b + 1) 104 it _ 1 24 Tryz.underlying59 hti htz0 htz1 htz2 rfl (by decide) _ _ _ rfl (fm9.1.alloc _) ⟨w9.heap.size, 0, none⟩ 1 1 [.slice la q.length lc] rfl rfl (cells_new w9 #[_] _ _ rfl) (by simp [Value.oneCell']) (by unfold maxLen; omega) (by omega) (by simp; omega) ?_; intro v' w10 hown10 hgr; have T10 := HT9.out.push hv9.out hgr hown10; have hX10 := HT9.out.grow hgr; have u1 := blk_cell hX10 2; have u2 := blk_frozen hX10 2; obtain ⟨fa', fc', rfl⟩ := own_slice hown10; have HT10 := hide T10; clear T10 hX10 hown10 hgr) | (go_simp; go_at_call 110; refine (bframe_good HTd.out.br Hd.out).mono ?_; rintro e w9 ⟨la, lc, rfl, hrs9, hg9, hv⟩; have T9 := HTd.out.call hrs9 hg9; obtain ⟨z0, z1, z2, z3, z4, z5⟩ := T9.cells; have HT9 := hide T9; have fm9 := T9.fm; have hl9 := blk_lt T9.hx; have hv9 := hide (own_weak (base' := b + 1) hv (by have := blk_lt HT.out.br.h; show b + 1 ≤ wr.heap.size; omega)); clear T9 hrs9 hg9 hv))
        all_goals
          go_wp2
          go_roundw
          case rel => exact ⟨r', P ++ [(.slice la q.length lc, q)], _, HT10.out, by rw [List.map_append]; exact HR2.out⟩
          case measure => rw [HL.out, HT10.out.cells.2.2.1]; show 1100 - (P.length + 1) < 1100 - P.length; omega
end Go.Proofs.YtbdffcjganlblaaGreatDoor

namespace Go.Proofs.YtbdffcjganlblaaGreatDoor
open Go.RowKit
set_option linter.unusedVariables false
set_option linter.unusedSimpArgs false

theorem refusal_is (v : Value) (w : World) : (Instr.typeAssert (.iface 101 v) 20 101 true).run Tryz.prog w = .ok (.tuple #[v, .bool true]) w := by
  simp [Instr.typeAssert, run_underlying Tryz.underlying101, go_sem, Result.andThen]

set_option maxRecDepth 100000 in
set_option maxHeartbeats 1000000 in
theorem reasonOf_any (e p own : Nat) (w : World) :
    Calls Tryz.prog 64 #[.iface 101 (.agg #[.int .i64 e, .int .i64 p]), .int .i64 own] w fun en w' => en = .returned (.agg #[.int .i64 e, .int .i64 p]) ∧ Below w.heap.size w w' := by
  have hta := refusal_is
  go_enter Tryz.func64, Tryz.ntmps64
  go_wp2
  refine bodyPost_ret (v := .agg #[.int .i64 e, .int .i64 p]) (by simp [results, Tryz.results64, go_sem]) rfl ⟨rfl, ?_⟩
  exact (below_new w _).alloc (by simp) _

theorem slots16 (o p q r v : Value) : (#[o, p, q, r] ++ ((Array.replicate 12 undef).setIfInBounds 2 v).setIfInBounds 0 v) = #[o, p, q, r, v, undef, v, undef, undef, undef, undef, undef, undef, undef, undef, undef] := rfl

/-- The three results' variables. -/
structure G3 (w : World) (b : Nat) (s : ByteArray) (e p : Nat) : Prop where
  h0 : w.heap[b]? = some (.cells #[.string s] 9 (0, 0))
  h1 : w.heap[b + 1]? = some (.cells #[.int .i64 e] 28 (0, 0))
  h2 : w.heap[b + 2]? = some (.cells #[.int .i64 p] 3 (0, 0))

theorem G3.keep {w w' : World} {b : Nat} {s : ByteArray} {e p : Nat} (h : G3 w b s e p) (hb : Below w.heap.size w w') : G3 w' b s e p :=
  ⟨blk_kept h.h0 hb, blk_kept h.h1 hb, blk_kept h.h2 hb⟩
theorem G3.drew {w : World} {b : Nat} {s : ByteArray} {e p : Nat} (h : G3 w b s e p) : G3 w.drew b s e p := ⟨h.h0, h.h1, h.h2⟩
theorem G3.set {w : World} {b : Nat} {s : ByteArray} {e p : Nat} (h : G3 w b s e p) (s' : ByteArray) (e' p' : Nat) :
    G3 (((w.setCell ⟨b, 0, none⟩ (.string s')).setCell ⟨b + 1, 0, none⟩ (.int .i64 e')).setCell ⟨b + 2, 0, none⟩ (.int .i64 p')) b s' e' p' := by
  refine ⟨?_, ?_, ?_⟩
  · rw [Below.heap_setCell _ _ _ _ (by simp), Below.heap_setCell _ _ _ _ (by simp)]
    exact blk_set h.h0 0 _
  · rw [Below.heap_setCell _ _ _ _ (by simp)]
    refine blk_set (c := #[.int .i64 e]) ?_ 0 _
    rw [Below.heap_setCell _ _ _ _ (by simp)]
    exact h.h1
  · refine blk_set (c := #[.int .i64 p]) ?_ 0 _
    rw [Below.heap_setCell _ _ _ _ (by simp), Below.heap_setCell _ _ _ _ (by simp)]
    exact h.h2

set_option maxRecDepth 100000 in
set_option maxHeartbeats 1000000 in
theorem catch_panicking (o own b e p : Nat) (w : World) (ho : w.cell? ⟨o, 0, none⟩ = some (.int .i64 own)) (h : G3 w b ⟨#[]⟩ 0 0) :
    CallsD Tryz.prog 63 #[.pointer (some ⟨o, 0, none⟩), .pointer (some ⟨b, 0, none⟩), .pointer (some ⟨b + 1, 0, none⟩), .pointer (some ⟨b + 2, 0, none⟩)] (.panicking [{ v := .iface 101 (.agg #[.int .i64 e, .int .i64 p]), recovered := false }]) w fun en u' w' =>
      en = .returned (.tuple #[]) ∧ u' = .panicking [{ v := .iface 101 (.agg #[.int .i64 e, .int .i64 p]), recovered := true }] ∧ G3 w' b ⟨#[]⟩ e p ∧ Below b w w' := by
  refine callsD_of_wpS Tryz.func63 rfl fun c₀ cs hu => ?_
  apply wpS_seq
  apply wpS_region
  simp [wpOpsS, go_sem, recoverD, hu, Tryz.ntmps63, Exit.thenS]
  refine wpS_of_wp ?_
  rw [slots16]
  generalize hQ : (fun (e_1 : Exit) (a' : Act) (w' : World) => bodyPostS _ _ _ _ _ e_1 a' _ w') = Q
  have HQ := hide hQ
  clear hQ hu
  go_wp2_with fail
  refine (reasonOf_any e p own w).mono ?_
  rintro en w1 ⟨rfl, hb1⟩
  have H1 := hide (h.keep hb1)
  have hl0 := blk_lt h.h0
  have hl1 := blk_lt H1.out.h0
  have hl2 := blk_lt H1.out.h1
  have hl3 := blk_lt H1.out.h2
  have HB1 := hide (hb1.mono (Nat.le_of_lt hl0))
  clear hb1 h
  have hX := blk_new w1 #[.int .i64 e, .int .i64 p] 101
  have H2 := hide (H1.out.keep (below_new w1 (.cells #[.int .i64 e, .int .i64 p] 101)))
  have HB2 := hide (HB1.out.alloc (Nat.le_of_lt hl1) (.cells #[.int .i64 e, .int .i64 p] 101))
  go_wp2_with fail
  generalize w1.alloc (.cells #[.int .i64 e, .int .i64 p] 101) = W at *
  generalize w1.heap.size = X at *
  have n0 : ¬ X = b := by omega
  have n1 : ¬ X = b + 1 := by omega
  have n2 : ¬ X = b + 2 := by omega
  have m0 : ¬ b = X := by omega
  have m1 : ¬ b + 1 = X := by omega
  have m2 : ¬ b + 2 = X := by omega
  have x0 := blk_cell hX
  have a0 := blk_cell H2.out.h0
  have a1 := blk_cell H2.out.h1
  have a2 := blk_cell H2.out.h2
  have f0 := blk_frozen H2.out.h0
  have f1 := blk_frozen H2.out.h1
  have f2 := blk_frozen H2.out.h2
  clear hX H1 HB1 hl0 hl1 hl2 hl3
  go_region
  all_goals
    rw [← HQ.out]
    refine ⟨rfl, _, rfl, .tuple #[], by simp [results, Tryz.results63], rfl, rfl, ?_, ?_⟩
    · exact (H2.out.set ⟨#[]⟩ e p).drew
    · exact (((HB2.out.setCell (p := ⟨b, 0, none⟩) (Nat.le_refl _) _).setCell (p := ⟨b + 1, 0, none⟩) (Nat.le_add_right _ _) _).setCell (p := ⟨b + 2, 0, none⟩) (Nat.le_add_right _ _) _).drew

set_option maxRecDepth 100000 in
set_option maxHeartbeats 1000000 in
theorem catch_idle (o a b c : Value) (w : World) :
    CallsD Tryz.prog 63 #[o, a, b, c] .returning w fun en u' w' => en = .returned (.tuple #[]) ∧ u' = .returning ∧ w' = w := by
  refine callsD_of_wpS Tryz.func63 rfl fun c₀ cs hu => ?_
  apply wpS_seq
  apply wpS_region
  simp [wpOpsS, go_sem, recoverD, hu, Tryz.ntmps63, Exit.thenS]
  refine wpS_of_wp ?_
  rw [slots16]
  generalize hQ : (fun (e_1 : Exit) (a' : Act) (w' : World) => bodyPostS _ _ _ _ _ e_1 a' _ w') = Q
  have HQ := hide hQ
  clear hQ
  go_wp2
  rw [← HQ.out]
  cases c₀
  simp_all [bodyPostS, results, Tryz.results63]


theorem G3.new (w : World) (own : Nat) : G3 ((((w.alloc (.cells #[.int .i64 own] 28)).alloc (.cells #[.string ⟨#[]⟩] 9)).alloc (.cells #[.int .i64 0] 28)).alloc (.cells #[.int .i64 0] 3)) (w.heap.size + 1) ⟨#[]⟩ 0 0 := by
  refine ⟨?_, ?_, ?_⟩
  · rw [Below.heap_alloc _ _ _ (by simp only [World.size_alloc]; omega), Below.heap_alloc _ _ _ (by simp only [World.size_alloc]; omega)]
    simpa using blk_new (w.alloc (.cells #[.int .i64 own] 28)) #[.string ⟨#[]⟩] 9
  · rw [Below.heap_alloc _ _ _ (by simp only [World.size_alloc]; omega)]
    simpa using blk_new ((w.alloc (.cells #[.int .i64 own] 28)).alloc (.cells #[.string ⟨#[]⟩] 9)) #[.int .i64 0] 28
  · simpa using blk_new (((w.alloc (.cells #[.int .i64 own] 28)).alloc (.cells #[.string ⟨#[]⟩] 9)).alloc (.cells #[.int .i64 0] 28)) #[.int .i64 0] 3
theorem own_new (w : World) (own : Nat) : ((((w.alloc (.cells #[.int .i64 own] 28)).alloc (.cells #[.string ⟨#[]⟩] 9)).alloc (.cells #[.int .i64 0] 28)).alloc (.cells #[.int .i64 0] 3)).heap[w.heap.size]? = some (.cells #[.int .i64 own] 28 (0, 0)) := by
  rw [Below.heap_alloc _ _ _ (by simp only [World.size_alloc]; omega), Below.heap_alloc _ _ _ (by simp only [World.size_alloc]; omega), Below.heap_alloc _ _ _ (by simp only [World.size_alloc]; omega)]
  exact blk_new _ _ _
theorem below_four (w : World) (a b c d : Obj) : Below w.heap.size w ((((w.alloc a).alloc b).alloc c).alloc d) :=
  (((below_new w a).alloc (by simp only [World.size_alloc]; omega) b).alloc (by simp only [World.size_alloc]; omega) c).alloc (by simp only [World.size_alloc]; omega) d

/-- What the guarded work comes to; what guard then answers. -/
def WorkOut (E : Nat × Nat → Prop) (R : List UInt8 → Prop) (w : World) (en : Ending) (w' : World) : Prop :=
  Below w.heap.size w w' ∧ ((∃ f, E f ∧ en = pan f.1 f.2) ∨ (∃ x, R x ∧ en = .returned (.string (bs x))))
def GOutG (E : Nat × Nat → Prop) (R : List UInt8 → Prop) (w : World) (en : Ending) (w' : World) : Prop :=
  Below w.heap.size w w' ∧ ((∃ f, E f ∧ en = .returned (.tuple #[.string ⟨#[]⟩, .int .i64 f.1, .int .i64 f.2])) ∨ (∃ x, R x ∧ en = .returned (.tuple #[.string (bs x), .int .i64 0, .int .i64 0])))

set_option maxRecDepth 100000 in
set_option maxHeartbeats 1000000 in
theorem guard_write (own : Nat) (ev : Int) (hev : ev = own) (b : Nat) (w : World) (E : Nat × Nat → Prop) (R : List UInt8 → Prop)
    (hw : ∀ W, Below w.heap.size w W → Calls Tryz.prog 31 #[.pointer (some ⟨b, 0, none⟩)] W (WorkOut E R W)) :
    Calls Tryz.prog 30 #[.int .i64 ev, .func (.func 31) #[] #[.pointer (some ⟨b, 0, none⟩)]] w (GOutG E R w) := by
  subst hev
  have hmf : ∀ (fn : Fn) (first cap : Array Value) (w : World), (Instr.makeFunc fn first cap).run Tryz.prog w = .ok (.func fn first cap) w := fun _ _ _ _ => rfl
  have HN := hide (G3.new w own)
  have HO := hide (own_new w own)
  have HB0 := hide (below_four w (.cells #[.int .i64 own] 28) (.cells #[.string ⟨#[]⟩] 9) (.cells #[.int .i64 0] 28) (.cells #[.int .i64 0] 3))
  have Hw := hide hw
  clear hw
  go_enter_defers Tryz.func30, Tryz.ntmps30
  go_wp2_with fail
  generalize (((w.alloc (.cells #[.int .i64 own] 28)).alloc (.cells #[.string ⟨#[]⟩] 9)).alloc (.cells #[.int .i64 0] 28)).alloc (.cells #[.int .i64 0] 3) = W at *
  refine (Hw.out W HB0.out).mono ?_
  rintro e w1 ⟨hb1, hcase⟩
  have HG1 := hide (HN.out.keep hb1)
  have HO1 := hide (blk_kept HO.out hb1)
  have HB1 := hide (HB0.out.trans (hb1.mono HB0.out.size))
  clear hb1
  rcases hcase with ⟨f, hf, rfl⟩ | ⟨x, hR, rfl⟩
  · refine leaves_cons (f := 63) (args := #[.pointer (some ⟨w.heap.size, 0, none⟩), .pointer (some ⟨w.heap.size + 1, 0, none⟩), .pointer (some ⟨w.heap.size + 1 + 1, 0, none⟩), .pointer (some ⟨w.heap.size + 1 + 2, 0, none⟩)]) (by simp) (by simp [go_sem]) ?_
    refine (catch_panicking w.heap.size own (w.heap.size + 1) f.1 f.2 w1 (by rw [blk_cell HO1.out]; rfl) HG1.out).mono ?_
    rintro e u' w'' ⟨rfl, rfl, hG, hB⟩
    have c0 := blk_cell hG.h0
    have c1 := blk_cell hG.h1
    have c2 := blk_cell hG.h2
    simp [Leaves, settle, results, Tryz.results30, go_sem, c0, c1, c2]
    exact ⟨HB1.out.trans (hB.mono (Nat.le_succ _)), .inl ⟨f, hf, rfl⟩⟩
  · have a0 := blk_cell HG1.out.h0
    have a1 := blk_cell HG1.out.h1
    have a2 := blk_cell HG1.out.h2
    have f0 := blk_frozen HG1.out.h0
    have f1 := blk_frozen HG1.out.h1
    have f2 := blk_frozen HG1.out.h2
    have HR := hide hR
    clear hR
    go_wp2
    refine leaves_cons (f := 63) (args := #[.pointer (some ⟨w.heap.size, 0, none⟩), .pointer (some ⟨w.heap.size + 1, 0, none⟩), .pointer (some ⟨w.heap.size + 1 + 1, 0, none⟩), .pointer (some ⟨w.heap.size + 1 + 2, 0, none⟩)]) (by simp) (by simp [go_sem]) ?_
    refine (catch_idle _ _ _ _ _).mono ?_
    rintro e u' w'' ⟨rfl, rfl, rfl⟩
    have hG : G3 (((w1.setCell ⟨w.heap.size + 1, 0, none⟩ (.string (bs x))).setCell ⟨w.heap.size + 1 + 1, 0, none⟩ (.int .i64 0)).setCell ⟨w.heap.size + 1 + 2, 0, none⟩ (.int .i64 0)) (w.heap.size + 1) (bs x) 0 0 := HG1.out.set (bs x) 0 0
    have HB := ((HB1.out.setCell (p := ⟨w.heap.size + 1, 0, none⟩) (Nat.le_add_right _ _) (.string (bs x))).setCell (p := ⟨w.heap.size + 1 + 1, 0, none⟩) (Nat.le_trans (Nat.le_succ _) (Nat.le_succ _)) (.int .i64 0)).setCell (p := ⟨w.heap.size + 1 + 2, 0, none⟩) (Nat.le_trans (Nat.le_succ _) (Nat.le_add_right _ _)) (.int .i64 0)
    generalize ((w1.setCell ⟨w.heap.size + 1, 0, none⟩ (.string (bs x))).setCell ⟨w.heap.size + 1 + 1, 0, none⟩ (.int .i64 0)).setCell ⟨w.heap.size + 1 + 2, 0, none⟩ (.int .i64 0) = w2 at *
    have c0 := blk_cell hG.h0
    have c1 := blk_cell hG.h1
    have c2 := blk_cell hG.h2
    simp [Leaves, settle, results, Tryz.results30, go_sem, c0, c1, c2]
    exact ⟨HB, .inr ⟨x, HR.out, rfl⟩⟩

end Go.Proofs.YtbdffcjganlblaaGreatDoor
