/-
  Own work. The program's tables: pack.
-/
import Derived.Test.YtbdffcjganlblaaGreatDoorTbEtoTbF
import Derived.Test.YtbdffcjganlblaaGreatDoorTbItoTabD
import Derived.Test.YtbdffcjganlblaaGreatDoorRefXtoRefX
import Derived.Deep.RegionWith
import Derived.Test.YtbdffcjganlblaaGreatDoorTbBtoTbC
import Derived.Test.YtbdffcjganlblaaGreatDoorPnKtoTbD
import Derived.Deep.DeepCutAuto
import Derived.RegionDies
namespace Go.Proofs.YtbdffcjganlblaaGreatDoor
open Go.RowKit
set_option linter.unusedVariables false
set_option linter.unusedSimpArgs false

theorem Tryz.infoU8 : (Tryz.prog.info? 5).map (fun i => (i.zero, i.size, i.bytes)) = some (some (.int .u8 0), 1, 1) := by kernel_rfl
def bV (l : List UInt8) : List Value := l.map (fun c => Value.int .u8 (c.toNat : Int))
theorem bV_app (a b : List UInt8) : bV (a ++ b) = bV a ++ bV b := by simp [bV]
/-- The memory of pack. -/
structure PK (w wr : World) (tv : Array Value) (v : Value) (L : List UInt8) : Prop where
  hx : wr.heap[w.heap.size]? = some (.cells tv 61 (0, 0))
  ow : wr.ownsRow (w.heap.size + 1) 5 1 v L.length (bV L)
  bel : Below w.heap.size w wr
theorem PK.call {w wr : World} {tv : Array Value} {v : Value} {L : List UInt8} (h : PK w wr tv v L) {w' : World} (hb : Below wr.heap.size wr w') : PK w w' tv v L :=
  ⟨blk_keep h.hx hb, owns_below h.ow hb, h.bel.trans (hb.mono h.bel.size)⟩
theorem PK.push {w wr : World} {tv : Array Value} {v v' : Value} {L M : List UInt8} (h : PK w wr tv v L) {w2 : World} (hg : wr.grownBy w2 v.ownBlock) {n : Nat} {xs : List Value} (hown : w2.ownsRow (w.heap.size + 1) 5 1 v' n xs) (hn : n = (L ++ M).length) (hxs : xs = bV (L ++ M)) : PK w w2 tv v' (L ++ M) := by
  subst hn hxs
  refine ⟨by rw [hg.block _ (blk_lt h.hx) (fun e => own_ge h.ow (Nat.lt_succ_self _) e.symm)]; exact h.hx, hown, ?_⟩
  exact h.bel.grown hg h.bel.size (fun k hk => by
    have := (h.ow.lt k hk).1
    omega)

set_option maxRecDepth 100000 in
set_option maxHeartbeats 2000000 in
theorem pack_any (t : Tb) (a : Option Addr) (cc : Nat) (w : World) (hr : FvA w a t.fs) (hS : Sound t) :
    Calls Tryz.prog 33 #[.agg #[.int .i64 t.cyc, .int .i64 t.fr, .slice a t.fs.length cc]] w fun e w' => e = .returned (.string (bs (bodyB t ++ sumL (bodyB t)))) ∧ Below w.heap.size w w' := by
  obtain ⟨RR, hRR⟩ : ∃ RR, bs (bodyB t ++ sumL (bodyB t)) = RR := ⟨_, rfl⟩
  rw [hRR]
  have HRR := hide hRR
  clear hRR
  obtain ⟨i0, hi, hz0, hz1, hz2⟩ := info_parts Tryz.infoU8
  obtain ⟨hf1, hf2, hn1, hn2, hfl⟩ := hS.frames
  have hc2 := hS.c2
  have hblen := bodyB_len hS
  have Hsm := hide hS.small
  have Hr := hide hr
  clear hr hS
  have hx0 := blk_new w #[.int .i64 t.cyc, .int .i64 t.fr, .slice a t.fs.length cc] 61
  have H0 : Hid (PK w ((w.alloc (.cells #[.int .i64 t.cyc, .int .i64 t.fr, .slice a t.fs.length cc] 61)).alloc (.cells #[.int .u8 t.cyc, .int .u8 t.fr] 5)) #[.int .i64 t.cyc, .int .i64 t.fr, .slice a t.fs.length cc] (.slice (some ⟨w.heap.size + 1, 0, none⟩) 2 2) [u8 t.cyc, u8 t.fr]) := by
    refine ⟨by rw [Below.heap_alloc _ _ _ (by simp)]; exact blk_new _ _ _, ?_, (below_new w _).alloc (by simp) _⟩
    have := World.ownsRow_lit (base := w.heap.size + 1) (e := 5) (size := 1) (w.alloc (.cells #[.int .i64 t.cyc, .int .i64 t.fr, .slice a t.fs.length cc] 61)) #[.int .u8 t.cyc, .int .u8 t.fr] 2 (by simp) (by decide) rfl
    simp only [World.size_alloc] at this
    have e : bV [u8 t.cyc, u8 t.fr] = [.int .u8 t.cyc, .int .u8 t.fr] := by
      simp only [bV, List.map_cons, List.map_nil]
      rw [u8_nat (by omega), u8_nat (by omega)]
    show World.ownsRow _ _ _ _ _ 2 _
    rw [e]
    exact this
  clear hx0
  go_enter Tryz.func33, Tryz.ntmps33
  go_wp2_with fail
  go_loopw [3, 18] (fun v i wr => ∃ j : Nat, j ≤ t.fs.length ∧ i = .int .i64 j ∧ PK w wr #[.int .i64 t.cyc, .int .i64 t.fr, .slice a t.fs.length cc] v (u8 t.cyc :: u8 t.fr :: (t.fs.take j).flatMap frB) ∧ (u8 t.cyc :: u8 t.fr :: (t.fs.take j).flatMap frB).length ≤ 2 + 200 * j) (fun _ i _ => 200 - (intOf i).toNat)
  case atStart => exact ⟨0, by omega, rfl, by simpa using H0.out, by simp⟩
  case round =>
    clear H0
    obtain ⟨j, hj, rfl, hP, hlen⟩ := hrel
    by_cases hlt : j < t.fs.length
    · have hlt' : (j : Int) < t.fs.length := by omega
      obtain ⟨g, rfl, hg, hF⟩ := Hr.out (by omega)
      obtain ⟨fa, fc, hfc0, hfa⟩ := hF j hlt
      have hfc := (hP.bel.cell (p := ⟨g, j, none⟩) hg).trans hfc0
      have hm : frk t.fs j ∈ t.fs := by rw [← frk_eq hlt]; exact List.getElem_mem _
      obtain ⟨hfl1, hfl2⟩ := Hsm.out _ hm
      have hsmall : Hid (∀ q, q < (frk t.fs j).length → (slk (frk t.fs j) q).job < 60 ∧ (slk (frk t.fs j) q).bud ≤ 60) := by
        intro q hq
        have := hfl2 (slk (frk t.fs j) q) (by rw [← slk_eq hq]; exact List.getElem_mem _)
        omega
      have hft : Hid ((t.fs.take (j + 1)).flatMap frB = (t.fs.take j).flatMap frB ++ frB (frk t.fs j)) := by
        unfold Hid
        rw [List.take_succ_eq_append_getElem hlt, List.flatMap_append, frk_eq hlt]
        simp
      have hfbl : (frB (frk t.fs j)).length ≤ 181 := by
        have := frB_len [frk t.fs j]
        simp at this
        omega
      have HFA := hide hfa
      have HP := hide hP
      have ow := hP.ow
      have hsz := hP.bel.size
      have hhx := blk_lt hP.hx
      clear hfc0 hF hm hfl2 hP hfa
      generalize hL0 : u8 t.cyc :: u8 t.fr :: (t.fs.take j).flatMap frB = L at *
      have HL0 := hide hL0
      clear hL0
      go_wp2_with (at_builtin; refine wpList_append_own _ rfl _ _ 64 rfl (w.heap.size + 1) 5 i0 _ 1 1 Tryz.underlying64 hi hz0 hz1 hz2 rfl (by decide) _ _ _ rfl (ow.alloc _) ⟨wr.heap.size, 0, none⟩ 1 1 [.int .u8 (frk t.fs j).length] rfl rfl ?c1 ?c2 ?c3 ?c4 ?c5 ?_)
      case c1 => exact cells_new wr #[_] _ _ rfl
      case c2 => simp [Value.oneCell']
      case c3 => unfold maxLen; omega
      case c4 => omega
      case c5 => simp; omega
      intro v' w2 hown2 hgr _
      have hP2 := (HP.out.call (below_new wr (.cells #[.int .u8 (frk t.fs j).length] 5))).push (M := [u8 (frk t.fs j).length]) hgr hown2 (by simp) (by rw [bV_app]; congr 1; simp only [bV, List.map_cons, List.map_nil]; rw [u8_nat (by omega)])
      have H2 := hide hP2
      clear hown2 hgr hP2 ow HP hfc
      go_wp2_with fail
      go_loopw [3, 30] (fun v i wr => ∃ k : Nat, k ≤ (frk t.fs j).length ∧ i = .int .i64 k ∧ PK w wr #[.int .i64 t.cyc, .int .i64 t.fr, .slice (some ⟨g, 0, none⟩) t.fs.length cc] v ((L ++ [u8 (frk t.fs j).length]) ++ ((frk t.fs j).take k).flatMap slB) ∧ (((L ++ [u8 (frk t.fs j).length]) ++ ((frk t.fs j).take k).flatMap slB)).length ≤ L.length + 1 + 3 * k) (fun _ i _ => 200 - (intOf i).toNat)
      case atStart => exact ⟨0, by omega, rfl, by simpa using H2.out, by simp⟩
      case round =>
        clear H2
        obtain ⟨k, hk, rfl, hP, hlen2⟩ := hrel
        by_cases hkl : k < (frk t.fs j).length
        · have hkl' : (k : Int) < (frk t.fs j).length := by omega
          obtain ⟨gf, rfl, hgf, hrow⟩ := HFA.out (by omega)
          obtain ⟨r0, r1, r2⟩ := hrow.below hP.bel hgf k hkl
          obtain ⟨hjb, hbd⟩ := hsmall.out k hkl
          have hfs : Hid (((frk t.fs j).take (k + 1)).flatMap slB = ((frk t.fs j).take k).flatMap slB ++ slB (slk (frk t.fs j) k)) := by
            unfold Hid
            rw [List.take_succ_eq_append_getElem hkl, List.flatMap_append, slk_eq hkl]
            simp
          have HP := hide hP
          have ow := hP.ow
          have hsz := hP.bel.size
          have hnm := UInt8.toNat_lt (slk (frk t.fs j) k).nm
          clear hrow hP
          generalize hLL : (L ++ [u8 (frk t.fs j).length]) ++ ((frk t.fs j).take k).flatMap slB = LL at *
          have HLL := hide hLL
          clear hLL
          generalize slk (frk t.fs j) k = y at *
          go_wp2_with (at_builtin; refine wpList_append_own _ rfl _ _ 64 rfl (w.heap.size + 1) 5 i0 _ 1 1 Tryz.underlying64 hi hz0 hz1 hz2 rfl (by decide) _ _ _ rfl ((ow.alloc _).alloc _) ⟨wr.heap.size + 1, 0, none⟩ 3 3 [.int .u8 y.nm.toNat, .int .u8 y.job, .int .u8 y.bud] rfl rfl ?c1 ?c2 ?c3 ?c4 ?c5 ?_)
          case c1 => exact cells_new (wr.alloc _) #[_, _, _] _ _ (by simp)
          case c2 => simp [Value.oneCell']
          case c3 => unfold maxLen; omega
          case c4 => omega
          case c5 => simp; omega
          intro v' w3 hown3 hgr _
          have hP3 := ((HP.out.call (below_new wr _)).call (below_new _ _)).push (M := slB y) hgr hown3 (by simp [slB]) (by rw [bV_app]; congr 1; simp only [bV, slB, List.map_cons, List.map_nil]; rw [u8_nat (by omega), u8_nat (by omega)])
          have H3 := hide hP3
          clear hown3 hgr hP3 ow HP
          go_wp2
          go_roundw
          case rel =>
            refine ⟨k + 1, by omega, by go_num, ?_, ?_⟩
            · rw [hfs.out, ← List.append_assoc, HLL.out]; exact H3.out
            · rw [hfs.out, ← List.append_assoc, HLL.out, List.length_append]; simp [slB]; omega
          case measure => simp [intOf]; omega
        · have hkl' : ¬ (k : Int) < (frk t.fs j).length := by omega
          have hke : (frk t.fs j).take k = frk t.fs j := List.take_of_length_le (by omega)
          have hEq : (L ++ [u8 (frk t.fs j).length]) ++ ((frk t.fs j).take k).flatMap slB = L ++ frB (frk t.fs j) := by
            rw [hke]; simp [frB]
          rw [hEq] at hP
          have HP := hide hP
          clear hP hEq hlen2
          have hL2 : Hid (u8 t.cyc :: u8 t.fr :: (t.fs.take (j + 1)).flatMap frB = (u8 t.cyc :: u8 t.fr :: (t.fs.take j).flatMap frB) ++ frB (frk t.fs j)) := by
            unfold Hid
            rw [hft.out]; rfl
          go_wp2
          go_roundw
          case rel =>
            refine ⟨j + 1, by omega, by go_num, ?_, ?_⟩
            · rw [hL2.out, HL0.out]; exact HP.out
            · rw [hL2.out, HL0.out, List.length_append]; omega
          case measure => simp [intOf]; omega
    · have hlt' : ¬ (j : Int) < t.fs.length := by omega
      have hje : u8 t.cyc :: u8 t.fr :: (t.fs.take j).flatMap frB = bodyB t := by
        rw [List.take_of_length_le (by omega)]; rfl
      rw [hje] at hP hlen
      clear hje
      have hbl : 0 < (bodyB t).length := by simp [bodyB]
      obtain ⟨gb, cap, rfl, hg1, hg2⟩ := own_form hP.ow (by omega)
      have hcell : ∀ W : World, Below wr.heap.size wr W → ∀ q, (hq : q < (bodyB t).length) → W.cell? ⟨gb, q, none⟩ = some (.int .u8 ((bodyB t)[q].toNat : Int)) := by
        intro W hW q hq
        rw [hW.cell (p := ⟨gb, q, none⟩) hg2, hP.ow.cellAt q (by omega)]
        simp [bV, hq]
      have hcv := fun W hW => bytesN (bodyB t) W gb cap (hcell W hW)
      have Hcv := hide hcv
      have cv0 := hcv wr.drew (below_drewN (Below.refl _ _) 1)
      have HB := hide hP.bel
      have hsl : (sumL (bodyB t)).length = 4 := rfl
      clear hcell hcv hP
      obtain ⟨X1, a1, z1, e1⟩ := add_named2 ⟨(bodyB t).toArray⟩ (bs (sumL (bodyB t))) (by simp [ByteArray.size, bs, hsl]; omega)
      have EX : Hid (X1 = bs (bodyB t ++ sumL (bodyB t))) := by
        unfold Hid
        rw [← bs_list X1, e1, bs_data]
      have HSum : Hid (∀ W, Calls Tryz.prog 68 #[.string ⟨(bodyB t).toArray⟩] W fun e w' => e = .returned (.string (bs (sumL (bodyB t)))) ∧ Below W.heap.size W w') := fun W => by
        have := sumOf_any ⟨(bodyB t).toArray⟩ W (by simp [ByteArray.size]; omega)
        simpa using this
      clear z1 e1 hsl
      generalize bodyB t = BB at *
      generalize bs (sumL BB) = SS at *
      go_wp2_with fail
      go_region_with (go_at_call 68; refine (HSum.out _).mono ?_; rintro e w9 ⟨rfl, hb9⟩; have cv9 := Hcv.out w9 ((below_drewN (Below.refl wr.heap.size wr) 1).trans hb9))
      all_goals
        have HB9 := hide (HB.out.trans (((below_drewN (Below.refl wr.heap.size wr) 1).trans hb9).mono HB.out.size))
        clear hb9
        go_wp2
        go_ret
        exact ⟨by rw [show RR = X1 from HRR.out.symm.trans EX.out.symm]; rfl, HB9.out⟩
end Go.Proofs.YtbdffcjganlblaaGreatDoor

namespace Go.Proofs.YtbdffcjganlblaaGreatDoor
open Go.RowKit
set_option linter.unusedVariables false
set_option linter.unusedSimpArgs false

/-- The bytes' reader, the rest before it. -/
structure BR (w : World) (b : Nat) (r : List UInt8) : Prop where
  h : w.heap[b]? = some (.cells #[.string (bs r)] 158 (0, 0))
  n : r.length ≤ 1000
section
variable {w : World} {b : Nat} {r : List UInt8}
theorem BR.keep {w' : World} (h : BR w b r) (hb : w'.heap[b]? = w.heap[b]?) : BR w' b r := ⟨by rw [hb]; exact h.h, h.n⟩
theorem BR.alloc (h : BR w b r) (o : Obj) : BR (w.alloc o) b r := h.keep (Below.heap_alloc _ _ _ (blk_lt h.h))
theorem BR.set (h : BR w b r) {X : Nat} (hX : b ≠ X) (o : Nat) (v : Value) : BR (w.setCell ⟨X, o, none⟩ v) b r := h.keep (Below.heap_setCell _ _ _ _ hX)

/-- One byte, or none. -/
def BOut (b : Nat) (r : List UInt8) (K : IntKind) (w : World) (en : Ending) (w' : World) : Prop :=
  w.grownBy w' (some b) ∧ ((r = [] ∧ en = pan 8 0) ∨ (∃ c r', r = c :: r' ∧ BR w' b r' ∧ en = .returned (.int K (c.toNat : Int))))

set_option maxRecDepth 100000 in
set_option maxHeartbeats 1000000 in
theorem btake_any (h : BR w b r) : Calls Tryz.prog 145 #[.pointer (some ⟨b, 0, none⟩)] w (BOut b r .u8 w) := by
  have x0 : w.cell? ⟨b, 0, none⟩ = some (.string (bs r)) := blk_cell h.h 0
  have xf := blk_frozen h.h 0
  have H := hide h
  have hn := h.n
  clear h
  cases r with
  | nil =>
    have he : (bs []).toList.isEmpty = true := by rw [ByteArray.toList_eq, bs_data]; rfl
    go_enter Tryz.func145, Tryz.ntmps145
    go_wp2_with fail
    refine (refuse_any 8 0 _ rfl _).mono ?_
    rintro e w' ⟨rfl, rfl⟩
    exact ⟨rfl, grownBy_refl _ _, .inl ⟨rfl, rfl⟩⟩
  | cons c r' =>
    have hne : ((bs (c :: r')).toList == []) = false := by rw [ByteArray.toList_eq, bs_data]; rfl
    have hz : (bs (c :: r')).size = r'.length + 1 := by rw [bs_size]; rfl
    have hc0 : ∀ h, (bs (c :: r'))[0]'h = c := fun h => rfl
    have hex : (bs (c :: r')).extract 1 (r'.length + 1) = bs r' := by
      rw [ext_bs, bs_data]
      congr 1
      simp
    have hset : Hid (BR (w.setCell ⟨b, 0, none⟩ (.string (bs r'))) b r') := ⟨by rw [blk_set H.out.h]; rfl, by simp at hn; omega⟩
    simp only [List.length_cons] at hn
    generalize bs (c :: r') = R at *
    have hR1 : 0 < R.size := by omega
    go_enter Tryz.func145, Tryz.ntmps145
    go_wp2
    go_ret
    exact ⟨grownBy_set (grownBy_refl _ _) _ _, .inr ⟨c, r', rfl, hset.out, rfl⟩⟩

set_option maxRecDepth 100000 in
set_option maxHeartbeats 1000000 in
theorem bnum_any (h : BR w b r) : Calls Tryz.prog 109 #[.pointer (some ⟨b, 0, none⟩)] w (BOut b r .i64 w) := by
  go_enter Tryz.func109, Tryz.ntmps109
  go_wp2_with fail
  refine (btake_any h).mono ?_
  rintro e w1 ⟨hg, ⟨h0, rfl⟩ | ⟨c, r', h0, h1, rfl⟩⟩
  · exact ⟨rfl, hg, .inl ⟨h0, rfl⟩⟩
  · have hc := UInt8.toNat_lt c
    have Hg := hide hg
    have H0 := hide h0
    have H1 := hide h1
    clear hg h0 h1 h
    go_wp2
    go_ret
    exact ⟨Hg.out, .inr ⟨c, r', H0.out, H1.out, rfl⟩⟩

/-- In the midst of a slice. -/
structure Sq (w wk : World) (c d : Array Value) (b : Nat) (r : List UInt8) : Prop where
  br : BR wk b r
  hx : wk.heap[w.heap.size + 1]? = some (.cells c 106 (0, 0))
  hy : wk.heap[w.heap.size]? = some (.cells d 106 (0, 0))
  g : w.grownBy wk (some b)
  hb : b < w.heap.size
theorem Sq.start (h : BR w b r) (c d : Array Value) : Sq w ((w.alloc (.cells d 106)).alloc (.cells c 106)) c d b r :=
  ⟨(h.alloc _).alloc _, by simpa using blk_new (w.alloc (.cells d 106)) c 106,
    by rw [Below.heap_alloc _ _ _ (by simp)]; exact blk_new w d 106, grownBy_alloc' (World.grownBy_alloc _ _ _) _, blk_lt h.h⟩
theorem Sq.set {wk : World} {c d : Array Value} (h : Sq w wk c d b r) (o : Nat) (v : Value) {c' : Array Value} (hc : c.setIfInBounds o v = c') : Sq w (wk.setCell ⟨w.heap.size + 1, o, none⟩ v) c' d b r := by
  have hb := h.hb
  refine ⟨h.br.set (by omega) o v, ?_, ?_, grownBy_setNew h.g (by omega) o v, hb⟩
  · rw [blk_set h.hx o v, hc]
  · rw [Below.heap_setCell _ _ _ _ (by show w.heap.size ≠ w.heap.size + 1; omega)]; exact h.hy
theorem Sq.call {wk : World} {c d : Array Value} {w' : World} {r' : List UInt8} (h : Sq w wk c d b r) (p : BR w' b r') (g : wk.grownBy w' (some b)) : Sq w w' c d b r' := by
  have hb := h.hb
  exact ⟨p, by rw [g.block _ (blk_lt h.hx) (by simp; omega)]; exact h.hx, by rw [g.block _ (blk_lt h.hy) (by simp; omega)]; exact h.hy, grownBy_trans h.g g, hb⟩
theorem Sq.cells {wk : World} {c d : Array Value} (h : Sq w wk c d b r) : (∀ o, wk.cell? ⟨w.heap.size + 1, o, none⟩ = c[o]?) ∧ (∀ o, wk.frozen? ⟨w.heap.size + 1, o, none⟩ = false) ∧ (∀ o, wk.cell? ⟨w.heap.size, o, none⟩ = d[o]?) ∧ (∀ o, wk.frozen? ⟨w.heap.size, o, none⟩ = false) :=
  ⟨blk_cell h.hx, blk_frozen h.hx, blk_cell h.hy, blk_frozen h.hy⟩

def BsOut (b : Nat) (r : List UInt8) (w : World) (en : Ending) (w' : World) : Prop :=
  w.grownBy w' (some b) ∧ ((r.length < 3 ∧ en = pan 8 0) ∨ (∃ x y z r', r = x :: y :: z :: r' ∧ BR w' b r' ∧ en = .returned (.agg #[.int .u8 (x.toNat : Int), .int .i64 (y.toNat : Int), .int .i64 (z.toNat : Int)])))

set_option maxRecDepth 100000 in
set_option maxHeartbeats 2000000 in
theorem bslice_any (h : BR w b r) : Calls Tryz.prog 146 #[.pointer (some ⟨b, 0, none⟩)] w (BsOut b r w) := by
  have S0 := Sq.start h #[.int .u8 0, .int .i64 0, .int .i64 0] #[.int .u8 0, .int .i64 0, .int .i64 0]
  clear h
  go_enter Tryz.func146, Tryz.ntmps146
  go_wp2_with fail
  refine (btake_any S0.br).mono ?_
  rintro e w1 ⟨hg, ⟨h0, rfl⟩ | ⟨x, r1, h0, h1, rfl⟩⟩
  · exact ⟨rfl, grownBy_trans S0.g hg, .inl ⟨by rw [h0]; simp, rfl⟩⟩
  have F1 := hide h0
  have S1 := S0.call h1 hg
  obtain ⟨x1, x2, x3, x4⟩ := S1.cells
  clear hg h0 h1 S0
  go_wp2_with fail
  have S1 := S1.set 0 (.int .u8 (x.toNat : Int)) (c' := #[.int .u8 (x.toNat : Int), .int .i64 0, .int .i64 0]) rfl
  clear x1 x2 x3 x4
  refine (bnum_any S1.br).mono ?_
  rintro e w2 ⟨hg, ⟨h0, rfl⟩ | ⟨y, r2, h0, h1, rfl⟩⟩
  · exact ⟨rfl, grownBy_trans S1.g hg, .inl ⟨by rw [F1.out, h0]; simp, rfl⟩⟩
  have F2 := hide h0
  have S2 := S1.call h1 hg
  obtain ⟨x1, x2, x3, x4⟩ := S2.cells
  clear hg h0 h1 S1
  go_wp2_with fail
  have S2 := S2.set 1 (.int .i64 (y.toNat : Int)) (c' := #[.int .u8 (x.toNat : Int), .int .i64 (y.toNat : Int), .int .i64 0]) rfl
  clear x1 x2 x3 x4
  refine (bnum_any S2.br).mono ?_
  rintro e w3 ⟨hg, ⟨h0, rfl⟩ | ⟨z, r3, h0, h1, rfl⟩⟩
  · exact ⟨rfl, grownBy_trans S2.g hg, .inl ⟨by rw [F1.out, F2.out, h0]; simp, rfl⟩⟩
  have F3 := hide h0
  have S3 := S2.call h1 hg
  obtain ⟨x1, x2, x3, x4⟩ := S3.cells
  clear hg h0 h1 S2
  have hbb := S3.hb
  have S3' := hide (S3.set 2 (.int .i64 (z.toNat : Int)) (c' := #[.int .u8 (x.toNat : Int), .int .i64 (y.toNat : Int), .int .i64 (z.toNat : Int)]) rfl)
  clear S3
  go_wp2
  refine bodyPost_ret (v := .agg #[.int .u8 (x.toNat : Int), .int .i64 (y.toNat : Int), .int .i64 (z.toNat : Int)]) (by simp [results, Tryz.results146, go_sem, x3]) rfl ⟨?_, .inr ⟨x, y, z, r3, by rw [F1.out, F2.out, F3.out], ?_, rfl⟩⟩
  · have Y : ∀ (wz : World) (o : Nat) (v : Value), w.grownBy wz (some b) → w.grownBy (wz.setCell ⟨w.heap.size, o, none⟩ v) (some b) := fun wz o v hz => grownBy_setNew hz (Nat.le_refl _) o v
    exact Y _ _ _ (Y _ _ _ (Y _ _ _ S3'.out.g))
  · have Y : ∀ (wz : World) (o : Nat) (v : Value), BR wz b r3 → BR (wz.setCell ⟨w.heap.size, o, none⟩ v) b r3 := fun wz o v hz => hz.set (by omega) o v
    exact Y _ _ _ (Y _ _ _ (Y _ _ _ S3'.out.br))
end

/-! ### A frame -/
theorem bSl_short {n : Nat} {r : List UInt8} (h : r.length < 3) : bSl (n + 1) r = none := by
  match r, h with
  | [], _ => rfl
  | [a], _ => rfl
  | [a, b], _ => rfl
structure FB (w wk : World) (b : Nat) (r : List UInt8) (v : Value) (n : Nat) (xs : List Value) : Prop where
  br : BR wk b r
  ow : wk.ownsRow w.heap.size 106 3 v n xs
  g : w.grownBy wk (some b)
  hb : b < w.heap.size
section
variable {w wk : World} {b : Nat} {r : List UInt8} {v : Value} {n : Nat} {xs : List Value}
theorem FB.call (h : FB w wk b r v n xs) {w' : World} {r' : List UInt8} (p : BR w' b r') (g : wk.grownBy w' (some b)) : FB w w' b r' v n xs :=
  ⟨p, h.ow.kept g (.inr (own_ge h.ow h.hb)), grownBy_trans h.g g, h.hb⟩
theorem FB.push (h : FB w wk b r v n xs) {o : Obj} {w2 : World} {v' : Value} {news : List Value} {m : Nat} (hg : (wk.alloc o).grownBy w2 v.ownBlock) (hown : w2.ownsRow w.heap.size 106 3 v' m news) : FB w w2 b r v' m news := by
  have hb := h.hb
  have hsz := h.g.size
  refine ⟨h.br.keep ?_, hown, ?_, hb⟩
  · rw [hg.block b (by simp; omega) (fun e => own_ge h.ow hb e.symm), Below.heap_alloc _ _ _ (by omega)]
  · have ha := grownBy_alloc' h.g o
    refine ⟨hg.os.trans ha.os, hg.tape.trans ha.tape, hg.output.trans ha.output, Nat.le_trans ha.size hg.size, fun k hk hne => ?_⟩
    rw [hg.block k (by simp; omega) (fun e => own_ge h.ow hk e.symm)]
    exact ha.block k hk hne

def bFrame : List UInt8 → Option (List Sl × List UInt8)
  | [] => none
  | c :: r => bSl c.toNat r
def FbOut (b : Nat) (r : List UInt8) (w : World) (en : Ending) (w' : World) : Prop :=
  w.grownBy w' (some b) ∧ ((bFrame r = none ∧ en = pan 8 0) ∨ (∃ f r' a c, bFrame r = some (f, r') ∧ BR w' b r' ∧ en = .returned (.slice a f.length c) ∧ w'.ownsRow w.heap.size 106 3 (.slice a f.length c) f.length (slPs f)))

set_option maxRecDepth 100000 in
set_option maxHeartbeats 2000000 in
theorem bframe_any (h : BR w b r) : Calls Tryz.prog 110 #[.pointer (some ⟨b, 0, none⟩)] w (FbOut b r w) := by
  obtain ⟨i0, hi0, hz0, hz1, hz2⟩ := info_parts Tryz.infoPSl
  have hlt := blk_lt h.h
  go_enter Tryz.func110, Tryz.ntmps110
  go_wp2_with fail
  refine (bnum_any h).mono ?_
  rintro e w1 ⟨hg, ⟨rfl, rfl⟩ | ⟨c, r1, rfl, h1, rfl⟩⟩
  · exact ⟨rfl, hg, .inl ⟨rfl, rfl⟩⟩
  have hc := UInt8.toNat_lt c
  have F0 : Hid (FB w w1 b r1 (.slice none 0 0) 0 []) := ⟨h1, World.ownsRow_nil _ _ _ _, hg, hlt⟩
  clear hg h1 h
  generalize hcn : c.toNat = n at *
  have Hcn := hide hcn
  clear hcn
  go_wp2_with fail
  go_loopw [3, 6] (fun v i wr => ∃ (f : List Sl) (r2 : List UInt8), f.length ≤ n ∧ i = .int .i64 f.length ∧ FB w wr b r2 v f.length (slPs f) ∧ bSl n r1 = (match bSl (n - f.length) r2 with | none => none | some (g, r') => some (f ++ g, r'))) (fun _ i _ => 300 - (intOf i).toNat)
  case atStart => exact ⟨[], r1, by simp, rfl, F0.out, by rw [List.length_nil, Nat.sub_zero]; cases bSl n r1 <;> simp⟩
  case round =>
    clear F0
    obtain ⟨f, r2, hk, rfl, hF, hR⟩ := hrel
    obtain ⟨va, vc, rfl⟩ := own_slice hF.ow
    have HF := hide hF
    by_cases hkn : f.length < n
    · have hkn' : (f.length : Int) < n := by omega
      have HR := hide hR
      clear hR
      go_wp2_with fail
      refine (bslice_any hF.br).mono ?_
      rintro e w2 ⟨hg, ⟨h0, rfl⟩ | ⟨x, y, z, r3, rfl, h1, rfl⟩⟩
      · refine ⟨rfl, grownBy_trans HF.out.g hg, .inl ⟨?_, rfl⟩⟩
        show bSl c.toNat r1 = none
        rw [Hcn.out, HR.out, show n - f.length = (n - f.length - 1) + 1 by omega, bSl_short h0]
      have H2 := hide (HF.out.call h1 hg)
      have hws := H2.out.g.size
      have ow2 := H2.out.ow
      have hR2 : Hid (bSl n r1 = (match bSl (n - (f.length + 1)) r3 with | none => none | some (g, r') => some ((f ++ [⟨x, y.toNat, z.toNat⟩]) ++ g, r'))) := by
        unfold Hid
        rw [HR.out, show n - f.length = (n - (f.length + 1)) + 1 by omega, bSl]
        cases bSl (n - (f.length + 1)) r3 <;> simp
      clear hg h1 hF HF HR
      go_wp2_with (at_builtin; refine wpList_append_own _ rfl _ _ 104 rfl w.heap.size 106 i0 _ 3 24 Tryz.underlying104 hi0 hz0 hz1 hz2 rfl (by decide) _ _ _ rfl (ow2.alloc _) ⟨w2.heap.size, 0, none⟩ 1 1 (slP ⟨x, y.toNat, z.toNat⟩) rfl rfl ?c1 ?c2 ?c3 ?c4 ?c5 ?_)
      case c1 => exact cells_new w2 #[_, _, _] _ _ rfl
      case c2 => simp [slP, Value.oneCell']
      case c3 => unfold maxLen; omega
      case c4 => omega
      case c5 => simp; omega
      intro v' w4 hown4 hgr _
      have S4 := H2.out.push hgr hown4
      have hsl : slPs f ++ slP ⟨x, y.toNat, z.toNat⟩ = slPs (f ++ [⟨x, y.toNat, z.toNat⟩]) := by
        unfold slPs
        rw [List.flatMap_append]
        simp
      rw [hsl] at S4
      obtain ⟨va', vc', rfl⟩ := own_slice S4.ow
      have H4 := hide S4
      clear hown4 hgr ow2 H2 hsl S4
      go_wp2
      go_roundw
      case rel => exact ⟨f ++ [⟨x, y.toNat, z.toNat⟩], r3, by simp; omega, by simp, by simpa using H4.out, by simpa using hR2.out⟩
      case measure => simp [intOf]; omega
    · have hkn' : ¬ (f.length : Int) < n := by omega
      have hfin : Hid (bFrame (c :: r1) = some (f, r2)) := by
        unfold Hid
        show bSl c.toNat r1 = _
        rw [Hcn.out, hR, show n - f.length = 0 by omega, bSl]
        simp
      clear hR hF
      go_wp2
      go_ret
      exact ⟨HF.out.g, .inr ⟨f, r2, va, vc, hfin.out, HF.out.br, rfl, HF.out.ow⟩⟩
end
end Go.Proofs.YtbdffcjganlblaaGreatDoor

namespace Go.Proofs.YtbdffcjganlblaaGreatDoor
open Go.RowKit
set_option linter.unusedVariables false
set_option linter.unusedSimpArgs false

section
variable {w wk : World} {b : Nat} {r : List UInt8}
theorem bframe_bad (h : BR w b r) (hd : bFrame r = none) : Calls Tryz.prog 110 #[.pointer (some ⟨b, 0, none⟩)] w fun en w' => en = pan 8 0 ∧ w.grownBy w' (some b) :=
  (bframe_any h).mono fun en w' h' => by
    obtain ⟨hg, ⟨_, rfl⟩ | ⟨f, r', a, c, h1, _⟩⟩ := h'
    · exact ⟨rfl, hg⟩
    · rw [hd] at h1; simp at h1
theorem bframe_good (h : BR w b r) {f : List Sl} {r' : List UInt8} (hl : bFrame r = some (f, r')) : Calls Tryz.prog 110 #[.pointer (some ⟨b, 0, none⟩)] w fun en w' => ∃ a c, en = .returned (.slice a f.length c) ∧ BR w' b r' ∧ w.grownBy w' (some b) ∧ w'.ownsRow w.heap.size 106 3 (.slice a f.length c) f.length (slPs f) :=
  (bframe_any h).mono fun en w' h' => by
    obtain ⟨hg, ⟨h1, _⟩ | ⟨f2, r2, a, c, h1, h2, rfl, h3⟩⟩ := h'
    · rw [hl] at h1; simp at h1
    · rw [hl] at h1
      simp at h1
      obtain ⟨rfl, rfl⟩ := h1
      exact ⟨a, c, rfl, h2, hg, h3⟩
end

/-- The memory of parseBody. -/
structure TVb (w wk : World) (b X : Nat) (r : List UInt8) (c f : Nat) (fv : Value) (P : List (Value × List Sl)) : Prop where
  br : BR wk b r
  hy : wk.heap[w.heap.size]? = some (.cells ptZ 61 (0, 0))
  hx : wk.heap[X]? = some (.cells #[.int .i64 c, .int .i64 f, fv] 61 (0, 0))
  fm : FrM wk (b + 1) fv P
  g : w.grownBy wk none
  h1 : w.heap.size < b
  h2 : b < X
section
variable {w wk : World} {b X : Nat} {r : List UInt8} {c f : Nat} {fv : Value} {P : List (Value × List Sl)}
theorem TVb.call (h : TVb w wk b X r c f fv P) {w' : World} {r' : List UInt8} (p : BR w' b r') (g : wk.grownBy w' (some b)) : TVb w w' b X r' c f fv P := by
  have h1 := h.h1
  have h2 := h.h2
  refine ⟨p, ?_, ?_, h.fm.kept g (fun k hk => .inl (by simp at hk; omega)), grownBy_new h.g g (by omega), h1, h2⟩
  · rw [g.block _ (blk_lt h.hy) (by simp; omega)]; exact h.hy
  · rw [g.block _ (blk_lt h.hx) (by simp; omega)]; exact h.hx
theorem TVb.cells (h : TVb w wk b X r c f fv P) : wk.cell? ⟨X, 0, none⟩ = some (.int .i64 c) ∧ wk.cell? ⟨X, 1, none⟩ = some (.int .i64 f) ∧ wk.cell? ⟨X, 2, none⟩ = some fv ∧ (∀ o, wk.frozen? ⟨X, o, none⟩ = false) ∧ (∀ o, wk.cell? ⟨w.heap.size, o, none⟩ = #[Value.int .i64 0, .int .i64 0, .slice none 0 0][o]?) ∧ (∀ o, wk.frozen? ⟨w.heap.size, o, none⟩ = false) :=
  ⟨by rw [blk_cell h.hx]; rfl, by rw [blk_cell h.hx]; rfl, by rw [blk_cell h.hx]; rfl, blk_frozen h.hx, blk_cell h.hy, blk_frozen h.hy⟩
theorem TVb.set (h : TVb w wk b X r c f fv P) (o : Nat) (v : Value) {c' f' : Nat} (hc : (#[Value.int .i64 c, .int .i64 f, fv].setIfInBounds o v) = #[.int .i64 c', .int .i64 f', fv]) : TVb w (wk.setCell ⟨X, o, none⟩ v) b X r c' f' fv P := by
  have h1 := h.h1
  have h2 := h.h2
  refine ⟨h.br.set (by omega) o v, ?_, by rw [blk_set h.hx, hc], h.fm.kept (grownBy_set (k := X) (grownBy_refl _ _) o v) (fun k hk => .inr ?_), grownBy_setNew h.g (by omega) o v, h1, h2⟩
  · rw [Below.heap_setCell _ _ _ _ (by show w.heap.size ≠ X; omega)]; exact h.hy
  · simp at hk
    subst hk
    exact ⟨_, _, h.hx, by decide, by decide⟩
theorem TVb.grow (h : TVb w wk b X r c f fv P) {o1 : Obj} {w2 : World} (hg : (wk.alloc o1).grownBy w2 fv.ownBlock) : w2.heap[X]? = some (.cells #[.int .i64 c, .int .i64 f, fv] 61 (0, 0)) := by
  have hX := blk_lt h.hx
  rw [hg.block X (by simp; omega) (fun e => own_type h.fm.1 h.hx (by decide) e.symm), Below.heap_alloc _ _ _ hX]
  exact h.hx
theorem TVb.push (h : TVb w wk b X r c f fv P) {o1 : Obj} {w2 : World} {v fv' : Value} {l : List Sl} (hv : wk.ownsRow (b + 1) 106 3 v l.length (slPs l)) (hg : (wk.alloc o1).grownBy w2 fv.ownBlock) (hown : w2.ownsRow (b + 1) 104 1 fv' (P.length + 1) (P.map Prod.fst ++ [v])) :
    TVb w (w2.setCell ⟨X, 2, none⟩ fv') b X r c f fv' (P ++ [(v, l)]) := by
  have h1 := h.h1
  have h2 := h.h2
  have hX := blk_lt h.hx
  have hX2 := h.grow hg
  have hlow : ∀ k, k < b + 1 → fv.ownBlock ≠ some k := fun k hk => own_ge h.fm.1 hk
  have hblk : ∀ k, k < b + 1 → w2.heap[k]? = wk.heap[k]? := by
    intro k hk
    rw [hg.block k (by simp; omega) (fun e => hlow k hk e.symm), Below.heap_alloc _ _ _ (by omega)]
  have fm1 : FrM (wk.alloc o1) (b + 1) fv P := h.fm.kept (World.grownBy_alloc wk o1 none) (fun k hk => by simp at hk)
  have fm2 := fm1.push (l := l) (hv.alloc o1) hg hown
  refine ⟨(h.br.keep (hblk b (by omega))).set (by omega) 2 fv', ?_, ?_, fm2.kept (grownBy_set (k := X) (grownBy_refl _ _) 2 fv') (fun k hk => .inr ?_), ?_, h1, h2⟩
  · rw [Below.heap_setCell _ _ _ _ (by show w.heap.size ≠ X; omega), hblk _ (by omega)]; exact h.hy
  · rw [blk_set hX2]; rfl
  · simp at hk
    subst hk
    exact ⟨_, _, hX2, by decide, by decide⟩
  · have hgw : w.grownBy w2 none := by
      have ha := grownBy_alloc' h.g o1
      refine ⟨hg.os.trans ha.os, hg.tape.trans ha.tape, hg.output.trans ha.output, Nat.le_trans ha.size hg.size, fun k hk hne => ?_⟩
      rw [hg.block k (by have := ha.size; omega) (fun e => hlow k (by omega) e.symm)]
      exact ha.block k hk hne
    exact grownBy_setNew hgw (by omega) _ _
end


theorem tv_start (w : World) (l : List UInt8) (hl : l.length ≤ 1000) : TVb w (((w.alloc (.cells ptZ 61)).alloc (.cells #[.string (bs l)] 158)).alloc (.cells #[.int .i64 0, .int .i64 0, .slice none 0 0] 61)) (w.heap.size + 1) (w.heap.size + 1 + 1) l 0 0 (.slice none 0 0) [] := by
  have hb := blk_new (w.alloc (.cells ptZ 61)) #[.string (bs l)] 158
  simp only [World.size_alloc] at hb
  have hx := blk_new ((w.alloc (.cells ptZ 61)).alloc (.cells #[.string (bs l)] 158)) #[.int .i64 0, .int .i64 0, .slice none 0 0] 61
  simp only [World.size_alloc] at hx
  refine ⟨⟨by rw [Below.heap_alloc _ _ _ (by simp)]; exact hb, hl⟩, ?_, hx, FrM.nil _ _, grownBy_alloc' (grownBy_alloc' (World.grownBy_alloc _ _ _) _) _, by omega, by omega⟩
  rw [Below.heap_alloc _ _ _ (by simp; omega), Below.heap_alloc _ _ _ (by simp)]
  exact blk_new _ _ _

def PbOut (l : List UInt8) (w : World) (en : Ending) (w' : World) : Prop :=
  Below w.heap.size w w' ∧ ((en = pan 8 0 ∧ bTab l = none) ∨
    (∃ (t : Tb) (P : List (Value × List Sl)) (a : Option Addr) (c : Nat), bTab l = some t ∧ t.fs = P.map Prod.snd ∧ P.length ≤ 1000 ∧ en = .returned (.agg #[.int .i64 t.cyc, .int .i64 t.fr, .slice a P.length c]) ∧ FrM w' w.heap.size (.slice a P.length c) P))
def BfR (r0 r : List UInt8) (fs : List (List Sl)) : Prop := fs.length + r.length ≤ r0.length ∧ bFr r0 = (match bFr r with | none => none | some gs => some (fs ++ gs))
theorem bfR_more {r0 r r' : List UInt8} {fs : List (List Sl)} {f : List Sl} (h : BfR r0 r fs) (hp : bFrame r = some (f, r')) : BfR r0 r' (fs ++ [f]) := by
  match r, hp with
  | c :: r1, hp =>
    have hp' : bSl c.toNat r1 = some (f, r') := hp
    have hl := bSl_len hp'
    refine ⟨by have := h.1; simp at this ⊢; omega, ?_⟩
    rw [h.2, bFr_on hp']
    cases bFr r' <;> simp
theorem bfR_dead {r0 r : List UInt8} {fs : List (List Sl)} (h : BfR r0 r fs) (hne : r ≠ []) (hp : bFrame r = none) : bFr r0 = none := by
  match r, hne, hp with
  | c :: r1, _, hp =>
    rw [h.2, bFr_no hp]

set_option maxRecDepth 100000 in
set_option maxHeartbeats 4000000 in
theorem parseBody_any (l : List UInt8) (w : World) (hl : l.length ≤ 1000) :
    Calls Tryz.prog 69 #[.string (bs l)] w (PbOut l w) := by
  obtain ⟨it, hti, htz0, htz1, htz2⟩ := info_parts Tryz.infoPFr
  have T0 := tv_start w l hl
  go_enter Tryz.func69, Tryz.ntmps69
  go_wp2_with fail
  refine (bnum_any T0.br).mono ?_
  rintro e w1 ⟨hg, ⟨rfl, rfl⟩ | ⟨c, r1, rfl, h1, rfl⟩⟩
  · exact ⟨rfl, below_grown (grownBy_new T0.g hg (Nat.le_of_lt T0.h1)), .inl ⟨rfl, rfl⟩⟩
  have T1 := T0.call h1 hg
  clear hg h1 T0
  generalize w.heap.size + 1 + 1 = X at *
  generalize w.heap.size + 1 = b at *
  obtain ⟨x0, x1, x2, xf, y0, yf⟩ := T1.cells
  go_wp2_with fail
  clear x0 x1 x2 xf y0 yf
  have T1 := T1.set 0 (.int .i64 (c.toNat : Int)) (c' := c.toNat) (f' := 0) rfl
  refine (bnum_any T1.br).mono ?_
  rintro e w2 ⟨hg, ⟨rfl, rfl⟩ | ⟨f, r2, rfl, h1, rfl⟩⟩
  · exact ⟨rfl, below_grown (grownBy_new T1.g hg (Nat.le_of_lt T1.h1)), .inl ⟨rfl, rfl⟩⟩
  have T2 := T1.call h1 hg
  clear hg h1 T1
  obtain ⟨x0, x1, x2, xf, y0, yf⟩ := T2.cells
  have T3 := hide (T2.set 1 (.int .i64 (f.toNat : Int)) (c' := c.toNat) (f' := f.toNat) rfl)
  have hbt : Hid (bTab (c :: f :: r2) = (match bFr r2 with | none => none | some fs => some ⟨c.toNat, f.toNat, fs⟩)) := rfl
  have hr2 : r2.length ≤ 998 := by simp at hl; omega
  clear T2 hl
  go_wp2_with fail
  clear x0 x1 x2 xf y0 yf
  go_loopw [14] (fun _ wr => ∃ (r : List UInt8) (P : List (Value × List Sl)) (fv : Value), TVb w wr b X r c.toNat f.toNat fv P ∧ BfR r2 r (P.map Prod.snd)) (fun _ wr => 1100 - lenOf (wr.cell? ⟨X, 2, none⟩))
  case atStart => exact ⟨r2, [], _, T3.out, by simp, by cases bFr r2 <;> simp⟩
  case round =>
    clear T3
    obtain ⟨r, P, fv, hT, hR⟩ := hrel
    obtain ⟨fa, fc, rfl⟩ := own_slice hT.fm.1
    have hPl : P.length ≤ 998 := by have := hR.1; simp at this; omega
    have HL : Hid (lenOf (wr.cell? ⟨X, 2, none⟩) = P.length) := by
      unfold Hid
      rw [hT.cells.2.2.1]
      rfl
    obtain ⟨x0, x1, x2, xf, y0, yf⟩ := hT.cells
    have b0 : wr.cell? ⟨b, 0, none⟩ = some (.string (bs r)) := blk_cell hT.br.h 0
    have HT := hide hT
    have HR := hide hR
    clear hR hT
    by_cases hre : r = []
    · have he : (bs r).toList.isEmpty = true := by rw [hre, ByteArray.toList_eq, bs_data]; rfl
      have hend : Hid (bTab (c :: f :: r2) = some ⟨c.toNat, f.toNat, P.map Prod.snd⟩) := by
        unfold Hid
        have := HR.out.2
        rw [hre, bFr_nil] at this
        rw [hbt.out, this]
        simp
      have h1 := HT.out.h1
      have h2 := HT.out.h2
      have hne1 : ¬ w.heap.size = X := by omega
      have hne2 : ¬ X = w.heap.size := by omega
      clear hre
      go_wp2
      refine bodyPost_ret (v := .agg #[.int .i64 c.toNat, .int .i64 f.toNat, .slice fa P.length fc]) (by simp [results, Tryz.results69, go_sem, y0]) rfl ⟨?_, .inr ⟨⟨c.toNat, f.toNat, P.map Prod.snd⟩, P, fa, fc, hend.out, rfl, by omega, rfl, ?_⟩⟩
      · exact below_grown (grownBy_setNew (grownBy_setNew (grownBy_setNew HT.out.g (Nat.le_refl _) _ _) (Nat.le_refl _) _ _) (Nat.le_refl _) _ _)
      · have K : ∀ (W : World) (o : Nat) (v : Value), FrM W (b + 1) (.slice fa P.length fc) P → FrM (W.setCell ⟨w.heap.size, o, none⟩ v) (b + 1) (.slice fa P.length fc) P := fun W o v h => h.kept (grownBy_set (k := w.heap.size) (grownBy_refl _ _) o v) (fun k hk => .inl (by simp at hk; omega))
        have h3 := K _ 2 (.slice fa P.length fc) (K _ 1 (.int .i64 f.toNat) (K _ 0 (.int .i64 c.toNat) HT.out.fm))
        exact ⟨own_weak h3.1 (by omega), fun p hp => own_weak (h3.2 p hp) (by omega)⟩
    · have he : (bs r).toList.isEmpty = false := by
        rw [ByteArray.toList_eq, bs_data]
        cases r with
        | nil => exact absurd rfl hre
        | cons a q => rfl
      have Hre := hide hre
      clear hre
      go_wp2_with fail
      cases hd : bFrame r with
      | none =>
        have hno : Hid (bTab (c :: f :: r2) = none) := by
          unfold Hid
          rw [hbt.out, bfR_dead HR.out Hre.out hd]
        have Hd := hide hd
        have Hdr : Hid (BR wr.drew b r) := HT.out.br.keep rfl
        clear hd
        go_region_dies
        all_goals
          refine (bframe_bad Hdr.out Hd.out).mono ?_
          rintro e w9 ⟨rfl, hg⟩
          exact ⟨rfl, below_grown (grownBy_new (grownBy_drew HT.out.g) hg (Nat.le_of_lt HT.out.h1)), .inl ⟨rfl, hno.out⟩⟩
      | some xx =>
        obtain ⟨q, r'⟩ := xx
        have Hd := hide hd
        have HR2 := hide (bfR_more HR.out hd)
        clear hd
        have HTd : Hid (TVb w wr.drew b X r c.toNat f.toNat (.slice fa P.length fc) P) := HT.out.call (HT.out.br.keep rfl) ⟨rfl, rfl, rfl, Nat.le_refl _, fun _ _ _ => rfl⟩
        have h1 := HT.out.h1
        have h2 := HT.out.h2
        go_region_law (first | (refine step_append_own rfl (.tmp 20) (.tmp 23) 59 rfl (b + 1) 104 it _ 1 24 Tryz.underlying59 hti htz0 htz1 htz2 rfl (by decide) _ _ _ rfl (fm9.1.alloc _) ⟨w9.heap.size, 0, none⟩ 1 1 [.slice la q.length lc] rfl rfl (cells_new w9 #[_] _ _ rfl) (by simp [Value.oneCell']) (by unfold maxLen; omega) (by omega) (by simp; omega) ?_; intro v' w10 hown10 hgr; have T10 := HT9.out.push hv9.out hgr hown10; have hX10 := HT9.out.grow hgr; have u1 := blk_cell hX10 2; have u2 := blk_frozen hX10 2; obtain ⟨fa', fc', rfl⟩ := own_slice hown10; have HT10 := hide T10; clear T10 hX10 hown10 hgr) | (go_simp; go_at_call 110; refine (bframe_good HTd.out.br Hd.out).mono ?_; rintro e w9 ⟨la, lc, rfl, hrs9, hg9, hv⟩; have T9 := HTd.out.call hrs9 hg9; obtain ⟨z0, z1, z2, z3, z4, z5⟩ := T9.cells; have HT9 := hide T9; have fm9 := T9.fm; have hl9 := blk_lt T9.hx; have hv9 := hide (own_weak (base' := b + 1) hv (by have := blk_lt HT.out.br.h; show b + 1 ≤ wr.heap.size; omega)); clear T9 hrs9 hg9 hv))
        all_goals
          go_wp2
          go_roundw
          case rel => exact ⟨r', P ++ [(.slice la q.length lc, q)], _, HT10.out, by rw [List.map_append]; exact HR2.out⟩
          case measure => rw [HL.out, HT10.out.cells.2.2.1]; show 1100 - (P.length + 1) < 1100 - P.length; omega
end Go.Proofs.YtbdffcjganlblaaGreatDoor
