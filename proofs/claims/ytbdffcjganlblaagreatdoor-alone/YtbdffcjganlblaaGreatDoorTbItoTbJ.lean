/-
  Own work. The program's tables: the sum.
-/
import Derived.Test.YtbdffcjganlblaaGreatDoorTbAtoTbB
import Derived.Test.YtbdffcjganlblaaGreatDoorTbF
import Derived.Test.YtbdffcjganlblaaGreatDoorTabBtoTabD
import Derived.Test.YtbdffcjganlblaaGreatDoorRefX
import Derived.Deep.RegionWith
namespace Go.Proofs.YtbdffcjganlblaaGreatDoor
open Go.RowKit
set_option linter.unusedVariables false
set_option linter.unusedSimpArgs false

/-- A bit of the sum; a byte; all bytes. -/
def crc1 (x : Int) : Int := if bits .and .u32 x 1 == 1 then bits .xor .u32 (x / 2) 3988292384 else x / 2
def crcN : Nat → Int → Int
  | 0, x => x
  | n + 1, x => crc1 (crcN n x)
def crcB (a c : Int) : Int := crcN 8 (bits .xor .u32 a c)
def crcL (l : List UInt8) : Int := l.foldl (fun x c => crcB x (c.toNat : Int)) 4294967295

set_option maxRecDepth 100000 in
set_option maxHeartbeats 1000000 in
theorem addByte_any (a : Int) (c : Nat) (hc : c < 256) (w : World) :
    Calls Tryz.prog 108 #[.int .u32 a, .int .u8 c] w fun e w' => e = .returned (.int .u32 (crcB a c)) ∧ w' = w := by
  go_enter Tryz.func108, Tryz.ntmps108
  go_wp2_with fail
  go_loop [0, 10] (fun s i => ∃ (k : Nat), k ≤ 8 ∧ i = .int .i64 k ∧ s = .int .u32 (crcN k (bits .xor .u32 a c))) (fun _ i => 8 - (intOf i).toNat)
  case atStart => exact ⟨0, by omega, rfl, rfl⟩
  case round =>
    obtain ⟨k, hk, rfl, rfl⟩ := hrel
    by_cases hlt : k < 8
    · have hlt' : (k : Int) < 8 := by omega
      have hst : Hid (crcN (k + 1) (bits .xor .u32 a c) = crc1 (crcN k (bits .xor .u32 a c))) := rfl
      generalize crcN k (bits .xor .u32 a c) = x at *
      cases hb : (bits .and .u32 x 1 == 1)
      · have hc1 : Hid (crc1 x = x / 2) := by unfold Hid crc1; rw [hb]; rfl
        go_wp2
        go_round
        case rel => exact ⟨k + 1, by omega, by go_num, by rw [hst.out, hc1.out]⟩
        case measure => simp [intOf]; omega
      · have hc1 : Hid (crc1 x = bits .xor .u32 (x / 2) 3988292384) := by unfold Hid crc1; rw [hb]; rfl
        go_wp2
        go_round
        case rel => exact ⟨k + 1, by omega, by go_num, by rw [hst.out, hc1.out]⟩
        case measure => simp [intOf]; omega
    · have hlt' : ¬ (k : Int) < 8 := by omega
      have hke : k = 8 := by omega
      subst hke
      have hfin : Hid (crcN 8 (bits .xor .u32 a c) = crcB a c) := rfl
      generalize crcN 8 (bits .xor .u32 a c) = x at *
      go_wp2
      go_ret
      exact ⟨by rw [← hfin.out]; rfl, rfl⟩

def u8i (y : Int) : UInt8 := UInt8.ofNat (y % 256).toNat
theorem u8i_nat (y : Int) : ((u8i y).toNat : Int) = y % 256 := by
  have h1 := Int.emod_nonneg y (b := 256) (by decide)
  have h2 := Int.emod_lt_of_pos y (b := 256) (by decide)
  unfold u8i
  simp
  omega
/-- The sum's four bytes. -/
def sum4 (y : Int) : List UInt8 := [u8i y, u8i (y / 256), u8i (y / 65536), u8i (y / 16777216)]
def sumL (l : List UInt8) : List UInt8 := sum4 (bits .xor .u32 IntKind.u32.max (crcL l))
theorem bytesN (l : List UInt8) (W : World) (b c : Nat) (h : ∀ j, (hj : j < l.length) → W.cell? ⟨b, j, none⟩ = some (.int .u8 (l[j].toNat : Int))) : (convert 64 9 (.slice (some ⟨b, 0, none⟩) l.length c)).run Tryz.prog W = .ok (.string ⟨l.toArray⟩) W := by
  refine run_convert_bytes_back _ 64 9 5 ⟨b, 0, none⟩ c l Tryz.underlying64 Tryz.underlying5 Tryz.underlying9 ?_
  intro j hj
  have e : ((⟨b, 0, none⟩ : Addr).add j) = ⟨b, j, none⟩ := by simp [Addr.add]; intro h; exact h.symm
  rw [e]
  exact h j hj

set_option maxRecDepth 100000 in
set_option maxHeartbeats 1000000 in
theorem sumOf_any (s : ByteArray) (w : World) (hs : s.size ≤ 1000) :
    Calls Tryz.prog 68 #[.string s] w fun e w' => e = .returned (.string (bs (sumL s.data.toList))) ∧ Below w.heap.size w w' := by
  go_enter Tryz.func68, Tryz.ntmps68
  go_wp2_with fail
  go_loop [3, 7] (fun x i => ∃ (k : Nat), k ≤ s.size ∧ i = .int .i64 k ∧ x = .int .u32 (crcL (s.data.toList.take k))) (fun _ i => s.size - (intOf i).toNat)
  case atStart => exact ⟨0, by omega, rfl, rfl⟩
  case round =>
    obtain ⟨k, hk, rfl, rfl⟩ := hrel
    by_cases hlt : k < s.size
    · have hlt' : (k : Int) < s.size := by omega
      have hst : Hid (crcL (s.data.toList.take (k + 1)) = crcB (crcL (s.data.toList.take k)) (s[k].toNat : Int)) := by
        unfold Hid crcL
        have := take_more s 0 k (by omega) hlt
        simp only [List.drop_zero, Nat.sub_zero] at this
        rw [this, List.foldl_append]
        rfl
      generalize crcL (s.data.toList.take k) = x at *
      go_wp2_with fail
      refine (addByte_any x s[k].toNat (UInt8.toNat_lt _) _).mono ?_
      rintro e w' ⟨rfl, rfl⟩
      go_wp2
      go_round
      case rel => exact ⟨k + 1, by omega, by go_num, by rw [hst.out]⟩
      case measure => simp [intOf]; omega
    · have hlt' : ¬ (k : Int) < s.size := by omega
      have hke : s.data.toList.take k = s.data.toList := List.take_of_length_le (by simp; omega)
      rw [hke]
      have hfin : Hid (sumL s.data.toList = sum4 (bits .xor .u32 IntKind.u32.max (crcL s.data.toList))) := rfl
      generalize crcL s.data.toList = x at *
      have hcv : (convert 64 9 (.slice (some ⟨w.heap.size, 0, none⟩) 4 4)).run Tryz.prog (w.alloc (.cells #[.int .u8 (bits .xor .u32 IntKind.u32.max x % 256), .int .u8 (bits .xor .u32 IntKind.u32.max x / 256 % 256), .int .u8 (bits .xor .u32 IntKind.u32.max x / 65536 % 256), .int .u8 (bits .xor .u32 IntKind.u32.max x / 16777216 % 256)] 5)) = .ok (.string (bs (sum4 (bits .xor .u32 IntKind.u32.max x)))) (w.alloc (.cells #[.int .u8 (bits .xor .u32 IntKind.u32.max x % 256), .int .u8 (bits .xor .u32 IntKind.u32.max x / 256 % 256), .int .u8 (bits .xor .u32 IntKind.u32.max x / 65536 % 256), .int .u8 (bits .xor .u32 IntKind.u32.max x / 16777216 % 256)] 5)) := by
        refine bytesN (sum4 (bits .xor .u32 IntKind.u32.max x)) _ w.heap.size 4 ?_
        intro j hj
        rw [blk_cell (blk_new w _ _)]
        have hj4 : j < 4 := hj
        match j, hj4 with
        | 0, _ => simp [sum4, u8i_nat]
        | 1, _ => simp [sum4, u8i_nat]
        | 2, _ => simp [sum4, u8i_nat]
        | 3, _ => simp [sum4, u8i_nat]
      generalize sum4 (bits .xor .u32 IntKind.u32.max x) = Y at *
      go_wp2
      go_ret
      exact ⟨by rw [hfin.out]; rfl, below_new _ _⟩
end Go.Proofs.YtbdffcjganlblaaGreatDoor

namespace Go.Proofs.YtbdffcjganlblaaGreatDoor
open Go.RowKit
set_option linter.unusedVariables false
set_option linter.unusedSimpArgs false

theorem Tryz.infoU8 : (Tryz.prog.info? 5).map (fun i => (i.zero, i.size, i.bytes)) = some (some (.int .u8 0), 1, 1) := by kernel_rfl
def bV (l : List UInt8) : List Value := l.map (fun c => Value.int .u8 (c.toNat : Int))
theorem bV_len (l : List UInt8) : (bV l).length = l.length := by simp [bV]
theorem bV_app (a b : List UInt8) : bV (a ++ b) = bV a ++ bV b := by simp [bV]
/-- The memory of pack. -/
structure PK (w wr : World) (tv : Array Value) (v : Value) (L : List UInt8) : Prop where
  hx : wr.heap[w.heap.size]? = some (.cells tv 61 (0, 0))
  ow : wr.ownsRow (w.heap.size + 1) 5 1 v L.length (bV L)
  bel : Below w.heap.size w wr
theorem PK.call {w wr : World} {tv : Array Value} {v : Value} {L : List UInt8} (h : PK w wr tv v L) {w' : World} (hb : Below wr.heap.size wr w') : PK w w' tv v L :=
  ⟨blk_keep h.hx hb, owns_below h.ow hb, h.bel.trans (hb.mono h.bel.size)⟩
theorem PK.push {w wr : World} {tv : Array Value} {v v' : Value} {L M : List UInt8} (h : PK w wr tv v L) {w2 : World} (hg : wr.grownBy w2 v.ownBlock) {n : Nat} {xs : List Value} (hown : w2.ownsRow (w.heap.size + 1) 5 1 v' n xs) (hn : n = (L ++ M).length) (hxs : xs = bV (L ++ M)) : PK w w2 tv v' (L ++ M) := by
  subst hn hxs
  refine ⟨by rw [hg.block _ (blk_lt h.hx) (fun e => own_ge h.ow (Nat.lt_succ_self _) e.symm)]; exact h.hx, hown, ?_⟩
  exact h.bel.grown hg h.bel.size (fun k hk => by
    have := (h.ow.lt k hk).1
    omega)

set_option maxRecDepth 100000 in
set_option maxHeartbeats 2000000 in
theorem pack_any (t : Tb) (a : Option Addr) (cc : Nat) (w : World) (hr : FvA w a t.fs) (hS : Sound t) :
    Calls Tryz.prog 33 #[.agg #[.int .i64 t.cyc, .int .i64 t.fr, .slice a t.fs.length cc]] w fun e w' => e = .returned (.string (bs (bodyB t ++ sumL (bodyB t)))) ∧ Below w.heap.size w w' := by
  obtain ⟨RR, hRR⟩ : ∃ RR, bs (bodyB t ++ sumL (bodyB t)) = RR := ⟨_, rfl⟩
  rw [hRR]
  have HRR := hide hRR
  clear hRR
  obtain ⟨i0, hi, hz0, hz1, hz2⟩ := info_parts Tryz.infoU8
  obtain ⟨hf1, hf2, hn1, hn2, hfl⟩ := hS.frames
  have hc2 := hS.c2
  have hblen := bodyB_len hS
  have Hsm := hide hS.small
  have Hr := hide hr
  clear hr hS
  have hx0 := blk_new w #[.int .i64 t.cyc, .int .i64 t.fr, .slice a t.fs.length cc] 61
  have H0 : Hid (PK w ((w.alloc (.cells #[.int .i64 t.cyc, .int .i64 t.fr, .slice a t.fs.length cc] 61)).alloc (.cells #[.int .u8 t.cyc, .int .u8 t.fr] 5)) #[.int .i64 t.cyc, .int .i64 t.fr, .slice a t.fs.length cc] (.slice (some ⟨w.heap.size + 1, 0, none⟩) 2 2) [u8 t.cyc, u8 t.fr]) := by
    refine ⟨by rw [Below.heap_alloc _ _ _ (by simp)]; exact blk_new _ _ _, ?_, (below_new w _).alloc (by simp) _⟩
    have := World.ownsRow_lit (base := w.heap.size + 1) (e := 5) (size := 1) (w.alloc (.cells #[.int .i64 t.cyc, .int .i64 t.fr, .slice a t.fs.length cc] 61)) #[.int .u8 t.cyc, .int .u8 t.fr] 2 (by simp) (by decide) rfl
    simp only [World.size_alloc] at this
    have e : bV [u8 t.cyc, u8 t.fr] = [.int .u8 t.cyc, .int .u8 t.fr] := by
      simp only [bV, List.map_cons, List.map_nil]
      rw [u8_nat (by omega), u8_nat (by omega)]
    show World.ownsRow _ _ _ _ _ 2 _
    rw [e]
    exact this
  clear hx0
  go_enter Tryz.func33, Tryz.ntmps33
  go_wp2_with fail
  go_loopw [3, 18] (fun v i wr => ∃ j : Nat, j ≤ t.fs.length ∧ i = .int .i64 j ∧ PK w wr #[.int .i64 t.cyc, .int .i64 t.fr, .slice a t.fs.length cc] v (u8 t.cyc :: u8 t.fr :: (t.fs.take j).flatMap frB) ∧ (u8 t.cyc :: u8 t.fr :: (t.fs.take j).flatMap frB).length ≤ 2 + 200 * j) (fun _ i _ => 200 - (intOf i).toNat)
  case atStart => exact ⟨0, by omega, rfl, by simpa using H0.out, by simp⟩
  case round =>
    clear H0
    obtain ⟨j, hj, rfl, hP, hlen⟩ := hrel
    by_cases hlt : j < t.fs.length
    · have hlt' : (j : Int) < t.fs.length := by omega
      obtain ⟨g, rfl, hg, hF⟩ := Hr.out (by omega)
      obtain ⟨fa, fc, hfc0, hfa⟩ := hF j hlt
      have hfc := (hP.bel.cell (p := ⟨g, j, none⟩) hg).trans hfc0
      have hm : frk t.fs j ∈ t.fs := by rw [← frk_eq hlt]; exact List.getElem_mem _
      obtain ⟨hfl1, hfl2⟩ := Hsm.out _ hm
      have hsmall : Hid (∀ q, q < (frk t.fs j).length → (slk (frk t.fs j) q).job < 60 ∧ (slk (frk t.fs j) q).bud ≤ 60) := by
        intro q hq
        have := hfl2 (slk (frk t.fs j) q) (by rw [← slk_eq hq]; exact List.getElem_mem _)
        omega
      have hft : Hid ((t.fs.take (j + 1)).flatMap frB = (t.fs.take j).flatMap frB ++ frB (frk t.fs j)) := by
        unfold Hid
        rw [List.take_succ_eq_append_getElem hlt, List.flatMap_append, frk_eq hlt]
        simp
      have hfbl : (frB (frk t.fs j)).length ≤ 181 := by
        have := frB_len [frk t.fs j]
        simp at this
        omega
      have HFA := hide hfa
      have HP := hide hP
      have ow := hP.ow
      have hsz := hP.bel.size
      have hhx := blk_lt hP.hx
      clear hfc0 hF hm hfl2 hP hfa
      generalize hL0 : u8 t.cyc :: u8 t.fr :: (t.fs.take j).flatMap frB = L at *
      have HL0 := hide hL0
      clear hL0
      go_wp2_with (at_builtin; refine wpList_append_own _ rfl _ _ 64 rfl (w.heap.size + 1) 5 i0 _ 1 1 Tryz.underlying64 hi hz0 hz1 hz2 rfl (by decide) _ _ _ rfl (ow.alloc _) ⟨wr.heap.size, 0, none⟩ 1 1 [.int .u8 (frk t.fs j).length] rfl rfl ?c1 ?c2 ?c3 ?c4 ?c5 ?_)
      case c1 => exact cells_new wr #[_] _ _ rfl
      case c2 => simp [Value.oneCell']
      case c3 => unfold maxLen; omega
      case c4 => omega
      case c5 => simp; omega
      intro v' w2 hown2 hgr _
      have hP2 := (HP.out.call (below_new wr (.cells #[.int .u8 (frk t.fs j).length] 5))).push (M := [u8 (frk t.fs j).length]) hgr hown2 (by simp) (by rw [bV_app]; congr 1; simp only [bV, List.map_cons, List.map_nil]; rw [u8_nat (by omega)])
      have H2 := hide hP2
      clear hown2 hgr hP2 ow HP hfc
      go_wp2_with fail
      go_loopw [3, 30] (fun v i wr => ∃ k : Nat, k ≤ (frk t.fs j).length ∧ i = .int .i64 k ∧ PK w wr #[.int .i64 t.cyc, .int .i64 t.fr, .slice (some ⟨g, 0, none⟩) t.fs.length cc] v ((L ++ [u8 (frk t.fs j).length]) ++ ((frk t.fs j).take k).flatMap slB) ∧ (((L ++ [u8 (frk t.fs j).length]) ++ ((frk t.fs j).take k).flatMap slB)).length ≤ L.length + 1 + 3 * k) (fun _ i _ => 200 - (intOf i).toNat)
      case atStart => exact ⟨0, by omega, rfl, by simpa using H2.out, by simp⟩
      case round =>
        clear H2
        obtain ⟨k, hk, rfl, hP, hlen2⟩ := hrel
        by_cases hkl : k < (frk t.fs j).length
        · have hkl' : (k : Int) < (frk t.fs j).length := by omega
          obtain ⟨gf, rfl, hgf, hrow⟩ := HFA.out (by omega)
          obtain ⟨r0, r1, r2⟩ := hrow.below hP.bel hgf k hkl
          obtain ⟨hjb, hbd⟩ := hsmall.out k hkl
          have hfs : Hid (((frk t.fs j).take (k + 1)).flatMap slB = ((frk t.fs j).take k).flatMap slB ++ slB (slk (frk t.fs j) k)) := by
            unfold Hid
            rw [List.take_succ_eq_append_getElem hkl, List.flatMap_append, slk_eq hkl]
            simp
          have HP := hide hP
          have ow := hP.ow
          have hsz := hP.bel.size
          have hnm := UInt8.toNat_lt (slk (frk t.fs j) k).nm
          clear hrow hP
          generalize hLL : (L ++ [u8 (frk t.fs j).length]) ++ ((frk t.fs j).take k).flatMap slB = LL at *
          have HLL := hide hLL
          clear hLL
          generalize slk (frk t.fs j) k = y at *
          go_wp2_with (at_builtin; refine wpList_append_own _ rfl _ _ 64 rfl (w.heap.size + 1) 5 i0 _ 1 1 Tryz.underlying64 hi hz0 hz1 hz2 rfl (by decide) _ _ _ rfl ((ow.alloc _).alloc _) ⟨wr.heap.size + 1, 0, none⟩ 3 3 [.int .u8 y.nm.toNat, .int .u8 y.job, .int .u8 y.bud] rfl rfl ?c1 ?c2 ?c3 ?c4 ?c5 ?_)
          case c1 => exact cells_new (wr.alloc _) #[_, _, _] _ _ (by simp)
          case c2 => simp [Value.oneCell']
          case c3 => unfold maxLen; omega
          case c4 => omega
          case c5 => simp; omega
          intro v' w3 hown3 hgr _
          have hP3 := ((HP.out.call (below_new wr _)).call (below_new _ _)).push (M := slB y) hgr hown3 (by simp [slB]) (by rw [bV_app]; congr 1; simp only [bV, slB, List.map_cons, List.map_nil]; rw [u8_nat (by omega), u8_nat (by omega)])
          have H3 := hide hP3
          clear hown3 hgr hP3 ow HP
          go_wp2
          go_roundw
          case rel =>
            refine ⟨k + 1, by omega, by go_num, ?_, ?_⟩
            · rw [hfs.out, ← List.append_assoc, HLL.out]; exact H3.out
            · rw [hfs.out, ← List.append_assoc, HLL.out, List.length_append]; simp [slB]; omega
          case measure => simp [intOf]; omega
        · have hkl' : ¬ (k : Int) < (frk t.fs j).length := by omega
          have hke : (frk t.fs j).take k = frk t.fs j := List.take_of_length_le (by omega)
          have hEq : (L ++ [u8 (frk t.fs j).length]) ++ ((frk t.fs j).take k).flatMap slB = L ++ frB (frk t.fs j) := by
            rw [hke]; simp [frB]
          rw [hEq] at hP
          have HP := hide hP
          clear hP hEq hlen2
          have hL2 : Hid (u8 t.cyc :: u8 t.fr :: (t.fs.take (j + 1)).flatMap frB = (u8 t.cyc :: u8 t.fr :: (t.fs.take j).flatMap frB) ++ frB (frk t.fs j)) := by
            unfold Hid
            rw [hft.out]; rfl
          go_wp2
          go_roundw
          case rel =>
            refine ⟨j + 1, by omega, by go_num, ?_, ?_⟩
            · rw [hL2.out, HL0.out]; exact HP.out
            · rw [hL2.out, HL0.out, List.length_append]; omega
          case measure => simp [intOf]; omega
    · have hlt' : ¬ (j : Int) < t.fs.length := by omega
      have hje : u8 t.cyc :: u8 t.fr :: (t.fs.take j).flatMap frB = bodyB t := by
        rw [List.take_of_length_le (by omega)]; rfl
      rw [hje] at hP hlen
      clear hje
      have hbl : 0 < (bodyB t).length := by simp [bodyB]
      obtain ⟨gb, cap, rfl, hg1, hg2⟩ := own_form hP.ow (by omega)
      have hcell : ∀ W : World, Below wr.heap.size wr W → ∀ q, (hq : q < (bodyB t).length) → W.cell? ⟨gb, q, none⟩ = some (.int .u8 ((bodyB t)[q].toNat : Int)) := by
        intro W hW q hq
        rw [hW.cell (p := ⟨gb, q, none⟩) hg2, hP.ow.cellAt q (by omega)]
        simp [bV, hq]
      have hcv := fun W hW => bytesN (bodyB t) W gb cap (hcell W hW)
      have Hcv := hide hcv
      have cv0 := hcv wr.drew (below_drewN (Below.refl _ _) 1)
      have HB := hide hP.bel
      have hsl : (sumL (bodyB t)).length = 4 := rfl
      clear hcell hcv hP
      obtain ⟨X1, a1, z1, e1⟩ := add_named2 ⟨(bodyB t).toArray⟩ (bs (sumL (bodyB t))) (by simp [ByteArray.size, bs, hsl]; omega)
      have EX : Hid (X1 = bs (bodyB t ++ sumL (bodyB t))) := by
        unfold Hid
        rw [← bs_list X1, e1, bs_data]
      have HSum : Hid (∀ W, Calls Tryz.prog 68 #[.string ⟨(bodyB t).toArray⟩] W fun e w' => e = .returned (.string (bs (sumL (bodyB t)))) ∧ Below W.heap.size W w') := fun W => by
        have := sumOf_any ⟨(bodyB t).toArray⟩ W (by simp [ByteArray.size]; omega)
        simpa using this
      clear z1 e1 hsl
      generalize bodyB t = BB at *
      generalize bs (sumL BB) = SS at *
      go_wp2_with fail
      go_region_with (go_at_call 68; refine (HSum.out _).mono ?_; rintro e w9 ⟨rfl, hb9⟩; have cv9 := Hcv.out w9 ((below_drewN (Below.refl wr.heap.size wr) 1).trans hb9))
      all_goals
        have HB9 := hide (HB.out.trans (((below_drewN (Below.refl wr.heap.size wr) 1).trans hb9).mono HB.out.size))
        clear hb9
        go_wp2
        go_ret
        exact ⟨by rw [show RR = X1 from HRR.out.symm.trans EX.out.symm]; rfl, HB9.out⟩
end Go.Proofs.YtbdffcjganlblaaGreatDoor
