/-
  Own work. The program: a set's text.
-/
import Derived.Test.YtbdffcjganlblaaGreatDoorMRnEtoProgL
import Derived.Test.YtbdffcjganlblaaGreatDoorMTbFtoRnD
import Derived.Test.YtbdffcjganlblaaGreatDoorMRefWtoRefX
import Derived.Deep.RegionHeldLaw
import Derived.Deep.DeepCutAuto
import Derived.Test.YtbdffcjganlblaaGreatDoorMTbCtoPrE
import Derived.Test.YtbdffcjganlblaaGreatDoorMTbItoTbJ
namespace Go.Proofs.YtbdffcjganlblaaGreatDoor
open Go.RowKit
set_option linter.unusedVariables false
set_option linter.unusedSimpArgs false

theorem isB_below {w w' : World} {T e : TypeId} {B b : Nat} {l : List Value} (h : Lib.IsBuilder T e B b l w) (hb : Below w.heap.size w w') : Lib.IsBuilder T e B b l w' := by
  rcases h with ⟨h1, v, h2, h3, h4⟩ | ⟨h1, v, h2, h3, h4⟩
  · exact .inl ⟨h1, v, blk_keep h2 hb, owns_below h3 hb, h4⟩
  · exact .inr ⟨h1, v, blk_keep h2 hb, owns_below h3 hb, h4⟩
theorem isB_lt {w : World} {T e : TypeId} {B b : Nat} {l : List Value} (h : Lib.IsBuilder T e B b l w) : b < w.heap.size := by
  rcases h with h | h
  · exact h.lt
  · exact h.lt
theorem byteCells_app (a b : List UInt8) : Lib.byteCells a ++ Lib.strCells (bs b) = Lib.byteCells (a ++ b) := by
  simp [Lib.byteCells, Lib.strCells, bs]
theorem byteCells_len (a : List UInt8) : (Lib.byteCells a).length = a.length := by simp [Lib.byteCells]

end Go.Proofs.YtbdffcjganlblaaGreatDoor

namespace Go.Proofs.YtbdffcjganlblaaGreatDoor
open Go.RowKit Go.Shelf
set_option linter.unusedVariables false
set_option linter.unusedSimpArgs false

set_option maxRecDepth 100000 in
set_option maxHeartbeats 2000000 in
theorem sliceText_any (s : Sl) (w : World) (h1 : s.job < 100) (h2 : s.bud < 100) :
    Calls Tryz.prog 113 #[.agg #[.int .u8 s.nm.toNat, .int .i64 s.job, .int .i64 s.bud]] w fun e w' => e = .returned (.string (bs (slTxt s))) ∧ Below w.heap.size w w' := by
  have hd1 := dB_size s.job
  have hd2 := dB_size s.bud
  obtain ⟨X2, a2, z2, e2⟩ := add_named2 ⟨#[s.nm]⟩ (dB s.job) (by rw [show (ByteArray.size ⟨#[s.nm]⟩) = 1 from rfl]; omega)
  rw [show (ByteArray.size ⟨#[s.nm]⟩) = 1 from rfl] at z2
  obtain ⟨X3, a3, z3, e3⟩ := add_named2 X2 ⟨#[58]⟩ (by rw [show (ByteArray.size ⟨#[58]⟩) = 1 from rfl]; omega)
  rw [show (ByteArray.size ⟨#[58]⟩) = 1 from rfl] at z3
  obtain ⟨X4, a4, z4, e4⟩ := add_named2 X3 (dB s.bud) (by omega)
  have EX : Hid (X4 = bs (slTxt s)) := by
    unfold Hid
    rw [← bs_list X4, e4, e3, e2]
    simp [slTxt, dL]
  clear z2 z3 z4 e2 e3 e4
  have hX0 := blk_new w #[.int .u8 s.nm.toNat, .int .i64 s.job, .int .i64 s.bud] 106
  have hB0 := hide (below_new w (.cells #[.int .u8 s.nm.toNat, .int .i64 s.job, .int .i64 s.bud] 106))
  have hcv := bytes1 s.nm
  go_enter Tryz.func113, Tryz.ntmps113
  go_wp2_with fail
  generalize w.alloc (.cells #[.int .u8 s.nm.toNat, .int .i64 s.job, .int .i64 s.bud] 106) = wr at *
  have x0 : wr.cell? ⟨w.heap.size, 0, none⟩ = some (.int .u8 s.nm.toNat) := blk_cell hX0 0
  have x1 : wr.cell? ⟨w.heap.size, 1, none⟩ = some (.int .i64 s.job) := blk_cell hX0 1
  have x2 : wr.cell? ⟨w.heap.size, 2, none⟩ = some (.int .i64 s.bud) := blk_cell hX0 2
  have hlt := blk_lt hX0
  clear hX0
  have HJ : Hid (∀ W, Calls Tryz.prog 71 #[.int .i64 s.job] W fun e w' => e = .returned (.string (dB s.job)) ∧ w' = W) := fun W => itoa_any s.job W h1
  have HD : Hid (∀ W, Calls Tryz.prog 71 #[.int .i64 s.bud] W fun e w' => e = .returned (.string (dB s.bud)) ∧ w' = W) := fun W => itoa_any s.bud W h2
  have KA : Hid (∀ W : World, W.cell? ⟨w.heap.size, 0, none⟩ = some (.int .u8 s.nm.toNat) ∧ W.cell? ⟨w.heap.size, 1, none⟩ = some (.int .i64 s.job) ∧ W.cell? ⟨w.heap.size, 2, none⟩ = some (.int .i64 s.bud) → (W.alloc (.cells #[.int .u8 s.nm.toNat] 5)).cell? ⟨w.heap.size, 0, none⟩ = some (.int .u8 s.nm.toNat) ∧ (W.alloc (.cells #[.int .u8 s.nm.toNat] 5)).cell? ⟨w.heap.size, 1, none⟩ = some (.int .i64 s.job) ∧ (W.alloc (.cells #[.int .u8 s.nm.toNat] 5)).cell? ⟨w.heap.size, 2, none⟩ = some (.int .i64 s.bud)) := by
    rintro W ⟨q0, q1, q2⟩
    have hl := World.block_lt_of_cell? W ⟨w.heap.size, 0, none⟩ q0
    rw [World.cell?_alloc_past _ _ _ hl, World.cell?_alloc_past _ _ _ hl, World.cell?_alloc_past _ _ _ hl]
    exact ⟨q0, q1, q2⟩
  clear h1 h2
  generalize dB s.job = DJ at *
  generalize dB s.bud = DD at *
  go_region_held_law (fun w' => w'.cell? ⟨w.heap.size, 0, none⟩ = some (.int .u8 s.nm.toNat) ∧ w'.cell? ⟨w.heap.size, 1, none⟩ = some (.int .i64 s.job) ∧ w'.cell? ⟨w.heap.size, 2, none⟩ = some (.int .i64 s.bud)) (first | exact ⟨x0, x1, x2⟩ | exact KA.out wr ⟨x0, x1, x2⟩)
    (first | (go_at_call 71; refine (HJ.out _).mono ?_; rintro e w8 ⟨rfl, rfl⟩) | (go_at_call 71; refine (HD.out _).mono ?_; rintro e w9 ⟨rfl, rfl⟩))
  all_goals
    go_wp2
    go_ret
    refine ⟨by rw [← EX.out]; rfl, ?_⟩
    exact (hB0.out.trans ((below_new wr _).drew.mono hB0.out.size))

theorem join_tail (s : Sl) : ∀ (r : List Sl), slTxt s ++ Lib.joinTail [44] (r.map slTxt) = frTxt (s :: r)
  | [] => by simp [Lib.joinTail, frTxt]
  | x :: r => by
    have := join_tail x r
    simp only [frTxt]
    rw [← this]
    simp [Lib.joinTail]
theorem fr_join (f : List Sl) : Lib.join (f.map slTxt) [44] = frTxt f := by
  cases f with
  | nil => rfl
  | cons s r =>
    rw [List.map_cons, Lib.join_cons, join_tail]

end Go.Proofs.YtbdffcjganlblaaGreatDoor

namespace Go.Proofs.YtbdffcjganlblaaGreatDoor
open Go.RowKit Go.Shelf
set_option linter.unusedVariables false
set_option linter.unusedSimpArgs false

set_option maxRecDepth 100000 in
set_option maxHeartbeats 2000000 in
theorem frameText_any (f : List Sl) (a : Option Addr) (c : Nat) (w : World) (hr : FrA w a f) (hn : f.length ≤ 100) (hs : ∀ k, k < f.length → (slk f k).job < 100 ∧ (slk f k).bud < 100) :
    Calls Tryz.prog 72 #[.slice a f.length c] w fun e w' => e = .returned (.string (bs (frTxt f))) ∧ Below w.heap.size w w' := by
  obtain ⟨i0, hi, hz0, hz1, hz2⟩ := info_parts Tryz.infoStr
  have Hr := hide hr
  have Hs := hide hs
  clear hr hs
  go_enter Tryz.func72, Tryz.ntmps72
  go_wp2_with fail
  go_loopw [3, 8] (fun v i wr => ∃ k : Nat, k ≤ f.length ∧ i = .int .i64 k ∧ wr.ownsRow w.heap.size 9 1 v k ((f.take k).map (fun s => Value.string (bs (slTxt s)))) ∧ Below w.heap.size w wr) (fun _ i _ => 200 - (intOf i).toNat)
  case atStart => exact ⟨0, by omega, rfl, World.ownsRow_nil _ _ _ _, Below.refl _ _⟩
  case round =>
    obtain ⟨k, hk, rfl, how, hb⟩ := hrel
    obtain ⟨va, vc, rfl⟩ := own_slice how
    have HB := hide hb
    have How := hide how
    by_cases hlt : k < f.length
    · have hlt' : (k : Int) < f.length := by omega
      obtain ⟨g, rfl, hg, hrow⟩ := Hr.out (by omega)
      obtain ⟨r0, r1, r2⟩ := hrow.below hb hg k hlt
      obtain ⟨hj, hbd⟩ := Hs.out k hlt
      have htk : Hid ((f.take (k + 1)).map (fun s => Value.string (bs (slTxt s))) = (f.take k).map (fun s => Value.string (bs (slTxt s))) ++ [.string (bs (slTxt (slk f k)))]) := by
        unfold Hid
        rw [List.take_succ_eq_append_getElem hlt, List.map_append, slk_eq hlt]
        rfl
      clear hb how hrow
      go_wp2_with fail
      refine (sliceText_any (slk f k) _ hj hbd).mono ?_
      rintro e w1 ⟨rfl, hb1⟩
      have hb2 : Below wr.heap.size wr w1 := (below_new wr _).trans (hb1.mono (by simp))
      have how1 := owns_below How.out hb2
      have HB1 := hide (HB.out.trans (hb2.mono HB.out.size))
      have hsz1 := HB1.out.size
      clear hb1 hb2 r0 r1 r2
      go_wp2_with (at_builtin; refine wpList_append_own _ rfl _ _ 159 rfl w.heap.size 9 i0 _ 1 16 Tryz.underlying159 hi hz0 hz1 hz2 rfl (by decide) _ _ _ rfl (how1.alloc _) ⟨w1.heap.size, 0, none⟩ 1 1 [.string (bs (slTxt (slk f k)))] rfl rfl ?c1 ?c2 ?c3 ?c4 ?c5 ?_)
      case c1 => exact cells_new w1 #[_] _ _ rfl
      case c2 => simp [Value.oneCell']
      case c3 => unfold maxLen; omega
      case c4 => omega
      case c5 => simp; omega
      intro v' w2 hown2 hgr _
      have hbel : Below w.heap.size w w2 := (HB1.out.alloc HB1.out.size _).grown hgr (by simp; omega) (fun q hq => (how1.lt _ hq).1)
      have Hbel := hide hbel
      have Hown2 := hide hown2
      clear hown2 hgr hbel how1
      go_wp2
      go_roundw
      case rel => exact ⟨k + 1, by omega, by go_num, by rw [htk.out, List.map_take]; exact Hown2.out, Hbel.out⟩
      case measure => simp [intOf]; omega
    · have hlt' : ¬ (k : Int) < f.length := by omega
      have hke : k = f.length := by omega
      subst hke
      have hj := fr_join f
      have Hj := hide hj
      clear hb how hj
      by_cases hf : f.length = 0
      · have hfn : f = [] := List.length_eq_zero_iff.1 hf
        subst hfn
        simp only [List.length_nil] at *
        go_wp2_with fail
        refine (show Calls Tryz.prog 114 #[.slice va 0 vc, .string ⟨#[44]⟩] wr fun e w' => e = .returned (.string ⟨#[]⟩) ∧ w' = wr from Any.strings_Join_none Tryz.lays156 Tryz.Builder_Extra_156 va vc ⟨#[44]⟩ wr).mono ?_
        rintro e w' ⟨rfl, rfl⟩
        go_wp2
        go_ret
        exact ⟨rfl, HB.out⟩
      · obtain ⟨gb, cap, he, hg1, hg2⟩ := own_form How.out (by omega)
        injection he with e1 _ e3
        subst e1 e3
        have hcells : ∀ (j : Nat) (x : ByteArray), (f.map (fun s => bs (slTxt s)))[j]? = some x → wr.cell? ⟨gb, 0 + j, none⟩ = some (.string x) := by
          intro j x hx
          have hj : j < f.length := by
            rcases Nat.lt_or_ge j f.length with h | h
            · exact h
            · rw [List.getElem?_eq_none (by simpa using h)] at hx; simp at hx
          rw [Nat.zero_add, How.out.cellAt j (by omega), List.take_length]
          rw [List.getElem?_map] at hx ⊢
          cases hq : f[j]? with
          | none => rw [hq] at hx; simp at hx
          | some y => rw [hq] at hx; simp at hx; simp [hx]
        have hcp := own_cap How.out
        have hm : (f.map (fun s => bs (slTxt s))).map (·.data.toList) = f.map slTxt := by simp [Function.comp_def, bs_data]
        have hjn := join_any gb 0 vc (f.map (fun s => bs (slTxt s))) ⟨#[44]⟩ wr hcells hg2 (by simp; omega) (by simpa using hcp) (by
          rw [hm]
          show (Lib.join (f.map slTxt) [44]).length ≤ _
          rw [Hj.out]
          have := frTxt_len f
          omega)
        rw [hm, List.length_map] at hjn
        have hjn2 : Calls Tryz.prog 114 #[.slice (some ⟨gb, 0, none⟩) f.length vc, .string ⟨#[44]⟩] wr fun e w' => e = .returned (.string (bs (frTxt f))) ∧ Below wr.heap.size wr w' := hjn.mono fun e w' h => ⟨by rw [h.1]; show Ending.returned (.string ⟨(Lib.join (f.map slTxt) [44]).toArray⟩) = _; rw [Hj.out]; rfl, h.2⟩
        have Hjn := hide hjn2
        clear hjn hjn2 hcells hm
        go_wp2_with fail
        refine Hjn.out.mono ?_
        rintro e w1 ⟨rfl, hb1⟩
        have HB1 := hide (HB.out.trans (hb1.mono HB.out.size))
        clear hb1
        go_wp2
        go_ret
        exact ⟨rfl, HB1.out⟩

/-- The builder so far, and the table. -/
structure TG (w wr : World) (L : List UInt8) (tv : Array Value) : Prop where
  isb : Lib.IsBuilder 109 5 (w.heap.size + 1) (w.heap.size + 1) (Lib.byteCells L) wr
  hx : wr.heap[w.heap.size]? = some (.cells tv 61 (0, 0))
  bel : Below w.heap.size w wr
theorem TG.call {w wr w' : World} {L : List UInt8} {tv : Array Value} (h : TG w wr L tv) (hb : Below wr.heap.size wr w') : TG w w' L tv :=
  ⟨isB_below h.isb hb, blk_keep h.hx hb, h.bel.trans (hb.mono h.bel.size)⟩
theorem TG.wrote {w wr w' : World} {L M : List UInt8} {tv : Array Value} {p : Value} (h : TG w wr L tv) (hp : p = .pointer (some ⟨w.heap.size + 1, 0, none⟩)) (hat : Lib.BuilderAt 109 5 (w.heap.size + 1) (w.heap.size + 1) p (Lib.byteCells L ++ Lib.strCells (bs M)) w') (hb : Below (w.heap.size + 1) wr w') : TG w w' (L ++ M) tv := by
  subst hp
  refine ⟨.inr ?_, ?_, h.bel.trans (hb.mono (by omega))⟩
  · rw [← byteCells_app]; exact hat
  · rw [hb.block _ (by omega)]; exact h.hx
theorem TG.start (w : World) (tv : Array Value) : TG w ((w.alloc (.cells tv 61)).alloc (.cells #[.pointer none, .slice none 0 0] 109)) [] tv := by
  refine ⟨.inl ⟨Nat.le_refl _, .slice none 0 0, ?_, World.ownsRow_nil _ _ _ _, by simp [Value.ownBlock]⟩, ?_, (below_new w _).alloc (by simp) _⟩
  · simpa using blk_new (w.alloc (.cells tv 61)) #[.pointer none, .slice none 0 0] 109
  · rw [Below.heap_alloc _ _ _ (by simp)]; exact blk_new _ _ _

set_option maxRecDepth 100000 in
set_option maxHeartbeats 2000000 in
theorem tableText_any (t : Tb) (a : Option Addr) (cc : Nat) (w : World) (hr : FvA w a t.fs) (hS : Sound t) :
    Calls Tryz.prog 36 #[.agg #[.int .i64 t.cyc, .int .i64 t.fr, .slice a t.fs.length cc]] w fun e w' => e = .returned (.string (bs (tbTxt t))) ∧ Below w.heap.size w w' := by
  obtain ⟨hf1, hf2, hn1, hn2, hfl⟩ := hS.frames
  have hc2 := hS.c2
  have Hsm := hide hS.small
  have Hr := hide hr
  clear hr hS
  have H0 := hide (TG.start w #[.int .i64 t.cyc, .int .i64 t.fr, .slice a t.fs.length cc])
  have hd1 := dB_size t.cyc
  have hd2 := dB_size t.fr
  obtain ⟨X1, a1, z1, e1⟩ := add_named2 ⟨#[99, 121, 99, 108, 101, 32]⟩ (dB t.cyc) (by rw [show (ByteArray.size ⟨#[99, 121, 99, 108, 101, 32]⟩) = 6 from rfl]; omega)
  rw [show (ByteArray.size ⟨#[99, 121, 99, 108, 101, 32]⟩) = 6 from rfl] at z1
  obtain ⟨X2, a2, z2, e2⟩ := add_named2 X1 ⟨#[32, 102, 114, 97, 109, 101, 32]⟩ (by rw [show (ByteArray.size ⟨#[32, 102, 114, 97, 109, 101, 32]⟩) = 7 from rfl]; omega)
  rw [show (ByteArray.size ⟨#[32, 102, 114, 97, 109, 101, 32]⟩) = 7 from rfl] at z2
  obtain ⟨X3, a3, z3, e3⟩ := add_named2 X2 (dB t.fr) (by omega)
  obtain ⟨X4, a4, z4, e4⟩ := add_named2 X3 ⟨#[59, 10]⟩ (by rw [show (ByteArray.size ⟨#[59, 10]⟩) = 2 from rfl]; omega)
  rw [show (ByteArray.size ⟨#[59, 10]⟩) = 2 from rfl] at z4
  have E4 : Hid (X4 = bs (hdTxt t.cyc t.fr)) := by
    unfold Hid
    rw [← bs_list X4, e4, e3, e2, e1]
    simp [hdTxt, dL]
  have hhd := hdTxt_len t.cyc t.fr
  clear z1 z2 z3 z4 e1 e2 e3 e4
  have x := blk_cell H0.out.hx
  have HT0 : Hid (TG w (((w.alloc (.cells #[.int .i64 t.cyc, .int .i64 t.fr, .slice a t.fs.length cc] 61)).alloc (.cells #[.pointer none, .slice none 0 0] 109)).drew) [] #[.int .i64 t.cyc, .int .i64 t.fr, .slice a t.fs.length cc]) := H0.out.call (below_drewN (Below.refl _ _) 1)
  have HWS : Hid (∀ W, TG w W [] #[.int .i64 t.cyc, .int .i64 t.fr, .slice a t.fs.length cc] → Calls Tryz.prog 70 #[.pointer (some ⟨w.heap.size + 1, 0, none⟩), .string X4] W fun e w' => e = .returned (.tuple #[.int .i64 X4.size, .nilIface]) ∧ TG w w' (hdTxt t.cyc t.fr) #[.int .i64 t.cyc, .int .i64 t.fr, .slice a t.fs.length cc]) := by
    intro W hW
    have hl := isB_lt hW.isb
    refine (writeString_any _ _ _ X4 _ hW.isb (by rw [byteCells_len, E4.out, bs_size]; simp; omega) (by omega)).mono ?_
    rintro e w3 ⟨rfl, hat, hb3⟩
    rw [E4.out] at hat
    exact ⟨rfl, by simpa using hW.wrote rfl hat hb3⟩
  have HI1 : Hid (∀ W, Calls Tryz.prog 71 #[.int .i64 t.cyc] W fun e w' => e = .returned (.string (dB t.cyc)) ∧ w' = W) := fun W => itoa_any t.cyc W (by omega)
  have HI2 : Hid (∀ W, Calls Tryz.prog 71 #[.int .i64 t.fr] W fun e w' => e = .returned (.string (dB t.fr)) ∧ w' = W) := fun W => itoa_any t.fr W (by omega)
  go_enter Tryz.func36, Tryz.ntmps36
  go_wp2_with fail
  go_cut [16] (fun _ wc => TG w wc (hdTxt t.cyc t.fr) #[.int .i64 t.cyc, .int .i64 t.fr, .slice a t.fs.length cc])
  case first =>
    go_region_with (first | (go_at_call 71; (first | refine (HI1.out _).mono ?_ | refine (HI2.out _).mono ?_); rintro e w' ⟨rfl, rfl⟩) | (go_at_call 70; refine (HWS.out _ ?hw).mono ?_; (case hw => exact HT0.out); rintro e w3 ⟨rfl, hT3⟩))
    all_goals
      have HT3 := hide hT3
      clear hT3
      go_wp2
      go_meet
      case rel => exact HT3.out
  case rest =>
    clear H0 HT0 HWS HI1 HI2 a1 a2 a3 a4 x hd1 hd2 E4
    have HT := hide hcut
    have x := blk_cell hcut.hx
    clear hcut
    go_wp2_with fail
    clear x
    go_loopw [20] (fun i wr => ∃ k : Nat, k ≤ t.fs.length ∧ i = .int .i64 k ∧ TG w wr (hdTxt t.cyc t.fr ++ (t.fs.take k).flatMap (fun f => frTxt f ++ [59, 10])) #[.int .i64 t.cyc, .int .i64 t.fr, .slice a t.fs.length cc] ∧ (hdTxt t.cyc t.fr ++ (t.fs.take k).flatMap (fun f => frTxt f ++ [59, 10])).length ≤ 19 + 1000 * k) (fun i _ => 200 - (intOf i).toNat)
    case atStart => exact ⟨0, by omega, rfl, by simpa using HT.out, by simp; omega⟩
    case round =>
      clear HT
      obtain ⟨k, hk, rfl, hT, hlen⟩ := hrel
      by_cases hlt : k < t.fs.length
      · have hlt' : (k : Int) < t.fs.length := by omega
        obtain ⟨g, rfl, hg, hF⟩ := Hr.out (by omega)
        obtain ⟨fa, fc, hfc0, hfa⟩ := hF k hlt
        have hfc := (hT.bel.cell (p := ⟨g, k, none⟩) hg).trans hfc0
        have HFA := hide (hfa.below hT.bel (Nat.le_refl _))
        have hm : frk t.fs k ∈ t.fs := by rw [← frk_eq hlt]; exact List.getElem_mem _
        obtain ⟨hfl1, hfl2⟩ := Hsm.out _ hm
        have hsmall : Hid (∀ q, q < (frk t.fs k).length → (slk (frk t.fs k) q).job < 100 ∧ (slk (frk t.fs k) q).bud < 100) := by
          intro q hq
          have := hfl2 (slk (frk t.fs k) q) (by rw [← slk_eq hq]; exact List.getElem_mem _)
          omega
        have hft : Hid ((t.fs.take (k + 1)).flatMap (fun f => frTxt f ++ [59, 10]) = (t.fs.take k).flatMap (fun f => frTxt f ++ [59, 10]) ++ (frTxt (frk t.fs k) ++ [59, 10])) := by
          unfold Hid
          rw [List.take_succ_eq_append_getElem hlt, List.flatMap_append, frk_eq hlt]
          simp
        have hfrl := frTxt_len (frk t.fs k)
        obtain ⟨X5, a5, z5, e5⟩ := add_named2 (bs (frTxt (frk t.fs k))) ⟨#[59, 10]⟩ (by rw [bs_size, show (ByteArray.size ⟨#[59, 10]⟩) = 2 from rfl]; omega)
        have E5 : Hid (X5 = bs (frTxt (frk t.fs k) ++ [59, 10])) := by
          unfold Hid
          rw [← bs_list X5, e5, bs_data]
        have z5' : X5.size ≤ 702 := by rw [E5.out, bs_size, List.length_append]; simp; omega
        have HT := hide hT
        clear hfc0 hfa hF hm hfl2 hT z5 e5
        go_wp2_with fail
        refine (frameText_any (frk t.fs k) fa fc _ HFA.out (by omega) hsmall.out).mono ?_
        rintro e w1 ⟨rfl, hb1⟩
        have HT1 := hide (HT.out.call hb1)
        have hl1 := isB_lt HT1.out.isb
        clear hb1 hfc HT HFA hsmall
        generalize hLL : hdTxt t.cyc t.fr ++ (t.fs.take k).flatMap (fun f => frTxt f ++ [59, 10]) = LL at *
        have HLL := hide hLL
        clear hLL
        go_wp2_with fail
        refine (writeString_any _ _ _ X5 _ HT1.out.isb (by rw [byteCells_len]; omega) (by omega)).mono ?_
        rintro e w3 ⟨rfl, hat, hb3⟩
        rw [E5.out] at hat
        have HT3 := hide (HT1.out.wrote rfl hat hb3)
        clear hat hb3 HT1
        go_wp2
        go_roundw
        case rel =>
          refine ⟨k + 1, by omega, by go_num, ?_, ?_⟩
          · rw [hft.out, ← List.append_assoc, HLL.out]; exact HT3.out
          · rw [hft.out, ← List.append_assoc, HLL.out, List.length_append, List.length_append]; simp; omega
        case measure => simp [intOf]; omega
      · have hlt' : ¬ (k : Int) < t.fs.length := by omega
        have hke : t.fs.take k = t.fs := List.take_of_length_le (by omega)
        rw [hke] at hT
        have HT : Hid (TG w wr (tbTxt t) #[.int .i64 t.cyc, .int .i64 t.fr, .slice a t.fs.length cc]) := hT
        clear hT hlen hke
        have hl1 := isB_lt HT.out.isb
        go_wp2_with fail
        refine (builderString_any _ _ _ _ HT.out.isb (by omega)).mono ?_
        rintro e w1 ⟨rfl, hb1⟩
        have hB := hide (HT.out.bel.trans (hb1.mono (by omega)))
        clear hb1 HT
        go_wp2
        go_ret
        exact ⟨rfl, hB.out⟩
end Go.Proofs.YtbdffcjganlblaaGreatDoor

namespace Go.Proofs.YtbdffcjganlblaaGreatDoor
open Go.RowKit
set_option linter.unusedVariables false
set_option linter.unusedSimpArgs false

/-- The bytes' reader, the rest before it. -/
structure BR (w : World) (b : Nat) (r : List UInt8) : Prop where
  h : w.heap[b]? = some (.cells #[.string (bs r)] 158 (0, 0))
  n : r.length ≤ 1000
section
variable {w : World} {b : Nat} {r : List UInt8}
theorem BR.keep {w' : World} (h : BR w b r) (hb : w'.heap[b]? = w.heap[b]?) : BR w' b r := ⟨by rw [hb]; exact h.h, h.n⟩
theorem BR.alloc (h : BR w b r) (o : Obj) : BR (w.alloc o) b r := h.keep (Below.heap_alloc _ _ _ (blk_lt h.h))
theorem BR.set (h : BR w b r) {X : Nat} (hX : b ≠ X) (o : Nat) (v : Value) : BR (w.setCell ⟨X, o, none⟩ v) b r := h.keep (Below.heap_setCell _ _ _ _ hX)

/-- One byte, or none. -/
def BOut (b : Nat) (r : List UInt8) (K : IntKind) (w : World) (en : Ending) (w' : World) : Prop :=
  w.grownBy w' (some b) ∧ ((r = [] ∧ en = pan 8 0) ∨ (∃ c r', r = c :: r' ∧ BR w' b r' ∧ en = .returned (.int K (c.toNat : Int))))

set_option maxRecDepth 100000 in
set_option maxHeartbeats 1000000 in
theorem btake_any (h : BR w b r) : Calls Tryz.prog 145 #[.pointer (some ⟨b, 0, none⟩)] w (BOut b r .u8 w) := by
  have x0 : w.cell? ⟨b, 0, none⟩ = some (.string (bs r)) := blk_cell h.h 0
  have xf := blk_frozen h.h 0
  have H := hide h
  have hn := h.n
  clear h
  cases r with
  | nil =>
    have he : (bs []).toList.isEmpty = true := by rw [ByteArray.toList_eq, bs_data]; rfl
    go_enter Tryz.func145, Tryz.ntmps145
    go_wp2_with fail
    refine (refuse_any 8 0 _ rfl _).mono ?_
    rintro e w' ⟨rfl, rfl⟩
    exact ⟨rfl, grownBy_refl _ _, .inl ⟨rfl, rfl⟩⟩
  | cons c r' =>
    have hne : ((bs (c :: r')).toList == []) = false := by rw [ByteArray.toList_eq, bs_data]; rfl
    have hz : (bs (c :: r')).size = r'.length + 1 := by rw [bs_size]; rfl
    have hc0 : ∀ h, (bs (c :: r'))[0]'h = c := fun h => rfl
    have hex : (bs (c :: r')).extract 1 (r'.length + 1) = bs r' := by
      rw [ext_bs, bs_data]
      congr 1
      simp
    have hset : Hid (BR (w.setCell ⟨b, 0, none⟩ (.string (bs r'))) b r') := ⟨by rw [blk_set H.out.h]; rfl, by simp at hn; omega⟩
    simp only [List.length_cons] at hn
    generalize bs (c :: r') = R at *
    have hR1 : 0 < R.size := by omega
    go_enter Tryz.func145, Tryz.ntmps145
    go_wp2
    go_ret
    exact ⟨grownBy_set (grownBy_refl _ _) _ _, .inr ⟨c, r', rfl, hset.out, rfl⟩⟩

set_option maxRecDepth 100000 in
set_option maxHeartbeats 1000000 in
theorem bnum_any (h : BR w b r) : Calls Tryz.prog 109 #[.pointer (some ⟨b, 0, none⟩)] w (BOut b r .i64 w) := by
  go_enter Tryz.func109, Tryz.ntmps109
  go_wp2_with fail
  refine (btake_any h).mono ?_
  rintro e w1 ⟨hg, ⟨h0, rfl⟩ | ⟨c, r', h0, h1, rfl⟩⟩
  · exact ⟨rfl, hg, .inl ⟨h0, rfl⟩⟩
  · have hc := UInt8.toNat_lt c
    have Hg := hide hg
    have H0 := hide h0
    have H1 := hide h1
    clear hg h0 h1 h
    go_wp2
    go_ret
    exact ⟨Hg.out, .inr ⟨c, r', H0.out, H1.out, rfl⟩⟩

/-- In the midst of a slice. -/
structure Sq (w wk : World) (c d : Array Value) (b : Nat) (r : List UInt8) : Prop where
  br : BR wk b r
  hx : wk.heap[w.heap.size + 1]? = some (.cells c 106 (0, 0))
  hy : wk.heap[w.heap.size]? = some (.cells d 106 (0, 0))
  g : w.grownBy wk (some b)
  hb : b < w.heap.size
theorem Sq.start (h : BR w b r) (c d : Array Value) : Sq w ((w.alloc (.cells d 106)).alloc (.cells c 106)) c d b r :=
  ⟨(h.alloc _).alloc _, by simpa using blk_new (w.alloc (.cells d 106)) c 106,
    by rw [Below.heap_alloc _ _ _ (by simp)]; exact blk_new w d 106, grownBy_alloc' (World.grownBy_alloc _ _ _) _, blk_lt h.h⟩
theorem Sq.set {wk : World} {c d : Array Value} (h : Sq w wk c d b r) (o : Nat) (v : Value) {c' : Array Value} (hc : c.setIfInBounds o v = c') : Sq w (wk.setCell ⟨w.heap.size + 1, o, none⟩ v) c' d b r := by
  have hb := h.hb
  refine ⟨h.br.set (by omega) o v, ?_, ?_, grownBy_setNew h.g (by omega) o v, hb⟩
  · rw [blk_set h.hx o v, hc]
  · rw [Below.heap_setCell _ _ _ _ (by show w.heap.size ≠ w.heap.size + 1; omega)]; exact h.hy
theorem Sq.call {wk : World} {c d : Array Value} {w' : World} {r' : List UInt8} (h : Sq w wk c d b r) (p : BR w' b r') (g : wk.grownBy w' (some b)) : Sq w w' c d b r' := by
  have hb := h.hb
  exact ⟨p, by rw [g.block _ (blk_lt h.hx) (by simp; omega)]; exact h.hx, by rw [g.block _ (blk_lt h.hy) (by simp; omega)]; exact h.hy, grownBy_trans h.g g, hb⟩
theorem Sq.cells {wk : World} {c d : Array Value} (h : Sq w wk c d b r) : (∀ o, wk.cell? ⟨w.heap.size + 1, o, none⟩ = c[o]?) ∧ (∀ o, wk.frozen? ⟨w.heap.size + 1, o, none⟩ = false) ∧ (∀ o, wk.cell? ⟨w.heap.size, o, none⟩ = d[o]?) ∧ (∀ o, wk.frozen? ⟨w.heap.size, o, none⟩ = false) :=
  ⟨blk_cell h.hx, blk_frozen h.hx, blk_cell h.hy, blk_frozen h.hy⟩

def BsOut (b : Nat) (r : List UInt8) (w : World) (en : Ending) (w' : World) : Prop :=
  w.grownBy w' (some b) ∧ ((r.length < 3 ∧ en = pan 8 0) ∨ (∃ x y z r', r = x :: y :: z :: r' ∧ BR w' b r' ∧ en = .returned (.agg #[.int .u8 (x.toNat : Int), .int .i64 (y.toNat : Int), .int .i64 (z.toNat : Int)])))

set_option maxRecDepth 100000 in
set_option maxHeartbeats 2000000 in
theorem bslice_any (h : BR w b r) : Calls Tryz.prog 146 #[.pointer (some ⟨b, 0, none⟩)] w (BsOut b r w) := by
  have S0 := Sq.start h #[.int .u8 0, .int .i64 0, .int .i64 0] #[.int .u8 0, .int .i64 0, .int .i64 0]
  clear h
  go_enter Tryz.func146, Tryz.ntmps146
  go_wp2_with fail
  refine (btake_any S0.br).mono ?_
  rintro e w1 ⟨hg, ⟨h0, rfl⟩ | ⟨x, r1, h0, h1, rfl⟩⟩
  · exact ⟨rfl, grownBy_trans S0.g hg, .inl ⟨by rw [h0]; simp, rfl⟩⟩
  have F1 := hide h0
  have S1 := S0.call h1 hg
  obtain ⟨x1, x2, x3, x4⟩ := S1.cells
  clear hg h0 h1 S0
  go_wp2_with fail
  have S1 := S1.set 0 (.int .u8 (x.toNat : Int)) (c' := #[.int .u8 (x.toNat : Int), .int .i64 0, .int .i64 0]) rfl
  clear x1 x2 x3 x4
  refine (bnum_any S1.br).mono ?_
  rintro e w2 ⟨hg, ⟨h0, rfl⟩ | ⟨y, r2, h0, h1, rfl⟩⟩
  · exact ⟨rfl, grownBy_trans S1.g hg, .inl ⟨by rw [F1.out, h0]; simp, rfl⟩⟩
  have F2 := hide h0
  have S2 := S1.call h1 hg
  obtain ⟨x1, x2, x3, x4⟩ := S2.cells
  clear hg h0 h1 S1
  go_wp2_with fail
  have S2 := S2.set 1 (.int .i64 (y.toNat : Int)) (c' := #[.int .u8 (x.toNat : Int), .int .i64 (y.toNat : Int), .int .i64 0]) rfl
  clear x1 x2 x3 x4
  refine (bnum_any S2.br).mono ?_
  rintro e w3 ⟨hg, ⟨h0, rfl⟩ | ⟨z, r3, h0, h1, rfl⟩⟩
  · exact ⟨rfl, grownBy_trans S2.g hg, .inl ⟨by rw [F1.out, F2.out, h0]; simp, rfl⟩⟩
  have F3 := hide h0
  have S3 := S2.call h1 hg
  obtain ⟨x1, x2, x3, x4⟩ := S3.cells
  clear hg h0 h1 S2
  have hbb := S3.hb
  have S3' := hide (S3.set 2 (.int .i64 (z.toNat : Int)) (c' := #[.int .u8 (x.toNat : Int), .int .i64 (y.toNat : Int), .int .i64 (z.toNat : Int)]) rfl)
  clear S3
  go_wp2
  refine bodyPost_ret (v := .agg #[.int .u8 (x.toNat : Int), .int .i64 (y.toNat : Int), .int .i64 (z.toNat : Int)]) (by simp [results, Tryz.results146, go_sem, x3]) rfl ⟨?_, .inr ⟨x, y, z, r3, by rw [F1.out, F2.out, F3.out], ?_, rfl⟩⟩
  · have Y : ∀ (wz : World) (o : Nat) (v : Value), w.grownBy wz (some b) → w.grownBy (wz.setCell ⟨w.heap.size, o, none⟩ v) (some b) := fun wz o v hz => grownBy_setNew hz (Nat.le_refl _) o v
    exact Y _ _ _ (Y _ _ _ (Y _ _ _ S3'.out.g))
  · have Y : ∀ (wz : World) (o : Nat) (v : Value), BR wz b r3 → BR (wz.setCell ⟨w.heap.size, o, none⟩ v) b r3 := fun wz o v hz => hz.set (by omega) o v
    exact Y _ _ _ (Y _ _ _ (Y _ _ _ S3'.out.br))
end

/-! ### A frame -/
theorem bSl_short {n : Nat} {r : List UInt8} (h : r.length < 3) : bSl (n + 1) r = none := by
  match r, h with
  | [], _ => rfl
  | [a], _ => rfl
  | [a, b], _ => rfl
structure FB (w wk : World) (b : Nat) (r : List UInt8) (v : Value) (n : Nat) (xs : List Value) : Prop where
  br : BR wk b r
  ow : wk.ownsRow w.heap.size 106 3 v n xs
  g : w.grownBy wk (some b)
  hb : b < w.heap.size
section
variable {w wk : World} {b : Nat} {r : List UInt8} {v : Value} {n : Nat} {xs : List Value}
theorem FB.call (h : FB w wk b r v n xs) {w' : World} {r' : List UInt8} (p : BR w' b r') (g : wk.grownBy w' (some b)) : FB w w' b r' v n xs :=
  ⟨p, h.ow.kept g (.inr (own_ge h.ow h.hb)), grownBy_trans h.g g, h.hb⟩
theorem FB.push (h : FB w wk b r v n xs) {o : Obj} {w2 : World} {v' : Value} {news : List Value} {m : Nat} (hg : (wk.alloc o).grownBy w2 v.ownBlock) (hown : w2.ownsRow w.heap.size 106 3 v' m news) : FB w w2 b r v' m news := by
  have hb := h.hb
  have hsz := h.g.size
  refine ⟨h.br.keep ?_, hown, ?_, hb⟩
  · rw [hg.block b (by simp; omega) (fun e => own_ge h.ow hb e.symm), Below.heap_alloc _ _ _ (by omega)]
  · have ha := grownBy_alloc' h.g o
    refine ⟨hg.os.trans ha.os, hg.tape.trans ha.tape, hg.output.trans ha.output, Nat.le_trans ha.size hg.size, fun k hk hne => ?_⟩
    rw [hg.block k (by simp; omega) (fun e => own_ge h.ow hk e.symm)]
    exact ha.block k hk hne

def bFrame : List UInt8 → Option (List Sl × List UInt8)
  | [] => none
  | c :: r => bSl c.toNat r
def FbOut (b : Nat) (r : List UInt8) (w : World) (en : Ending) (w' : World) : Prop :=
  w.grownBy w' (some b) ∧ ((bFrame r = none ∧ en = pan 8 0) ∨ (∃ f r' a c, bFrame r = some (f, r') ∧ BR w' b r' ∧ en = .returned (.slice a f.length c) ∧ w'.ownsRow w.heap.size 106 3 (.slice a f.length c) f.length (slPs f)))

set_option maxRecDepth 100000 in
set_option maxHeartbeats 2000000 in
theorem bframe_any (h : BR w b r) : Calls Tryz.prog 110 #[.pointer (some ⟨b, 0, none⟩)] w (FbOut b r w) := by
  obtain ⟨i0, hi0, hz0, hz1, hz2⟩ := info_parts Tryz.infoPSl
  have hlt := blk_lt h.h
  go_enter Tryz.func110, Tryz.ntmps110
  go_wp2_with fail
  refine (bnum_any h).mono ?_
  rintro e w1 ⟨hg, ⟨rfl, rfl⟩ | ⟨c, r1, rfl, h1, rfl⟩⟩
  · exact ⟨rfl, hg, .inl ⟨rfl, rfl⟩⟩
  have hc := UInt8.toNat_lt c
  have F0 : Hid (FB w w1 b r1 (.slice none 0 0) 0 []) := ⟨h1, World.ownsRow_nil _ _ _ _, hg, hlt⟩
  clear hg h1 h
  generalize hcn : c.toNat = n at *
  have Hcn := hide hcn
  clear hcn
  go_wp2_with fail
  go_loopw [3, 6] (fun v i wr => ∃ (f : List Sl) (r2 : List UInt8), f.length ≤ n ∧ i = .int .i64 f.length ∧ FB w wr b r2 v f.length (slPs f) ∧ bSl n r1 = (match bSl (n - f.length) r2 with | none => none | some (g, r') => some (f ++ g, r'))) (fun _ i _ => 300 - (intOf i).toNat)
  case atStart => exact ⟨[], r1, by simp, rfl, F0.out, by rw [List.length_nil, Nat.sub_zero]; cases bSl n r1 <;> simp⟩
  case round =>
    clear F0
    obtain ⟨f, r2, hk, rfl, hF, hR⟩ := hrel
    obtain ⟨va, vc, rfl⟩ := own_slice hF.ow
    have HF := hide hF
    by_cases hkn : f.length < n
    · have hkn' : (f.length : Int) < n := by omega
      have HR := hide hR
      clear hR
      go_wp2_with fail
      refine (bslice_any hF.br).mono ?_
      rintro e w2 ⟨hg, ⟨h0, rfl⟩ | ⟨x, y, z, r3, rfl, h1, rfl⟩⟩
      · refine ⟨rfl, grownBy_trans HF.out.g hg, .inl ⟨?_, rfl⟩⟩
        show bSl c.toNat r1 = none
        rw [Hcn.out, HR.out, show n - f.length = (n - f.length - 1) + 1 by omega, bSl_short h0]
      have H2 := hide (HF.out.call h1 hg)
      have hws := H2.out.g.size
      have ow2 := H2.out.ow
      have hR2 : Hid (bSl n r1 = (match bSl (n - (f.length + 1)) r3 with | none => none | some (g, r') => some ((f ++ [⟨x, y.toNat, z.toNat⟩]) ++ g, r'))) := by
        unfold Hid
        rw [HR.out, show n - f.length = (n - (f.length + 1)) + 1 by omega, bSl]
        cases bSl (n - (f.length + 1)) r3 <;> simp
      clear hg h1 hF HF HR
      go_wp2_with (at_builtin; refine wpList_append_own _ rfl _ _ 104 rfl w.heap.size 106 i0 _ 3 24 Tryz.underlying104 hi0 hz0 hz1 hz2 rfl (by decide) _ _ _ rfl (ow2.alloc _) ⟨w2.heap.size, 0, none⟩ 1 1 (slP ⟨x, y.toNat, z.toNat⟩) rfl rfl ?c1 ?c2 ?c3 ?c4 ?c5 ?_)
      case c1 => exact cells_new w2 #[_, _, _] _ _ rfl
      case c2 => simp [slP, Value.oneCell']
      case c3 => unfold maxLen; omega
      case c4 => omega
      case c5 => simp; omega
      intro v' w4 hown4 hgr _
      have S4 := H2.out.push hgr hown4
      have hsl : slPs f ++ slP ⟨x, y.toNat, z.toNat⟩ = slPs (f ++ [⟨x, y.toNat, z.toNat⟩]) := by
        unfold slPs
        rw [List.flatMap_append]
        simp
      rw [hsl] at S4
      obtain ⟨va', vc', rfl⟩ := own_slice S4.ow
      have H4 := hide S4
      clear hown4 hgr ow2 H2 hsl S4
      go_wp2
      go_roundw
      case rel => exact ⟨f ++ [⟨x, y.toNat, z.toNat⟩], r3, by simp; omega, by simp, by simpa using H4.out, by simpa using hR2.out⟩
      case measure => simp [intOf]; omega
    · have hkn' : ¬ (f.length : Int) < n := by omega
      have hfin : Hid (bFrame (c :: r1) = some (f, r2)) := by
        unfold Hid
        show bSl c.toNat r1 = _
        rw [Hcn.out, hR, show n - f.length = 0 by omega, bSl]
        simp
      clear hR hF
      go_wp2
      go_ret
      exact ⟨HF.out.g, .inr ⟨f, r2, va, vc, hfin.out, HF.out.br, rfl, HF.out.ow⟩⟩
end
end Go.Proofs.YtbdffcjganlblaaGreatDoor
