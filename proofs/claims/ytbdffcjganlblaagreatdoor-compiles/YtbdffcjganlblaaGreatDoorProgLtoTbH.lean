/-
  Own work. The program: a task's tokens.
-/
import Derived.Test.YtbdffcjganlblaaGreatDoorProgItoProgK
import Derived.Deep.DeepCutAuto
import Derived.Test.YtbdffcjganlblaaGreatDoorTbEtoTbF
import Derived.Test.YtbdffcjganlblaaGreatDoorRefXtoRefX
import Derived.Deep.RegionHeldLaw
namespace Go.Proofs.YtbdffcjganlblaaGreatDoor
open Go.RowKit
set_option linter.unusedVariables false
set_option linter.unusedSimpArgs false

theorem Tryz.infoStr : (Tryz.prog.info? 9).map (fun i => (i.zero, i.size, i.bytes)) = some (some (.string ⟨#[]⟩), 1, 16) := by kernel_rfl

/-- The memory of tokens: its words so far, and its task. -/
def TT (w wc : World) (x : Tk × Nat) (xs : List ByteArray) (v : Value) : Prop :=
  wc.ownsRow (w.heap.size + 1) 9 1 v xs.length (xs.map Value.string) ∧ wc.heap[w.heap.size]? = some (.cells (ptA x) 172 (0, 0)) ∧ w.grownBy wc none

theorem TT.out {w wc : World} {x : Tk × Nat} {xs : List ByteArray} {v : Value} (h : TT w wc x xs v) (hn : 0 < xs.length) : TokOut xs w (.returned v) wc := by
  obtain ⟨g, cap, rfl, h1, h2⟩ := own_form h.1 hn
  refine ⟨below_grown h.2.2, g, cap, rfl, h2, own_cap h.1, ?_⟩
  intro j y hj
  rw [addr_add]
  exact h.1.cells rfl j _ (by simp [hj])

end Go.Proofs.YtbdffcjganlblaaGreatDoor

namespace Go.Proofs.YtbdffcjganlblaaGreatDoor
open Go.RowKit
set_option linter.unusedVariables false
set_option linter.unusedSimpArgs false

theorem isB_below {w w' : World} {T e : TypeId} {B b : Nat} {l : List Value} (h : Lib.IsBuilder T e B b l w) (hb : Below w.heap.size w w') : Lib.IsBuilder T e B b l w' := by
  rcases h with ⟨h1, v, h2, h3, h4⟩ | ⟨h1, v, h2, h3, h4⟩
  · exact .inl ⟨h1, v, blk_keep h2 hb, owns_below h3 hb, h4⟩
  · exact .inr ⟨h1, v, blk_keep h2 hb, owns_below h3 hb, h4⟩
theorem isB_lt {w : World} {T e : TypeId} {B b : Nat} {l : List Value} (h : Lib.IsBuilder T e B b l w) : b < w.heap.size := by
  rcases h with h | h
  · exact h.lt
  · exact h.lt
theorem byteCells_app (a b : List UInt8) : Lib.byteCells a ++ Lib.strCells (bs b) = Lib.byteCells (a ++ b) := by
  simp [Lib.byteCells, Lib.strCells, bs]
theorem byteCells_len (a : List UInt8) : (Lib.byteCells a).length = a.length := by simp [Lib.byteCells]

end Go.Proofs.YtbdffcjganlblaaGreatDoor

namespace Go.Proofs.YtbdffcjganlblaaGreatDoor
open Go.RowKit Go.Shelf
set_option linter.unusedVariables false
set_option linter.unusedSimpArgs false

set_option maxRecDepth 100000 in
set_option maxHeartbeats 2000000 in
theorem sliceText_any (s : Sl) (w : World) (h1 : s.job < 100) (h2 : s.bud < 100) :
    Calls Tryz.prog 113 #[.agg #[.int .u8 s.nm.toNat, .int .i64 s.job, .int .i64 s.bud]] w fun e w' => e = .returned (.string (bs (slTxt s))) ∧ Below w.heap.size w w' := by
  have hd1 := dB_size s.job
  have hd2 := dB_size s.bud
  obtain ⟨X2, a2, z2, e2⟩ := add_named2 ⟨#[s.nm]⟩ (dB s.job) (by rw [show (ByteArray.size ⟨#[s.nm]⟩) = 1 from rfl]; omega)
  rw [show (ByteArray.size ⟨#[s.nm]⟩) = 1 from rfl] at z2
  obtain ⟨X3, a3, z3, e3⟩ := add_named2 X2 ⟨#[58]⟩ (by rw [show (ByteArray.size ⟨#[58]⟩) = 1 from rfl]; omega)
  rw [show (ByteArray.size ⟨#[58]⟩) = 1 from rfl] at z3
  obtain ⟨X4, a4, z4, e4⟩ := add_named2 X3 (dB s.bud) (by omega)
  have EX : Hid (X4 = bs (slTxt s)) := by
    unfold Hid
    rw [← bs_list X4, e4, e3, e2]
    simp [slTxt, dL]
  clear z2 z3 z4 e2 e3 e4
  have hX0 := blk_new w #[.int .u8 s.nm.toNat, .int .i64 s.job, .int .i64 s.bud] 106
  have hB0 := hide (below_new w (.cells #[.int .u8 s.nm.toNat, .int .i64 s.job, .int .i64 s.bud] 106))
  have hcv := bytes1 s.nm
  go_enter Tryz.func113, Tryz.ntmps113
  go_wp2_with fail
  generalize w.alloc (.cells #[.int .u8 s.nm.toNat, .int .i64 s.job, .int .i64 s.bud] 106) = wr at *
  have x0 : wr.cell? ⟨w.heap.size, 0, none⟩ = some (.int .u8 s.nm.toNat) := blk_cell hX0 0
  have x1 : wr.cell? ⟨w.heap.size, 1, none⟩ = some (.int .i64 s.job) := blk_cell hX0 1
  have x2 : wr.cell? ⟨w.heap.size, 2, none⟩ = some (.int .i64 s.bud) := blk_cell hX0 2
  have hlt := blk_lt hX0
  clear hX0
  have HJ : Hid (∀ W, Calls Tryz.prog 71 #[.int .i64 s.job] W fun e w' => e = .returned (.string (dB s.job)) ∧ w' = W) := fun W => itoa_any s.job W h1
  have HD : Hid (∀ W, Calls Tryz.prog 71 #[.int .i64 s.bud] W fun e w' => e = .returned (.string (dB s.bud)) ∧ w' = W) := fun W => itoa_any s.bud W h2
  have KA : Hid (∀ W : World, W.cell? ⟨w.heap.size, 0, none⟩ = some (.int .u8 s.nm.toNat) ∧ W.cell? ⟨w.heap.size, 1, none⟩ = some (.int .i64 s.job) ∧ W.cell? ⟨w.heap.size, 2, none⟩ = some (.int .i64 s.bud) → (W.alloc (.cells #[.int .u8 s.nm.toNat] 5)).cell? ⟨w.heap.size, 0, none⟩ = some (.int .u8 s.nm.toNat) ∧ (W.alloc (.cells #[.int .u8 s.nm.toNat] 5)).cell? ⟨w.heap.size, 1, none⟩ = some (.int .i64 s.job) ∧ (W.alloc (.cells #[.int .u8 s.nm.toNat] 5)).cell? ⟨w.heap.size, 2, none⟩ = some (.int .i64 s.bud)) := by
    rintro W ⟨q0, q1, q2⟩
    have hl := World.block_lt_of_cell? W ⟨w.heap.size, 0, none⟩ q0
    rw [World.cell?_alloc_past _ _ _ hl, World.cell?_alloc_past _ _ _ hl, World.cell?_alloc_past _ _ _ hl]
    exact ⟨q0, q1, q2⟩
  clear h1 h2
  generalize dB s.job = DJ at *
  generalize dB s.bud = DD at *
  go_region_held_law (fun w' => w'.cell? ⟨w.heap.size, 0, none⟩ = some (.int .u8 s.nm.toNat) ∧ w'.cell? ⟨w.heap.size, 1, none⟩ = some (.int .i64 s.job) ∧ w'.cell? ⟨w.heap.size, 2, none⟩ = some (.int .i64 s.bud)) (first | exact ⟨x0, x1, x2⟩ | exact KA.out wr ⟨x0, x1, x2⟩)
    (first | (go_at_call 71; refine (HJ.out _).mono ?_; rintro e w8 ⟨rfl, rfl⟩) | (go_at_call 71; refine (HD.out _).mono ?_; rintro e w9 ⟨rfl, rfl⟩))
  all_goals
    go_wp2
    go_ret
    refine ⟨by rw [← EX.out]; rfl, ?_⟩
    exact (hB0.out.trans ((below_new wr _).drew.mono hB0.out.size))

theorem join_tail (s : Sl) : ∀ (r : List Sl), slTxt s ++ Lib.joinTail [44] (r.map slTxt) = frTxt (s :: r)
  | [] => by simp [Lib.joinTail, frTxt]
  | x :: r => by
    have := join_tail x r
    simp only [frTxt]
    rw [← this]
    simp [Lib.joinTail]
theorem fr_join (f : List Sl) : Lib.join (f.map slTxt) [44] = frTxt f := by
  cases f with
  | nil => rfl
  | cons s r =>
    rw [List.map_cons, Lib.join_cons, join_tail]

end Go.Proofs.YtbdffcjganlblaaGreatDoor

namespace Go.Proofs.YtbdffcjganlblaaGreatDoor
open Go.RowKit Go.Shelf
set_option linter.unusedVariables false
set_option linter.unusedSimpArgs false

set_option maxRecDepth 100000 in
set_option maxHeartbeats 2000000 in
theorem frameText_any (f : List Sl) (a : Option Addr) (c : Nat) (w : World) (hr : FrA w a f) (hn : f.length ≤ 100) (hs : ∀ k, k < f.length → (slk f k).job < 100 ∧ (slk f k).bud < 100) :
    Calls Tryz.prog 72 #[.slice a f.length c] w fun e w' => e = .returned (.string (bs (frTxt f))) ∧ Below w.heap.size w w' := by
  obtain ⟨i0, hi, hz0, hz1, hz2⟩ := info_parts Tryz.infoStr
  have Hr := hide hr
  have Hs := hide hs
  clear hr hs
  go_enter Tryz.func72, Tryz.ntmps72
  go_wp2_with fail
  go_loopw [3, 8] (fun v i wr => ∃ k : Nat, k ≤ f.length ∧ i = .int .i64 k ∧ wr.ownsRow w.heap.size 9 1 v k ((f.take k).map (fun s => Value.string (bs (slTxt s)))) ∧ Below w.heap.size w wr) (fun _ i _ => 200 - (intOf i).toNat)
  case atStart => exact ⟨0, by omega, rfl, World.ownsRow_nil _ _ _ _, Below.refl _ _⟩
  case round =>
    obtain ⟨k, hk, rfl, how, hb⟩ := hrel
    obtain ⟨va, vc, rfl⟩ := own_slice how
    have HB := hide hb
    have How := hide how
    by_cases hlt : k < f.length
    · have hlt' : (k : Int) < f.length := by omega
      obtain ⟨g, rfl, hg, hrow⟩ := Hr.out (by omega)
      obtain ⟨r0, r1, r2⟩ := hrow.below hb hg k hlt
      obtain ⟨hj, hbd⟩ := Hs.out k hlt
      have htk : Hid ((f.take (k + 1)).map (fun s => Value.string (bs (slTxt s))) = (f.take k).map (fun s => Value.string (bs (slTxt s))) ++ [.string (bs (slTxt (slk f k)))]) := by
        unfold Hid
        rw [List.take_succ_eq_append_getElem hlt, List.map_append, slk_eq hlt]
        rfl
      clear hb how hrow
      go_wp2_with fail
      refine (sliceText_any (slk f k) _ hj hbd).mono ?_
      rintro e w1 ⟨rfl, hb1⟩
      have hb2 : Below wr.heap.size wr w1 := (below_new wr _).trans (hb1.mono (by simp))
      have how1 := owns_below How.out hb2
      have HB1 := hide (HB.out.trans (hb2.mono HB.out.size))
      have hsz1 := HB1.out.size
      clear hb1 hb2 r0 r1 r2
      go_wp2_with (at_builtin; refine wpList_append_own _ rfl _ _ 159 rfl w.heap.size 9 i0 _ 1 16 Tryz.underlying159 hi hz0 hz1 hz2 rfl (by decide) _ _ _ rfl (how1.alloc _) ⟨w1.heap.size, 0, none⟩ 1 1 [.string (bs (slTxt (slk f k)))] rfl rfl ?c1 ?c2 ?c3 ?c4 ?c5 ?_)
      case c1 => exact cells_new w1 #[_] _ _ rfl
      case c2 => simp [Value.oneCell']
      case c3 => unfold maxLen; omega
      case c4 => omega
      case c5 => simp; omega
      intro v' w2 hown2 hgr _
      have hbel : Below w.heap.size w w2 := (HB1.out.alloc HB1.out.size _).grown hgr (by simp; omega) (fun q hq => (how1.lt _ hq).1)
      have Hbel := hide hbel
      have Hown2 := hide hown2
      clear hown2 hgr hbel how1
      go_wp2
      go_roundw
      case rel => exact ⟨k + 1, by omega, by go_num, by rw [htk.out, List.map_take]; exact Hown2.out, Hbel.out⟩
      case measure => simp [intOf]; omega
    · have hlt' : ¬ (k : Int) < f.length := by omega
      have hke : k = f.length := by omega
      subst hke
      have hj := fr_join f
      have Hj := hide hj
      clear hb how hj
      by_cases hf : f.length = 0
      · have hfn : f = [] := List.length_eq_zero_iff.1 hf
        subst hfn
        simp only [List.length_nil] at *
        go_wp2_with fail
        refine (show Calls Tryz.prog 114 #[.slice va 0 vc, .string ⟨#[44]⟩] wr fun e w' => e = .returned (.string ⟨#[]⟩) ∧ w' = wr from Any.strings_Join_none Tryz.lays156 Tryz.Builder_Extra_156 va vc ⟨#[44]⟩ wr).mono ?_
        rintro e w' ⟨rfl, rfl⟩
        go_wp2
        go_ret
        exact ⟨rfl, HB.out⟩
      · obtain ⟨gb, cap, he, hg1, hg2⟩ := own_form How.out (by omega)
        injection he with e1 _ e3
        subst e1 e3
        have hcells : ∀ (j : Nat) (x : ByteArray), (f.map (fun s => bs (slTxt s)))[j]? = some x → wr.cell? ⟨gb, 0 + j, none⟩ = some (.string x) := by
          intro j x hx
          have hj : j < f.length := by
            rcases Nat.lt_or_ge j f.length with h | h
            · exact h
            · rw [List.getElem?_eq_none (by simpa using h)] at hx; simp at hx
          rw [Nat.zero_add, How.out.cellAt j (by omega), List.take_length]
          rw [List.getElem?_map] at hx ⊢
          cases hq : f[j]? with
          | none => rw [hq] at hx; simp at hx
          | some y => rw [hq] at hx; simp at hx; simp [hx]
        have hcp := own_cap How.out
        have hm : (f.map (fun s => bs (slTxt s))).map (·.data.toList) = f.map slTxt := by simp [Function.comp_def, bs_data]
        have hjn := join_any gb 0 vc (f.map (fun s => bs (slTxt s))) ⟨#[44]⟩ wr hcells hg2 (by simp; omega) (by simpa using hcp) (by
          rw [hm]
          show (Lib.join (f.map slTxt) [44]).length ≤ _
          rw [Hj.out]
          have := frTxt_len f
          omega)
        rw [hm, List.length_map] at hjn
        have hjn2 : Calls Tryz.prog 114 #[.slice (some ⟨gb, 0, none⟩) f.length vc, .string ⟨#[44]⟩] wr fun e w' => e = .returned (.string (bs (frTxt f))) ∧ Below wr.heap.size wr w' := hjn.mono fun e w' h => ⟨by rw [h.1]; show Ending.returned (.string ⟨(Lib.join (f.map slTxt) [44]).toArray⟩) = _; rw [Hj.out]; rfl, h.2⟩
        have Hjn := hide hjn2
        clear hjn hjn2 hcells hm
        go_wp2_with fail
        refine Hjn.out.mono ?_
        rintro e w1 ⟨rfl, hb1⟩
        have HB1 := hide (HB.out.trans (hb1.mono HB.out.size))
        clear hb1
        go_wp2
        go_ret
        exact ⟨rfl, HB1.out⟩

/-- The builder so far, and the table. -/
structure TG (w wr : World) (L : List UInt8) (tv : Array Value) : Prop where
  isb : Lib.IsBuilder 109 5 (w.heap.size + 1) (w.heap.size + 1) (Lib.byteCells L) wr
  hx : wr.heap[w.heap.size]? = some (.cells tv 61 (0, 0))
  bel : Below w.heap.size w wr
theorem TG.call {w wr w' : World} {L : List UInt8} {tv : Array Value} (h : TG w wr L tv) (hb : Below wr.heap.size wr w') : TG w w' L tv :=
  ⟨isB_below h.isb hb, blk_keep h.hx hb, h.bel.trans (hb.mono h.bel.size)⟩
theorem TG.wrote {w wr w' : World} {L M : List UInt8} {tv : Array Value} {p : Value} (h : TG w wr L tv) (hp : p = .pointer (some ⟨w.heap.size + 1, 0, none⟩)) (hat : Lib.BuilderAt 109 5 (w.heap.size + 1) (w.heap.size + 1) p (Lib.byteCells L ++ Lib.strCells (bs M)) w') (hb : Below (w.heap.size + 1) wr w') : TG w w' (L ++ M) tv := by
  subst hp
  refine ⟨.inr ?_, ?_, h.bel.trans (hb.mono (by omega))⟩
  · rw [← byteCells_app]; exact hat
  · rw [hb.block _ (by omega)]; exact h.hx
theorem TG.start (w : World) (tv : Array Value) : TG w ((w.alloc (.cells tv 61)).alloc (.cells #[.pointer none, .slice none 0 0] 109)) [] tv := by
  refine ⟨.inl ⟨Nat.le_refl _, .slice none 0 0, ?_, World.ownsRow_nil _ _ _ _, by simp [Value.ownBlock]⟩, ?_, (below_new w _).alloc (by simp) _⟩
  · simpa using blk_new (w.alloc (.cells tv 61)) #[.pointer none, .slice none 0 0] 109
  · rw [Below.heap_alloc _ _ _ (by simp)]; exact blk_new _ _ _

set_option maxRecDepth 100000 in
set_option maxHeartbeats 2000000 in
theorem tableText_any (t : Tb) (a : Option Addr) (cc : Nat) (w : World) (hr : FvA w a t.fs) (hS : Sound t) :
    Calls Tryz.prog 36 #[.agg #[.int .i64 t.cyc, .int .i64 t.fr, .slice a t.fs.length cc]] w fun e w' => e = .returned (.string (bs (tbTxt t))) ∧ Below w.heap.size w w' := by
  obtain ⟨hf1, hf2, hn1, hn2, hfl⟩ := hS.frames
  have hc2 := hS.c2
  have Hsm := hide hS.small
  have Hr := hide hr
  clear hr hS
  have H0 := hide (TG.start w #[.int .i64 t.cyc, .int .i64 t.fr, .slice a t.fs.length cc])
  have hd1 := dB_size t.cyc
  have hd2 := dB_size t.fr
  obtain ⟨X1, a1, z1, e1⟩ := add_named2 ⟨#[99, 121, 99, 108, 101, 32]⟩ (dB t.cyc) (by rw [show (ByteArray.size ⟨#[99, 121, 99, 108, 101, 32]⟩) = 6 from rfl]; omega)
  rw [show (ByteArray.size ⟨#[99, 121, 99, 108, 101, 32]⟩) = 6 from rfl] at z1
  obtain ⟨X2, a2, z2, e2⟩ := add_named2 X1 ⟨#[32, 102, 114, 97, 109, 101, 32]⟩ (by rw [show (ByteArray.size ⟨#[32, 102, 114, 97, 109, 101, 32]⟩) = 7 from rfl]; omega)
  rw [show (ByteArray.size ⟨#[32, 102, 114, 97, 109, 101, 32]⟩) = 7 from rfl] at z2
  obtain ⟨X3, a3, z3, e3⟩ := add_named2 X2 (dB t.fr) (by omega)
  obtain ⟨X4, a4, z4, e4⟩ := add_named2 X3 ⟨#[59, 10]⟩ (by rw [show (ByteArray.size ⟨#[59, 10]⟩) = 2 from rfl]; omega)
  rw [show (ByteArray.size ⟨#[59, 10]⟩) = 2 from rfl] at z4
  have E4 : Hid (X4 = bs (hdTxt t.cyc t.fr)) := by
    unfold Hid
    rw [← bs_list X4, e4, e3, e2, e1]
    simp [hdTxt, dL]
  have hhd := hdTxt_len t.cyc t.fr
  clear z1 z2 z3 z4 e1 e2 e3 e4
  have x := blk_cell H0.out.hx
  have HT0 : Hid (TG w (((w.alloc (.cells #[.int .i64 t.cyc, .int .i64 t.fr, .slice a t.fs.length cc] 61)).alloc (.cells #[.pointer none, .slice none 0 0] 109)).drew) [] #[.int .i64 t.cyc, .int .i64 t.fr, .slice a t.fs.length cc]) := H0.out.call (below_drewN (Below.refl _ _) 1)
  have HWS : Hid (∀ W, TG w W [] #[.int .i64 t.cyc, .int .i64 t.fr, .slice a t.fs.length cc] → Calls Tryz.prog 70 #[.pointer (some ⟨w.heap.size + 1, 0, none⟩), .string X4] W fun e w' => e = .returned (.tuple #[.int .i64 X4.size, .nilIface]) ∧ TG w w' (hdTxt t.cyc t.fr) #[.int .i64 t.cyc, .int .i64 t.fr, .slice a t.fs.length cc]) := by
    intro W hW
    have hl := isB_lt hW.isb
    refine (writeString_any _ _ _ X4 _ hW.isb (by rw [byteCells_len, E4.out, bs_size]; simp; omega) (by omega)).mono ?_
    rintro e w3 ⟨rfl, hat, hb3⟩
    rw [E4.out] at hat
    exact ⟨rfl, by simpa using hW.wrote rfl hat hb3⟩
  have HI1 : Hid (∀ W, Calls Tryz.prog 71 #[.int .i64 t.cyc] W fun e w' => e = .returned (.string (dB t.cyc)) ∧ w' = W) := fun W => itoa_any t.cyc W (by omega)
  have HI2 : Hid (∀ W, Calls Tryz.prog 71 #[.int .i64 t.fr] W fun e w' => e = .returned (.string (dB t.fr)) ∧ w' = W) := fun W => itoa_any t.fr W (by omega)
  go_enter Tryz.func36, Tryz.ntmps36
  go_wp2_with fail
  go_cut [16] (fun _ wc => TG w wc (hdTxt t.cyc t.fr) #[.int .i64 t.cyc, .int .i64 t.fr, .slice a t.fs.length cc])
  case first =>
    go_region_with (first | (go_at_call 71; (first | refine (HI1.out _).mono ?_ | refine (HI2.out _).mono ?_); rintro e w' ⟨rfl, rfl⟩) | (go_at_call 70; refine (HWS.out _ ?hw).mono ?_; (case hw => exact HT0.out); rintro e w3 ⟨rfl, hT3⟩))
    all_goals
      have HT3 := hide hT3
      clear hT3
      go_wp2
      go_meet
      case rel => exact HT3.out
  case rest =>
    clear H0 HT0 HWS HI1 HI2 a1 a2 a3 a4 x hd1 hd2 E4
    have HT := hide hcut
    have x := blk_cell hcut.hx
    clear hcut
    go_wp2_with fail
    clear x
    go_loopw [20] (fun i wr => ∃ k : Nat, k ≤ t.fs.length ∧ i = .int .i64 k ∧ TG w wr (hdTxt t.cyc t.fr ++ (t.fs.take k).flatMap (fun f => frTxt f ++ [59, 10])) #[.int .i64 t.cyc, .int .i64 t.fr, .slice a t.fs.length cc] ∧ (hdTxt t.cyc t.fr ++ (t.fs.take k).flatMap (fun f => frTxt f ++ [59, 10])).length ≤ 19 + 1000 * k) (fun i _ => 200 - (intOf i).toNat)
    case atStart => exact ⟨0, by omega, rfl, by simpa using HT.out, by simp; omega⟩
    case round =>
      clear HT
      obtain ⟨k, hk, rfl, hT, hlen⟩ := hrel
      by_cases hlt : k < t.fs.length
      · have hlt' : (k : Int) < t.fs.length := by omega
        obtain ⟨g, rfl, hg, hF⟩ := Hr.out (by omega)
        obtain ⟨fa, fc, hfc0, hfa⟩ := hF k hlt
        have hfc := (hT.bel.cell (p := ⟨g, k, none⟩) hg).trans hfc0
        have HFA := hide (hfa.below hT.bel (Nat.le_refl _))
        have hm : frk t.fs k ∈ t.fs := by rw [← frk_eq hlt]; exact List.getElem_mem _
        obtain ⟨hfl1, hfl2⟩ := Hsm.out _ hm
        have hsmall : Hid (∀ q, q < (frk t.fs k).length → (slk (frk t.fs k) q).job < 100 ∧ (slk (frk t.fs k) q).bud < 100) := by
          intro q hq
          have := hfl2 (slk (frk t.fs k) q) (by rw [← slk_eq hq]; exact List.getElem_mem _)
          omega
        have hft : Hid ((t.fs.take (k + 1)).flatMap (fun f => frTxt f ++ [59, 10]) = (t.fs.take k).flatMap (fun f => frTxt f ++ [59, 10]) ++ (frTxt (frk t.fs k) ++ [59, 10])) := by
          unfold Hid
          rw [List.take_succ_eq_append_getElem hlt, List.flatMap_append, frk_eq hlt]
          simp
        have hfrl := frTxt_len (frk t.fs k)
        obtain ⟨X5, a5, z5, e5⟩ := add_named2 (bs (frTxt (frk t.fs k))) ⟨#[59, 10]⟩ (by rw [bs_size, show (ByteArray.size ⟨#[59, 10]⟩) = 2 from rfl]; omega)
        have E5 : Hid (X5 = bs (frTxt (frk t.fs k) ++ [59, 10])) := by
          unfold Hid
          rw [← bs_list X5, e5, bs_data]
        have z5' : X5.size ≤ 702 := by rw [E5.out, bs_size, List.length_append]; simp; omega
        have HT := hide hT
        clear hfc0 hfa hF hm hfl2 hT z5 e5
        go_wp2_with fail
        refine (frameText_any (frk t.fs k) fa fc _ HFA.out (by omega) hsmall.out).mono ?_
        rintro e w1 ⟨rfl, hb1⟩
        have HT1 := hide (HT.out.call hb1)
        have hl1 := isB_lt HT1.out.isb
        clear hb1 hfc HT HFA hsmall
        generalize hLL : hdTxt t.cyc t.fr ++ (t.fs.take k).flatMap (fun f => frTxt f ++ [59, 10]) = LL at *
        have HLL := hide hLL
        clear hLL
        go_wp2_with fail
        refine (writeString_any _ _ _ X5 _ HT1.out.isb (by rw [byteCells_len]; omega) (by omega)).mono ?_
        rintro e w3 ⟨rfl, hat, hb3⟩
        rw [E5.out] at hat
        have HT3 := hide (HT1.out.wrote rfl hat hb3)
        clear hat hb3 HT1
        go_wp2
        go_roundw
        case rel =>
          refine ⟨k + 1, by omega, by go_num, ?_, ?_⟩
          · rw [hft.out, ← List.append_assoc, HLL.out]; exact HT3.out
          · rw [hft.out, ← List.append_assoc, HLL.out, List.length_append, List.length_append]; simp; omega
        case measure => simp [intOf]; omega
      · have hlt' : ¬ (k : Int) < t.fs.length := by omega
        have hke : t.fs.take k = t.fs := List.take_of_length_le (by omega)
        rw [hke] at hT
        have HT : Hid (TG w wr (tbTxt t) #[.int .i64 t.cyc, .int .i64 t.fr, .slice a t.fs.length cc]) := hT
        clear hT hlen hke
        have hl1 := isB_lt HT.out.isb
        go_wp2_with fail
        refine (builderString_any _ _ _ _ HT.out.isb (by omega)).mono ?_
        rintro e w1 ⟨rfl, hb1⟩
        have hB := hide (HT.out.bel.trans (hb1.mono (by omega)))
        clear hb1 HT
        go_wp2
        go_ret
        exact ⟨rfl, hB.out⟩
end Go.Proofs.YtbdffcjganlblaaGreatDoor
