/-
  Own work. The document's tables: the memory of ReadTable.
-/
import Derived.Test.YtbdffcjganlblaaGreatDoorRefRtoRefU
import Derived.Deep.RegionLaw
import Derived.Deep.DeepCutAuto
namespace Go.Proofs.YtbdffcjganlblaaGreatDoor
open Go.RowKit
set_option linter.unusedVariables false
set_option linter.unusedSimpArgs false

set_option maxRecDepth 100000 in
set_option maxHeartbeats 1000000 in
theorem rText_nil (c f : Nat) (a : Option Addr) (cap : Nat) (w : World) (hc : c ≤ 60) (hf : f ≤ 60) (hf1 : 1 ≤ f) :
    Calls Tryz.prog 46 #[.agg #[.int .i64 c, .int .i64 f, .slice a 0 cap]] w fun e w' => e = .returned (.string (bs (hdTxt c f ++ framesX [] (c / f)))) ∧ Below w.heap.size w w' := by
  have H0 := hide (TBx.start w c f (.slice a 0 cap))
  obtain ⟨x0, x1, x2⟩ := H0.out.cells
  have hq : c / f ≤ 60 := Nat.le_trans (Nat.div_le_self c f) hc
  have Hlen := hide (framesX_len (l := []) (fun k h => by simp at h) (by simp))
  have hd1 := dB_size c
  have hd2 := dB_size f
  have hf0 : ((f : Int) == 0) = false := by simp; omega
  have hf0' : ¬ (f : Int) = 0 := by omega
  obtain ⟨X1, a1, z1, e1⟩ := add_named2 ⟨#[99, 121, 99, 108, 101, 32]⟩ (dB c) (by rw [show (ByteArray.size ⟨#[99, 121, 99, 108, 101, 32]⟩) = 6 from rfl]; omega)
  rw [show (ByteArray.size ⟨#[99, 121, 99, 108, 101, 32]⟩) = 6 from rfl] at z1
  obtain ⟨X2, a2, z2, e2⟩ := add_named2 X1 ⟨#[32, 102, 114, 97, 109, 101, 32]⟩ (by rw [show (ByteArray.size ⟨#[32, 102, 114, 97, 109, 101, 32]⟩) = 7 from rfl]; omega)
  rw [show (ByteArray.size ⟨#[32, 102, 114, 97, 109, 101, 32]⟩) = 7 from rfl] at z2
  obtain ⟨X3, a3, z3, e3⟩ := add_named2 X2 (dB f) (by omega)
  obtain ⟨X4, a4, z4, e4⟩ := add_named2 X3 ⟨#[59, 10]⟩ (by rw [show (ByteArray.size ⟨#[59, 10]⟩) = 2 from rfl]; omega)
  rw [show (ByteArray.size ⟨#[59, 10]⟩) = 2 from rfl] at z4
  have E4 : Hid (X4 = bs (hdTxt c f ++ framesX [] 0)) := by
    unfold Hid
    rw [← bs_list X4, e4, e3, e2, e1]
    simp [hdTxt, framesX, dL]
  have hhd := hdTxt_len c f
  clear z1 z2 z3 z4 e1 e2 e3 e4
  go_enter Tryz.func46, Tryz.ntmps46
  go_wp2_with fail
  go_cut [3] (fun x wc => x = .string X4 ∧ TBx w wc c f (.slice a 0 cap))
  case first =>
    go_region_with ((go_at_call 82; (first | refine (rdec_any c _ (by omega)).mono ?_ | refine (rdec_any f _ (by omega)).mono ?_); rintro e w' ⟨rfl, rfl⟩))
    all_goals
      go_wp2
      go_meet
      case rel => exact ⟨rfl, H0.out.drewN 1⟩
  case rest =>
    clear H0 a1 a2 a3 a4 x0 x1 x2 hd1 hd2
    obtain ⟨rfl, hT⟩ := hcut
    have HT := hide hT
    clear hT
    go_wp2_with fail
    go_loopw [3, 4] (fun x j wr => ∃ k : Nat, k ≤ c / f ∧ j = .int .i64 k ∧ x = .string (bs (hdTxt c f ++ framesX [] k)) ∧ TBx w wr c f (.slice a 0 cap)) (fun _ j _ => 100 - (intOf j).toNat)
    case atStart => exact ⟨0, Nat.zero_le _, rfl, by rw [E4.out], HT.out⟩
    case round =>
      clear HT E4
      obtain ⟨k, hk, rfl, rfl, hT⟩ := hrel
      obtain ⟨x0, x1, x2⟩ := hT.cells
      have HT := hide hT
      clear hT
      have hdiv : (c : Int) / (f : Int) = ((c / f : Nat) : Int) := by simp
      by_cases hlt : k < c / f
      · have hlt' : decide ((k : Int) < (c : Int) / (f : Int)) = true := by rw [hdiv]; simp; omega
        have hk60 : k < 60 := by omega
        have hbase : (hdTxt c f ++ framesX [] k).length ≤ 1000000 := by
          have h1 := Hlen.out k
          simp only [List.length_append]
          omega
        have hE : Hid (hdTxt c f ++ framesX [] k ++ [59, 10] = hdTxt c f ++ framesX [] (k + 1)) := by
          unfold Hid
          rw [framesX_succ]
          simp [selJ, frX]
        clear hdiv
        generalize hdTxt c f ++ framesX [] k = L at *
        obtain ⟨X1, a1, z1, e1⟩ := add_named2 (bs L) ⟨#[59, 10]⟩ (by rw [bs_size, show (ByteArray.size ⟨#[59, 10]⟩) = 2 from rfl]; omega)
        have EX : Hid (X1 = bs (hdTxt c f ++ framesX [] (k + 1))) := by
          unfold Hid
          rw [← hE.out, ← bs_list X1, e1, bs_data]
        clear z1 e1 hE
        go_wp2_with fail
        clear x0 x1 x2 hlt'
        go_loopw [3, 5, 6] (fun x fst i wr => i = .int .i64 0 ∧ x = .string (bs L) ∧ TBx w wr c f (.slice a 0 cap)) (fun _ _ i _ => 0)
        case atStart => exact ⟨rfl, rfl, HT.out⟩
        case round =>
          clear HT
          obtain ⟨rfl, rfl, hT⟩ := hrel
          obtain ⟨x0, x1, x2⟩ := hT.cells
          have HT := hide hT
          clear hT
          go_wp2
          go_roundw
          case rel => exact ⟨k + 1, by omega, by go_num, by rw [EX.out], HT.out⟩
          case measure => simp [intOf]; omega
      · have hlt' : decide ((k : Int) < (c : Int) / (f : Int)) = false := by rw [hdiv]; simp; omega
        have hke : k = c / f := by omega
        have HK := hide hke
        clear hke hdiv
        go_wp2
        go_ret
        exact ⟨by rw [← HK.out]; rfl, HT.out.b⟩

/-! ### Memory -/
def tbZ : Array Value := #[.int .i64 0, .int .i64 0, .slice none 0 0]
/-- Ahead of the table. -/
structure RW (w wk : World) (B r cap : Nat) (T : List PT) (i : Nat) (bad : Bool) : Prop where
  ps : PS wk B r cap T i bad
  hy : wk.heap[w.heap.size]? = some (.cells tbZ 39 (0, 0))
  g : w.grownBy wk none
  h1 : w.heap.size < r
  h2 : r < B
theorem RW.call {w wk : World} {B r cap : Nat} {T : List PT} {i : Nat} {bad : Bool} (h : RW w wk B r cap T i bad) {w' : World} {i' : Nat} {bad' : Bool} (p : PS w' B r cap T i' bad') (g : wk.grownBy w' (some B)) : RW w w' B r cap T i' bad' := by
  have h1 := h.h1
  have h2 := h.h2
  exact ⟨p, by rw [g.block _ (blk_lt h.hy) (by simp; omega)]; exact h.hy, grownBy_new h.g g (by omega), h1, h2⟩
structure RX (w wk : World) (B r cap : Nat) (T : List PT) (i : Nat) (bad : Bool) (X c f : Nat) (sv : Value) : Prop where
  rw_ : RW w wk B r cap T i bad
  hx : wk.heap[X]? = some (.cells #[.int .i64 c, .int .i64 f, sv] 39 (0, 0))
  h3 : B < X
section
variable {w wk : World} {B r cap : Nat} {T : List PT} {i : Nat} {bad : Bool} {X c f : Nat} {sv : Value}
theorem RX.call (h : RX w wk B r cap T i bad X c f sv) {w' : World} {i' : Nat} {bad' : Bool} (p : PS w' B r cap T i' bad') (g : wk.grownBy w' (some B)) : RX w w' B r cap T i' bad' X c f sv := by
  have h3 := h.h3
  exact ⟨h.rw_.call p g, by rw [g.block _ (blk_lt h.hx) (by simp; omega)]; exact h.hx, h3⟩
theorem RX.cells (h : RX w wk B r cap T i bad X c f sv) : wk.cell? ⟨X, 0, none⟩ = some (.int .i64 c) ∧ wk.cell? ⟨X, 1, none⟩ = some (.int .i64 f) ∧ wk.cell? ⟨X, 2, none⟩ = some sv ∧ (∀ o, wk.frozen? ⟨X, o, none⟩ = false) ∧ (∀ o, wk.cell? ⟨w.heap.size, o, none⟩ = tbZ[o]?) ∧ (∀ o, wk.frozen? ⟨w.heap.size, o, none⟩ = false) :=
  ⟨by rw [blk_cell h.hx]; rfl, by rw [blk_cell h.hx]; rfl, by rw [blk_cell h.hx]; rfl, blk_frozen h.hx, blk_cell h.rw_.hy, blk_frozen h.rw_.hy⟩
theorem RX.start (h : RW w wk B r cap T i bad) (c f : Nat) : RX w (wk.alloc (.cells #[.int .i64 c, .int .i64 f, .slice none 0 0] 39)) B r cap T i bad wk.heap.size c f (.slice none 0 0) := by
  refine ⟨⟨h.ps.alloc _, by rw [Below.heap_alloc _ _ _ (blk_lt h.hy)]; exact h.hy, grownBy_alloc' h.g _, h.h1, h.h2⟩, blk_new _ _ _, h.ps.ltb⟩

theorem RowF.keep {w w' : World} {g : Nat} {l : List FSl} (h : RowF w g l) (hb : w'.heap[g]? = w.heap[g]?) : RowF w' g l := by
  intro k hk
  have e : ∀ o, w'.cell? ⟨g, o, none⟩ = w.cell? ⟨g, o, none⟩ := fun o => World.cell?_of_block (a := ⟨g, o, none⟩) hb
  rw [e, e, e, e]
  exact h k hk

/-- One slice more. -/
theorem RX.push (h : RX w wk B r cap T i bad X c f sv) {Lb : Nat} {z : Value} {n m : Nat} {xs ys : List Value} {l : List FSl} {o1 : Obj} {w2 : World} {v' : Value}
    (hi : InvL (B + 1) Lb 44 4 z wk sv n xs) (hL : B < Lb) (hl : Lb < wk.heap.size) (hne : Lb ≠ X) (hrow : RowF wk Lb l)
    (hg : (wk.alloc o1).drew.grownBy w2 sv.ownBlock) (hi2 : InvL (B + 1) Lb 44 4 z w2 v' m ys) :
    RX w (w2.setCell ⟨X, 2, none⟩ v') B r cap T i bad X c f v' ∧ InvL (B + 1) Lb 44 4 z (w2.setCell ⟨X, 2, none⟩ v') v' m ys ∧ RowF (w2.setCell ⟨X, 2, none⟩ v') Lb l ∧ Lb < (w2.setCell ⟨X, 2, none⟩ v').heap.size := by
  have h1 := h.rw_.h1
  have h2 := h.rw_.h2
  have h3 := h.h3
  have hX := blk_lt h.hx
  have how := hi.own (by omega)
  have hg' : (wk.alloc o1).grownBy w2 sv.ownBlock := ⟨hg.os, hg.tape, hg.output, hg.size, hg.block⟩
  have hsz := hg'.size
  simp only [World.size_alloc] at hsz
  have hblk : ∀ k, k < wk.heap.size → sv.ownBlock ≠ some k → w2.heap[k]? = wk.heap[k]? := by
    intro k hk hne
    rw [hg'.block k (by simp; omega) (fun e => hne e.symm), Below.heap_alloc _ _ _ hk]
  have hlow : ∀ k, k < B + 1 → sv.ownBlock ≠ some k := fun k hk => own_ge how hk
  have hX2 : w2.heap[X]? = some (.cells #[.int .i64 c, .int .i64 f, sv] 39 (0, 0)) := by
    rw [hblk X hX (own_type how h.hx (by decide))]; exact h.hx
  have hv'X := own_type (hi2.own (by omega)) hX2 (by decide)
  have hset : w2.grownBy (w2.setCell ⟨X, 2, none⟩ v') (some X) := grownBy_set (grownBy_refl _ _) _ _
  refine ⟨⟨⟨?_, ?_, ?_, h1, h2⟩, ?_, h3⟩, hi2.kept hset (.inr hv'X), ?_, by rw [heap_set_size]; omega⟩
  · refine (h.rw_.ps.kept (hblk B (by omega) (hlow B (by omega))) (hblk r (by omega) (hlow r (by omega))) (by omega)).setOther (by omega) (by omega) 2 v'
  · rw [Below.heap_setCell _ _ _ _ (by show w.heap.size ≠ X; omega), hblk _ (blk_lt h.rw_.hy) (hlow _ (by omega))]; exact h.rw_.hy
  · have hgw : w.grownBy w2 none := by
      have ha := grownBy_alloc' h.rw_.g o1
      refine ⟨hg'.os.trans ha.os, hg'.tape.trans ha.tape, hg'.output.trans ha.output, Nat.le_trans ha.size hg'.size, fun k hk hne => ?_⟩
      rw [hg'.block k (by have := ha.size; omega) (fun e => hlow k (by omega) e.symm)]
      exact ha.block k hk hne
    exact grownBy_setNew hgw (by omega) _ _
  · rw [blk_set hX2]; rfl
  · refine hrow.keep ?_
    rw [Below.heap_setCell _ _ _ _ (by show Lb ≠ X; exact hne), hblk Lb hl hi.apart]
end
end Go.Proofs.YtbdffcjganlblaaGreatDoor

namespace Go.Proofs.YtbdffcjganlblaaGreatDoor
open Go.RowKit
set_option linter.unusedVariables false
set_option linter.unusedSimpArgs false

/-- The text of l is that of the table t. -/
def TabOk (l : List UInt8) (t : Tb) : Prop := l.length ≤ 800 ∧ pTab (allToks l) = some t ∧ Sound t ∧ tbTxt t = l
def ReadPost (s : ByteArray) (w : World) (e : Ending) (w' : World) : Prop :=
  Below w.heap.size w w' ∧ ((∃ t sv, TabOk s.data.toList t ∧ e = .returned (.tuple #[.agg #[.int .i64 t.cyc, .int .i64 t.fr, sv], .bool true]) ∧ w'.ownsRow w.heap.size 44 4 sv (flatF 0 t.fs).length (flRow (flatF 0 t.fs))) ∨ ((¬ ∃ t, TabOk s.data.toList t) ∧ ∃ (c f : Nat) (a : Option Addr) (n k : Nat), e = .returned (.tuple #[.agg #[.int .i64 c, .int .i64 f, .slice a n k], .bool false])))

theorem hd_chain {T : List PT} {i1 h i2 i3 f i4 i5 : Nat} {b1 b2 b3 b4 b5 : Bool} (h1 : GoesR (sees (tk T 0) wCycle) false 0 i1 b1) (h2 : NumR T i1 b1 h i2 b2) (h3 : GoesR (sees (tk T i2) wFrame) b2 i2 i3 b3) (h4 : NumR T i3 b3 f i4 b4) (h5 : GoesR ((tk T i4).k == 59) b4 i4 i5 b5) :
    (b5 = true ∧ hdOk T = false) ∨ (b5 = false ∧ hdOk T = true ∧ i5 = 5 ∧ h = (tk T 1).N ∧ f = (tk T 3).N) := by
  unfold hdOk
  cases e1 : sees (tk T 0) wCycle
  · rw [e1] at h1
    obtain ⟨rfl, rfl⟩ := goes_no h1
    obtain ⟨_, rfl, rfl⟩ := num_bad h2
    obtain ⟨rfl, rfl⟩ := goes_bad h3
    obtain ⟨_, rfl, rfl⟩ := num_bad h4
    obtain ⟨rfl, rfl⟩ := goes_bad h5
    simp
  · rw [e1] at h1
    obtain ⟨rfl, rfl⟩ := goes_yes h1
    simp only [Nat.zero_add] at *
    cases e2 : ((tk T 1).k == 110)
    · obtain ⟨rfl, rfl⟩ := num_no h2 e2
      obtain ⟨rfl, rfl⟩ := goes_bad h3
      obtain ⟨_, rfl, rfl⟩ := num_bad h4
      obtain ⟨rfl, rfl⟩ := goes_bad h5
      simp
    · obtain ⟨rfl, rfl, rfl⟩ := num_yes h2 e2
      simp only [Nat.reduceAdd] at *
      cases e3 : sees (tk T 2) wFrame
      · rw [e3] at h3
        obtain ⟨rfl, rfl⟩ := goes_no h3
        obtain ⟨_, rfl, rfl⟩ := num_bad h4
        obtain ⟨rfl, rfl⟩ := goes_bad h5
        simp
      · rw [e3] at h3
        obtain ⟨rfl, rfl⟩ := goes_yes h3
        simp only [Nat.reduceAdd] at *
        cases e4 : ((tk T 3).k == 110)
        · obtain ⟨rfl, rfl⟩ := num_no h4 e4
          obtain ⟨rfl, rfl⟩ := goes_bad h5
          simp
        · obtain ⟨rfl, rfl, rfl⟩ := num_yes h4 e4
          simp only [Nat.reduceAdd] at *
          cases e5 : ((tk T 4).k == 59)
          · rw [e5] at h5
            obtain ⟨rfl, rfl⟩ := goes_no h5
            simp
          · rw [e5] at h5
            obtain ⟨rfl, rfl⟩ := goes_yes h5
            simp

theorem pTab_hd {T : List PT} (h : hdOk T = false) : pTab T = none := by unfold pTab; rw [h]; rfl
theorem tab_no_hd {l : List UInt8} (h : hdOk (allToks l) = false) : ¬ ∃ t, TabOk l t := by
  rintro ⟨t, _, h1, _⟩
  rw [pTab_hd h] at h1
  simp at h1
/-- What a table's head must be. -/
theorem tab_head {l : List UInt8} {t : Tb} (h : TabOk l t) : 1 ≤ (tk (allToks l) 1).N ∧ (tk (allToks l) 1).N ≤ 60 ∧ 1 ≤ (tk (allToks l) 3).N ∧ (tk (allToks l) 1).N % (tk (allToks l) 3).N = 0 ∧ t.fs.length = (tk (allToks l) 1).N / (tk (allToks l) 3).N ∧ ∃ j, pN t.fs.length (allToks l) 5 = some (t.fs, j) ∧ j < (allToks l).length ∧ (tk (allToks l) j).k = 101 := by
  obtain ⟨_, h1, hS, _⟩ := h
  obtain ⟨_, e1, e2, _, j, h3, h4, h5⟩ := pTab_pN h1
  obtain ⟨f1, f2, f3, f4, f5⟩ := hS.frames
  have c1 := hS.c1
  have c2 := hS.c2
  have c3 := hS.c3
  rw [← e1, ← e2]
  refine ⟨c1, c2, f1, ?_, ?_, j, h3, h4, h5⟩
  · rw [← c3]; exact Nat.mul_mod_right _ _
  · rw [← c3, Nat.mul_div_cancel_left _ (by omega)]

/-- How many frames have been read. -/
def FrR (T : List PT) (j i : Nat) (bad : Bool) (L : List FSl) : Prop :=
  (bad = false ∧ ∃ fs, pN j T 5 = some (fs, i) ∧ L = flatF 0 fs) ∨ (bad = true ∧ pN j T 5 = none)
theorem frR_step {T : List PT} {j i i' : Nat} {bad' : Bool} {L : List FSl} {l : List Sl} (h : FrR T j i false L) (hs : (bad' = true ∧ pFrame T i = none) ∨ (bad' = false ∧ pFrame T i = some (l, i'))) : FrR T (j + 1) i' bad' (L ++ l.map (fun s => (j, s))) := by
  rcases h with ⟨_, fs, h1, rfl⟩ | ⟨h1, _⟩
  · rcases hs with ⟨rfl, h2⟩ | ⟨rfl, h2⟩
    · refine .inr ⟨rfl, ?_⟩
      rw [pN, h1]
      simp only
      rw [h2]
    · refine .inl ⟨rfl, fs ++ [l], ?_, ?_⟩
      · rw [pN, h1]
        simp only
        rw [h2]
      · rw [flatF_snoc, (pN_frames h1).1, Nat.zero_add]
  · simp at h1
theorem pN_none {T : List PT} {i : Nat} : ∀ {n m : Nat}, n ≤ m → pN n T i = none → pN m T i = none
  | n, 0, h, h1 => by
    have : n = 0 := by omega
    subst this
    exact h1
  | n, m + 1, h, h1 => by
    rcases Nat.lt_or_ge n (m + 1) with h2 | h2
    · rw [pN, pN_none (by omega) h1]
    · have : n = m + 1 := by omega
      subst this
      exact h1
theorem flRow_map (j : Nat) (l : List Sl) : flRow (l.map (fun s => (j, s))) = slRowR j l := by
  unfold flRow slRowR
  rw [List.flatMap_map]
  rfl
theorem flRow_app (a b : List FSl) : flRow (a ++ b) = flRow a ++ flRow b := by unfold flRow; rw [List.flatMap_append]

theorem pMore_small {l : List UInt8} : ∀ (n : Nat) (i : Nat), (allToks l).length - i ≤ n → ∀ f j, pMore (allToks l) i = some (f, j) → ∀ s ∈ f, s.job ≤ 9999 ∧ s.bud ≤ 9999 := by
  intro n
  induction n with
  | zero =>
    intro i hn f j h
    rw [pMore, dif_neg (by omega)] at h
    simp at h
  | succ n ih =>
    intro i hn f j h
    rw [pMore_eq] at h
    have hs1 : (slAt (allToks l) i).job ≤ 9999 ∧ (slAt (allToks l) i).bud ≤ 9999 := ⟨tk_N l _, tk_N l _⟩
    split at h
    · rename_i hs
      have hlt := slOk_lt hs
      split at h
      · cases hm : pMore (allToks l) (i + 5) with
        | none => rw [hm] at h; simp at h
        | some x =>
          obtain ⟨l', k⟩ := x
          rw [hm] at h
          simp at h
          obtain ⟨rfl, rfl⟩ := h
          intro s hsm
          rcases List.mem_cons.1 hsm with rfl | hsm
          · exact hs1
          · exact ih (i + 5) (by omega) l' k hm s hsm
      · split at h
        · simp at h
          obtain ⟨rfl, rfl⟩ := h
          intro s hsm
          simp at hsm
          subst hsm
          exact hs1
        · simp at h
    · simp at h
theorem pFrame_small {l : List UInt8} {i : Nat} {f : List Sl} {j : Nat} (h : pFrame (allToks l) i = some (f, j)) : ∀ s ∈ f, s.job ≤ 9999 ∧ s.bud ≤ 9999 := by
  unfold pFrame at h
  split at h
  · simp at h
    obtain ⟨rfl, rfl⟩ := h
    simp
  · exact pMore_small _ i (Nat.le_refl _) f j h
theorem pN_small {l : List UInt8} {i : Nat} : ∀ {n : Nat} {fs : List (List Sl)} {j : Nat}, pN n (allToks l) i = some (fs, j) → ∀ f ∈ fs, ∀ s ∈ f, s.job ≤ 9999 ∧ s.bud ≤ 9999
  | 0, fs, j, h => by
    simp [pN] at h
    obtain ⟨rfl, rfl⟩ := h
    simp
  | n + 1, fs, j, h => by
    rw [pN] at h
    cases h1 : pN n (allToks l) i with
    | none => rw [h1] at h; simp at h
    | some x =>
      obtain ⟨gs, k⟩ := x
      rw [h1] at h
      simp only at h
      cases h2 : pFrame (allToks l) k with
      | none => rw [h2] at h; simp at h
      | some y =>
        obtain ⟨f, k'⟩ := y
        rw [h2] at h
        simp at h
        obtain ⟨rfl, rfl⟩ := h
        intro g hg
        rcases List.mem_append.1 hg with hg | hg
        · exact pN_small h1 g hg
        · simp at hg
          subst hg
          exact pFrame_small h2

/-- A document's table that is sound, and its text, as the program says them. -/
theorem sel_flat : ∀ (fs : List (List Sl)) (j k : Nat), (hk : k < fs.length) → selJ (j + k) (flatF j fs) = fs[k]
  | [], j, k, hk => by simp at hk
  | f :: r, j, k, hk => by
    have e : selJ (j + k) (flatF j (f :: r)) = selJ (j + k) (f.map (fun s => (j, s))) ++ selJ (j + k) (flatF (j + 1) r) := by
      simp [selJ, flatF]
    rw [e]
    cases k with
    | zero =>
      have h1 : selJ (j + 0) (f.map (fun s => (j, s))) = f := by
        simp [selJ, List.filter_map, Function.comp_def]
      have h2 : selJ (j + 0) (flatF (j + 1) r) = [] := by
        unfold selJ
        rw [List.filter_eq_nil_iff.2]
        · rfl
        · intro x hx
          have := (flatF_mem r (j + 1) x hx).1
          simp
          omega
      rw [h1, h2]; simp
    | succ k =>
      have h1 : selJ (j + (k + 1)) (f.map (fun s => (j, s))) = [] := by
        simp [selJ, List.filter_map, Function.comp_def]
      rw [h1, List.nil_append, show j + (k + 1) = j + 1 + k by omega, sel_flat r (j + 1) k (by simpa using hk)]
      simp
theorem framesX_flat (fs : List (List Sl)) : framesX (flatF 0 fs) fs.length = fs.flatMap (fun f => frX f ++ [59, 10]) := by
  unfold framesX
  have h : ∀ n, n ≤ fs.length → (List.range n).flatMap (fun j => frX (selJ j (flatF 0 fs)) ++ [59, 10]) = (fs.take n).flatMap (fun f => frX f ++ [59, 10]) := by
    intro n
    induction n with
    | zero => simp
    | succ n ih =>
      intro hn
      have := sel_flat fs 0 n (by omega)
      rw [Nat.zero_add] at this
      rw [List.range_succ, List.flatMap_append, ih (by omega), List.take_succ_eq_append_getElem (by omega), List.flatMap_append]
      simp [this]
  rw [h fs.length (Nat.le_refl _), List.take_length]
theorem slX_txt {s : Sl} (h1 : s.job < 100) (h2 : s.bud < 100) : slX s = slTxt s := by
  unfold slX slTxt dL
  rw [dX_small h1, dX_small h2]
theorem frX_txt : ∀ (f : List Sl), (∀ s ∈ f, s.job < 100 ∧ s.bud < 100) → frX f = frTxt f
  | [], _ => rfl
  | [s], h => slX_txt (h s (by simp)).1 (h s (by simp)).2
  | s :: x :: r, h => by
    have ih := frX_txt (x :: r) (fun z hz => h z (List.mem_cons_of_mem _ hz))
    simp only [frX, frTxt] at ih ⊢
    rw [slX_txt (h s (by simp)).1 (h s (by simp)).2, ih]
theorem tab_text {t : Tb} (h : Sound t) : hdTxt t.cyc t.fr ++ framesX (flatF 0 t.fs) (t.cyc / t.fr) = tbTxt t := by
  have hq : t.cyc / t.fr = t.fs.length := by
    rw [← h.c3, Nat.mul_div_cancel_left _ (by have := h.frames; omega)]
  rw [hq, framesX_flat]
  unfold tbTxt
  congr 1
  have hs := h.small
  have : ∀ (fs : List (List Sl)), (∀ f ∈ fs, ∀ s ∈ f, s.job < 60 ∧ 1 ≤ s.bud ∧ s.bud ≤ 60) → fs.flatMap (fun f => frX f ++ [59, 10]) = fs.flatMap (fun f => frTxt f ++ [59, 10]) := by
    intro fs
    induction fs with
    | nil => intro _; rfl
    | cons f r ih =>
      intro hf
      simp only [List.flatMap_cons]
      rw [ih (fun g hg => hf g (List.mem_cons_of_mem _ hg)), frX_txt f (fun s hs => by have := hf f (by simp) s hs; omega)]
  exact this t.fs (fun f hf => (hs f hf).2)

theorem sound_of {t : Tb} (h1 : 1 ≤ t.cyc) (h2 : t.cyc ≤ 60) (h3 : t.fr * t.fs.length = t.cyc) : (BudR t.fr [] (flatF 0 t.fs) ∧ JobsR (flatF 0 t.fs)) ↔ Sound t := by
  rw [budR_flat t.fr t.fs 0 [] (fun i _ => rfl), jobs_same (flatF_rises t.fs 0)]
  exact ⟨fun h => ⟨h1, h2, h3, h.1, h.2⟩, fun h => ⟨h.bud, h.jobs⟩⟩
end Go.Proofs.YtbdffcjganlblaaGreatDoor
