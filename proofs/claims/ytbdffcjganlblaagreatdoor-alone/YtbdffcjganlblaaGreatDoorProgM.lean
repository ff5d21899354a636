/-
  Own work. The program: a set's text.
-/
import Derived.Test.YtbdffcjganlblaaGreatDoorProgL
namespace Go.Proofs.YtbdffcjganlblaaGreatDoor
open Go.RowKit
set_option linter.unusedVariables false
set_option linter.unusedSimpArgs false

theorem tLine_join (t : Tk) : ∃ J, Lib.join ((taskToks t).map (·.data.toList)) [32] = J ∧ J ++ [59, 10] = tLine t ∧ J.length ≤ 100 := by
  have e : Lib.join ((taskToks t).map (·.data.toList)) [32] ++ [59, 10] = tLine t := by
    unfold taskToks tLine
    by_cases hO : t.O = 0
    · rw [if_pos hO, if_neg (by omega)]
      simp [Lib.join, dL, bs]
    · rw [if_neg hO, if_pos (by omega)]
      simp [Lib.join, dL, bs]
  refine ⟨_, rfl, e, ?_⟩
  have h := congrArg List.length e
  have h2 := tLine_len t
  rw [List.length_append] at h
  omega

theorem pLine_join (p : Pr) : ∃ J, Lib.join (([bs (pW p), bs [p.a], bs [p.b]]).map (·.data.toList)) [32] = J ∧ J ++ [59, 10] = pLine p ∧ J.length ≤ 10 := by
  refine ⟨_, rfl, ?_, ?_⟩
  · unfold pW pLine
    cases p.ap <;> simp [Lib.join, bs]
  · unfold pW
    cases p.ap <;> simp [Lib.join, bs]

theorem isB_below {w w' : World} {T e : TypeId} {B b : Nat} {l : List Value} (h : Lib.IsBuilder T e B b l w) (hb : Below w.heap.size w w') : Lib.IsBuilder T e B b l w' := by
  rcases h with ⟨h1, v, h2, h3, h4⟩ | ⟨h1, v, h2, h3, h4⟩
  · exact .inl ⟨h1, v, blk_keep h2 hb, owns_below h3 hb, h4⟩
  · exact .inr ⟨h1, v, blk_keep h2 hb, owns_below h3 hb, h4⟩
theorem isB_lt {w : World} {T e : TypeId} {B b : Nat} {l : List Value} (h : Lib.IsBuilder T e B b l w) : b < w.heap.size := by
  rcases h with h | h
  · exact h.lt
  · exact h.lt
theorem byteCells_app (a b : List UInt8) : Lib.byteCells a ++ Lib.strCells (bs b) = Lib.byteCells (a ++ b) := by
  simp [Lib.byteCells, Lib.strCells, bs]
theorem byteCells_len (a : List UInt8) : (Lib.byteCells a).length = a.length := by simp [Lib.byteCells]

theorem taskTokens_v (x : Tk × Nat) (v : Value) (w : World) (hv : v = .agg (ptA x)) (h1 : x.1.P < 100) (h2 : x.1.O < 100) (h3 : x.1.C < 100) (h4 : x.1.D < 100) :
    Calls Tryz.prog 132 #[v] w (TokOut (taskToks x.1) w) := by
  subst hv
  exact taskTokens_any x w h1 h2 h3 h4
theorem taskToks_len (t : Tk) : (taskToks t).length ≤ 10 := by
  unfold taskToks
  split <;> simp

theorem flat_lk (F : Tk × Nat → List UInt8) (l : List (Tk × Nat)) (k : Nat) (h : k < l.length) : (l.take (k + 1)).flatMap F = (l.take k).flatMap F ++ F (lk l k) :=
  flat_take F _ l k h
def tLine1 (x : Tk × Nat) : List UInt8 := tLine x.1

/-- The builder so far, and the set. -/
structure TB (w wr : World) (L : List UInt8) (a b : Value) : Prop where
  isb : Lib.IsBuilder 109 5 (w.heap.size + 1) (w.heap.size + 1) (Lib.byteCells L) wr
  hx : wr.heap[w.heap.size]? = some (.cells #[a, b] 84 (0, 0))
  bel : Below w.heap.size w wr

theorem TB.call {w wr w' : World} {L : List UInt8} {a b : Value} (h : TB w wr L a b) (hb : Below wr.heap.size wr w') : TB w w' L a b :=
  ⟨isB_below h.isb hb, blk_keep h.hx hb, h.bel.trans (hb.mono h.bel.size)⟩
theorem TB.wrote {w wr w' : World} {L M : List UInt8} {a b p : Value} (h : TB w wr L a b) (hp : p = .pointer (some ⟨w.heap.size + 1, 0, none⟩)) (hat : Lib.BuilderAt 109 5 (w.heap.size + 1) (w.heap.size + 1) p (Lib.byteCells L ++ Lib.strCells (bs M)) w') (hb : Below (w.heap.size + 1) wr w') : TB w w' (L ++ M) a b := by
  subst hp
  refine ⟨.inr ?_, ?_, h.bel.trans (hb.mono (by omega))⟩
  · rw [← byteCells_app]; exact hat
  · rw [hb.block _ (by omega)]; exact h.hx

set_option maxRecDepth 100000 in
set_option maxHeartbeats 1000000 in
theorem text_any (l : List (Tk × Nat)) (ps : List Pr) (g cap : Nat) (pa : Option Addr) (pc : Nat) (w : World) (hg : g < w.heap.size) (hr : RowPT w g l) (hcap : l.length ≤ cap) (hn : l.length ≤ 6) (hsm : ∀ k, k < l.length → (lk l k).1.P < 100 ∧ (lk l k).1.O < 100 ∧ (lk l k).1.C < 100 ∧ (lk l k).1.D < 100)
    (hm : ps.length ≤ 6) (hp : 0 < ps.length → ∃ gp, pa = some ⟨gp, 0, none⟩ ∧ gp < w.heap.size ∧ RowPP w gp ps) (R : List UInt8) (hR : l.flatMap tLine1 ++ ps.flatMap pLine = R) :
    Calls Tryz.prog 94 #[.agg #[.slice (some ⟨g, 0, none⟩) l.length cap, .slice pa ps.length pc]] w fun e w' => e = .returned (.string (bs R)) ∧ Below w.heap.size w w' := by
  have HR := hide hR
  have Hr := hide hr
  have Hp := hide hp
  have Hsm := hide hsm
  have hT0 : Hid (TB w ((w.alloc (.cells #[.slice (some ⟨g, 0, none⟩) l.length cap, .slice pa ps.length pc] 84)).alloc (.cells #[.pointer none, .slice none 0 0] 109)) [] (.slice (some ⟨g, 0, none⟩) l.length cap) (.slice pa ps.length pc)) := by
    refine ⟨.inl ⟨Nat.le_refl _, .slice none 0 0, ?_, World.ownsRow_nil _ _ _ _, by simp [Value.ownBlock]⟩, ?_, (below_new w _).alloc (by simp) _⟩
    · simpa using blk_new (w.alloc (.cells #[.slice (some ⟨g, 0, none⟩) l.length cap, .slice pa ps.length pc] 84)) #[.pointer none, .slice none 0 0] 109
    · rw [Below.heap_alloc _ _ _ (by simp)]; exact blk_new _ _ _
  clear hR hr hp hsm
  go_enter Tryz.func94, Tryz.ntmps94
  go_wp2
  go_loopw [11] (fun i wr => ∃ k : Nat, k ≤ l.length ∧ i = .int .i64 k ∧ TB w wr ((l.take k).flatMap tLine1) (.slice (some ⟨g, 0, none⟩) l.length cap) (.slice pa ps.length pc) ∧ ((l.take k).flatMap tLine1).length ≤ 60 * k) (fun i _ => l.length - (intOf i).toNat)
  case atStart => exact ⟨0, by omega, rfl, hT0.out, by simp⟩
  case round =>
    clear hT0
    obtain ⟨k, hk, rfl, hT, hlen⟩ := hrel
    have x0 := blk_cell hT.hx
    have hsz := hT.bel.size
    have hlb := isB_lt hT.isb
    have HT := hide hT
    clear hT
    by_cases hlt : k < l.length
    · obtain ⟨r0, r1, r2, r3, r4, r5, r6, r7, r8, r9⟩ := Hr.out.below HT.out.bel hg k hlt
      obtain ⟨b1, b2, b3, b4⟩ := Hsm.out k hlt
      have hft := hide (flat_lk tLine1 l k hlt)
      have hkc : k ≤ cap := by omega
      have hkc' : (k : Int) ≤ (cap : Int) := by omega
      have hgw : g < wr.heap.size := by omega
      generalize lk l k = x at *
      generalize (l.take k).flatMap tLine1 = L at *
      go_wp2_with fail
      refine (taskTokens_v x _ _ rfl b1 b2 b3 b4).mono ?_
      rintro e w1 ⟨hb1, g1, c1, rfl, hg1, hc1, hx1⟩
      have HT1 := hide ((HT.out.call (below_new wr _)).call hb1)
      have Hx1 := hide hx1
      clear hb1 hx1 r0 r1 r2 r3 r4 r5 r6 r7 r8 r9 x0 HT
      obtain ⟨J, hJ, hJe, hJl⟩ := tLine_join x.1
      have HJ := hide hJ
      have HJe := hide hJe
      clear hJ hJe
      go_wp2_with fail
      refine (line_any g1 c1 (taskToks x.1) _ Hx1.out hg1 (taskToks_len _) hc1 J HJ.out hJl).mono ?_
      rintro e w2 ⟨rfl, hb2⟩
      rw [show J ++ [59, 10] = tLine1 x from HJe.out]
      have HT2 := hide (HT1.out.call hb2)
      have hl2 := isB_lt HT2.out.isb
      clear hb2 HT1 Hx1 HJ HJe
      have htl : (tLine1 x).length ≤ 60 := tLine_len x.1
      go_wp2_with fail
      refine (writeString_any _ _ _ _ _ HT2.out.isb (by rw [byteCells_len, bs_size]; omega) (by omega)).mono ?_
      rintro e w3 ⟨rfl, hat, hb3⟩
      have HT3 := hide (HT2.out.wrote rfl hat hb3)
      clear hat hb3 HT2
      go_wp2
      go_roundw
      case rel => exact ⟨k + 1, by omega, by go_num, by rw [hft.out]; exact HT3.out, by rw [hft.out, List.length_append]; omega⟩
      case measure => simp [intOf]; omega
    · have hkl : k = l.length := by omega
      subst hkl
      have hL : Hid ((l.take l.length).flatMap tLine1 = l.flatMap tLine1) := by unfold Hid; rw [List.take_length]
      have HT' : Hid (TB w wr (l.flatMap tLine1) (.slice (some ⟨g, 0, none⟩) l.length cap) (.slice pa ps.length pc)) := by
        unfold Hid
        rw [← hL.out]
        exact HT.out
      have hlen' : (l.flatMap tLine1).length ≤ 400 := by rw [← hL.out]; omega
      clear hL hlen HT
      generalize l.flatMap tLine1 = L0 at *
      go_wp2
      go_loopw [23] (fun i wr => ∃ k : Nat, k ≤ ps.length ∧ i = .int .i64 k ∧ TB w wr (L0 ++ (ps.take k).flatMap pLine) (.slice (some ⟨g, 0, none⟩) l.length cap) (.slice pa ps.length pc) ∧ (L0 ++ (ps.take k).flatMap pLine).length ≤ 400 + 12 * k) (fun i _ => ps.length - (intOf i).toNat)
      case atStart => exact ⟨0, by omega, rfl, by simpa using HT'.out, by simp; omega⟩
      case round =>
        clear HT' x0 hsz hlb
        obtain ⟨k, hk, rfl, hT, hlen⟩ := hrel
        have x0 := blk_cell hT.hx
        have hsz := hT.bel.size
        have hlb := isB_lt hT.isb
        have HT := hide hT
        clear hT
        by_cases hlt : k < ps.length
        · obtain ⟨gp, rfl, hgp, hRP⟩ := Hp.out (by omega)
          obtain ⟨r0, r1, r2, r3, r4⟩ := hRP.below HT.out.bel hgp k hlt
          have hft : Hid ((ps.take (k + 1)).flatMap pLine = (ps.take k).flatMap pLine ++ pLine (psk ps k)) := flat_take pLine _ ps k hlt
          have hgpw : gp < wr.heap.size := by omega
          clear hRP Hp
          generalize psk ps k = p at *
          change wr.cell? ⟨gp, k * 5, none⟩ = some (.string (bs (pW p))) at r0
          have hL : Hid (L0 ++ (ps.take (k + 1)).flatMap pLine = (L0 ++ (ps.take k).flatMap pLine) ++ pLine p) := by unfold Hid; rw [hft.out, List.append_assoc]
          generalize L0 ++ (ps.take k).flatMap pLine = L at *
          go_wp2_with fail
          refine (pairTokens_any p _).mono ?_
          rintro e w1 ⟨hb1, g1, c1, rfl, hg1, hc1, hx1⟩
          have HT1 := hide ((HT.out.call (below_new wr _)).call hb1)
          have Hx1 := hide hx1
          clear hb1 hx1 r0 r1 r2 r3 r4 x0 HT
          obtain ⟨J, hJ, hJe, hJl⟩ := pLine_join p
          have HJ := hide hJ
          have HJe := hide hJe
          clear hJ hJe
          go_wp2_with fail
          refine (line_any g1 c1 [bs (pW p), bs [p.a], bs [p.b]] _ Hx1.out hg1 (by simp) hc1 J HJ.out (by omega)).mono ?_
          rintro e w2 ⟨rfl, hb2⟩
          have hpl : (pLine p).length ≤ 12 := by rw [← HJe.out, List.length_append]; simp; omega
          rw [HJe.out]
          have HT2 := hide (HT1.out.call hb2)
          have hl2 := isB_lt HT2.out.isb
          clear hb2 HT1 Hx1 HJ HJe
          go_wp2_with fail
          refine (writeString_any _ _ _ _ _ HT2.out.isb (by rw [byteCells_len, bs_size]; omega) (by omega)).mono ?_
          rintro e w3 ⟨rfl, hat, hb3⟩
          have HT3 := hide (HT2.out.wrote rfl hat hb3)
          clear hat hb3 HT2
          go_wp2
          go_roundw
          case rel => exact ⟨k + 1, by omega, by go_num, by rw [hL.out]; exact HT3.out, by rw [hL.out, List.length_append]; omega⟩
          case measure => simp [intOf]; omega
        · have hkl : k = ps.length := by omega
          subst hkl
          have HT' : Hid (TB w wr R (.slice (some ⟨g, 0, none⟩) l.length cap) (.slice pa ps.length pc)) := by
            unfold Hid
            have := HT.out
            rw [List.take_length, HR.out] at this
            exact this
          clear HT
          go_wp2_with fail
          refine (builderString_any _ _ _ _ HT'.out.isb (by omega)).mono ?_
          rintro e w1 ⟨rfl, hb1⟩
          have hB := hide (HT'.out.bel.trans (hb1.mono (by omega)))
          clear hb1 HT'
          go_wp2
          go_ret
          exact ⟨rfl, hB.out⟩
end Go.Proofs.YtbdffcjganlblaaGreatDoor
