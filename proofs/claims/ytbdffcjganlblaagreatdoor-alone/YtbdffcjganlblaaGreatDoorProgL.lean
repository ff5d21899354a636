/-
  Own work. The program: a task's tokens.
-/
import Derived.Test.YtbdffcjganlblaaGreatDoorProgK
import Derived.Deep.DeepCutAuto
namespace Go.Proofs.YtbdffcjganlblaaGreatDoor
open Go.RowKit
set_option linter.unusedVariables false
set_option linter.unusedSimpArgs false

theorem Tryz.infoStr : (Tryz.prog.info? 9).map (fun i => (i.zero, i.size, i.bytes)) = some (some (.string ⟨#[]⟩), 1, 16) := by kernel_rfl

def taskToks (t : Tk) : List ByteArray :=
  [⟨#[116, 97, 115, 107]⟩, bs [t.nm], ⟨#[101, 118, 101, 114, 121]⟩, dB t.P] ++ (if t.O = 0 then [] else [⟨#[102, 114, 111, 109]⟩, dB t.O]) ++ [⟨#[116, 97, 107, 101, 115]⟩, dB t.C, ⟨#[119, 105, 116, 104, 105, 110]⟩, dB t.D]

/-- The memory of tokens: its words so far, and its task. -/
def TT (w wc : World) (x : Tk × Nat) (xs : List ByteArray) (v : Value) : Prop :=
  wc.ownsRow (w.heap.size + 1) 9 1 v xs.length (xs.map Value.string) ∧ wc.heap[w.heap.size]? = some (.cells (ptA x) 172 (0, 0)) ∧ w.grownBy wc none

theorem TT.alloc {w wc : World} {x : Tk × Nat} {xs : List ByteArray} {v : Value} (h : TT w wc x xs v) (o : Obj) : TT w (wc.alloc o) x xs v :=
  ⟨h.1.alloc o, by rw [Below.heap_alloc _ _ _ (blk_lt h.2.1)]; exact h.2.1, grownBy_alloc' h.2.2 o⟩
theorem TT.drew {w wc : World} {x : Tk × Nat} {xs : List ByteArray} {v : Value} (h : TT w wc x xs v) : TT w wc.drew x xs v :=
  ⟨h.1.kept (row := none) ⟨rfl, rfl, rfl, Nat.le_refl _, fun _ _ _ => rfl⟩ (by cases hv : v.ownBlock <;> simp), h.2.1, grownBy_drew h.2.2⟩
theorem TT.more {w wc w' : World} {x : Tk × Nat} {xs ys : List ByteArray} {v v' : Value} {m : Nat} {ns : List Value} (h : TT w wc x xs v) (hm : m = ys.length) (hn : ns = ys.map Value.string) (hown : w'.ownsRow (w.heap.size + 1) 9 1 v' (xs.length + m) (xs.map Value.string ++ ns)) (hg : wc.grownBy w' v.ownBlock) : TT w w' x (xs ++ ys) v' := by
  subst hm hn
  refine ⟨by rw [List.length_append, List.map_append]; exact hown, ?_, ?_⟩
  · rw [hg.block _ (blk_lt h.2.1) (own_ge h.1 (Nat.lt_succ_self _)).symm]
    exact h.2.1
  · refine ⟨hg.os.trans h.2.2.os, hg.tape.trans h.2.2.tape, hg.output.trans h.2.2.output, Nat.le_trans h.2.2.size hg.size, fun k hk _ => ?_⟩
    rw [hg.block k (Nat.lt_of_lt_of_le hk h.2.2.size) (own_ge h.1 (Nat.lt_succ_of_lt hk)).symm]
    exact h.2.2.block k hk (by simp)
theorem TT.out {w wc : World} {x : Tk × Nat} {xs : List ByteArray} {v : Value} (h : TT w wc x xs v) (hn : 0 < xs.length) : TokOut xs w (.returned v) wc := by
  obtain ⟨g, cap, rfl, h1, h2⟩ := own_form h.1 hn
  refine ⟨below_grown h.2.2, g, cap, rfl, h2, own_cap h.1, ?_⟩
  intro j y hj
  rw [addr_add]
  exact h.1.cells rfl j _ (by simp [hj])

theorem digits_v (n q : Nat) (v : Value) (w : World) (hv : v = .agg #[.int .i64 n, .int .i64 q]) (hn : n < 100) :
    Calls Tryz.prog 158 #[v] w fun e w' => e = .returned (.string (dB n)) ∧ Below w.heap.size w w' := by
  subst hv
  refine (digits_any n q w hn).mono ?_
  rintro e w' ⟨rfl, rfl⟩
  exact ⟨rfl, below_new _ _⟩

/-- The first four words, made. -/
theorem TT.start {w w9 : World} {x : Tk × Nat} (a b c d : ByteArray) (hX : w9.heap[w.heap.size]? = some (.cells (ptA x) 172 (0, 0))) (hg : w.grownBy w9 none) :
    TT w (w9.alloc (.cells #[.string a, .string b, .string c, .string d] 9)) x [a, b, c, d] (.slice (some ⟨w9.heap.size, 0, none⟩) 4 4) :=
  ⟨World.ownsRow_lit (base := w.heap.size + 1) (size := 1) w9 #[.string a, .string b, .string c, .string d] 4 (blk_lt hX) (by decide) rfl, by rw [Below.heap_alloc _ _ _ (blk_lt hX)]; exact hX, grownBy_alloc' hg _⟩
theorem TT.call {w wc w' : World} {x : Tk × Nat} {xs : List ByteArray} {v : Value} (h : TT w wc x xs v) (hb : Below wc.heap.size wc w') : TT w w' x xs v :=
  ⟨owns_below h.1 hb, blk_keep h.2.1 hb, grownBy_trans h.2.2 (grown_below hb)⟩

set_option maxRecDepth 100000 in
set_option maxHeartbeats 1000000 in
theorem taskTokens_any (x : Tk × Nat) (w : World) (h1 : x.1.P < 100) (h2 : x.1.O < 100) (h3 : x.1.C < 100) (h4 : x.1.D < 100) :
    Calls Tryz.prog 132 #[.agg (ptA x)] w (TokOut (taskToks x.1) w) := by
  obtain ⟨i0, hi, hz0, hz1, hz2⟩ := info_parts Tryz.infoStr
  have hxs : ∃ xs, taskToks x.1 = xs := ⟨_, rfl⟩
  obtain ⟨xs, hxs⟩ := hxs
  rw [hxs]
  have Hxs := hide hxs
  clear hxs
  have hT0 := blk_new w (ptA x) 172
  have hG0 := hide (grown_below (below_new w (.cells (ptA x) 172)))
  go_enter Tryz.func132, Tryz.ntmps132
  go_wp2_with fail
  generalize w.alloc (.cells (ptA x) 172) = w0 at *
  obtain ⟨c0, c1, c2, c3, c4, c5, c6, c7, c8, c9⟩ := ptA_cells hT0
  have HT0 := hide hT0
  clear hT0
  go_cut [3] (fun v wc => TT w wc x [⟨#[116, 97, 115, 107]⟩, bs [x.1.nm], ⟨#[101, 118, 101, 114, 121]⟩, dB x.1.P] v)
  case first =>
    go_region_with ((go_at_call 158; refine (digits_v x.1.P x.1.q1 _ _ rfl h1).mono ?_; rintro e w9 ⟨rfl, hb9⟩; have HG9 := hide (grownBy_trans (grownBy_drew hG0.out) (grown_below hb9)); have HT9 := hide (blk_keep (w := w0.drew) HT0.out hb9); obtain ⟨y0, _⟩ := ptA_cells HT9.out; clear hb9))
    all_goals
      go_wp2
      go_meet
      case rel => exact TT.start _ _ _ _ HT9.out HG9.out
  case rest =>
    have H := hide hcut
    obtain ⟨g, cap, rfl, hg1, hg2⟩ := own_form hcut.1 (by simp)
    clear hcut c0 c1 c2 c3 c4 c5 c6 c7 c8 c9 HT0 hG0
    obtain ⟨c0, c1, c2, c3, c4, c5, c6, c7, c8, c9⟩ := ptA_cells H.out.2.1
    by_cases hO : x.1.O = 0
    · have hO' : ((x.1.O : Int) != 0) = false := by simp [hO]
      have HL : Hid (xs = [⟨#[116, 97, 115, 107]⟩, bs [x.1.nm], ⟨#[101, 118, 101, 114, 121]⟩, dB x.1.P] ++ [⟨#[116, 97, 107, 101, 115]⟩, dB x.1.C, ⟨#[119, 105, 116, 104, 105, 110]⟩, dB x.1.D]) := by
        unfold Hid
        rw [← Hxs.out]
        unfold taskToks
        rw [if_pos hO]
        rfl
      clear hO Hxs
      go_wp2_with fail
      go_region_law (first | (refine step_append_own rfl (.tmp 21) (.tmp 28) 159 rfl (w.heap.size + 1) 9 i0 _ 1 16 Tryz.underlying159 hi hz0 hz1 hz2 rfl (by decide) _ _ _ rfl (H9.out.1.alloc _) ⟨w9.heap.size, 0, none⟩ 4 4 [.string ⟨#[116, 97, 107, 101, 115]⟩, .string (dB x.1.C), .string ⟨#[119, 105, 116, 104, 105, 110]⟩, .string (dB x.1.D)] rfl rfl (cells_new w9 #[_, _, _, _] _ _ rfl) (by simp [Value.oneCell']) (by simp [maxLen]) (by simp) (by simp; omega) ?_; intro v' w10 hown10 hgr; have H10 := hide ((H9.out.alloc _).more (ys := [⟨#[116, 97, 107, 101, 115]⟩, dB x.1.C, ⟨#[119, 105, 116, 104, 105, 110]⟩, dB x.1.D]) rfl rfl hown10 hgr); clear hown10 hgr) | (go_simp; go_at_call 158; first | (refine (digits_v x.1.C x.1.q3 _ _ rfl h3).mono ?_; rintro e w8 ⟨rfl, hb8⟩; have H8 := hide (H.out.drew.call hb8); obtain ⟨y0, y1, y2, y3, y4, y5, y6, y7, y8, y9⟩ := ptA_cells H8.out.2.1; clear hb8) | (refine (digits_v x.1.D x.1.q4 _ _ rfl h4).mono ?_; rintro e w9 ⟨rfl, hb9⟩; have H9 := hide (H8.out.call hb9); have hl9 := blk_lt H9.out.2.1; clear hb9)))
      all_goals
        go_wp2
        go_ret
        rw [HL.out]
        exact H10.out.out (by simp)
    · have hO' : ((x.1.O : Int) != 0) = true := by simp; omega
      have HL : Hid (xs = ([⟨#[116, 97, 115, 107]⟩, bs [x.1.nm], ⟨#[101, 118, 101, 114, 121]⟩, dB x.1.P] ++ [⟨#[102, 114, 111, 109]⟩, dB x.1.O]) ++ [⟨#[116, 97, 107, 101, 115]⟩, dB x.1.C, ⟨#[119, 105, 116, 104, 105, 110]⟩, dB x.1.D]) := by
        unfold Hid
        rw [← Hxs.out]
        unfold taskToks
        rw [if_neg hO]
      clear hO Hxs
      go_wp2_with fail
      refine (digits_v x.1.O x.2 _ _ rfl h2).mono ?_
      rintro e w7 ⟨rfl, hb7⟩
      have H7 := hide (H.out.call hb7)
      have hl7 := blk_lt H7.out.2.1
      clear hb7 H c0 c1 c2 c3 c4 c5 c6 c7 c8 c9
      go_wp2_with (at_builtin; refine wpList_append_own _ rfl _ _ 159 rfl (w.heap.size + 1) 9 i0 _ 1 16 Tryz.underlying159 hi hz0 hz1 hz2 rfl (by decide) _ _ _ rfl (H7.out.1.alloc _) ⟨w7.heap.size, 0, none⟩ 2 2 [.string ⟨#[102, 114, 111, 109]⟩, .string (dB x.1.O)] rfl rfl ?c1 ?c2 ?c3 ?c4 ?c5 ?_)
      case c1 => exact cells_new w7 #[_, _] _ _ rfl
      case c2 => simp [Value.oneCell']
      case c3 => simp [maxLen]
      case c4 => simp
      case c5 => simp; omega
      intro v' w6 hown6 hgr _
      have H := hide ((H7.out.alloc _).more (ys := [⟨#[102, 114, 111, 109]⟩, dB x.1.O]) rfl rfl hown6 hgr)
      obtain ⟨g', cap', rfl, hg1', hg2'⟩ := own_form H.out.1 (by simp)
      clear hown6 hgr H7 hl7
      obtain ⟨c0, c1, c2, c3, c4, c5, c6, c7, c8, c9⟩ := ptA_cells H.out.2.1
      go_wp2_with fail
      go_region_law (first | (refine step_append_own rfl (.tmp 21) (.tmp 28) 159 rfl (w.heap.size + 1) 9 i0 _ 1 16 Tryz.underlying159 hi hz0 hz1 hz2 rfl (by decide) _ _ _ rfl (H9.out.1.alloc _) ⟨w9.heap.size, 0, none⟩ 4 4 [.string ⟨#[116, 97, 107, 101, 115]⟩, .string (dB x.1.C), .string ⟨#[119, 105, 116, 104, 105, 110]⟩, .string (dB x.1.D)] rfl rfl (cells_new w9 #[_, _, _, _] _ _ rfl) (by simp [Value.oneCell']) (by simp [maxLen]) (by simp) (by simp; omega) ?_; intro v' w10 hown10 hgr; have H10 := hide ((H9.out.alloc _).more (ys := [⟨#[116, 97, 107, 101, 115]⟩, dB x.1.C, ⟨#[119, 105, 116, 104, 105, 110]⟩, dB x.1.D]) rfl rfl hown10 hgr); clear hown10 hgr) | (go_simp; go_at_call 158; first | (refine (digits_v x.1.C x.1.q3 _ _ rfl h3).mono ?_; rintro e w8 ⟨rfl, hb8⟩; have H8 := hide (H.out.drew.call hb8); obtain ⟨y0, y1, y2, y3, y4, y5, y6, y7, y8, y9⟩ := ptA_cells H8.out.2.1; clear hb8) | (refine (digits_v x.1.D x.1.q4 _ _ rfl h4).mono ?_; rintro e w9 ⟨rfl, hb9⟩; have H9 := hide (H8.out.call hb9); have hl9 := blk_lt H9.out.2.1; clear hb9)))
      all_goals
        go_wp2
        go_ret
        rw [HL.out]
        exact H10.out.out (by simp)
end Go.Proofs.YtbdffcjganlblaaGreatDoor
