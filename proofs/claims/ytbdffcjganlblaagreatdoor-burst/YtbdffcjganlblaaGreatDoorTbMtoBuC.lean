/-
  Own work. The program's tables: readTable, unpack.
-/
import Derived.Test.YtbdffcjganlblaaGreatDoorProgLtoTbH
import Derived.Test.YtbdffcjganlblaaGreatDoorTabCtoTbJ
import Derived.Test.YtbdffcjganlblaaGreatDoorTbKtoTbL
import Derived.Test.YtbdffcjganlblaaGreatDoorGuardtoGuard
import Derived.Test.YtbdffcjganlblaaGreatDoorTbAtoTbB
namespace Go.Proofs.YtbdffcjganlblaaGreatDoor
open Go.RowKit
set_option linter.unusedVariables false
set_option linter.unusedSimpArgs false

/-! ### What was read is small; names are letters -/
theorem name_letter {l : List UInt8} {j : Nat} (h : isName (tk (allToks l) j) = true) : letterB ((nameB (tk (allToks l) j)).toNat : Int) = true := by
  have htx := name_tx h
  simp only [isName, Bool.and_eq_true, beq_iff_eq] at h
  rcases tk_first htx with ⟨h1, _⟩ | ⟨_, h1⟩ | ⟨h1, h2, _⟩
  · exact h1
  · omega
  · simp only [signB, Bool.or_eq_true, beq_iff_eq] at h1
    omega
theorem pMore_letter {l : List UInt8} : ∀ (n : Nat) (i : Nat), (allToks l).length - i ≤ n → ∀ f j, pMore (allToks l) i = some (f, j) → ∀ s ∈ f, letterB (s.nm.toNat : Int) = true := by
  intro n
  induction n with
  | zero =>
    intro i hn f j h
    rw [pMore, dif_neg (by omega)] at h
    simp at h
  | succ n ih =>
    intro i hn f j h
    rw [pMore_eq] at h
    split at h
    · rename_i hs
      have hs1 : letterB ((slAt (allToks l) i).nm.toNat : Int) = true := name_letter (by simp only [slOk, Bool.and_eq_true] at hs; exact hs.1)
      have hlt := slOk_lt hs
      split at h
      · cases hm : pMore (allToks l) (i + 5) with
        | none => rw [hm] at h; simp at h
        | some x =>
          obtain ⟨l', k⟩ := x
          rw [hm] at h
          simp at h
          obtain ⟨rfl, rfl⟩ := h
          intro s hsm
          rcases List.mem_cons.1 hsm with rfl | hsm
          · exact hs1
          · exact ih (i + 5) (by omega) l' k hm s hsm
      · split at h
        · simp at h
          obtain ⟨rfl, rfl⟩ := h
          intro s hsm
          simp at hsm
          subst hsm
          exact hs1
        · simp at h
    · simp at h
theorem pN_letter {l : List UInt8} {i : Nat} : ∀ {n : Nat} {fs : List (List Sl)} {j : Nat}, pN n (allToks l) i = some (fs, j) → ∀ f ∈ fs, ∀ s ∈ f, letterB (s.nm.toNat : Int) = true
  | 0, fs, j, h => by
    simp [pN] at h
    obtain ⟨rfl, rfl⟩ := h
    simp
  | n + 1, fs, j, h => by
    rw [pN] at h
    cases h1 : pN n (allToks l) i with
    | none => rw [h1] at h; simp at h
    | some x =>
      obtain ⟨gs, k⟩ := x
      rw [h1] at h
      simp only at h
      cases h2 : pFrame (allToks l) k with
      | none => rw [h2] at h; simp at h
      | some y =>
        obtain ⟨f, k'⟩ := y
        rw [h2] at h
        simp at h
        obtain ⟨rfl, rfl⟩ := h
        intro g hg
        rcases List.mem_append.1 hg with hg | hg
        · exact pN_letter h1 g hg
        · simp at hg
          subst hg
          unfold pFrame at h2
          split at h2
          · simp at h2
            obtain ⟨rfl, rfl⟩ := h2
            simp
          · exact pMore_letter _ k (Nat.le_refl _) _ _ h2
theorem pTab_small {l : List UInt8} {t : Tb} (hl : l.length ≤ 800) (h : pTab (allToks l) = some t) : t.small ∧ ∀ f ∈ t.fs, ∀ s ∈ f, letterB (s.nm.toNat : Int) = true := by
  obtain ⟨_, e1, e2, _, j, h3, h4, h5⟩ := pTab_pN h
  have hT : (allToks l).length ≤ 802 := by
    have := toks_le (l.length + 1) l 0
    unfold allToks
    omega
  have hf := pN_frames h3
  have hsm := pN_small h3
  have hle : t.fs.length ≤ 802 ∧ ∀ f ∈ t.fs, f.length ≤ t.fs.flatten.length := by
    have key : ∀ {n : Nat} {fs : List (List Sl)} {j : Nat}, pN n (allToks l) 5 = some (fs, j) → n + 5 ≤ j := by
      intro n
      induction n with
      | zero => intro fs j h; simp [pN] at h; omega
      | succ n ih =>
        intro fs j h
        rw [pN] at h
        cases h1 : pN n (allToks l) 5 with
        | none => rw [h1] at h; simp at h
        | some x =>
          obtain ⟨gs, k⟩ := x
          rw [h1] at h
          simp only at h
          cases h2 : pFrame (allToks l) k with
          | none => rw [h2] at h; simp at h
          | some y =>
            obtain ⟨f, k'⟩ := y
            rw [h2] at h
            simp at h
            obtain ⟨_, rfl⟩ := h
            have := ih h1
            have := pFrame_len h2
            omega
    have := key h3
    refine ⟨by omega, ?_⟩
    intro f hf
    have : ∀ (fs : List (List Sl)), f ∈ fs → f.length ≤ fs.flatten.length := by
      intro fs
      induction fs with
      | nil => intro h; simp at h
      | cons g r ih =>
        intro h
        rcases List.mem_cons.1 h with rfl | h
        · simp
        · have := ih h
          simp
          simp at this
          omega
    exact this t.fs hf
  refine ⟨⟨by rw [e1]; exact tk_N _ _, by rw [e2]; exact tk_N _ _, by omega, fun f hf' => ⟨?_, hsm f hf'⟩⟩, pN_letter h3⟩
  have := hle.2 f hf'
  omega
theorem bTab_small {l : List UInt8} {t : Tb} (hl : l.length ≤ 1000) (h : bTab l = some t) : t.small := by
  match l, h with
  | c :: f :: r, h =>
    simp only [bTab] at h
    cases h1 : bFr r with
    | none => rw [h1] at h; simp at h
    | some fs =>
      rw [h1] at h
      simp at h
      subst h
      obtain ⟨h2, h3⟩ := bFr_inv _ r fs (Nat.le_refl _) h1
      have h4 := frB_len fs
      rw [h2] at h4
      refine ⟨by have := c.toNat_lt; show c.toNat ≤ 9999; omega, by have := f.toNat_lt; show f.toNat ≤ 9999; omega, by simp at hl; show fs.length ≤ 1000; omega, ?_⟩
      intro g hg
      have := h3 g hg
      exact ⟨by omega, fun s hs => by have := this.2 s hs; omega⟩

theorem FrM.below {w w' : World} {base : Nat} {fv : Value} {P : List (Value × List Sl)} (h : FrM w base fv P) (hb : Below w.heap.size w w') : FrM w' base fv P :=
  ⟨owns_below h.1 hb, fun p hp => owns_below (h.2 p hp) hb⟩
theorem FrM.weak {w : World} {base base' : Nat} {fv : Value} {P : List (Value × List Sl)} (h : FrM w base fv P) (hb : base' ≤ base) : FrM w base' fv P :=
  ⟨own_weak h.1 hb, fun p hp => own_weak (h.2 p hp) hb⟩
theorem FrM.setLow {w : World} {base : Nat} {fv : Value} {P : List (Value × List Sl)} (h : FrM w base fv P) {k : Nat} (hk : k < base) (o : Nat) (v : Value) : FrM (w.setCell ⟨k, o, none⟩ v) base fv P :=
  h.kept (grownBy_set (k := k) (grownBy_refl _ _) o v) (fun q hq => .inl (by simp at hq; omega))

/-- A table is answered, or refused. -/
def TabOut (Q : Tb → Prop) (w : World) (en : Ending) (w' : World) : Prop :=
  Below w.heap.size w w' ∧ ((∃ p, en = pan 8 p ∧ ¬ ∃ t, Q t) ∨ (∃ (t : Tb) (P : List (Value × List Sl)) (a : Option Addr) (c : Nat), Q t ∧ t.fs = P.map Prod.snd ∧ en = .returned (.agg #[.int .i64 t.cyc, .int .i64 t.fr, .slice a P.length c]) ∧ FrM w' w.heap.size (.slice a P.length c) P))

set_option maxRecDepth 100000 in
set_option maxHeartbeats 800000 in
theorem readTable_any (s : ByteArray) (w : World) (hm : s.size ≤ 9223372036854775807) :
    Calls Tryz.prog 32 #[.string s] w (TabOut (TabOk s.data.toList) w) := by
  by_cases hl : 800 < s.size
  · have hl' : (800 : Int) < s.size := by omega
    have hno : Hid (¬ ∃ t, TabOk s.data.toList t) := by
      rintro ⟨t, h, _⟩
      simp at h
      omega
    go_enter Tryz.func32, Tryz.ntmps32
    go_wp2_with fail
    refine (refuse_any 8 0 _ rfl _).mono ?_
    rintro e w' ⟨rfl, rfl⟩
    exact ⟨rfl, below_new _ _, .inl ⟨_, rfl, hno.out⟩⟩
  · have hl' : ¬ (800 : Int) < s.size := by omega
    have hs8 : s.size ≤ 800 := by omega
    go_enter Tryz.func32, Tryz.ntmps32
    go_wp2_with fail
    refine (parseTable_any s _ hs8).mono ?_
    rintro e w1 ⟨hb, hcase⟩
    have hbw : Below w.heap.size w w1 := (below_new w _).trans (hb.mono (by simp))
    have hY := blk_keep (blk_new w ptZ 61) hb
    rcases hcase with ⟨p, rfl, hno⟩ | ⟨t, P, fv, ht, hfs, hPl, rfl, hfm⟩
    · refine ⟨rfl, hbw, .inl ⟨p, rfl, ?_⟩⟩
      rintro ⟨t, h⟩
      have := h.2.1
      rw [hno] at this
      simp at this
    obtain ⟨a, c, rfl⟩ := own_slice hfm.1
    obtain ⟨hsm, hlet⟩ := pTab_small (by simpa using hs8) ht
    have hsz := hb.size
    simp only [World.size_alloc] at hsz hfm
    have hun : ∀ t', TabOk s.data.toList t' → t' = t := fun t' h => by have := h.2.1; rw [ht] at this; exact (Option.some.inj this).symm
    have hX := blk_new w1 #[.int .i64 t.cyc, .int .i64 t.fr, .slice a P.length c] 61
    have hY1 := blk_keep hY (below_new w1 (.cells #[.int .i64 t.cyc, .int .i64 t.fr, .slice a P.length c] 61))
    have hfm1 := hfm.below (below_new w1 (.cells #[.int .i64 t.cyc, .int .i64 t.fr, .slice a P.length c] 61))
    have hb1 := hbw.alloc hbw.size (.cells #[.int .i64 t.cyc, .int .i64 t.fr, .slice a P.length c] 61)
    have hPf : Hid (P.length = t.fs.length) := by unfold Hid; rw [hfs]; simp
    have Hfs := hide hfs
    have Hun := hide hun
    have Ht := hide ht
    have Hlet := hide hlet
    have Hsm := hide hsm
    have HB1 := hide hb1
    have HFM := hide hfm1
    clear hb hbw hY hfm hfs hun ht hlet hsm hb1 hfm1
    have hx := blk_cell hX
    go_wp2_with fail
    clear hx
    generalize w1.alloc (.cells #[.int .i64 t.cyc, .int .i64 t.fr, .slice a P.length c] 61) = w2 at *
    generalize w1.heap.size = X at *
    have hck := tcheck_any t a c w2 (by have := fvA_own HFM.out; rw [← Hfs.out] at this; exact this) Hsm.out
    rw [← hPf.out] at hck
    refine hck.mono ?_
    clear hck
    rintro e w3 ⟨hb3, hcase⟩
    rcases hcase with ⟨hok, rfl⟩ | ⟨hok, rfl⟩
    · have hX3 := blk_keep hX hb3
      have hY3 := blk_keep hY1 hb3
      have hx := blk_cell hX3
      have HFM3 := hide (HFM.out.below hb3)
      have HB3 := hide (HB1.out.trans (hb3.mono HB1.out.size))
      have Hok := hide hok
      clear hb3 hok HFM HB1 hX hY1
      go_wp2_with fail
      have htx := tableText_any t a c w3 (by have := fvA_own HFM3.out; rw [← Hfs.out] at this; exact this) Hok.out.1
      rw [← hPf.out] at htx
      refine htx.mono ?_
      clear htx
      rintro e w4 ⟨rfl, hb4⟩
      have hX4 := blk_keep hX3 hb4
      have hY4 := blk_keep hY3 hb4
      have hx4 := blk_cell hX4
      have y0 : ∀ o, w4.cell? ⟨w.heap.size, o, none⟩ = #[Value.int .i64 0, .int .i64 0, .slice none 0 0][o]? := blk_cell hY4
      have yf := blk_frozen hY4
      have HFM4 := hide (HFM3.out.below hb4)
      have HB4 := hide (HB3.out.trans (hb4.mono HB3.out.size))
      have hne1 : ¬ w.heap.size = X := by omega
      have hne2 : ¬ X = w.heap.size := by omega
      clear hb4 HFM3 HB3 hX3 hY3 hx hX4 hY4
      by_cases hq : tbTxt t = s.data.toList
      · have hq' : ((bs (tbTxt t)).toList == s.toList) = true := by rw [ByteArray.toList_eq, ByteArray.toList_eq, bs_data, hq]; simp
        have Htab : Hid (TabOk s.data.toList t) := ⟨by simpa using hs8, Ht.out, Hok.out.1, hq⟩
        clear hq
        generalize bs (tbTxt t) = TX at *
        go_wp2
        refine bodyPost_ret (v := .agg #[.int .i64 t.cyc, .int .i64 t.fr, .slice a P.length c]) (by simp [results, Tryz.results32, go_sem, y0]) rfl ⟨?_, .inr ⟨t, P, a, c, Htab.out, Hfs.out, rfl, ?_⟩⟩
        · exact below_grown (grownBy_setNew (grownBy_setNew (grownBy_setNew (grown_below HB4.out) (Nat.le_refl _) _ _) (Nat.le_refl _) _ _) (Nat.le_refl _) _ _)
        · exact (((HFM4.out.setLow (Nat.lt_succ_self _) _ _).setLow (Nat.lt_succ_self _) _ _).setLow (Nat.lt_succ_self _) _ _).weak (Nat.le_succ _)
      · have hq' : ((bs (tbTxt t)).toList == s.toList) = false := by rw [ByteArray.toList_eq, ByteArray.toList_eq, bs_data, beq_eq_false_iff_ne]; exact hq
        have hno : Hid (¬ ∃ t, TabOk s.data.toList t) := by
          rintro ⟨t', h⟩
          have := Hun.out t' h
          subst this
          exact hq h.2.2.2
        clear hq
        generalize bs (tbTxt t) = TX at *
        go_wp2_with fail
        refine (refuse_any 8 0 _ rfl _).mono ?_
        rintro e w' ⟨rfl, rfl⟩
        exact ⟨rfl, HB4.out, .inl ⟨_, rfl, hno.out⟩⟩
    · refine ⟨rfl, HB1.out.trans (hb3.mono HB1.out.size), .inl ⟨_, rfl, ?_⟩⟩
      rintro ⟨t', h⟩
      have := Hun.out t' h
      subst this
      exact hok ⟨h.2.2.1, Hlet.out⟩

/-- The bytes are those of the table t, packed. -/
def UnpOk (l : List UInt8) (t : Tb) : Prop := l.length ≤ 246 ∧ ∃ body, l = body ++ sumL body ∧ bTab body = some t ∧ ChkOk t

set_option maxRecDepth 100000 in
set_option maxHeartbeats 800000 in
theorem unpack_any (s : ByteArray) (w : World) (hm : s.size ≤ 9223372036854775807) :
    Calls Tryz.prog 35 #[.string s] w (TabOut (UnpOk s.data.toList) w) := by
  have hll : s.data.toList.length = s.size := by simp
  by_cases hl : 246 < s.size ∨ s.size < 4
  · have hno : Hid (¬ ∃ t, UnpOk s.data.toList t) := by
      rintro ⟨t, h, body, h1, _⟩
      have := congrArg List.length h1
      rw [List.length_append, show (sumL body).length = 4 from rfl] at this
      omega
    have hcs : (246 : Int) < s.size ∨ (¬ (246 : Int) < s.size ∧ (s.size : Int) < 4) := by omega
    clear hl hll
    rcases hcs with a1 | ⟨a1, a2⟩
    all_goals
      go_enter Tryz.func35, Tryz.ntmps35
      go_wp2_with fail
      refine (refuse_any 8 0 _ rfl _).mono ?_
      rintro e w' ⟨rfl, rfl⟩
      exact ⟨rfl, below_new _ _, .inl ⟨_, rfl, hno.out⟩⟩
  · have hl1 : ¬ (246 : Int) < s.size := by omega
    have hl2 : ¬ (s.size : Int) < 4 := by omega
    have hl3 : 4 ≤ s.size := by omega
    have hl4 : s.size ≤ 246 := by omega
    obtain ⟨B, hB⟩ : ∃ B, s.data.toList.take (s.size - 4) = B := ⟨_, rfl⟩
    have hBl : B.length = s.size - 4 := by rw [← hB]; simp
    have hex : s.extract 0 (s.size - 4) = bs B := by
      rw [ext_bs]
      simp only [List.drop_zero, Nat.sub_zero]
      rw [hB]
    have hBu : Hid (∀ body, s.data.toList = body ++ sumL body → body = B) := by
      intro body h
      have hlen := congrArg List.length h
      rw [List.length_append, show (sumL body).length = 4 from rfl] at hlen
      rw [← hB, h, show s.size - 4 = body.length by omega, List.take_left']
      rfl
    have hsub : ((s.size : Int) - 4) = ((s.size - 4 : Nat) : Int) := by omega
    have hiz : (0 : Int) ≤ (s.size : Int) - 4 := by omega
    have HSum : Hid (∀ W, Calls Tryz.prog 68 #[.string (bs B)] W fun e w' => e = .returned (.string (bs (sumL B))) ∧ Below W.heap.size W w') := fun W => by
      have := sumOf_any (bs B) W (by rw [bs_size]; omega)
      rw [bs_data] at this
      exact this
    obtain ⟨X1, a1, z1, e1⟩ := add_named2 (bs B) (bs (sumL B)) (by rw [bs_size, bs_size, show (sumL B).length = 4 from rfl]; omega)
    have EX : Hid (X1.data.toList = B ++ sumL B) := by
      unfold Hid
      rw [e1, bs_data, bs_data]
    have htn : ((s.size : Int) - 4).toNat = s.size - 4 := by omega
    clear z1 e1 hB hl
    go_enter Tryz.func35, Tryz.ntmps35
    go_wp2_with fail
    refine (HSum.out _).mono ?_
    rintro e w1 ⟨rfl, hb⟩
    have hbw : Below w.heap.size w w1 := (below_new w _).trans (hb.mono (by simp))
    have hY := blk_keep (blk_new w ptZ 61) hb
    have hsz := hb.size
    simp only [World.size_alloc] at hsz
    have HBw := hide hbw
    have HY := hide hY
    clear hb hbw hY HSum hex
    by_cases hq : s.data.toList = B ++ sumL B
    · have hq' : (s.toList == X1.toList) = true := by rw [ByteArray.toList_eq, ByteArray.toList_eq, EX.out, hq]; simp
      have Hq := hide hq
      clear hq
      generalize bs (sumL B) = SS at *
      go_wp2_with fail
      refine (parseBody_any B w1 (by omega)).mono ?_
      rintro e w2 ⟨hb2, hcase⟩
      have HB2 := hide (HBw.out.trans (hb2.mono HBw.out.size))
      have hY2 := blk_keep HY.out hb2
      have hsz2 := hb2.size
      rcases hcase with ⟨rfl, hno⟩ | ⟨t, P, a, c, ht, hfs, hPl, rfl, hfm⟩
      · refine ⟨rfl, HB2.out, .inl ⟨0, rfl, ?_⟩⟩
        rintro ⟨t, _, body, h1, h2, _⟩
        rw [hBu.out body h1, hno] at h2
        simp at h2
      have hsm := bTab_small (by omega) ht
      have hX := blk_new w2 #[.int .i64 t.cyc, .int .i64 t.fr, .slice a P.length c] 61
      have hY3 := blk_keep hY2 (below_new w2 (.cells #[.int .i64 t.cyc, .int .i64 t.fr, .slice a P.length c] 61))
      have HFM := hide ((hfm.below (below_new w2 (.cells #[.int .i64 t.cyc, .int .i64 t.fr, .slice a P.length c] 61))).weak (base' := w.heap.size + 1) (by omega))
      have HB3 := hide (HB2.out.alloc HB2.out.size (.cells #[.int .i64 t.cyc, .int .i64 t.fr, .slice a P.length c] 61))
      have hPf : Hid (P.length = t.fs.length) := by unfold Hid; rw [hfs]; simp
      have Hfs := hide hfs
      have Ht := hide ht
      have Hsm := hide hsm
      clear hb2 hY2 hfm hfs ht hsm HB2 HBw HY
      have hx := blk_cell hX
      go_wp2_with fail
      clear hx
      generalize w2.alloc (.cells #[.int .i64 t.cyc, .int .i64 t.fr, .slice a P.length c] 61) = w3 at *
      generalize w2.heap.size = X at *
      have hck := tcheck_any t a c w3 (by have := fvA_own HFM.out; rw [← Hfs.out] at this; exact this) Hsm.out
      rw [← hPf.out] at hck
      refine hck.mono ?_
      clear hck
      rintro e w4 ⟨hb4, hcase⟩
      have HB4 := hide (HB3.out.trans (hb4.mono HB3.out.size))
      rcases hcase with ⟨hok, rfl⟩ | ⟨hok, rfl⟩
      · have hX4 := blk_keep hX hb4
        have hY4 := blk_keep hY3 hb4
        have hx4 := blk_cell hX4
        have y0 : ∀ o, w4.cell? ⟨w.heap.size, o, none⟩ = #[Value.int .i64 0, .int .i64 0, .slice none 0 0][o]? := blk_cell hY4
        have yf := blk_frozen hY4
        have HFM4 := hide (HFM.out.below hb4)
        have hne1 : ¬ w.heap.size = X := by omega
        have hne2 : ¬ X = w.heap.size := by omega
        have Htab : Hid (UnpOk s.data.toList t) := ⟨by omega, B, Hq.out, Ht.out, hok⟩
        clear hb4 hok HFM HB3 hX hY3 hX4 hY4
        go_wp2
        refine bodyPost_ret (v := .agg #[.int .i64 t.cyc, .int .i64 t.fr, .slice a P.length c]) (by simp [results, Tryz.results35, go_sem, y0]) rfl ⟨?_, .inr ⟨t, P, a, c, Htab.out, Hfs.out, rfl, ?_⟩⟩
        · exact below_grown (grownBy_setNew (grownBy_setNew (grownBy_setNew (grown_below HB4.out) (Nat.le_refl _) _ _) (Nat.le_refl _) _ _) (Nat.le_refl _) _ _)
        · exact (((HFM4.out.setLow (Nat.lt_succ_self _) _ _).setLow (Nat.lt_succ_self _) _ _).setLow (Nat.lt_succ_self _) _ _).weak (Nat.le_succ _)
      · refine ⟨rfl, HB4.out, .inl ⟨_, rfl, ?_⟩⟩
        rintro ⟨t', _, body, h1, h2, h3⟩
        rw [hBu.out body h1, Ht.out] at h2
        have := Option.some.inj h2
        subst this
        exact hok h3
    · have hq' : (s.toList == X1.toList) = false := by rw [ByteArray.toList_eq, ByteArray.toList_eq, EX.out, beq_eq_false_iff_ne]; exact hq
      have hno : Hid (¬ ∃ t, UnpOk s.data.toList t) := by
        rintro ⟨t, _, body, h1, _⟩
        have := hBu.out body h1
        subst this
        exact hq h1
      clear hq
      generalize bs (sumL B) = SS at *
      go_wp2_with fail
      refine (refuse_any 8 0 _ rfl _).mono ?_
      rintro e w' ⟨rfl, rfl⟩
      exact ⟨rfl, HBw.out, .inl ⟨_, rfl, hno.out⟩⟩

/-! ### Write and Read -/
/-- A packed table. -/
def packB (t : Tb) : List UInt8 := bodyB t ++ sumL (bodyB t)
def wrE (l : List UInt8) (f : Nat × Nat) : Prop := f.1 = 8 ∧ ¬ ∃ t, TabOk l t
def wrR (l x : List UInt8) : Prop := ∃ t, TabOk l t ∧ x = packB t
def rdE (l : List UInt8) (f : Nat × Nat) : Prop := f.1 = 8 ∧ ¬ ∃ t, UnpOk l t
def rdR (l x : List UInt8) : Prop := ∃ t, UnpOk l t ∧ x = tbTxt t

set_option maxRecDepth 100000 in
set_option maxHeartbeats 800000 in
theorem write1_any (s : ByteArray) (b : Nat) (w : World) (hm : s.size ≤ 9223372036854775807) (hc : w.cell? ⟨b, 0, none⟩ = some (.string s)) :
    Calls Tryz.prog 31 #[.pointer (some ⟨b, 0, none⟩)] w (WorkOut (wrE s.data.toList) (wrR s.data.toList) w) := by
  go_enter Tryz.func31, Tryz.ntmps31
  go_wp2_with fail
  refine (readTable_any s _ hm).mono ?_
  rintro e w1 ⟨hb1, hcase⟩
  rcases hcase with ⟨p, rfl, hno⟩ | ⟨t, P, a, c, ht, hfs, rfl, hfm⟩
  · exact ⟨rfl, hb1, .inl ⟨(8, p), ⟨rfl, hno⟩, rfl⟩⟩
  · have hpk := pack_any t a c w1 (by have := fvA_own hfm; rw [← hfs] at this; exact this) ht.2.2.1
    have hPf : t.fs.length = P.length := by rw [hfs]; simp
    rw [hPf] at hpk
    have Hpk := hide hpk
    have HB := hide hb1
    have Ht := hide ht
    clear hpk hb1 ht hfs hfm hPf
    go_wp2_with fail
    refine Hpk.out.mono ?_
    rintro e w2 ⟨rfl, hb2⟩
    have HB2 := hide (HB.out.trans (hb2.mono HB.out.size))
    have hpb : Hid (bs (bodyB t ++ sumL (bodyB t)) = bs (packB t)) := rfl
    generalize bs (bodyB t ++ sumL (bodyB t)) = RR at *
    clear hb2 Hpk
    go_wp2
    go_ret
    exact ⟨HB2.out, .inr ⟨packB t, ⟨t, Ht.out, rfl⟩, by rw [← hpb.out]; rfl⟩⟩
set_option maxRecDepth 100000 in
set_option maxHeartbeats 800000 in
theorem read1_any (s : ByteArray) (b : Nat) (w : World) (hm : s.size ≤ 9223372036854775807) (hc : w.cell? ⟨b, 0, none⟩ = some (.string s)) :
    Calls Tryz.prog 34 #[.pointer (some ⟨b, 0, none⟩)] w (WorkOut (rdE s.data.toList) (rdR s.data.toList) w) := by
  go_enter Tryz.func34, Tryz.ntmps34
  go_wp2_with fail
  refine (unpack_any s _ hm).mono ?_
  rintro e w1 ⟨hb1, hcase⟩
  rcases hcase with ⟨p, rfl, hno⟩ | ⟨t, P, a, c, ht, hfs, rfl, hfm⟩
  · exact ⟨rfl, hb1, .inl ⟨(8, p), ⟨rfl, hno⟩, rfl⟩⟩
  · have hS : Sound t := by
      obtain ⟨_, _, _, _, h⟩ := ht
      exact h.1
    have hpk := tableText_any t a c w1 (by have := fvA_own hfm; rw [← hfs] at this; exact this) hS
    have hPf : t.fs.length = P.length := by rw [hfs]; simp
    rw [hPf] at hpk
    have Hpk := hide hpk
    have HB := hide hb1
    have Ht := hide ht
    clear hpk hb1 ht hfs hfm hPf hS
    go_wp2_with fail
    refine Hpk.out.mono ?_
    rintro e w2 ⟨rfl, hb2⟩
    have HB2 := hide (HB.out.trans (hb2.mono HB.out.size))
    have hpb : Hid (bs (tbTxt t) = bs (tbTxt t)) := rfl
    generalize hRR : bs (tbTxt t) = RR at *
    have HRR := hide hRR
    clear hb2 Hpk hRR
    go_wp2
    go_ret
    exact ⟨HB2.out, .inr ⟨tbTxt t, ⟨t, Ht.out, rfl⟩, by rw [HRR.out]; rfl⟩⟩

def TwoOut (E : Nat × Nat → Prop) (R : List UInt8 → Prop) (w : World) (en : Ending) (w' : World) : Prop :=
  Below w.heap.size w w' ∧ ((∃ f, E f ∧ en = .returned (.tuple #[.string ⟨#[]⟩, .int .i64 f.1])) ∨ (∃ x, R x ∧ en = .returned (.tuple #[.string (bs x), .int .i64 0])))

set_option maxRecDepth 100000 in
set_option maxHeartbeats 800000 in
theorem write_any (s : ByteArray) (w : World) (hm : s.size ≤ 9223372036854775807) :
    Calls Tryz.prog 14 #[.string s] w (TwoOut (wrE s.data.toList) (wrR s.data.toList) w) := by
  have hmf : ∀ (fn : Fn) (first cap : Array Value) (w : World), (Instr.makeFunc fn first cap).run Tryz.prog w = .ok (.func fn first cap) w := fun _ _ _ _ => rfl
  have hX := blk_cell (blk_new w #[.string s] 9) 0
  have HB0 := hide (below_new w (.cells #[.string s] 9))
  go_enter Tryz.func14, Tryz.ntmps14
  go_wp2_with fail
  refine (guard_write 8 _ rfl w.heap.size _ (wrE s.data.toList) (wrR s.data.toList) (fun W hW => write1_any s w.heap.size W hm ((hW.cell (p := ⟨w.heap.size, 0, none⟩) (by simp)).trans hX))).mono ?_
  rintro e w1 ⟨hb1, hcase⟩
  have HB := hide (HB0.out.trans (hb1.mono (by simp)))
  clear hb1 hX
  rcases hcase with ⟨f, hf, rfl⟩ | ⟨R, hR, rfl⟩
  · have Hf := hide hf
    clear hf
    go_wp2
    go_ret2
    exact ⟨HB.out, .inl ⟨f, Hf.out, rfl⟩⟩
  · have HR := hide hR
    clear hR
    go_wp2
    go_ret2
    exact ⟨HB.out, .inr ⟨R, HR.out, rfl⟩⟩

set_option maxRecDepth 100000 in
set_option maxHeartbeats 800000 in
theorem read_any (s : ByteArray) (w : World) (hm : s.size ≤ 9223372036854775807) :
    Calls Tryz.prog 17 #[.string s] w (TwoOut (rdE s.data.toList) (rdR s.data.toList) w) := by
  have hmf : ∀ (fn : Fn) (first cap : Array Value) (w : World), (Instr.makeFunc fn first cap).run Tryz.prog w = .ok (.func fn first cap) w := fun _ _ _ _ => rfl
  have hX := blk_cell (blk_new w #[.string s] 9) 0
  have HB0 := hide (below_new w (.cells #[.string s] 9))
  go_enter Tryz.func17, Tryz.ntmps17
  go_wp2_with fail
  refine (guard_read 8 _ rfl w.heap.size _ (rdE s.data.toList) (rdR s.data.toList) (fun W hW => read1_any s w.heap.size W hm ((hW.cell (p := ⟨w.heap.size, 0, none⟩) (by simp)).trans hX))).mono ?_
  rintro e w1 ⟨hb1, hcase⟩
  have HB := hide (HB0.out.trans (hb1.mono (by simp)))
  clear hb1 hX
  rcases hcase with ⟨f, hf, rfl⟩ | ⟨R, hR, rfl⟩
  · have Hf := hide hf
    clear hf
    go_wp2
    go_ret2
    exact ⟨HB.out, .inl ⟨f, Hf.out, rfl⟩⟩
  · have HR := hide hR
    clear hR
    go_wp2
    go_ret2
    exact ⟨HB.out, .inr ⟨R, HR.out, rfl⟩⟩
end Go.Proofs.YtbdffcjganlblaaGreatDoor

namespace Go.Proofs.YtbdffcjganlblaaGreatDoor
set_option linter.unusedVariables false
set_option linter.unusedSimpArgs false

def Bw (x : Int) : W32 := BitVec.ofInt 32 x
theorem bits_xor32 (a b : Int) : bits .xor .u32 a b = ((Bw a ^^^ Bw b).toNat : Int) := by
  have h := (Bw a ^^^ Bw b).isLt
  have e : bits .xor .u32 a b = IntKind.u32.wrap ((Bw a ^^^ Bw b).toNat : Int) := rfl
  rw [e, IntKind.wrap_u32]
  omega
theorem Bw_nat (x : W32) : Bw (x.toNat : Int) = x := by
  unfold Bw
  rw [BitVec.ofInt_natCast]
  simp
theorem crc1_step (x : W32) : crc1 (x.toNat : Int) = ((stepB x).toNat : Int) := by
  have hx := x.isLt
  have hand : bits .and .u32 (x.toNat : Int) 1 = ((x.toNat % 2 : Nat) : Int) := by
    have e : bits .and .u32 (x.toNat : Int) 1 = IntKind.u32.wrap ((Bw (x.toNat : Int) &&& Bw 1).toNat : Int) := rfl
    rw [e, Bw_nat, IntKind.wrap_u32]
    have : (x &&& Bw 1).toNat = x.toNat % 2 := by
      rw [BitVec.toNat_and, show (Bw 1).toNat = 1 from rfl, Nat.and_one_is_mod]
    rw [this]
    omega
  have hsh : (x >>> 1).toNat = x.toNat / 2 := by rw [BitVec.toNat_ushiftRight, Nat.shiftRight_eq_div_pow]
  have hl : x.getLsbD 0 = decide (x.toNat % 2 = 1) := by
    rw [← BitVec.testBit_toNat, Nat.testBit_zero]
  unfold crc1 stepB
  rw [hand, hl]
  by_cases h : x.toNat % 2 = 1
  · rw [h]
    simp only [decide_true, if_true]
    rw [if_pos (by decide), bits_xor32]
    congr 2
    have e1 : Bw ((x.toNat : Int) / 2) = x >>> 1 := by
      rw [← Bw_nat (x >>> 1), hsh]
      congr 1
    rw [e1]
    rfl
  · have h0 : x.toNat % 2 = 0 := by omega
    rw [h0]
    simp only [show decide ((0 : Nat) = 1) = false from rfl, Bool.false_eq_true, if_false]
    rw [if_neg (by decide), hsh]
    omega
theorem crcN_steps : ∀ (n : Nat) (x : W32), crcN n (x.toNat : Int) = ((stepsB n x).toNat : Int)
  | 0, x => rfl
  | n + 1, x => by rw [crcN, crcN_steps n x, crc1_step]; rfl
def bits8 (c : UInt8) : List Bool := (List.range 8).map (fun i => c.toNat.testBit i)
def bitsL (l : List UInt8) : List Bool := l.flatMap bits8
theorem num_bits8 (c : UInt8) : numB (bits8 c) = BitVec.ofNat 32 c.toNat := by
  have hlen : (bits8 c).length = 8 := by simp [bits8]
  apply BitVec.eq_of_getLsbD_eq
  intro i hi
  rw [BitVec.getLsbD_ofNat]
  by_cases h8 : i < 8
  · rw [numB_at _ i (by omega) (by omega)]
    simp [bits8, hi]
  · rw [numB_high _ i (by omega)]
    have : c.toNat.testBit i = false := Nat.testBit_lt_two_pow (Nat.lt_of_lt_of_le (UInt8.toNat_lt c) (Nat.pow_le_pow_right (n := 2) (by decide) (show 8 ≤ i by omega)))
    simp [this]
theorem crcB_feed (s : W32) (c : UInt8) : crcB (s.toNat : Int) (c.toNat : Int) = ((feedBits s (bits8 c)).toNat : Int) := by
  have hlen : (bits8 c).length = 8 := by simp [bits8]
  unfold crcB
  rw [bits_xor32, Bw_nat, crcN_steps, feed_num _ _ (by omega), hlen, num_bits8]
  congr 3
theorem crcL_feed (l : List UInt8) : crcL l = ((feedBits (BitVec.allOnes 32) (bitsL l)).toNat : Int) := by
  have key : ∀ (l : List UInt8) (s : W32), l.foldl (fun x c => crcB x (c.toNat : Int)) (s.toNat : Int) = ((feedBits s (bitsL l)).toNat : Int) := by
    intro l
    induction l with
    | nil => intro s; rfl
    | cons c r ih =>
      intro s
      rw [List.foldl_cons, crcB_feed, ih]
      show _ = ((feedBits s (bits8 c ++ bitsL r)).toNat : Int)
      rw [feed_app]
  exact key l (BitVec.allOnes 32)
end Go.Proofs.YtbdffcjganlblaaGreatDoor

namespace Go.Proofs.YtbdffcjganlblaaGreatDoor
set_option linter.unusedVariables false
set_option linter.unusedSimpArgs false

theorem bits8_len (c : UInt8) : (bits8 c).length = 8 := by simp [bits8]
theorem bitsL_len : ∀ l : List UInt8, (bitsL l).length = 8 * l.length
  | [] => rfl
  | c :: r => by
    show (bits8 c ++ bitsL r).length = _
    rw [List.length_append, bits8_len, bitsL_len r, List.length_cons]
    omega
theorem bitsL_get : ∀ (l : List UInt8) (i : Nat), i < 8 * l.length → (bitsL l)[i]? = some ((l.getD (i / 8) 0).toNat.testBit (i % 8))
  | [], i, h => by simp at h
  | c :: r, i, h => by
    show (bits8 c ++ bitsL r)[i]? = _
    rw [List.length_cons] at h
    by_cases h8 : i < 8
    · rw [List.getElem?_append_left (by rw [bits8_len]; exact h8), show i / 8 = 0 by omega, show i % 8 = i by omega]
      simp [bits8, h8]
    · rw [List.getElem?_append_right (by rw [bits8_len]; omega), bits8_len, bitsL_get r (i - 8) (by omega), show i / 8 = (i - 8) / 8 + 1 by omega, show i % 8 = (i - 8) % 8 by omega]
      simp
theorem u8i_bit (y : Nat) (i : Nat) (h : i < 8) : (u8i (y : Int)).toNat.testBit i = y.testBit i := by
  have e : (u8i (y : Int)).toNat = y % 256 := by
    have := u8i_nat (y : Int)
    omega
  rw [e, show (256 : Nat) = 2 ^ 8 from rfl, Nat.testBit_mod_two_pow]
  simp [h]
theorem sum4_bit (y : Nat) (i : Nat) (h : i < 32) : (((sum4 (y : Int)).getD (i / 8) 0).toNat.testBit (i % 8)) = y.testBit i := by
  have hc : i / 8 = 0 ∨ i / 8 = 1 ∨ i / 8 = 2 ∨ i / 8 = 3 := by omega
  have key : ∀ k : Nat, (u8i ((y : Int) / ((2 ^ k : Nat) : Int))).toNat.testBit (i % 8) = y.testBit (k + i % 8) := by
    intro k
    rw [← Int.natCast_ediv, u8i_bit _ _ (by omega), Nat.testBit_div_two_pow]
    congr 1
    omega
  unfold sum4
  rcases hc with e | e | e | e <;> rw [e]
  · show (u8i (y : Int)).toNat.testBit (i % 8) = _
    rw [u8i_bit _ _ (by omega)]
    congr 1
    omega
  · show (u8i ((y : Int) / 256)).toNat.testBit (i % 8) = _
    have := key 8
    rw [show ((2 ^ 8 : Nat) : Int) = 256 from rfl] at this
    rw [this]
    congr 1
    omega
  · show (u8i ((y : Int) / 65536)).toNat.testBit (i % 8) = _
    have := key 16
    rw [show ((2 ^ 16 : Nat) : Int) = 65536 from rfl] at this
    rw [this]
    congr 1
    omega
  · show (u8i ((y : Int) / 16777216)).toNat.testBit (i % 8) = _
    have := key 24
    rw [show ((2 ^ 24 : Nat) : Int) = 16777216 from rfl] at this
    rw [this]
    congr 1
    omega
theorem num_sum4 (Y : W32) : numB (bitsL (sum4 (Y.toNat : Int))) = Y := by
  have hl : (bitsL (sum4 (Y.toNat : Int))).length = 32 := by rw [bitsL_len]; rfl
  apply BitVec.eq_of_getLsbD_eq
  intro i hi
  rw [numB_at _ i (by omega) (by omega)]
  have h := bitsL_get (sum4 (Y.toNat : Int)) i (by rw [show (sum4 (Y.toNat : Int)).length = 4 from rfl]; omega)
  rw [sum4_bit _ _ hi, List.getElem?_eq_getElem (by omega)] at h
  rw [Option.some.inj h, BitVec.testBit_toNat]
theorem sum_word (l : List UInt8) : ∃ r : W32, feedBits (BitVec.allOnes 32) (bitsL l) = r ∧ sumL l = sum4 ((BitVec.allOnes 32 ^^^ r).toNat : Int) := by
  refine ⟨_, rfl, ?_⟩
  unfold sumL
  rw [crcL_feed, bits_xor32, Bw_nat]
  rfl
/-- What is packed leaves the register as it always is. -/
theorem word_all (l : List UInt8) : feedBits (BitVec.allOnes 32) (bitsL (l ++ sumL l)) = stepsB 32 (BitVec.allOnes 32) := by
  obtain ⟨r, h1, h2⟩ := sum_word l
  have e : bitsL (l ++ sumL l) = bitsL l ++ bitsL (sumL l) := by simp [bitsL]
  rw [e, feed_app, h1, h2]
  have hl : (bitsL (sum4 ((BitVec.allOnes 32 ^^^ r).toNat : Int))).length = 32 := by rw [bitsL_len]; rfl
  rw [feed_num _ _ (by omega), hl, num_sum4]
  congr 1
  rw [BitVec.xor_comm (BitVec.allOnes 32) r, ← BitVec.xor_assoc, BitVec.xor_self, BitVec.zero_xor]
theorem bitsL_inj {l m : List UInt8} (hl : l.length = m.length) (h : bitsL l = bitsL m) : l = m := by
  apply List.ext_getElem hl
  intro k h1 h2
  apply UInt8.toNat_inj.1
  apply Nat.eq_of_testBit_eq
  intro i
  by_cases hi : i < 8
  · have a := bitsL_get l (8 * k + i) (by omega)
    have b := bitsL_get m (8 * k + i) (by omega)
    rw [h, b, show (8 * k + i) / 8 = k by omega, show (8 * k + i) % 8 = i by omega] at a
    have := Option.some.inj a
    simpa [List.getD_eq_getElem?_getD, h1, h2] using this.symm
  · have hb : ∀ c : UInt8, c.toNat.testBit i = false := fun c => Nat.testBit_lt_two_pow (Nat.lt_of_lt_of_le (UInt8.toNat_lt c) (Nat.pow_le_pow_right (n := 2) (by decide) (show 8 ≤ i by omega)))
    rw [hb, hb]
/-- No row of at most 32 turned bits leads from what is packed to what is packed. -/
theorem burst_no {l m bl bm : List UInt8} (h1 : l = bl ++ sumL bl) (h2 : m = bm ++ sumL bm) (hlen : l.length = m.length) (p : Nat)
    (hwin : ∀ i, i < 8 * l.length → (i < p ∨ p + 32 ≤ i) → (bitsL l)[i]? = (bitsL m)[i]?) : l = m := by
  have hbl : (bitsL l).length = (bitsL m).length := by rw [bitsL_len, bitsL_len, hlen]
  have hz : feedBits 0 (List.zipWith xor (bitsL l) (bitsL m)) = 0 := by
    have := feed_xor (bitsL l) (bitsL m) (BitVec.allOnes 32) (BitVec.allOnes 32) hbl
    rw [BitVec.xor_self] at this
    rw [h1, h2, word_all, word_all, BitVec.xor_self] at this
    rw [← h1, ← h2] at this
    exact this
  have hD : (List.zipWith xor (bitsL l) (bitsL m)).length = (bitsL l).length := by simp [hbl]
  have hget : ∀ i, (hi : i < (List.zipWith xor (bitsL l) (bitsL m)).length) → (i < p ∨ p + 32 ≤ i) → (List.zipWith xor (bitsL l) (bitsL m))[i] = false := by
    intro i hi hp
    have ha : i < (bitsL l).length := by omega
    have := hwin i (by rw [bitsL_len] at ha; exact ha) hp
    rw [List.getElem?_eq_getElem ha, List.getElem?_eq_getElem (by omega)] at this
    rw [List.getElem_zipWith, Option.some.inj this]
    simp
  have hval : ∀ i (ha : i < (bitsL l).length) (hb : i < (bitsL m).length), (List.zipWith xor (bitsL l) (bitsL m))[i]? = some (xor (bitsL l)[i] (bitsL m)[i]) := by
    intro i ha hb
    rw [List.getElem?_eq_getElem (by omega), List.getElem_zipWith]
  generalize List.zipWith xor (bitsL l) (bitsL m) = D at *
  have hsplit : D = D.take p ++ (D.drop p).take 32 ++ D.drop (p + 32) := by
    rw [List.append_assoc, ← List.drop_drop, List.take_append_drop, List.take_append_drop]
  have hall : ∀ b ∈ (D.drop p).take 32, b = false := by
    rw [hsplit] at hz
    refine burst_zero ?_ (by simp; omega) ?_ hz
    · intro b hb
      obtain ⟨i, hi, rfl⟩ := List.getElem_of_mem hb
      simp at hi
      rw [List.getElem_take]
      exact hget i (by omega) (.inl (by omega))
    · intro b hb
      obtain ⟨i, hi, rfl⟩ := List.getElem_of_mem hb
      simp at hi
      rw [List.getElem_drop]
      exact hget _ (by omega) (.inr (by omega))
  apply bitsL_inj hlen
  apply List.ext_getElem hbl
  intro i ha hb
  have hi : i < D.length := by omega
  have hf : D[i] = false := by
    by_cases hw : i < p ∨ p + 32 ≤ i
    · exact hget i hi hw
    · apply hall
      rw [List.mem_iff_getElem]
      exact ⟨i - p, by simp; omega, by rw [List.getElem_take, List.getElem_drop]; congr 1; omega⟩
  have hv := hval i ha hb
  rw [List.getElem?_eq_getElem hi, hf] at hv
  have := Option.some.inj hv
  have key : ∀ x y : Bool, false = (x ^^ y) → x = y := by decide
  exact key _ _ this
end Go.Proofs.YtbdffcjganlblaaGreatDoor
