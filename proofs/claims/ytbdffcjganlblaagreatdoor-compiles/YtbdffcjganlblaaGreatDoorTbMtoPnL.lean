/-
  Own work. The program's tables: readTable, unpack.
-/
import Derived.Test.YtbdffcjganlblaaGreatDoorProgLtoTbH
import Derived.Test.YtbdffcjganlblaaGreatDoorTbJtoTbL
import Derived.Test.YtbdffcjganlblaaGreatDoorGuardtoGuard
import Derived.Test.YtbdffcjganlblaaGreatDoorPnKtoTbD
namespace Go.Proofs.YtbdffcjganlblaaGreatDoor
open Go.RowKit
set_option linter.unusedVariables false
set_option linter.unusedSimpArgs false

/-! ### What was read is small; names are letters -/
theorem name_letter {l : List UInt8} {j : Nat} (h : isName (tk (allToks l) j) = true) : letterB ((nameB (tk (allToks l) j)).toNat : Int) = true := by
  have htx := name_tx h
  simp only [isName, Bool.and_eq_true, beq_iff_eq] at h
  rcases tk_first htx with ⟨h1, _⟩ | ⟨_, h1⟩ | ⟨h1, h2, _⟩
  · exact h1
  · omega
  · simp only [signB, Bool.or_eq_true, beq_iff_eq] at h1
    omega
theorem bTab_small {l : List UInt8} {t : Tb} (hl : l.length ≤ 1000) (h : bTab l = some t) : t.small := by
  match l, h with
  | c :: f :: r, h =>
    simp only [bTab] at h
    cases h1 : bFr r with
    | none => rw [h1] at h; simp at h
    | some fs =>
      rw [h1] at h
      simp at h
      subst h
      obtain ⟨h2, h3⟩ := bFr_inv _ r fs (Nat.le_refl _) h1
      have h4 := frB_len fs
      rw [h2] at h4
      refine ⟨by have := c.toNat_lt; show c.toNat ≤ 9999; omega, by have := f.toNat_lt; show f.toNat ≤ 9999; omega, by simp at hl; show fs.length ≤ 1000; omega, ?_⟩
      intro g hg
      have := h3 g hg
      exact ⟨by omega, fun s hs => by have := this.2 s hs; omega⟩

theorem FrM.below {w w' : World} {base : Nat} {fv : Value} {P : List (Value × List Sl)} (h : FrM w base fv P) (hb : Below w.heap.size w w') : FrM w' base fv P :=
  ⟨owns_below h.1 hb, fun p hp => owns_below (h.2 p hp) hb⟩
theorem FrM.weak {w : World} {base base' : Nat} {fv : Value} {P : List (Value × List Sl)} (h : FrM w base fv P) (hb : base' ≤ base) : FrM w base' fv P :=
  ⟨own_weak h.1 hb, fun p hp => own_weak (h.2 p hp) hb⟩
theorem FrM.setLow {w : World} {base : Nat} {fv : Value} {P : List (Value × List Sl)} (h : FrM w base fv P) {k : Nat} (hk : k < base) (o : Nat) (v : Value) : FrM (w.setCell ⟨k, o, none⟩ v) base fv P :=
  h.kept (grownBy_set (k := k) (grownBy_refl _ _) o v) (fun q hq => .inl (by simp at hq; omega))

/-- A table is answered, or refused. -/
def TabOut (Q : Tb → Prop) (w : World) (en : Ending) (w' : World) : Prop :=
  Below w.heap.size w w' ∧ ((∃ p, en = pan 8 p ∧ ¬ ∃ t, Q t) ∨ (∃ (t : Tb) (P : List (Value × List Sl)) (a : Option Addr) (c : Nat), Q t ∧ t.fs = P.map Prod.snd ∧ en = .returned (.agg #[.int .i64 t.cyc, .int .i64 t.fr, .slice a P.length c]) ∧ FrM w' w.heap.size (.slice a P.length c) P))

/-- The bytes are those of the table t, packed. -/
def UnpOk (l : List UInt8) (t : Tb) : Prop := l.length ≤ 246 ∧ ∃ body, l = body ++ sumL body ∧ bTab body = some t ∧ ChkOk t

set_option maxRecDepth 100000 in
set_option maxHeartbeats 800000 in
theorem unpack_any (s : ByteArray) (w : World) (hm : s.size ≤ 9223372036854775807) :
    Calls Tryz.prog 35 #[.string s] w (TabOut (UnpOk s.data.toList) w) := by
  have hll : s.data.toList.length = s.size := by simp
  by_cases hl : 246 < s.size ∨ s.size < 4
  · have hno : Hid (¬ ∃ t, UnpOk s.data.toList t) := by
      rintro ⟨t, h, body, h1, _⟩
      have := congrArg List.length h1
      rw [List.length_append, show (sumL body).length = 4 from rfl] at this
      omega
    have hcs : (246 : Int) < s.size ∨ (¬ (246 : Int) < s.size ∧ (s.size : Int) < 4) := by omega
    clear hl hll
    rcases hcs with a1 | ⟨a1, a2⟩
    all_goals
      go_enter Tryz.func35, Tryz.ntmps35
      go_wp2_with fail
      refine (refuse_any 8 0 _ rfl _).mono ?_
      rintro e w' ⟨rfl, rfl⟩
      exact ⟨rfl, below_new _ _, .inl ⟨_, rfl, hno.out⟩⟩
  · have hl1 : ¬ (246 : Int) < s.size := by omega
    have hl2 : ¬ (s.size : Int) < 4 := by omega
    have hl3 : 4 ≤ s.size := by omega
    have hl4 : s.size ≤ 246 := by omega
    obtain ⟨B, hB⟩ : ∃ B, s.data.toList.take (s.size - 4) = B := ⟨_, rfl⟩
    have hBl : B.length = s.size - 4 := by rw [← hB]; simp
    have hex : s.extract 0 (s.size - 4) = bs B := by
      rw [ext_bs]
      simp only [List.drop_zero, Nat.sub_zero]
      rw [hB]
    have hBu : Hid (∀ body, s.data.toList = body ++ sumL body → body = B) := by
      intro body h
      have hlen := congrArg List.length h
      rw [List.length_append, show (sumL body).length = 4 from rfl] at hlen
      rw [← hB, h, show s.size - 4 = body.length by omega, List.take_left']
      rfl
    have hsub : ((s.size : Int) - 4) = ((s.size - 4 : Nat) : Int) := by omega
    have hiz : (0 : Int) ≤ (s.size : Int) - 4 := by omega
    have HSum : Hid (∀ W, Calls Tryz.prog 68 #[.string (bs B)] W fun e w' => e = .returned (.string (bs (sumL B))) ∧ Below W.heap.size W w') := fun W => by
      have := sumOf_any (bs B) W (by rw [bs_size]; omega)
      rw [bs_data] at this
      exact this
    obtain ⟨X1, a1, z1, e1⟩ := add_named2 (bs B) (bs (sumL B)) (by rw [bs_size, bs_size, show (sumL B).length = 4 from rfl]; omega)
    have EX : Hid (X1.data.toList = B ++ sumL B) := by
      unfold Hid
      rw [e1, bs_data, bs_data]
    have htn : ((s.size : Int) - 4).toNat = s.size - 4 := by omega
    clear z1 e1 hB hl
    go_enter Tryz.func35, Tryz.ntmps35
    go_wp2_with fail
    refine (HSum.out _).mono ?_
    rintro e w1 ⟨rfl, hb⟩
    have hbw : Below w.heap.size w w1 := (below_new w _).trans (hb.mono (by simp))
    have hY := blk_keep (blk_new w ptZ 61) hb
    have hsz := hb.size
    simp only [World.size_alloc] at hsz
    have HBw := hide hbw
    have HY := hide hY
    clear hb hbw hY HSum hex
    by_cases hq : s.data.toList = B ++ sumL B
    · have hq' : (s.toList == X1.toList) = true := by rw [ByteArray.toList_eq, ByteArray.toList_eq, EX.out, hq]; simp
      have Hq := hide hq
      clear hq
      generalize bs (sumL B) = SS at *
      go_wp2_with fail
      refine (parseBody_any B w1 (by omega)).mono ?_
      rintro e w2 ⟨hb2, hcase⟩
      have HB2 := hide (HBw.out.trans (hb2.mono HBw.out.size))
      have hY2 := blk_keep HY.out hb2
      have hsz2 := hb2.size
      rcases hcase with ⟨rfl, hno⟩ | ⟨t, P, a, c, ht, hfs, hPl, rfl, hfm⟩
      · refine ⟨rfl, HB2.out, .inl ⟨0, rfl, ?_⟩⟩
        rintro ⟨t, _, body, h1, h2, _⟩
        rw [hBu.out body h1, hno] at h2
        simp at h2
      have hsm := bTab_small (by omega) ht
      have hX := blk_new w2 #[.int .i64 t.cyc, .int .i64 t.fr, .slice a P.length c] 61
      have hY3 := blk_keep hY2 (below_new w2 (.cells #[.int .i64 t.cyc, .int .i64 t.fr, .slice a P.length c] 61))
      have HFM := hide ((hfm.below (below_new w2 (.cells #[.int .i64 t.cyc, .int .i64 t.fr, .slice a P.length c] 61))).weak (base' := w.heap.size + 1) (by omega))
      have HB3 := hide (HB2.out.alloc HB2.out.size (.cells #[.int .i64 t.cyc, .int .i64 t.fr, .slice a P.length c] 61))
      have hPf : Hid (P.length = t.fs.length) := by unfold Hid; rw [hfs]; simp
      have Hfs := hide hfs
      have Ht := hide ht
      have Hsm := hide hsm
      clear hb2 hY2 hfm hfs ht hsm HB2 HBw HY
      have hx := blk_cell hX
      go_wp2_with fail
      clear hx
      generalize w2.alloc (.cells #[.int .i64 t.cyc, .int .i64 t.fr, .slice a P.length c] 61) = w3 at *
      generalize w2.heap.size = X at *
      have hck := tcheck_any t a c w3 (by have := fvA_own HFM.out; rw [← Hfs.out] at this; exact this) Hsm.out
      rw [← hPf.out] at hck
      refine hck.mono ?_
      clear hck
      rintro e w4 ⟨hb4, hcase⟩
      have HB4 := hide (HB3.out.trans (hb4.mono HB3.out.size))
      rcases hcase with ⟨hok, rfl⟩ | ⟨hok, rfl⟩
      · have hX4 := blk_keep hX hb4
        have hY4 := blk_keep hY3 hb4
        have hx4 := blk_cell hX4
        have y0 : ∀ o, w4.cell? ⟨w.heap.size, o, none⟩ = #[Value.int .i64 0, .int .i64 0, .slice none 0 0][o]? := blk_cell hY4
        have yf := blk_frozen hY4
        have HFM4 := hide (HFM.out.below hb4)
        have hne1 : ¬ w.heap.size = X := by omega
        have hne2 : ¬ X = w.heap.size := by omega
        have Htab : Hid (UnpOk s.data.toList t) := ⟨by omega, B, Hq.out, Ht.out, hok⟩
        clear hb4 hok HFM HB3 hX hY3 hX4 hY4
        go_wp2
        refine bodyPost_ret (v := .agg #[.int .i64 t.cyc, .int .i64 t.fr, .slice a P.length c]) (by simp [results, Tryz.results35, go_sem, y0]) rfl ⟨?_, .inr ⟨t, P, a, c, Htab.out, Hfs.out, rfl, ?_⟩⟩
        · exact below_grown (grownBy_setNew (grownBy_setNew (grownBy_setNew (grown_below HB4.out) (Nat.le_refl _) _ _) (Nat.le_refl _) _ _) (Nat.le_refl _) _ _)
        · exact (((HFM4.out.setLow (Nat.lt_succ_self _) _ _).setLow (Nat.lt_succ_self _) _ _).setLow (Nat.lt_succ_self _) _ _).weak (Nat.le_succ _)
      · refine ⟨rfl, HB4.out, .inl ⟨_, rfl, ?_⟩⟩
        rintro ⟨t', _, body, h1, h2, h3⟩
        rw [hBu.out body h1, Ht.out] at h2
        have := Option.some.inj h2
        subst this
        exact hok h3
    · have hq' : (s.toList == X1.toList) = false := by rw [ByteArray.toList_eq, ByteArray.toList_eq, EX.out, beq_eq_false_iff_ne]; exact hq
      have hno : Hid (¬ ∃ t, UnpOk s.data.toList t) := by
        rintro ⟨t, _, body, h1, _⟩
        have := hBu.out body h1
        subst this
        exact hq h1
      clear hq
      generalize bs (sumL B) = SS at *
      go_wp2_with fail
      refine (refuse_any 8 0 _ rfl _).mono ?_
      rintro e w' ⟨rfl, rfl⟩
      exact ⟨rfl, HBw.out, .inl ⟨_, rfl, hno.out⟩⟩

/-! ### Write and Read -/
/-- A packed table. -/
def packB (t : Tb) : List UInt8 := bodyB t ++ sumL (bodyB t)
def rdE (l : List UInt8) (f : Nat × Nat) : Prop := f.1 = 8 ∧ ¬ ∃ t, UnpOk l t
def rdR (l x : List UInt8) : Prop := ∃ t, UnpOk l t ∧ x = tbTxt t

set_option maxRecDepth 100000 in
set_option maxHeartbeats 800000 in
theorem read1_any (s : ByteArray) (b : Nat) (w : World) (hm : s.size ≤ 9223372036854775807) (hc : w.cell? ⟨b, 0, none⟩ = some (.string s)) :
    Calls Tryz.prog 34 #[.pointer (some ⟨b, 0, none⟩)] w (WorkOut (rdE s.data.toList) (rdR s.data.toList) w) := by
  go_enter Tryz.func34, Tryz.ntmps34
  go_wp2_with fail
  refine (unpack_any s _ hm).mono ?_
  rintro e w1 ⟨hb1, hcase⟩
  rcases hcase with ⟨p, rfl, hno⟩ | ⟨t, P, a, c, ht, hfs, rfl, hfm⟩
  · exact ⟨rfl, hb1, .inl ⟨(8, p), ⟨rfl, hno⟩, rfl⟩⟩
  · have hS : Sound t := by
      obtain ⟨_, _, _, _, h⟩ := ht
      exact h.1
    have hpk := tableText_any t a c w1 (by have := fvA_own hfm; rw [← hfs] at this; exact this) hS
    have hPf : t.fs.length = P.length := by rw [hfs]; simp
    rw [hPf] at hpk
    have Hpk := hide hpk
    have HB := hide hb1
    have Ht := hide ht
    clear hpk hb1 ht hfs hfm hPf hS
    go_wp2_with fail
    refine Hpk.out.mono ?_
    rintro e w2 ⟨rfl, hb2⟩
    have HB2 := hide (HB.out.trans (hb2.mono HB.out.size))
    have hpb : Hid (bs (tbTxt t) = bs (tbTxt t)) := rfl
    generalize hRR : bs (tbTxt t) = RR at *
    have HRR := hide hRR
    clear hb2 Hpk hRR
    go_wp2
    go_ret
    exact ⟨HB2.out, .inr ⟨tbTxt t, ⟨t, Ht.out, rfl⟩, by rw [HRR.out]; rfl⟩⟩

def TwoOut (E : Nat × Nat → Prop) (R : List UInt8 → Prop) (w : World) (en : Ending) (w' : World) : Prop :=
  Below w.heap.size w w' ∧ ((∃ f, E f ∧ en = .returned (.tuple #[.string ⟨#[]⟩, .int .i64 f.1])) ∨ (∃ x, R x ∧ en = .returned (.tuple #[.string (bs x), .int .i64 0])))

set_option maxRecDepth 100000 in
set_option maxHeartbeats 800000 in
theorem read_any (s : ByteArray) (w : World) (hm : s.size ≤ 9223372036854775807) :
    Calls Tryz.prog 17 #[.string s] w (TwoOut (rdE s.data.toList) (rdR s.data.toList) w) := by
  have hmf : ∀ (fn : Fn) (first cap : Array Value) (w : World), (Instr.makeFunc fn first cap).run Tryz.prog w = .ok (.func fn first cap) w := fun _ _ _ _ => rfl
  have hX := blk_cell (blk_new w #[.string s] 9) 0
  have HB0 := hide (below_new w (.cells #[.string s] 9))
  go_enter Tryz.func17, Tryz.ntmps17
  go_wp2_with fail
  refine (guard_read 8 _ rfl w.heap.size _ (rdE s.data.toList) (rdR s.data.toList) (fun W hW => read1_any s w.heap.size W hm ((hW.cell (p := ⟨w.heap.size, 0, none⟩) (by simp)).trans hX))).mono ?_
  rintro e w1 ⟨hb1, hcase⟩
  have HB := hide (HB0.out.trans (hb1.mono (by simp)))
  clear hb1 hX
  rcases hcase with ⟨f, hf, rfl⟩ | ⟨R, hR, rfl⟩
  · have Hf := hide hf
    clear hf
    go_wp2
    go_ret2
    exact ⟨HB.out, .inl ⟨f, Hf.out, rfl⟩⟩
  · have HR := hide hR
    clear hR
    go_wp2
    go_ret2
    exact ⟨HB.out, .inr ⟨R, HR.out, rfl⟩⟩
end Go.Proofs.YtbdffcjganlblaaGreatDoor

namespace Go.Proofs.YtbdffcjganlblaaGreatDoor
open Go.RowKit
set_option linter.unusedVariables false
set_option linter.unusedSimpArgs false

/-- A right set in memory. -/
structure SetAt (l : List (Tk × Nat)) (cyc g : Nat) (pa : Option Addr) (ps : List Pr) (w : World) : Prop where
  hg : g < w.heap.size
  hr : RowPT w g l
  hn : l.length ≤ 6
  hts : TsOk (l.map Prod.fst) cyc
  hcy : cycI (l.map Prod.fst) = cyc
  hp : PrOk l cyc ps
  hpa : PairsAt w pa ps
  hgp : ∀ gp, pa = some ⟨gp, 0, none⟩ → gp < w.heap.size

section
variable {l : List (Tk × Nat)} {cyc g : Nat} {pa : Option Addr} {ps : List Pr} {w w' : World}
theorem SetAt.keep (h : SetAt l cyc g pa ps w) (hb : Below w.heap.size w w') : SetAt l cyc g pa ps w' :=
  ⟨Nat.lt_of_lt_of_le h.hg hb.size, h.hr.keep (hb.block g h.hg), h.hn, h.hts, h.hcy, h.hp, h.hpa.keep (Below.frm hb) (fun gp hg' hX => by have := h.hgp gp hg'; omega), fun gp hg' => Nat.lt_of_lt_of_le (h.hgp gp hg') hb.size⟩
theorem SetAt.plan (h : SetAt l cyc g pa ps w) (cap pc fr : Nat) (hfr : 1 ≤ fr) (hdv : cyc % fr = 0) :
    Calls Tryz.prog 129 #[.agg #[.slice (some ⟨g, 0, none⟩) l.length cap, .slice pa ps.length pc], .int .i64 fr] w (PlanOut l cyc fr ps w) :=
  plan_any l cyc fr g cap pa pc ps w h.hg h.hr h.hn h.hts h.hcy h.hp h.hpa h.hgp hfr hdv
theorem SetAt.cycle (h : SetAt l cyc g pa ps w) (cap pc : Nat) :
    Calls Tryz.prog 128 #[.agg #[.slice (some ⟨g, 0, none⟩) l.length cap, .slice pa ps.length pc]] w fun e w' => e = .returned (.int .i64 cyc) ∧ Below w.heap.size w w' := by
  have hPk : ∀ k, k < l.length → 1 ≤ (lk l k).1.P ∧ (lk l k).1.P ≤ 60 := fun k hk => by
    have hm : (lk l k).1 ∈ l.map Prod.fst := by
      unfold lk
      rw [List.getD_eq_getElem?_getD, List.getElem?_eq_getElem hk]
      exact List.mem_map.2 ⟨_, List.getElem_mem _, rfl⟩
    have h5 := h.hts.each _ hm
    have hc1 := h.hts.c1
    have hc2 := h.hts.c2
    have h6 : (lk l k).1.P ≤ cyc := Nat.le_of_dvd (by omega) (Nat.dvd_of_mod_eq_zero h5.2.1)
    omega
  have := cyc_any l g cap pa ps.length pc w h.hg h.hr h.hn hPk (by rw [h.hcy]; have := h.hts.c1; omega)
  rw [h.hcy] at this
  exact this
end

def WideOut (l : List (Tk × Nat)) (cyc : Nat) (ps : List Pr) (w : World) (en : Ending) (w' : World) : Prop :=
  ∃ (c0 f0 : Nat) (Pf : List (Value × List Sl)) (a : Option Addr) (n c : Nat), en = .returned (.tuple #[.agg #[.int .i64 c0, .int .i64 f0, .slice a n c], .bool (decide (0 < wideJ (jobsL cyc 0 (l.map Prod.fst)) ps cyc cyc))]) ∧ Below w.heap.size w w' ∧
    (0 < wideJ (jobsL cyc 0 (l.map Prod.fst)) ps cyc cyc → c0 = cyc ∧ f0 = wideJ (jobsL cyc 0 (l.map Prod.fst)) ps cyc cyc ∧ n = Pf.length ∧ FrM w' w.heap.size (.slice a Pf.length c) Pf ∧ Pf.map Prod.snd = (tabJ (jobsL cyc 0 (l.map Prod.fst)) ps cyc f0).fs)

/-- On the way down: f is the next frame. -/
structure WdW (js : List Jb) (ps : List Pr) (cyc : Nat) (w : World) (cap : Nat) (S : Array Value) (gg : Bool) (f : Nat) (c0 f0 : Nat) (a : Option Addr) (n c : Nat) (Pf : List (Value × List Sl)) (wr : World) : Prop where
  b : Below w.heap.size w wr
  s : wr.heap[w.heap.size]? = some (.cells S 84 (0, 0))
  t : wr.heap[w.heap.size + 1]? = some (.cells #[.int .i64 c0, .int .i64 f0, .slice a n c] 61 (0, 0))
  le : f ≤ cyc
  no : gg = false → wideJ js ps cyc cyc = wideJ js ps cyc f
  ok : gg = true → 0 < wideJ js ps cyc cyc ∧ c0 = cyc ∧ f0 = wideJ js ps cyc cyc ∧ n = Pf.length ∧ FrM wr (w.heap.size + 2) (.slice a Pf.length c) Pf ∧ Pf.map Prod.snd = (tabJ js ps cyc f0).fs

set_option maxRecDepth 100000 in
set_option maxHeartbeats 2000000 in
theorem planWidest_any (l : List (Tk × Nat)) (cyc g cap : Nat) (pa : Option Addr) (pc : Nat) (ps : List Pr) (w : World) (h : SetAt l cyc g pa ps w) :
    Calls Tryz.prog 85 #[.agg #[.slice (some ⟨g, 0, none⟩) l.length cap, .slice pa ps.length pc]] w (WideOut l cyc ps w) := by
  have hc1 := h.hts.c1
  have hc2 := h.hts.c2
  have HS : Hid (((w.alloc (.cells #[.slice (some ⟨g, 0, none⟩) l.length cap, .slice pa ps.length pc] 84)).alloc (.cells #[.int .i64 0, .int .i64 0, .slice none 0 0] 61)).heap[w.heap.size]? = some (.cells #[.slice (some ⟨g, 0, none⟩) l.length cap, .slice pa ps.length pc] 84 (0, 0))) := by
    unfold Hid
    rw [Below.heap_alloc _ _ _ (by simp)]
    exact blk_new _ _ _
  have HT : Hid (((w.alloc (.cells #[.slice (some ⟨g, 0, none⟩) l.length cap, .slice pa ps.length pc] 84)).alloc (.cells #[.int .i64 0, .int .i64 0, .slice none 0 0] 61)).heap[w.heap.size + 1]? = some (.cells #[.int .i64 0, .int .i64 0, .slice none 0 0] 61 (0, 0))) := by
    have := blk_new (w.alloc (.cells #[.slice (some ⟨g, 0, none⟩) l.length cap, .slice pa ps.length pc] 84)) #[.int .i64 0, .int .i64 0, .slice none 0 0] 61
    unfold Hid
    simpa using this
  have HW := hide (((Below.refl _ w).alloc (Nat.le_refl _) (.cells #[.slice (some ⟨g, 0, none⟩) l.length cap, .slice pa ps.length pc] 84)).alloc (by simp) (.cells #[.int .i64 0, .int .i64 0, .slice none 0 0] 61))
  have H := hide h
  have s0 := blk_cell HS.out
  clear h
  go_enter Tryz.func85, Tryz.ntmps85
  go_wp2_with fail
  generalize (w.alloc (.cells #[.slice (some ⟨g, 0, none⟩) l.length cap, .slice pa ps.length pc] 84)).alloc (.cells #[.int .i64 0, .int .i64 0, .slice none 0 0] 61) = wz at *
  refine ((H.out.keep HW.out).cycle cap pc).mono ?_
  rintro en w1 ⟨rfl, hb1⟩
  have HK : Hid (WdW (jobsL cyc 0 (l.map Prod.fst)) ps cyc w cap #[.slice (some ⟨g, 0, none⟩) l.length cap, .slice pa ps.length pc] false cyc 0 0 none 0 0 [] w1) :=
    ⟨HW.out.trans (hb1.mono HW.out.size), blk_keep HS.out hb1, by exact blk_keep HT.out hb1, Nat.le_refl _, fun _ => rfl, fun e => by simp at e⟩
  clear hb1 HS HT HW s0
  go_wp2_with fail
  go_loopw [3, 5] (fun gv fv wr => ∃ (f : Nat) (gg : Bool) (c0 f0 : Nat) (a : Option Addr) (n c : Nat) (Pf : List (Value × List Sl)), gv = .bool gg ∧ fv = .int .i64 f ∧ WdW (jobsL cyc 0 (l.map Prod.fst)) ps cyc w cap #[.slice (some ⟨g, 0, none⟩) l.length cap, .slice pa ps.length pc] gg f c0 f0 a n c Pf wr) (fun _ fv _ => (intOf fv).toNat)
  case atStart => exact ⟨cyc, false, 0, 0, none, 0, 0, [], rfl, rfl, HK.out⟩
  case round =>
    clear HK
    obtain ⟨f, gg, c0, f0, a, n, c, Pf, rfl, rfl, hK⟩ := hrel
    by_cases hf : 1 ≤ f ∧ gg = false
    · obtain ⟨hf1, rfl⟩ := hf
      have hf1' : (1 : Int) ≤ f := by omega
      have hf1'' : ¬ (f : Int) = 0 := by omega
      have s0 : wr.cell? ⟨w.heap.size, 0, none⟩ = some (.slice (some ⟨g, 0, none⟩) l.length cap) := by rw [blk_cell hK.s]; rfl
      have s1 : wr.cell? ⟨w.heap.size, 1, none⟩ = some (.slice pa ps.length pc) := by rw [blk_cell hK.s]; rfl
      obtain ⟨f', rfl⟩ : ∃ f', f = f' + 1 := ⟨f - 1, by omega⟩
      have hle : f' + 1 ≤ cyc := hK.le
      have hmod : (cyc : Int) % ((f' : Int) + 1) = ((cyc % (f' + 1) : Nat) : Int) := by rw [Int.natCast_emod]; rfl
      by_cases hd : cyc % (f' + 1) = 0
      · have hd' : (cyc : Int) % ((f' : Int) + 1) = 0 := by rw [hmod, hd]; rfl
        clear hmod
        have CP := hide ((H.out.keep hK.b).plan cap pc (f' + 1) hf1 hd)
        rw [Int.natCast_add] at CP
        have HK := hide hK
        clear hK
        go_wp2_with fail
        refine CP.out.mono ?_
        rintro en w2 ⟨fv, Pf', a', c', rfl, rfl, hF, hfs, hb2⟩
        have hT2 := blk_keep HK.out.t hb2
        have hS2 := blk_keep HK.out.s hb2
        have t0 := blk_cell hT2
        have tf := blk_frozen hT2
        have hsz := blk_lt HK.out.t
        have HN : Hid (WdW (jobsL cyc 0 (l.map Prod.fst)) ps cyc w cap #[.slice (some ⟨g, 0, none⟩) l.length cap, .slice pa ps.length pc] (goesJ (jobsL cyc 0 (l.map Prod.fst)) ps cyc (f' + 1)) f' cyc (f' + 1) a' Pf'.length c' Pf' (((w2.setCell ⟨w.heap.size + 1, 0, none⟩ (.int .i64 cyc)).setCell ⟨w.heap.size + 1, 1, none⟩ (.int .i64 ((f' : Int) + 1))).setCell ⟨w.heap.size + 1, 2, none⟩ (.slice a' Pf'.length c'))) := by
          have hw : wideJ (jobsL cyc 0 (l.map Prod.fst)) ps cyc cyc = if cyc % (f' + 1) = 0 ∧ goesJ (jobsL cyc 0 (l.map Prod.fst)) ps cyc (f' + 1) = true then f' + 1 else wideJ (jobsL cyc 0 (l.map Prod.fst)) ps cyc f' := by
            rw [HK.out.no rfl, wideJ]
          refine ⟨(((HK.out.b.trans (hb2.mono HK.out.b.size)).setCell (p := ⟨w.heap.size + 1, 0, none⟩) (by show w.heap.size ≤ w.heap.size + 1; omega) _).setCell (p := ⟨w.heap.size + 1, 1, none⟩) (by show w.heap.size ≤ w.heap.size + 1; omega) _).setCell (p := ⟨w.heap.size + 1, 2, none⟩) (by show w.heap.size ≤ w.heap.size + 1; omega) _, ?_, ?_, by have := HK.out.le; omega, fun e => ?_, fun e => ?_⟩
          · have hfr : Frm (fun k => k = w.heap.size + 1) w2 (((w2.setCell ⟨w.heap.size + 1, 0, none⟩ (.int .i64 cyc)).setCell ⟨w.heap.size + 1, 1, none⟩ (.int .i64 ((f' : Int) + 1))).setCell ⟨w.heap.size + 1, 2, none⟩ (.slice a' Pf'.length c')) := (((Frm.refl (fun k => k = w.heap.size + 1) w2).setCell (p := ⟨w.heap.size + 1, 0, none⟩) rfl _).setCell (p := ⟨w.heap.size + 1, 1, none⟩) rfl _).setCell (p := ⟨w.heap.size + 1, 2, none⟩) rfl _
            exact hfr.blk hS2 (by omega)
          · rw [blk_set (blk_set (blk_set hT2 0 _) 1 _) 2 _]
            rfl
          · rw [hw, if_neg (by rw [e]; simp)]
          · rw [hw, if_pos ⟨hd, e⟩]
            exact ⟨by omega, rfl, rfl, rfl, (((hF.setLow hsz 0 _).setLow hsz 1 _).setLow hsz 2 _).weak (by omega), hfs⟩
        clear hF hfs hb2 hT2 hS2 HK
        go_wp2_with fail
        refine ⟨⟨f', _, cyc, f' + 1, a', Pf'.length, c', Pf', rfl, ?_, HN.out⟩, ?_⟩
        · congr 1
        · simp only [intOf]
          omega
      · have hd' : ¬ (cyc : Int) % ((f' : Int) + 1) = 0 := by rw [hmod]; omega
        clear hmod
        have HK := hide hK
        clear hK
        go_wp2_with fail
        refine ⟨⟨f', false, c0, f0, a, n, c, Pf, rfl, ?_, ⟨HK.out.b, HK.out.s, HK.out.t, by have := HK.out.le; omega, fun _ => ?_, fun e => by simp at e⟩⟩, ?_⟩
        · congr 1
        · rw [HK.out.no rfl, wideJ, if_neg (fun e => hd e.1)]
        · simp only [intOf]
          omega
    · have hfin : (decide (0 < wideJ (jobsL cyc 0 (l.map Prod.fst)) ps cyc cyc)) = gg := by
        cases gg with
        | true => simpa using (hK.ok rfl).1
        | false =>
          have hf0 : f = 0 := by simp at hf; omega
          rw [hK.no rfl, hf0]
          rfl
      have HFin := hide hfin
      have x0 : wr.cell? ⟨w.heap.size + 1, 0, none⟩ = some (.int .i64 c0) := by rw [blk_cell hK.t]; rfl
      have x1 : wr.cell? ⟨w.heap.size + 1, 1, none⟩ = some (.int .i64 f0) := by rw [blk_cell hK.t]; rfl
      have x2 : wr.cell? ⟨w.heap.size + 1, 2, none⟩ = some (.slice a n c) := by rw [blk_cell hK.t]; rfl
      have xf := blk_frozen hK.t
      have hsz := blk_lt hK.t
      have HRes : Hid (∀ W : World, W = ((wr.setCell ⟨w.heap.size + 1, 0, none⟩ (.int .i64 c0)).setCell ⟨w.heap.size + 1, 1, none⟩ (.int .i64 f0)).setCell ⟨w.heap.size + 1, 2, none⟩ (.slice a n c) → (∀ o, W.cell? ⟨w.heap.size + 1, o, none⟩ = #[Value.int .i64 c0, .int .i64 f0, .slice a n c][o]?) ∧ WideOut l cyc ps w (.returned (.tuple #[.agg #[.int .i64 c0, .int .i64 f0, .slice a n c], .bool gg])) W) := by
        rintro W rfl
        refine ⟨fun o => blk_cell (by rw [blk_set (blk_set (blk_set hK.t 0 _) 1 _) 2 _]; rfl) o, c0, f0, Pf, a, n, c, by rw [hfin], ((hK.b.setCell (p := ⟨w.heap.size + 1, 0, none⟩) (by show w.heap.size ≤ w.heap.size + 1; omega) _).setCell (p := ⟨w.heap.size + 1, 1, none⟩) (by show w.heap.size ≤ w.heap.size + 1; omega) _).setCell (p := ⟨w.heap.size + 1, 2, none⟩) (by show w.heap.size ≤ w.heap.size + 1; omega) _, fun e => ?_⟩
        have hgg : gg = true := by rw [← hfin]; simpa using e
        obtain ⟨k1, k2, k3, k4, k5, k6⟩ := hK.ok hgg
        exact ⟨k2, k3, k4, (((k5.setLow (by omega) 0 _).setLow (by omega) 1 _).setLow (by omega) 2 _).weak (by omega), k6⟩
      clear hK hfin HFin
      cases gg with
      | true =>
        go_wp2_with fail
        all_goals
          obtain ⟨y0, y1⟩ := HRes.out _ rfl
          generalize ((wr.setCell ⟨w.heap.size + 1, 0, none⟩ (.int .i64 c0)).setCell ⟨w.heap.size + 1, 1, none⟩ (.int .i64 f0)).setCell ⟨w.heap.size + 1, 2, none⟩ (.slice a n c) = W at *
          exact bodyPost_ret (by simp [results, Tryz.results85, go_sem, y0]) rfl y1
      | false =>
        have hf0 : f = 0 := by simp at hf; omega
        subst hf0
        go_wp2_with fail
        all_goals
          obtain ⟨y0, y1⟩ := HRes.out _ rfl
          generalize ((wr.setCell ⟨w.heap.size + 1, 0, none⟩ (.int .i64 c0)).setCell ⟨w.heap.size + 1, 1, none⟩ (.int .i64 f0)).setCell ⟨w.heap.size + 1, 2, none⟩ (.slice a n c) = W at *
          exact bodyPost_ret (by simp [results, Tryz.results85, go_sem, y0]) rfl y1
end Go.Proofs.YtbdffcjganlblaaGreatDoor
