/-
  Own work. The program's planWidest: from the greatest frame down.
-/
import Derived.Test.YtbdffcjganlblaaGreatDoorPnKtoPnK
import Derived.Test.YtbdffcjganlblaaGreatDoorTbMtoBuC
import Derived.Test.YtbdffcjganlblaaGreatDoorProgLtoTbH
import Derived.Test.YtbdffcjganlblaaGreatDoorGuardtoGuard
namespace Go.Proofs.YtbdffcjganlblaaGreatDoor
open Go.RowKit
set_option linter.unusedVariables false
set_option linter.unusedSimpArgs false

/-- A right set in memory. -/
structure SetAt (l : List (Tk × Nat)) (cyc g : Nat) (pa : Option Addr) (ps : List Pr) (w : World) : Prop where
  hg : g < w.heap.size
  hr : RowPT w g l
  hn : l.length ≤ 6
  hts : TsOk (l.map Prod.fst) cyc
  hcy : cycI (l.map Prod.fst) = cyc
  hp : PrOk l cyc ps
  hpa : PairsAt w pa ps
  hgp : ∀ gp, pa = some ⟨gp, 0, none⟩ → gp < w.heap.size

section
variable {l : List (Tk × Nat)} {cyc g : Nat} {pa : Option Addr} {ps : List Pr} {w w' : World}
theorem SetAt.keep (h : SetAt l cyc g pa ps w) (hb : Below w.heap.size w w') : SetAt l cyc g pa ps w' :=
  ⟨Nat.lt_of_lt_of_le h.hg hb.size, h.hr.keep (hb.block g h.hg), h.hn, h.hts, h.hcy, h.hp, h.hpa.keep (Below.frm hb) (fun gp hg' hX => by have := h.hgp gp hg'; omega), fun gp hg' => Nat.lt_of_lt_of_le (h.hgp gp hg') hb.size⟩
theorem SetAt.plan (h : SetAt l cyc g pa ps w) (cap pc fr : Nat) (hfr : 1 ≤ fr) (hdv : cyc % fr = 0) :
    Calls Tryz.prog 129 #[.agg #[.slice (some ⟨g, 0, none⟩) l.length cap, .slice pa ps.length pc], .int .i64 fr] w (PlanOut l cyc fr ps w) :=
  plan_any l cyc fr g cap pa pc ps w h.hg h.hr h.hn h.hts h.hcy h.hp h.hpa h.hgp hfr hdv
theorem SetAt.cycle (h : SetAt l cyc g pa ps w) (cap pc : Nat) :
    Calls Tryz.prog 128 #[.agg #[.slice (some ⟨g, 0, none⟩) l.length cap, .slice pa ps.length pc]] w fun e w' => e = .returned (.int .i64 cyc) ∧ Below w.heap.size w w' := by
  have hPk : ∀ k, k < l.length → 1 ≤ (lk l k).1.P ∧ (lk l k).1.P ≤ 60 := fun k hk => by
    have hm : (lk l k).1 ∈ l.map Prod.fst := by
      unfold lk
      rw [List.getD_eq_getElem?_getD, List.getElem?_eq_getElem hk]
      exact List.mem_map.2 ⟨_, List.getElem_mem _, rfl⟩
    have h5 := h.hts.each _ hm
    have hc1 := h.hts.c1
    have hc2 := h.hts.c2
    have h6 : (lk l k).1.P ≤ cyc := Nat.le_of_dvd (by omega) (Nat.dvd_of_mod_eq_zero h5.2.1)
    omega
  have := cyc_any l g cap pa ps.length pc w h.hg h.hr h.hn hPk (by rw [h.hcy]; have := h.hts.c1; omega)
  rw [h.hcy] at this
  exact this
end

def WideOut (l : List (Tk × Nat)) (cyc : Nat) (ps : List Pr) (w : World) (en : Ending) (w' : World) : Prop :=
  ∃ (c0 f0 : Nat) (Pf : List (Value × List Sl)) (a : Option Addr) (n c : Nat), en = .returned (.tuple #[.agg #[.int .i64 c0, .int .i64 f0, .slice a n c], .bool (decide (0 < wideJ (jobsL cyc 0 (l.map Prod.fst)) ps cyc cyc))]) ∧ Below w.heap.size w w' ∧
    (0 < wideJ (jobsL cyc 0 (l.map Prod.fst)) ps cyc cyc → c0 = cyc ∧ f0 = wideJ (jobsL cyc 0 (l.map Prod.fst)) ps cyc cyc ∧ n = Pf.length ∧ FrM w' w.heap.size (.slice a Pf.length c) Pf ∧ Pf.map Prod.snd = (tabJ (jobsL cyc 0 (l.map Prod.fst)) ps cyc f0).fs)

/-- On the way down: f is the next frame. -/
structure WdW (js : List Jb) (ps : List Pr) (cyc : Nat) (w : World) (cap : Nat) (S : Array Value) (gg : Bool) (f : Nat) (c0 f0 : Nat) (a : Option Addr) (n c : Nat) (Pf : List (Value × List Sl)) (wr : World) : Prop where
  b : Below w.heap.size w wr
  s : wr.heap[w.heap.size]? = some (.cells S 84 (0, 0))
  t : wr.heap[w.heap.size + 1]? = some (.cells #[.int .i64 c0, .int .i64 f0, .slice a n c] 61 (0, 0))
  le : f ≤ cyc
  no : gg = false → wideJ js ps cyc cyc = wideJ js ps cyc f
  ok : gg = true → 0 < wideJ js ps cyc cyc ∧ c0 = cyc ∧ f0 = wideJ js ps cyc cyc ∧ n = Pf.length ∧ FrM wr (w.heap.size + 2) (.slice a Pf.length c) Pf ∧ Pf.map Prod.snd = (tabJ js ps cyc f0).fs

set_option maxRecDepth 100000 in
set_option maxHeartbeats 2000000 in
theorem planWidest_any (l : List (Tk × Nat)) (cyc g cap : Nat) (pa : Option Addr) (pc : Nat) (ps : List Pr) (w : World) (h : SetAt l cyc g pa ps w) :
    Calls Tryz.prog 85 #[.agg #[.slice (some ⟨g, 0, none⟩) l.length cap, .slice pa ps.length pc]] w (WideOut l cyc ps w) := by
  have hc1 := h.hts.c1
  have hc2 := h.hts.c2
  have HS : Hid (((w.alloc (.cells #[.slice (some ⟨g, 0, none⟩) l.length cap, .slice pa ps.length pc] 84)).alloc (.cells #[.int .i64 0, .int .i64 0, .slice none 0 0] 61)).heap[w.heap.size]? = some (.cells #[.slice (some ⟨g, 0, none⟩) l.length cap, .slice pa ps.length pc] 84 (0, 0))) := by
    unfold Hid
    rw [Below.heap_alloc _ _ _ (by simp)]
    exact blk_new _ _ _
  have HT : Hid (((w.alloc (.cells #[.slice (some ⟨g, 0, none⟩) l.length cap, .slice pa ps.length pc] 84)).alloc (.cells #[.int .i64 0, .int .i64 0, .slice none 0 0] 61)).heap[w.heap.size + 1]? = some (.cells #[.int .i64 0, .int .i64 0, .slice none 0 0] 61 (0, 0))) := by
    have := blk_new (w.alloc (.cells #[.slice (some ⟨g, 0, none⟩) l.length cap, .slice pa ps.length pc] 84)) #[.int .i64 0, .int .i64 0, .slice none 0 0] 61
    unfold Hid
    simpa using this
  have HW := hide (((Below.refl _ w).alloc (Nat.le_refl _) (.cells #[.slice (some ⟨g, 0, none⟩) l.length cap, .slice pa ps.length pc] 84)).alloc (by simp) (.cells #[.int .i64 0, .int .i64 0, .slice none 0 0] 61))
  have H := hide h
  have s0 := blk_cell HS.out
  clear h
  go_enter Tryz.func85, Tryz.ntmps85
  go_wp2_with fail
  generalize (w.alloc (.cells #[.slice (some ⟨g, 0, none⟩) l.length cap, .slice pa ps.length pc] 84)).alloc (.cells #[.int .i64 0, .int .i64 0, .slice none 0 0] 61) = wz at *
  refine ((H.out.keep HW.out).cycle cap pc).mono ?_
  rintro en w1 ⟨rfl, hb1⟩
  have HK : Hid (WdW (jobsL cyc 0 (l.map Prod.fst)) ps cyc w cap #[.slice (some ⟨g, 0, none⟩) l.length cap, .slice pa ps.length pc] false cyc 0 0 none 0 0 [] w1) :=
    ⟨HW.out.trans (hb1.mono HW.out.size), blk_keep HS.out hb1, by exact blk_keep HT.out hb1, Nat.le_refl _, fun _ => rfl, fun e => by simp at e⟩
  clear hb1 HS HT HW s0
  go_wp2_with fail
  go_loopw [3, 5] (fun gv fv wr => ∃ (f : Nat) (gg : Bool) (c0 f0 : Nat) (a : Option Addr) (n c : Nat) (Pf : List (Value × List Sl)), gv = .bool gg ∧ fv = .int .i64 f ∧ WdW (jobsL cyc 0 (l.map Prod.fst)) ps cyc w cap #[.slice (some ⟨g, 0, none⟩) l.length cap, .slice pa ps.length pc] gg f c0 f0 a n c Pf wr) (fun _ fv _ => (intOf fv).toNat)
  case atStart => exact ⟨cyc, false, 0, 0, none, 0, 0, [], rfl, rfl, HK.out⟩
  case round =>
    clear HK
    obtain ⟨f, gg, c0, f0, a, n, c, Pf, rfl, rfl, hK⟩ := hrel
    by_cases hf : 1 ≤ f ∧ gg = false
    · obtain ⟨hf1, rfl⟩ := hf
      have hf1' : (1 : Int) ≤ f := by omega
      have hf1'' : ¬ (f : Int) = 0 := by omega
      have s0 : wr.cell? ⟨w.heap.size, 0, none⟩ = some (.slice (some ⟨g, 0, none⟩) l.length cap) := by rw [blk_cell hK.s]; rfl
      have s1 : wr.cell? ⟨w.heap.size, 1, none⟩ = some (.slice pa ps.length pc) := by rw [blk_cell hK.s]; rfl
      obtain ⟨f', rfl⟩ : ∃ f', f = f' + 1 := ⟨f - 1, by omega⟩
      have hle : f' + 1 ≤ cyc := hK.le
      have hmod : (cyc : Int) % ((f' : Int) + 1) = ((cyc % (f' + 1) : Nat) : Int) := by rw [Int.natCast_emod]; rfl
      by_cases hd : cyc % (f' + 1) = 0
      · have hd' : (cyc : Int) % ((f' : Int) + 1) = 0 := by rw [hmod, hd]; rfl
        clear hmod
        have CP := hide ((H.out.keep hK.b).plan cap pc (f' + 1) hf1 hd)
        rw [Int.natCast_add] at CP
        have HK := hide hK
        clear hK
        go_wp2_with fail
        refine CP.out.mono ?_
        rintro en w2 ⟨fv, Pf', a', c', rfl, rfl, hF, hfs, hb2⟩
        have hT2 := blk_keep HK.out.t hb2
        have hS2 := blk_keep HK.out.s hb2
        have t0 := blk_cell hT2
        have tf := blk_frozen hT2
        have hsz := blk_lt HK.out.t
        have HN : Hid (WdW (jobsL cyc 0 (l.map Prod.fst)) ps cyc w cap #[.slice (some ⟨g, 0, none⟩) l.length cap, .slice pa ps.length pc] (goesJ (jobsL cyc 0 (l.map Prod.fst)) ps cyc (f' + 1)) f' cyc (f' + 1) a' Pf'.length c' Pf' (((w2.setCell ⟨w.heap.size + 1, 0, none⟩ (.int .i64 cyc)).setCell ⟨w.heap.size + 1, 1, none⟩ (.int .i64 ((f' : Int) + 1))).setCell ⟨w.heap.size + 1, 2, none⟩ (.slice a' Pf'.length c'))) := by
          have hw : wideJ (jobsL cyc 0 (l.map Prod.fst)) ps cyc cyc = if cyc % (f' + 1) = 0 ∧ goesJ (jobsL cyc 0 (l.map Prod.fst)) ps cyc (f' + 1) = true then f' + 1 else wideJ (jobsL cyc 0 (l.map Prod.fst)) ps cyc f' := by
            rw [HK.out.no rfl, wideJ]
          refine ⟨(((HK.out.b.trans (hb2.mono HK.out.b.size)).setCell (p := ⟨w.heap.size + 1, 0, none⟩) (by show w.heap.size ≤ w.heap.size + 1; omega) _).setCell (p := ⟨w.heap.size + 1, 1, none⟩) (by show w.heap.size ≤ w.heap.size + 1; omega) _).setCell (p := ⟨w.heap.size + 1, 2, none⟩) (by show w.heap.size ≤ w.heap.size + 1; omega) _, ?_, ?_, by have := HK.out.le; omega, fun e => ?_, fun e => ?_⟩
          · have hfr : Frm (fun k => k = w.heap.size + 1) w2 (((w2.setCell ⟨w.heap.size + 1, 0, none⟩ (.int .i64 cyc)).setCell ⟨w.heap.size + 1, 1, none⟩ (.int .i64 ((f' : Int) + 1))).setCell ⟨w.heap.size + 1, 2, none⟩ (.slice a' Pf'.length c')) := (((Frm.refl (fun k => k = w.heap.size + 1) w2).setCell (p := ⟨w.heap.size + 1, 0, none⟩) rfl _).setCell (p := ⟨w.heap.size + 1, 1, none⟩) rfl _).setCell (p := ⟨w.heap.size + 1, 2, none⟩) rfl _
            exact hfr.blk hS2 (by omega)
          · rw [blk_set (blk_set (blk_set hT2 0 _) 1 _) 2 _]
            rfl
          · rw [hw, if_neg (by rw [e]; simp)]
          · rw [hw, if_pos ⟨hd, e⟩]
            exact ⟨by omega, rfl, rfl, rfl, (((hF.setLow hsz 0 _).setLow hsz 1 _).setLow hsz 2 _).weak (by omega), hfs⟩
        clear hF hfs hb2 hT2 hS2 HK
        go_wp2_with fail
        refine ⟨⟨f', _, cyc, f' + 1, a', Pf'.length, c', Pf', rfl, ?_, HN.out⟩, ?_⟩
        · congr 1
        · simp only [intOf]
          omega
      · have hd' : ¬ (cyc : Int) % ((f' : Int) + 1) = 0 := by rw [hmod]; omega
        clear hmod
        have HK := hide hK
        clear hK
        go_wp2_with fail
        refine ⟨⟨f', false, c0, f0, a, n, c, Pf, rfl, ?_, ⟨HK.out.b, HK.out.s, HK.out.t, by have := HK.out.le; omega, fun _ => ?_, fun e => by simp at e⟩⟩, ?_⟩
        · congr 1
        · rw [HK.out.no rfl, wideJ, if_neg (fun e => hd e.1)]
        · simp only [intOf]
          omega
    · have hfin : (decide (0 < wideJ (jobsL cyc 0 (l.map Prod.fst)) ps cyc cyc)) = gg := by
        cases gg with
        | true => simpa using (hK.ok rfl).1
        | false =>
          have hf0 : f = 0 := by simp at hf; omega
          rw [hK.no rfl, hf0]
          rfl
      have HFin := hide hfin
      have x0 : wr.cell? ⟨w.heap.size + 1, 0, none⟩ = some (.int .i64 c0) := by rw [blk_cell hK.t]; rfl
      have x1 : wr.cell? ⟨w.heap.size + 1, 1, none⟩ = some (.int .i64 f0) := by rw [blk_cell hK.t]; rfl
      have x2 : wr.cell? ⟨w.heap.size + 1, 2, none⟩ = some (.slice a n c) := by rw [blk_cell hK.t]; rfl
      have xf := blk_frozen hK.t
      have hsz := blk_lt hK.t
      have HRes : Hid (∀ W : World, W = ((wr.setCell ⟨w.heap.size + 1, 0, none⟩ (.int .i64 c0)).setCell ⟨w.heap.size + 1, 1, none⟩ (.int .i64 f0)).setCell ⟨w.heap.size + 1, 2, none⟩ (.slice a n c) → (∀ o, W.cell? ⟨w.heap.size + 1, o, none⟩ = #[Value.int .i64 c0, .int .i64 f0, .slice a n c][o]?) ∧ WideOut l cyc ps w (.returned (.tuple #[.agg #[.int .i64 c0, .int .i64 f0, .slice a n c], .bool gg])) W) := by
        rintro W rfl
        refine ⟨fun o => blk_cell (by rw [blk_set (blk_set (blk_set hK.t 0 _) 1 _) 2 _]; rfl) o, c0, f0, Pf, a, n, c, by rw [hfin], ((hK.b.setCell (p := ⟨w.heap.size + 1, 0, none⟩) (by show w.heap.size ≤ w.heap.size + 1; omega) _).setCell (p := ⟨w.heap.size + 1, 1, none⟩) (by show w.heap.size ≤ w.heap.size + 1; omega) _).setCell (p := ⟨w.heap.size + 1, 2, none⟩) (by show w.heap.size ≤ w.heap.size + 1; omega) _, fun e => ?_⟩
        have hgg : gg = true := by rw [← hfin]; simpa using e
        obtain ⟨k1, k2, k3, k4, k5, k6⟩ := hK.ok hgg
        exact ⟨k2, k3, k4, (((k5.setLow (by omega) 0 _).setLow (by omega) 1 _).setLow (by omega) 2 _).weak (by omega), k6⟩
      clear hK hfin HFin
      cases gg with
      | true =>
        go_wp2_with fail
        all_goals
          obtain ⟨y0, y1⟩ := HRes.out _ rfl
          generalize ((wr.setCell ⟨w.heap.size + 1, 0, none⟩ (.int .i64 c0)).setCell ⟨w.heap.size + 1, 1, none⟩ (.int .i64 f0)).setCell ⟨w.heap.size + 1, 2, none⟩ (.slice a n c) = W at *
          exact bodyPost_ret (by simp [results, Tryz.results85, go_sem, y0]) rfl y1
      | false =>
        have hf0 : f = 0 := by simp at hf; omega
        subst hf0
        go_wp2_with fail
        all_goals
          obtain ⟨y0, y1⟩ := HRes.out _ rfl
          generalize ((wr.setCell ⟨w.heap.size + 1, 0, none⟩ (.int .i64 c0)).setCell ⟨w.heap.size + 1, 1, none⟩ (.int .i64 f0)).setCell ⟨w.heap.size + 1, 2, none⟩ (.slice a n c) = W at *
          exact bodyPost_ret (by simp [results, Tryz.results85, go_sem, y0]) rfl y1
end Go.Proofs.YtbdffcjganlblaaGreatDoor

namespace Go.Proofs.YtbdffcjganlblaaGreatDoor
open Go.RowKit
set_option linter.unusedVariables false
set_option linter.unusedSimpArgs false

/-- Why there is no table. -/
def whyJ (js : List Jb) (cyc : Nat) : Nat := if goesJ js [] cyc 1 = true then 7 else 6

theorem SetAt.bare {l : List (Tk × Nat)} {cyc g : Nat} {pa : Option Addr} {ps : List Pr} {w : World} (h : SetAt l cyc g pa ps w) : SetAt l cyc g none [] w :=
  ⟨h.hg, h.hr, h.hn, h.hts, h.hcy, ⟨fun p hp => by simp at hp, fun p hp => by simp at hp, fun p hp => by simp at hp, by simp⟩, fun h0 => by simp at h0, fun gp e => by simp at e⟩

def WhyOut (l : List (Tk × Nat)) (cyc : Nat) (w : World) (en : Ending) (w' : World) : Prop := en = .returned (.int .i64 (whyJ (jobsL cyc 0 (l.map Prod.fst)) cyc)) ∧ Below w.heap.size w w'

set_option maxRecDepth 100000 in
set_option maxHeartbeats 2000000 in
theorem whyNone_any (l : List (Tk × Nat)) (cyc g cap : Nat) (pa : Option Addr) (pc : Nat) (ps : List Pr) (w : World) (h : SetAt l cyc g pa ps w) :
    Calls Tryz.prog 86 #[.agg #[.slice (some ⟨g, 0, none⟩) l.length cap, .slice pa ps.length pc]] w (WhyOut l cyc w) := by
  have HS := blk_new w #[.slice (some ⟨g, 0, none⟩) l.length cap, .slice pa ps.length pc] 84
  have HW := hide (below_new w (.cells #[.slice (some ⟨g, 0, none⟩) l.length cap, .slice pa ps.length pc] 84))
  have s0 := blk_cell HS
  have CP := hide ((h.bare.keep HW.out).plan cap 0 1 (Nat.le_refl _) (Nat.mod_one _))
  have hwh : Hid (whyJ (jobsL cyc 0 (l.map Prod.fst)) cyc = if goesJ (jobsL cyc 0 (l.map Prod.fst)) [] cyc 1 = true then 7 else 6) := rfl
  clear h
  go_enter Tryz.func86, Tryz.ntmps86
  go_wp2_with fail
  refine CP.out.mono ?_
  rintro en w2 ⟨fv, Pf', a', c', rfl, rfl, hF, hfs, hb2⟩
  have HB := hide (HW.out.trans (hb2.mono HW.out.size))
  clear hF hfs hb2 HW HS s0 CP
  generalize goesJ (jobsL cyc 0 (l.map Prod.fst)) [] cyc 1 = gg at *
  have HBa : Hid (∀ o : Obj, Below w.heap.size w (w2.alloc o)) := fun o => HB.out.alloc HB.out.size o
  cases gg with
  | true =>
    go_wp2_with fail
    go_ret
    exact ⟨ret_int (by rw [hwh.out]; rfl), HBa.out _⟩
  | false =>
    go_wp2_with fail
    go_ret
    exact ⟨ret_int (by rw [hwh.out]; rfl), HBa.out _⟩

def CompOut (l : List (Tk × Nat)) (cyc : Nat) (ps : List Pr) (w : World) (en : Ending) (w' : World) : Prop :=
  Below w.heap.size w w' ∧ ((wideJ (jobsL cyc 0 (l.map Prod.fst)) ps cyc cyc = 0 ∧ en = pan (whyJ (jobsL cyc 0 (l.map Prod.fst)) cyc) 0) ∨
    (0 < wideJ (jobsL cyc 0 (l.map Prod.fst)) ps cyc cyc ∧ ∃ (Pf : List (Value × List Sl)) (a : Option Addr) (c : Nat), en = .returned (.agg #[.int .i64 cyc, .int .i64 (wideJ (jobsL cyc 0 (l.map Prod.fst)) ps cyc cyc), .slice a Pf.length c]) ∧ FrM w' w.heap.size (.slice a Pf.length c) Pf ∧ Pf.map Prod.snd = (tabJ (jobsL cyc 0 (l.map Prod.fst)) ps cyc (wideJ (jobsL cyc 0 (l.map Prod.fst)) ps cyc cyc)).fs))

set_option maxRecDepth 100000 in
set_option maxHeartbeats 2000000 in
theorem compile_any (l : List (Tk × Nat)) (cyc g cap : Nat) (pa : Option Addr) (pc : Nat) (ps : List Pr) (w : World) (h : SetAt l cyc g pa ps w) :
    Calls Tryz.prog 51 #[.agg #[.slice (some ⟨g, 0, none⟩) l.length cap, .slice pa ps.length pc]] w (CompOut l cyc ps w) := by
  have HS : Hid (((w.alloc (.cells #[.slice (some ⟨g, 0, none⟩) l.length cap, .slice pa ps.length pc] 84)).alloc (.cells #[.int .i64 0, .int .i64 0, .slice none 0 0] 61)).heap[w.heap.size]? = some (.cells #[.slice (some ⟨g, 0, none⟩) l.length cap, .slice pa ps.length pc] 84 (0, 0))) := by
    unfold Hid
    rw [Below.heap_alloc _ _ _ (by simp)]
    exact blk_new _ _ _
  have HT : Hid (((w.alloc (.cells #[.slice (some ⟨g, 0, none⟩) l.length cap, .slice pa ps.length pc] 84)).alloc (.cells #[.int .i64 0, .int .i64 0, .slice none 0 0] 61)).heap[w.heap.size + 1]? = some (.cells #[.int .i64 0, .int .i64 0, .slice none 0 0] 61 (0, 0))) := by
    have := blk_new (w.alloc (.cells #[.slice (some ⟨g, 0, none⟩) l.length cap, .slice pa ps.length pc] 84)) #[.int .i64 0, .int .i64 0, .slice none 0 0] 61
    unfold Hid
    simpa using this
  have HW := hide (((Below.refl _ w).alloc (Nat.le_refl _) (.cells #[.slice (some ⟨g, 0, none⟩) l.length cap, .slice pa ps.length pc] 84)).alloc (by simp) (.cells #[.int .i64 0, .int .i64 0, .slice none 0 0] 61))
  have H := hide h
  have s0 := blk_cell HS.out
  clear h
  go_enter Tryz.func51, Tryz.ntmps51
  go_wp2_with fail
  generalize (w.alloc (.cells #[.slice (some ⟨g, 0, none⟩) l.length cap, .slice pa ps.length pc] 84)).alloc (.cells #[.int .i64 0, .int .i64 0, .slice none 0 0] 61) = wz at *
  refine (planWidest_any l cyc g cap pa pc ps wz (H.out.keep HW.out)).mono ?_
  rintro en w1 ⟨c0, f0, Pf, a, n, c, rfl, hb1, hok⟩
  have hb2 : Below wz.heap.size wz (w1.alloc (.cells #[.int .i64 c0, .int .i64 f0, .slice a n c] 61)) := hb1.alloc hb1.size _
  have HS2 := hide (blk_keep HS.out hb2)
  have HT2 := hide (blk_keep HT.out hb2)
  have HB2 := hide (HW.out.trans (hb2.mono HW.out.size))
  have HX2 := hide (blk_new w1 #[.int .i64 c0, .int .i64 f0, .slice a n c] 61)
  have HH2 := hide (H.out.keep HB2.out)
  have hzw : w.heap.size + 1 < wz.heap.size := blk_lt HT.out
  have hw1 : wz.heap.size ≤ w1.heap.size := hb1.size
  have HOk : Hid (0 < wideJ (jobsL cyc 0 (l.map Prod.fst)) ps cyc cyc → c0 = cyc ∧ f0 = wideJ (jobsL cyc 0 (l.map Prod.fst)) ps cyc cyc ∧ n = Pf.length ∧ FrM (w1.alloc (.cells #[.int .i64 c0, .int .i64 f0, .slice a n c] 61)) wz.heap.size (.slice a Pf.length c) Pf ∧ Pf.map Prod.snd = (tabJ (jobsL cyc 0 (l.map Prod.fst)) ps cyc f0).fs) := fun h0 => by
    obtain ⟨k1, k2, k3, k4, k5⟩ := hok h0
    exact ⟨k1, k2, k3, k4.below (below_new _ _), k5⟩
  clear hb1 hb2 hok HS HT HW H s0
  by_cases hw : 0 < wideJ (jobsL cyc 0 (l.map Prod.fst)) ps cyc cyc
  · have hd : decide (0 < wideJ (jobsL cyc 0 (l.map Prod.fst)) ps cyc cyc) = true := by simpa using hw
    rw [hd]
    have Hw := hide hw
    clear hd hw
    go_upto_region 4 with fail
    generalize w1.alloc (.cells #[.int .i64 c0, .int .i64 f0, .slice a n c] 61) = w2 at *
    generalize w1.heap.size = X at *
    have x0 : w2.cell? ⟨X, 0, none⟩ = some (.int .i64 c0) := by rw [blk_cell HX2.out]; rfl
    have x1 : w2.cell? ⟨X, 1, none⟩ = some (.int .i64 f0) := by rw [blk_cell HX2.out]; rfl
    have x2 : w2.cell? ⟨X, 2, none⟩ = some (.slice a n c) := by rw [blk_cell HX2.out]; rfl
    have t0 := blk_cell HT2.out
    have tf := blk_frozen HT2.out
    have HRes : Hid (∀ W : World, W = ((w2.setCell ⟨w.heap.size + 1, 0, none⟩ (.int .i64 c0)).setCell ⟨w.heap.size + 1, 1, none⟩ (.int .i64 f0)).setCell ⟨w.heap.size + 1, 2, none⟩ (.slice a n c) → (∀ o, W.cell? ⟨w.heap.size + 1, o, none⟩ = #[Value.int .i64 c0, .int .i64 f0, .slice a n c][o]?) ∧ CompOut l cyc ps w (.returned (.agg #[.int .i64 c0, .int .i64 f0, .slice a n c])) W) := by
      rintro W rfl
      obtain ⟨k1, k2, k3, k4, k5⟩ := HOk.out Hw.out
      refine ⟨fun o => blk_cell (by rw [blk_set (blk_set (blk_set HT2.out 0 _) 1 _) 2 _]; rfl) o, ((HB2.out.setCell (p := ⟨w.heap.size + 1, 0, none⟩) (by show w.heap.size ≤ w.heap.size + 1; omega) _).setCell (p := ⟨w.heap.size + 1, 1, none⟩) (by show w.heap.size ≤ w.heap.size + 1; omega) _).setCell (p := ⟨w.heap.size + 1, 2, none⟩) (by show w.heap.size ≤ w.heap.size + 1; omega) _, .inr ⟨Hw.out, Pf, a, c, by rw [k1, ← k2, k3], (((k4.setLow hzw 0 _).setLow hzw 1 _).setLow hzw 2 _).weak (by omega), by rw [← k2]; exact k5⟩⟩
    clear HX2 HT2 HS2 HB2 HH2 HOk Hw
    go_wp2_with fail
    all_goals
      obtain ⟨y0, y1⟩ := HRes.out _ rfl
      generalize ((w2.setCell ⟨w.heap.size + 1, 0, none⟩ (.int .i64 c0)).setCell ⟨w.heap.size + 1, 1, none⟩ (.int .i64 f0)).setCell ⟨w.heap.size + 1, 2, none⟩ (.slice a n c) = W at *
      exact bodyPost_ret (by simp [results, Tryz.results51, go_sem, y0]) rfl y1
  · have hd : decide (0 < wideJ (jobsL cyc 0 (l.map Prod.fst)) ps cyc cyc) = false := by simpa using hw
    rw [hd]
    have Hw : Hid (wideJ (jobsL cyc 0 (l.map Prod.fst)) ps cyc cyc = 0) := by unfold Hid; omega
    have s0 : (w1.alloc (.cells #[.int .i64 c0, .int .i64 f0, .slice a n c] 61)).cell? ⟨w.heap.size, 0, none⟩ = some (.slice (some ⟨g, 0, none⟩) l.length cap) := by rw [blk_cell HS2.out]; rfl
    have s1 : (w1.alloc (.cells #[.int .i64 c0, .int .i64 f0, .slice a n c] 61)).cell? ⟨w.heap.size, 1, none⟩ = some (.slice pa ps.length pc) := by rw [blk_cell HS2.out]; rfl
    clear hd hw
    go_upto_region 3 with fail
    generalize w1.alloc (.cells #[.int .i64 c0, .int .i64 f0, .slice a n c] 61) = w2 at *
    generalize w1.heap.size = X at *
    go_wp2_with fail
    refine (whyNone_any l cyc g cap pa pc ps w2 HH2.out).mono ?_
    rintro en w3 ⟨rfl, hb3⟩
    have HB3 := hide (HB2.out.trans (hb3.mono HB2.out.size))
    clear hb3 s0 s1
    go_wp2_with fail
    refine (refuse_any _ 0 _ rfl _).mono ?_
    rintro e w' ⟨rfl, rfl⟩
    exact ⟨rfl, HB3.out, .inl ⟨Hw.out, rfl⟩⟩
end Go.Proofs.YtbdffcjganlblaaGreatDoor

namespace Go.Proofs.YtbdffcjganlblaaGreatDoor
open Go.RowKit
set_option linter.unusedVariables false
set_option linter.unusedSimpArgs false

end Go.Proofs.YtbdffcjganlblaaGreatDoor

namespace Go.Proofs.YtbdffcjganlblaaGreatDoor
open Go.RowKit
set_option linter.unusedVariables false
set_option linter.unusedSimpArgs false

/-- A token that is none of the two last kinds: its place is ahead of the next one's. -/
theorem at_step {l : List UInt8} {j : Nat} (h : (tk (allToks l) j).fin = false) : (tk (allToks l) j).at_ < (tk (allToks l) (j + 1)).at_ := by
  have hj : j < (allToks l).length := by
    rcases Nat.lt_or_ge j (allToks l).length with h' | h'
    · exact h'
    · rw [show tk (allToks l) j = ⟨101, [], 0⟩ by unfold tk; rw [List.getD_eq_getElem?_getD, List.getElem?_eq_none h']; rfl] at h
      simp [PT.fin] at h
  have hj1 : j + 1 < (allToks l).length := toks_fin (l.length + 1) l 0 (by omega) (by omega) j hj h
  have e := (toks_next (l.length + 1) l 0).2 j hj1
  have hb := toks_bound (l.length + 1) l 0 (by omega) j hj
  have h1 := (nextTok_bound l (tk (allToks l) j).nx hb).1
  change tk (allToks l) (j + 1) = nextTok l (tk (allToks l) j).nx at e
  rw [← e] at h1
  have h2 : (tk (allToks l) j).at_ < (tk (allToks l) j).nx := by
    cases j with
    | zero =>
      have e0 := (toks_next (l.length + 1) l 0).1
      change tk (allToks l) 0 = _ at e0
      rw [e0] at h ⊢
      exact nextTok_long l _ h
    | succ j =>
      have e0 := (toks_next (l.length + 1) l 0).2 j hj
      change tk (allToks l) (j + 1) = _ at e0
      rw [e0] at h ⊢
      exact nextTok_long l _ h
  omega

theorem at_next {l : List UInt8} {j k : Nat} (hk : k = j + 1) (h : (tk (allToks l) j).fin = false) : (tk (allToks l) j).at_ < (tk (allToks l) k).at_ := by
  subst hk
  exact at_step h

theorem fin_sees {t : PT} {wd : ByteArray} (h : sees t wd = true) : t.fin = false := by
  unfold sees at h
  simp at h
  simp [PT.fin, h.1]
theorem fin_name {t : PT} (h : isName t = true) : t.fin = false := by
  unfold isName at h
  simp at h
  simp [PT.fin, h.1]
theorem fin_num {t : PT} (h : (t.k == 110) = true) : t.fin = false := by
  simp at h
  simp [PT.fin, h]
theorem fin_semi {t : PT} (h : (t.k == 59) = true) : t.fin = false := by
  simp at h
  simp [PT.fin, h]

/-- A task's places, from lo on, all ahead of hi. -/
def TPl (t : Tk) (lo hi : Nat) : Prop := lo ≤ t.q0 ∧ t.q0 < t.q1 ∧ t.q1 < t.q2 ∧ t.q2 < t.q3 ∧ t.q3 < t.q4 ∧ t.q4 < hi
def PPl (p : Pr) (lo hi : Nat) : Prop := lo ≤ p.q0 ∧ p.q0 < p.q1 ∧ p.q1 < hi

theorem pRest_pl {l : List UInt8} {nm : UInt8} {P O q0 q1 q2 j : Nat} {t : Tk} {k : Nat} (h : pRest (allToks l) nm P O q0 q1 q2 j = .ok (t, k)) :
    t.q0 = q0 ∧ t.q1 = q1 ∧ t.q2 = q2 ∧ (tk (allToks l) j).at_ < t.q3 ∧ t.q3 < t.q4 ∧ t.q4 < (tk (allToks l) k).at_ := by
  unfold pRest at h
  split at h
  · rename_i h0
    split at h
    · rename_i h1
      split at h
      · rename_i h2
        split at h
        · rename_i h3
          split at h
          · rename_i h4
            have s0 := at_next (k := j + 1) rfl (fin_sees h0)
            have s1 := at_next (k := j + 2) rfl (fin_num h1)
            have s2 := at_next (k := j + 3) rfl (fin_sees h2)
            have s3 := at_next (k := j + 4) rfl (fin_num h3)
            have s4 := at_next (k := j + 5) rfl (fin_semi h4)
            injection h with h
            injection h with ha hb
            subst hb
            subst ha
            refine ⟨rfl, rfl, rfl, s0, ?_, ?_⟩
            · show (tk (allToks l) (j + 1)).at_ < (tk (allToks l) (j + 3)).at_
              omega
            · show (tk (allToks l) (j + 3)).at_ < (tk (allToks l) (j + 5)).at_
              omega
          · simp at h
        · simp at h
      · simp at h
    · simp at h
  · simp at h

theorem pTask_pl {l : List UInt8} {i : Nat} {t : Tk} {k : Nat} (h : pTask (allToks l) i = .ok (t, k)) : TPl t (tk (allToks l) i).at_ (tk (allToks l) k).at_ := by
  unfold pTask at h
  split at h
  · rename_i h0
    split at h
    · rename_i h1
      split at h
      · rename_i h2
        have s0 := at_next (k := i + 1) rfl (fin_name h0)
        have s1 := at_next (k := i + 2) rfl (fin_sees h1)
        have s2 := at_next (k := i + 3) rfl (fin_num h2)
        split at h
        · rename_i h3
          split at h
          · rename_i h4
            have s3 := at_next (k := i + 4) rfl (fin_sees h3)
            have s4 := at_next (k := i + 5) rfl (fin_num h4)
            obtain ⟨a, b, c, d, e, f⟩ := pRest_pl h
            unfold TPl
            rw [a, b, c]
            omega
          · simp at h
        · obtain ⟨a, b, c, d, e, f⟩ := pRest_pl h
          unfold TPl
          rw [a, b, c]
          omega
      · simp at h
    · simp at h
  · simp at h

theorem pPair_pl {l : List UInt8} {ap : Bool} {i : Nat} {p : Pr} {k : Nat} (h : pPair (allToks l) ap i = .ok (p, k)) : PPl p (tk (allToks l) i).at_ (tk (allToks l) k).at_ := by
  unfold pPair at h
  split at h
  · rename_i h0
    split at h
    · rename_i h1
      split at h
      · rename_i h2
        have s0 := at_next (k := i + 1) rfl (fin_name h0)
        have s1 := at_next (k := i + 2) rfl (fin_name h1)
        have s2 := at_next (k := i + 3) rfl (fin_semi h2)
        injection h with h
        injection h with ha hb
        subst hb
        subst ha
        refine ⟨Nat.le_refl _, s0, ?_⟩
        show (tk (allToks l) (i + 1)).at_ < (tk (allToks l) (i + 3)).at_
        omega
      · simp at h
    · simp at h
  · simp at h

/-- Bounds between the tasks. -/
def TB2 (B : Nat → Nat) (ts : List Tk) : Prop := ∀ k, k < ts.length → TPl (tsk ts k) (B k) (B (k + 1))
def PB2 (B : Nat → Nat) (ps : List Pr) : Prop := ∀ k, k < ps.length → PPl (psk ps k) (B k) (B (k + 1))

def consB (a : Nat) (B : Nat → Nat) : Nat → Nat
  | 0 => a
  | k + 1 => B k

theorem pTasks_pl {l : List UInt8} : ∀ (f i : Nat) (ts : List Tk) (k : Nat), pTasks f (allToks l) i = .ok (ts, k) → ∃ B, TB2 B ts ∧ B 0 = (tk (allToks l) i).at_ ∧ B ts.length ≤ (tk (allToks l) k).at_
  | 0, i, ts, k, h => by simp [pTasks] at h
  | f + 1, i, ts, k, h => by
    rw [pTasks] at h
    cases h1 : pTask (allToks l) i with
    | error e => rw [h1] at h; simp at h
    | ok x =>
      obtain ⟨t, j⟩ := x
      rw [h1] at h
      simp only at h
      have ht := pTask_pl h1
      split at h
      · rename_i hs
        have hs' : sees (tk (allToks l) j) wTask = true := by simp at hs; exact hs.2
        have s0 := at_step (fin_sees hs')
        cases h2 : pTasks f (allToks l) (j + 1) with
        | error e => rw [h2] at h; simp at h
        | ok y =>
          obtain ⟨us, m⟩ := y
          rw [h2] at h
          simp only at h
          injection h with h
          injection h with ha hb
          subst hb
          subst ha
          obtain ⟨B, b1, b2, b3⟩ := pTasks_pl f (j + 1) us m h2
          refine ⟨consB (tk (allToks l) i).at_ B, ?_, rfl, b3⟩
          intro q hq
          cases q with
          | zero =>
            show TPl t (tk (allToks l) i).at_ (B 0)
            unfold TPl at ht ⊢
            omega
          | succ q =>
            have := b1 q (by simpa using hq)
            simpa [tsk, consB] using this
      · injection h with h
        injection h with ha hb
        subst hb
        subst ha
        refine ⟨consB (tk (allToks l) i).at_ (fun _ => (tk (allToks l) j).at_), ?_, rfl, Nat.le_refl _⟩
        intro q hq
        have h0 : q = 0 := by simpa using hq
        subst h0
        exact ht

theorem pPairs_pl {l : List UInt8} : ∀ (f i : Nat) (ps : List Pr) (k : Nat), pPairs f (allToks l) i = .ok (ps, k) → ∃ B, PB2 B ps ∧ (tk (allToks l) i).at_ ≤ B 0
  | 0, i, ps, k, h => by
    simp [pPairs] at h
    obtain ⟨rfl, rfl⟩ := h
    exact ⟨fun _ => (tk (allToks l) i).at_, fun q hq => by simp at hq, Nat.le_refl _⟩
  | f + 1, i, ps, k, h => by
    rw [pPairs] at h
    split at h
    · rename_i hs
      have s0 : (tk (allToks l) i).at_ < (tk (allToks l) (i + 1)).at_ := by
        simp at hs
        rcases hs with hs | hs
        · exact at_step (fin_sees hs)
        · exact at_step (fin_sees hs)
      cases h1 : pPair (allToks l) (!(sees (tk (allToks l) i) wBefore)) (i + 1) with
      | error e => rw [h1] at h; simp at h
      | ok x =>
        obtain ⟨p, j⟩ := x
        rw [h1] at h
        simp only at h
        have hp := pPair_pl h1
        cases h2 : pPairs f (allToks l) j with
        | error e => rw [h2] at h; simp at h
        | ok y =>
          obtain ⟨us, m⟩ := y
          rw [h2] at h
          simp only at h
          injection h with h
          injection h with ha hb
          subst hb
          subst ha
          obtain ⟨B, b1, b2⟩ := pPairs_pl f j us m h2
          refine ⟨consB (tk (allToks l) (i + 1)).at_ B, ?_, Nat.le_of_lt s0⟩
          intro q hq
          cases q with
          | zero =>
            show PPl p (tk (allToks l) (i + 1)).at_ (B 0)
            unfold PPl at hp ⊢
            omega
          | succ q =>
            have := b1 q (by simpa using hq)
            simpa [psk, consB] using this
    · simp at h
      obtain ⟨rfl, rfl⟩ := h
      exact ⟨fun _ => (tk (allToks l) i).at_, fun q hq => by simp at hq, Nat.le_refl _⟩

theorem pSet_pl {l : List UInt8} {ts : List Tk} {ps : List Pr} (h : pSet (allToks l) = .ok (ts, ps)) : ∃ B B', TB2 B ts ∧ PB2 B' ps ∧ B ts.length ≤ B' 0 := by
  unfold pSet at h
  cases h1 : pFirst (allToks l) with
  | error e => rw [h1] at h; simp at h
  | ok x =>
    obtain ⟨us, j⟩ := x
    rw [h1] at h
    simp only at h
    cases h2 : pPairs 6 (allToks l) j with
    | error e => rw [h2] at h; simp at h
    | ok y =>
      obtain ⟨qs, k⟩ := y
      rw [h2] at h
      simp only at h
      split at h
      · injection h with h
        injection h with ha hb
        subst ha
        subst hb
        unfold pFirst at h1
        split at h1
        · obtain ⟨B, b1, _, b3⟩ := pTasks_pl _ _ _ _ h1
          obtain ⟨B', c1, c2⟩ := pPairs_pl _ _ _ _ h2
          exact ⟨B, B', b1, c1, by omega⟩
        · simp at h1
      · simp at h
end Go.Proofs.YtbdffcjganlblaaGreatDoor
