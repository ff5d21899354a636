/-
  Own work. The program's tables: the walk of check.
-/
import Derived.Test.YtbdffcjganlblaaGreatDoorMTbCtoPrE
import Derived.Deep.DeepCutAuto
import Derived.Deep.RegionWith
import Derived.RegionDies
import Derived.Test.YtbdffcjganlblaaGreatDoorMRnMtoRnC
namespace Go.Proofs.YtbdffcjganlblaaGreatDoor
open Go.RowKit
set_option linter.unusedVariables false
set_option linter.unusedSimpArgs false

/-- The frames' value, as it may be read. -/
def FvA (w : World) (a : Option Addr) (fs : List (List Sl)) : Prop := 0 < fs.length → ∃ g, a = some ⟨g, 0, none⟩ ∧ g < w.heap.size ∧ FrsA w g fs
theorem FvA.below {w w' : World} {a : Option Addr} {fs : List (List Sl)} (h : FvA w a fs) {B : Nat} (hb : Below B w w') (hB : w.heap.size ≤ B) : FvA w' a fs := by
  intro hf
  obtain ⟨g, h1, h2, h3⟩ := h hf
  exact ⟨g, h1, Nat.lt_of_lt_of_le h2 hb.size, h3.below h2 hb hB⟩
theorem fvA_own {w : World} {base : Nat} {a : Option Addr} {c : Nat} {P : List (Value × List Sl)} (h : FrM w base (.slice a P.length c) P) : FvA w a (P.map Prod.snd) := by
  intro hf
  obtain ⟨g, cap, he, h1, h2⟩ := own_form h.1 (by simpa using hf)
  injection he with e1 _ e3
  subst e1 e3
  exact ⟨g, rfl, h2, frsA_own h⟩
/-- Numbers of a table that was read somehow. -/
structure Tb.small (t : Tb) : Prop where
  c : t.cyc ≤ 9999
  f : t.fr ≤ 9999
  n : t.fs.length ≤ 1000
  s : ∀ f ∈ t.fs, f.length ≤ 1000 ∧ ∀ s ∈ f, s.job ≤ 9999 ∧ s.bud ≤ 9999
theorem Tb.small.fr {t : Tb} (h : t.small) {j : Nat} (hj : j < t.fs.length) : (frk t.fs j).length ≤ 1000 ∧ ∀ k, k < (frk t.fs j).length → (slk (frk t.fs j) k).job ≤ 9999 ∧ (slk (frk t.fs j) k).bud ≤ 9999 := by
  have hm : frk t.fs j ∈ t.fs := by rw [← frk_eq hj]; exact List.getElem_mem _
  refine ⟨(h.s _ hm).1, fun k hk => (h.s _ hm).2 _ ?_⟩
  rw [← slk_eq hk]
  exact List.getElem_mem _

theorem checkNext_good (J o bg job fr lf : Nat) (w : World) (c0 : w.cell? ⟨J, o, none⟩ = some (.int .i64 bg)) (c1 : w.cell? ⟨J, o + 1, none⟩ = some (.int .i64 lf)) (fz : ∀ o, w.frozen? ⟨J, o, none⟩ = false) (hb : bg ≤ 100000) (hj : job ≤ 100000) (h : job = bg ∨ (job + 1 = bg ∧ lf ≠ fr)) :
    Calls Tryz.prog 107 #[.pointer (some ⟨J, o, none⟩), .int .i64 job, .int .i64 fr] w fun en w' => en = .returned (.tuple #[]) ∧ w.grownBy w' (some J) ∧ NxC J o w w' (if bg < job + 1 then job + 1 else bg) fr := by
  refine (checkNext_any J o bg job fr lf w c0 c1 fz hb hj).mono ?_
  rintro e w' ⟨hg, ⟨h1, rfl, h2⟩ | ⟨h1, _, rfl, h2⟩ | ⟨h1, _⟩⟩
  · refine ⟨rfl, hg, ?_⟩
    rw [if_pos (by omega), show job + 1 = bg + 1 by omega]
    exact h2
  · refine ⟨rfl, hg, ?_⟩
    rw [if_neg (by omega)]
    exact h2
  · exact absurd h h1
theorem checkNext_bad (J o bg job fr lf : Nat) (w : World) (c0 : w.cell? ⟨J, o, none⟩ = some (.int .i64 bg)) (c1 : w.cell? ⟨J, o + 1, none⟩ = some (.int .i64 lf)) (fz : ∀ o, w.frozen? ⟨J, o, none⟩ = false) (hb : bg ≤ 100000) (hj : job ≤ 100000) (h : ¬ (job = bg ∨ (job + 1 = bg ∧ lf ≠ fr))) :
    Calls Tryz.prog 107 #[.pointer (some ⟨J, o, none⟩), .int .i64 job, .int .i64 fr] w fun en w' => en = pan 8 0 ∧ w.grownBy w' (some J) := by
  refine (checkNext_any J o bg job fr lf w c0 c1 fz hb hj).mono ?_
  rintro e w' ⟨hg, ⟨h1, _⟩ | ⟨h1, h2, _⟩ | ⟨_, rfl⟩⟩
  · exact absurd (.inl h1) h
  · exact absurd (.inr ⟨h1, h2⟩) h
  · exact ⟨rfl, hg⟩

/-- The memory of check. -/
structure CW (w wk : World) (tv : Array Value) (P : List FSl) : Prop where
  hx : wk.heap[w.heap.size]? = some (.cells tv 61 (0, 0))
  jc : JC wk (w.heap.size + 1) P
  jl : w.heap.size + 1 < wk.heap.size
  b : Below w.heap.size w wk
theorem CW.keep {w wk : World} {tv : Array Value} {P : List FSl} (h : CW w wk tv P) {w' : World} (hb : Below wk.heap.size wk w') : CW w w' tv P :=
  ⟨blk_keep h.hx hb, h.jc.keep (hb.block _ h.jl) (fun o => World.frozen?_of_block (hb.block _ h.jl)), Nat.lt_of_lt_of_le h.jl hb.size, h.b.trans (hb.mono h.b.size)⟩
theorem CW.next {w wk : World} {tv : Array Value} {P P' : List FSl} (h : CW w wk tv P) {w' : World} (hg : wk.grownBy w' (some (w.heap.size + 1))) (hj : JC w' (w.heap.size + 1) P') : CW w w' tv P' := by
  refine ⟨by rw [hg.block _ (blk_lt h.hx) (by simp)]; exact h.hx, hj, Nat.lt_of_lt_of_le h.jl hg.size, ?_⟩
  have := grownBy_new (grown_below h.b) hg (by omega)
  exact below_grown this
theorem CW.start (w : World) (tv : Array Value) (z : Array Value) (hz : z = Array.replicate 52 (.int .i64 0)) (ty : TypeId) : CW w ((w.alloc (.cells tv 61)).alloc (.cells z ty)) tv [] := by
  have hb := blk_new (w.alloc (.cells tv 61)) z ty
  simp only [World.size_alloc] at hb
  refine ⟨by rw [Below.heap_alloc _ _ _ (by simp)]; exact blk_new _ _ _, ⟨?_, blk_frozen hb⟩, by simp, (below_new w _).alloc (by simp) _⟩
  intro n hn
  simp only [letterB, Bool.and_eq_true, decide_eq_true_eq] at hn
  rw [blk_cell hb, blk_cell hb, hz]
  have e : ∀ i, i < 52 → (Array.replicate 52 (Value.int .i64 0))[i]? = some (.int .i64 0) := fun i hi => by simp [hi]
  rw [e _ (by omega), e _ (by omega)]
  exact ⟨rfl, rfl⟩
theorem nextJ_small {P : List FSl} (hs : ∀ x ∈ P, x.2.job ≤ 9999) (n : UInt8) : nextJ P n ≤ 10000 := by
  have : ∀ (Q : List FSl), (∀ x ∈ Q, x.2.job ≤ 9999) → ∀ m, m ≤ 10000 → Q.foldl (fun m x => if x.2.nm = n then (if m < x.2.job + 1 then x.2.job + 1 else m) else m) m ≤ 10000 := by
    intro Q
    induction Q with
    | nil => intro _ m hm; exact hm
    | cons x r ih =>
      intro h m hm
      have hx := h x (by simp)
      simp only [List.foldl_cons]
      refine ih (fun y hy => h y (by simp [hy])) _ ?_
      split
      · split <;> omega
      · exact hm
  exact this P hs 0 (by omega)

set_option maxRecDepth 100000 in
set_option maxHeartbeats 4000000 in
theorem tcheck_any (t : Tb) (a : Option Addr) (cc : Nat) (w : World) (hr : FvA w a t.fs) (hs : t.small) :
    Calls Tryz.prog 67 #[.agg #[.int .i64 t.cyc, .int .i64 t.fr, .slice a t.fs.length cc]] w (PassOut (ChkOk t) w) := by
  have hc9 := hs.c
  have hf9 := hs.f
  have hn9 := hs.n
  have Hs := hide hs
  have Hr := hide hr
  clear hr hs
  by_cases hh : 1 ≤ t.cyc ∧ t.cyc ≤ 60 ∧ t.fr * t.fs.length = t.cyc
  · obtain ⟨h1, h2, h3⟩ := hh
    have h1' : ¬ (t.cyc : Int) < 1 := by omega
    have h2' : ¬ (60 : Int) < t.cyc := by omega
    have h3' : (((t.fr : Int) * (t.fs.length : Int)) != t.cyc) = false := by
      rw [bne_eq_false_iff_eq, ← Int.natCast_mul, h3]
    have hmul : (t.fr : Int) * (t.fs.length : Int) ≤ 100 := by rw [← Int.natCast_mul, h3]; omega
    have hmul0 : 0 ≤ (t.fr : Int) * (t.fs.length : Int) := by rw [← Int.natCast_mul]; omega
    have H3 := hide h3
    clear h3
    go_enter Tryz.func67, Tryz.ntmps67
    go_wp2_with fail
    have W0 := hide (CW.start w #[.int .i64 t.cyc, .int .i64 t.fr, .slice a t.fs.length cc] #[.int .i64 0, .int .i64 0, .int .i64 0, .int .i64 0, .int .i64 0, .int .i64 0, .int .i64 0, .int .i64 0, .int .i64 0, .int .i64 0, .int .i64 0, .int .i64 0, .int .i64 0, .int .i64 0, .int .i64 0, .int .i64 0, .int .i64 0, .int .i64 0, .int .i64 0, .int .i64 0, .int .i64 0, .int .i64 0, .int .i64 0, .int .i64 0, .int .i64 0, .int .i64 0, .int .i64 0, .int .i64 0, .int .i64 0, .int .i64 0, .int .i64 0, .int .i64 0, .int .i64 0, .int .i64 0, .int .i64 0, .int .i64 0, .int .i64 0, .int .i64 0, .int .i64 0, .int .i64 0, .int .i64 0, .int .i64 0, .int .i64 0, .int .i64 0, .int .i64 0, .int .i64 0, .int .i64 0, .int .i64 0, .int .i64 0, .int .i64 0, .int .i64 0, .int .i64 0] rfl 150)
    go_loopw [30] (fun i wr => ∃ j : Nat, j ≤ t.fs.length ∧ i = .int .i64 j ∧ CW w wr #[.int .i64 t.cyc, .int .i64 t.fr, .slice a t.fs.length cc] (flatF 0 (t.fs.take j)) ∧ (∀ f ∈ t.fs.take j, BudP t.fr f ∧ ∀ s ∈ f, letterB (s.nm.toNat : Int) = true) ∧ JobsP (flatF 0 (t.fs.take j))) (fun i _ => 2000 - (intOf i).toNat)
    case atStart => exact ⟨0, by omega, rfl, by simpa [flatF] using W0.out, by simp, by simpa [flatF] using jobsP_nil⟩
    case round =>
      clear W0
      obtain ⟨j, hj, rfl, hC, hB, hJ⟩ := hrel
      by_cases hlt : j < t.fs.length
      · have hlt' : (j : Int) < t.fs.length := by omega
        obtain ⟨g, rfl, hg, hF⟩ := Hr.out (by omega)
        obtain ⟨fa, fc, hfc0, hfa⟩ := hF j hlt
        have hfc := (hC.b.cell (p := ⟨g, j, none⟩) hg).trans hfc0
        clear hfc0
        obtain ⟨hfl, hfs⟩ := Hs.out.fr hlt
        have x := blk_cell hC.hx
        have Hfs := hide hfs
        have HC := hide hC
        have HB := hide hB
        have HJ := hide hJ
        have HFA := hide hfa
        clear hF hC hB hJ hfa hfs
        go_wp2_with fail
        refine (checkBudgets_any (frk t.fs j) fa fc t.fr wr (HFA.out.below HC.out.b (Nat.le_refl _)) hfl (by omega) (fun k hk => (Hfs.out k hk).2)).mono ?_
        rintro e w1 ⟨hb1, hcase⟩
        have C1 := hide (HC.out.keep hb1)
        clear x hfc hb1
        rcases hcase with ⟨hbud, rfl⟩ | ⟨hbud, rfl⟩
        · have HBud := hide hbud
          clear hbud HC
          go_wp2_with fail
          go_loopw [41] (fun i wr => ∃ k : Nat, k ≤ (frk t.fs j).length ∧ i = .int .i64 k ∧ CW w wr #[.int .i64 t.cyc, .int .i64 t.fr, .slice (some ⟨g, 0, none⟩) t.fs.length cc] (flatF 0 (t.fs.take j) ++ ((frk t.fs j).take k).map (fun s => (j, s))) ∧ (∀ i, i < k → letterB ((slk (frk t.fs j) i).nm.toNat : Int) = true) ∧ JobsP (flatF 0 (t.fs.take j) ++ ((frk t.fs j).take k).map (fun s => (j, s)))) (fun i _ => 2000 - (intOf i).toNat)
          case atStart => exact ⟨0, by omega, rfl, by simpa using C1.out, fun i hi => by omega, by simpa using HJ.out⟩
          case round =>
            clear C1
            obtain ⟨k, hk, rfl, hC, hL, hJk⟩ := hrel
            by_cases hkl : k < (frk t.fs j).length
            · have hkl' : (k : Int) < (frk t.fs j).length := by omega
              obtain ⟨gf, rfl, hgf, hrow⟩ := HFA.out (by omega)
              obtain ⟨r0, r1, r2⟩ := hrow.below hC.b hgf k hkl
              obtain ⟨hjob, hbd⟩ := Hfs.out k hkl
              have HC := hide hC
              have HL := hide hL
              have HJk := hide hJk
              have hmt := hide (map_take_next (j := j) hkl)
              have hnl := nextJ_small (P := flatF 0 (t.fs.take j) ++ ((frk t.fs j).take k).map (fun s => (j, s))) (by
                intro x hx
                rcases List.mem_append.1 hx with hx | hx
                · obtain ⟨_, _, f, hf, hxf⟩ := flatF_mem _ 0 x hx
                  exact ((Hs.out.s f (List.mem_of_mem_take hf)).2 _ hxf).1
                · obtain ⟨s, hs, rfl⟩ := List.mem_map.1 hx
                  exact ((Hs.out.s (frk t.fs j) (by rw [← frk_eq hlt]; exact List.getElem_mem _)).2 _ (List.mem_of_mem_take hs)).1) (slk (frk t.fs j) k).nm
              clear hC hL hJk hrow
              cases hlet : letterB ((slk (frk t.fs j) k).nm.toNat : Int)
              · have hno := hide (chk_no_letter hlt hkl hlet)
                have Hlet := hide hlet
                clear hlet
                have HC2 := hide (HC.out.keep (below_new wr (.cells #[.int .u8 (slk (frk t.fs j) k).nm.toNat, .int .i64 (slk (frk t.fs j) k).job, .int .i64 (slk (frk t.fs j) k).bud] 106)))
                go_wp2_with fail
                refine (isLetter_any _ _).mono ?_
                rintro e w' ⟨rfl, rfl⟩
                rw [Hlet.out]
                go_wp2_with fail
                refine (refuse_any 8 0 _ rfl _).mono ?_
                rintro e w' ⟨rfl, rfl⟩
                exact ⟨rfl, HC2.out.b, .inr ⟨hno.out, rfl⟩⟩
              · have Hlet := hide hlet
                have hq : ∃ q : Nat, (slk (frk t.fs j) k).nm.toNat = 97 + q ∧ q < 26 := by
                  simp only [letterB, Bool.and_eq_true, decide_eq_true_eq] at hlet
                  exact ⟨(slk (frk t.fs j) k).nm.toNat - 97, by omega, by omega⟩
                obtain ⟨q, hq1, hq2⟩ := hq
                have hC2 := HC.out.keep (below_new wr (.cells #[.int .u8 (97 + (q : Int)), .int .i64 (slk (frk t.fs j) k).job, .int .i64 (slk (frk t.fs j) k).bud] 106))
                obtain ⟨j0, j1⟩ := hC2.jc.1 _ hlet
                have jf := hC2.jc.2
                rw [hq1, show 97 + q - 97 = q by omega] at j0 j1
                have hq97 : (((97 + q : Nat) : Int) - 97) = (q : Int) := by omega
                have hq97' : ((97 : Int) + (q : Int) - 97) = (q : Int) := by omega
                have HC2 := hide hC2
                clear hC2 hlet
                have Hq1 := hide hq1
                rw [hq1, Int.natCast_add] at r0
                clear hq1
                go_wp2_with fail
                refine (isLetter_any _ _).mono ?_
                rintro e w' ⟨rfl, rfl⟩
                rw [show letterB (97 + (q : Int)) = true from by have := Hlet.out; rw [Hq1.out, Int.natCast_add] at this; exact this]
                have hsub : IntKind.u8.wrap (97 + (q : Int) - 97) = (q : Int) := by rw [hq97', IntKind.wrap_u8]; omega
                have hwq : IntKind.u8.wrap (q : Int) = (q : Int) := by rw [IntKind.wrap_u8]; omega
                have hq26 : (q : Int) < 26 := by omega
                have hq0 : (0 : Int) ≤ (q : Int) := by omega
                have hqn : ¬ (q : Int) < 0 := by omega
                have hqd : decide ((q : Int) < 26) = true := by simp; omega
                have J0 := hide j0
                have J1 := hide j1
                have JF := hide jf
                clear j0 j1 jf
                have HCd := hide (HC2.out.keep (below_drewN (Below.refl _ _) 1))
                by_cases hok : okP (flatF 0 (t.fs.take j) ++ ((frk t.fs j).take k).map (fun s => (j, s))) (j, slk (frk t.fs j) k)
                · have HJ2 := hide (jobsP_snoc HJk.out hok)
                  have hokk : (slk (frk t.fs j) k).job = nextJ (flatF 0 (t.fs.take j) ++ ((frk t.fs j).take k).map (fun s => (j, s))) (slk (frk t.fs j) k).nm ∨ ((slk (frk t.fs j) k).job + 1 = nextJ (flatF 0 (t.fs.take j) ++ ((frk t.fs j).take k).map (fun s => (j, s))) (slk (frk t.fs j) k).nm ∧ lastF (flatF 0 (t.fs.take j) ++ ((frk t.fs j).take k).map (fun s => (j, s))) (slk (frk t.fs j) k).nm ≠ j) := hok
                  have Hok := hide hokk
                  clear hok hokk
                  have HnJ : Hid (∀ w' : World, (wr.alloc (.cells #[.int .u8 (97 + (q : Int)), .int .i64 (slk (frk t.fs j) k).job, .int .i64 (slk (frk t.fs j) k).bud] 106)).drew.grownBy w' (some (w.heap.size + 1)) → NxC (w.heap.size + 1) (q * 2) (wr.alloc (.cells #[.int .u8 (97 + (q : Int)), .int .i64 (slk (frk t.fs j) k).job, .int .i64 (slk (frk t.fs j) k).bud] 106)).drew w' (if nextJ (flatF 0 (t.fs.take j) ++ ((frk t.fs j).take k).map (fun s => (j, s))) (slk (frk t.fs j) k).nm < (slk (frk t.fs j) k).job + 1 then (slk (frk t.fs j) k).job + 1 else nextJ (flatF 0 (t.fs.take j) ++ ((frk t.fs j).take k).map (fun s => (j, s))) (slk (frk t.fs j) k).nm) j → CW w w' #[.int .i64 t.cyc, .int .i64 t.fr, .slice (some ⟨g, 0, none⟩) t.fs.length cc] (flatF 0 (t.fs.take j) ++ ((frk t.fs j).take (k + 1)).map (fun s => (j, s)))) := by
                    intro w' hg hN
                    have hCd := HCd.out
                    have hjn := hCd.jc.next (x := (j, slk (frk t.fs j) k)) Hlet.out (n := _) (y := j) (by rw [nextJ_snoc, if_pos rfl]) rfl (by show NxC _ (((slk (frk t.fs j) k).nm.toNat - 97) * 2) _ _ _ _; rw [Hq1.out, show 97 + q - 97 = q by omega]; exact hN)
                    rw [hmt.out, ← List.append_assoc]
                    exact hCd.next hg hjn
                  have hL2 : Hid (∀ i, i < k + 1 → letterB ((slk (frk t.fs j) i).nm.toNat : Int) = true) := by
                    intro i hi
                    rcases Nat.lt_or_ge i k with h | h
                    · exact HL.out i h
                    · have : i = k := by omega
                      subst this
                      exact Hlet.out
                  have HJ3 : Hid (JobsP (flatF 0 (t.fs.take j) ++ ((frk t.fs j).take (k + 1)).map (fun s => (j, s)))) := by
                    unfold Hid
                    rw [hmt.out, ← List.append_assoc]
                    exact HJ2.out
                  have HG := hide (checkNext_good (w.heap.size + 1) (q * 2) (nextJ (flatF 0 (t.fs.take j) ++ ((frk t.fs j).take k).map (fun s => (j, s))) (slk (frk t.fs j) k).nm) (slk (frk t.fs j) k).job j (lastF (flatF 0 (t.fs.take j) ++ ((frk t.fs j).take k).map (fun s => (j, s))) (slk (frk t.fs j) k).nm) (wr.alloc (.cells #[.int .u8 (97 + (q : Int)), .int .i64 (slk (frk t.fs j) k).job, .int .i64 (slk (frk t.fs j) k).bud] 106)).drew J0.out J1.out JF.out (by omega) (by omega) Hok.out)
                  clear HJ2
                  go_wp2_with fail
                  go_region_with (go_at_call 107; refine HG.out.mono ?_; rintro e w9 ⟨rfl, hg9, hn9⟩)
                  all_goals
                    have C9 := hide (HnJ.out _ hg9 hn9)
                    clear hg9 hn9
                    go_wp2
                    go_roundw
                    case rel => exact ⟨k + 1, by omega, by go_num, C9.out, hL2.out, HJ3.out⟩
                    case measure => simp [intOf]; omega
                · have hno := hide (chk_no_job hlt hkl hok)
                  have Hno2 := hide hok
                  clear hok
                  go_wp2_with fail
                  go_region_dies
                  all_goals
                    refine (checkNext_bad (w.heap.size + 1) (q * 2) (nextJ (flatF 0 (t.fs.take j) ++ ((frk t.fs j).take k).map (fun s => (j, s))) (slk (frk t.fs j) k).nm) (slk (frk t.fs j) k).job j (lastF (flatF 0 (t.fs.take j) ++ ((frk t.fs j).take k).map (fun s => (j, s))) (slk (frk t.fs j) k).nm) (wr.alloc (.cells #[.int .u8 (97 + (q : Int)), .int .i64 (slk (frk t.fs j) k).job, .int .i64 (slk (frk t.fs j) k).bud] 106)).drew J0.out J1.out JF.out (by omega) (by omega) Hno2.out).mono ?_
                    rintro e w' ⟨rfl, hg⟩
                    exact ⟨rfl, below_grown (grownBy_new (grown_below HCd.out.b) hg (by omega)), .inr ⟨hno.out, rfl⟩⟩
            · have hkl' : ¬ (k : Int) < (frk t.fs j).length := by omega
              have hke : k = (frk t.fs j).length := by omega
              have hflat : flatF 0 (t.fs.take j) ++ ((frk t.fs j).take k).map (fun s => (j, s)) = flatF 0 (t.fs.take (j + 1)) := by
                rw [hke, List.take_length, List.take_succ_eq_append_getElem hlt, flatF_snoc, frk_eq hlt, List.length_take]
                rw [show min j t.fs.length = j by omega, Nat.zero_add]
              rw [hflat] at hC hJk
              have HC := hide hC
              have HJk := hide hJk
              have hB2 : Hid (∀ f ∈ t.fs.take (j + 1), BudP t.fr f ∧ ∀ s ∈ f, letterB (s.nm.toNat : Int) = true) := by
                intro f hf
                rw [List.take_succ_eq_append_getElem hlt] at hf
                rcases List.mem_append.1 hf with hf | hf
                · exact HB.out f hf
                · simp at hf
                  subst hf
                  rw [frk_eq hlt]
                  refine ⟨HBud.out, ?_⟩
                  intro s hs
                  obtain ⟨q, hq, rfl⟩ := List.mem_iff_getElem.1 hs
                  rw [slk_eq hq]
                  exact hL q (by omega)
              clear hC hJk hL hflat
              go_wp2
              go_roundw
              case rel => exact ⟨j + 1, by omega, by go_num, HC.out, hB2.out, HJk.out⟩
              case measure => simp [intOf]; omega
        · have hno := hide (chk_no_bud hlt hbud)
          exact ⟨rfl, C1.out.b, .inr ⟨hno.out, rfl⟩⟩
      · have hlt' : ¬ (j : Int) < t.fs.length := by omega
        have hje : t.fs.take j = t.fs := List.take_of_length_le (by omega)
        have hok : Hid (ChkOk t) := by
          rw [hje] at hB hJ
          exact ⟨⟨h1, h2, H3.out, fun f hf => (hB f hf).1, hJ⟩, fun f hf => (hB f hf).2⟩
        have HC := hide hC
        clear hC hB hJ
        go_wp2
        go_end0
        exact ⟨HC.out.b, .inl ⟨hok.out, rfl⟩⟩
  · have hno : Hid (¬ ChkOk t) := fun hc => hh ⟨hc.1.c1, hc.1.c2, hc.1.c3⟩
    have hmul : (t.fr : Int) * (t.fs.length : Int) ≤ 9999 * 1000 := Int.mul_le_mul (by omega) (by omega) (by omega) (by omega)
    have hmul0 : 0 ≤ (t.fr : Int) * (t.fs.length : Int) := Int.mul_nonneg (by omega) (by omega)
    have hcs : (t.cyc : Int) < 1 ∨ (¬ (t.cyc : Int) < 1 ∧ (60 : Int) < t.cyc) ∨ (¬ (t.cyc : Int) < 1 ∧ ¬ (60 : Int) < t.cyc ∧ (((t.fr : Int) * (t.fs.length : Int)) != t.cyc) = true) := by
      by_cases a1 : (t.cyc : Int) < 1
      · exact .inl a1
      · by_cases a2 : (60 : Int) < t.cyc
        · exact .inr (.inl ⟨a1, a2⟩)
        · refine .inr (.inr ⟨a1, a2, ?_⟩)
          rw [bne_iff_ne]
          intro h
          rw [← Int.natCast_mul] at h
          exact hh ⟨by omega, by omega, by omega⟩
    clear hh
    rcases hcs with a1 | ⟨a1, a2⟩ | ⟨a1, a2, a3⟩
    all_goals
      go_enter Tryz.func67, Tryz.ntmps67
      go_wp2_with fail
      refine (refuse_any 8 0 _ rfl _).mono ?_
      rintro e w' ⟨rfl, rfl⟩
      exact ⟨rfl, below_new _ _, .inr ⟨hno.out, rfl⟩⟩
end Go.Proofs.YtbdffcjganlblaaGreatDoor

namespace Go.Proofs.YtbdffcjganlblaaGreatDoor
open Go.RowKit Go.Maps
set_option linter.unusedVariables false
set_option linter.unusedSimpArgs false

theorem Tryz.infoJR : (Tryz.prog.info? 122).map (fun i => (i.zero, i.size, i.bytes)) = some (some (.pointer none), 1, 8) := by kernel_rfl
def nilsA (c : Nat) : Array Value := madeCells (Value.pointer none).cells c
theorem nilsA_at (c j : Nat) (h : j < c) : (nilsA c)[j]? = some (.pointer none) := by
  simp [nilsA, madeCells, h, Value.cells, Nat.mod_one]
theorem make_jobs (c : Nat) (hc : c ≤ 1000) (w : World) : (Instr.makeSlice 119 (.int .i64 c) (.int .i64 c)).run Tryz.prog w = .ok (.slice (some ⟨w.heap.size, 0, none⟩) c c) (w.alloc (.cells (nilsA c) 122)) := by
  obtain ⟨i0, hi, hz0, hz1, hz2⟩ := info_parts Tryz.infoJR
  have := run_make (P := Tryz.prog) w 119 122 i0 _ Tryz.underlying119 hi hz0 .i64 .i64 c c (by omega) (by omega) (by rw [hz2]; omega) (by omega)
  rw [hz1] at this
  simpa [nilsA] using this
theorem UX.start (w : World) (tv : Array Value) (cyc fr : Nat) (l : List FSl) : UX w (((w.alloc (.cells tv 61)).alloc (.cells (nilsA cyc) 122)).alloc (.map #[] 0)) tv cyc fr l 0 0 0 0 [] := by
  have h0 := blk_new w tv 61
  have h1 := blk_new (w.alloc (.cells tv 61)) (nilsA cyc) 122
  simp only [World.size_alloc] at h1
  have b1 := below_new (w.alloc (.cells tv 61)) (.cells (nilsA cyc) 122)
  have b2 := below_new ((w.alloc (.cells tv 61)).alloc (.cells (nilsA cyc) 122)) (.map #[] 0)
  have hm := KMap.made ((w.alloc (.cells tv 61)).alloc (.cells (nilsA cyc) 122))
  simp only [World.size_alloc] at hm
  refine ⟨blk_keep (blk_keep h0 b1) b2, ⟨nilsA cyc, blk_keep h1 b2, fun u hu => ?_⟩, hm, fun k hk => by simp at hk, fun a b ha => by simp at ha, rfl, Nat.zero_le _, ((below_new w _).alloc (by simp) _).alloc (by simp; omega) _⟩
  rw [nilsA_at cyc u hu]
  unfold uvV
  simp only [atTo]
  rw [if_neg (by omega)]

theorem eq_nil (o : Option Addr) (w : World) : (binOp .eql 122 (.pointer o) (.pointer none)).run Tryz.prog w = .ok (.bool (o == none)) w := by
  have h : ∀ d : Nat, (Op.equalIn (d + 1) 122 (.pointer o) (.pointer none)).run Tryz.prog w = .ok (o == none) w := fun d => by
    cases o <;> simp [Op.equalIn, run_underlying Tryz.underlying122, sizeOf, typeInfo]
  simp only [binOp]
  simp [Op.equal, Op.maxDepth, h 9999]
theorem hadK_small {t : Tb} (h : Sound t) (k q : Nat) (hq : q ≤ (flatF 0 t.fs).length) : hadK (flatF 0 t.fs) k q ≤ 599940 := by
  have := spotTo_cost (fun i hi => (job_small h i hi).2.2) (fsk (flatF 0 t.fs) (jobI (flatF 0 t.fs) k)).2.nm (fsk (flatF 0 t.fs) (jobI (flatF 0 t.fs) k)).2.job q hq
  have h2 := flat_len h
  have h3 : q * 9999 ≤ 60 * 9999 := Nat.mul_le_mul_right _ (by omega)
  unfold hadK
  omega

set_option maxRecDepth 100000 in
set_option maxHeartbeats 8000000 in
theorem units_any (t : Tb) (a : Option Addr) (cc : Nat) (w : World) (hr : FvA w a t.fs) (hS : Sound t) :
    Calls Tryz.prog 75 #[.agg #[.int .i64 t.cyc, .int .i64 t.fr, .slice a t.fs.length cc]] w fun e w' => ∃ P, e = .returned (.slice (some ⟨w.heap.size + 1, 0, none⟩) t.cyc t.cyc) ∧ UX w w' #[.int .i64 t.cyc, .int .i64 t.fr, .slice a t.fs.length cc] t.cyc t.fr (flatF 0 t.fs) (flatF 0 t.fs).length 0 (flatF 0 t.fs).length (flatF 0 t.fs).length P := by
  obtain ⟨f1, f2, n1, n2, _⟩ := hS.frames
  have hc1 := hS.c1
  have hc2 := hS.c2
  have hll := flat_len hS
  have hG := hide (goes_of_sound hS)
  have Hsm := hide (job_small hS)
  have Hbl := hide (fun j (hj : j < t.fs.length) => base_le hj)
  have Hhad := hide (fun k q hq => hadK_small hS k q hq)
  have H0 := hide (UX.start w #[.int .i64 t.cyc, .int .i64 t.fr, .slice a t.fs.length cc] t.cyc t.fr (flatF 0 t.fs))
  have hmk := make_jobs t.cyc (by omega)
  have hmm := @run_makeMap Tryz.prog
  have Hr := hide hr
  have Hba := hide (base_all t.fs)
  have HJs : Hid (∀ i, i < (flatF 0 t.fs).length → (fsk (flatF 0 t.fs) i).2.job ≤ 9999) := fun i hi => (Hsm.out i hi).1
  clear hr hS
  go_enter Tryz.func75, Tryz.ntmps75
  go_wp2_with fail
  clear hmk hmm
  go_loopw [18] (fun i wr => ∃ (j : Nat) (P : List Nat), j ≤ t.fs.length ∧ i = .int .i64 j ∧ UX w wr #[.int .i64 t.cyc, .int .i64 t.fr, .slice a t.fs.length cc] t.cyc t.fr (flatF 0 t.fs) (baseJ t.fs j) 0 (baseJ t.fs j) (baseJ t.fs j) P) (fun i _ => 200 - (intOf i).toNat)
  case atStart => exact ⟨0, [], by omega, rfl, by rw [base_zero]; exact H0.out⟩
  case round =>
    clear H0
    obtain ⟨j, P, hj, rfl, hU⟩ := hrel
    by_cases hlt : j < t.fs.length
    · have hlt' : (j : Int) < t.fs.length := by omega
      obtain ⟨g, rfl, hg, hF⟩ := Hr.out (by omega)
      obtain ⟨fa, fc, hfc0, hfa⟩ := hF j hlt
      have hfc := (hU.bel.cell (p := ⟨g, j, none⟩) hg).trans hfc0
      have x := blk_cell hU.hx
      have hbl := Hbl.out j hlt
      have hjf : j * t.fr ≤ 3600 := Nat.le_trans (Nat.mul_le_mul (show j ≤ 60 by omega) f2) (by omega)
      have hmul : ((j : Int) * (t.fr : Int)) = ((j * t.fr : Nat) : Int) := by rw [Int.natCast_mul]
      have hm1 : 0 ≤ (j : Int) * (t.fr : Int) := by omega
      have hm2 : (j : Int) * (t.fr : Int) ≤ 3600 := by omega
      have Hmul : Hid (Value.int .i64 ((j : Int) * (t.fr : Int)) = .int .i64 (atK t.fs t.fr j 0)) := by unfold Hid; rw [hmul, atK_zero (by omega)]
      have HFA := hide hfa
      have HU := hide hU
      have hsz := hU.bel.size
      clear hfc0 hF hU hfa hmul
      go_wp2_with fail
      go_loopw [7, 29] (fun av i wr => ∃ (k : Nat) (P : List Nat), k ≤ (frk t.fs j).length ∧ i = .int .i64 k ∧ av = .int .i64 (atK t.fs t.fr j k) ∧ UX w wr #[.int .i64 t.cyc, .int .i64 t.fr, .slice (some ⟨g, 0, none⟩) t.fs.length cc] t.cyc t.fr (flatF 0 t.fs) (baseJ t.fs j + k) 0 (baseJ t.fs j + k) (baseJ t.fs j + k) P) (fun _ i _ => 200 - (intOf i).toNat)
      case atStart => exact ⟨0, P, by omega, rfl, Hmul.out, HU.out⟩
      case round =>
        clear HU x hfc hsz
        obtain ⟨k, P, hk, rfl, rfl, hU⟩ := hrel
        by_cases hkl : k < (frk t.fs j).length
        · have hkl' : (k : Int) < (frk t.fs j).length := by omega
          obtain ⟨gf, rfl, hgf, hrow⟩ := HFA.out (by omega)
          obtain ⟨r0, r1, r2⟩ := hrow.below hU.bel hgf k hkl
          have hq : baseJ t.fs j + k < (flatF 0 t.fs).length := by omega
          have hfq := flat_at hlt hkl
          have hst := atK_start (fr := t.fr) hlt hkl
          have hnx := atK_next (fr := t.fr) hlt hkl
          have hsm := Hsm.out _ hq
          rw [hfq] at hsm
          obtain ⟨hjb, hbd, _⟩ := hsm
          have hfin := hG.out.fin_cyc hq
          unfold stopI at hfin
          rw [hst, hfq] at hfin
          simp only at hjb hbd hfin
          have HU := hide hU
          have hsz := hU.bel.size
          have Hnx := hide hnx
          have Hst := hide hst
          have Hfq := hide hfq
          clear hU hrow hnx hst hfq
          generalize hQ : baseJ t.fs j + k = q at *
          have HQ := hide hQ
          clear hQ
          generalize hY : slk (frk t.fs j) k = y at *
          clear hY
          generalize hT : atK t.fs t.fr j k = T at *
          clear hT
          obtain ⟨o, hlook, ho⟩ : ∃ o : Option Addr, (Instr.lookup 162 (.map (some (w.heap.size + 1 + 1))) (.agg #[.int .u8 y.nm.toNat, .int .i64 y.job]) false).run Tryz.prog ((wr.alloc (.cells #[.int .u8 y.nm.toNat, .int .i64 y.job, .int .i64 y.bud] 106)).alloc (.cells #[.int .u8 y.nm.toNat, .int .i64 y.job] 164)) = .ok (.pointer o) ((wr.alloc (.cells #[.int .u8 y.nm.toNat, .int .i64 y.job, .int .i64 y.bud] 106)).alloc (.cells #[.int .u8 y.nm.toNat, .int .i64 y.job] 164)) ∧
              Hid ((o = none ∧ jobI (flatF 0 t.fs) (numI (flatF 0 t.fs) q) = q) ∨ (o ≠ none ∧ jobI (flatF 0 t.fs) (numI (flatF 0 t.fs) q) ≠ q)) := by
            have h2 := (HU.out.keep (below_new wr (.cells #[.int .u8 y.nm.toNat, .int .i64 y.job, .int .i64 y.bud] 106))).keep (below_new _ (.cells #[.int .u8 y.nm.toNat, .int .i64 y.job] 164))
            by_cases hf : jobI (flatF 0 t.fs) (numI (flatF 0 t.fs) q) = q
            · have := (h2.look_none HJs.out hq rfl hf).1
              rw [Hfq.out] at this
              exact ⟨none, this, .inl ⟨rfl, hf⟩⟩
            · have h3 := h2.old hq hf
              have := h3.look_some HJs.out hq h3.job.1
              rw [Hfq.out] at this
              exact ⟨_, this, .inr ⟨by simp, hf⟩⟩
          have hnil := eq_nil o
          have hMw := HU.out.hm.lt
          go_upto_if 41 with (first | (at_lookup; refine wpList_look_at _ rfl _ _ _ rfl _ _ _ rfl rfl hlook ?_) | fail)
          go_cut [7] (fun av wc => av = .int .i64 T ∧ wc.heap[wr.heap.size]? = some (.cells #[.int .u8 y.nm.toNat, .int .i64 y.job, .int .i64 y.bud] 106 (0, 0)) ∧ wc.heap[wr.heap.size + 1]? = some (.cells #[.int .u8 y.nm.toNat, .int .i64 y.job] 164 (0, 0)) ∧ ∃ P', UX w wc #[.int .i64 t.cyc, .int .i64 t.fr, .slice (some ⟨g, 0, none⟩) t.fs.length cc] t.cyc t.fr (flatF 0 t.fs) q 0 (q + 1) q P')
          case first =>
            have hU2 := (HU.out.keep (below_new wr (.cells #[.int .u8 y.nm.toNat, .int .i64 y.job, .int .i64 y.bud] 106))).keep (below_new _ (.cells #[.int .u8 y.nm.toNat, .int .i64 y.job] 164))
            have s1 := blk_keep (blk_new wr #[.int .u8 y.nm.toNat, .int .i64 y.job, .int .i64 y.bud] 106) (below_new _ (.cells #[.int .u8 y.nm.toNat, .int .i64 y.job] 164))
            have s2 := blk_new (wr.alloc (.cells #[.int .u8 y.nm.toNat, .int .i64 y.job, .int .i64 y.bud] 106)) #[.int .u8 y.nm.toNat, .int .i64 y.job] 164
            have c10 := blk_cell s2 0
            have c11 := blk_cell s2 1
            have c00 := blk_cell s1 0
            simp only [World.size_alloc] at s2 c10 c11
            have S1 := hide s1
            have S2 := hide s2
            have HU2 := hide hU2
            clear hlook hnil s1 s2 hU2 HU r0 r1 r2
            rcases ho.out with ⟨rfl, hf⟩ | ⟨hne, hf⟩
            · obtain ⟨w3, hrun, hU3, hg3⟩ := UX.new hG.out HU2.out HJs.out (by omega) hq hf
              rw [Hfq.out] at hrun hg3
              have HU3 := hide hU3
              have HG3 := hide hg3
              have hrun' : (Instr.mapUpdate 162 (.map (some (w.heap.size + 1 + 1))) (.agg #[.int .u8 y.nm.toNat, .int .i64 y.job]) (.pointer (some ⟨wr.heap.size + 1 + 1, 0, none⟩))).run Tryz.prog (((wr.alloc (.cells #[.int .u8 y.nm.toNat, .int .i64 y.job, .int .i64 y.bud] 106)).alloc (.cells #[.int .u8 y.nm.toNat, .int .i64 y.job] 164)).alloc (.cells #[.int .u8 y.nm.toNat, .int .i64 0, .int .i64 0, .int .i64 0] 166)) = .ok () w3 := by
                simp only [World.size_alloc] at hrun
                exact hrun
              have hM := HU2.out.hm.lt
              clear hrun hU3 hg3 ho hf
              go_wp2_with (first | (at_mapUpdate; refine wpList_store_at _ rfl _ _ _ _ rfl _ _ _ rfl rfl rfl w3 hrun' ?_) | fail)
              go_meet
              case rel =>
                refine ⟨rfl, ?_, ?_, _, HU3.out⟩
                · rw [HG3.out.block wr.heap.size (by simp; omega) (fun e => by injection e with e; omega), Below.heap_alloc _ _ _ (by simp; omega)]
                  exact S1.out
                · rw [HG3.out.block (wr.heap.size + 1) (by simp) (fun e => by injection e with e; omega), Below.heap_alloc _ _ _ (by simp)]
                  exact S2.out
            · obtain ⟨ad, rfl⟩ := Option.ne_none_iff_exists'.1 hne
              have HU3 := hide (HU2.out.old hq hf)
              clear ho hf hne
              go_wp2_with fail
              go_meet
              case rel => exact ⟨rfl, S1.out, S2.out, _, HU3.out⟩
          case rest =>
            clear hlook hnil ho HU r0 r1 r2 hsz
            obtain ⟨rfl, s1, s2, P', hU⟩ := hcut
            generalize wr.heap.size = S0 at *
            obtain ⟨hk1, hk2, hk3⟩ := hU.job
            have hlk := hU.look_some HJs.out hq hk1
            rw [Hfq.out] at hlk
            have hl1 : (Instr.lookup 162 (.map (some (w.heap.size + 1 + 1))) (.agg #[.int .u8 y.nm.toNat, .int .i64 y.job]) false).run Tryz.prog wc.drew = .ok (.pointer (some ⟨P'.getD (numI (flatF 0 t.fs) q) 0, 0, none⟩)) wc.drew := by
              have h0 : UX w wc.drew #[.int .i64 t.cyc, .int .i64 t.fr, .slice (some ⟨g, 0, none⟩) t.fs.length cc] t.cyc t.fr (flatF 0 t.fs) q 0 (q + 1) q P' := ⟨hU.hx, hU.hu, hU.hm, hU.hj, hU.inj, hU.pl, hU.kl, hU.bel.drew⟩
              have := h0.look_some HJs.out hq hk1
              rw [Hfq.out] at this
              exact this
            have c02 := blk_cell s1 2
            have c10 := blk_cell s2 0
            have c11 := blk_cell s2 1
            have j1 : wc.cell? ⟨P'.getD (numI (flatF 0 t.fs) q) 0, 1, none⟩ = some (.int .i64 (hadK (flatF 0 t.fs) (numI (flatF 0 t.fs) q) q)) := by rw [blk_cell hk3]; rfl
            have jf := blk_frozen hk3
            have hhb := Hhad.out (numI (flatF 0 t.fs) q) q (by omega)
            have hUb := hU.bud hq
            rw [Hfq.out] at hUb
            simp only at hUb
            have e0 : ((hadK (flatF 0 t.fs) (numI (flatF 0 t.fs) q) q + y.bud : Nat) : Int) = (hadK (flatF 0 t.fs) (numI (flatF 0 t.fs) q) q : Int) + y.bud := by omega
            rw [e0] at hUb
            have HUb := hide hUb
            have hKJ : S0 + 1 ≠ P'.getD (numI (flatF 0 t.fs) q) 0 := by
              intro e
              rw [← e, s2] at hk3
              simp at hk3
            have S2 : Hid ((wc.setCell ⟨P'.getD (numI (flatF 0 t.fs) q) 0, 1, none⟩ (.int .i64 ((hadK (flatF 0 t.fs) (numI (flatF 0 t.fs) q) q : Int) + y.bud))).heap[S0 + 1]? = some (.cells #[.int .u8 y.nm.toNat, .int .i64 y.job] 164 (0, 0))) := by
              unfold Hid
              rw [Below.heap_setCell _ _ _ _ hKJ]
              exact s2
            have hSJ : S0 ≠ P'.getD (numI (flatF 0 t.fs) q) 0 := by
              intro e
              rw [← e, s1] at hk3
              simp at hk3
            have hSJ2 : ¬ P'.getD (numI (flatF 0 t.fs) q) 0 = S0 := fun e => hSJ e.symm
            have hSJ1 : ¬ S0 = P'.getD (numI (flatF 0 t.fs) q) 0 := hSJ
            clear hU hk2 hk3 hUb e0 s1 s2
            generalize hadK (flatF 0 t.fs) (numI (flatF 0 t.fs) q) q = HD at *
            generalize hPJ : P'.getD (numI (flatF 0 t.fs) q) 0 = J at *
            have HPJ := hide hPJ
            clear hPJ
            have hl2 := hide hlk
            clear hlk
            go_wp2_with fail
            go_region
            all_goals
              have HU3 := hide HUb.out.drew
              have S3 : Hid ((wc.setCell ⟨J, 1, none⟩ (.int .i64 ((HD : Int) + y.bud))).drew.heap[S0 + 1]? = some (.cells #[.int .u8 y.nm.toNat, .int .i64 y.job] 164 (0, 0))) := S2.out
              have hs2 : (wc.setCell ⟨J, 1, none⟩ (.int .i64 ((HD : Int) + y.bud))).drew.cell? ⟨S0, 2, none⟩ = some (.int .i64 y.bud) := by
                show (wc.setCell ⟨J, 1, none⟩ (.int .i64 ((HD : Int) + y.bud))).cell? ⟨S0, 2, none⟩ = _
                rw [set_other (by intro e; injection e with e1 _; exact hSJ2 e1)]
                exact c02
              generalize (wc.setCell ⟨J, 1, none⟩ (.int .i64 ((HD : Int) + y.bud))).drew = W3 at *
              clear hl1 hl2 c02 c10 c11 j1 jf hhb HUb S2 hSJ hSJ1 hSJ2 hKJ
              go_wp2_with fail
              clear hs2
              go_loopw [7, 61] (fun av i wr => ∃ r Z : Nat, r ≤ y.bud ∧ i = .int .i64 r ∧ av = .int .i64 Z ∧ Hid (Z = T + r) ∧ wr.heap[S0 + 1]? = some (.cells #[.int .u8 y.nm.toNat, .int .i64 y.job] 164 (0, 0)) ∧ UX w wr #[.int .i64 t.cyc, .int .i64 t.fr, .slice (some ⟨g, 0, none⟩) t.fs.length cc] t.cyc t.fr (flatF 0 t.fs) q r (q + 1) (q + 1) P') (fun _ i _ => 200 - (intOf i).toNat)
              case atStart => exact ⟨0, T, by omega, rfl, rfl, rfl, S3.out, HU3.out⟩
              case round =>
                clear S3 HU3
                obtain ⟨r, Z, hr, rfl, rfl, hZ, hK, hU⟩ := hrel
                by_cases hrl : r < y.bud
                · have hrl' : (r : Int) < y.bud := by omega
                  have hZ1 : (Z : Int) < t.cyc := by have := hZ.out; omega
                  have hlk := hU.look_some HJs.out hq hU.job.1
                  rw [Hfq.out] at hlk
                  have hlk' : (Instr.lookup 162 (.map (some (w.heap.size + 1 + 1))) (.agg #[.int .u8 y.nm.toNat, .int .i64 y.job]) false).run Tryz.prog wr = .ok (.pointer (some ⟨J, 0, none⟩)) wr := by rw [← HPJ.out]; exact hlk
                  have k0 := blk_cell hK 0
                  have k1 := blk_cell hK 1
                  obtain ⟨arr, ha1, ha2⟩ := hU.hu
                  have hcz := blk_cell ha1 Z
                  rw [ha2 Z (by have := hZ.out; omega)] at hcz
                  have hfz := blk_frozen ha1 Z
                  have hUn := hU.unit hG.out hq (by rw [Hfq.out]; exact hrl)
                  rw [Hst.out, ← hZ.out] at hUn
                  unfold ptrP at hUn
                  rw [HPJ.out] at hUn
                  have hne : S0 + 1 ≠ w.heap.size + 1 := by
                    intro e
                    rw [e, ha1] at hK
                    simp at hK
                  have HUn := hide hUn
                  have HK2 : Hid ((wr.setCell ⟨w.heap.size + 1, Z, none⟩ (.pointer (some ⟨J, 0, none⟩))).heap[S0 + 1]? = some (.cells #[.int .u8 y.nm.toNat, .int .i64 y.job] 164 (0, 0))) := by
                    unfold Hid
                    rw [Below.heap_setCell _ _ _ _ hne]
                    exact hK
                  clear hU hK ha1 ha2 hUn hlk hne
                  go_wp2_with (first | (at_lookup; refine wpList_look_at _ rfl _ _ _ rfl _ _ _ rfl rfl hlk' ?_) | fail)
                  go_roundw
                  case rel => exact ⟨r + 1, Z + 1, by omega, by go_num, by go_num, by have := hZ.out; unfold Hid; omega, HK2.out, HUn.out⟩
                  case measure => simp [intOf]; omega
                · have hre : r = y.bud := by omega
                  subst hre
                  have hrl' : ¬ (y.bud : Int) < y.bud := by omega
                  have HUn : Hid (UX w wr #[.int .i64 t.cyc, .int .i64 t.fr, .slice (some ⟨g, 0, none⟩) t.fs.length cc] t.cyc t.fr (flatF 0 t.fs) (q + 1) 0 (q + 1) (q + 1) P') := by
                    refine UX.next hG.out ?_ hq
                    rw [Hfq.out]
                    exact hU
                  clear hU hK
                  go_wp2_with fail
                  go_roundw
                  case rel => exact ⟨k + 1, P', by omega, by go_num, by rw [Hnx.out, hZ.out], by rw [← Nat.add_assoc, HQ.out]; exact HUn.out⟩
                  case measure => simp [intOf]; omega
        · have hkl' : ¬ (k : Int) < (frk t.fs j).length := by omega
          have hke : k = (frk t.fs j).length := by omega
          have HU2 : Hid (UX w wr #[.int .i64 t.cyc, .int .i64 t.fr, .slice (some ⟨g, 0, none⟩) t.fs.length cc] t.cyc t.fr (flatF 0 t.fs) (baseJ t.fs (j + 1)) 0 (baseJ t.fs (j + 1)) (baseJ t.fs (j + 1)) P) := by
            unfold Hid
            rw [base_next hlt, ← hke]
            exact hU
          clear hU hke
          go_wp2_with fail
          go_roundw
          case rel => exact ⟨j + 1, P, by omega, by go_num, HU2.out⟩
          case measure => simp [intOf]; omega
    · have hlt' : ¬ (j : Int) < t.fs.length := by omega
      have hje : j = t.fs.length := by omega
      subst hje
      rw [Hba.out] at hU
      have HU := hide hU
      clear hU
      go_wp2
      go_ret
      exact ⟨rfl, P, HU.out⟩
end Go.Proofs.YtbdffcjganlblaaGreatDoor
