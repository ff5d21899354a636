/-
  Own work. The document's planning: Kept, Widest.
-/
import Derived.Test.YtbdffcjganlblaaGreatDoorMDsBtoDsC
import Derived.Test.YtbdffcjganlblaaGreatDoorMEdAtoEdF
import Derived.Deep.DeepCutAuto
import Derived.Test.YtbdffcjganlblaaGreatDoorMHeBtoMpS
import Derived.Test.YtbdffcjganlblaaGreatDoorMPnDtoPnE
namespace Go.Proofs.YtbdffcjganlblaaGreatDoor
open Go.RowKit
set_option linter.unusedVariables false
set_option linter.unusedSimpArgs false

/-! ### Unit by unit: pure -/
section
variable {J n F : Nat} {fit : Nat → Nat → Bool} {cost : Nat → Nat} {k u : Nat} {s t : FS}
end

/-! ### Memory -/
section
variable {js : List Jb} {F n base P gL gH gU cL cH cU : Nat} {s : FS} {w w' : World}
end
end Go.Proofs.YtbdffcjganlblaaGreatDoor

namespace Go.Proofs.YtbdffcjganlblaaGreatDoor
open Go.RowKit
set_option linter.unusedVariables false
set_option linter.unusedSimpArgs false

def cmpI (a b : Int) : Int := if a < b then -1 else if b < a then 1 else 0
theorem cmpI_lt (a b : Int) : cmpI a b < 0 ↔ a < b := by
  unfold cmpI
  split
  · simp; omega
  · split
    · constructor
      · intro h; omega
      · intro h; omega
    · constructor
      · intro h; omega
      · intro h; omega

set_option maxRecDepth 100000 in
set_option maxHeartbeats 1000000 in
theorem isNaN_any (a : Int) (w : World) :
    Calls Tryz.prog 202 #[.int .i64 a] w fun e w' => e = .returned (.bool false) ∧ w' = w := by
  have h : (a != a) = false := by simp
  go_enter Tryz.func202, Tryz.ntmps202
  go_wp2_with fail
  go_ret
  exact ⟨rfl, rfl⟩

set_option maxRecDepth 100000 in
set_option maxHeartbeats 1000000 in
theorem compare_any (a b : Int) (w : World) :
    Calls Tryz.prog 191 #[.int .i64 a, .int .i64 b] w fun e w' => e = .returned (.int .i64 (cmpI a b)) ∧ w' = w := by
  have hc : Hid (cmpI a b = if a < b then -1 else if b < a then 1 else 0) := rfl
  rcases (show a < b ∨ (¬ a < b ∧ b < a) ∨ (¬ a < b ∧ ¬ b < a) by omega) with h1 | ⟨h1, h2⟩ | ⟨h1, h2⟩
  · rw [if_pos h1] at hc
    go_enter Tryz.func191, Tryz.ntmps191
    go_wp2_with (go_at_call 202; refine (isNaN_any _ _).mono ?_; rintro e w' ⟨rfl, hw'⟩; replace hw' := hw'.symm; subst hw')
    go_ret
    exact ⟨by rw [hc.out]; rfl, rfl⟩
  · rw [if_neg h1, if_pos h2] at hc
    go_enter Tryz.func191, Tryz.ntmps191
    go_wp2_with (go_at_call 202; refine (isNaN_any _ _).mono ?_; rintro e w' ⟨rfl, hw'⟩; replace hw' := hw'.symm; subst hw')
    go_ret
    exact ⟨by rw [hc.out]; rfl, rfl⟩
  · rw [if_neg h1, if_neg h2] at hc
    go_enter Tryz.func191, Tryz.ntmps191
    go_wp2_with (go_at_call 202; refine (isNaN_any _ _).mono ?_; rintro e w' ⟨rfl, hw'⟩; replace hw' := hw'.symm; subst hw')
    go_ret
    exact ⟨by rw [hc.out]; rfl, rfl⟩

def relK (js : List Jb) (k : Nat) : Nat := (jk js k).rel
set_option maxRecDepth 100000 in
set_option maxHeartbeats 1000000 in
theorem relCmp_any (js : List Jb) (bl left : Nat → Nat) (w : World) (h : JobsAt js bl left w) (i j : Nat) (hi : i < js.length) (hj : j < js.length) :
    Calls Tryz.prog 190 #[.pointer (some ⟨bl i, 0, none⟩), .pointer (some ⟨bl j, 0, none⟩)] w fun e w' => e = .returned (.int .i64 (cmpI (relK js i) (relK js j))) ∧ ∃ n, w' = w.drewN n := by
  have a3 : w.cell? ⟨bl i, 3, none⟩ = some (.int .i64 (relK js i)) := by rw [blk_cell (h i hi)]; rfl
  have b3 : w.cell? ⟨bl j, 3, none⟩ = some (.int .i64 (relK js j)) := by rw [blk_cell (h j hj)]; rfl
  have CQ : Hid (∀ x, Calls Tryz.prog 191 #[.int .i64 (relK js i), .int .i64 (relK js j)] (w.drewN x) fun e w' => e = .returned (.int .i64 (cmpI (relK js i) (relK js j))) ∧ ∃ n, w' = w.drewN n) := fun x => (compare_any _ _ _).mono (fun e w' h => ⟨h.1, x, h.2⟩)
  clear h
  go_enter Tryz.func190, Tryz.ntmps190
  go_wp2_with fail
  go_quiet (first | (go_at_call 191; exact CQ.out _))
  go_wp2_with fail
  go_ret
  exact ⟨rfl, nq, rfl⟩
abbrev cmpF : Value := .func (.func 190) #[] #[]

set_option maxRecDepth 100000 in
set_option maxHeartbeats 8000000 in
theorem insSort_any (js : List Jb) (bl left : Nat → Nat) (L : List Nat) (base : Nat) (v : Value) (w : World) (hv : RowJ w base v bl L) (hj : JobsAt js bl left w) (hL : ∀ x ∈ L, x < js.length) (a b : Nat) (hab : a ≤ b) (hb : b ≤ L.length) (hn : L.length ≤ 100000) :
    Calls Tryz.prog 207 #[v, .int .i64 a, .int .i64 b, cmpF] w fun e w' => e = .returned (.tuple #[]) ∧ RowJ w' base v bl (insS (relK js) L a (a + 1) b) ∧ Frm (fun k => v.ownBlock = some k) w w' := by
  obtain ⟨va, vcap, hvf, _, _⟩ := hv.len
  subst hvf
  have HV := hide hv
  have HJ := hide hj
  have HL := hide hL
  clear hv hj hL
  go_enter Tryz.func207, Tryz.ntmps207
  go_wp2_with fail
  go_loopw [8] (fun iv wr => ∃ (i : Nat) (L1 : List Nat), iv = .int .i64 i ∧ a < i ∧ i ≤ b + 1 ∧ RowJ wr base (.slice va L.length vcap) bl L1 ∧ L1.Perm L ∧ insS (relK js) L1 a i b = insS (relK js) L a (a + 1) b ∧ Frm (fun k => (Value.slice va L.length vcap).ownBlock = some k) w wr) (fun iv _ => b + 1 - (intOf iv).toNat)
  case atStart => exact ⟨a + 1, L, by go_num, by omega, by omega, HV.out, List.Perm.refl _, rfl, Frm.refl _ _⟩
  case round =>
    obtain ⟨i, L1, rfl, hai, hib, hr1, hp1, he1, hf1⟩ := hrel
    have hl1 := hp1.length_eq
    have HR1 := hide hr1
    have HP1 := hide hp1
    have HE1 := hide he1
    have HF1 := hide hf1
    clear hr1 hp1 he1 hf1
    by_cases hlt : i < b
    · have hlt' : (i : Int) < b := by omega
      have HE2 := hide ((insS_go (key := relK js) (L := L1) (a := a) hlt).symm.trans HE1.out)
      clear HE1
      go_wp2_with fail
      go_loopw [9] (fun jv wr => ∃ (j : Nat) (L2 : List Nat), jv = .int .i64 j ∧ a ≤ j ∧ j ≤ i ∧ RowJ wr base (.slice va L.length vcap) bl L2 ∧ L2.Perm L ∧ insI (relK js) L2 a j = insI (relK js) L1 a i ∧ Frm (fun k => (Value.slice va L.length vcap).ownBlock = some k) w wr) (fun jv _ => (intOf jv).toNat)
      case atStart => exact ⟨i, L1, rfl, by omega, Nat.le_refl _, HR1.out, HP1.out, rfl, HF1.out⟩
      case round =>
        obtain ⟨j, L2, rfl, haj, hji, hr2, hp2, he2, hf2⟩ := hrel
        have hl2 := hp2.length_eq
        have HJ2 := hide (HJ.out.keep hf2 (fun k hk => own_not_job HV.out HJ.out hk))
        have HL2 : Hid (∀ x ∈ L2, x < js.length) := fun x hx => HL.out x (hp2.mem_iff.1 hx)
        obtain ⟨g, cap, cur, hvv, _, hg, hc1, _, _, hcell⟩ := hr2.form (by omega)
        injection hvv with e1 e2 e3
        subst e1
        subst e3
        clear e2
        have HP2 := hide hp2
        have HE3 := hide he2
        have HF2 := hide hf2
        by_cases haj2 : a < j
        · have haj' : (a : Int) < j := by omega
          have hjL : (j : Int) < L.length := by omega
          have hj1L : (j : Int) - 1 < L.length := by omega
          have hj10 : 0 ≤ (j : Int) - 1 := by omega
          have cj : wr.cell? ⟨g, j, none⟩ = some (.pointer (some ⟨bl (gd L2 j), 0, none⟩)) := by rw [blk_cell hg]; exact hcell j (by omega)
          have cj1 : wr.cell? ⟨g, j - 1, none⟩ = some (.pointer (some ⟨bl (gd L2 (j - 1)), 0, none⟩)) := by rw [blk_cell hg]; exact hcell (j - 1) (by omega)
          have fz := blk_frozen hg
          have kj := HL2.out _ (gd_mem (L := L2) (i := j) (by omega))
          have kj1 := HL2.out _ (gd_mem (L := L2) (i := j - 1) (by omega))
          have CQ : Hid (∀ x, Calls Tryz.prog 190 #[.pointer (some ⟨bl (gd L2 j), 0, none⟩), .pointer (some ⟨bl (gd L2 (j - 1)), 0, none⟩)] (wr.drewN x) fun e w' => e = .returned (.int .i64 (cmpI (relK js (gd L2 j)) (relK js (gd L2 (j - 1))))) ∧ ∃ n, w' = wr.drewN n) := fun x => (relCmp_any js bl left (wr.drewN x) (HJ2.out.same rfl) _ _ kj kj1).mono (fun e w' h => ⟨h.1, by
            obtain ⟨n, hn⟩ := h.2
            exact ⟨x + n, by rw [hn]; exact World.drewN_drewN _ _ _⟩⟩)
          have hcmp := cmpI_lt (relK js (gd L2 j)) (relK js (gd L2 (j - 1)))
          have HSw : Hid (RowJ ((wr.setCell ⟨g, j, none⟩ (.pointer (some ⟨bl (gd L2 (j - 1)), 0, none⟩))).setCell ⟨g, j - 1, none⟩ (.pointer (some ⟨bl (gd L2 j), 0, none⟩))) base (.slice (some ⟨g, 0, none⟩) L.length vcap) bl (swp L2 j (j - 1))) := by
            have hle : L.length = L2.length := hl2.symm
            rw [hle] at hr2 ⊢
            have h1 := hr2.set (i := j) (by omega) (gd L2 (j - 1))
            have h2 := RowJ.set (L := L2.set j (gd L2 (j - 1))) (by simpa using h1) (i := j - 1) (by simp; omega) (gd L2 j)
            unfold Hid swp
            simpa using h2
          have HFs : Hid (Frm (fun k => (Value.slice (some ⟨g, 0, none⟩) L.length vcap).ownBlock = some k) wr ((wr.setCell ⟨g, j, none⟩ (.pointer (some ⟨bl (gd L2 (j - 1)), 0, none⟩))).setCell ⟨g, j - 1, none⟩ (.pointer (some ⟨bl (gd L2 j), 0, none⟩)))) := ((Frm.refl _ wr).setCell (p := ⟨g, j, none⟩) (by simp [Value.ownBlock]) _).setCell (p := ⟨g, j - 1, none⟩) (by simp [Value.ownBlock]) _
          have hX : (wr.setCell ⟨g, j, none⟩ (.pointer (some ⟨bl (gd L2 (j - 1)), 0, none⟩))).cell? ⟨g, j - 1, none⟩ = some (.pointer (some ⟨bl (gd L2 (j - 1)), 0, none⟩)) := by
            rw [blk_cell (blk_set hg j _), Array.getElem?_setIfInBounds, if_neg (by omega)]
            exact hcell (j - 1) (by omega)
          have fz2 := blk_frozen (blk_set hg j (.pointer (some ⟨bl (gd L2 (j - 1)), 0, none⟩)))
          by_cases hk : relK js (gd L2 j) < relK js (gd L2 (j - 1))
          · have hcd : decide (cmpI (relK js (gd L2 j)) (relK js (gd L2 (j - 1))) < 0) = true := decide_eq_true (hcmp.2 (by omega))
            have HE4 : Hid (insI (relK js) (swp L2 j (j - 1)) a (j - 1) = insI (relK js) L1 a i) := (insI_go haj2 hk).symm.trans HE3.out
            clear hk hcmp hr2 hp2 he2 hf2 hg hcell HE3
            generalize bl (gd L2 j) = bj at *
            generalize bl (gd L2 (j - 1)) = bj1 at *
            generalize cmpI (relK js (gd L2 j)) (relK js (gd L2 (j - 1))) = cc at *
            go_wp2_with fail
            go_quiet (first | (go_at_call 190; exact CQ.out _))
            go_wp2_with fail
            go_region
            all_goals
              go_wp2_with fail
              go_roundw
              case rel => exact ⟨j - 1, swp L2 j (j - 1), by go_num, by omega, by omega, HSw.out, (swp_perm (by omega) (by omega)).trans HP2.out, HE4.out, HF2.out.trans ⟨HFs.out.os, HFs.out.tape, HFs.out.output, HFs.out.size, HFs.out.block⟩⟩
              case measure => simp [intOf]; omega
          · have hcd : decide (cmpI (relK js (gd L2 j)) (relK js (gd L2 (j - 1))) < 0) = false := decide_eq_false (fun h => hk (by have := hcmp.1 h; omega))
            have HE4 : Hid (L2 = insI (relK js) L1 a i) := (insI_stop hk).symm.trans HE3.out
            have HR2 := hide hr2
            clear hk hcmp hr2 hp2 he2 hf2 hg hcell HE3 HSw HFs hX fz2
            generalize bl (gd L2 j) = bj at *
            generalize bl (gd L2 (j - 1)) = bj1 at *
            generalize cmpI (relK js (gd L2 j)) (relK js (gd L2 (j - 1))) = cc at *
            go_wp2_with fail
            go_quiet (first | (go_at_call 190; exact CQ.out _))
            go_wp2_with fail
            go_roundw
            case rel => exact ⟨i + 1, L2, by go_num, by omega, by omega, HR2.out, HP2.out, by rw [HE4.out]; exact HE2.out, HF2.out.trans (Frm.sames rfl rfl rfl rfl)⟩
            case measure => simp [intOf]; omega
        · have haj' : ¬ (a : Int) < j := by omega
          have hajd : decide ((a : Int) < j) = false := decide_eq_false haj'
          have HE4 : Hid (L2 = insI (relK js) L1 a i) := (insI_end haj2).symm.trans HE3.out
          have HR2 := hide hr2
          clear hr2 hp2 he2 hf2 hg hcell HE3
          go_wp2_with fail
          go_quiet (fail)
          go_wp2_with fail
          go_roundw
          case rel => exact ⟨i + 1, L2, by go_num, by omega, by omega, HR2.out, HP2.out, by rw [HE4.out]; exact HE2.out, HF2.out.trans (Frm.sames rfl rfl rfl rfl)⟩
          case measure => simp [intOf]; omega
    · have hlt' : ¬ (i : Int) < b := by omega
      have HE2 : Hid (L1 = insS (relK js) L a (a + 1) b) := (insS_end hlt).symm.trans HE1.out
      go_wp2_with fail
      go_end0
      exact ⟨rfl, by rw [← HE2.out]; exact HR1.out, HF1.out⟩
end Go.Proofs.YtbdffcjganlblaaGreatDoor
