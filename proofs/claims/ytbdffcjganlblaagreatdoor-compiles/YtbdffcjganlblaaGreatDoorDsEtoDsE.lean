/-
  Own work. The document's unit by unit: free.
-/
import Derived.Test.YtbdffcjganlblaaGreatDoorEdCtoDsB
import Derived.Test.YtbdffcjganlblaaGreatDoorPrBtoDsI
import Derived.Deep.DeepCutAuto
namespace Go.Proofs.YtbdffcjganlblaaGreatDoor
open Go.RowKit
set_option linter.unusedVariables false
set_option linter.unusedSimpArgs false

theorem free_no {js : List Jb} {ps : List Pr} {left : Nat → Nat} {k i : Nat} (hi : i < ps.length) (h : holdsN js left k (psk ps i) = true) : freeJ js ps left k = false := by
  unfold freeJ
  have : ps.any (holdsN js left k) = true := List.any_eq_true.2 ⟨psk ps i, by simp [psk, List.getD_eq_getElem?_getD, hi], h⟩
  rw [this]
  rfl
theorem free_yes {js : List Jb} {ps : List Pr} {left : Nat → Nat} {k : Nat} (h : ∀ i, i < ps.length → holdsN js left k (psk ps i) = false) : freeJ js ps left k = true := by
  unfold freeJ
  have : ps.any (holdsN js left k) = false := by
    rw [List.any_eq_false]
    intro p hp
    obtain ⟨i, hi, rfl⟩ := List.getElem_of_mem hp
    have := h i hi
    rw [show psk ps i = ps[i] by simp [psk, List.getD_eq_getElem?_getD, hi]] at this
    simp [this]
  rw [this]
  rfl
theorem int_beq {a b : Nat} (h : a = b) : ((a : Int) == (b : Int)) = true := by simp [h]
theorem int_bne {a b : Nat} (h : ¬ a = b) : ((a : Int) == (b : Int)) = false := by rw [beq_eq_false_iff_ne]; omega
theorem int_lt {a b : Nat} (h : a < b) : decide ((a : Int) < (b : Int)) = true := by rw [decide_eq_true_eq]; omega
theorem int_pos {b : Nat} (h : 0 < b) : decide ((0 : Int) < (b : Int)) = true := by rw [decide_eq_true_eq]; omega
theorem int_zero {b : Nat} (h : ¬ 0 < b) : decide ((0 : Int) < (b : Int)) = false := by rw [decide_eq_false_iff_not]; omega
theorem int_ge {a b : Nat} (h : ¬ a < b) : decide ((a : Int) < (b : Int)) = false := by rw [decide_eq_false_iff_not]; omega

set_option maxRecDepth 100000 in
set_option maxHeartbeats 16000000 in
theorem rfree_any (ts : List Tk) (ps : List Pr) (cyc g cap : Nat) (pa : Option Addr) (pc gL cL gF cF : Nat) (left : Nat → Nat) (k : Nat) (w : World) (hg : g < w.heap.size) (hr : RowT w g ts) (hn : ts.length ≤ 6) (hp6 : ps.length ≤ 6) (hp : 0 < ps.length → ∃ gp, pa = some ⟨gp, 0, none⟩ ∧ gp < w.heap.size ∧ RowP w gp ps) (hpt : ∀ p ∈ ps, ∃ i j, PairT ts p i j) (hnd : (ts.map Tk.nm).Nodup)
    (hgL : gL < w.heap.size) (hl : RowB w gL (jobsL cyc 0 ts)) (hgF : gF < w.heap.size) (hf : RowV w gF 3 (jobsL cyc 0 ts).length (fun q => .int .i64 (left q))) (hk : k < (jobsL cyc 0 ts).length) (hJ : (jobsL cyc 0 ts).length ≤ 1000) :
    Calls Tryz.prog 135 #[.agg #[.slice (some ⟨g, 0, none⟩) ts.length cap, .slice pa ps.length pc], .slice (some ⟨gL, 0, none⟩) (jobsL cyc 0 ts).length cL, .slice (some ⟨gF, 0, none⟩) (jobsL cyc 0 ts).length cF, .int .i64 k] w fun e w' => e = .returned (.bool (freeJ (jobsL cyc 0 ts) ps left k)) ∧ Below w.heap.size w w' := by
  have hS := blk_new w #[.slice (some ⟨g, 0, none⟩) ts.length cap, .slice pa ps.length pc] 53
  have HB0 := hide (below_new w (.cells #[.slice (some ⟨g, 0, none⟩) ts.length cap, .slice pa ps.length pc] 53))
  have HS := hide hS
  have HP := hide hp
  have HR := hide hr
  have HL := hide hl
  have HF := hide hf
  have CFi := hide (fun (c : UInt8) W (hW : Below w.heap.size w W) => rfind_any ts g cap (.slice pa ps.length pc) pa ps.length pc rfl c W (Nat.lt_of_lt_of_le hg hW.size) (hr.below hW hg) hn)
  have HPt := hide (fun p hp (left : Nat → Nat) (k : Nat) (hk : k < (jobsL cyc 0 ts).length) => show ∃ a b, PairT ts p a b ∧ (holdsN (jobsL cyc 0 ts) left k p = true ↔ ∃ n, n < (jobsL cyc 0 ts).length ∧ heldD (jobsL cyc 0 ts) left p.ap a b k n) from by
    obtain ⟨a, b, P⟩ := hpt p hp
    exact ⟨a, b, P, holds_iff hnd P hk⟩)
  clear hr hl hf hp hpt hnd hS
  generalize jobsL cyc 0 ts = js at *
  go_enter Tryz.func135, Tryz.ntmps135
  go_wp2_with fail
  generalize w.alloc (.cells #[.slice (some ⟨g, 0, none⟩) ts.length cap, .slice pa ps.length pc] 53) = w0 at *
  go_loopw [9] (fun iv wr => ∃ i : Nat, i ≤ ps.length ∧ iv = .int .i64 i ∧ (∀ q, q < i → holdsN js left k (psk ps q) = false) ∧ Below w.heap.size w wr ∧ wr.heap[w.heap.size]? = some (.cells #[.slice (some ⟨g, 0, none⟩) ts.length cap, .slice pa ps.length pc] 53 (0, 0))) (fun iv _ => ps.length - (intOf iv).toNat)
  case atStart => exact ⟨0, by omega, rfl, fun q h => by omega, HB0.out, HS.out⟩
  case round =>
    clear HB0 HS
    obtain ⟨i, hi, rfl, hno, hB, hS⟩ := hrel
    have HNo := hide hno
    have HB := hide hB
    have HS := hide hS
    have s0 := blk_cell hS
    have hsw := blk_lt hS
    clear hno hB hS
    by_cases hlt : i < ps.length
    · have hlt' : (i : Int) < ps.length := by omega
      obtain ⟨gp, rfl, hgp, hRP⟩ := HP.out (by omega)
      obtain ⟨r0, r1, r2, r3, r4⟩ := hRP.below HB.out hgp i hlt
      have hpm : psk ps i ∈ ps := by simp [psk, List.getD_eq_getElem?_getD, hlt]
      obtain ⟨a, b, P, hH⟩ := HPt.out _ hpm left k hk
      have hne := P.ne
      have ha6 := P.hi
      have hb6 := P.hj
      have CA := hide (CFi.out (psk ps i).a)
      have CB := hide (CFi.out (psk ps i).b)
      rw [P.fa] at CA
      rw [P.fb] at CB
      have HH := hide hH
      have HNx : Hid (holdsN js left k (psk ps i) = false → ∀ q, q < i + 1 → holdsN js left k (psk ps q) = false) := fun h q hq => by
        by_cases e : q = i
        · rw [e]; exact h
        · exact HNo.out q (by omega)
      have HFn := hide (fun h => free_no (js := js) (left := left) (k := k) hlt h)
      clear P hH hRP hpm HNo
      generalize psk ps i = p at *
      have HX := hide (blk_new wr (prA p) 133)
      unfold prA at HX
      have HB1 := hide (HB.out.alloc HB.out.size (.cells (prA p) 133))
      unfold prA at HB1
      have hba := below_new wr (.cells (prA p) 133)
      unfold prA at hba
      have HS1 := hide (blk_keep HS.out hba)
      clear hba
      go_wp2_with fail
      generalize hwx : wr.alloc _ = wx at *
      clear hwx r0 r1 r2 r3 r4 s0 HB HS
      generalize wr.heap.size = X at *
      have s0 := blk_cell HS1.out
      refine (CA.out wx HB1.out).mono ?_
      rintro e w2 ⟨rfl, hb2⟩
      have HX2 := hide (blk_keep HX.out hb2)
      have HB2 := hide (HB1.out.trans (hb2.mono HB1.out.size))
      have HS2 := hide (blk_keep HS1.out hb2)
      clear hb2 HX HB1 HS1 s0 CA
      have s0 := blk_cell HS2.out
      obtain ⟨x0, x1, x2, x3, x4⟩ := prA_cells (p := p) HX2.out
      go_wp2_with fail
      refine (CB.out w2 HB2.out).mono ?_
      rintro e w3 ⟨rfl, hb3⟩
      have HX3 := hide (blk_keep HX2.out hb3)
      have HB3 := hide (HB2.out.trans (hb3.mono HB2.out.size))
      have HS3 := hide (blk_keep HS2.out hb3)
      clear hb3 HX2 HB2 HS2 s0 CB x0 x1 x2 x3 x4
      go_wp2_with fail
      go_loopw [13] (fun nv wr => ∃ n : Nat, n ≤ js.length ∧ nv = .int .i64 n ∧ (∀ q, q < n → ¬ heldD js left p.ap a b k q) ∧ Below w3.heap.size w3 wr) (fun nv _ => js.length - (intOf nv).toNat)
      case atStart => exact ⟨0, by omega, rfl, fun q h => by omega, Below.refl _ _⟩
      case round =>
        obtain ⟨n, hn', rfl, hnh, hBn⟩ := hrel
        have HNh := hide hnh
        by_cases hnl : n < js.length
        · have hnl' : (n : Int) < js.length := by omega
          have hBw := HB3.out.trans (hBn.mono HB3.out.size)
          obtain ⟨x0, x1, x2, x3, x4⟩ := prA_cells (p := p) (blk_keep HX3.out hBn)
          obtain ⟨k0, k1, k2, k3, k4⟩ := HL.out.below hBw hgL k hk
          obtain ⟨n0, n1, n2, n3, n4⟩ := HL.out.below hBw hgL n hnl
          have f0 := (HF.out.keep (hBw.block gF hgF)).cell hnl
          have HBn := hide hBn
          have HBw := hide hBw
          have HNx2 : Hid (¬ heldD js left p.ap a b k n → ∀ q, q < n + 1 → ¬ heldD js left p.ap a b k q) := fun h q hq => by
            by_cases e : q = n
            · rw [e]; exact h
            · exact HNh.out q (by omega)
          have hkJ : (k : Int) < js.length := by omega
          clear hnh hBn hBw HNh x0 x1 x3 x4 k2 k3 k4 n2 n3
          go_upto_region 10 with fail
          go_cut [81] (fun v wc => v = .bool (decide (p.ap = false ∧ (jk js k).tsk = b ∧ (jk js n).tsk = a ∧ (jk js n).num = (jk js k).num ∧ 0 < left n)) ∧ ∃ m, wc = wr.drewN m)
          case first =>
            rcases Bool.eq_false_or_eq_true p.ap with hap | hap
            · have x2t : wr.cell? ⟨X, 2, none⟩ = some (.bool true) := by rw [x2, hap]
              have HRl : Hid (Value.bool false = .bool (decide (p.ap = false ∧ (jk js k).tsk = b ∧ (jk js n).tsk = a ∧ (jk js n).num = (jk js k).num ∧ 0 < left n))) := congrArg Value.bool (decide_eq_false (fun h => by rw [hap] at h; cases h.1)).symm
              clear x2 hap
              go_quiet (fail)
              go_wp2_with fail
              go_meet
              case rel => exact ⟨HRl.out, _, rfl⟩
            · have x2f : wr.cell? ⟨X, 2, none⟩ = some (.bool false) := by rw [x2, hap]
              clear x2
              by_cases h1 : (jk js k).tsk = b
              · by_cases h2 : (jk js n).tsk = a
                · by_cases h3 : (jk js n).num = (jk js k).num
                  · by_cases h4 : 0 < left n
                    · have HRl : Hid (Value.bool true = .bool (decide (p.ap = false ∧ (jk js k).tsk = b ∧ (jk js n).tsk = a ∧ (jk js n).num = (jk js k).num ∧ 0 < left n))) := congrArg Value.bool (decide_eq_true (⟨hap, h1, h2, h3, h4⟩)).symm
                      have e1 := int_beq h1
                      have e2 := int_beq h2
                      have e3 := int_beq h3
                      have e4 := int_pos h4
                      have e4n := decide_eq_true h4
                      have e4p : (0 : Int) < (left n : Int) := by omega
                      clear hap h1 h2 h3 h4
                      go_quiet (fail)
                      go_wp2_with fail
                      go_meet
                      case rel => exact ⟨HRl.out, _, rfl⟩
                    · have HRl : Hid (Value.bool false = .bool (decide (p.ap = false ∧ (jk js k).tsk = b ∧ (jk js n).tsk = a ∧ (jk js n).num = (jk js k).num ∧ 0 < left n))) := congrArg Value.bool (decide_eq_false (fun h => h4 h.2.2.2.2)).symm
                      have e1 := int_beq h1
                      have e2 := int_beq h2
                      have e3 := int_beq h3
                      have e4 := int_zero h4
                      have e4n := decide_eq_false h4
                      have e4p : ¬ (0 : Int) < (left n : Int) := by omega
                      clear hap h1 h2 h3 h4
                      go_quiet (fail)
                      go_wp2_with fail
                      go_meet
                      case rel => exact ⟨HRl.out, _, rfl⟩
                  · have HRl : Hid (Value.bool false = .bool (decide (p.ap = false ∧ (jk js k).tsk = b ∧ (jk js n).tsk = a ∧ (jk js n).num = (jk js k).num ∧ 0 < left n))) := congrArg Value.bool (decide_eq_false (fun h => h3 h.2.2.2.1)).symm
                    have e1 := int_beq h1
                    have e2 := int_beq h2
                    have e3 := int_bne h3
                    clear hap h1 h2 h3
                    go_quiet (fail)
                    go_wp2_with fail
                    go_meet
                    case rel => exact ⟨HRl.out, _, rfl⟩
                · have HRl : Hid (Value.bool false = .bool (decide (p.ap = false ∧ (jk js k).tsk = b ∧ (jk js n).tsk = a ∧ (jk js n).num = (jk js k).num ∧ 0 < left n))) := congrArg Value.bool (decide_eq_false (fun h => h2 h.2.2.1)).symm
                  have e1 := int_beq h1
                  have e2 := int_bne h2
                  clear hap h1 h2
                  go_quiet (fail)
                  go_wp2_with fail
                  go_meet
                  case rel => exact ⟨HRl.out, _, rfl⟩
              · have HRl : Hid (Value.bool false = .bool (decide (p.ap = false ∧ (jk js k).tsk = b ∧ (jk js n).tsk = a ∧ (jk js n).num = (jk js k).num ∧ 0 < left n))) := congrArg Value.bool (decide_eq_false (fun h => h1 h.2.1)).symm
                have e1 := int_bne h1
                clear hap h1
                go_quiet (fail)
                go_wp2_with fail
                go_meet
                case rel => exact ⟨HRl.out, _, rfl⟩
          case rest =>
            obtain ⟨rfl, m1, rfl⟩ := hcut
            by_cases hC1 : p.ap = false ∧ (jk js k).tsk = b ∧ (jk js n).tsk = a ∧ (jk js n).num = (jk js k).num ∧ 0 < left n
            · have HFr := hide (HFn.out (HH.out.2 ⟨n, hnl, .inl hC1⟩))
              rw [decide_eq_true hC1]
              clear hC1 HH HFn HNx HNx2
              go_wp2_with fail
              go_ret
              exact ⟨by rw [HFr.out]; rfl, below_drewN HBw.out _⟩
            · rw [decide_eq_false hC1]
              have HC1 := hide hC1
              clear hC1
              go_upto_region 12 with fail
              go_cut [14] (fun v wc => v = .bool (decide (((jk js k).tsk = a ∧ (jk js n).tsk = b) ∨ ((jk js k).tsk = b ∧ (jk js n).tsk = a))) ∧ wc = wr.drewN m1)
              case first =>
                by_cases h1 : (jk js k).tsk = a
                · have h1b : ¬ (jk js k).tsk = b := by omega
                  by_cases h2 : (jk js n).tsk = b
                  · have HRl : Hid (Value.bool true = .bool (decide (((jk js k).tsk = a ∧ (jk js n).tsk = b) ∨ ((jk js k).tsk = b ∧ (jk js n).tsk = a)))) := congrArg Value.bool (decide_eq_true (.inl ⟨h1, h2⟩)).symm
                    have e1 := int_beq h1
                    have e2 := int_beq h2
                    clear h1 h2 h1b
                    go_wp2_with fail
                    go_meet
                    case rel => exact ⟨HRl.out, rfl⟩
                  · have HRl : Hid (Value.bool false = .bool (decide (((jk js k).tsk = a ∧ (jk js n).tsk = b) ∨ ((jk js k).tsk = b ∧ (jk js n).tsk = a)))) := congrArg Value.bool (decide_eq_false (fun h => by rcases h with h | h <;> omega)).symm
                    have e1 := int_beq h1
                    have e2 := int_bne h2
                    have e3 := int_bne h1b
                    clear h1 h2 h1b
                    go_wp2_with fail
                    go_meet
                    case rel => exact ⟨HRl.out, rfl⟩
                · by_cases h2 : (jk js k).tsk = b
                  · by_cases h3 : (jk js n).tsk = a
                    · have HRl : Hid (Value.bool true = .bool (decide (((jk js k).tsk = a ∧ (jk js n).tsk = b) ∨ ((jk js k).tsk = b ∧ (jk js n).tsk = a)))) := congrArg Value.bool (decide_eq_true (.inr ⟨h2, h3⟩)).symm
                      have e1 := int_bne h1
                      have e2 := int_beq h2
                      have e3 := int_beq h3
                      clear h1 h2 h3
                      go_wp2_with fail
                      go_meet
                      case rel => exact ⟨HRl.out, rfl⟩
                    · have HRl : Hid (Value.bool false = .bool (decide (((jk js k).tsk = a ∧ (jk js n).tsk = b) ∨ ((jk js k).tsk = b ∧ (jk js n).tsk = a)))) := congrArg Value.bool (decide_eq_false (fun h => by rcases h with h | h <;> omega)).symm
                      have e1 := int_bne h1
                      have e2 := int_beq h2
                      have e3 := int_bne h3
                      clear h1 h2 h3
                      go_wp2_with fail
                      go_meet
                      case rel => exact ⟨HRl.out, rfl⟩
                  · have HRl : Hid (Value.bool false = .bool (decide (((jk js k).tsk = a ∧ (jk js n).tsk = b) ∨ ((jk js k).tsk = b ∧ (jk js n).tsk = a)))) := congrArg Value.bool (decide_eq_false (fun h => by rcases h with h | h <;> omega)).symm
                    have e1 := int_bne h1
                    have e2 := int_bne h2
                    clear h1 h2
                    go_wp2_with fail
                    go_meet
                    case rel => exact ⟨HRl.out, rfl⟩
              case rest =>
                obtain ⟨rfl, rfl⟩ := hcut
                go_upto_region 13 with fail
                go_cut [14, 139] (fun ov v wc => ov = .bool (decide (((jk js k).tsk = a ∧ (jk js n).tsk = b) ∨ ((jk js k).tsk = b ∧ (jk js n).tsk = a))) ∧ v = .bool (decide (p.ap = true ∧ (((jk js k).tsk = a ∧ (jk js n).tsk = b) ∨ ((jk js k).tsk = b ∧ (jk js n).tsk = a)) ∧ 0 < left n ∧ left n < (jk js n).cost)) ∧ ∃ m, wc = wr.drewN m)
                case first =>
                  rcases Bool.eq_false_or_eq_true p.ap with hap | hap
                  · have x2t : wr.cell? ⟨X, 2, none⟩ = some (.bool true) := by rw [x2, hap]
                    clear x2
                    by_cases h1 : ((jk js k).tsk = a ∧ (jk js n).tsk = b) ∨ ((jk js k).tsk = b ∧ (jk js n).tsk = a)
                    · have HO : Hid (Value.bool true = .bool (decide (((jk js k).tsk = a ∧ (jk js n).tsk = b) ∨ ((jk js k).tsk = b ∧ (jk js n).tsk = a)))) := congrArg Value.bool (decide_eq_true h1).symm
                      rw [decide_eq_true h1]
                      by_cases h2 : 0 < left n
                      · by_cases h3 : left n < (jk js n).cost
                        · have HRl : Hid (Value.bool true = .bool (decide (p.ap = true ∧ (((jk js k).tsk = a ∧ (jk js n).tsk = b) ∨ ((jk js k).tsk = b ∧ (jk js n).tsk = a)) ∧ 0 < left n ∧ left n < (jk js n).cost))) := congrArg Value.bool (decide_eq_true (⟨hap, h1, h2, h3⟩)).symm
                          have e4 := int_pos h2
                          have e4n := decide_eq_true h2
                          have e4p : (0 : Int) < (left n : Int) := by omega
                          have e5 := int_lt h3
                          have e5n := decide_eq_true h3
                          have e5p : (left n : Int) < ((jk js n).cost : Int) := by omega
                          clear h1 h2 h3 hap
                          go_quiet (fail)
                          go_wp2_with fail
                          go_meet
                          case rel => first | exact ⟨HO.out, HRl.out, _, rfl⟩ | exact ⟨HO.out, HRl.out, _, World.drewN_drewN _ _ _⟩
                        · have HRl : Hid (Value.bool false = .bool (decide (p.ap = true ∧ (((jk js k).tsk = a ∧ (jk js n).tsk = b) ∨ ((jk js k).tsk = b ∧ (jk js n).tsk = a)) ∧ 0 < left n ∧ left n < (jk js n).cost))) := congrArg Value.bool (decide_eq_false (fun h => h3 h.2.2.2)).symm
                          have e4 := int_pos h2
                          have e4n := decide_eq_true h2
                          have e4p : (0 : Int) < (left n : Int) := by omega
                          have e5 := int_ge h3
                          have e5n := decide_eq_false h3
                          have e5p : ¬ (left n : Int) < ((jk js n).cost : Int) := by omega
                          clear h1 h2 h3 hap
                          go_quiet (fail)
                          go_wp2_with fail
                          go_meet
                          case rel => first | exact ⟨HO.out, HRl.out, _, rfl⟩ | exact ⟨HO.out, HRl.out, _, World.drewN_drewN _ _ _⟩
                      · have HRl : Hid (Value.bool false = .bool (decide (p.ap = true ∧ (((jk js k).tsk = a ∧ (jk js n).tsk = b) ∨ ((jk js k).tsk = b ∧ (jk js n).tsk = a)) ∧ 0 < left n ∧ left n < (jk js n).cost))) := congrArg Value.bool (decide_eq_false (fun h => h2 h.2.2.1)).symm
                        have e4 := int_zero h2
                        have e4n := decide_eq_false h2
                        have e4p : ¬ (0 : Int) < (left n : Int) := by omega
                        clear h1 h2 hap
                        go_quiet (fail)
                        go_wp2_with fail
                        go_meet
                        case rel => first | exact ⟨HO.out, HRl.out, _, rfl⟩ | exact ⟨HO.out, HRl.out, _, World.drewN_drewN _ _ _⟩
                    · have HO : Hid (Value.bool false = .bool (decide (((jk js k).tsk = a ∧ (jk js n).tsk = b) ∨ ((jk js k).tsk = b ∧ (jk js n).tsk = a)))) := congrArg Value.bool (decide_eq_false h1).symm
                      rw [decide_eq_false h1]
                      have HRl : Hid (Value.bool false = .bool (decide (p.ap = true ∧ (((jk js k).tsk = a ∧ (jk js n).tsk = b) ∨ ((jk js k).tsk = b ∧ (jk js n).tsk = a)) ∧ 0 < left n ∧ left n < (jk js n).cost))) := congrArg Value.bool (decide_eq_false (fun h => h1 h.2.1)).symm
                      clear h1 hap
                      go_quiet (fail)
                      go_wp2_with fail
                      go_meet
                      case rel => first | exact ⟨HO.out, HRl.out, _, rfl⟩ | exact ⟨HO.out, HRl.out, _, World.drewN_drewN _ _ _⟩
                  · have x2f : wr.cell? ⟨X, 2, none⟩ = some (.bool false) := by rw [x2, hap]
                    have HRl : Hid (Value.bool false = .bool (decide (p.ap = true ∧ (((jk js k).tsk = a ∧ (jk js n).tsk = b) ∨ ((jk js k).tsk = b ∧ (jk js n).tsk = a)) ∧ 0 < left n ∧ left n < (jk js n).cost))) := congrArg Value.bool (decide_eq_false (fun h => by rw [hap] at h; cases h.1)).symm
                    clear x2 hap
                    go_quiet (fail)
                    go_wp2_with fail
                    go_meet
                    case rel => first | exact ⟨rfl, HRl.out, _, rfl⟩ | exact ⟨rfl, HRl.out, _, World.drewN_drewN _ _ _⟩
                case rest =>
                  obtain ⟨rfl, rfl, m2, rfl⟩ := hcut
                  by_cases hC2 : p.ap = true ∧ (((jk js k).tsk = a ∧ (jk js n).tsk = b) ∨ ((jk js k).tsk = b ∧ (jk js n).tsk = a)) ∧ 0 < left n ∧ left n < (jk js n).cost
                  · have HFr := hide (HFn.out (HH.out.2 ⟨n, hnl, .inr hC2⟩))
                    rw [decide_eq_true hC2]
                    clear hC2 HC1 HH HFn HNx HNx2
                    go_wp2_with fail
                    go_ret
                    exact ⟨by rw [HFr.out]; rfl, below_drewN HBw.out _⟩
                  · have HNx3 := hide (HNx2.out (fun h => by
                      rcases h with h | h
                      · exact HC1.out h
                      · exact hC2 h))
                    rw [decide_eq_false hC2]
                    clear hC2 HC1 HH HFn HNx HNx2
                    go_wp2_with fail
                    go_roundw
                    case rel => exact ⟨n + 1, by omega, by go_num, HNx3.out, below_drewN HBn.out _⟩
                    case measure => simp [intOf]; omega
        · have hnl' : ¬ (n : Int) < js.length := by omega
          have hne2 : n = js.length := by omega
          have HNx4 : Hid (∀ q, q < i + 1 → holdsN js left k (psk ps q) = false) := HNx.out (by
            cases hh : holdsN js left k p with
            | false => rfl
            | true =>
              obtain ⟨m, hm, hd⟩ := HH.out.1 hh
              exact absurd hd (HNh.out m (by omega)))
          have HS4 := hide (blk_keep HS3.out hBn)
          have HB4 := hide (HB3.out.trans (hBn.mono HB3.out.size))
          clear hnh hBn HNh HNx HH HFn HX3 HB3 HS3
          go_wp2_with fail
          go_roundw
          case rel => exact ⟨i + 1, by omega, by go_num, HNx4.out, HB4.out, HS4.out⟩
          case measure => simp [intOf]; omega
    · have hlt' : ¬ (i : Int) < ps.length := by omega
      have HFy := hide (free_yes (js := js) (ps := ps) (left := left) (k := k) (fun q hq => HNo.out q (by omega)))
      clear HNo
      go_wp2_with fail
      go_ret
      exact ⟨by rw [HFy.out]; rfl, HB.out⟩
end Go.Proofs.YtbdffcjganlblaaGreatDoor
