/-
  Own work. The program's tables: a slice, a frame.
-/
import Derived.Test.YtbdffcjganlblaaGreatDoorProgEtoTabA
import Derived.Deep.DeepCutAuto
namespace Go.Proofs.YtbdffcjganlblaaGreatDoor
open Go.RowKit
set_option linter.unusedVariables false
set_option linter.unusedSimpArgs false

theorem tok_sgn2 {l : List UInt8} {q : Nat} {c : UInt8} (hc : signB (c.toNat : Int) = true) (h : (tokAt l q).k = c.toNat) : (tokAt l q).tx = [c] := by
  have hc' : c.toNat = 44 ∨ c.toNat = 59 ∨ c.toNat = 58 := by
    simp only [signB, Bool.or_eq_true, beq_iff_eq] at hc
    omega
  revert h
  unfold tokAt
  split
  · intro h; simp only at h; omega
  · rename_i d r' hd
    split
    · intro h
      simp only at h ⊢
      rw [UInt8.toNat_inj.1 h]
    · split
      · intro h; simp only at h; omega
      · split <;> (intro h; simp only at h; omega)
theorem seesP_sgn (l : List UInt8) (j : Nat) (c : UInt8) (hc : signB (c.toNat : Int) = true) : seesP (tk (allToks l) j) ⟨#[c]⟩ = ((tk (allToks l) j).k == c.toNat) := by
  unfold seesP
  rw [ByteArray.toList_eq, bs_data, ByteArray.toList_eq]
  cases hk : ((tk (allToks l) j).k == c.toNat)
  · cases h : ((tk (allToks l) j).tx == (ByteArray.mk #[c]).data.toList)
    · rfl
    · have h' : (tk (allToks l) j).tx = [c] := by simpa using h
      simp only [beq_eq_false_iff_ne, ne_eq] at hk
      simp only [signB, Bool.or_eq_true, beq_iff_eq] at hc
      rcases tk_first h' with ⟨h1, _⟩ | ⟨h1, _⟩ | ⟨_, h1, _⟩
      · simp only [letterB, Bool.and_eq_true, decide_eq_true_eq] at h1; omega
      · simp only [digitB, Bool.and_eq_true, decide_eq_true_eq] at h1; omega
      · exact absurd h1 hk
  · have hk' : (tk (allToks l) j).k = c.toNat := by simpa using hk
    have : (tk (allToks l) j).tx = [c] := by
      rcases tk_form l j with ⟨i, hi⟩ | hi
      · rw [hi] at hk' ⊢; exact tok_sgn2 hc hk'
      · rw [hi] at hk'
        simp only [signB, Bool.or_eq_true, beq_iff_eq] at hc
        simp only at hk'
        omega
    rw [this]; simp
theorem s_colon (l : List UInt8) (j : Nat) : seesP (tk (allToks l) j) ⟨#[58]⟩ = ((tk (allToks l) j).k == 58) := seesP_sgn l j 58 (by decide)
theorem s_comma (l : List UInt8) (j : Nat) : seesP (tk (allToks l) j) ⟨#[44]⟩ = ((tk (allToks l) j).k == 44) := seesP_sgn l j 44 (by decide)
theorem s_cycle (l : List UInt8) (j : Nat) : seesP (tk (allToks l) j) wCycle = sees (tk (allToks l) j) wCycle := seesP_eq l j 99 [121, 99, 108, 101] wCycle (by rw [ByteArray.toList_eq]; rfl) rfl
theorem s_frame (l : List UInt8) (j : Nat) : seesP (tk (allToks l) j) wFrame = sees (tk (allToks l) j) wFrame := seesP_eq l j 102 [114, 97, 109, 101] wFrame (by rw [ByteArray.toList_eq]; rfl) rfl

/-- What a part of a table comes to: it may be no part; else what stands behind it may be no token. -/
def Dead {α : Type} (T : List PT) (R : Option (α × Nat)) : Prop := R = none ∨ ∃ a j, R = some (a, j) ∧ (tk T j).k = 120
def slR (T : List PT) (i : Nat) : Option (Sl × Nat) := if slOk T i then some (slAt T i, i + 4) else none
def slRaw (s : Sl) : Value := .agg #[.int .u8 s.nm.toNat, .int .i64 s.job, .int .i64 s.bud]

section
variable {w wk : World} {ty : TypeId} {c d : Array Value} {b : Nat} {s : ByteArray} {i : Nat} {er : Nat}

def SlOut (er : Nat) (s : ByteArray) (b i : Nat) (w : World) (en : Ending) (w' : World) : Prop :=
  w.grownBy w' (some b) ∧ ((∃ p, en = pan er p ∧ Dead (allToks s.data.toList) (slR (allToks s.data.toList) i)) ∨ (slOk (allToks s.data.toList) i = true ∧ RS er w' b s (i + 4) ∧ en = .returned (slRaw (slAt (allToks s.data.toList) i))))

theorem dead_no {T : List PT} {i : Nat} (h : slOk T i = false) : Dead T (slR T i) := .inl (by unfold slR; rw [h]; rfl)
theorem name_at (t : PT) (h : t.tx = [nameB t]) (w : World) : (Instr.index 9 (.string (bs t.tx)) (.int .i64 0)).run Tryz.prog w = .ok (.int .u8 (nameB t).toNat) w := by
  rw [h]
  simp [Instr.index, run_underlying Tryz.underlying9, go_sem, bs]
  rfl
theorem name_text (x : ByteArray) (c : Value) (w : World) : (Instr.field 170 (.agg #[.string x, c]) 0).run Tryz.prog w = .ok (.string x) w := by
  simp [Instr.field, run_underlying Tryz.underlying170, go_sem, asAgg]
theorem num_val (x : Int) (c : Value) (w : World) : (Instr.field 145 (.agg #[.int .i64 x, c]) 0).run Tryz.prog w = .ok (.int .i64 x) w := by
  simp [Instr.field, run_underlying Tryz.underlying145, go_sem, asAgg]

set_option maxRecDepth 100000 in
set_option maxHeartbeats 4000000 in
theorem takeSlice_any (h : RS er w b s i) :
    Calls Tryz.prog 144 #[.pointer (some ⟨b, 0, none⟩)] w (SlOut er s b i w) := by
  have S0 := Sp.start h 106 #[.int .u8 0, .int .i64 0, .int .i64 0] #[.int .u8 0, .int .i64 0, .int .i64 0]
  clear h
  go_enter Tryz.func144, Tryz.ntmps144
  go_wp2_with fail
  refine (takeName_any S0.rs).mono ?_
  rintro e w1 ⟨hg, hcase⟩
  have hgw := grownBy_trans S0.g hg
  rw [isNameP_eq] at hcase
  rcases hcase with ⟨h0, rfl⟩ | ⟨h0, h1, rfl⟩ | ⟨h0, h1, rfl⟩
  · exact ⟨rfl, hgw, .inl ⟨_, rfl, dead_no (by simp [slOk, h0])⟩⟩
  · exact ⟨rfl, hgw, .inl ⟨_, rfl, dead_no (by simp [slOk, h1])⟩⟩
  have F1 := hide h0
  have S1 := S0.call h1 hg
  obtain ⟨x1, x2, x3, x4⟩ := S1.cells
  have hnx := name_at _ (name_tx h0)
  clear hg hgw h0 h1 S0
  have hft := name_text
  have hfn := num_val
  go_wp2_with fail
  have S1 := S1.set 0 (.int .u8 (nameB (tk (allToks s.data.toList) i)).toNat) (c' := #[.int .u8 (nameB (tk (allToks s.data.toList) i)).toNat, .int .i64 0, .int .i64 0]) rfl
  clear x1 x2 x3 x4 hnx
  refine (takeNumber_any S1.rs).mono ?_
  rintro e w2 ⟨hg, hcase⟩
  have hgw := grownBy_trans S1.g hg
  rcases hcase with ⟨h0, rfl⟩ | ⟨h0, h1, rfl⟩ | ⟨h0, h1, rfl⟩
  · exact ⟨rfl, hgw, .inl ⟨_, rfl, dead_no (by simp [slOk, h0])⟩⟩
  · exact ⟨rfl, hgw, .inl ⟨_, rfl, dead_no (by simp [slOk, h1])⟩⟩
  have F2 := hide h0
  have S2 := S1.call h1 hg
  obtain ⟨x1, x2, x3, x4⟩ := S2.cells
  clear hg hgw h0 h1 S1
  go_wp2_with fail
  have S2 := S2.set 1 (.int .i64 (tk (allToks s.data.toList) (i + 1)).N) (c' := #[.int .u8 (nameB (tk (allToks s.data.toList) i)).toNat, .int .i64 (tk (allToks s.data.toList) (i + 1)).N, .int .i64 0]) rfl
  clear x1 x2 x3 x4
  refine (takeText_any S2.rs ⟨#[58]⟩ (by rw [ByteArray.toList_eq]; decide)).mono ?_
  rintro e w3 ⟨hg, hcase⟩
  have hgw := grownBy_trans S2.g hg
  rw [s_colon] at hcase
  rcases hcase with ⟨h0, rfl⟩ | ⟨h0, h1, rfl⟩ | ⟨h0, h1, rfl⟩
  · exact ⟨rfl, hgw, .inl ⟨_, rfl, dead_no (by simp [slOk]; intro _ _; simp at h0; simp [h0])⟩⟩
  · exact ⟨rfl, hgw, .inl ⟨_, rfl, dead_no (by simp [slOk, h1])⟩⟩
  have F3 := hide h0
  have S3 := S2.call h1 hg
  obtain ⟨x1, x2, x3, x4⟩ := S3.cells
  clear hg hgw h0 h1 S2
  go_wp2_with fail
  clear x1 x2 x3 x4
  refine (takeNumber_any S3.rs).mono ?_
  rintro e w4 ⟨hg, hcase⟩
  have hgw := grownBy_trans S3.g hg
  rcases hcase with ⟨h0, rfl⟩ | ⟨h0, h1, rfl⟩ | ⟨h0, h1, rfl⟩
  · exact ⟨rfl, hgw, .inl ⟨_, rfl, dead_no (by simp [slOk]; intro _ _ _; simp at h0; simp [h0])⟩⟩
  · refine ⟨rfl, hgw, .inl ⟨_, rfl, .inr ⟨slAt (allToks s.data.toList) i, i + 4, ?_, h1⟩⟩⟩
    unfold slR
    rw [if_pos (by simp only [slOk, F1.out, F2.out, F3.out, h0]; rfl)]
  have hok : Hid (slOk (allToks s.data.toList) i = true) := by unfold Hid; simp only [slOk, F1.out, F2.out, F3.out, h0]; rfl
  have S4 := S3.call h1 hg
  obtain ⟨x1, x2, x3, x4⟩ := S4.cells
  clear hg hgw h0 h1 S3
  have hbb := S4.hb
  have S4' := hide (S4.set 2 (.int .i64 (tk (allToks s.data.toList) (i + 3)).N) (c' := #[.int .u8 (nameB (tk (allToks s.data.toList) i)).toNat, .int .i64 (tk (allToks s.data.toList) (i + 1)).N, .int .i64 (tk (allToks s.data.toList) (i + 3)).N]) rfl)
  clear S4
  go_wp2
  refine bodyPost_ret (v := slRaw (slAt (allToks s.data.toList) i)) (by simp [results, Tryz.results144, go_sem, x3, slRaw, slAt]) rfl ⟨?_, .inr ⟨hok.out, ?_, rfl⟩⟩
  · have Y : ∀ (wz : World) (o : Nat) (v : Value), w.grownBy wz (some b) → w.grownBy (wz.setCell ⟨w.heap.size, o, none⟩ v) (some b) := fun wz o v hz => grownBy_setNew hz (Nat.le_refl _) o v
    exact Y _ _ _ (Y _ _ _ (Y _ _ _ S4'.out.g))
  · have Y : ∀ (wz : World) (o : Nat) (v : Value), RS er wz b s (i + 4) → RS er (wz.setCell ⟨w.heap.size, o, none⟩ v) b s (i + 4) := fun wz o v hz => hz.set (by omega) o v
    exact Y _ _ _ (Y _ _ _ (Y _ _ _ S4'.out.rs))
end
end Go.Proofs.YtbdffcjganlblaaGreatDoor

namespace Go.Proofs.YtbdffcjganlblaaGreatDoor
open Go.RowKit
set_option linter.unusedVariables false
set_option linter.unusedSimpArgs false

/-- A bit of the sum; a byte; all bytes. -/
def crc1 (x : Int) : Int := if bits .and .u32 x 1 == 1 then bits .xor .u32 (x / 2) 3988292384 else x / 2
def crcN : Nat → Int → Int
  | 0, x => x
  | n + 1, x => crc1 (crcN n x)
def crcB (a c : Int) : Int := crcN 8 (bits .xor .u32 a c)
def crcL (l : List UInt8) : Int := l.foldl (fun x c => crcB x (c.toNat : Int)) 4294967295

set_option maxRecDepth 100000 in
set_option maxHeartbeats 1000000 in
theorem addByte_any (a : Int) (c : Nat) (hc : c < 256) (w : World) :
    Calls Tryz.prog 108 #[.int .u32 a, .int .u8 c] w fun e w' => e = .returned (.int .u32 (crcB a c)) ∧ w' = w := by
  go_enter Tryz.func108, Tryz.ntmps108
  go_wp2_with fail
  go_loop [0, 10] (fun s i => ∃ (k : Nat), k ≤ 8 ∧ i = .int .i64 k ∧ s = .int .u32 (crcN k (bits .xor .u32 a c))) (fun _ i => 8 - (intOf i).toNat)
  case atStart => exact ⟨0, by omega, rfl, rfl⟩
  case round =>
    obtain ⟨k, hk, rfl, rfl⟩ := hrel
    by_cases hlt : k < 8
    · have hlt' : (k : Int) < 8 := by omega
      have hst : Hid (crcN (k + 1) (bits .xor .u32 a c) = crc1 (crcN k (bits .xor .u32 a c))) := rfl
      generalize crcN k (bits .xor .u32 a c) = x at *
      cases hb : (bits .and .u32 x 1 == 1)
      · have hc1 : Hid (crc1 x = x / 2) := by unfold Hid crc1; rw [hb]; rfl
        go_wp2
        go_round
        case rel => exact ⟨k + 1, by omega, by go_num, by rw [hst.out, hc1.out]⟩
        case measure => simp [intOf]; omega
      · have hc1 : Hid (crc1 x = bits .xor .u32 (x / 2) 3988292384) := by unfold Hid crc1; rw [hb]; rfl
        go_wp2
        go_round
        case rel => exact ⟨k + 1, by omega, by go_num, by rw [hst.out, hc1.out]⟩
        case measure => simp [intOf]; omega
    · have hlt' : ¬ (k : Int) < 8 := by omega
      have hke : k = 8 := by omega
      subst hke
      have hfin : Hid (crcN 8 (bits .xor .u32 a c) = crcB a c) := rfl
      generalize crcN 8 (bits .xor .u32 a c) = x at *
      go_wp2
      go_ret
      exact ⟨by rw [← hfin.out]; rfl, rfl⟩

def u8i (y : Int) : UInt8 := UInt8.ofNat (y % 256).toNat
theorem u8i_nat (y : Int) : ((u8i y).toNat : Int) = y % 256 := by
  have h1 := Int.emod_nonneg y (b := 256) (by decide)
  have h2 := Int.emod_lt_of_pos y (b := 256) (by decide)
  unfold u8i
  simp
  omega
/-- The sum's four bytes. -/
def sum4 (y : Int) : List UInt8 := [u8i y, u8i (y / 256), u8i (y / 65536), u8i (y / 16777216)]
def sumL (l : List UInt8) : List UInt8 := sum4 (bits .xor .u32 IntKind.u32.max (crcL l))
theorem bytesN (l : List UInt8) (W : World) (b c : Nat) (h : ∀ j, (hj : j < l.length) → W.cell? ⟨b, j, none⟩ = some (.int .u8 (l[j].toNat : Int))) : (convert 64 9 (.slice (some ⟨b, 0, none⟩) l.length c)).run Tryz.prog W = .ok (.string ⟨l.toArray⟩) W := by
  refine run_convert_bytes_back _ 64 9 5 ⟨b, 0, none⟩ c l Tryz.underlying64 Tryz.underlying5 Tryz.underlying9 ?_
  intro j hj
  have e : ((⟨b, 0, none⟩ : Addr).add j) = ⟨b, j, none⟩ := by simp [Addr.add]; intro h; exact h.symm
  rw [e]
  exact h j hj

set_option maxRecDepth 100000 in
set_option maxHeartbeats 1000000 in
theorem sumOf_any (s : ByteArray) (w : World) (hs : s.size ≤ 1000) :
    Calls Tryz.prog 68 #[.string s] w fun e w' => e = .returned (.string (bs (sumL s.data.toList))) ∧ Below w.heap.size w w' := by
  go_enter Tryz.func68, Tryz.ntmps68
  go_wp2_with fail
  go_loop [3, 7] (fun x i => ∃ (k : Nat), k ≤ s.size ∧ i = .int .i64 k ∧ x = .int .u32 (crcL (s.data.toList.take k))) (fun _ i => s.size - (intOf i).toNat)
  case atStart => exact ⟨0, by omega, rfl, rfl⟩
  case round =>
    obtain ⟨k, hk, rfl, rfl⟩ := hrel
    by_cases hlt : k < s.size
    · have hlt' : (k : Int) < s.size := by omega
      have hst : Hid (crcL (s.data.toList.take (k + 1)) = crcB (crcL (s.data.toList.take k)) (s[k].toNat : Int)) := by
        unfold Hid crcL
        have := take_more s 0 k (by omega) hlt
        simp only [List.drop_zero, Nat.sub_zero] at this
        rw [this, List.foldl_append]
        rfl
      generalize crcL (s.data.toList.take k) = x at *
      go_wp2_with fail
      refine (addByte_any x s[k].toNat (UInt8.toNat_lt _) _).mono ?_
      rintro e w' ⟨rfl, rfl⟩
      go_wp2
      go_round
      case rel => exact ⟨k + 1, by omega, by go_num, by rw [hst.out]⟩
      case measure => simp [intOf]; omega
    · have hlt' : ¬ (k : Int) < s.size := by omega
      have hke : s.data.toList.take k = s.data.toList := List.take_of_length_le (by simp; omega)
      rw [hke]
      have hfin : Hid (sumL s.data.toList = sum4 (bits .xor .u32 IntKind.u32.max (crcL s.data.toList))) := rfl
      generalize crcL s.data.toList = x at *
      have hcv : (convert 64 9 (.slice (some ⟨w.heap.size, 0, none⟩) 4 4)).run Tryz.prog (w.alloc (.cells #[.int .u8 (bits .xor .u32 IntKind.u32.max x % 256), .int .u8 (bits .xor .u32 IntKind.u32.max x / 256 % 256), .int .u8 (bits .xor .u32 IntKind.u32.max x / 65536 % 256), .int .u8 (bits .xor .u32 IntKind.u32.max x / 16777216 % 256)] 5)) = .ok (.string (bs (sum4 (bits .xor .u32 IntKind.u32.max x)))) (w.alloc (.cells #[.int .u8 (bits .xor .u32 IntKind.u32.max x % 256), .int .u8 (bits .xor .u32 IntKind.u32.max x / 256 % 256), .int .u8 (bits .xor .u32 IntKind.u32.max x / 65536 % 256), .int .u8 (bits .xor .u32 IntKind.u32.max x / 16777216 % 256)] 5)) := by
        refine bytesN (sum4 (bits .xor .u32 IntKind.u32.max x)) _ w.heap.size 4 ?_
        intro j hj
        rw [blk_cell (blk_new w _ _)]
        have hj4 : j < 4 := hj
        match j, hj4 with
        | 0, _ => simp [sum4, u8i_nat]
        | 1, _ => simp [sum4, u8i_nat]
        | 2, _ => simp [sum4, u8i_nat]
        | 3, _ => simp [sum4, u8i_nat]
      generalize sum4 (bits .xor .u32 IntKind.u32.max x) = Y at *
      go_wp2
      go_ret
      exact ⟨by rw [hfin.out]; rfl, below_new _ _⟩
end Go.Proofs.YtbdffcjganlblaaGreatDoor

namespace Go.Proofs.YtbdffcjganlblaaGreatDoor
set_option linter.unusedVariables false
set_option linter.unusedSimpArgs false

/-! ### The sum as a register of 32 bits -/
abbrev W32 := BitVec 32
def polyB : W32 := BitVec.ofNat 32 3988292384
def stepB (x : W32) : W32 := if x.getLsbD 0 then (x >>> 1) ^^^ polyB else x >>> 1
theorem stepB_xor (x y : W32) : stepB (x ^^^ y) = stepB x ^^^ stepB y := by
  unfold stepB
  rw [BitVec.getLsbD_xor]
  have e : (x ^^^ y) >>> 1 = (x >>> 1) ^^^ (y >>> 1) := by
    ext i hi
    simp
  cases hx : x.getLsbD 0 <;> cases hy : y.getLsbD 0
  · simp [e]
  · simp only [Bool.false_xor, if_true, e]
    simp [BitVec.xor_assoc]
  · simp only [Bool.true_xor, Bool.not_false, if_true, e]
    ext i hi
    simp
    cases x.getLsbD (1 + i) <;> cases y.getLsbD (1 + i) <;> cases polyB[i] <;> rfl
  · simp only [Bool.true_xor, Bool.not_true, e]
    ext i hi
    simp
    cases x.getLsbD (1 + i) <;> cases y.getLsbD (1 + i) <;> cases polyB[i] <;> rfl
theorem stepB_ker {x : W32} (h : stepB x = 0) : x = 0 := by
  unfold stepB at h
  cases h0 : x.getLsbD 0 with
  | true =>
    rw [h0] at h
    simp only [if_true] at h
    have := congrArg (fun z : W32 => z.getLsbD 31) h
    simp at this
    exact absurd this (by decide)
  | false =>
    rw [h0] at h
    simp only [Bool.false_eq_true, if_false] at h
    apply BitVec.eq_of_getLsbD_eq
    intro i hi
    cases i with
    | zero => simpa using h0
    | succ i =>
      have := congrArg (fun z : W32 => z.getLsbD i) h
      simp at this
      rw [show 1 + i = i + 1 by omega] at this
      simpa using this
/-- A bit that is not the last one is handed down. -/
theorem stepB_shl (x : W32) (h : x.getLsbD 31 = false) : stepB (x <<< 1) = x := by
  unfold stepB
  have h0 : (x <<< 1).getLsbD 0 = false := by simp
  rw [h0]
  simp only [Bool.false_eq_true, if_false]
  apply BitVec.eq_of_getLsbD_eq
  intro i hi
  simp only [BitVec.getLsbD_ushiftRight, BitVec.getLsbD_shiftLeft]
  by_cases h31 : i = 31
  · subst h31
    rw [show (1 + 31 : Nat) = 32 from rfl]
    simp only [Nat.lt_irrefl, decide_false, Bool.false_and]
    exact h.symm
  · have : 1 + i < 32 := by omega
    simp [this]
def stepsB : Nat → W32 → W32
  | 0, x => x
  | n + 1, x => stepB (stepsB n x)
theorem stepsB_add (m n : Nat) (x : W32) : stepsB (m + n) x = stepsB m (stepsB n x) := by
  induction m with
  | zero => rw [Nat.zero_add]; rfl
  | succ m ih => rw [show m + 1 + n = (m + n) + 1 by omega, stepsB, ih]; rfl
theorem stepsB_ker (n : Nat) {x : W32} (h : stepsB n x = 0) : x = 0 := by
  induction n with
  | zero => exact h
  | succ n ih => exact ih (stepB_ker h)
/-! ### Bit by bit -/
def bitW (b : Bool) : W32 := if b then 1 else 0
def feed1 (s : W32) (b : Bool) : W32 := stepB (s ^^^ bitW b)
def feedBits (s : W32) (l : List Bool) : W32 := l.foldl feed1 s
/-- The bits as a number, the first one the least. -/
def numB : List Bool → W32
  | [] => 0
  | b :: r => bitW b ^^^ (numB r <<< 1)
theorem numB_high : ∀ (l : List Bool) (i : Nat), l.length ≤ i → (numB l).getLsbD i = false
  | [], i, _ => by simp [numB]
  | b :: r, i, h => by
    simp only [List.length_cons] at h
    rw [numB, BitVec.getLsbD_xor, BitVec.getLsbD_shiftLeft]
    have h1 : (bitW b).getLsbD i = false := by
      unfold bitW
      cases b
      · simp
      · simp
        omega
    have h2 := numB_high r (i - 1) (by omega)
    rw [h1, h2]
    simp
theorem numB_at : ∀ (l : List Bool) (i : Nat) (hi : i < l.length), l.length ≤ 32 → (numB l).getLsbD i = l[i]
  | [], i, hi, _ => by simp at hi
  | b :: r, i, hi, h => by
    simp only [List.length_cons] at h hi
    rw [numB, BitVec.getLsbD_xor, BitVec.getLsbD_shiftLeft]
    cases i with
    | zero =>
      unfold bitW
      cases b <;> simp
    | succ i =>
      have ih := numB_at r i (by omega) (by omega)
      have h1 : (bitW b).getLsbD (i + 1) = false := by
        unfold bitW
        cases b <;> simp
      rw [h1]
      simp [ih]
      omega
theorem feed_num : ∀ (l : List Bool) (s : W32), l.length ≤ 32 → feedBits s l = stepsB l.length (s ^^^ numB l)
  | [], s, _ => by simp [feedBits, numB, stepsB]
  | b :: r, s, h => by
    simp only [List.length_cons] at h
    show feedBits (feed1 s b) r = _
    rw [feed_num r _ (by omega)]
    have e : feed1 s b ^^^ numB r = stepB (s ^^^ numB (b :: r)) := by
      unfold feed1
      rw [numB, ← BitVec.xor_assoc, stepB_xor (s ^^^ bitW b), stepB_shl _ (numB_high r 31 (by omega))]
    rw [e, List.length_cons, stepsB_add r.length 1]
    rfl
theorem feed_app (s : W32) (a b : List Bool) : feedBits s (a ++ b) = feedBits (feedBits s a) b := by
  simp [feedBits]
theorem feed_xor : ∀ (a b : List Bool) (s t : W32), a.length = b.length → feedBits (s ^^^ t) (List.zipWith xor a b) = feedBits s a ^^^ feedBits t b
  | [], [], s, t, _ => rfl
  | x :: a, y :: b, s, t, h => by
    simp only [List.length_cons, Nat.add_right_cancel_iff] at h
    show feedBits (feed1 (s ^^^ t) (x ^^ y)) (List.zipWith xor a b) = feedBits (feed1 s x) a ^^^ feedBits (feed1 t y) b
    rw [← feed_xor a b _ _ h]
    congr 1
    unfold feed1
    rw [← stepB_xor]
    congr 1
    have : bitW (x ^^ y) = bitW x ^^^ bitW y := by cases x <;> cases y <;> decide
    rw [this]
    ext i hi
    simp
    cases s[i] <;> cases t[i] <;> cases (bitW x)[i] <;> cases (bitW y)[i] <;> rfl
theorem feed_zeros : ∀ (l : List Bool), (∀ b ∈ l, b = false) → feedBits 0 l = 0
  | [], _ => rfl
  | b :: r, h => by
    have hb := h b (by simp)
    subst hb
    show feedBits (feed1 0 false) r = 0
    have : feed1 0 false = 0 := by decide
    rw [this]
    exact feed_zeros r (fun x hx => h x (by simp [hx]))
theorem feed_zeros_from : ∀ (l : List Bool) (s : W32), (∀ b ∈ l, b = false) → feedBits s l = stepsB l.length s
  | [], s, _ => rfl
  | b :: r, s, h => by
    have hb := h b (by simp)
    subst hb
    show feedBits (feed1 s false) r = _
    have e : feed1 s false = stepB s := by unfold feed1 bitW; simp
    rw [e, feed_zeros_from r _ (fun x hx => h x (by simp [hx])), List.length_cons, stepsB_add r.length 1]
    rfl
/-- A row of at most 32 bits that stands among zeros is nothing, if the register is as it was. -/
theorem burst_zero {z w y : List Bool} (hz : ∀ b ∈ z, b = false) (hw : w.length ≤ 32) (hy : ∀ b ∈ y, b = false) (h : feedBits 0 (z ++ w ++ y) = 0) : ∀ b ∈ w, b = false := by
  rw [feed_app, feed_app, feed_zeros z hz, feed_zeros_from y _ hy, feed_num w 0 hw] at h
  have h1 := stepsB_ker _ h
  have h2 := stepsB_ker _ h1
  simp at h2
  intro b hb
  obtain ⟨i, hi, rfl⟩ := List.getElem_of_mem hb
  rw [← numB_at w i hi hw, h2]
  simp
end Go.Proofs.YtbdffcjganlblaaGreatDoor

namespace Go.Proofs.YtbdffcjganlblaaGreatDoor
open Go.RowKit
set_option linter.unusedVariables false
set_option linter.unusedSimpArgs false

def slP (s : Sl) : List Value := [.int .u8 s.nm.toNat, .int .i64 s.job, .int .i64 s.bud]
def slPs (f : List Sl) : List Value := f.flatMap slP
theorem Tryz.infoPSl : (Tryz.prog.info? 106).map (fun i => (i.zero, i.size, i.bytes)) = some (some (.agg #[.int .u8 0, .int .i64 0, .int .i64 0]), 3, 24) := by kernel_rfl

/-- How far a frame has been read, a slice at the least. -/
def SlsP (T : List PT) (i0 i : Nat) (l : List Sl) : Prop := i0 + 5 * l.length ≤ i + 1 ∧ 1 ≤ l.length ∧
  pFrame T i0 = if (tk T i).k == 44 then (match pMore T (i + 1) with | none => none | some (r, k) => some (l ++ r, k)) else if (tk T i).k == 59 then some (l, i + 1) else none
theorem slsP_first {T : List PT} {i : Nat} (h : slOk T i = true) (hk : ((tk T i).k == 59) = false) : SlsP T i (i + 4) [slAt T i] := by
  refine ⟨by simp, by simp, ?_⟩
  unfold pFrame
  rw [hk, pMore_eq, h]
  simp only [Bool.false_eq_true, if_false, if_true]
  cases h4 : ((tk T (i + 4)).k == 44)
  · rfl
  · simp only [if_true]
    cases pMore T (i + 4 + 1) <;> rfl
theorem pFrame_first {T : List PT} {i : Nat} (h : Dead T (slR T i)) (hk : ((tk T i).k == 59) = false) : pFrame T i = none := by
  unfold pFrame
  rw [hk]
  simp only [Bool.false_eq_true, if_false]
  rcases h with h | ⟨a, j, h, hx⟩
  · unfold slR at h
    split at h
    · simp at h
    · rename_i hs
      exact pMore_no (by simpa using hs)
  · unfold slR at h
    split at h
    · rename_i hs
      simp at h
      obtain ⟨_, rfl⟩ := h
      exact pMore_cut hs (by omega) (by omega)
    · simp at h
theorem slsP_more {T : List PT} {i0 i : Nat} {l : List Sl} (h : SlsP T i0 i l) (hk : ((tk T i).k == 44) = true) (hs : slOk T (i + 1) = true) : SlsP T i0 (i + 1 + 4) (l ++ [slAt T (i + 1)]) := by
  obtain ⟨h1, h2, h3⟩ := h
  refine ⟨by simp; omega, by simp, ?_⟩
  rw [h3, hk, pMore_eq, hs]
  simp only [if_true]
  cases h4 : ((tk T (i + 1 + 4)).k == 44)
  · simp only [Bool.false_eq_true, if_false]
    cases h5 : ((tk T (i + 1 + 4)).k == 59) <;> simp
  · simp only [if_true]
    cases pMore T (i + 1 + 5) <;> simp
theorem slsP_dead {T : List PT} {i0 i : Nat} {l : List Sl} (h : SlsP T i0 i l) (hk : ((tk T i).k == 44) = true) (hs : Dead T (slR T (i + 1))) : pFrame T i0 = none := by
  obtain ⟨h1, h2, h3⟩ := h
  rw [h3, hk]
  simp only [if_true]
  have : pMore T (i + 1) = none := by
    rcases hs with h | ⟨a, j, h, hx⟩
    · unfold slR at h
      split at h
      · simp at h
      · rename_i hs
        exact pMore_no (by simpa using hs)
    · unfold slR at h
      split at h
      · rename_i hs
        simp at h
        obtain ⟨_, rfl⟩ := h
        exact pMore_cut hs (by omega) (by omega)
      · simp at h
  rw [this]
theorem slsP_x {T : List PT} {i0 i : Nat} {l : List Sl} (h : SlsP T i0 i l) (hk : ((tk T i).k == 44) = true) (hx : (tk T (i + 1)).k = 120) : pFrame T i0 = none := by
  refine slsP_dead h hk (.inl ?_)
  unfold slR
  rw [if_neg (by simp [slOk, isName, hx])]
theorem slsP_end {T : List PT} {i0 i : Nat} {l : List Sl} (h : SlsP T i0 i l) (hk : ((tk T i).k == 44) = false) : pFrame T i0 = if (tk T i).k == 59 then some (l, i + 1) else none := by
  rw [h.2.2, hk]; rfl

/-- The memory of takeFrame. -/
structure FW (er : Nat) (w wk : World) (b : Nat) (s : ByteArray) (i : Nat) (v : Value) (n : Nat) (xs : List Value) : Prop where
  rs : RS er wk b s i
  ow : wk.ownsRow w.heap.size 106 3 v n xs
  g : w.grownBy wk (some b)
  hb : b < w.heap.size
section
variable {w wk : World} {b : Nat} {s : ByteArray} {i : Nat} {er : Nat} {v : Value} {n : Nat} {xs : List Value}
theorem FW.call (h : FW er w wk b s i v n xs) {w' : World} {i' : Nat} (p : RS er w' b s i') (g : wk.grownBy w' (some b)) : FW er w w' b s i' v n xs :=
  ⟨p, h.ow.kept g (.inr (own_ge h.ow h.hb)), grownBy_trans h.g g, h.hb⟩
theorem FW.push (h : FW er w wk b s i v n xs) {o : Obj} {w2 : World} {v' : Value} {news : List Value} {m : Nat} (hg : (wk.alloc o).grownBy w2 v.ownBlock) (hown : w2.ownsRow w.heap.size 106 3 v' m news) : FW er w w2 b s i v' m news := by
  have hb := h.hb
  have hsz := h.g.size
  refine ⟨h.rs.keep ?_, hown, ?_, hb⟩
  · rw [hg.block b (by simp; omega) (fun e => own_ge h.ow hb e.symm), Below.heap_alloc _ _ _ (by omega)]
  · have ha := grownBy_alloc' h.g o
    refine ⟨hg.os.trans ha.os, hg.tape.trans ha.tape, hg.output.trans ha.output, Nat.le_trans ha.size hg.size, fun k hk hne => ?_⟩
    rw [hg.block k (by simp; omega) (fun e => own_ge h.ow hk e.symm)]
    exact ha.block k hk hne

def FrOut (er : Nat) (s : ByteArray) (b i : Nat) (w : World) (en : Ending) (w' : World) : Prop :=
  w.grownBy w' (some b) ∧ ((∃ p, en = pan er p ∧ Dead (allToks s.data.toList) (pFrame (allToks s.data.toList) i)) ∨
    (∃ l j v, pFrame (allToks s.data.toList) i = some (l, j) ∧ RS er w' b s j ∧ en = .returned v ∧ l.length ≤ 200 ∧ w'.ownsRow w.heap.size 106 3 v l.length (slPs l)))

set_option maxRecDepth 100000 in
set_option maxHeartbeats 4000000 in
theorem takeFrame_any (h : RS er w b s i) :
    Calls Tryz.prog 104 #[.pointer (some ⟨b, 0, none⟩)] w (FrOut er s b i w) := by
  obtain ⟨i0, hi0, hz0, hz1, hz2⟩ := info_parts Tryz.infoPSl
  have hlt := blk_lt h.h
  have hTl : (allToks s.data.toList).length ≤ 802 := by
    have h1 := toks_le (s.data.toList.length + 1) s.data.toList 0
    have h2 := h.hs
    have h3 : s.data.toList.length = s.size := by simp
    unfold allToks
    omega
  have hsemi := seesP_semi s.data.toList i
  unfold seesP at hsemi
  have Hsemi := hide hsemi
  have hcom := fun j => s_comma s.data.toList j
  unfold seesP at hcom
  have Hcom := hide hcom
  clear hsemi hcom
  go_enter Tryz.func104, Tryz.ntmps104
  go_wp2_with fail
  refine (sees_any h ⟨#[59]⟩).mono ?_
  rintro e w' ⟨rfl, hww⟩
  have hww := hww.symm
  subst hww
  rw [Hsemi.out]
  cases hk : ((tk (allToks s.data.toList) i).k == 59)
  · have Hk := hide hk
    clear hk
    go_wp2_with fail
    refine (takeSlice_any h).mono ?_
    rintro e w1 ⟨hg, hcase⟩
    rcases hcase with ⟨p, rfl, hd⟩ | ⟨hok, hrs, rfl⟩
    · exact ⟨rfl, hg, .inl ⟨p, rfl, .inl (pFrame_first hd Hk.out)⟩⟩
    have hS := hide (slsP_first hok Hk.out)
    have F0 : FW er w (w1.alloc (.cells #[.int .u8 (slAt (allToks s.data.toList) i).nm.toNat, .int .i64 (slAt (allToks s.data.toList) i).job, .int .i64 (slAt (allToks s.data.toList) i).bud] 106)) b s (i + 4) (.slice (some ⟨w1.heap.size, 0, none⟩) 1 1) 1 (slPs [slAt (allToks s.data.toList) i]) :=
      ⟨hrs.alloc _, World.ownsRow_lit (base := w.heap.size) (size := 3) w1 #[.int .u8 (slAt (allToks s.data.toList) i).nm.toNat, .int .i64 (slAt (allToks s.data.toList) i).job, .int .i64 (slAt (allToks s.data.toList) i).bud] 1 hg.size (by decide) rfl, grownBy_alloc' hg _, hlt⟩
    have H0 := hide F0
    clear F0 hg hok hrs h Hk
    unfold slRaw
    go_wp2_with fail
    go_loopw [3] (fun v wr => ∃ (j : Nat) (l : List Sl), FW er w wr b s j v l.length (slPs l) ∧ SlsP (allToks s.data.toList) i j l) (fun v _ => 300 - lenOf (some v))
    case atStart => exact ⟨i + 4, [_], H0.out, hS.out⟩
    case round =>
      clear H0 hS
      obtain ⟨j, l, hF, hP⟩ := hrel
      obtain ⟨va, vc, rfl⟩ := own_slice hF.ow
      have hj := hF.rs.hi
      have hl : l.length ≤ 161 := by have := hP.1; omega
      have HF := hide hF
      have HP := hide hP
      clear hP
      go_wp2_with fail
      refine (sees_any hF.rs ⟨#[44]⟩).mono ?_
      clear hF
      rintro e w' ⟨rfl, rfl⟩
      rw [Hcom.out]
      cases hk : ((tk (allToks s.data.toList) j).k == 44)
      · have Hk := hide hk
        clear hk
        go_wp2_with fail
        refine (takeText_any HF.out.rs ⟨#[59]⟩ (by rw [ByteArray.toList_eq]; decide)).mono ?_
        rintro e w2 ⟨hg, hcase⟩
        rw [seesP_semi] at hcase
        have hend := slsP_end HP.out Hk.out
        have hgw := grownBy_trans HF.out.g hg
        rcases hcase with ⟨h0, rfl⟩ | ⟨h0, h1, rfl⟩ | ⟨h0, h1, rfl⟩
        · exact ⟨rfl, hgw, .inl ⟨_, rfl, .inl (by rw [hend, h0]; rfl)⟩⟩
        · exact ⟨rfl, hgw, .inl ⟨_, rfl, .inr ⟨l, j + 1, by rw [hend, h0]; rfl, h1⟩⟩⟩
        · have H2 := hide (HF.out.call h1 hg)
          have hfin : Hid (pFrame (allToks s.data.toList) i = some (l, j + 1)) := by unfold Hid; rw [hend, h0]; rfl
          clear hg hend hgw h0 h1
          go_wp2
          go_ret
          exact ⟨H2.out.g, .inr ⟨l, j + 1, _, hfin.out, H2.out.rs, rfl, by omega, H2.out.ow⟩⟩
      · have Hk := hide hk
        have hfin : (tk (allToks s.data.toList) j).fin = false := by
          simp at hk
          unfold PT.fin
          rw [hk]; rfl
        clear hk
        go_wp2_with fail
        refine (take_any HF.out.rs hfin).mono ?_
        rintro e w2 ⟨hg, hcase⟩
        have hgw := grownBy_trans HF.out.g hg
        rcases hcase with ⟨h1, rfl⟩ | ⟨h1, rfl⟩
        · exact ⟨rfl, hgw, .inl ⟨_, rfl, .inl (slsP_x HP.out Hk.out h1)⟩⟩
        have H2 := hide (HF.out.call h1 hg)
        clear hg hgw h1 hfin
        go_wp2_with fail
        refine (takeSlice_any H2.out.rs).mono ?_
        rintro e w3 ⟨hg, hcase⟩
        have hgw := grownBy_trans H2.out.g hg
        rcases hcase with ⟨p, rfl, hd⟩ | ⟨hok, hrs, rfl⟩
        · exact ⟨rfl, hgw, .inl ⟨p, rfl, .inl (slsP_dead HP.out Hk.out hd)⟩⟩
        have H3 := hide (H2.out.call hrs hg)
        have hP3 := hide (slsP_more HP.out Hk.out hok)
        have hws := hgw.size
        clear hg hgw hrs hok H2
        have ow3 := H3.out.ow
        unfold slRaw
        go_wp2_with (at_builtin; refine wpList_append_own _ rfl _ _ 104 rfl w.heap.size 106 i0 _ 3 24 Tryz.underlying104 hi0 hz0 hz1 hz2 rfl (by decide) _ _ _ rfl (ow3.alloc _) ⟨w3.heap.size, 0, none⟩ 1 1 (slP (slAt (allToks s.data.toList) (j + 1))) rfl rfl ?c1 ?c2 ?c3 ?c4 ?c5 ?_)
        case c1 => exact cells_new w3 #[_, _, _] _ _ rfl
        case c2 => simp [slP, Value.oneCell']
        case c3 => unfold maxLen; omega
        case c4 => omega
        case c5 => simp; omega
        intro v' w4 hown4 hgr _
        have S4 := H3.out.push hgr hown4
        have hsl : slPs l ++ slP (slAt (allToks s.data.toList) (j + 1)) = slPs (l ++ [slAt (allToks s.data.toList) (j + 1)]) := by
          unfold slPs
          rw [List.flatMap_append]
          simp
        rw [hsl] at S4
        obtain ⟨va', vc', rfl⟩ := own_slice S4.ow
        have H4 := hide S4
        clear hown4 hgr ow3 H3 hsl S4
        go_wp2
        go_roundw
        case rel => exact ⟨j + 1 + 4, l ++ [slAt (allToks s.data.toList) (j + 1)], by simpa using H4.out, hP3.out⟩
        case measure => simp [lenOf]; omega
  · have Hk := hide hk
    have hfin : (tk (allToks s.data.toList) i).fin = false := by
      simp at hk
      unfold PT.fin
      rw [hk]; rfl
    have hpf : Hid (pFrame (allToks s.data.toList) i = some ([], i + 1)) := by unfold Hid pFrame; rw [hk]; rfl
    clear hk
    go_wp2_with fail
    refine (take_any h hfin).mono ?_
    rintro e w2 ⟨hg, hcase⟩
    rcases hcase with ⟨h1, rfl⟩ | ⟨h1, rfl⟩
    · exact ⟨rfl, hg, .inl ⟨_, rfl, .inr ⟨[], i + 1, hpf.out, h1⟩⟩⟩
    · have Hg := hide hg
      have H1 := hide h1
      clear hg h1 h
      go_wp2
      go_ret
      exact ⟨Hg.out, .inr ⟨[], i + 1, _, hpf.out, H1.out, rfl, by simp, World.ownsRow_nil _ _ _ _⟩⟩
end
end Go.Proofs.YtbdffcjganlblaaGreatDoor
