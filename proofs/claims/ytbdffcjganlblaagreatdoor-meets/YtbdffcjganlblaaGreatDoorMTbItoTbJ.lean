/-
  Own work. The program's tables: the sum.
-/
import Derived.Test.YtbdffcjganlblaaGreatDoorMPrCtoTbB
import Derived.Test.YtbdffcjganlblaaGreatDoorMTabBtoPlC
import Derived.Test.YtbdffcjganlblaaGreatDoorMTbFtoRnD
import Derived.Test.YtbdffcjganlblaaGreatDoorMRefWtoRefX
import Derived.Deep.RegionWith
namespace Go.Proofs.YtbdffcjganlblaaGreatDoor
open Go.RowKit
set_option linter.unusedVariables false
set_option linter.unusedSimpArgs false

/-- A bit of the sum; a byte; all bytes. -/
def crc1 (x : Int) : Int := if bits .and .u32 x 1 == 1 then bits .xor .u32 (x / 2) 3988292384 else x / 2
def crcN : Nat → Int → Int
  | 0, x => x
  | n + 1, x => crc1 (crcN n x)
def crcB (a c : Int) : Int := crcN 8 (bits .xor .u32 a c)
def crcL (l : List UInt8) : Int := l.foldl (fun x c => crcB x (c.toNat : Int)) 4294967295

set_option maxRecDepth 100000 in
set_option maxHeartbeats 1000000 in
theorem addByte_any (a : Int) (c : Nat) (hc : c < 256) (w : World) :
    Calls Tryz.prog 108 #[.int .u32 a, .int .u8 c] w fun e w' => e = .returned (.int .u32 (crcB a c)) ∧ w' = w := by
  go_enter Tryz.func108, Tryz.ntmps108
  go_wp2_with fail
  go_loop [0, 10] (fun s i => ∃ (k : Nat), k ≤ 8 ∧ i = .int .i64 k ∧ s = .int .u32 (crcN k (bits .xor .u32 a c))) (fun _ i => 8 - (intOf i).toNat)
  case atStart => exact ⟨0, by omega, rfl, rfl⟩
  case round =>
    obtain ⟨k, hk, rfl, rfl⟩ := hrel
    by_cases hlt : k < 8
    · have hlt' : (k : Int) < 8 := by omega
      have hst : Hid (crcN (k + 1) (bits .xor .u32 a c) = crc1 (crcN k (bits .xor .u32 a c))) := rfl
      generalize crcN k (bits .xor .u32 a c) = x at *
      cases hb : (bits .and .u32 x 1 == 1)
      · have hc1 : Hid (crc1 x = x / 2) := by unfold Hid crc1; rw [hb]; rfl
        go_wp2
        go_round
        case rel => exact ⟨k + 1, by omega, by go_num, by rw [hst.out, hc1.out]⟩
        case measure => simp [intOf]; omega
      · have hc1 : Hid (crc1 x = bits .xor .u32 (x / 2) 3988292384) := by unfold Hid crc1; rw [hb]; rfl
        go_wp2
        go_round
        case rel => exact ⟨k + 1, by omega, by go_num, by rw [hst.out, hc1.out]⟩
        case measure => simp [intOf]; omega
    · have hlt' : ¬ (k : Int) < 8 := by omega
      have hke : k = 8 := by omega
      subst hke
      have hfin : Hid (crcN 8 (bits .xor .u32 a c) = crcB a c) := rfl
      generalize crcN 8 (bits .xor .u32 a c) = x at *
      go_wp2
      go_ret
      exact ⟨by rw [← hfin.out]; rfl, rfl⟩

def u8i (y : Int) : UInt8 := UInt8.ofNat (y % 256).toNat
theorem u8i_nat (y : Int) : ((u8i y).toNat : Int) = y % 256 := by
  have h1 := Int.emod_nonneg y (b := 256) (by decide)
  have h2 := Int.emod_lt_of_pos y (b := 256) (by decide)
  unfold u8i
  simp
  omega
/-- The sum's four bytes. -/
def sum4 (y : Int) : List UInt8 := [u8i y, u8i (y / 256), u8i (y / 65536), u8i (y / 16777216)]
def sumL (l : List UInt8) : List UInt8 := sum4 (bits .xor .u32 IntKind.u32.max (crcL l))
theorem bytesN (l : List UInt8) (W : World) (b c : Nat) (h : ∀ j, (hj : j < l.length) → W.cell? ⟨b, j, none⟩ = some (.int .u8 (l[j].toNat : Int))) : (convert 64 9 (.slice (some ⟨b, 0, none⟩) l.length c)).run Tryz.prog W = .ok (.string ⟨l.toArray⟩) W := by
  refine run_convert_bytes_back _ 64 9 5 ⟨b, 0, none⟩ c l Tryz.underlying64 Tryz.underlying5 Tryz.underlying9 ?_
  intro j hj
  have e : ((⟨b, 0, none⟩ : Addr).add j) = ⟨b, j, none⟩ := by simp [Addr.add]; intro h; exact h.symm
  rw [e]
  exact h j hj

set_option maxRecDepth 100000 in
set_option maxHeartbeats 1000000 in
theorem sumOf_any (s : ByteArray) (w : World) (hs : s.size ≤ 1000) :
    Calls Tryz.prog 68 #[.string s] w fun e w' => e = .returned (.string (bs (sumL s.data.toList))) ∧ Below w.heap.size w w' := by
  go_enter Tryz.func68, Tryz.ntmps68
  go_wp2_with fail
  go_loop [3, 7] (fun x i => ∃ (k : Nat), k ≤ s.size ∧ i = .int .i64 k ∧ x = .int .u32 (crcL (s.data.toList.take k))) (fun _ i => s.size - (intOf i).toNat)
  case atStart => exact ⟨0, by omega, rfl, rfl⟩
  case round =>
    obtain ⟨k, hk, rfl, rfl⟩ := hrel
    by_cases hlt : k < s.size
    · have hlt' : (k : Int) < s.size := by omega
      have hst : Hid (crcL (s.data.toList.take (k + 1)) = crcB (crcL (s.data.toList.take k)) (s[k].toNat : Int)) := by
        unfold Hid crcL
        have := take_more s 0 k (by omega) hlt
        simp only [List.drop_zero, Nat.sub_zero] at this
        rw [this, List.foldl_append]
        rfl
      generalize crcL (s.data.toList.take k) = x at *
      go_wp2_with fail
      refine (addByte_any x s[k].toNat (UInt8.toNat_lt _) _).mono ?_
      rintro e w' ⟨rfl, rfl⟩
      go_wp2
      go_round
      case rel => exact ⟨k + 1, by omega, by go_num, by rw [hst.out]⟩
      case measure => simp [intOf]; omega
    · have hlt' : ¬ (k : Int) < s.size := by omega
      have hke : s.data.toList.take k = s.data.toList := List.take_of_length_le (by simp; omega)
      rw [hke]
      have hfin : Hid (sumL s.data.toList = sum4 (bits .xor .u32 IntKind.u32.max (crcL s.data.toList))) := rfl
      generalize crcL s.data.toList = x at *
      have hcv : (convert 64 9 (.slice (some ⟨w.heap.size, 0, none⟩) 4 4)).run Tryz.prog (w.alloc (.cells #[.int .u8 (bits .xor .u32 IntKind.u32.max x % 256), .int .u8 (bits .xor .u32 IntKind.u32.max x / 256 % 256), .int .u8 (bits .xor .u32 IntKind.u32.max x / 65536 % 256), .int .u8 (bits .xor .u32 IntKind.u32.max x / 16777216 % 256)] 5)) = .ok (.string (bs (sum4 (bits .xor .u32 IntKind.u32.max x)))) (w.alloc (.cells #[.int .u8 (bits .xor .u32 IntKind.u32.max x % 256), .int .u8 (bits .xor .u32 IntKind.u32.max x / 256 % 256), .int .u8 (bits .xor .u32 IntKind.u32.max x / 65536 % 256), .int .u8 (bits .xor .u32 IntKind.u32.max x / 16777216 % 256)] 5)) := by
        refine bytesN (sum4 (bits .xor .u32 IntKind.u32.max x)) _ w.heap.size 4 ?_
        intro j hj
        rw [blk_cell (blk_new w _ _)]
        have hj4 : j < 4 := hj
        match j, hj4 with
        | 0, _ => simp [sum4, u8i_nat]
        | 1, _ => simp [sum4, u8i_nat]
        | 2, _ => simp [sum4, u8i_nat]
        | 3, _ => simp [sum4, u8i_nat]
      generalize sum4 (bits .xor .u32 IntKind.u32.max x) = Y at *
      go_wp2
      go_ret
      exact ⟨by rw [hfin.out]; rfl, below_new _ _⟩
end Go.Proofs.YtbdffcjganlblaaGreatDoor

namespace Go.Proofs.YtbdffcjganlblaaGreatDoor
set_option linter.unusedVariables false
set_option linter.unusedSimpArgs false

/-! ### Tokens without their places -/
def key (t : PT) : Nat × List UInt8 := (t.k, t.tx)
def tokL (l : List UInt8) : Nat × List UInt8 :=
  match l with
  | [] => (101, [])
  | c :: r =>
    if signB (c.toNat : Int) then (c.toNat, [c])
    else if letterB (c.toNat : Int) then (119, (c :: r).take (lead letterB (c :: r)))
    else if 1 ≤ lead digitB (c :: r) ∧ lead digitB (c :: r) ≤ 4 then (110, (c :: r).take (lead digitB (c :: r)))
    else (120, [])
def nextL (l : List UInt8) : Nat × List UInt8 := tokL (l.drop (lead blankB l))
def finK (k : Nat) : Bool := k == 101 || k == 120
def lexL : Nat → List UInt8 → List (Nat × List UInt8)
  | 0, l => [nextL l]
  | f + 1, l => if finK (nextL l).1 then [nextL l] else nextL l :: lexL f (l.drop (lead blankB l + (nextL l).2.length))

theorem key_tok (l : List UInt8) (i : Nat) : key (tokAt l i) = tokL (l.drop i) := by
  unfold tokAt tokL key
  cases l.drop i with
  | nil => rfl
  | cons c r =>
    simp only
    split
    · rfl
    · split
      · rfl
      · split <;> rfl
theorem key_next (l : List UInt8) (i : Nat) : key (nextTok l i) = nextL (l.drop i) := by
  unfold nextTok nextL skipB
  rw [key_tok, List.drop_drop]
theorem toks_lex : ∀ (f : Nat) (l : List UInt8) (i : Nat), i ≤ l.length → (toks f l i).map key = lexL f (l.drop i)
  | 0, l, i, _ => by simp [toks, lexL, key_next]
  | f + 1, l, i, hi => by
    have hk := key_next l i
    have hf : (nextTok l i).fin = finK (nextL (l.drop i)).1 := by rw [← hk]; rfl
    rw [toks, lexL, hf]
    split
    · simp [hk]
    · have hb := nextTok_bound l i hi
      have hat : (nextTok l i).at_ = skipB l i := by
        unfold nextTok
        exact (tokAt_bound l (skipB l i) (skipB_le l i hi).2).1
      have hx : (nextTok l i).nx = i + (lead blankB (l.drop i) + (nextL (l.drop i)).2.length) := by
        unfold PT.nx
        rw [hat, ← hk]
        show skipB l i + (nextTok l i).tx.length = _
        unfold skipB key
        simp only
        omega
      rw [List.map_cons, hk, toks_lex f l (nextTok l i).nx hb.2.1, hx, List.drop_drop]

theorem lead_all (P : Int → Bool) : ∀ (x l : List UInt8), (∀ c ∈ x, P (c.toNat : Int) = true) → (∀ c r, l = c :: r → P (c.toNat : Int) = false) → lead P (x ++ l) = x.length
  | [], [], _, _ => rfl
  | [], c :: r, _, h => by simp [lead, h c r rfl]
  | d :: x, l, h, h2 => by
    simp only [List.cons_append, lead, h d (by simp), if_true, List.length_cons]
    rw [lead_all P x l (fun c hc => h c (by simp [hc])) h2]
theorem blank_no {P : Int → Bool} (c : UInt8) (h : blankB (c.toNat : Int) = false) (r : List UInt8) : lead blankB (c :: r) = 0 := by simp [lead, h]

theorem lex_blank (f : Nat) (c : UInt8) (l : List UInt8) (h : blankB (c.toNat : Int) = true) : lexL f (c :: l) = lexL f l := by
  have h1 : lead blankB (c :: l) = lead blankB l + 1 := by simp [lead, h]
  have h2 : nextL (c :: l) = nextL l := by unfold nextL; rw [h1]; rfl
  cases f with
  | zero => simp [lexL, h2]
  | succ f =>
    rw [lexL, lexL, h2, h1, show lead blankB l + 1 + (nextL l).2.length = lead blankB l + (nextL l).2.length + 1 by omega]
    rfl
theorem lex_sign (f : Nat) (c : UInt8) (l : List UInt8) (h : signB (c.toNat : Int) = true) : lexL (f + 1) (c :: l) = (c.toNat, [c]) :: lexL f l := by
  have hb : blankB (c.toNat : Int) = false := by
    simp only [signB, Bool.or_eq_true, beq_iff_eq] at h
    simp only [blankB, Bool.or_eq_false_iff, beq_eq_false_iff_ne, ne_eq]
    omega
  have h1 := blank_no (P := blankB) c hb l
  have h2 : nextL (c :: l) = (c.toNat, [c]) := by unfold nextL; rw [h1]; simp [tokL, h]
  have h3 : finK c.toNat = false := by
    simp only [signB, Bool.or_eq_true, beq_iff_eq] at h
    simp only [finK, Bool.or_eq_false_iff, beq_eq_false_iff_ne, ne_eq]
    omega
  rw [lexL, h2, h1]
  simp [h3]
theorem lex_word (f : Nat) (c : UInt8) (x l : List UInt8) (h : ∀ d ∈ c :: x, letterB (d.toNat : Int) = true) (hl : ∀ d r, l = d :: r → letterB (d.toNat : Int) = false) : lexL (f + 1) (c :: x ++ l) = (119, c :: x) :: lexL f l := by
  have hc := h c (by simp)
  have hb : blankB (c.toNat : Int) = false := by
    simp only [letterB, Bool.and_eq_true, decide_eq_true_eq] at hc
    simp only [blankB, Bool.or_eq_false_iff, beq_eq_false_iff_ne, ne_eq]
    omega
  have hs : signB (c.toNat : Int) = false := by
    simp only [letterB, Bool.and_eq_true, decide_eq_true_eq] at hc
    simp only [signB, Bool.or_eq_false_iff, beq_eq_false_iff_ne, ne_eq]
    omega
  have h1 : lead blankB (c :: x ++ l) = 0 := blank_no (P := blankB) c hb (x ++ l)
  have hlead := lead_all letterB (c :: x) l h hl
  have h2 : nextL (c :: x ++ l) = (119, c :: x) := by
    unfold nextL
    rw [h1, List.drop_zero]
    show tokL (c :: (x ++ l)) = _
    unfold tokL
    simp only [hs, hc, Bool.false_eq_true, if_false, if_true]
    rw [show c :: (x ++ l) = c :: x ++ l from rfl, hlead, List.take_left']
    rfl
  rw [lexL, h2, h1]
  simp [finK]
theorem lex_num (f : Nat) (c : UInt8) (x l : List UInt8) (h : ∀ d ∈ c :: x, digitB (d.toNat : Int) = true) (h4 : x.length < 4) (hl : ∀ d r, l = d :: r → digitB (d.toNat : Int) = false) : lexL (f + 1) (c :: x ++ l) = (110, c :: x) :: lexL f l := by
  have hc := h c (by simp)
  have hb : blankB (c.toNat : Int) = false := by
    simp only [digitB, Bool.and_eq_true, decide_eq_true_eq] at hc
    simp only [blankB, Bool.or_eq_false_iff, beq_eq_false_iff_ne, ne_eq]
    omega
  have hs : signB (c.toNat : Int) = false := by
    simp only [digitB, Bool.and_eq_true, decide_eq_true_eq] at hc
    simp only [signB, Bool.or_eq_false_iff, beq_eq_false_iff_ne, ne_eq]
    omega
  have hle : letterB (c.toNat : Int) = false := by
    simp only [digitB, Bool.and_eq_true, decide_eq_true_eq] at hc
    simp only [letterB, Bool.and_eq_false_iff, decide_eq_false_iff_not]
    omega
  have h1 : lead blankB (c :: x ++ l) = 0 := blank_no (P := blankB) c hb (x ++ l)
  have hlead := lead_all digitB (c :: x) l h hl
  have h2 : nextL (c :: x ++ l) = (110, c :: x) := by
    unfold nextL
    rw [h1, List.drop_zero]
    show tokL (c :: (x ++ l)) = _
    unfold tokL
    simp only [hs, hle, Bool.false_eq_true, if_false]
    rw [show c :: (x ++ l) = c :: x ++ l from rfl, hlead, if_pos (by simp; omega), List.take_left']
    rfl
  rw [lexL, h2, h1]
  simp [finK]
theorem lex_end (f : Nat) : lexL f [] = [(101, [])] := by
  cases f with
  | zero => rfl
  | succ f => simp [lexL, nextL, tokL, lead, finK]

/-! ### Numbers -/
set_option maxRecDepth 100000 in
theorem dL_facts : ∀ n < 100, (∀ d ∈ dL n, digitB (d.toNat : Int) = true) ∧ 1 ≤ (dL n).length ∧ dval (dL n) = n := by decide
theorem lex_dL (f n : Nat) (hn : n < 100) (l : List UInt8) (hl : ∀ d r, l = d :: r → digitB (d.toNat : Int) = false) : lexL (f + 1) (dL n ++ l) = (110, dL n) :: lexL f l := by
  obtain ⟨h1, h2, _⟩ := dL_facts n hn
  have h3 := dL_len n
  cases hd : dL n with
  | nil => rw [hd] at h2; simp at h2
  | cons c x =>
    rw [hd] at h1 h3
    exact lex_num f c x l h1 (by simp at h3; omega) hl
theorem dL_head (n : Nat) (hn : n < 100) (l : List UInt8) : ∀ d r, dL n ++ l = d :: r → letterB (d.toNat : Int) = false := by
  obtain ⟨h1, h2, _⟩ := dL_facts n hn
  intro d r h
  cases hd : dL n with
  | nil => rw [hd] at h2; simp at h2
  | cons c x =>
    rw [hd] at h
    simp at h
    have hc := h1 c (by rw [hd]; simp)
    rw [h.1] at hc
    simp only [digitB, Bool.and_eq_true, decide_eq_true_eq] at hc
    simp only [letterB, Bool.and_eq_false_iff, decide_eq_false_iff_not]
    omega

/-! ### A table's text -/
def slK (s : Sl) : List (Nat × List UInt8) := [(119, [s.nm]), (110, dL s.job), (58, [58]), (110, dL s.bud)]
def frK : List Sl → List (Nat × List UInt8)
  | [] => []
  | [s] => slK s
  | s :: r => slK s ++ [(44, [44])] ++ frK r
def tbK (t : Tb) : List (Nat × List UInt8) := [(119, wCycle.data.toList), (110, dL t.cyc), (119, wFrame.data.toList), (110, dL t.fr), (59, [59])] ++ t.fs.flatMap (fun f => frK f ++ [(59, [59])]) ++ [(101, [])]

def Sl.fine (s : Sl) : Prop := letterB (s.nm.toNat : Int) = true ∧ s.job < 100 ∧ s.bud < 100

theorem lex_sl (f : Nat) (s : Sl) (hs : s.fine) (l : List UInt8) (hl : ∀ d r, l = d :: r → digitB (d.toNat : Int) = false) : lexL (f + 4) (slTxt s ++ l) = slK s ++ lexL f l := by
  obtain ⟨h1, h2, h3⟩ := hs
  have e : slTxt s ++ l = [s.nm] ++ (dL s.job ++ (58 :: (dL s.bud ++ l))) := by simp [slTxt]
  rw [e]
  have a := lex_word (f + 3) s.nm [] (dL s.job ++ (58 :: (dL s.bud ++ l))) (by simpa using h1) (dL_head s.job h2 _)
  have b := lex_dL (f + 2) s.job h2 (58 :: (dL s.bud ++ l)) (by intro d r h; simp at h; rw [← h.1]; decide)
  have c := lex_sign (f + 1) 58 (dL s.bud ++ l) (by decide)
  have d := lex_dL f s.bud h3 l hl
  rw [a, b, c, d]
  rfl
theorem lex_fr : ∀ (f : Nat) (x : List Sl) (hx : ∀ s ∈ x, s.fine) (l : List UInt8) (hl : ∀ d r, l = d :: r → digitB (d.toNat : Int) = false), lexL (f + (frK x).length) (frTxt x ++ l) = frK x ++ lexL f l
  | f, [], _, l, hl => by simp [frK, frTxt]
  | f, [s], hx, l, hl => lex_sl f s (hx s (by simp)) l hl
  | f, s :: y :: r, hx, l, hl => by
    have ih := lex_fr f (y :: r) (fun z hz => hx z (by simp [hz])) l hl
    have e1 : frK (s :: y :: r) = slK s ++ [(44, [44])] ++ frK (y :: r) := rfl
    have e2 : frTxt (s :: y :: r) ++ l = slTxt s ++ (44 :: (frTxt (y :: r) ++ l)) := by simp [frTxt]
    have e3 : f + (frK (s :: y :: r)).length = (f + (frK (y :: r)).length + 1) + 4 := by rw [e1]; simp [slK]; omega
    rw [e2, e3, lex_sl _ s (hx s (by simp)) _ (by intro d r h; simp at h; rw [← h.1]; decide), lex_sign _ 44 _ (by decide), ih, e1]
    simp
theorem lex_frames : ∀ (f : Nat) (fs : List (List Sl)) (hx : ∀ x ∈ fs, ∀ s ∈ x, s.fine), lexL (f + (fs.flatMap (fun f => frK f ++ [(59, [59])])).length) (fs.flatMap (fun f => frTxt f ++ [59, 10])) = fs.flatMap (fun f => frK f ++ [(59, [59])]) ++ [(101, [])]
  | f, [], _ => by simp [lex_end]
  | f, x :: r, hx => by
    have ih := lex_frames f r (fun z hz => hx z (by simp [hz]))
    simp only [List.flatMap_cons]
    have e : f + (frK x ++ [(59, [59])] ++ r.flatMap (fun f => frK f ++ [(59, [59])])).length = (f + (r.flatMap (fun f => frK f ++ [(59, [59])])).length + 1) + (frK x).length := by simp; omega
    have e2 : frTxt x ++ [59, 10] ++ r.flatMap (fun f => frTxt f ++ [59, 10]) = frTxt x ++ (59 :: 10 :: r.flatMap (fun f => frTxt f ++ [59, 10])) := by simp
    rw [e, e2, lex_fr _ x (hx x (by simp)) _ (by intro d r h; simp at h; rw [← h.1]; decide), lex_sign _ 59 _ (by decide), lex_blank _ 10 _ (by decide), ih]
    simp
theorem lex_tb (f : Nat) (t : Tb) (hc : t.cyc < 100) (hf : t.fr < 100) (hx : ∀ x ∈ t.fs, ∀ s ∈ x, s.fine) : lexL (f + 5 + (t.fs.flatMap (fun f => frK f ++ [(59, [59])])).length) (tbTxt t) = tbK t := by
  have e : tbTxt t = (99 :: [121, 99, 108, 101]) ++ (32 :: (dL t.cyc ++ (32 :: ((102 :: [114, 97, 109, 101]) ++ (32 :: (dL t.fr ++ (59 :: 10 :: t.fs.flatMap (fun f => frTxt f ++ [59, 10])))))))) := by
    simp [tbTxt, hdTxt]
  have e1 : f + 5 + (t.fs.flatMap (fun f => frK f ++ [(59, [59])])).length = (f + (t.fs.flatMap (fun f => frK f ++ [(59, [59])])).length) + 4 + 1 := by omega
  rw [e, e1, lex_word _ 99 _ _ (by decide) (by intro d r h; simp at h; rw [← h.1]; decide), lex_blank _ 32 _ (by decide),
    lex_dL _ _ hc _ (by intro d r h; simp at h; rw [← h.1]; decide), lex_blank _ 32 _ (by decide),
    lex_word _ 102 _ _ (by decide) (by intro d r h; simp at h; rw [← h.1]; decide), lex_blank _ 32 _ (by decide),
    lex_dL _ _ hf _ (by intro d r h; simp at h; rw [← h.1]; decide), lex_sign _ 59 _ (by decide), lex_blank _ 10 _ (by decide), lex_frames f t.fs hx]
  rfl

theorem frK_len : ∀ (f : List Sl), (∀ s ∈ f, s.fine) → (frK f).length ≤ (frTxt f).length
  | [], _ => by simp [frK, frTxt]
  | [s], h => by
    have h1 := (dL_facts s.job (h s (by simp)).2.1).2.1
    have h2 := (dL_facts s.bud (h s (by simp)).2.2).2.1
    simp [frK, frTxt, slK, slTxt]
    omega
  | s :: y :: r, h => by
    have ih := frK_len (y :: r) (fun z hz => h z (by simp [hz]))
    have h1 := (dL_facts s.job (h s (by simp)).2.1).2.1
    have h2 := (dL_facts s.bud (h s (by simp)).2.2).2.1
    simp [frK, frTxt, slK, slTxt] at ih ⊢
    omega
theorem framesK_len : ∀ (fs : List (List Sl)), (∀ f ∈ fs, ∀ s ∈ f, s.fine) → (fs.flatMap (fun f => frK f ++ [(59, [59])])).length ≤ (fs.flatMap (fun f => frTxt f ++ [59, 10])).length
  | [], _ => by simp
  | f :: r, h => by
    have h1 := frK_len f (h f (by simp))
    have h2 := framesK_len r (fun g hg => h g (by simp [hg]))
    simp only [List.flatMap_cons, List.length_append, List.length_cons, List.length_nil] at h2 ⊢
    omega
theorem toks_tb (t : Tb) (hc : t.cyc < 100) (hf : t.fr < 100) (hx : ∀ x ∈ t.fs, ∀ s ∈ x, s.fine) : (allToks (tbTxt t)).map key = tbK t := by
  unfold allToks
  rw [toks_lex _ _ _ (by omega), List.drop_zero]
  have h1 := framesK_len t.fs hx
  have h2 : 5 ≤ (hdTxt t.cyc t.fr).length := by simp [hdTxt]
  have h3 : (tbTxt t).length = (hdTxt t.cyc t.fr).length + (t.fs.flatMap (fun f => frTxt f ++ [59, 10])).length := by simp [tbTxt]
  obtain ⟨f, hfu⟩ : ∃ f, (tbTxt t).length + 1 = f + 5 + (t.fs.flatMap (fun f => frK f ++ [(59, [59])])).length := ⟨(tbTxt t).length + 1 - 5 - (t.fs.flatMap (fun f => frK f ++ [(59, [59])])).length, by omega⟩
  rw [hfu]
  exact lex_tb f t hc hf hx

/-! ### The tokens of a table's text say the table -/
theorem tk_key {T : List PT} {K : List (Nat × List UInt8)} (h : T.map key = K) (i : Nat) {k : Nat} {x : List UInt8} (hk : K[i]? = some (k, x)) : (tk T i).k = k ∧ (tk T i).tx = x := by
  subst h
  rw [List.getElem?_map] at hk
  unfold tk
  rw [List.getD_eq_getElem?_getD]
  cases hq : T[i]? with
  | none => rw [hq] at hk; simp at hk
  | some t =>
    rw [hq] at hk
    simp [key] at hk
    exact hk
theorem drop_at {α : Type} {K : List α} {i : Nat} {L : List α} (h : K.drop i = L) (m : Nat) : K[i + m]? = L[m]? := by
  rw [← h, List.getElem?_drop]
theorem num_key {T : List PT} {i n : Nat} (h : (tk T i).k = 110 ∧ (tk T i).tx = dL n) (hn : n < 100) : (tk T i).N = n := by
  unfold PT.N
  rw [h.1, h.2]
  exact (dL_facts n hn).2.2
theorem name_key {T : List PT} {i : Nat} {c : UInt8} (h : (tk T i).k = 119 ∧ (tk T i).tx = [c]) : isName (tk T i) = true ∧ nameB (tk T i) = c := by
  have hS : (tk T i).S = [c] := by unfold PT.S; rw [h.1, h.2]; rfl
  unfold isName nameB
  rw [hS, h.1]
  exact ⟨rfl, rfl⟩
theorem sl_key {T : List PT} {i : Nat} {s : Sl} {L : List (Nat × List UInt8)} (hs : s.fine) (h : (T.map key).drop i = slK s ++ L) : slOk T i = true ∧ slAt T i = s ∧ (T.map key).drop (i + 4) = L := by
  have d := fun m => drop_at h m
  have k0 := tk_key rfl (i + 0) ((d 0).trans rfl)
  have k1 := tk_key rfl (i + 1) ((d 1).trans rfl)
  have k2 := tk_key rfl (i + 2) ((d 2).trans rfl)
  have k3 := tk_key rfl (i + 3) ((d 3).trans rfl)
  have n0 := name_key k0
  refine ⟨?_, ?_, ?_⟩
  · unfold slOk
    rw [show tk T i = tk T (i + 0) from rfl, n0.1, k1.1, k2.1, k3.1]
    rfl
  · unfold slAt
    rw [show tk T i = tk T (i + 0) from rfl, n0.2, num_key k1 hs.2.1, num_key k3 hs.2.2]
  · rw [← List.drop_drop, h]
    rfl
theorem more_key : ∀ (f : List Sl) (T : List PT) (i : Nat) (L : List (Nat × List UInt8)), f ≠ [] → (∀ s ∈ f, s.fine) → (T.map key).drop i = frK f ++ (59, [59]) :: L → ∃ j, pMore T i = some (f, j) ∧ (T.map key).drop j = L
  | [], _, _, _, h, _, _ => absurd rfl h
  | [s], T, i, L, _, hf, h => by
    obtain ⟨h1, h2, h3⟩ := sl_key (hf s (by simp)) h
    have k := tk_key rfl (i + 4 + 0) ((drop_at h3 0).trans rfl)
    refine ⟨i + 5, ?_, ?_⟩
    · rw [pMore_last h1 k.1, h2]
    · rw [show i + 5 = i + 4 + 1 by omega, ← List.drop_drop, h3]; rfl
  | s :: y :: r, T, i, L, _, hf, h => by
    have h' : (T.map key).drop i = slK s ++ ((44, [44]) :: (frK (y :: r) ++ (59, [59]) :: L)) := by rw [h]; simp [frK]
    obtain ⟨h1, h2, h3⟩ := sl_key (hf s (by simp)) h'
    have k := tk_key rfl (i + 4 + 0) ((drop_at h3 0).trans rfl)
    have h4 : (T.map key).drop (i + 5) = frK (y :: r) ++ (59, [59]) :: L := by
      rw [show i + 5 = i + 4 + 1 by omega, ← List.drop_drop, h3]; rfl
    obtain ⟨j, h5, h6⟩ := more_key (y :: r) T (i + 5) L (by simp) (fun z hz => hf z (by simp [hz])) h4
    refine ⟨j, ?_, h6⟩
    rw [pMore_on h1 k.1, h5, h2]
theorem frame_key (f : List Sl) (T : List PT) (i : Nat) (L : List (Nat × List UInt8)) (hf : ∀ s ∈ f, s.fine) (h : (T.map key).drop i = frK f ++ (59, [59]) :: L) : ∃ j, pFrame T i = some (f, j) ∧ (T.map key).drop j = L := by
  unfold pFrame
  cases f with
  | nil =>
    have k := tk_key rfl (i + 0) ((drop_at h 0).trans rfl)
    refine ⟨i + 1, ?_, ?_⟩
    · rw [show tk T i = tk T (i + 0) from rfl, k.1]; rfl
    · rw [← List.drop_drop, h]; rfl
  | cons s r =>
    have h0 : ∃ L', (T.map key).drop i = (119, [s.nm]) :: L' := by
      rw [h]
      cases r with
      | nil => exact ⟨_, rfl⟩
      | cons y r => exact ⟨_, rfl⟩
    obtain ⟨L', h0⟩ := h0
    have k := tk_key rfl (i + 0) ((drop_at h0 0).trans rfl)
    rw [show tk T i = tk T (i + 0) from rfl, k.1]
    exact more_key (s :: r) T i L (by simp) hf h
theorem frames_key : ∀ (fs : List (List Sl)) (T : List PT) (i : Nat), (∀ f ∈ fs, ∀ s ∈ f, s.fine) → (T.map key).drop i = fs.flatMap (fun f => frK f ++ [(59, [59])]) ++ [(101, [])] → pFrames T i = some fs
  | [], T, i, _, h => by
    have hd := drop_at h 0
    have k := tk_key rfl (i + 0) (hd.trans rfl)
    refine pFrames_end ?_ k.1
    have := congrArg List.length h
    simp at this
    omega
  | f :: r, T, i, hf, h => by
    have h' : (T.map key).drop i = frK f ++ (59, [59]) :: (r.flatMap (fun f => frK f ++ [(59, [59])]) ++ [(101, [])]) := by rw [h]; simp
    obtain ⟨j, h1, h2⟩ := frame_key f T i _ (hf f (by simp)) h'
    rw [pFrames_on h1, frames_key r T j (fun g hg => hf g (by simp [hg])) h2]
theorem sees_key {T : List PT} {i : Nat} {wd : ByteArray} (h : (tk T i).k = 119 ∧ (tk T i).tx = wd.data.toList) : sees (tk T i) wd = true := by
  have hS : (tk T i).S = wd.data.toList := by unfold PT.S; rw [h.1, h.2]; rfl
  unfold sees
  rw [hS, h.1, bs_list]
  simp

/-- A table's own text is read as that table. -/
theorem pTab_txt (t : Tb) (hc : t.cyc < 100) (hf : t.fr < 100) (hx : ∀ x ∈ t.fs, ∀ s ∈ x, s.fine) : pTab (allToks (tbTxt t)) = some t := by
  have h := toks_tb t hc hf hx
  generalize allToks (tbTxt t) = T at h
  have d := fun m => drop_at (K := T.map key) (i := 0) (L := tbK t) (by rw [List.drop_zero, h]) m
  have k0 := tk_key rfl (0 + 0) ((d 0).trans rfl)
  have k1 := tk_key rfl (0 + 1) ((d 1).trans rfl)
  have k2 := tk_key rfl (0 + 2) ((d 2).trans rfl)
  have k3 := tk_key rfl (0 + 3) ((d 3).trans rfl)
  have k4 := tk_key rfl (0 + 4) ((d 4).trans rfl)
  simp only [Nat.zero_add] at k0 k1 k2 k3 k4
  have hh : hdOk T = true := by
    unfold hdOk
    rw [sees_key k0, sees_key k2, k1.1, k3.1, k4.1]; rfl
  have hfr := frames_key t.fs T 5 hx (by rw [h]; simp [tbK])
  unfold pTab
  rw [if_pos hh, hfr, num_key k1 hc, num_key k3 hf]
end Go.Proofs.YtbdffcjganlblaaGreatDoor

namespace Go.Proofs.YtbdffcjganlblaaGreatDoor
set_option linter.unusedVariables false
set_option linter.unusedSimpArgs false

def u8 (n : Nat) : UInt8 := UInt8.ofNat n
def slB (s : Sl) : List UInt8 := [s.nm, u8 s.job, u8 s.bud]
def frB (f : List Sl) : List UInt8 := u8 f.length :: f.flatMap slB
def bodyB (t : Tb) : List UInt8 := u8 t.cyc :: u8 t.fr :: t.fs.flatMap frB

theorem u8_nat {n : Nat} (h : n < 256) : (u8 n).toNat = n := by simp [u8]; omega
theorem u8_of (c : UInt8) : u8 c.toNat = c := by simp [u8]

/-- n slices out of bytes; the bytes behind them. -/
def bSl : Nat → List UInt8 → Option (List Sl × List UInt8)
  | 0, l => some ([], l)
  | n + 1, a :: b :: c :: r => match bSl n r with
    | none => none
    | some (f, r') => some (⟨a, b.toNat, c.toNat⟩ :: f, r')
  | _ + 1, _ => none
theorem bSl_inv : ∀ (n : Nat) (l : List UInt8) (f : List Sl) (r : List UInt8), bSl n l = some (f, r) → l = f.flatMap slB ++ r ∧ f.length = n ∧ ∀ s ∈ f, s.job < 256 ∧ s.bud < 256
  | 0, l, f, r, h => by
    simp [bSl] at h
    obtain ⟨rfl, rfl⟩ := h
    simp
  | n + 1, [], f, r, h => by simp [bSl] at h
  | n + 1, [a], f, r, h => by simp [bSl] at h
  | n + 1, [a, b], f, r, h => by simp [bSl] at h
  | n + 1, a :: b :: c :: t, f, r, h => by
    rw [bSl] at h
    cases h1 : bSl n t with
    | none => rw [h1] at h; simp at h
    | some x =>
      obtain ⟨g, r'⟩ := x
      rw [h1] at h
      simp at h
      obtain ⟨rfl, rfl⟩ := h
      obtain ⟨h2, h3, h4⟩ := bSl_inv n t g r' h1
      refine ⟨?_, by simp [h3], ?_⟩
      · simp [slB, u8_of, h2]
      · intro s hs
        rcases List.mem_cons.1 hs with rfl | hs
        · exact ⟨b.toNat_lt, c.toNat_lt⟩
        · exact h4 s hs
theorem bSl_pack : ∀ (f : List Sl) (r : List UInt8), (∀ s ∈ f, s.job < 256 ∧ s.bud < 256) → bSl f.length (f.flatMap slB ++ r) = some (f, r)
  | [], r, _ => by simp [bSl]
  | s :: f, r, h => by
    have ih := bSl_pack f r (fun z hz => h z (by simp [hz]))
    have hs := h s (by simp)
    simp only [List.length_cons, List.flatMap_cons, slB, List.cons_append, List.nil_append, bSl, ih]
    rw [u8_nat hs.1, u8_nat hs.2]
theorem bSl_len {n : Nat} {l : List UInt8} {f : List Sl} {r : List UInt8} (h : bSl n l = some (f, r)) : r.length ≤ l.length := by
  rw [(bSl_inv n l f r h).1]; simp

/-- Frames out of bytes, up to their end. -/
def bFr : List UInt8 → Option (List (List Sl))
  | [] => some []
  | c :: r => match bSl c.toNat r with
    | none => none
    | some (f, r') => if h : r'.length ≤ r.length then (match bFr r' with | none => none | some fs => some (f :: fs)) else none
termination_by l => l.length
decreasing_by simp; omega

theorem bFr_nil : bFr [] = some [] := by rw [bFr]
theorem bFr_no {c : UInt8} {r : List UInt8} (h : bSl c.toNat r = none) : bFr (c :: r) = none := by rw [bFr, h]
theorem bFr_on {c : UInt8} {r : List UInt8} {f : List Sl} {r' : List UInt8} (h : bSl c.toNat r = some (f, r')) : bFr (c :: r) = (match bFr r' with | none => none | some fs => some (f :: fs)) := by
  rw [bFr, h]
  simp only
  rw [dif_pos (bSl_len h)]
theorem bFr_pack : ∀ (fs : List (List Sl)), (∀ f ∈ fs, f.length < 256 ∧ ∀ s ∈ f, s.job < 256 ∧ s.bud < 256) → bFr (fs.flatMap frB) = some fs
  | [], _ => by simp [bFr_nil]
  | f :: r, h => by
    have ih := bFr_pack r (fun g hg => h g (by simp [hg]))
    obtain ⟨h1, h2⟩ := h f (by simp)
    simp only [List.flatMap_cons, frB, List.cons_append]
    have := bSl_pack f (r.flatMap frB) h2
    rw [bFr_on (f := f) (r' := r.flatMap frB) (by rw [u8_nat h1]; exact this), ih]
theorem bFr_inv : ∀ (n : Nat) (l : List UInt8) (fs : List (List Sl)), l.length ≤ n → bFr l = some fs → fs.flatMap frB = l ∧ ∀ f ∈ fs, f.length < 256 ∧ ∀ s ∈ f, s.job < 256 ∧ s.bud < 256
  | n, [], fs, _, h => by
    rw [bFr_nil] at h
    simp at h
    subst h
    simp
  | 0, c :: r, fs, hn, h => by simp at hn
  | n + 1, c :: r, fs, hn, h => by
    cases h1 : bSl c.toNat r with
    | none => rw [bFr_no h1] at h; simp at h
    | some x =>
      obtain ⟨f, r'⟩ := x
      rw [bFr_on h1] at h
      cases h2 : bFr r' with
      | none => rw [h2] at h; simp at h
      | some gs =>
        rw [h2] at h
        simp at h
        subst h
        obtain ⟨h3, h4, h5⟩ := bSl_inv _ _ _ _ h1
        obtain ⟨h6, h7⟩ := bFr_inv n r' gs (by have := bSl_len h1; simp at hn; omega) h2
        refine ⟨?_, ?_⟩
        · simp only [List.flatMap_cons, frB, h4, h6, u8_of, List.cons_append]
          rw [← h3]
        · intro g hg
          rcases List.mem_cons.1 hg with rfl | hg
          · exact ⟨by rw [h4]; exact c.toNat_lt, h5⟩
          · exact h7 g hg

def bTab : List UInt8 → Option Tb
  | c :: f :: r => match bFr r with
    | none => none
    | some fs => some ⟨c.toNat, f.toNat, fs⟩
  | _ => none
theorem bTab_inv {l : List UInt8} {t : Tb} (h : bTab l = some t) : bodyB t = l := by
  match l, h with
  | c :: f :: r, h =>
    simp only [bTab] at h
    cases h1 : bFr r with
    | none => rw [h1] at h; simp at h
    | some fs =>
      rw [h1] at h
      simp at h
      subst h
      simp only [bodyB, u8_of, (bFr_inv _ r fs (Nat.le_refl _) h1).1]
theorem bTab_pack {t : Tb} (h : Sound t) : bTab (bodyB t) = some t := by
  obtain ⟨h1, h2, h3, h4, h5⟩ := h.frames
  have hc := h.c2
  have hs := h.small
  unfold bodyB bTab
  simp only
  rw [bFr_pack t.fs (fun f hf => ⟨by have := (hs f hf).1; omega, fun s hss => by have := (hs f hf).2 s hss; omega⟩), u8_nat (by omega), u8_nat (by omega)]
theorem frB_len : ∀ (fs : List (List Sl)), (fs.flatMap frB).length = fs.length + 3 * fs.flatten.length
  | [] => by simp
  | f :: r => by
    have ih := frB_len r
    have h1 : (f.flatMap slB).length = 3 * f.length := by
      induction f with
      | nil => rfl
      | cons s f ih => simp [slB] at ih ⊢; omega
    simp only [List.flatMap_cons, frB, List.cons_append, List.length_cons, List.length_append, h1, List.flatten_cons] at ih ⊢
    omega
theorem bodyB_len {t : Tb} (h : Sound t) : (bodyB t).length ≤ 242 := by
  obtain ⟨h1, h2, h3, h4, h5⟩ := h.frames
  have := frB_len t.fs
  simp only [bodyB, List.length_cons]
  omega
end Go.Proofs.YtbdffcjganlblaaGreatDoor

namespace Go.Proofs.YtbdffcjganlblaaGreatDoor
open Go.RowKit
set_option linter.unusedVariables false
set_option linter.unusedSimpArgs false

theorem Tryz.infoU8 : (Tryz.prog.info? 5).map (fun i => (i.zero, i.size, i.bytes)) = some (some (.int .u8 0), 1, 1) := by kernel_rfl
def bV (l : List UInt8) : List Value := l.map (fun c => Value.int .u8 (c.toNat : Int))
theorem bV_app (a b : List UInt8) : bV (a ++ b) = bV a ++ bV b := by simp [bV]
/-- The memory of pack. -/
structure PK (w wr : World) (tv : Array Value) (v : Value) (L : List UInt8) : Prop where
  hx : wr.heap[w.heap.size]? = some (.cells tv 61 (0, 0))
  ow : wr.ownsRow (w.heap.size + 1) 5 1 v L.length (bV L)
  bel : Below w.heap.size w wr
theorem PK.call {w wr : World} {tv : Array Value} {v : Value} {L : List UInt8} (h : PK w wr tv v L) {w' : World} (hb : Below wr.heap.size wr w') : PK w w' tv v L :=
  ⟨blk_keep h.hx hb, owns_below h.ow hb, h.bel.trans (hb.mono h.bel.size)⟩
theorem PK.push {w wr : World} {tv : Array Value} {v v' : Value} {L M : List UInt8} (h : PK w wr tv v L) {w2 : World} (hg : wr.grownBy w2 v.ownBlock) {n : Nat} {xs : List Value} (hown : w2.ownsRow (w.heap.size + 1) 5 1 v' n xs) (hn : n = (L ++ M).length) (hxs : xs = bV (L ++ M)) : PK w w2 tv v' (L ++ M) := by
  subst hn hxs
  refine ⟨by rw [hg.block _ (blk_lt h.hx) (fun e => own_ge h.ow (Nat.lt_succ_self _) e.symm)]; exact h.hx, hown, ?_⟩
  exact h.bel.grown hg h.bel.size (fun k hk => by
    have := (h.ow.lt k hk).1
    omega)

set_option maxRecDepth 100000 in
set_option maxHeartbeats 2000000 in
theorem pack_any (t : Tb) (a : Option Addr) (cc : Nat) (w : World) (hr : FvA w a t.fs) (hS : Sound t) :
    Calls Tryz.prog 33 #[.agg #[.int .i64 t.cyc, .int .i64 t.fr, .slice a t.fs.length cc]] w fun e w' => e = .returned (.string (bs (bodyB t ++ sumL (bodyB t)))) ∧ Below w.heap.size w w' := by
  obtain ⟨RR, hRR⟩ : ∃ RR, bs (bodyB t ++ sumL (bodyB t)) = RR := ⟨_, rfl⟩
  rw [hRR]
  have HRR := hide hRR
  clear hRR
  obtain ⟨i0, hi, hz0, hz1, hz2⟩ := info_parts Tryz.infoU8
  obtain ⟨hf1, hf2, hn1, hn2, hfl⟩ := hS.frames
  have hc2 := hS.c2
  have hblen := bodyB_len hS
  have Hsm := hide hS.small
  have Hr := hide hr
  clear hr hS
  have hx0 := blk_new w #[.int .i64 t.cyc, .int .i64 t.fr, .slice a t.fs.length cc] 61
  have H0 : Hid (PK w ((w.alloc (.cells #[.int .i64 t.cyc, .int .i64 t.fr, .slice a t.fs.length cc] 61)).alloc (.cells #[.int .u8 t.cyc, .int .u8 t.fr] 5)) #[.int .i64 t.cyc, .int .i64 t.fr, .slice a t.fs.length cc] (.slice (some ⟨w.heap.size + 1, 0, none⟩) 2 2) [u8 t.cyc, u8 t.fr]) := by
    refine ⟨by rw [Below.heap_alloc _ _ _ (by simp)]; exact blk_new _ _ _, ?_, (below_new w _).alloc (by simp) _⟩
    have := World.ownsRow_lit (base := w.heap.size + 1) (e := 5) (size := 1) (w.alloc (.cells #[.int .i64 t.cyc, .int .i64 t.fr, .slice a t.fs.length cc] 61)) #[.int .u8 t.cyc, .int .u8 t.fr] 2 (by simp) (by decide) rfl
    simp only [World.size_alloc] at this
    have e : bV [u8 t.cyc, u8 t.fr] = [.int .u8 t.cyc, .int .u8 t.fr] := by
      simp only [bV, List.map_cons, List.map_nil]
      rw [u8_nat (by omega), u8_nat (by omega)]
    show World.ownsRow _ _ _ _ _ 2 _
    rw [e]
    exact this
  clear hx0
  go_enter Tryz.func33, Tryz.ntmps33
  go_wp2_with fail
  go_loopw [3, 18] (fun v i wr => ∃ j : Nat, j ≤ t.fs.length ∧ i = .int .i64 j ∧ PK w wr #[.int .i64 t.cyc, .int .i64 t.fr, .slice a t.fs.length cc] v (u8 t.cyc :: u8 t.fr :: (t.fs.take j).flatMap frB) ∧ (u8 t.cyc :: u8 t.fr :: (t.fs.take j).flatMap frB).length ≤ 2 + 200 * j) (fun _ i _ => 200 - (intOf i).toNat)
  case atStart => exact ⟨0, by omega, rfl, by simpa using H0.out, by simp⟩
  case round =>
    clear H0
    obtain ⟨j, hj, rfl, hP, hlen⟩ := hrel
    by_cases hlt : j < t.fs.length
    · have hlt' : (j : Int) < t.fs.length := by omega
      obtain ⟨g, rfl, hg, hF⟩ := Hr.out (by omega)
      obtain ⟨fa, fc, hfc0, hfa⟩ := hF j hlt
      have hfc := (hP.bel.cell (p := ⟨g, j, none⟩) hg).trans hfc0
      have hm : frk t.fs j ∈ t.fs := by rw [← frk_eq hlt]; exact List.getElem_mem _
      obtain ⟨hfl1, hfl2⟩ := Hsm.out _ hm
      have hsmall : Hid (∀ q, q < (frk t.fs j).length → (slk (frk t.fs j) q).job < 60 ∧ (slk (frk t.fs j) q).bud ≤ 60) := by
        intro q hq
        have := hfl2 (slk (frk t.fs j) q) (by rw [← slk_eq hq]; exact List.getElem_mem _)
        omega
      have hft : Hid ((t.fs.take (j + 1)).flatMap frB = (t.fs.take j).flatMap frB ++ frB (frk t.fs j)) := by
        unfold Hid
        rw [List.take_succ_eq_append_getElem hlt, List.flatMap_append, frk_eq hlt]
        simp
      have hfbl : (frB (frk t.fs j)).length ≤ 181 := by
        have := frB_len [frk t.fs j]
        simp at this
        omega
      have HFA := hide hfa
      have HP := hide hP
      have ow := hP.ow
      have hsz := hP.bel.size
      have hhx := blk_lt hP.hx
      clear hfc0 hF hm hfl2 hP hfa
      generalize hL0 : u8 t.cyc :: u8 t.fr :: (t.fs.take j).flatMap frB = L at *
      have HL0 := hide hL0
      clear hL0
      go_wp2_with (at_builtin; refine wpList_append_own _ rfl _ _ 64 rfl (w.heap.size + 1) 5 i0 _ 1 1 Tryz.underlying64 hi hz0 hz1 hz2 rfl (by decide) _ _ _ rfl (ow.alloc _) ⟨wr.heap.size, 0, none⟩ 1 1 [.int .u8 (frk t.fs j).length] rfl rfl ?c1 ?c2 ?c3 ?c4 ?c5 ?_)
      case c1 => exact cells_new wr #[_] _ _ rfl
      case c2 => simp [Value.oneCell']
      case c3 => unfold maxLen; omega
      case c4 => omega
      case c5 => simp; omega
      intro v' w2 hown2 hgr _
      have hP2 := (HP.out.call (below_new wr (.cells #[.int .u8 (frk t.fs j).length] 5))).push (M := [u8 (frk t.fs j).length]) hgr hown2 (by simp) (by rw [bV_app]; congr 1; simp only [bV, List.map_cons, List.map_nil]; rw [u8_nat (by omega)])
      have H2 := hide hP2
      clear hown2 hgr hP2 ow HP hfc
      go_wp2_with fail
      go_loopw [3, 30] (fun v i wr => ∃ k : Nat, k ≤ (frk t.fs j).length ∧ i = .int .i64 k ∧ PK w wr #[.int .i64 t.cyc, .int .i64 t.fr, .slice (some ⟨g, 0, none⟩) t.fs.length cc] v ((L ++ [u8 (frk t.fs j).length]) ++ ((frk t.fs j).take k).flatMap slB) ∧ (((L ++ [u8 (frk t.fs j).length]) ++ ((frk t.fs j).take k).flatMap slB)).length ≤ L.length + 1 + 3 * k) (fun _ i _ => 200 - (intOf i).toNat)
      case atStart => exact ⟨0, by omega, rfl, by simpa using H2.out, by simp⟩
      case round =>
        clear H2
        obtain ⟨k, hk, rfl, hP, hlen2⟩ := hrel
        by_cases hkl : k < (frk t.fs j).length
        · have hkl' : (k : Int) < (frk t.fs j).length := by omega
          obtain ⟨gf, rfl, hgf, hrow⟩ := HFA.out (by omega)
          obtain ⟨r0, r1, r2⟩ := hrow.below hP.bel hgf k hkl
          obtain ⟨hjb, hbd⟩ := hsmall.out k hkl
          have hfs : Hid (((frk t.fs j).take (k + 1)).flatMap slB = ((frk t.fs j).take k).flatMap slB ++ slB (slk (frk t.fs j) k)) := by
            unfold Hid
            rw [List.take_succ_eq_append_getElem hkl, List.flatMap_append, slk_eq hkl]
            simp
          have HP := hide hP
          have ow := hP.ow
          have hsz := hP.bel.size
          have hnm := UInt8.toNat_lt (slk (frk t.fs j) k).nm
          clear hrow hP
          generalize hLL : (L ++ [u8 (frk t.fs j).length]) ++ ((frk t.fs j).take k).flatMap slB = LL at *
          have HLL := hide hLL
          clear hLL
          generalize slk (frk t.fs j) k = y at *
          go_wp2_with (at_builtin; refine wpList_append_own _ rfl _ _ 64 rfl (w.heap.size + 1) 5 i0 _ 1 1 Tryz.underlying64 hi hz0 hz1 hz2 rfl (by decide) _ _ _ rfl ((ow.alloc _).alloc _) ⟨wr.heap.size + 1, 0, none⟩ 3 3 [.int .u8 y.nm.toNat, .int .u8 y.job, .int .u8 y.bud] rfl rfl ?c1 ?c2 ?c3 ?c4 ?c5 ?_)
          case c1 => exact cells_new (wr.alloc _) #[_, _, _] _ _ (by simp)
          case c2 => simp [Value.oneCell']
          case c3 => unfold maxLen; omega
          case c4 => omega
          case c5 => simp; omega
          intro v' w3 hown3 hgr _
          have hP3 := ((HP.out.call (below_new wr _)).call (below_new _ _)).push (M := slB y) hgr hown3 (by simp [slB]) (by rw [bV_app]; congr 1; simp only [bV, slB, List.map_cons, List.map_nil]; rw [u8_nat (by omega), u8_nat (by omega)])
          have H3 := hide hP3
          clear hown3 hgr hP3 ow HP
          go_wp2
          go_roundw
          case rel =>
            refine ⟨k + 1, by omega, by go_num, ?_, ?_⟩
            · rw [hfs.out, ← List.append_assoc, HLL.out]; exact H3.out
            · rw [hfs.out, ← List.append_assoc, HLL.out, List.length_append]; simp [slB]; omega
          case measure => simp [intOf]; omega
        · have hkl' : ¬ (k : Int) < (frk t.fs j).length := by omega
          have hke : (frk t.fs j).take k = frk t.fs j := List.take_of_length_le (by omega)
          have hEq : (L ++ [u8 (frk t.fs j).length]) ++ ((frk t.fs j).take k).flatMap slB = L ++ frB (frk t.fs j) := by
            rw [hke]; simp [frB]
          rw [hEq] at hP
          have HP := hide hP
          clear hP hEq hlen2
          have hL2 : Hid (u8 t.cyc :: u8 t.fr :: (t.fs.take (j + 1)).flatMap frB = (u8 t.cyc :: u8 t.fr :: (t.fs.take j).flatMap frB) ++ frB (frk t.fs j)) := by
            unfold Hid
            rw [hft.out]; rfl
          go_wp2
          go_roundw
          case rel =>
            refine ⟨j + 1, by omega, by go_num, ?_, ?_⟩
            · rw [hL2.out, HL0.out]; exact HP.out
            · rw [hL2.out, HL0.out, List.length_append]; omega
          case measure => simp [intOf]; omega
    · have hlt' : ¬ (j : Int) < t.fs.length := by omega
      have hje : u8 t.cyc :: u8 t.fr :: (t.fs.take j).flatMap frB = bodyB t := by
        rw [List.take_of_length_le (by omega)]; rfl
      rw [hje] at hP hlen
      clear hje
      have hbl : 0 < (bodyB t).length := by simp [bodyB]
      obtain ⟨gb, cap, rfl, hg1, hg2⟩ := own_form hP.ow (by omega)
      have hcell : ∀ W : World, Below wr.heap.size wr W → ∀ q, (hq : q < (bodyB t).length) → W.cell? ⟨gb, q, none⟩ = some (.int .u8 ((bodyB t)[q].toNat : Int)) := by
        intro W hW q hq
        rw [hW.cell (p := ⟨gb, q, none⟩) hg2, hP.ow.cellAt q (by omega)]
        simp [bV, hq]
      have hcv := fun W hW => bytesN (bodyB t) W gb cap (hcell W hW)
      have Hcv := hide hcv
      have cv0 := hcv wr.drew (below_drewN (Below.refl _ _) 1)
      have HB := hide hP.bel
      have hsl : (sumL (bodyB t)).length = 4 := rfl
      clear hcell hcv hP
      obtain ⟨X1, a1, z1, e1⟩ := add_named2 ⟨(bodyB t).toArray⟩ (bs (sumL (bodyB t))) (by simp [ByteArray.size, bs, hsl]; omega)
      have EX : Hid (X1 = bs (bodyB t ++ sumL (bodyB t))) := by
        unfold Hid
        rw [← bs_list X1, e1, bs_data]
      have HSum : Hid (∀ W, Calls Tryz.prog 68 #[.string ⟨(bodyB t).toArray⟩] W fun e w' => e = .returned (.string (bs (sumL (bodyB t)))) ∧ Below W.heap.size W w') := fun W => by
        have := sumOf_any ⟨(bodyB t).toArray⟩ W (by simp [ByteArray.size]; omega)
        simpa using this
      clear z1 e1 hsl
      generalize bodyB t = BB at *
      generalize bs (sumL BB) = SS at *
      go_wp2_with fail
      go_region_with (go_at_call 68; refine (HSum.out _).mono ?_; rintro e w9 ⟨rfl, hb9⟩; have cv9 := Hcv.out w9 ((below_drewN (Below.refl wr.heap.size wr) 1).trans hb9))
      all_goals
        have HB9 := hide (HB.out.trans (((below_drewN (Below.refl wr.heap.size wr) 1).trans hb9).mono HB.out.size))
        clear hb9
        go_wp2
        go_ret
        exact ⟨by rw [show RR = X1 from HRR.out.symm.trans EX.out.symm]; rfl, HB9.out⟩
end Go.Proofs.YtbdffcjganlblaaGreatDoor
