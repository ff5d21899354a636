/-
  Own work. The document's tables: budgets; numbers written out.
-/
import Derived.Test.YtbdffcjganlblaaGreatDoorMRefPtoRefQ
import Derived.Test.YtbdffcjganlblaaGreatDoorMLaystoLays
import Derived.Lib.ItoaLen
import Derived.Lib.LaidTab
import Derived.Laws.MakeOwn
import Derived.Deep.DeepCutAuto
import Derived.Deep.RegionWith
import Derived.Deep.RegionHeldLaw
import Derived.Test.YtbdffcjganlblaaGreatDoorMRefHtoRefI
namespace Go.Proofs.YtbdffcjganlblaaGreatDoor
open Go.RowKit Go.Shelf
set_option linter.unusedVariables false
set_option linter.unusedSimpArgs false

/-! ### Numbers -/
/-- The library's table of powers of ten is as it was laid. -/
def T10 (w : World) : Prop := Lib.TabIs Tryz.prog w "internal/strconv.uint64pow10" .u64 Lib.pow10Tab
/-! ### Budgets -/
section
variable {w wr : World} {c f : Nat} {sv : Value} {l : List FSl} {k : Nat}
end
end Go.Proofs.YtbdffcjganlblaaGreatDoor

namespace Go.Proofs.YtbdffcjganlblaaGreatDoor
open Go.RowKit
set_option linter.unusedVariables false
set_option linter.unusedSimpArgs false

end Go.Proofs.YtbdffcjganlblaaGreatDoor

namespace Go.Proofs.YtbdffcjganlblaaGreatDoor
open Go.RowKit
set_option linter.unusedVariables false
set_option linter.unusedSimpArgs false

/-- A sum of two strings, under a name. -/
theorem add_named2 (a b : ByteArray) (h : a.size + b.size ≤ 4000000) : ∃ X : ByteArray, (∀ w : World, (Op.stringOp .add a b).run Tryz.prog w = .ok (.string X) w) ∧ X.size = a.size + b.size ∧ X.data.toList = a.data.toList ++ b.data.toList :=
  ⟨a ++ b, fun w => run_string_add_sum w a b (by omega), by simp [ByteArray.size_append], by simp [ByteArray.data_append]⟩
theorem bytes1 (c : UInt8) (W : World) (b : Nat) (h : W.cell? ⟨b, 0, none⟩ = some (.int .u8 c.toNat)) : (convert 64 9 (.slice (some ⟨b, 0, none⟩) 1 1)).run Tryz.prog W = .ok (.string ⟨#[c]⟩) W := by
  refine run_convert_bytes_back _ 64 9 5 ⟨b, 0, none⟩ 1 [c] Tryz.underlying64 Tryz.underlying5 Tryz.underlying9 ?_
  intro j hj
  have h0 : j = 0 := by simpa using hj
  subst h0
  exact h

end Go.Proofs.YtbdffcjganlblaaGreatDoor

namespace Go.Proofs.YtbdffcjganlblaaGreatDoor
open Go.RowKit
set_option linter.unusedVariables false
set_option linter.unusedSimpArgs false

/-- A block of w is one of what comes of it. -/
theorem blk_kept {w w' : World} {X : Nat} {o : Obj} (h : w.heap[X]? = some o) (hb : Below w.heap.size w w') : w'.heap[X]? = some o := by
  rw [hb.block _ (blk_lt h)]; exact h

/-- A refusal, thrown. -/
def pan (e p : Nat) : Ending := .panicked [{ v := .iface 101 (.agg #[.int .i64 e, .int .i64 p]), recovered := false }]

set_option maxRecDepth 100000 in
set_option maxHeartbeats 400000 in
theorem refuse_any (e p : Nat) (ev : Int) (he : ev = e) (w : World) :
    Calls Tryz.prog 65 #[.int .i64 ev, .int .i64 p] w fun en w' => en = pan e p ∧ w' = w := by
  subst he
  go_enter Tryz.func65, Tryz.ntmps65
  go_wp2
  exact ⟨rfl, rfl, rfl⟩

def kc (k : Nat) : Nat := if k = 101 then 0 else if k = 119 then 1 else if k = 110 then 2 else 3
def pv (t : PT) : Value := .agg #[.int .i64 (kc t.k), .string (bs t.tx), .int .i64 t.at_]

def FromPost (er : Nat) (t : PT) (w : World) (en : Ending) (w' : World) : Prop :=
  Below w.heap.size w w' ∧ ((t.k = 120 ∧ en = pan er t.at_) ∨ (t.k ≠ 120 ∧ en = .returned (pv t)))

theorem fromPost_ok {er : Nat} {t : PT} {w w' : World} {v : Value} {k : Nat} {x : ByteArray} {p : Nat} (hv : v = .agg #[.int .i64 k, .string x, .int .i64 p]) (hk : k = kc t.k) (hx : x = bs t.tx) (hp : p = t.at_) (h1 : t.k ≠ 120) (hb : Below w.heap.size w w') : FromPost er t w (.returned v) w' := by
  subst hv hk hx hp
  exact ⟨hb, .inr ⟨h1, rfl⟩⟩

theorem lead_zero {P : Int → Bool} {c : UInt8} {r : List UInt8} (h : P (c.toNat : Int) = false) : lead P (c :: r) = 0 := by simp [lead, h]
theorem lead_pos {P : Int → Bool} {c : UInt8} {r : List UInt8} (h : P (c.toNat : Int) = true) : 0 < lead P (c :: r) := by simp [lead, h]

theorem bs_ext (r : List UInt8) (n : Nat) : (bs r).extract 0 n = bs (r.take n) := by rw [ext_bs, bs_data]; simp

theorem drop_bs (s : ByteArray) (q : Nat) : s.extract q s.size = bs (s.data.toList.drop q) := by
  rw [ext_bs]
  congr 1
  apply List.take_of_length_le
  simp

set_option maxRecDepth 100000 in
set_option maxHeartbeats 1000000 in
theorem tokenFrom_any (er : Nat) (s : ByteArray) (b p : Nat) (w : World) (hs : s.size ≤ 800) (hp : p ≤ s.size) (c0 : w.cell? ⟨b, 0, none⟩ = some (.string s)) (c1 : w.cell? ⟨b, 1, none⟩ = some (.int .i64 er)) (hb : b < w.heap.size) :
    Calls Tryz.prog 140 #[.pointer (some ⟨b, 0, none⟩), .int .i64 p] w (FromPost er (nextTok s.data.toList p) w) := by
  obtain ⟨l, hl⟩ : ∃ l, s.data.toList = l := ⟨_, rfl⟩
  have hll : l.length = s.size := by rw [← hl]; simp
  have hd0 : s.extract p s.size = bs (l.drop p) := by rw [drop_bs, hl]
  obtain ⟨q, hq⟩ : ∃ q, skipB l p = q := ⟨_, rfl⟩
  have hqb := skipB_le l p (by omega)
  rw [hq] at hqb
  have hd1 : s.extract q s.size = bs (l.drop q) := by rw [drop_bs, hl]
  have hn : nextTok s.data.toList p = tokAt l q := by unfold nextTok; rw [hl, hq]
  rw [hn]
  have Hq : Hid (p + lead blankB (l.drop p) = q) := hq
  have hz : (bs (l.drop p)).size ≤ 1000 := by rw [bs_size, List.length_drop]; omega
  have hqs : q ≤ s.size := by omega
  obtain ⟨hq1, hq2⟩ := hqb
  have Hhd : Hid (lead blankB (bs (l.drop p)).data.toList = lead blankB (l.drop p)) := by rw [bs_data]; rfl
  clear hn hq hl
  go_enter Tryz.func140, Tryz.ntmps140
  go_wp2_with fail
  refine (countBlank_any (bs (l.drop p)) _ hz).mono ?_
  rintro e w' ⟨rfl, rfl⟩
  rw [Hhd.out]
  have hlp : p + lead blankB (l.drop p) ≤ 800 := by have := Hq.out; omega
  have hpq : (p : Int) + (lead blankB (l.drop p) : Nat) = (q : Int) := by have := Hq.out; omega
  generalize lead blankB (l.drop p) = z at *
  cases hr : l.drop q with
  | nil =>
    have HT := hide (tok_end l q (by have := congrArg List.length hr; simp at this; omega))
    rw [hr] at hd1
    have hd2 : s.extract q s.size = ⟨#[]⟩ := hd1
    clear hd1 hr
    go_wp2
    refine bodyPost_ret (v := .agg #[.int .i64 0, .string ⟨#[]⟩, .int .i64 q]) (by simp [results, Tryz.results140, go_sem]) rfl ?_
    rw [HT.out]
    exact fromPost_ok (k := 0) rfl rfl rfl rfl (by simp) (below_new _ _)
  | cons c r =>
    have hlen : (c :: r).length = l.length - q := by rw [← hr]; simp
    have hTd : tokAt l q = if signB (c.toNat : Int) then ⟨c.toNat, [c], q⟩
        else if letterB (c.toNat : Int) then ⟨119, (c :: r).take (lead letterB (c :: r)), q⟩
        else if 1 ≤ lead digitB (c :: r) ∧ lead digitB (c :: r) ≤ 4 then ⟨110, (c :: r).take (lead digitB (c :: r)), q⟩
        else ⟨120, [], q⟩ := by unfold tokAt; rw [hr]
    have HTd := hide hTd
    rw [hr] at hd1
    have hz1 : (bs (c :: r)).size ≤ 1000 := by rw [bs_size]; omega
    have hz2 : (bs (c :: r)).size = r.length + 1 := by rw [bs_size]; rfl
    have hne : ((bs (c :: r)).toList == []) = false := by rw [ByteArray.toList_eq, bs_data]; rfl
    have hle1 := lead_le letterB (c :: r)
    have hle2 := lead_le digitB (c :: r)
    have hx1 : ∀ n, (bs (c :: r)).extract 0 n = bs ((c :: r).take n) := bs_ext (c :: r)
    have hc0 : ∀ h, (bs (c :: r))[0]'h = c := fun h => rfl
    have Hc0 := hide hc0
    clear hr hTd hc0
    have hlz : Hid (lead letterB (bs (c :: r)).data.toList = lead letterB (c :: r)) := by rw [bs_data]; rfl
    have hdz : Hid (lead digitB (bs (c :: r)).data.toList = lead digitB (c :: r)) := by rw [bs_data]; rfl
    cases hL : letterB (c.toNat : Int) with
    | true =>
      have hS : signB (c.toNat : Int) = false := by
        simp only [letterB, Bool.and_eq_true, decide_eq_true_eq] at hL
        simp only [signB, Bool.or_eq_false_iff, beq_eq_false_iff_ne, ne_eq]
        omega
      have hpos := lead_pos (r := r) hL
      have HT : Hid (tokAt l q = ⟨119, (c :: r).take (lead letterB (c :: r)), q⟩) := by unfold Hid; rw [HTd.out, if_neg (by simp [hS]), if_pos hL]
      clear hL hS HTd
      go_wp2_with fail
      refine (countLetter_any (bs (c :: r)) _ hz1).mono ?_
      rintro e w' ⟨rfl, rfl⟩
      rw [hlz.out]
      simp only [List.length_cons] at hle1 hlen
      clear hlz hdz hle2 Hc0
      generalize lead letterB (c :: r) = n at *
      generalize bs (c :: r) = R at *
      have hpos' : (0 : Int) < n := by omega
      have hnR : n ≤ R.size := by omega
      go_wp2
      refine bodyPost_ret (v := .agg #[.int .i64 1, .string (bs ((c :: r).take n)), .int .i64 q]) (by simp [results, Tryz.results140, go_sem]) rfl ?_
      rw [HT.out]
      exact fromPost_ok (k := 1) rfl rfl rfl rfl (by simp) (below_new _ _)
    | false =>
      have h0 := lead_zero (r := r) hL
      by_cases hD : 1 ≤ lead digitB (c :: r) ∧ lead digitB (c :: r) ≤ 4
      · have hS : signB (c.toNat : Int) = false := by
          cases hd : digitB (c.toNat : Int) with
          | false => have := lead_zero (r := r) hd; omega
          | true =>
            simp only [digitB, Bool.and_eq_true, decide_eq_true_eq] at hd
            simp only [signB, Bool.or_eq_false_iff, beq_eq_false_iff_ne, ne_eq]
            omega
        have HT : Hid (tokAt l q = ⟨110, (c :: r).take (lead digitB (c :: r)), q⟩) := by unfold Hid; rw [HTd.out, if_neg (by simp [hS]), if_neg (by simp [hL]), if_pos hD]
        clear hL hS HTd
        go_wp2_with fail
        refine (countLetter_any (bs (c :: r)) _ hz1).mono ?_
        rintro e w' ⟨rfl, rfl⟩
        rw [hlz.out, h0]
        clear h0 hlz hle1
        go_wp2_with fail
        refine (countDigit_any (bs (c :: r)) _ hz1).mono ?_
        rintro e w' ⟨rfl, rfl⟩
        rw [hdz.out]
        simp only [List.length_cons] at hle2 hlen
        clear hdz Hc0
        generalize lead digitB (c :: r) = n at *
        generalize bs (c :: r) = R at *
        obtain ⟨hD1, hD2⟩ := hD
        have hpos' : (0 : Int) < n := by omega
        have hnR : n ≤ R.size := by omega
        have hn4 : (n : Int) ≤ 4 := by omega
        go_wp2
        refine bodyPost_ret (v := .agg #[.int .i64 2, .string (bs ((c :: r).take n)), .int .i64 q]) (by simp [results, Tryz.results140, go_sem]) rfl ?_
        rw [HT.out]
        exact fromPost_ok (k := 2) rfl rfl rfl rfl (by simp) (below_new _ _)
      · have hnd : Hid (¬ (0 < lead digitB (c :: r) ∧ lead digitB (c :: r) ≤ 4)) := by unfold Hid; omega
        have hsg : signB (c.toNat : Int) = true → ¬ (0 < lead digitB (c :: r)) := by
          intro hS
          have hd : digitB (c.toNat : Int) = false := by
            simp only [signB, Bool.or_eq_true, beq_iff_eq] at hS
            simp only [digitB, Bool.and_eq_false_iff, decide_eq_false_iff_not]
            omega
          rw [lead_zero hd]
          omega
        go_wp2_with fail
        refine (countLetter_any (bs (c :: r)) _ hz1).mono ?_
        rintro e w' ⟨rfl, rfl⟩
        rw [hlz.out, h0]
        clear h0 hlz hle1
        go_wp2_with fail
        refine (countDigit_any (bs (c :: r)) _ hz1).mono ?_
        rintro e w' ⟨rfl, rfl⟩
        rw [hdz.out]
        simp only [List.length_cons] at hle2 hlen
        clear hdz
        have hndec : (¬ (0 : Int) < (lead digitB (c :: r) : Nat)) ∨ ((0 : Int) < (lead digitB (c :: r) : Nat) ∧ ¬ ((lead digitB (c :: r) : Nat) : Int) ≤ 4) := by omega
        have HD := hide hD
        have hR1 : 0 < (bs (c :: r)).size := by omega
        clear hD hnd
        have hci : ∀ h, ((bs (c :: r))[0]'h).toNat = c.toNat := fun h => by rw [Hc0.out]
        cases hS : signB (c.toNat : Int) with
        | true =>
          have HT : Hid (tokAt l q = ⟨c.toNat, [c], q⟩) := by unfold Hid; rw [HTd.out, if_pos hS]
          have hk : Hid (c.toNat ≠ 120 ∧ 3 = kc c.toNat) := by
            simp only [signB, Bool.or_eq_true, beq_iff_eq] at hS
            unfold Hid kc
            refine ⟨by omega, ?_⟩
            rw [if_neg (by omega), if_neg (by omega), if_neg (by omega)]
          have h00 := hsg hS
          have h01 : ¬ (0 : Int) < (lead digitB (c :: r) : Nat) := by omega
          have h1x : (bs (c :: r)).extract 0 1 = bs [c] := by rw [bs_ext]; rfl
          have HS := hide hS
          clear hS hsg hndec h00 hx1 HD HTd
          generalize lead digitB (c :: r) = n at *
          go_wp2_with fail
          refine (isSign_any _ _).mono ?_
          rintro e w' ⟨rfl, rfl⟩
          rw [HS.out]
          go_wp2
          refine bodyPost_ret (v := .agg #[.int .i64 3, .string (bs [c]), .int .i64 q]) (by simp [results, Tryz.results140, go_sem]) rfl ?_
          rw [HT.out]
          exact fromPost_ok (k := 3) rfl hk.out.2 rfl rfl hk.out.1 (below_new _ _)
        | false =>
          have HT : Hid (tokAt l q = ⟨120, [], q⟩) := by unfold Hid; rw [HTd.out, if_neg (by simp [hS]), if_neg (by simp [hL]), if_neg HD.out]
          have HS := hide hS
          clear hS hsg hx1 HD HTd
          generalize lead digitB (c :: r) = n at *
          rcases hndec with h01 | ⟨h01, h02⟩
          all_goals
            go_wp2_with fail
            refine (isSign_any _ _).mono ?_
            rintro e w' ⟨rfl, rfl⟩
            rw [HS.out]
            go_wp2_with fail
            refine (refuse_any er q _ rfl _).mono ?_
            rintro e w' ⟨rfl, rfl⟩
            refine ⟨rfl, ?_⟩
            rw [HT.out]
            exact ⟨below_new _ _, .inl ⟨rfl, rfl⟩⟩
end Go.Proofs.YtbdffcjganlblaaGreatDoor
