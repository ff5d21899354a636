/-
  Own work. The document's tokens: one token.
-/
import Derived.Test.YtbdffcjganlblaaGreatDoorHpAtoWalkB
import Derived.Deep.QuietTactic
import Derived.BigQuiet
import Derived.RegionTactic
namespace Go.Proofs.YtbdffcjganlblaaGreatDoor
open Go.RowKit
set_option linter.unusedVariables false
set_option linter.unusedSimpArgs false

def tokV (t : PT) : Value := .agg #[.int .u8 t.k, .string (bs t.S), .int .i64 t.N, .int .i64 t.at_]

def TokPost (l : List UInt8) (i : Nat) (w : World) (e : Ending) (w' : World) : Prop :=
  ∃ j : Nat, e = .returned (.tuple #[tokV (tokAt l i), .int .i64 j]) ∧ Below w.heap.size w w' ∧ i ≤ j ∧ j ≤ l.length ∧ ((tokAt l i).fin = false → j = (tokAt l i).nx)

theorem tokPost_mk {l : List UInt8} {i : Nat} {w w' : World} {t : PT} (ht : tokAt l i = t) {v : Value} (hv : v = tokV t) {j : Nat} {jv : Int} (hj : jv = j) (hb : Below w.heap.size w w') (h1 : i ≤ j) (h2 : j ≤ l.length) (h3 : t.fin = false → j = t.nx) :
    TokPost l i w (.returned (.tuple #[v, .int .i64 jv])) w' := by
  subst ht hv hj
  exact ⟨j, rfl, hb, h1, h2, h3⟩

theorem below_new (w : World) (o : Obj) : Below w.heap.size w (w.alloc o) := (Below.refl _ _).alloc (Nat.le_refl _) _

theorem tok_end (l : List UInt8) (i : Nat) (h : l.length ≤ i) : tokAt l i = ⟨101, [], i⟩ := by
  unfold tokAt; rw [List.drop_of_length_le h]
theorem tok_sign (s : ByteArray) (i : Nat) (h : i < s.size) (hg : signB (s[i].toNat : Int) = true) : tokAt s.data.toList i = ⟨s[i].toNat, [s[i]], i⟩ := by
  unfold tokAt; rw [drop_cons s i h]; simp only; rw [if_pos hg]
theorem tok_word (s : ByteArray) (i : Nat) (h : i < s.size) (hg : signB (s[i].toNat : Int) = false) (hl : letterB (s[i].toNat : Int) = true) :
    tokAt s.data.toList i = ⟨119, (s.data.toList.drop i).take (lead letterB (s.data.toList.drop i)), i⟩ := by
  unfold tokAt; rw [drop_cons s i h]; simp only; rw [if_neg (by simp [hg]), if_pos hl]
theorem tok_num (s : ByteArray) (i : Nat) (h : i < s.size) (hg : signB (s[i].toNat : Int) = false) (hl : letterB (s[i].toNat : Int) = false) (hd : 1 ≤ lead digitB (s.data.toList.drop i) ∧ lead digitB (s.data.toList.drop i) ≤ 4) :
    tokAt s.data.toList i = ⟨110, (s.data.toList.drop i).take (lead digitB (s.data.toList.drop i)), i⟩ := by
  unfold tokAt; rw [drop_cons s i h] at hd ⊢; simp only; rw [if_neg (by simp [hg]), if_neg (by simp [hl]), if_pos hd]
theorem tok_none (s : ByteArray) (i : Nat) (h : i < s.size) (hg : signB (s[i].toNat : Int) = false) (hl : letterB (s[i].toNat : Int) = false) (hd : ¬ (1 ≤ lead digitB (s.data.toList.drop i) ∧ lead digitB (s.data.toList.drop i) ≤ 4)) :
    tokAt s.data.toList i = ⟨120, [], i⟩ := by
  unfold tokAt; rw [drop_cons s i h] at hd ⊢; simp only; rw [if_neg (by simp [hg]), if_neg (by simp [hl]), if_neg hd]

theorem ext_one (s : ByteArray) (i : Nat) (h : i < s.size) : s.extract i (i + 1) = bs [s[i]] := by
  rw [ext_bs, drop_cons s i h]; simp

theorem dval_snoc (l : List UInt8) (c : UInt8) : dval (l ++ [c]) = 10 * dval l + (c.toNat - 48) := by
  simp [dval]
theorem dval_lt (l : List UInt8) (h : ∀ c ∈ l, c.toNat ≤ 57) : dval l < 10 ^ l.length := by
  have : ∀ r : List UInt8, (∀ c ∈ r, c.toNat ≤ 57) → dval r.reverse < 10 ^ r.length := by
    intro r
    induction r with
    | nil => intro _; simp [dval]
    | cons c r ih =>
      intro hr
      rw [List.reverse_cons, dval_snoc]
      have h1 := ih (fun x hx => hr x (List.mem_cons_of_mem _ hx))
      have h2 := hr c (List.mem_cons_self)
      simp only [List.length_cons, Nat.pow_succ]
      omega
  have := this l.reverse (by simpa using h)
  simpa using this
theorem take_more (s : ByteArray) (i k : Nat) (h1 : i ≤ k) (h2 : k < s.size) : (s.data.toList.drop i).take (k + 1 - i) = (s.data.toList.drop i).take (k - i) ++ [s[k]] := by
  rw [show k + 1 - i = (k - i) + 1 by omega, List.take_succ_eq_append_getElem (by simp; omega)]
  have e : (s.data.toList.drop i)[k - i]'(by simp; omega) = s[k] := by
    rw [List.getElem_drop]
    have h3 : i + (k - i) = k := by omega
    simp only [h3]
    rfl
  rw [e]

set_option maxRecDepth 100000 in
set_option maxHeartbeats 400000 in
theorem rtoken_end (s : ByteArray) (i : Nat) (w : World) (hs : s.size ≤ 800) (hi : i = s.size) :
    Calls Tryz.prog 77 #[.string s, .int .i64 i] w (TokPost s.data.toList i w) := by
  have hn : ¬ (i : Int) < s.size := by omega
  have Ht := hide (tok_end s.data.toList i (by simp [hi]))
  have hi2 : i ≤ s.size := by omega
  clear hi
  go_enter Tryz.func77, Tryz.ntmps77
  go_wp2
  exact bodyPost_ret (v := .tuple #[tokV ⟨101, [], i⟩, .int .i64 i]) (by simp [results, Tryz.results77, go_sem, tokV, PT.S, PT.N, bs]) rfl
    (tokPost_mk Ht.out rfl rfl (below_new _ _) (Nat.le_refl _) (by simpa using hi2) (by simp [PT.fin]))

set_option maxRecDepth 100000 in
set_option maxHeartbeats 400000 in
theorem rtoken_sign (s : ByteArray) (i : Nat) (w : World) (hs : s.size ≤ 800) (hi : i < s.size) (hg : signB (s[i].toNat : Int) = true) :
    Calls Tryz.prog 77 #[.string s, .int .i64 i] w (TokPost s.data.toList i w) := by
  have Ht := hide (tok_sign s i hi hg)
  have He := hide (ext_one s i hi)
  have hq : ((s[i].toNat : Int) = 44 ∨ (s[i].toNat : Int) = 59) ∨ (s[i].toNat : Int) = 58 := by simpa [signB] using hg
  have Hk : Hid (s[i].toNat ≠ 110 ∧ s[i].toNat ≠ 101 ∧ s[i].toNat ≠ 120) := by unfold Hid; omega
  have key : ∀ b1 b2 b3 : Bool, ((s[i].toNat : Int) == 44) = b1 → ((s[i].toNat : Int) == 59) = b2 → ((s[i].toNat : Int) == 58) = b3 → (b1 || b2 || b3) = true → Calls Tryz.prog 77 #[.string s, .int .i64 i] w (TokPost s.data.toList i w) := by
    clear hg hq
    intro b1 b2 b3 h1 h2 h3 h4
    cases b1 <;> cases b2 <;> cases b3 <;> simp at h4 <;> (try clear h4)
    all_goals
      go_enter Tryz.func77, Tryz.ntmps77
      go_wp2
      refine bodyPost_ret (v := .tuple #[tokV ⟨s[i].toNat, [s[i]], i⟩, .int .i64 (i + 1)]) ?_ rfl
        (tokPost_mk Ht.out rfl (j := i + 1) (by omega) (below_new _ _) (by omega) (by simp; omega) (by intro _; simp [PT.nx]))
      have hk := Hk.out
      simp [results, Tryz.results77, go_sem, tokV, PT.S, PT.N, He.out, hk.1]
  refine key _ _ _ rfl rfl rfl ?_
  simpa [signB] using hg

set_option maxRecDepth 100000 in
set_option maxHeartbeats 400000 in
theorem rtoken_word (s : ByteArray) (i : Nat) (w : World) (hs : s.size ≤ 800) (hi : i < s.size) (hg : signB (s[i].toNat : Int) = false) (hl : letterB (s[i].toNat : Int) = true) :
    Calls Tryz.prog 77 #[.string s, .int .i64 i] w (TokPost s.data.toList i w) := by
  have Ht := hide (tok_word s i hi hg hl)
  have hg1 : ((s[i].toNat : Int) == 44) = false := by simp [signB] at hg; simp [hg]
  have hg2 : ((s[i].toNat : Int) == 59) = false := by simp [signB] at hg; simp [hg]
  have hg3 : ((s[i].toNat : Int) == 58) = false := by simp [signB] at hg; simp [hg]
  clear hg
  go_enter Tryz.func77, Tryz.ntmps77
  go_wp2_with (go_at_call 118; refine (rIsLetter_any _ _).mono ?_; rintro e w' ⟨rfl, rfl⟩)
  go_loop [1] (fun t => ∃ k : Nat, i ≤ k ∧ k ≤ s.size ∧ t = .int .i64 k ∧ Hid (lead letterB (s.data.toList.drop i) = (k - i) + lead letterB (s.data.toList.drop k))) (fun t => s.size - (intOf t).toNat)
  case atStart => exact ⟨i, Nat.le_refl _, by omega, rfl, by simp [Hid]⟩
  case round =>
    clear hl
    obtain ⟨k, hk1, hk2, rfl, hld⟩ := hrel
    have hend : lead letterB (s.data.toList.drop k) = 0 → ∀ x : World, Below w.heap.size w x → TokPost s.data.toList i w (.returned (.tuple #[tokV ⟨119, (s.data.toList.drop i).take (k - i), i⟩, .int .i64 k])) x := by
      intro h0 x hx
      have h1 := hld.out
      rw [h0] at h1
      have h2 := Ht.out
      rw [h1] at h2
      simp only [Nat.add_zero] at h2
      exact tokPost_mk h2 rfl (j := k) rfl hx hk1 (by simpa using hk2) (by intro _; simp [PT.nx, List.length_take]; omega)
    have Hend := hide hend
    clear hend
    have he : s.extract i k = bs ((s.data.toList.drop i).take (k - i)) := ext_bs s i k
    have He := hide he
    clear he
    by_cases hlt : k < s.size
    · by_cases hp : letterB (s[k].toNat : Int) = true
      · have hy := hide (lead_yes letterB s k hlt hp)
        go_wp2_with (go_at_call 118; refine (rIsLetter_any _ _).mono ?_; rintro e w' ⟨rfl, rfl⟩)
        go_round
        case rel => exact ⟨k + 1, by omega, by omega, by go_num, by have := hld.out; have := unhide hy; unfold Hid; omega⟩
        case measure => simp [intOf]; omega
      · have hp' : letterB (s[k].toNat : Int) = false := by simpa using hp
        have hy := hide (lead_no letterB s k hlt hp')
        clear hp
        go_wp2_with (go_at_call 118; refine (rIsLetter_any _ _).mono ?_; rintro e w' ⟨rfl, rfl⟩)
        refine bodyPost_ret (v := .tuple #[tokV ⟨119, (s.data.toList.drop i).take (k - i), i⟩, .int .i64 k]) ?_ rfl (Hend.out hy.out _ (below_new _ _))
        simp [results, Tryz.results77, go_sem, tokV, PT.S, PT.N, He.out]
    · have hy := hide (lead_end letterB s k (by omega))
      go_wp2
      refine bodyPost_ret (v := .tuple #[tokV ⟨119, (s.data.toList.drop i).take (k - i), i⟩, .int .i64 k]) ?_ rfl (Hend.out hy.out _ (below_new _ _))
      simp [results, Tryz.results77, go_sem, tokV, PT.S, PT.N, He.out]

theorem mem_lead (P : Int → Bool) : ∀ (l : List UInt8) (n : Nat), n ≤ lead P l → ∀ c ∈ l.take n, P (c.toNat : Int) = true
  | [], n, _, c, h => by simp at h
  | d :: r, 0, _, c, h => by simp at h
  | d :: r, n + 1, hn, c, h => by
    simp only [lead] at hn
    split at hn
    · rename_i hd
      rcases List.mem_cons.1 (by simpa using h) with rfl | h'
      · exact hd
      · exact mem_lead P r n (by omega) c h'
    · omega

set_option maxRecDepth 100000 in
set_option maxHeartbeats 800000 in
theorem rtoken_num (s : ByteArray) (i : Nat) (w : World) (hs : s.size ≤ 800) (hi : i < s.size) (hg : signB (s[i].toNat : Int) = false) (hl : letterB (s[i].toNat : Int) = false) :
    Calls Tryz.prog 77 #[.string s, .int .i64 i] w (TokPost s.data.toList i w) := by
  have Ht := hide (tok_num s i hi hg hl)
  have Hx := hide (tok_none s i hi hg hl)
  have hg1 : ((s[i].toNat : Int) == 44) = false := by simp [signB] at hg; simp [hg]
  have hg2 : ((s[i].toNat : Int) == 59) = false := by simp [signB] at hg; simp [hg]
  have hg3 : ((s[i].toNat : Int) == 58) = false := by simp [signB] at hg; simp [hg]
  clear hg
  go_enter Tryz.func77, Tryz.ntmps77
  go_wp2_with (go_at_call 118; refine (rIsLetter_any _ _).mono ?_; rintro e w' ⟨rfl, rfl⟩)
  go_loop [8, 1] (fun n t => ∃ k d : Nat, i ≤ k ∧ k ≤ s.size ∧ k ≤ i + 5 ∧ t = .int .i64 k ∧ n = .int .i64 d ∧ d < 100000 ∧ Hid (d = dval ((s.data.toList.drop i).take (k - i))) ∧ Hid (lead digitB (s.data.toList.drop i) = (k - i) + lead digitB (s.data.toList.drop k))) (fun _ t => s.size - (intOf t).toNat)
  case atStart => exact ⟨i, 0, Nat.le_refl _, by omega, by omega, rfl, rfl, by omega, by simp [Hid, dval], by simp [Hid]⟩
  case round =>
    clear hl
    obtain ⟨k, d, hk1, hk2, hk3, rfl, rfl, hdl, hdv, hld⟩ := hrel
    have hfin : (lead digitB (s.data.toList.drop k) = 0 ∨ k = i + 5) → ∀ x : World, Below w.heap.size w x →
        (k = i ∨ k = i + 5 → TokPost s.data.toList i w (.returned (.tuple #[tokV ⟨120, [], i⟩, .int .i64 k])) x) ∧
        (¬ k = i → ¬ k = i + 5 → TokPost s.data.toList i w (.returned (.tuple #[.agg #[.int .u8 110, .string (bs []), .int .i64 d, .int .i64 i], .int .i64 k])) x) := by
      intro h0 x hx
      have h1 := hld.out
      constructor
      · intro h2
        have h3 := Hx.out (by omega)
        exact tokPost_mk h3 rfl (j := k) rfl hx hk1 (by simpa using hk2) (by simp [PT.fin])
      · intro h2 h2'
        have h3 := Ht.out (by omega)
        rw [show lead digitB (s.data.toList.drop i) = k - i by omega] at h3
        exact tokPost_mk h3 (by simp [tokV, PT.S, PT.N, hdv.out]) (j := k) rfl hx hk1 (by simpa using hk2) (by intro _; simp [PT.nx, List.length_take]; omega)
    have Hfin := hide hfin
    clear hfin
    by_cases h5 : k = i + 5
    · have hz1 : ((k : Int) == i) = false := by simp; omega
      have hz2 : ¬ ((k : Int) - i < 5) := by omega
      have hz3 : (4 : Int) < (k : Int) - i := by omega
      have H5 := hide h5
      clear h5
      by_cases hlt : k < s.size
      · by_cases hp : digitB (s[k].toNat : Int) = true
        all_goals
          go_wp2_with (go_at_call 119; refine (rIsDigit_any _ _).mono ?_; rintro e w' ⟨rfl, rfl⟩)
          refine bodyPost_ret (v := .tuple #[tokV ⟨120, [], i⟩, .int .i64 k]) ?_ rfl ((Hfin.out (.inr H5.out) _ (below_new _ _)).1 (.inr H5.out))
          simp [results, Tryz.results77, go_sem, tokV, PT.S, PT.N, bs]
      · go_wp2
        refine bodyPost_ret (v := .tuple #[tokV ⟨120, [], i⟩, .int .i64 k]) ?_ rfl ((Hfin.out (.inr H5.out) _ (below_new _ _)).1 (.inr H5.out))
        simp [results, Tryz.results77, go_sem, tokV, PT.S, PT.N, bs]
    · have hk5 : k < i + 5 := by omega
      clear h5
      by_cases hyes : ∃ h : k < s.size, digitB (s[k].toNat : Int) = true
      · obtain ⟨hlt, hp⟩ := hyes
        have hy := hide (lead_yes digitB s k hlt hp)
        have htm := hide (take_more s i k hk1 hlt)
        have hb : (48 : Int) ≤ (s[k].toNat : Int) ∧ (s[k].toNat : Int) ≤ 57 := by simpa [digitB] using hp
        have hdd : Hid (dval ((s.data.toList.drop i).take (k + 1 - i)) = 10 * d + (s[k].toNat - 48)) := by
          unfold Hid; rw [htm.out, dval_snoc, ← hdv.out]
        have hd5 : 10 * d + (s[k].toNat - 48) < 100000 := by
          have h1 := dval_lt ((s.data.toList.drop i).take (k + 1 - i)) (by
            intro c hc
            have := mem_lead digitB (s.data.toList.drop i) (k + 1 - i) (by have := hld.out; have := unhide hy; omega) c hc
            simp [digitB] at this
            omega)
          rw [hdd.out] at h1
          have h2 : ((s.data.toList.drop i).take (k + 1 - i)).length ≤ 5 := by simp; omega
          have h3 : 10 ^ ((s.data.toList.drop i).take (k + 1 - i)).length ≤ 10 ^ 5 := Nat.pow_le_pow_right (by omega) h2
          omega
        obtain ⟨hb1, hb2⟩ := hb
        go_wp2_with (go_at_call 119; refine (rIsDigit_any _ _).mono ?_; rintro e w' ⟨rfl, rfl⟩)
        go_round
        case rel => exact ⟨k + 1, 10 * d + (s[k].toNat - 48), by omega, by omega, by omega, by go_num, by go_num, hd5, by rw [hdd.out]; rfl, by have := hld.out; have := unhide hy; unfold Hid; omega⟩
        case measure => simp [intOf]; omega
      · have h0 : lead digitB (s.data.toList.drop k) = 0 := by
          by_cases hlt : k < s.size
          · exact lead_no digitB s k hlt (by
              cases hq : digitB (s[k].toNat : Int)
              · rfl
              · exact absurd ⟨hlt, hq⟩ hyes)
          · exact lead_end digitB s k (by omega)
        have H0 := hide h0
        clear h0
        have Hk := hide hk5
        by_cases hki : k = i
        · have hz1 : ((k : Int) == i) = true := by simp; omega
          have Hki := hide hki
          clear hki
          by_cases hlt : k < s.size
          · have hp : digitB (s[k].toNat : Int) = false := by
              cases hq : digitB (s[k].toNat : Int)
              · rfl
              · exact absurd ⟨hlt, hq⟩ hyes
            clear hyes
            go_wp2_with (go_at_call 119; refine (rIsDigit_any _ _).mono ?_; rintro e w' ⟨rfl, rfl⟩)
            refine bodyPost_ret (v := .tuple #[tokV ⟨120, [], i⟩, .int .i64 k]) ?_ rfl ((Hfin.out (.inl H0.out) _ (below_new _ _)).1 (.inl Hki.out))
            simp [results, Tryz.results77, go_sem, tokV, PT.S, PT.N, bs]
          · clear hyes
            go_wp2
            refine bodyPost_ret (v := .tuple #[tokV ⟨120, [], i⟩, .int .i64 k]) ?_ rfl ((Hfin.out (.inl H0.out) _ (below_new _ _)).1 (.inl Hki.out))
            simp [results, Tryz.results77, go_sem, tokV, PT.S, PT.N, bs]
        · have hz1 : ((k : Int) == i) = false := by simp; omega
          have hz3 : ¬ (4 : Int) < (k : Int) - i := by omega
          have Hki := hide hki
          clear hki
          by_cases hlt : k < s.size
          · have hp : digitB (s[k].toNat : Int) = false := by
              cases hq : digitB (s[k].toNat : Int)
              · rfl
              · exact absurd ⟨hlt, hq⟩ hyes
            clear hyes
            go_wp2_with (go_at_call 119; refine (rIsDigit_any _ _).mono ?_; rintro e w' ⟨rfl, rfl⟩)
            refine bodyPost_ret (v := .tuple #[.agg #[.int .u8 110, .string (bs []), .int .i64 d, .int .i64 i], .int .i64 k]) ?_ rfl ((Hfin.out (.inl H0.out) _ (below_new _ _)).2 Hki.out (by have := Hk.out; omega))
            simp [results, Tryz.results77, go_sem, bs]
          · clear hyes
            go_wp2
            refine bodyPost_ret (v := .tuple #[.agg #[.int .u8 110, .string (bs []), .int .i64 d, .int .i64 i], .int .i64 k]) ?_ rfl ((Hfin.out (.inl H0.out) _ (below_new _ _)).2 Hki.out (by have := Hk.out; omega))
            simp [results, Tryz.results77, go_sem, bs]

/-- token, at whatever place of the text. -/
theorem rtoken_any (s : ByteArray) (i : Nat) (w : World) (hs : s.size ≤ 800) (hi : i ≤ s.size) :
    Calls Tryz.prog 77 #[.string s, .int .i64 i] w (TokPost s.data.toList i w) := by
  by_cases h1 : i = s.size
  · exact rtoken_end s i w hs h1
  · have h2 : i < s.size := by omega
    cases hg : signB (s[i].toNat : Int)
    · cases hl : letterB (s[i].toNat : Int)
      · exact rtoken_num s i w hs h2 hg hl
      · exact rtoken_word s i w hs h2 hg hl
    · exact rtoken_sign s i w hs h2 hg
end Go.Proofs.YtbdffcjganlblaaGreatDoor

namespace Go.Proofs.YtbdffcjganlblaaGreatDoor
open Go.RowKit
set_option linter.unusedVariables false
set_option linter.unusedSimpArgs false

def tokCells (t : PT) : List Value := [.int .u8 t.k, .string (bs t.S), .int .i64 t.N, .int .i64 t.at_]
def tokRow (ts : List PT) : List Value := ts.flatMap tokCells
theorem tokRow_snoc (ts : List PT) (t : PT) : tokRow (ts ++ [t]) = tokRow ts ++ tokCells t := by simp [tokRow]
def allToks (l : List UInt8) : List PT := toks (l.length + 1) l 0
def finI (k : Int) : Nat := if k = 101 ∨ k = 120 then 0 else 1

theorem finI_of (t : PT) : t.fin = true → finI (t.k : Int) = 0 := by
  intro h
  simp only [PT.fin, Bool.or_eq_true, beq_iff_eq] at h
  unfold finI
  rw [if_pos (by omega)]
theorem finI_no (t : PT) : t.fin = false → (t.k : Int) ≠ 101 ∧ (t.k : Int) ≠ 120 := by
  intro h
  simp only [PT.fin, Bool.or_eq_false_iff, beq_eq_false_iff_ne, ne_eq] at h
  omega

/-- What is told at the head of each round. -/
def TokRel (s : ByteArray) (done : List PT) (p : Nat) (k : Int) : Prop :=
  (k ≠ 101 ∧ k ≠ 120 ∧ ∃ f, allToks s.data.toList = done ++ toks f s.data.toList p ∧ s.data.toList.length < p + f) ∨ ((k = 101 ∨ k = 120) ∧ allToks s.data.toList = done)

theorem tokRel_step {s : ByteArray} {done : List PT} {p : Nat} {k : Int} (h : TokRel s done p k) (hk : k ≠ 101 ∧ k ≠ 120) (hp : p ≤ s.size) {j : Nat} (hj : (nextTok s.data.toList p).fin = false → j = (nextTok s.data.toList p).nx) :
    TokRel s (done ++ [nextTok s.data.toList p]) j (nextTok s.data.toList p).k := by
  rcases h with ⟨_, _, f, h1, h2⟩ | ⟨h1, _⟩
  · have hl : s.data.toList.length = s.size := by simp
    cases f with
    | zero => omega
    | succ f =>
      rw [toks] at h1
      cases hf : (nextTok s.data.toList p).fin
      · rw [hf] at h1
        simp only [Bool.false_eq_true, if_false] at h1
        have h3 := finI_no _ hf
        have h4 := nextTok_long _ _ hf
        have h5 := nextTok_bound s.data.toList p (by omega)
        refine .inl ⟨h3.1, h3.2, f, ?_, ?_⟩
        · rw [hj hf, h1]; simp
        · rw [hj hf]; omega
      · rw [hf] at h1
        simp only [if_true] at h1
        refine .inr ⟨?_, h1⟩
        simp only [PT.fin, Bool.or_eq_true, beq_iff_eq] at hf
        omega
  · omega

theorem skip_yes (s : ByteArray) (q : Nat) (h : q < s.size) (hp : blankB (s[q].toNat : Int) = true) : skipB s.data.toList q = skipB s.data.toList (q + 1) := by
  unfold skipB; rw [lead_yes blankB s q h hp]; omega
theorem skip_no (s : ByteArray) (q : Nat) (h : q < s.size) (hp : blankB (s[q].toNat : Int) = false) : skipB s.data.toList q = q := by
  unfold skipB; rw [lead_no blankB s q h hp]; rfl
theorem skip_end (s : ByteArray) (q : Nat) (h : s.size ≤ q) : skipB s.data.toList q = q := by
  unfold skipB; rw [lead_end blankB s q h]; rfl

theorem grown_below {w w1 : World} (hb : Below w.heap.size w w1) : w.grownBy w1 none := ⟨hb.os, hb.tape, hb.output, hb.size, fun k hk _ => hb.block k hk⟩
theorem owns_below {w w1 : World} {base : Nat} {e : TypeId} {size : Nat} {v : Value} {n : Nat} {xs : List Value} (h : w.ownsRow base e size v n xs) (hb : Below w.heap.size w w1) : w1.ownsRow base e size v n xs :=
  h.kept (grown_below hb) (by cases h' : v.ownBlock <;> simp)
theorem cells_new (w : World) (c : Array Value) (t : TypeId) (n : Nat) (hn : n = w.heap.size) : ∀ j u, c.toList[j]? = some u → (w.alloc (.cells c t)).cell? ((⟨n, 0, none⟩ : Addr).add j) = some u := by
  intro j u hj
  have e : ((⟨n, 0, none⟩ : Addr).add j) = ⟨n, j, none⟩ := by simp [Addr.add]; intro h; exact h.symm
  rw [e, World.cell?_alloc_at c t n j hn]
  simpa using hj

theorem Tryz.infoTok : (Tryz.prog.info? 76).map (fun i => (i.zero, i.size, i.bytes)) = some (some (.agg #[.int .u8 0, .string ⟨#[]⟩, .int .i64 0, .int .i64 0]), 4, 40) := by kernel_rfl

set_option maxRecDepth 100000 in
set_option maxHeartbeats 1000000 in
theorem rTokens_any (s : ByteArray) (w : World) (hs : s.size ≤ 800) :
    Calls Tryz.prog 40 #[.string s] w fun e w' => ∃ v, e = .returned v ∧ w'.ownsRow w.heap.size 76 4 v (allToks s.data.toList).length (tokRow (allToks s.data.toList)) ∧ Below w.heap.size w w' := by
  obtain ⟨i0, hi, hz0, hz1, hz2⟩ := info_parts Tryz.infoTok
  go_enter Tryz.func40, Tryz.ntmps40
  go_wp2
  go_loopw [3, 4, 5] (fun v i k wr => ∃ (done : List PT) (p : Nat) (kk : Int), i = .int .i64 p ∧ k = .int .u8 kk ∧ p ≤ s.size ∧ done.length ≤ p + 1 ∧ (kk = 101 ∨ kk = 120 ∨ done.length ≤ p) ∧ TokRel s done p kk ∧ wr.ownsRow w.heap.size 76 4 v done.length (tokRow done) ∧ Below w.heap.size w wr)
    (fun _ i k _ => 2 * (s.size - (intOf i).toNat) + finI (intOf k))
  case atStart => exact ⟨[], 0, 32, rfl, rfl, by omega, by simp, by simp, .inl ⟨by decide, by decide, s.data.toList.length + 1, by simp [allToks], by omega⟩, World.ownsRow_nil _ _ _ _, Below.refl _ _⟩
  case round =>
    obtain ⟨done, p, kk, rfl, rfl, hp, hdl, hdk, hrel, hown, hnx⟩ := hrel
    by_cases hk : kk = 101 ∨ kk = 120
    · have Hrel := hide hrel
      clear hrel hdk
      rcases hk with rfl | rfl
      all_goals
        go_wp2
        go_ret
        refine ⟨_, rfl, ?_, hnx⟩
        have hd : allToks s.data.toList = done := by
          rcases Hrel.out with ⟨h1, h2, _⟩ | ⟨_, h⟩
          · omega
          · exact h
        rw [hd]
        exact hown
    · have hb1 : (kk != 101) = true := by rw [bne_iff_ne]; omega
      have hb2 : (kk != 120) = true := by rw [bne_iff_ne]; omega
      have Hkk : Hid (kk ≠ 101 ∧ kk ≠ 120) := by unfold Hid; omega
      have hdp : done.length ≤ p := by omega
      have Hrel := hide hrel
      have HF : Hid (finI kk = 1) := by unfold Hid finI; rw [if_neg hk]
      clear hrel hdk hk hdl
      go_wp2
      go_loop [4] (fun t => ∃ q : Nat, p ≤ q ∧ q ≤ s.size ∧ t = .int .i64 q ∧ Hid (skipB s.data.toList p = skipB s.data.toList q)) (fun t => s.size - (intOf t).toNat)
      case atStart => exact ⟨p, Nat.le_refl _, hp, rfl, rfl⟩
      case round =>
        obtain ⟨q, hq1, hq2, rfl, hsk⟩ := hrel
        by_cases hyes : ∃ h : q < s.size, blankB (s[q].toNat : Int) = true
        · obtain ⟨hlt, hbl⟩ := hyes
          have hy := hide (skip_yes s q hlt hbl)
          have hcc : (s[q].toNat : Int) = 32 ∨ (s[q].toNat : Int) = 10 := by simpa [blankB] using hbl
          have hcb : ((s[q].toNat : Int) == 32) = true ∨ (((s[q].toNat : Int) == 32) = false ∧ ((s[q].toNat : Int) == 10) = true) := by
            rcases hcc with h | h
            · left; simp [h]
            · right; simp [h]
          clear hcc hbl
          rcases hcb with hc | ⟨hc1, hc2⟩
          all_goals
            go_wp2
            go_round
            case rel => exact ⟨q + 1, by omega, by omega, by go_num, by have := hsk.out; have := unhide hy; unfold Hid; omega⟩
            case measure => simp [intOf]; omega
        · have Hq : Hid (skipB s.data.toList p = q) := by
            unfold Hid
            rw [hsk.out]
            by_cases hlt : q < s.size
            · exact skip_no s q hlt (by
                cases hh : blankB (s[q].toNat : Int)
                · rfl
                · exact absurd ⟨hlt, hh⟩ hyes)
            · exact skip_end s q (by omega)
          have hno : ∀ h : q < s.size, ((s[q].toNat : Int) == 32) = false ∧ ((s[q].toNat : Int) == 10) = false := by
            intro h
            cases hh : blankB (s[q].toNat : Int)
            · simpa [blankB] using hh
            · exact absurd ⟨h, hh⟩ hyes
          clear hyes hsk
          have hstep : ∀ j : Nat, ((tokAt s.data.toList q).fin = false → j = (tokAt s.data.toList q).nx) → TokRel s (done ++ [tokAt s.data.toList q]) j (tokAt s.data.toList q).k := by
            intro j hj
            have h1 := Hq.out
            have h2 : nextTok s.data.toList p = tokAt s.data.toList q := by unfold nextTok; rw [h1]
            rw [← h2] at hj ⊢
            exact tokRel_step Hrel.out Hkk.out hp hj
          have hlong := tokAt_long s.data.toList q
          have hfin := finI_of (tokAt s.data.toList q)
          have Hstep := hide hstep
          have Hlong := hide hlong
          have Hfin := hide hfin
          clear hstep hlong hfin
          have hatq : (tokAt s.data.toList q).at_ = q := (tokAt_bound s.data.toList q (by simpa using hq2)).1
          have Hatq := hide hatq
          clear hatq
          have hcases : (∃ h : q < s.size, ((s[q].toNat : Int) == 32) = false ∧ ((s[q].toNat : Int) == 10) = false) ∨ ¬ q < s.size := by
            by_cases hlt : q < s.size
            · exact .inl ⟨hlt, hno hlt⟩
            · exact .inr hlt
          clear hno
          rcases hcases with ⟨hlt, hc1, hc2⟩ | hlt
          all_goals
            go_wp2_with fail
            refine (rtoken_any s q wr hs hq2).mono ?_
            rintro e w1 ⟨j, rfl, hbw, hj1, hj2, hj3⟩
            have hj2' : j ≤ s.size := by simpa using hj2
            have Hj3 := hide hj3
            have hown1 := owns_below hown hbw
            have hsz1 := hbw.size
            have hsz0 := hnx.size
            have hne : some w1.heap.size ≠ Value.ownBlock u3 := by
              intro h
              have := (hown.lt _ h.symm).2
              omega
            have Hne := hide hne
            clear hj2 hj3 hne
            try clear hc1 hc2
            generalize tokAt s.data.toList q = t at *
            unfold tokV
            go_wp2_with (at_builtin; refine wpList_append_own _ rfl _ _ 68 rfl w.heap.size 76 i0 _ 4 40 Tryz.underlying68 hi hz0 hz1 hz2 rfl (by decide) _ _ _ rfl ((hown1.alloc _).alloc _) ⟨w1.heap.size + 1, 0, none⟩ 1 1 (tokCells t) rfl rfl ?c1 ?c2 ?c3 ?c4 ?c5 ?_)
            case c1 => exact cells_new (w1.alloc _) #[_, _, _, _] _ _ (by simp)
            case c2 => simp [tokCells, Value.oneCell']
            case c3 => unfold maxLen; omega
            case c4 => omega
            case c5 => simp; omega
            intro v' w2 hown2 hgr _
            have hcl : w2.cell? ⟨w1.heap.size, 0, none⟩ = some (.int .u8 t.k) := hgr.cell (by simp [go_sem]) Hne.out
            have hbel : Below w.heap.size w w2 := by
              refine (((hnx.trans (hbw.mono hnx.size)).alloc (by omega) _).alloc (by simp; omega) _).grown hgr (by simp; omega) ?_
              intro k hk
              exact (hown1.lt _ hk).1
            have Hbel := hide hbel
            have Hown2 := hide hown2
            clear hown2 hgr hbel hown1 hbw
            go_wp2
            go_roundw
            case rel =>
              refine ⟨done ++ [t], j, t.k, rfl, rfl, hj2', ?_, ?_, Hstep.out j Hj3.out, ?_, Hbel.out⟩
              · simp only [List.length_append, List.length_cons, List.length_nil]; omega
              · cases hf : t.fin
                · right; right
                  have h1 := Hlong.out hf
                  have h2 := Hj3.out hf
                  simp only [PT.nx, Hatq.out] at h2
                  simp only [List.length_append, List.length_cons, List.length_nil]; omega
                · simp only [PT.fin, Bool.or_eq_true, beq_iff_eq] at hf
                  omega
              · rw [tokRow_snoc]
                have := Hown2.out
                simpa using this
            case measure =>
              have h0 := HF.out
              simp only [intOf, h0]
              cases hf : t.fin
              · have h1 := Hlong.out hf
                have h2 := Hj3.out hf
                simp only [PT.nx, Hatq.out] at h2
                have h3 : finI (t.k : Int) ≤ 1 := by unfold finI; split <;> omega
                simp only [Int.toNat_natCast]
                omega
              · have h3 := Hfin.out hf
                rw [h3]
                simp only [Int.toNat_natCast]
                omega
end Go.Proofs.YtbdffcjganlblaaGreatDoor

namespace Go.Proofs.YtbdffcjganlblaaGreatDoor
open Go.RowKit
set_option linter.unusedVariables false
set_option linter.unusedSimpArgs false

/-- Token number j. -/
def tk (T : List PT) (j : Nat) : PT := T.getD j ⟨101, [], 0⟩

/-- The parser in memory: block b; the tokens' row: block r. -/
structure PS (w : World) (b r cap : Nat) (T : List PT) (i : Nat) (bad : Bool) : Prop where
  c0 : w.cell? ⟨b, 0, none⟩ = some (.slice (some ⟨r, 0, none⟩) T.length cap)
  c1 : w.cell? ⟨b, 1, none⟩ = some (.int .i64 i)
  c2 : w.cell? ⟨b, 2, none⟩ = some (.bool bad)
  f1 : w.frozen? ⟨b, 1, none⟩ = false
  f2 : w.frozen? ⟨b, 2, none⟩ = false
  row : ∀ j : Nat, j < T.length → w.cell? ⟨r, j * 4, none⟩ = some (.int .u8 (tk T j).k) ∧ w.cell? ⟨r, j * 4 + 1, none⟩ = some (.string (bs (tk T j).S)) ∧ w.cell? ⟨r, j * 4 + 2, none⟩ = some (.int .i64 (tk T j).N) ∧ w.cell? ⟨r, j * 4 + 3, none⟩ = some (.int .i64 (tk T j).at_)
  hi : i < T.length
  hn : T.length ≤ 802
  fin : ∀ j : Nat, j < T.length → (tk T j).fin = false → j + 1 < T.length
  ne : r ≠ b
  ltb : b < w.heap.size
  ltr : r < w.heap.size

theorem PS.kept {w w' : World} {b r cap : Nat} {T : List PT} {i : Nat} {bad : Bool} (h : PS w b r cap T i bad) (hb : w'.heap[b]? = w.heap[b]?) (hr : w'.heap[r]? = w.heap[r]?) (hsz : w.heap.size ≤ w'.heap.size) : PS w' b r cap T i bad := by
  have e1 : ∀ o, w'.cell? ⟨b, o, none⟩ = w.cell? ⟨b, o, none⟩ := fun o => World.cell?_of_block (a := ⟨b, o, none⟩) hb
  have e2 : ∀ o, w'.cell? ⟨r, o, none⟩ = w.cell? ⟨r, o, none⟩ := fun o => World.cell?_of_block (a := ⟨r, o, none⟩) hr
  have e3 : ∀ o, w'.frozen? ⟨b, o, none⟩ = w.frozen? ⟨b, o, none⟩ := fun o => World.frozen?_of_block (a := ⟨b, o, none⟩) hb
  exact ⟨by rw [e1]; exact h.c0, by rw [e1]; exact h.c1, by rw [e1]; exact h.c2, by rw [e3]; exact h.f1, by rw [e3]; exact h.f2,
    fun j hj => by rw [e2, e2, e2, e2]; exact h.row j hj, h.hi, h.hn, h.fin, h.ne, by have := h.ltb; omega, by have := h.ltr; omega⟩

theorem PS.grown {w w' : World} {b r cap : Nat} {T : List PT} {i : Nat} {bad : Bool} (h : PS w b r cap T i bad) {row : Option Nat} (hg : w.grownBy w' row) (h1 : row ≠ some b) (h2 : row ≠ some r) : PS w' b r cap T i bad :=
  h.kept (hg.block b h.ltb (fun e => h1 e.symm)) (hg.block r h.ltr (fun e => h2 e.symm)) hg.size

theorem heap_set_size (w : World) (a : Addr) (v : Value) : (w.setCell a v).heap.size = w.heap.size := by simp [World.setCell]

theorem set_same {w : World} {a : Addr} {v u : Value} (h : w.cell? a = some u) : (w.setCell a v).cell? a = some v := by
  apply World.cell?_setCell_same; exact h
theorem set_other {w : World} {a b : Addr} {v : Value} (h : a ≠ b) : (w.setCell a v).cell? b = w.cell? b := by
  apply World.cell?_setCell_other; exact h

theorem PS.next {w : World} {b r cap : Nat} {T : List PT} {i : Nat} {bad : Bool} (h : PS w b r cap T i bad) (hi : i + 1 < T.length) : PS (w.setCell ⟨b, 1, none⟩ (.int .i64 ((i + 1 : Nat) : Int))) b r cap T (i + 1) bad := by
  have hne := h.ne
  refine ⟨?_, set_same h.c1, ?_, by simpa using h.f1, by simpa using h.f2, ?_, hi, h.hn, h.fin, h.ne, by rw [heap_set_size]; exact h.ltb, by rw [heap_set_size]; exact h.ltr⟩
  · rw [set_other (by simp)]; exact h.c0
  · rw [set_other (by simp)]; exact h.c2
  · intro j hj
    have hne' : b ≠ r := fun e => hne e.symm
    rw [set_other (by simp [hne']), set_other (by simp [hne']), set_other (by simp [hne']), set_other (by simp [hne'])]
    exact h.row j hj

theorem PS.setBad {w : World} {b r cap : Nat} {T : List PT} {i : Nat} {bad : Bool} (h : PS w b r cap T i bad) (bad' : Bool) : PS (w.setCell ⟨b, 2, none⟩ (.bool bad')) b r cap T i bad' := by
  have hne := h.ne
  refine ⟨?_, ?_, set_same h.c2, by simpa using h.f1, by simpa using h.f2, ?_, h.hi, h.hn, h.fin, h.ne, by rw [heap_set_size]; exact h.ltb, by rw [heap_set_size]; exact h.ltr⟩
  · rw [set_other (by simp)]; exact h.c0
  · rw [set_other (by simp)]; exact h.c1
  · intro j hj
    have hne' : b ≠ r := fun e => hne e.symm
    rw [set_other (by simp [hne']), set_other (by simp [hne']), set_other (by simp [hne']), set_other (by simp [hne'])]
    exact h.row j hj

theorem PS.drewN {w : World} {b r cap : Nat} {T : List PT} {i : Nat} {bad : Bool} (h : PS w b r cap T i bad) (n : Nat) : PS (w.drewN n) b r cap T i bad :=
  h.kept rfl rfl (Nat.le_refl _)

theorem grownBy_refl (w : World) (row : Option Nat) : w.grownBy w row := ⟨rfl, rfl, rfl, Nat.le_refl _, fun _ _ _ => rfl⟩
theorem grownBy_trans {a b c : World} {row : Option Nat} (h : a.grownBy b row) (k : b.grownBy c row) : a.grownBy c row :=
  ⟨k.os.trans h.os, k.tape.trans h.tape, k.output.trans h.output, Nat.le_trans h.size k.size, fun i hi hne => (k.block i (Nat.lt_of_lt_of_le hi h.size) hne).trans (h.block i hi hne)⟩
theorem grownBy_drewN {a b : World} {row : Option Nat} (h : a.grownBy b row) (n : Nat) : a.grownBy (b.drewN n) row :=
  grownBy_trans h ⟨rfl, rfl, rfl, Nat.le_refl _, fun _ _ _ => rfl⟩
theorem grownBy_drew {a b : World} {row : Option Nat} (h : a.grownBy b row) : a.grownBy b.drew row :=
  grownBy_trans h ⟨rfl, rfl, rfl, Nat.le_refl _, fun _ _ _ => rfl⟩
theorem grownBy_set {a b : World} {k : Nat} (h : a.grownBy b (some k)) (o : Nat) (v : Value) : a.grownBy (b.setCell ⟨k, o, none⟩ v) (some k) :=
  grownBy_trans h ⟨rfl, rfl, rfl, by rw [heap_set_size]; exact Nat.le_refl _, fun i _ hne => Below.heap_setCell _ _ _ _ (by intro e; exact hne (by rw [e]))⟩
/-- A store into a block that was not there yet. -/
theorem grownBy_setNew {a b : World} {row : Option Nat} (h : a.grownBy b row) {k : Nat} (hk : a.heap.size ≤ k) (o : Nat) (v : Value) : a.grownBy (b.setCell ⟨k, o, none⟩ v) row :=
  ⟨h.os, h.tape, h.output, by rw [heap_set_size]; exact h.size, fun i hi hne => by rw [Below.heap_setCell _ _ _ _ (by show i ≠ k; omega)]; exact h.block i hi hne⟩
theorem grownBy_alloc' {a b : World} {row : Option Nat} (h : a.grownBy b row) (o : Obj) : a.grownBy (b.alloc o) row := grownBy_trans h (World.grownBy_alloc b o row)
theorem grownBy_none {a b : World} {row : Option Nat} (h : a.grownBy b none) : a.grownBy b row := ⟨h.os, h.tape, h.output, h.size, fun k hk _ => h.block k hk (by simp)⟩
/-- What was written was new to the caller. -/
theorem grownBy_new {a b c : World} {row : Option Nat} (h : a.grownBy b row) {k : Nat} (g : b.grownBy c (some k)) (hk : a.heap.size ≤ k) : a.grownBy c row :=
  ⟨g.os.trans h.os, g.tape.trans h.tape, g.output.trans h.output, Nat.le_trans h.size g.size, fun i hi hne => by rw [g.block i (Nat.lt_of_lt_of_le hi h.size) (by intro e; injection e with e; omega)]; exact h.block i hi hne⟩
theorem below_grown {w w' : World} (h : w.grownBy w' none) : Below w.heap.size w w' := ⟨h.os, h.tape, h.output, h.size, fun k hk => h.block k hk (by simp)⟩

section
variable {w : World} {b r cap : Nat} {T : List PT} {i : Nat} {bad : Bool}

set_option maxRecDepth 100000 in
set_option maxHeartbeats 400000 in
theorem rplace_any (h : PS w b r cap T i bad) :
    Calls Tryz.prog 130 #[.pointer (some ⟨b, 0, none⟩)] w fun e w' => e = .returned (.int .i64 (tk T i).at_) ∧ ∃ n, w' = w.drewN n := by
  have c0 := h.c0
  have c1 := h.c1
  have hi := h.hi
  have hn := h.hn
  obtain ⟨r0, r1, r2, r3⟩ := h.row i hi
  have H := hide h
  clear h
  go_enter Tryz.func130, Tryz.ntmps130
  go_wp2
  go_quiet (fail)
  go_wp2
  go_ret
  exact ⟨rfl, _, rfl⟩

/-- Does that word stand here? -/
def sees (t : PT) (wd : ByteArray) : Bool := t.k == 119 && ((bs t.S).toList == wd.toList)

def WordPost (w : World) (b r cap : Nat) (T : List PT) (i : Nat) (bad : Bool) (wd : ByteArray) (e : Ending) (w' : World) : Prop :=
  e = .returned (.bool (!bad && sees (tk T i) wd)) ∧ PS w' b r cap T (if !bad && sees (tk T i) wd then i + 1 else i) bad ∧ w.grownBy w' (some b)

set_option maxRecDepth 100000 in
set_option maxHeartbeats 400000 in
theorem rword_bad (h : PS w b r cap T i true) (wd : ByteArray) :
    Calls Tryz.prog 78 #[.pointer (some ⟨b, 0, none⟩), .string wd] w (WordPost w b r cap T i true wd) := by
  have c2 := h.c2
  have H := hide h
  clear h
  go_enter Tryz.func78, Tryz.ntmps78
  go_wp2
  go_quiet (fail)
  go_wp2
  go_ret
  exact ⟨rfl, H.out.drewN _, grownBy_drewN (grownBy_refl _ _) _⟩

set_option maxRecDepth 100000 in
set_option maxHeartbeats 400000 in
theorem rword_k (h : PS w b r cap T i false) (wd : ByteArray) (hk : ((tk T i).k == 119) = false) :
    Calls Tryz.prog 78 #[.pointer (some ⟨b, 0, none⟩), .string wd] w (WordPost w b r cap T i false wd) := by
  have c0 := h.c0
  have c1 := h.c1
  have c2 := h.c2
  have hi := h.hi
  have hn := h.hn
  obtain ⟨r0, r1, r2, r3⟩ := h.row i hi
  have hk' : (((tk T i).k : Int) == 119) = false := by simp at hk ⊢; omega
  have hS : Hid (sees (tk T i) wd = false) := by unfold Hid sees; rw [hk]; rfl
  have H := hide h
  clear h hk
  go_enter Tryz.func78, Tryz.ntmps78
  go_wp2
  go_quiet (fail)
  go_wp2
  go_ret
  refine ⟨by rw [hS.out]; rfl, ?_, grownBy_drewN (grownBy_refl _ _) _⟩
  rw [hS.out]
  exact H.out.drewN _

set_option maxRecDepth 100000 in
set_option maxHeartbeats 400000 in
theorem rword_w (h : PS w b r cap T i false) (wd : ByteArray) (hk : ((tk T i).k == 119) = true) :
    Calls Tryz.prog 78 #[.pointer (some ⟨b, 0, none⟩), .string wd] w (WordPost w b r cap T i false wd) := by
  have c0 := h.c0
  have c1 := h.c1
  have c2 := h.c2
  have f1 := h.f1
  have hi := h.hi
  have hn := h.hn
  obtain ⟨r0, r1, r2, r3⟩ := h.row i hi
  have hk' : (((tk T i).k : Int) == 119) = true := by simp at hk ⊢; omega
  have hS : Hid (∀ x, ((bs (tk T i).S).toList == wd.toList) = x → sees (tk T i) wd = x) := by intro x hx; unfold sees; rw [hk, hx]; rfl
  have hfin : Hid (i + 1 < T.length) := h.fin i hi (by simp at hk; simp [PT.fin, hk])
  have H := hide h
  clear h hk
  cases hx : ((bs (tk T i).S).toList == wd.toList)
  · go_enter Tryz.func78, Tryz.ntmps78
    go_wp2
    go_quiet (fail)
    go_wp2
    go_ret
    refine ⟨by rw [hS.out _ hx]; rfl, ?_, grownBy_drewN (grownBy_refl _ _) _⟩
    rw [hS.out _ hx]
    exact H.out.drewN _
  · go_enter Tryz.func78, Tryz.ntmps78
    go_wp2
    go_quiet (fail)
    go_wp2
    go_ret
    refine ⟨by rw [hS.out _ hx]; rfl, ?_, grownBy_set (grownBy_drewN (grownBy_refl _ _) _) _ _⟩
    rw [hS.out _ hx]
    exact (H.out.drewN _).next hfin.out

theorem rword_any (h : PS w b r cap T i bad) (wd : ByteArray) :
    Calls Tryz.prog 78 #[.pointer (some ⟨b, 0, none⟩), .string wd] w (WordPost w b r cap T i bad wd) := by
  cases bad
  · cases hk : ((tk T i).k == 119)
    · exact rword_k h wd hk
    · exact rword_w h wd hk
  · exact rword_bad h wd

def MustPost (w : World) (b r cap : Nat) (T : List PT) (i : Nat) (bad : Bool) (wd : ByteArray) (e : Ending) (w' : World) : Prop :=
  e = .returned (.tuple #[]) ∧ PS w' b r cap T (if !bad && sees (tk T i) wd then i + 1 else i) (bad || !(sees (tk T i) wd)) ∧ w.grownBy w' (some b)

set_option maxRecDepth 100000 in
set_option maxHeartbeats 400000 in
theorem rmust_any (h : PS w b r cap T i bad) (wd : ByteArray) :
    Calls Tryz.prog 41 #[.pointer (some ⟨b, 0, none⟩), .string wd] w (MustPost w b r cap T i bad wd) := by
  go_enter Tryz.func41, Tryz.ntmps41
  go_wp2_with fail
  refine (rword_any h wd).mono ?_
  rintro e w1 ⟨rfl, h1, hg⟩
  have c2 := h1.c2
  have f2 := h1.f2
  have Hg := hide hg
  have H := hide h1
  clear h h1 hg
  unfold MustPost
  cases bad <;> cases hs : sees (tk T i) wd
  all_goals
    have Hs := hide hs
    rw [hs] at H
    clear hs
    simp only [Bool.not_false, Bool.not_true, Bool.true_and, Bool.false_and, Bool.and_self, Bool.and_true, Bool.and_false, if_true, Bool.false_eq_true, if_false] at H ⊢
    go_wp2
    go_end0
    refine ⟨rfl, ?_, grownBy_set Hg.out _ _⟩
    rw [Hs.out]
    exact H.out.setBad _
end
end Go.Proofs.YtbdffcjganlblaaGreatDoor
