/-
  Own work. The document's tokens: one token.
-/
import Derived.Test.YtbdffcjganlblaaGreatDoorWalkB
namespace Go.Proofs.YtbdffcjganlblaaGreatDoor
open Go.RowKit
set_option linter.unusedVariables false
set_option linter.unusedSimpArgs false

def tokV (t : PT) : Value := .agg #[.int .u8 t.k, .string (bs t.S), .int .i64 t.N, .int .i64 t.at_]

def TokPost (l : List UInt8) (i : Nat) (w : World) (e : Ending) (w' : World) : Prop :=
  ∃ j : Nat, e = .returned (.tuple #[tokV (tokAt l i), .int .i64 j]) ∧ Below w.heap.size w w' ∧ i ≤ j ∧ j ≤ l.length ∧ ((tokAt l i).fin = false → j = (tokAt l i).nx)

theorem tokPost_mk {l : List UInt8} {i : Nat} {w w' : World} {t : PT} (ht : tokAt l i = t) {v : Value} (hv : v = tokV t) {j : Nat} {jv : Int} (hj : jv = j) (hb : Below w.heap.size w w') (h1 : i ≤ j) (h2 : j ≤ l.length) (h3 : t.fin = false → j = t.nx) :
    TokPost l i w (.returned (.tuple #[v, .int .i64 jv])) w' := by
  subst ht hv hj
  exact ⟨j, rfl, hb, h1, h2, h3⟩

theorem below_new (w : World) (o : Obj) : Below w.heap.size w (w.alloc o) := (Below.refl _ _).alloc (Nat.le_refl _) _

theorem tok_end (l : List UInt8) (i : Nat) (h : l.length ≤ i) : tokAt l i = ⟨101, [], i⟩ := by
  unfold tokAt; rw [List.drop_of_length_le h]
theorem tok_sign (s : ByteArray) (i : Nat) (h : i < s.size) (hg : signB (s[i].toNat : Int) = true) : tokAt s.data.toList i = ⟨s[i].toNat, [s[i]], i⟩ := by
  unfold tokAt; rw [drop_cons s i h]; simp only; rw [if_pos hg]
theorem tok_word (s : ByteArray) (i : Nat) (h : i < s.size) (hg : signB (s[i].toNat : Int) = false) (hl : letterB (s[i].toNat : Int) = true) :
    tokAt s.data.toList i = ⟨119, (s.data.toList.drop i).take (lead letterB (s.data.toList.drop i)), i⟩ := by
  unfold tokAt; rw [drop_cons s i h]; simp only; rw [if_neg (by simp [hg]), if_pos hl]
theorem tok_num (s : ByteArray) (i : Nat) (h : i < s.size) (hg : signB (s[i].toNat : Int) = false) (hl : letterB (s[i].toNat : Int) = false) (hd : 1 ≤ lead digitB (s.data.toList.drop i) ∧ lead digitB (s.data.toList.drop i) ≤ 4) :
    tokAt s.data.toList i = ⟨110, (s.data.toList.drop i).take (lead digitB (s.data.toList.drop i)), i⟩ := by
  unfold tokAt; rw [drop_cons s i h] at hd ⊢; simp only; rw [if_neg (by simp [hg]), if_neg (by simp [hl]), if_pos hd]
theorem tok_none (s : ByteArray) (i : Nat) (h : i < s.size) (hg : signB (s[i].toNat : Int) = false) (hl : letterB (s[i].toNat : Int) = false) (hd : ¬ (1 ≤ lead digitB (s.data.toList.drop i) ∧ lead digitB (s.data.toList.drop i) ≤ 4)) :
    tokAt s.data.toList i = ⟨120, [], i⟩ := by
  unfold tokAt; rw [drop_cons s i h] at hd ⊢; simp only; rw [if_neg (by simp [hg]), if_neg (by simp [hl]), if_neg hd]

theorem ext_one (s : ByteArray) (i : Nat) (h : i < s.size) : s.extract i (i + 1) = bs [s[i]] := by
  rw [ext_bs, drop_cons s i h]; simp

theorem dval_snoc (l : List UInt8) (c : UInt8) : dval (l ++ [c]) = 10 * dval l + (c.toNat - 48) := by
  simp [dval]
theorem dval_lt (l : List UInt8) (h : ∀ c ∈ l, c.toNat ≤ 57) : dval l < 10 ^ l.length := by
  have : ∀ r : List UInt8, (∀ c ∈ r, c.toNat ≤ 57) → dval r.reverse < 10 ^ r.length := by
    intro r
    induction r with
    | nil => intro _; simp [dval]
    | cons c r ih =>
      intro hr
      rw [List.reverse_cons, dval_snoc]
      have h1 := ih (fun x hx => hr x (List.mem_cons_of_mem _ hx))
      have h2 := hr c (List.mem_cons_self)
      simp only [List.length_cons, Nat.pow_succ]
      omega
  have := this l.reverse (by simpa using h)
  simpa using this
theorem take_more (s : ByteArray) (i k : Nat) (h1 : i ≤ k) (h2 : k < s.size) : (s.data.toList.drop i).take (k + 1 - i) = (s.data.toList.drop i).take (k - i) ++ [s[k]] := by
  rw [show k + 1 - i = (k - i) + 1 by omega, List.take_succ_eq_append_getElem (by simp; omega)]
  have e : (s.data.toList.drop i)[k - i]'(by simp; omega) = s[k] := by
    rw [List.getElem_drop]
    have h3 : i + (k - i) = k := by omega
    simp only [h3]
    rfl
  rw [e]

set_option maxRecDepth 100000 in
set_option maxHeartbeats 400000 in
theorem rtoken_end (s : ByteArray) (i : Nat) (w : World) (hs : s.size ≤ 800) (hi : i = s.size) :
    Calls Tryz.prog 77 #[.string s, .int .i64 i] w (TokPost s.data.toList i w) := by
  have hn : ¬ (i : Int) < s.size := by omega
  have Ht := hide (tok_end s.data.toList i (by simp [hi]))
  have hi2 : i ≤ s.size := by omega
  clear hi
  go_enter Tryz.func77, Tryz.ntmps77
  go_wp2
  exact bodyPost_ret (v := .tuple #[tokV ⟨101, [], i⟩, .int .i64 i]) (by simp [results, Tryz.results77, go_sem, tokV, PT.S, PT.N, bs]) rfl
    (tokPost_mk Ht.out rfl rfl (below_new _ _) (Nat.le_refl _) (by simpa using hi2) (by simp [PT.fin]))

theorem u8_lt (c : UInt8) : (c.toNat : Int) < 256 := by have := c.toNat_lt; omega

set_option maxRecDepth 100000 in
set_option maxHeartbeats 400000 in
theorem rtoken_sign (s : ByteArray) (i : Nat) (w : World) (hs : s.size ≤ 800) (hi : i < s.size) (hg : signB (s[i].toNat : Int) = true) :
    Calls Tryz.prog 77 #[.string s, .int .i64 i] w (TokPost s.data.toList i w) := by
  have Ht := hide (tok_sign s i hi hg)
  have He := hide (ext_one s i hi)
  have hq : ((s[i].toNat : Int) = 44 ∨ (s[i].toNat : Int) = 59) ∨ (s[i].toNat : Int) = 58 := by simpa [signB] using hg
  have Hk : Hid (s[i].toNat ≠ 110 ∧ s[i].toNat ≠ 101 ∧ s[i].toNat ≠ 120) := by unfold Hid; omega
  have key : ∀ b1 b2 b3 : Bool, ((s[i].toNat : Int) == 44) = b1 → ((s[i].toNat : Int) == 59) = b2 → ((s[i].toNat : Int) == 58) = b3 → (b1 || b2 || b3) = true → Calls Tryz.prog 77 #[.string s, .int .i64 i] w (TokPost s.data.toList i w) := by
    clear hg hq
    intro b1 b2 b3 h1 h2 h3 h4
    cases b1 <;> cases b2 <;> cases b3 <;> simp at h4 <;> (try clear h4)
    all_goals
      go_enter Tryz.func77, Tryz.ntmps77
      go_wp2
      refine bodyPost_ret (v := .tuple #[tokV ⟨s[i].toNat, [s[i]], i⟩, .int .i64 (i + 1)]) ?_ rfl
        (tokPost_mk Ht.out rfl (j := i + 1) (by omega) (below_new _ _) (by omega) (by simp; omega) (by intro _; simp [PT.nx]))
      have hk := Hk.out
      simp [results, Tryz.results77, go_sem, tokV, PT.S, PT.N, He.out, hk.1]
  refine key _ _ _ rfl rfl rfl ?_
  simpa [signB] using hg

set_option maxRecDepth 100000 in
set_option maxHeartbeats 400000 in
theorem rtoken_word (s : ByteArray) (i : Nat) (w : World) (hs : s.size ≤ 800) (hi : i < s.size) (hg : signB (s[i].toNat : Int) = false) (hl : letterB (s[i].toNat : Int) = true) :
    Calls Tryz.prog 77 #[.string s, .int .i64 i] w (TokPost s.data.toList i w) := by
  have Ht := hide (tok_word s i hi hg hl)
  have hg1 : ((s[i].toNat : Int) == 44) = false := by simp [signB] at hg; simp [hg]
  have hg2 : ((s[i].toNat : Int) == 59) = false := by simp [signB] at hg; simp [hg]
  have hg3 : ((s[i].toNat : Int) == 58) = false := by simp [signB] at hg; simp [hg]
  clear hg
  go_enter Tryz.func77, Tryz.ntmps77
  go_wp2_with (go_at_call 118; refine (rIsLetter_any _ _).mono ?_; rintro e w' ⟨rfl, rfl⟩)
  go_loop [1] (fun t => ∃ k : Nat, i ≤ k ∧ k ≤ s.size ∧ t = .int .i64 k ∧ Hid (lead letterB (s.data.toList.drop i) = (k - i) + lead letterB (s.data.toList.drop k))) (fun t => s.size - (intOf t).toNat)
  case atStart => exact ⟨i, Nat.le_refl _, by omega, rfl, by simp [Hid]⟩
  case round =>
    clear hl
    obtain ⟨k, hk1, hk2, rfl, hld⟩ := hrel
    have hend : lead letterB (s.data.toList.drop k) = 0 → ∀ x : World, Below w.heap.size w x → TokPost s.data.toList i w (.returned (.tuple #[tokV ⟨119, (s.data.toList.drop i).take (k - i), i⟩, .int .i64 k])) x := by
      intro h0 x hx
      have h1 := hld.out
      rw [h0] at h1
      have h2 := Ht.out
      rw [h1] at h2
      simp only [Nat.add_zero] at h2
      exact tokPost_mk h2 rfl (j := k) rfl hx hk1 (by simpa using hk2) (by intro _; simp [PT.nx, List.length_take]; omega)
    have Hend := hide hend
    clear hend
    have he : s.extract i k = bs ((s.data.toList.drop i).take (k - i)) := ext_bs s i k
    have He := hide he
    clear he
    by_cases hlt : k < s.size
    · by_cases hp : letterB (s[k].toNat : Int) = true
      · have hy := hide (lead_yes letterB s k hlt hp)
        go_wp2_with (go_at_call 118; refine (rIsLetter_any _ _).mono ?_; rintro e w' ⟨rfl, rfl⟩)
        go_round
        case rel => exact ⟨k + 1, by omega, by omega, by go_num, by have := hld.out; have := unhide hy; unfold Hid; omega⟩
        case measure => simp [intOf]; omega
      · have hp' : letterB (s[k].toNat : Int) = false := by simpa using hp
        have hy := hide (lead_no letterB s k hlt hp')
        clear hp
        go_wp2_with (go_at_call 118; refine (rIsLetter_any _ _).mono ?_; rintro e w' ⟨rfl, rfl⟩)
        refine bodyPost_ret (v := .tuple #[tokV ⟨119, (s.data.toList.drop i).take (k - i), i⟩, .int .i64 k]) ?_ rfl (Hend.out hy.out _ (below_new _ _))
        simp [results, Tryz.results77, go_sem, tokV, PT.S, PT.N, He.out]
    · have hy := hide (lead_end letterB s k (by omega))
      go_wp2
      refine bodyPost_ret (v := .tuple #[tokV ⟨119, (s.data.toList.drop i).take (k - i), i⟩, .int .i64 k]) ?_ rfl (Hend.out hy.out _ (below_new _ _))
      simp [results, Tryz.results77, go_sem, tokV, PT.S, PT.N, He.out]

theorem mem_lead (P : Int → Bool) : ∀ (l : List UInt8) (n : Nat), n ≤ lead P l → ∀ c ∈ l.take n, P (c.toNat : Int) = true
  | [], n, _, c, h => by simp at h
  | d :: r, 0, _, c, h => by simp at h
  | d :: r, n + 1, hn, c, h => by
    simp only [lead] at hn
    split at hn
    · rename_i hd
      rcases List.mem_cons.1 (by simpa using h) with rfl | h'
      · exact hd
      · exact mem_lead P r n (by omega) c h'
    · omega

set_option maxRecDepth 100000 in
set_option maxHeartbeats 800000 in
theorem rtoken_num (s : ByteArray) (i : Nat) (w : World) (hs : s.size ≤ 800) (hi : i < s.size) (hg : signB (s[i].toNat : Int) = false) (hl : letterB (s[i].toNat : Int) = false) :
    Calls Tryz.prog 77 #[.string s, .int .i64 i] w (TokPost s.data.toList i w) := by
  have Ht := hide (tok_num s i hi hg hl)
  have Hx := hide (tok_none s i hi hg hl)
  have hg1 : ((s[i].toNat : Int) == 44) = false := by simp [signB] at hg; simp [hg]
  have hg2 : ((s[i].toNat : Int) == 59) = false := by simp [signB] at hg; simp [hg]
  have hg3 : ((s[i].toNat : Int) == 58) = false := by simp [signB] at hg; simp [hg]
  clear hg
  go_enter Tryz.func77, Tryz.ntmps77
  go_wp2_with (go_at_call 118; refine (rIsLetter_any _ _).mono ?_; rintro e w' ⟨rfl, rfl⟩)
  go_loop [8, 1] (fun n t => ∃ k d : Nat, i ≤ k ∧ k ≤ s.size ∧ k ≤ i + 5 ∧ t = .int .i64 k ∧ n = .int .i64 d ∧ d < 100000 ∧ Hid (d = dval ((s.data.toList.drop i).take (k - i))) ∧ Hid (lead digitB (s.data.toList.drop i) = (k - i) + lead digitB (s.data.toList.drop k))) (fun _ t => s.size - (intOf t).toNat)
  case atStart => exact ⟨i, 0, Nat.le_refl _, by omega, by omega, rfl, rfl, by omega, by simp [Hid, dval], by simp [Hid]⟩
  case round =>
    clear hl
    obtain ⟨k, d, hk1, hk2, hk3, rfl, rfl, hdl, hdv, hld⟩ := hrel
    have hfin : (lead digitB (s.data.toList.drop k) = 0 ∨ k = i + 5) → ∀ x : World, Below w.heap.size w x →
        (k = i ∨ k = i + 5 → TokPost s.data.toList i w (.returned (.tuple #[tokV ⟨120, [], i⟩, .int .i64 k])) x) ∧
        (¬ k = i → ¬ k = i + 5 → TokPost s.data.toList i w (.returned (.tuple #[.agg #[.int .u8 110, .string (bs []), .int .i64 d, .int .i64 i], .int .i64 k])) x) := by
      intro h0 x hx
      have h1 := hld.out
      constructor
      · intro h2
        have h3 := Hx.out (by omega)
        exact tokPost_mk h3 rfl (j := k) rfl hx hk1 (by simpa using hk2) (by simp [PT.fin])
      · intro h2 h2'
        have h3 := Ht.out (by omega)
        rw [show lead digitB (s.data.toList.drop i) = k - i by omega] at h3
        exact tokPost_mk h3 (by simp [tokV, PT.S, PT.N, hdv.out]) (j := k) rfl hx hk1 (by simpa using hk2) (by intro _; simp [PT.nx, List.length_take]; omega)
    have Hfin := hide hfin
    clear hfin
    by_cases h5 : k = i + 5
    · have hz1 : ((k : Int) == i) = false := by simp; omega
      have hz2 : ¬ ((k : Int) - i < 5) := by omega
      have hz3 : (4 : Int) < (k : Int) - i := by omega
      have H5 := hide h5
      clear h5
      by_cases hlt : k < s.size
      · by_cases hp : digitB (s[k].toNat : Int) = true
        all_goals
          go_wp2_with (go_at_call 119; refine (rIsDigit_any _ _).mono ?_; rintro e w' ⟨rfl, rfl⟩)
          refine bodyPost_ret (v := .tuple #[tokV ⟨120, [], i⟩, .int .i64 k]) ?_ rfl ((Hfin.out (.inr H5.out) _ (below_new _ _)).1 (.inr H5.out))
          simp [results, Tryz.results77, go_sem, tokV, PT.S, PT.N, bs]
      · go_wp2
        refine bodyPost_ret (v := .tuple #[tokV ⟨120, [], i⟩, .int .i64 k]) ?_ rfl ((Hfin.out (.inr H5.out) _ (below_new _ _)).1 (.inr H5.out))
        simp [results, Tryz.results77, go_sem, tokV, PT.S, PT.N, bs]
    · have hk5 : k < i + 5 := by omega
      clear h5
      by_cases hyes : ∃ h : k < s.size, digitB (s[k].toNat : Int) = true
      · obtain ⟨hlt, hp⟩ := hyes
        have hy := hide (lead_yes digitB s k hlt hp)
        have htm := hide (take_more s i k hk1 hlt)
        have hb : (48 : Int) ≤ (s[k].toNat : Int) ∧ (s[k].toNat : Int) ≤ 57 := by simpa [digitB] using hp
        have hdd : Hid (dval ((s.data.toList.drop i).take (k + 1 - i)) = 10 * d + (s[k].toNat - 48)) := by
          unfold Hid; rw [htm.out, dval_snoc, ← hdv.out]
        have hd5 : 10 * d + (s[k].toNat - 48) < 100000 := by
          have h1 := dval_lt ((s.data.toList.drop i).take (k + 1 - i)) (by
            intro c hc
            have := mem_lead digitB (s.data.toList.drop i) (k + 1 - i) (by have := hld.out; have := unhide hy; omega) c hc
            simp [digitB] at this
            omega)
          rw [hdd.out] at h1
          have h2 : ((s.data.toList.drop i).take (k + 1 - i)).length ≤ 5 := by simp; omega
          have h3 : 10 ^ ((s.data.toList.drop i).take (k + 1 - i)).length ≤ 10 ^ 5 := Nat.pow_le_pow_right (by omega) h2
          omega
        obtain ⟨hb1, hb2⟩ := hb
        go_wp2_with (go_at_call 119; refine (rIsDigit_any _ _).mono ?_; rintro e w' ⟨rfl, rfl⟩)
        go_round
        case rel => exact ⟨k + 1, 10 * d + (s[k].toNat - 48), by omega, by omega, by omega, by go_num, by go_num, hd5, by rw [hdd.out]; rfl, by have := hld.out; have := unhide hy; unfold Hid; omega⟩
        case measure => simp [intOf]; omega
      · have h0 : lead digitB (s.data.toList.drop k) = 0 := by
          by_cases hlt : k < s.size
          · exact lead_no digitB s k hlt (by
              cases hq : digitB (s[k].toNat : Int)
              · rfl
              · exact absurd ⟨hlt, hq⟩ hyes)
          · exact lead_end digitB s k (by omega)
        have H0 := hide h0
        clear h0
        have Hk := hide hk5
        by_cases hki : k = i
        · have hz1 : ((k : Int) == i) = true := by simp; omega
          have Hki := hide hki
          clear hki
          by_cases hlt : k < s.size
          · have hp : digitB (s[k].toNat : Int) = false := by
              cases hq : digitB (s[k].toNat : Int)
              · rfl
              · exact absurd ⟨hlt, hq⟩ hyes
            clear hyes
            go_wp2_with (go_at_call 119; refine (rIsDigit_any _ _).mono ?_; rintro e w' ⟨rfl, rfl⟩)
            refine bodyPost_ret (v := .tuple #[tokV ⟨120, [], i⟩, .int .i64 k]) ?_ rfl ((Hfin.out (.inl H0.out) _ (below_new _ _)).1 (.inl Hki.out))
            simp [results, Tryz.results77, go_sem, tokV, PT.S, PT.N, bs]
          · clear hyes
            go_wp2
            refine bodyPost_ret (v := .tuple #[tokV ⟨120, [], i⟩, .int .i64 k]) ?_ rfl ((Hfin.out (.inl H0.out) _ (below_new _ _)).1 (.inl Hki.out))
            simp [results, Tryz.results77, go_sem, tokV, PT.S, PT.N, bs]
        · have hz1 : ((k : Int) == i) = false := by simp; omega
          have hz3 : ¬ (4 : Int) < (k : Int) - i := by omega
          have Hki := hide hki
          clear hki
          by_cases hlt : k < s.size
          · have hp : digitB (s[k].toNat : Int) = false := by
              cases hq : digitB (s[k].toNat : Int)
              · rfl
              · exact absurd ⟨hlt, hq⟩ hyes
            clear hyes
            go_wp2_with (go_at_call 119; refine (rIsDigit_any _ _).mono ?_; rintro e w' ⟨rfl, rfl⟩)
            refine bodyPost_ret (v := .tuple #[.agg #[.int .u8 110, .string (bs []), .int .i64 d, .int .i64 i], .int .i64 k]) ?_ rfl ((Hfin.out (.inl H0.out) _ (below_new _ _)).2 Hki.out (by have := Hk.out; omega))
            simp [results, Tryz.results77, go_sem, bs]
          · clear hyes
            go_wp2
            refine bodyPost_ret (v := .tuple #[.agg #[.int .u8 110, .string (bs []), .int .i64 d, .int .i64 i], .int .i64 k]) ?_ rfl ((Hfin.out (.inl H0.out) _ (below_new _ _)).2 Hki.out (by have := Hk.out; omega))
            simp [results, Tryz.results77, go_sem, bs]

/-- token, at whatever place of the text. -/
theorem rtoken_any (s : ByteArray) (i : Nat) (w : World) (hs : s.size ≤ 800) (hi : i ≤ s.size) :
    Calls Tryz.prog 77 #[.string s, .int .i64 i] w (TokPost s.data.toList i w) := by
  by_cases h1 : i = s.size
  · exact rtoken_end s i w hs h1
  · have h2 : i < s.size := by omega
    cases hg : signB (s[i].toNat : Int)
    · cases hl : letterB (s[i].toNat : Int)
      · exact rtoken_num s i w hs h2 hg hl
      · exact rtoken_word s i w hs h2 hg hl
    · exact rtoken_sign s i w hs h2 hg
end Go.Proofs.YtbdffcjganlblaaGreatDoor
