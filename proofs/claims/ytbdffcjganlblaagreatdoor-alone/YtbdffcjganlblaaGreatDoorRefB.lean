/-
  Own work. The document's tokens: all of a text.
-/
import Derived.Test.YtbdffcjganlblaaGreatDoorRefA
namespace Go.Proofs.YtbdffcjganlblaaGreatDoor
open Go.RowKit
set_option linter.unusedVariables false
set_option linter.unusedSimpArgs false

def tokCells (t : PT) : List Value := [.int .u8 t.k, .string (bs t.S), .int .i64 t.N, .int .i64 t.at_]
def tokRow (ts : List PT) : List Value := ts.flatMap tokCells
theorem tokRow_snoc (ts : List PT) (t : PT) : tokRow (ts ++ [t]) = tokRow ts ++ tokCells t := by simp [tokRow]
theorem tokRow_length (ts : List PT) : (tokRow ts).length = ts.length * 4 := by
  induction ts with
  | nil => rfl
  | cons t r ih => simp only [tokRow, List.flatMap_cons, List.length_append, List.length_cons] at *; rw [ih]; simp [tokCells]; omega

def allToks (l : List UInt8) : List PT := toks (l.length + 1) l 0
def finI (k : Int) : Nat := if k = 101 ∨ k = 120 then 0 else 1

theorem finI_of (t : PT) : t.fin = true → finI (t.k : Int) = 0 := by
  intro h
  simp only [PT.fin, Bool.or_eq_true, beq_iff_eq] at h
  unfold finI
  rw [if_pos (by omega)]
theorem finI_no (t : PT) : t.fin = false → (t.k : Int) ≠ 101 ∧ (t.k : Int) ≠ 120 := by
  intro h
  simp only [PT.fin, Bool.or_eq_false_iff, beq_eq_false_iff_ne, ne_eq] at h
  omega

/-- What is told at the head of each round. -/
def TokRel (s : ByteArray) (done : List PT) (p : Nat) (k : Int) : Prop :=
  (k ≠ 101 ∧ k ≠ 120 ∧ ∃ f, allToks s.data.toList = done ++ toks f s.data.toList p ∧ s.data.toList.length < p + f) ∨ ((k = 101 ∨ k = 120) ∧ allToks s.data.toList = done)

theorem tokRel_step {s : ByteArray} {done : List PT} {p : Nat} {k : Int} (h : TokRel s done p k) (hk : k ≠ 101 ∧ k ≠ 120) (hp : p ≤ s.size) {j : Nat} (hj : (nextTok s.data.toList p).fin = false → j = (nextTok s.data.toList p).nx) :
    TokRel s (done ++ [nextTok s.data.toList p]) j (nextTok s.data.toList p).k := by
  rcases h with ⟨_, _, f, h1, h2⟩ | ⟨h1, _⟩
  · have hl : s.data.toList.length = s.size := by simp
    cases f with
    | zero => omega
    | succ f =>
      rw [toks] at h1
      cases hf : (nextTok s.data.toList p).fin
      · rw [hf] at h1
        simp only [Bool.false_eq_true, if_false] at h1
        have h3 := finI_no _ hf
        have h4 := nextTok_long _ _ hf
        have h5 := nextTok_bound s.data.toList p (by omega)
        refine .inl ⟨h3.1, h3.2, f, ?_, ?_⟩
        · rw [hj hf, h1]; simp
        · rw [hj hf]; omega
      · rw [hf] at h1
        simp only [if_true] at h1
        refine .inr ⟨?_, h1⟩
        simp only [PT.fin, Bool.or_eq_true, beq_iff_eq] at hf
        omega
  · omega

theorem skip_yes (s : ByteArray) (q : Nat) (h : q < s.size) (hp : blankB (s[q].toNat : Int) = true) : skipB s.data.toList q = skipB s.data.toList (q + 1) := by
  unfold skipB; rw [lead_yes blankB s q h hp]; omega
theorem skip_no (s : ByteArray) (q : Nat) (h : q < s.size) (hp : blankB (s[q].toNat : Int) = false) : skipB s.data.toList q = q := by
  unfold skipB; rw [lead_no blankB s q h hp]; rfl
theorem skip_end (s : ByteArray) (q : Nat) (h : s.size ≤ q) : skipB s.data.toList q = q := by
  unfold skipB; rw [lead_end blankB s q h]; rfl

theorem grown_below {w w1 : World} (hb : Below w.heap.size w w1) : w.grownBy w1 none := ⟨hb.os, hb.tape, hb.output, hb.size, fun k hk _ => hb.block k hk⟩
theorem owns_below {w w1 : World} {base : Nat} {e : TypeId} {size : Nat} {v : Value} {n : Nat} {xs : List Value} (h : w.ownsRow base e size v n xs) (hb : Below w.heap.size w w1) : w1.ownsRow base e size v n xs :=
  h.kept (grown_below hb) (by cases h' : v.ownBlock <;> simp)
theorem cells_new (w : World) (c : Array Value) (t : TypeId) (n : Nat) (hn : n = w.heap.size) : ∀ j u, c.toList[j]? = some u → (w.alloc (.cells c t)).cell? ((⟨n, 0, none⟩ : Addr).add j) = some u := by
  intro j u hj
  have e : ((⟨n, 0, none⟩ : Addr).add j) = ⟨n, j, none⟩ := by simp [Addr.add]; intro h; exact h.symm
  rw [e, World.cell?_alloc_at c t n j hn]
  simpa using hj

theorem Tryz.infoTok : (Tryz.prog.info? 76).map (fun i => (i.zero, i.size, i.bytes)) = some (some (.agg #[.int .u8 0, .string ⟨#[]⟩, .int .i64 0, .int .i64 0]), 4, 40) := by kernel_rfl

set_option maxRecDepth 100000 in
set_option maxHeartbeats 1000000 in
theorem rTokens_any (s : ByteArray) (w : World) (hs : s.size ≤ 800) :
    Calls Tryz.prog 40 #[.string s] w fun e w' => ∃ v, e = .returned v ∧ w'.ownsRow w.heap.size 76 4 v (allToks s.data.toList).length (tokRow (allToks s.data.toList)) ∧ Below w.heap.size w w' := by
  obtain ⟨i0, hi, hz0, hz1, hz2⟩ := info_parts Tryz.infoTok
  go_enter Tryz.func40, Tryz.ntmps40
  go_wp2
  go_loopw [3, 4, 5] (fun v i k wr => ∃ (done : List PT) (p : Nat) (kk : Int), i = .int .i64 p ∧ k = .int .u8 kk ∧ p ≤ s.size ∧ done.length ≤ p + 1 ∧ (kk = 101 ∨ kk = 120 ∨ done.length ≤ p) ∧ TokRel s done p kk ∧ wr.ownsRow w.heap.size 76 4 v done.length (tokRow done) ∧ Below w.heap.size w wr)
    (fun _ i k _ => 2 * (s.size - (intOf i).toNat) + finI (intOf k))
  case atStart => exact ⟨[], 0, 32, rfl, rfl, by omega, by simp, by simp, .inl ⟨by decide, by decide, s.data.toList.length + 1, by simp [allToks], by omega⟩, World.ownsRow_nil _ _ _ _, Below.refl _ _⟩
  case round =>
    obtain ⟨done, p, kk, rfl, rfl, hp, hdl, hdk, hrel, hown, hnx⟩ := hrel
    by_cases hk : kk = 101 ∨ kk = 120
    · have Hrel := hide hrel
      clear hrel hdk
      rcases hk with rfl | rfl
      all_goals
        go_wp2
        go_ret
        refine ⟨_, rfl, ?_, hnx⟩
        have hd : allToks s.data.toList = done := by
          rcases Hrel.out with ⟨h1, h2, _⟩ | ⟨_, h⟩
          · omega
          · exact h
        rw [hd]
        exact hown
    · have hb1 : (kk != 101) = true := by rw [bne_iff_ne]; omega
      have hb2 : (kk != 120) = true := by rw [bne_iff_ne]; omega
      have Hkk : Hid (kk ≠ 101 ∧ kk ≠ 120) := by unfold Hid; omega
      have hdp : done.length ≤ p := by omega
      have Hrel := hide hrel
      have HF : Hid (finI kk = 1) := by unfold Hid finI; rw [if_neg hk]
      clear hrel hdk hk hdl
      go_wp2
      go_loop [4] (fun t => ∃ q : Nat, p ≤ q ∧ q ≤ s.size ∧ t = .int .i64 q ∧ Hid (skipB s.data.toList p = skipB s.data.toList q)) (fun t => s.size - (intOf t).toNat)
      case atStart => exact ⟨p, Nat.le_refl _, hp, rfl, rfl⟩
      case round =>
        obtain ⟨q, hq1, hq2, rfl, hsk⟩ := hrel
        by_cases hyes : ∃ h : q < s.size, blankB (s[q].toNat : Int) = true
        · obtain ⟨hlt, hbl⟩ := hyes
          have hy := hide (skip_yes s q hlt hbl)
          have hcc : (s[q].toNat : Int) = 32 ∨ (s[q].toNat : Int) = 10 := by simpa [blankB] using hbl
          have hcb : ((s[q].toNat : Int) == 32) = true ∨ (((s[q].toNat : Int) == 32) = false ∧ ((s[q].toNat : Int) == 10) = true) := by
            rcases hcc with h | h
            · left; simp [h]
            · right; simp [h]
          clear hcc hbl
          rcases hcb with hc | ⟨hc1, hc2⟩
          all_goals
            go_wp2
            go_round
            case rel => exact ⟨q + 1, by omega, by omega, by go_num, by have := hsk.out; have := unhide hy; unfold Hid; omega⟩
            case measure => simp [intOf]; omega
        · have Hq : Hid (skipB s.data.toList p = q) := by
            unfold Hid
            rw [hsk.out]
            by_cases hlt : q < s.size
            · exact skip_no s q hlt (by
                cases hh : blankB (s[q].toNat : Int)
                · rfl
                · exact absurd ⟨hlt, hh⟩ hyes)
            · exact skip_end s q (by omega)
          have hno : ∀ h : q < s.size, ((s[q].toNat : Int) == 32) = false ∧ ((s[q].toNat : Int) == 10) = false := by
            intro h
            cases hh : blankB (s[q].toNat : Int)
            · simpa [blankB] using hh
            · exact absurd ⟨h, hh⟩ hyes
          clear hyes hsk
          have hstep : ∀ j : Nat, ((tokAt s.data.toList q).fin = false → j = (tokAt s.data.toList q).nx) → TokRel s (done ++ [tokAt s.data.toList q]) j (tokAt s.data.toList q).k := by
            intro j hj
            have h1 := Hq.out
            have h2 : nextTok s.data.toList p = tokAt s.data.toList q := by unfold nextTok; rw [h1]
            rw [← h2] at hj ⊢
            exact tokRel_step Hrel.out Hkk.out hp hj
          have hlong := tokAt_long s.data.toList q
          have hfin := finI_of (tokAt s.data.toList q)
          have Hstep := hide hstep
          have Hlong := hide hlong
          have Hfin := hide hfin
          clear hstep hlong hfin
          have hatq : (tokAt s.data.toList q).at_ = q := (tokAt_bound s.data.toList q (by simpa using hq2)).1
          have Hatq := hide hatq
          clear hatq
          have hcases : (∃ h : q < s.size, ((s[q].toNat : Int) == 32) = false ∧ ((s[q].toNat : Int) == 10) = false) ∨ ¬ q < s.size := by
            by_cases hlt : q < s.size
            · exact .inl ⟨hlt, hno hlt⟩
            · exact .inr hlt
          clear hno
          rcases hcases with ⟨hlt, hc1, hc2⟩ | hlt
          all_goals
            go_wp2_with fail
            refine (rtoken_any s q wr hs hq2).mono ?_
            rintro e w1 ⟨j, rfl, hbw, hj1, hj2, hj3⟩
            have hj2' : j ≤ s.size := by simpa using hj2
            have Hj3 := hide hj3
            have hown1 := owns_below hown hbw
            have hsz1 := hbw.size
            have hsz0 := hnx.size
            have hne : some w1.heap.size ≠ Value.ownBlock u3 := by
              intro h
              have := (hown.lt _ h.symm).2
              omega
            have Hne := hide hne
            clear hj2 hj3 hne
            try clear hc1 hc2
            generalize tokAt s.data.toList q = t at *
            unfold tokV
            go_wp2_with (at_builtin; refine wpList_append_own _ rfl _ _ 68 rfl w.heap.size 76 i0 _ 4 40 Tryz.underlying68 hi hz0 hz1 hz2 rfl (by decide) _ _ _ rfl ((hown1.alloc _).alloc _) ⟨w1.heap.size + 1, 0, none⟩ 1 1 (tokCells t) rfl rfl ?c1 ?c2 ?c3 ?c4 ?c5 ?_)
            case c1 => exact cells_new (w1.alloc _) #[_, _, _, _] _ _ (by simp)
            case c2 => simp [tokCells, Value.oneCell']
            case c3 => unfold maxLen; omega
            case c4 => omega
            case c5 => simp; omega
            intro v' w2 hown2 hgr _
            have hcl : w2.cell? ⟨w1.heap.size, 0, none⟩ = some (.int .u8 t.k) := hgr.cell (by simp [go_sem]) Hne.out
            have hbel : Below w.heap.size w w2 := by
              refine (((hnx.trans (hbw.mono hnx.size)).alloc (by omega) _).alloc (by simp; omega) _).grown hgr (by simp; omega) ?_
              intro k hk
              exact (hown1.lt _ hk).1
            have Hbel := hide hbel
            have Hown2 := hide hown2
            clear hown2 hgr hbel hown1 hbw
            go_wp2
            go_roundw
            case rel =>
              refine ⟨done ++ [t], j, t.k, rfl, rfl, hj2', ?_, ?_, Hstep.out j Hj3.out, ?_, Hbel.out⟩
              · simp only [List.length_append, List.length_cons, List.length_nil]; omega
              · cases hf : t.fin
                · right; right
                  have h1 := Hlong.out hf
                  have h2 := Hj3.out hf
                  simp only [PT.nx, Hatq.out] at h2
                  simp only [List.length_append, List.length_cons, List.length_nil]; omega
                · simp only [PT.fin, Bool.or_eq_true, beq_iff_eq] at hf
                  omega
              · rw [tokRow_snoc]
                have := Hown2.out
                simpa using this
            case measure =>
              have h0 := HF.out
              simp only [intOf, h0]
              cases hf : t.fin
              · have h1 := Hlong.out hf
                have h2 := Hj3.out hf
                simp only [PT.nx, Hatq.out] at h2
                have h3 : finI (t.k : Int) ≤ 1 := by unfold finI; split <;> omega
                simp only [Int.toNat_natCast]
                omega
              · have h3 := Hfin.out hf
                rw [h3]
                simp only [Int.toNat_natCast]
                omega
end Go.Proofs.YtbdffcjganlblaaGreatDoor
