/-
  Own work. The document's tokens: all of a text.
-/
import Derived.Test.YtbdffcjganlblaaGreatDoorMHpAtoRefA
import Derived.Deep.QuietTactic
import Derived.BigQuiet
import Derived.RegionTactic
namespace Go.Proofs.YtbdffcjganlblaaGreatDoor
open Go.RowKit
set_option linter.unusedVariables false
set_option linter.unusedSimpArgs false

def tokCells (t : PT) : List Value := [.int .u8 t.k, .string (bs t.S), .int .i64 t.N, .int .i64 t.at_]
def tokRow (ts : List PT) : List Value := ts.flatMap tokCells
theorem tokRow_snoc (ts : List PT) (t : PT) : tokRow (ts ++ [t]) = tokRow ts ++ tokCells t := by simp [tokRow]
def allToks (l : List UInt8) : List PT := toks (l.length + 1) l 0
def finI (k : Int) : Nat := if k = 101 ∨ k = 120 then 0 else 1

theorem finI_of (t : PT) : t.fin = true → finI (t.k : Int) = 0 := by
  intro h
  simp only [PT.fin, Bool.or_eq_true, beq_iff_eq] at h
  unfold finI
  rw [if_pos (by omega)]
theorem finI_no (t : PT) : t.fin = false → (t.k : Int) ≠ 101 ∧ (t.k : Int) ≠ 120 := by
  intro h
  simp only [PT.fin, Bool.or_eq_false_iff, beq_eq_false_iff_ne, ne_eq] at h
  omega

/-- What is told at the head of each round. -/
def TokRel (s : ByteArray) (done : List PT) (p : Nat) (k : Int) : Prop :=
  (k ≠ 101 ∧ k ≠ 120 ∧ ∃ f, allToks s.data.toList = done ++ toks f s.data.toList p ∧ s.data.toList.length < p + f) ∨ ((k = 101 ∨ k = 120) ∧ allToks s.data.toList = done)

theorem tokRel_step {s : ByteArray} {done : List PT} {p : Nat} {k : Int} (h : TokRel s done p k) (hk : k ≠ 101 ∧ k ≠ 120) (hp : p ≤ s.size) {j : Nat} (hj : (nextTok s.data.toList p).fin = false → j = (nextTok s.data.toList p).nx) :
    TokRel s (done ++ [nextTok s.data.toList p]) j (nextTok s.data.toList p).k := by
  rcases h with ⟨_, _, f, h1, h2⟩ | ⟨h1, _⟩
  · have hl : s.data.toList.length = s.size := by simp
    cases f with
    | zero => omega
    | succ f =>
      rw [toks] at h1
      cases hf : (nextTok s.data.toList p).fin
      · rw [hf] at h1
        simp only [Bool.false_eq_true, if_false] at h1
        have h3 := finI_no _ hf
        have h4 := nextTok_long _ _ hf
        have h5 := nextTok_bound s.data.toList p (by omega)
        refine .inl ⟨h3.1, h3.2, f, ?_, ?_⟩
        · rw [hj hf, h1]; simp
        · rw [hj hf]; omega
      · rw [hf] at h1
        simp only [if_true] at h1
        refine .inr ⟨?_, h1⟩
        simp only [PT.fin, Bool.or_eq_true, beq_iff_eq] at hf
        omega
  · omega

theorem skip_yes (s : ByteArray) (q : Nat) (h : q < s.size) (hp : blankB (s[q].toNat : Int) = true) : skipB s.data.toList q = skipB s.data.toList (q + 1) := by
  unfold skipB; rw [lead_yes blankB s q h hp]; omega
theorem skip_no (s : ByteArray) (q : Nat) (h : q < s.size) (hp : blankB (s[q].toNat : Int) = false) : skipB s.data.toList q = q := by
  unfold skipB; rw [lead_no blankB s q h hp]; rfl
theorem skip_end (s : ByteArray) (q : Nat) (h : s.size ≤ q) : skipB s.data.toList q = q := by
  unfold skipB; rw [lead_end blankB s q h]; rfl

theorem grown_below {w w1 : World} (hb : Below w.heap.size w w1) : w.grownBy w1 none := ⟨hb.os, hb.tape, hb.output, hb.size, fun k hk _ => hb.block k hk⟩
theorem owns_below {w w1 : World} {base : Nat} {e : TypeId} {size : Nat} {v : Value} {n : Nat} {xs : List Value} (h : w.ownsRow base e size v n xs) (hb : Below w.heap.size w w1) : w1.ownsRow base e size v n xs :=
  h.kept (grown_below hb) (by cases h' : v.ownBlock <;> simp)
theorem cells_new (w : World) (c : Array Value) (t : TypeId) (n : Nat) (hn : n = w.heap.size) : ∀ j u, c.toList[j]? = some u → (w.alloc (.cells c t)).cell? ((⟨n, 0, none⟩ : Addr).add j) = some u := by
  intro j u hj
  have e : ((⟨n, 0, none⟩ : Addr).add j) = ⟨n, j, none⟩ := by simp [Addr.add]; intro h; exact h.symm
  rw [e, World.cell?_alloc_at c t n j hn]
  simpa using hj

theorem Tryz.infoTok : (Tryz.prog.info? 76).map (fun i => (i.zero, i.size, i.bytes)) = some (some (.agg #[.int .u8 0, .string ⟨#[]⟩, .int .i64 0, .int .i64 0]), 4, 40) := by kernel_rfl

set_option maxRecDepth 100000 in
set_option maxHeartbeats 1000000 in
theorem rTokens_any (s : ByteArray) (w : World) (hs : s.size ≤ 800) :
    Calls Tryz.prog 40 #[.string s] w fun e w' => ∃ v, e = .returned v ∧ w'.ownsRow w.heap.size 76 4 v (allToks s.data.toList).length (tokRow (allToks s.data.toList)) ∧ Below w.heap.size w w' := by
  obtain ⟨i0, hi, hz0, hz1, hz2⟩ := info_parts Tryz.infoTok
  go_enter Tryz.func40, Tryz.ntmps40
  go_wp2
  go_loopw [3, 4, 5] (fun v i k wr => ∃ (done : List PT) (p : Nat) (kk : Int), i = .int .i64 p ∧ k = .int .u8 kk ∧ p ≤ s.size ∧ done.length ≤ p + 1 ∧ (kk = 101 ∨ kk = 120 ∨ done.length ≤ p) ∧ TokRel s done p kk ∧ wr.ownsRow w.heap.size 76 4 v done.length (tokRow done) ∧ Below w.heap.size w wr)
    (fun _ i k _ => 2 * (s.size - (intOf i).toNat) + finI (intOf k))
  case atStart => exact ⟨[], 0, 32, rfl, rfl, by omega, by simp, by simp, .inl ⟨by decide, by decide, s.data.toList.length + 1, by simp [allToks], by omega⟩, World.ownsRow_nil _ _ _ _, Below.refl _ _⟩
  case round =>
    obtain ⟨done, p, kk, rfl, rfl, hp, hdl, hdk, hrel, hown, hnx⟩ := hrel
    by_cases hk : kk = 101 ∨ kk = 120
    · have Hrel := hide hrel
      clear hrel hdk
      rcases hk with rfl | rfl
      all_goals
        go_wp2
        go_ret
        refine ⟨_, rfl, ?_, hnx⟩
        have hd : allToks s.data.toList = done := by
          rcases Hrel.out with ⟨h1, h2, _⟩ | ⟨_, h⟩
          · omega
          · exact h
        rw [hd]
        exact hown
    · have hb1 : (kk != 101) = true := by rw [bne_iff_ne]; omega
      have hb2 : (kk != 120) = true := by rw [bne_iff_ne]; omega
      have Hkk : Hid (kk ≠ 101 ∧ kk ≠ 120) := by unfold Hid; omega
      have hdp : done.length ≤ p := by omega
      have Hrel := hide hrel
      have HF : Hid (finI kk = 1) := by unfold Hid finI; rw [if_neg hk]
      clear hrel hdk hk hdl
      go_wp2
      go_loop [4] (fun t => ∃ q : Nat, p ≤ q ∧ q ≤ s.size ∧ t = .int .i64 q ∧ Hid (skipB s.data.toList p = skipB s.data.toList q)) (fun t => s.size - (intOf t).toNat)
      case atStart => exact ⟨p, Nat.le_refl _, hp, rfl, rfl⟩
      case round =>
        obtain ⟨q, hq1, hq2, rfl, hsk⟩ := hrel
        by_cases hyes : ∃ h : q < s.size, blankB (s[q].toNat : Int) = true
        · obtain ⟨hlt, hbl⟩ := hyes
          have hy := hide (skip_yes s q hlt hbl)
          have hcc : (s[q].toNat : Int) = 32 ∨ (s[q].toNat : Int) = 10 := by simpa [blankB] using hbl
          have hcb : ((s[q].toNat : Int) == 32) = true ∨ (((s[q].toNat : Int) == 32) = false ∧ ((s[q].toNat : Int) == 10) = true) := by
            rcases hcc with h | h
            · left; simp [h]
            · right; simp [h]
          clear hcc hbl
          rcases hcb with hc | ⟨hc1, hc2⟩
          all_goals
            go_wp2
            go_round
            case rel => exact ⟨q + 1, by omega, by omega, by go_num, by have := hsk.out; have := unhide hy; unfold Hid; omega⟩
            case measure => simp [intOf]; omega
        · have Hq : Hid (skipB s.data.toList p = q) := by
            unfold Hid
            rw [hsk.out]
            by_cases hlt : q < s.size
            · exact skip_no s q hlt (by
                cases hh : blankB (s[q].toNat : Int)
                · rfl
                · exact absurd ⟨hlt, hh⟩ hyes)
            · exact skip_end s q (by omega)
          have hno : ∀ h : q < s.size, ((s[q].toNat : Int) == 32) = false ∧ ((s[q].toNat : Int) == 10) = false := by
            intro h
            cases hh : blankB (s[q].toNat : Int)
            · simpa [blankB] using hh
            · exact absurd ⟨h, hh⟩ hyes
          clear hyes hsk
          have hstep : ∀ j : Nat, ((tokAt s.data.toList q).fin = false → j = (tokAt s.data.toList q).nx) → TokRel s (done ++ [tokAt s.data.toList q]) j (tokAt s.data.toList q).k := by
            intro j hj
            have h1 := Hq.out
            have h2 : nextTok s.data.toList p = tokAt s.data.toList q := by unfold nextTok; rw [h1]
            rw [← h2] at hj ⊢
            exact tokRel_step Hrel.out Hkk.out hp hj
          have hlong := tokAt_long s.data.toList q
          have hfin := finI_of (tokAt s.data.toList q)
          have Hstep := hide hstep
          have Hlong := hide hlong
          have Hfin := hide hfin
          clear hstep hlong hfin
          have hatq : (tokAt s.data.toList q).at_ = q := (tokAt_bound s.data.toList q (by simpa using hq2)).1
          have Hatq := hide hatq
          clear hatq
          have hcases : (∃ h : q < s.size, ((s[q].toNat : Int) == 32) = false ∧ ((s[q].toNat : Int) == 10) = false) ∨ ¬ q < s.size := by
            by_cases hlt : q < s.size
            · exact .inl ⟨hlt, hno hlt⟩
            · exact .inr hlt
          clear hno
          rcases hcases with ⟨hlt, hc1, hc2⟩ | hlt
          all_goals
            go_wp2_with fail
            refine (rtoken_any s q wr hs hq2).mono ?_
            rintro e w1 ⟨j, rfl, hbw, hj1, hj2, hj3⟩
            have hj2' : j ≤ s.size := by simpa using hj2
            have Hj3 := hide hj3
            have hown1 := owns_below hown hbw
            have hsz1 := hbw.size
            have hsz0 := hnx.size
            have hne : some w1.heap.size ≠ Value.ownBlock u3 := by
              intro h
              have := (hown.lt _ h.symm).2
              omega
            have Hne := hide hne
            clear hj2 hj3 hne
            try clear hc1 hc2
            generalize tokAt s.data.toList q = t at *
            unfold tokV
            go_wp2_with (at_builtin; refine wpList_append_own _ rfl _ _ 68 rfl w.heap.size 76 i0 _ 4 40 Tryz.underlying68 hi hz0 hz1 hz2 rfl (by decide) _ _ _ rfl ((hown1.alloc _).alloc _) ⟨w1.heap.size + 1, 0, none⟩ 1 1 (tokCells t) rfl rfl ?c1 ?c2 ?c3 ?c4 ?c5 ?_)
            case c1 => exact cells_new (w1.alloc _) #[_, _, _, _] _ _ (by simp)
            case c2 => simp [tokCells, Value.oneCell']
            case c3 => unfold maxLen; omega
            case c4 => omega
            case c5 => simp; omega
            intro v' w2 hown2 hgr _
            have hcl : w2.cell? ⟨w1.heap.size, 0, none⟩ = some (.int .u8 t.k) := hgr.cell (by simp [go_sem]) Hne.out
            have hbel : Below w.heap.size w w2 := by
              refine (((hnx.trans (hbw.mono hnx.size)).alloc (by omega) _).alloc (by simp; omega) _).grown hgr (by simp; omega) ?_
              intro k hk
              exact (hown1.lt _ hk).1
            have Hbel := hide hbel
            have Hown2 := hide hown2
            clear hown2 hgr hbel hown1 hbw
            go_wp2
            go_roundw
            case rel =>
              refine ⟨done ++ [t], j, t.k, rfl, rfl, hj2', ?_, ?_, Hstep.out j Hj3.out, ?_, Hbel.out⟩
              · simp only [List.length_append, List.length_cons, List.length_nil]; omega
              · cases hf : t.fin
                · right; right
                  have h1 := Hlong.out hf
                  have h2 := Hj3.out hf
                  simp only [PT.nx, Hatq.out] at h2
                  simp only [List.length_append, List.length_cons, List.length_nil]; omega
                · simp only [PT.fin, Bool.or_eq_true, beq_iff_eq] at hf
                  omega
              · rw [tokRow_snoc]
                have := Hown2.out
                simpa using this
            case measure =>
              have h0 := HF.out
              simp only [intOf, h0]
              cases hf : t.fin
              · have h1 := Hlong.out hf
                have h2 := Hj3.out hf
                simp only [PT.nx, Hatq.out] at h2
                have h3 : finI (t.k : Int) ≤ 1 := by unfold finI; split <;> omega
                simp only [Int.toNat_natCast]
                omega
              · have h3 := Hfin.out hf
                rw [h3]
                simp only [Int.toNat_natCast]
                omega
end Go.Proofs.YtbdffcjganlblaaGreatDoor

namespace Go.Proofs.YtbdffcjganlblaaGreatDoor
open Go.RowKit
set_option linter.unusedVariables false
set_option linter.unusedSimpArgs false

/-- Token number j. -/
def tk (T : List PT) (j : Nat) : PT := T.getD j ⟨101, [], 0⟩

/-- The parser in memory: block b; the tokens' row: block r. -/
structure PS (w : World) (b r cap : Nat) (T : List PT) (i : Nat) (bad : Bool) : Prop where
  c0 : w.cell? ⟨b, 0, none⟩ = some (.slice (some ⟨r, 0, none⟩) T.length cap)
  c1 : w.cell? ⟨b, 1, none⟩ = some (.int .i64 i)
  c2 : w.cell? ⟨b, 2, none⟩ = some (.bool bad)
  f1 : w.frozen? ⟨b, 1, none⟩ = false
  f2 : w.frozen? ⟨b, 2, none⟩ = false
  row : ∀ j : Nat, j < T.length → w.cell? ⟨r, j * 4, none⟩ = some (.int .u8 (tk T j).k) ∧ w.cell? ⟨r, j * 4 + 1, none⟩ = some (.string (bs (tk T j).S)) ∧ w.cell? ⟨r, j * 4 + 2, none⟩ = some (.int .i64 (tk T j).N) ∧ w.cell? ⟨r, j * 4 + 3, none⟩ = some (.int .i64 (tk T j).at_)
  hi : i < T.length
  hn : T.length ≤ 802
  fin : ∀ j : Nat, j < T.length → (tk T j).fin = false → j + 1 < T.length
  ne : r ≠ b
  ltb : b < w.heap.size
  ltr : r < w.heap.size

theorem PS.kept {w w' : World} {b r cap : Nat} {T : List PT} {i : Nat} {bad : Bool} (h : PS w b r cap T i bad) (hb : w'.heap[b]? = w.heap[b]?) (hr : w'.heap[r]? = w.heap[r]?) (hsz : w.heap.size ≤ w'.heap.size) : PS w' b r cap T i bad := by
  have e1 : ∀ o, w'.cell? ⟨b, o, none⟩ = w.cell? ⟨b, o, none⟩ := fun o => World.cell?_of_block (a := ⟨b, o, none⟩) hb
  have e2 : ∀ o, w'.cell? ⟨r, o, none⟩ = w.cell? ⟨r, o, none⟩ := fun o => World.cell?_of_block (a := ⟨r, o, none⟩) hr
  have e3 : ∀ o, w'.frozen? ⟨b, o, none⟩ = w.frozen? ⟨b, o, none⟩ := fun o => World.frozen?_of_block (a := ⟨b, o, none⟩) hb
  exact ⟨by rw [e1]; exact h.c0, by rw [e1]; exact h.c1, by rw [e1]; exact h.c2, by rw [e3]; exact h.f1, by rw [e3]; exact h.f2,
    fun j hj => by rw [e2, e2, e2, e2]; exact h.row j hj, h.hi, h.hn, h.fin, h.ne, by have := h.ltb; omega, by have := h.ltr; omega⟩

theorem PS.grown {w w' : World} {b r cap : Nat} {T : List PT} {i : Nat} {bad : Bool} (h : PS w b r cap T i bad) {row : Option Nat} (hg : w.grownBy w' row) (h1 : row ≠ some b) (h2 : row ≠ some r) : PS w' b r cap T i bad :=
  h.kept (hg.block b h.ltb (fun e => h1 e.symm)) (hg.block r h.ltr (fun e => h2 e.symm)) hg.size

theorem heap_set_size (w : World) (a : Addr) (v : Value) : (w.setCell a v).heap.size = w.heap.size := by simp [World.setCell]

theorem set_same {w : World} {a : Addr} {v u : Value} (h : w.cell? a = some u) : (w.setCell a v).cell? a = some v := by
  apply World.cell?_setCell_same; exact h
theorem set_other {w : World} {a b : Addr} {v : Value} (h : a ≠ b) : (w.setCell a v).cell? b = w.cell? b := by
  apply World.cell?_setCell_other; exact h

theorem PS.next {w : World} {b r cap : Nat} {T : List PT} {i : Nat} {bad : Bool} (h : PS w b r cap T i bad) (hi : i + 1 < T.length) : PS (w.setCell ⟨b, 1, none⟩ (.int .i64 ((i + 1 : Nat) : Int))) b r cap T (i + 1) bad := by
  have hne := h.ne
  refine ⟨?_, set_same h.c1, ?_, by simpa using h.f1, by simpa using h.f2, ?_, hi, h.hn, h.fin, h.ne, by rw [heap_set_size]; exact h.ltb, by rw [heap_set_size]; exact h.ltr⟩
  · rw [set_other (by simp)]; exact h.c0
  · rw [set_other (by simp)]; exact h.c2
  · intro j hj
    have hne' : b ≠ r := fun e => hne e.symm
    rw [set_other (by simp [hne']), set_other (by simp [hne']), set_other (by simp [hne']), set_other (by simp [hne'])]
    exact h.row j hj

theorem PS.setBad {w : World} {b r cap : Nat} {T : List PT} {i : Nat} {bad : Bool} (h : PS w b r cap T i bad) (bad' : Bool) : PS (w.setCell ⟨b, 2, none⟩ (.bool bad')) b r cap T i bad' := by
  have hne := h.ne
  refine ⟨?_, ?_, set_same h.c2, by simpa using h.f1, by simpa using h.f2, ?_, h.hi, h.hn, h.fin, h.ne, by rw [heap_set_size]; exact h.ltb, by rw [heap_set_size]; exact h.ltr⟩
  · rw [set_other (by simp)]; exact h.c0
  · rw [set_other (by simp)]; exact h.c1
  · intro j hj
    have hne' : b ≠ r := fun e => hne e.symm
    rw [set_other (by simp [hne']), set_other (by simp [hne']), set_other (by simp [hne']), set_other (by simp [hne'])]
    exact h.row j hj

theorem PS.drewN {w : World} {b r cap : Nat} {T : List PT} {i : Nat} {bad : Bool} (h : PS w b r cap T i bad) (n : Nat) : PS (w.drewN n) b r cap T i bad :=
  h.kept rfl rfl (Nat.le_refl _)

theorem grownBy_refl (w : World) (row : Option Nat) : w.grownBy w row := ⟨rfl, rfl, rfl, Nat.le_refl _, fun _ _ _ => rfl⟩
theorem grownBy_trans {a b c : World} {row : Option Nat} (h : a.grownBy b row) (k : b.grownBy c row) : a.grownBy c row :=
  ⟨k.os.trans h.os, k.tape.trans h.tape, k.output.trans h.output, Nat.le_trans h.size k.size, fun i hi hne => (k.block i (Nat.lt_of_lt_of_le hi h.size) hne).trans (h.block i hi hne)⟩
theorem grownBy_drewN {a b : World} {row : Option Nat} (h : a.grownBy b row) (n : Nat) : a.grownBy (b.drewN n) row :=
  grownBy_trans h ⟨rfl, rfl, rfl, Nat.le_refl _, fun _ _ _ => rfl⟩
theorem grownBy_drew {a b : World} {row : Option Nat} (h : a.grownBy b row) : a.grownBy b.drew row :=
  grownBy_trans h ⟨rfl, rfl, rfl, Nat.le_refl _, fun _ _ _ => rfl⟩
theorem grownBy_set {a b : World} {k : Nat} (h : a.grownBy b (some k)) (o : Nat) (v : Value) : a.grownBy (b.setCell ⟨k, o, none⟩ v) (some k) :=
  grownBy_trans h ⟨rfl, rfl, rfl, by rw [heap_set_size]; exact Nat.le_refl _, fun i _ hne => Below.heap_setCell _ _ _ _ (by intro e; exact hne (by rw [e]))⟩
/-- A store into a block that was not there yet. -/
theorem grownBy_setNew {a b : World} {row : Option Nat} (h : a.grownBy b row) {k : Nat} (hk : a.heap.size ≤ k) (o : Nat) (v : Value) : a.grownBy (b.setCell ⟨k, o, none⟩ v) row :=
  ⟨h.os, h.tape, h.output, by rw [heap_set_size]; exact h.size, fun i hi hne => by rw [Below.heap_setCell _ _ _ _ (by show i ≠ k; omega)]; exact h.block i hi hne⟩
theorem grownBy_alloc' {a b : World} {row : Option Nat} (h : a.grownBy b row) (o : Obj) : a.grownBy (b.alloc o) row := grownBy_trans h (World.grownBy_alloc b o row)
theorem grownBy_none {a b : World} {row : Option Nat} (h : a.grownBy b none) : a.grownBy b row := ⟨h.os, h.tape, h.output, h.size, fun k hk _ => h.block k hk (by simp)⟩
/-- What was written was new to the caller. -/
theorem grownBy_new {a b c : World} {row : Option Nat} (h : a.grownBy b row) {k : Nat} (g : b.grownBy c (some k)) (hk : a.heap.size ≤ k) : a.grownBy c row :=
  ⟨g.os.trans h.os, g.tape.trans h.tape, g.output.trans h.output, Nat.le_trans h.size g.size, fun i hi hne => by rw [g.block i (Nat.lt_of_lt_of_le hi h.size) (by intro e; injection e with e; omega)]; exact h.block i hi hne⟩
theorem below_grown {w w' : World} (h : w.grownBy w' none) : Below w.heap.size w w' := ⟨h.os, h.tape, h.output, h.size, fun k hk => h.block k hk (by simp)⟩

section
variable {w : World} {b r cap : Nat} {T : List PT} {i : Nat} {bad : Bool}

set_option maxRecDepth 100000 in
set_option maxHeartbeats 400000 in
theorem rplace_any (h : PS w b r cap T i bad) :
    Calls Tryz.prog 130 #[.pointer (some ⟨b, 0, none⟩)] w fun e w' => e = .returned (.int .i64 (tk T i).at_) ∧ ∃ n, w' = w.drewN n := by
  have c0 := h.c0
  have c1 := h.c1
  have hi := h.hi
  have hn := h.hn
  obtain ⟨r0, r1, r2, r3⟩ := h.row i hi
  have H := hide h
  clear h
  go_enter Tryz.func130, Tryz.ntmps130
  go_wp2
  go_quiet (fail)
  go_wp2
  go_ret
  exact ⟨rfl, _, rfl⟩

/-- Does that word stand here? -/
def sees (t : PT) (wd : ByteArray) : Bool := t.k == 119 && ((bs t.S).toList == wd.toList)

def WordPost (w : World) (b r cap : Nat) (T : List PT) (i : Nat) (bad : Bool) (wd : ByteArray) (e : Ending) (w' : World) : Prop :=
  e = .returned (.bool (!bad && sees (tk T i) wd)) ∧ PS w' b r cap T (if !bad && sees (tk T i) wd then i + 1 else i) bad ∧ w.grownBy w' (some b)

set_option maxRecDepth 100000 in
set_option maxHeartbeats 400000 in
theorem rword_bad (h : PS w b r cap T i true) (wd : ByteArray) :
    Calls Tryz.prog 78 #[.pointer (some ⟨b, 0, none⟩), .string wd] w (WordPost w b r cap T i true wd) := by
  have c2 := h.c2
  have H := hide h
  clear h
  go_enter Tryz.func78, Tryz.ntmps78
  go_wp2
  go_quiet (fail)
  go_wp2
  go_ret
  exact ⟨rfl, H.out.drewN _, grownBy_drewN (grownBy_refl _ _) _⟩

set_option maxRecDepth 100000 in
set_option maxHeartbeats 400000 in
theorem rword_k (h : PS w b r cap T i false) (wd : ByteArray) (hk : ((tk T i).k == 119) = false) :
    Calls Tryz.prog 78 #[.pointer (some ⟨b, 0, none⟩), .string wd] w (WordPost w b r cap T i false wd) := by
  have c0 := h.c0
  have c1 := h.c1
  have c2 := h.c2
  have hi := h.hi
  have hn := h.hn
  obtain ⟨r0, r1, r2, r3⟩ := h.row i hi
  have hk' : (((tk T i).k : Int) == 119) = false := by simp at hk ⊢; omega
  have hS : Hid (sees (tk T i) wd = false) := by unfold Hid sees; rw [hk]; rfl
  have H := hide h
  clear h hk
  go_enter Tryz.func78, Tryz.ntmps78
  go_wp2
  go_quiet (fail)
  go_wp2
  go_ret
  refine ⟨by rw [hS.out]; rfl, ?_, grownBy_drewN (grownBy_refl _ _) _⟩
  rw [hS.out]
  exact H.out.drewN _

set_option maxRecDepth 100000 in
set_option maxHeartbeats 400000 in
theorem rword_w (h : PS w b r cap T i false) (wd : ByteArray) (hk : ((tk T i).k == 119) = true) :
    Calls Tryz.prog 78 #[.pointer (some ⟨b, 0, none⟩), .string wd] w (WordPost w b r cap T i false wd) := by
  have c0 := h.c0
  have c1 := h.c1
  have c2 := h.c2
  have f1 := h.f1
  have hi := h.hi
  have hn := h.hn
  obtain ⟨r0, r1, r2, r3⟩ := h.row i hi
  have hk' : (((tk T i).k : Int) == 119) = true := by simp at hk ⊢; omega
  have hS : Hid (∀ x, ((bs (tk T i).S).toList == wd.toList) = x → sees (tk T i) wd = x) := by intro x hx; unfold sees; rw [hk, hx]; rfl
  have hfin : Hid (i + 1 < T.length) := h.fin i hi (by simp at hk; simp [PT.fin, hk])
  have H := hide h
  clear h hk
  cases hx : ((bs (tk T i).S).toList == wd.toList)
  · go_enter Tryz.func78, Tryz.ntmps78
    go_wp2
    go_quiet (fail)
    go_wp2
    go_ret
    refine ⟨by rw [hS.out _ hx]; rfl, ?_, grownBy_drewN (grownBy_refl _ _) _⟩
    rw [hS.out _ hx]
    exact H.out.drewN _
  · go_enter Tryz.func78, Tryz.ntmps78
    go_wp2
    go_quiet (fail)
    go_wp2
    go_ret
    refine ⟨by rw [hS.out _ hx]; rfl, ?_, grownBy_set (grownBy_drewN (grownBy_refl _ _) _) _ _⟩
    rw [hS.out _ hx]
    exact (H.out.drewN _).next hfin.out

theorem rword_any (h : PS w b r cap T i bad) (wd : ByteArray) :
    Calls Tryz.prog 78 #[.pointer (some ⟨b, 0, none⟩), .string wd] w (WordPost w b r cap T i bad wd) := by
  cases bad
  · cases hk : ((tk T i).k == 119)
    · exact rword_k h wd hk
    · exact rword_w h wd hk
  · exact rword_bad h wd

def MustPost (w : World) (b r cap : Nat) (T : List PT) (i : Nat) (bad : Bool) (wd : ByteArray) (e : Ending) (w' : World) : Prop :=
  e = .returned (.tuple #[]) ∧ PS w' b r cap T (if !bad && sees (tk T i) wd then i + 1 else i) (bad || !(sees (tk T i) wd)) ∧ w.grownBy w' (some b)

set_option maxRecDepth 100000 in
set_option maxHeartbeats 400000 in
theorem rmust_any (h : PS w b r cap T i bad) (wd : ByteArray) :
    Calls Tryz.prog 41 #[.pointer (some ⟨b, 0, none⟩), .string wd] w (MustPost w b r cap T i bad wd) := by
  go_enter Tryz.func41, Tryz.ntmps41
  go_wp2_with fail
  refine (rword_any h wd).mono ?_
  rintro e w1 ⟨rfl, h1, hg⟩
  have c2 := h1.c2
  have f2 := h1.f2
  have Hg := hide hg
  have H := hide h1
  clear h h1 hg
  unfold MustPost
  cases bad <;> cases hs : sees (tk T i) wd
  all_goals
    have Hs := hide hs
    rw [hs] at H
    clear hs
    simp only [Bool.not_false, Bool.not_true, Bool.true_and, Bool.false_and, Bool.and_self, Bool.and_true, Bool.and_false, if_true, Bool.false_eq_true, if_false] at H ⊢
    go_wp2
    go_end0
    refine ⟨rfl, ?_, grownBy_set Hg.out _ _⟩
    rw [Hs.out]
    exact H.out.setBad _
end
end Go.Proofs.YtbdffcjganlblaaGreatDoor

namespace Go.Proofs.YtbdffcjganlblaaGreatDoor
open Go.RowKit
set_option linter.unusedVariables false
set_option linter.unusedSimpArgs false

section
variable {w : World} {b r cap : Nat} {T : List PT} {i : Nat} {bad : Bool}

theorem PS.alloc (h : PS w b r cap T i bad) (o : Obj) : PS (w.alloc o) b r cap T i bad := h.grown (World.grownBy_alloc w o none) (by simp) (by simp)
theorem PS.drew (h : PS w b r cap T i bad) : PS w.drew b r cap T i bad := h.drewN 1

def NumPost (w : World) (b r cap : Nat) (T : List PT) (i : Nat) (bad : Bool) (e : Ending) (w' : World) : Prop :=
  e = .returned (.int .i64 (if !bad && (tk T i).k == 110 then ((tk T i).N : Int) else 0)) ∧ PS w' b r cap T (if !bad && (tk T i).k == 110 then i + 1 else i) (bad || !((tk T i).k == 110)) ∧ w.grownBy w' (some b)

set_option maxRecDepth 100000 in
set_option maxHeartbeats 1000000 in
theorem rnumber_any (h : PS w b r cap T i bad) :
    Calls Tryz.prog 42 #[.pointer (some ⟨b, 0, none⟩)] w (NumPost w b r cap T i bad) := by
  have c0 := h.c0
  have c1 := h.c1
  have c2 := h.c2
  have f1 := h.f1
  have f2 := h.f2
  have hi := h.hi
  have hn := h.hn
  have hlb := h.ltb
  have hlr := h.ltr
  obtain ⟨r0, r1, r2, r3⟩ := h.row i hi
  have hfin : Hid (((tk T i).k == 110) = true → i + 1 < T.length) := fun hk => h.fin i hi (by simp at hk; simp [PT.fin, hk])
  have H := hide h
  clear h
  unfold NumPost
  cases bad
  · cases hk : ((tk T i).k == 110)
    · have hk' : (((tk T i).k : Int) != 110) = true := by simp at hk ⊢; omega
      clear hk
      go_enter Tryz.func42, Tryz.ntmps42
      go_wp2
      go_region
      go_wp2
      go_ret
      exact ⟨rfl, ((H.out.setBad true).alloc _).drew, grownBy_drew (grownBy_alloc' (grownBy_set (grownBy_refl _ _) _ _) _)⟩
    · have hk' : (((tk T i).k : Int) != 110) = false := by simp at hk ⊢; omega
      have hf := hide (hfin.out hk)
      clear hk
      go_enter Tryz.func42, Tryz.ntmps42
      go_wp2
      go_region
      go_wp2
      go_ret
      exact ⟨rfl, ((H.out.next hf.out).alloc _).drew, grownBy_drew (grownBy_alloc' (grownBy_set (grownBy_refl _ _) _ _) _)⟩
  · go_enter Tryz.func42, Tryz.ntmps42
    go_wp2
    go_region
    go_wp2
    go_ret
    exact ⟨rfl, ((H.out.setBad true).alloc _).drew, grownBy_drew (grownBy_alloc' (grownBy_set (grownBy_refl _ _) _ _) _)⟩

def isName (t : PT) : Bool := t.k == 119 && t.S.length == 1
def nameB (t : PT) : UInt8 := t.S.headD 0

def NamePost (w : World) (b r cap : Nat) (T : List PT) (i : Nat) (bad : Bool) (e : Ending) (w' : World) : Prop :=
  e = .returned (.int .u8 (if !bad && isName (tk T i) then ((nameB (tk T i)).toNat : Int) else 0)) ∧ PS w' b r cap T (if !bad && isName (tk T i) then i + 1 else i) (bad || !(isName (tk T i))) ∧ w.grownBy w' (some b)

set_option maxRecDepth 100000 in
set_option maxHeartbeats 1000000 in
theorem rname_any (h : PS w b r cap T i bad) :
    Calls Tryz.prog 80 #[.pointer (some ⟨b, 0, none⟩)] w (NamePost w b r cap T i bad) := by
  have c0 := h.c0
  have c1 := h.c1
  have c2 := h.c2
  have f1 := h.f1
  have f2 := h.f2
  have hi := h.hi
  have hn := h.hn
  have hlb := h.ltb
  have hlr := h.ltr
  obtain ⟨r0, r1, r2, r3⟩ := h.row i hi
  have hfin : Hid (((tk T i).k == 119) = true → i + 1 < T.length) := fun hk => h.fin i hi (by simp at hk; simp [PT.fin, hk])
  have H := hide h
  clear h
  unfold NamePost
  cases bad
  · cases hk : ((tk T i).k == 119)
    · have hk' : (((tk T i).k : Int) != 119) = true := by simp at hk ⊢; omega
      have hN : isName (tk T i) = false := by unfold isName; rw [hk]; rfl
      rw [hN]
      clear hk hN
      go_enter Tryz.func80, Tryz.ntmps80
      go_wp2
      go_region
      go_wp2
      go_ret
      exact ⟨rfl, ((H.out.setBad true).alloc _).drew, grownBy_drew (grownBy_alloc' (grownBy_set (grownBy_refl _ _) _ _) _)⟩
    · have hk' : (((tk T i).k : Int) != 119) = false := by simp at hk ⊢; omega
      have hf := hide (hfin.out hk)
      cases hl : ((tk T i).S.length == 1)
      · have hN : isName (tk T i) = false := by unfold isName; rw [hl]; simp
        have hl' : (((bs (tk T i).S).size : Int) != 1) = true := by rw [bs_size]; simp at hl ⊢; omega
        rw [hN]
        clear hk hN hl
        go_enter Tryz.func80, Tryz.ntmps80
        go_wp2
        go_region
        go_wp2
        go_ret
        exact ⟨rfl, ((H.out.setBad true).alloc _).drew, grownBy_drew (grownBy_alloc' (grownBy_set (grownBy_refl _ _) _ _) _)⟩
      · have hN : isName (tk T i) = true := by unfold isName; rw [hl, hk]; rfl
        obtain ⟨c, hc⟩ : ∃ c, (tk T i).S = [c] := List.length_eq_one_iff.1 (by simpa using hl)
        have hB : nameB (tk T i) = c := by unfold nameB; rw [hc]; rfl
        rw [hN, hB]
        have r1' : w.cell? ⟨r, i * 4 + 1, none⟩ = some (.string ⟨#[c]⟩) := by rw [r1, hc]; rfl
        clear hk hN hl hB r1 hc
        go_enter Tryz.func80, Tryz.ntmps80
        go_wp2
        go_region
        go_wp2
        go_ret
        exact ⟨rfl, ((H.out.next hf.out).alloc _).drew, grownBy_drew (grownBy_alloc' (grownBy_set (grownBy_refl _ _) _ _) _)⟩
  · go_enter Tryz.func80, Tryz.ntmps80
    go_wp2
    go_region
    go_wp2
    go_ret
    exact ⟨rfl, ((H.out.setBad true).alloc _).drew, grownBy_drew (grownBy_alloc' (grownBy_set (grownBy_refl _ _) _ _) _)⟩

def MarkPost (w : World) (b r cap : Nat) (T : List PT) (i : Nat) (bad : Bool) (c : Nat) (e : Ending) (w' : World) : Prop :=
  e = .returned (.tuple #[]) ∧ PS w' b r cap T (if !bad && (tk T i).k == c then i + 1 else i) (bad || !((tk T i).k == c)) ∧ w.grownBy w' (some b)

set_option maxRecDepth 100000 in
set_option maxHeartbeats 1000000 in
theorem rmark_any (h : PS w b r cap T i bad) (c : Nat) (hc : c ≠ 101 ∧ c ≠ 120) :
    Calls Tryz.prog 43 #[.pointer (some ⟨b, 0, none⟩), .int .u8 c] w (MarkPost w b r cap T i bad c) := by
  have c0 := h.c0
  have c1 := h.c1
  have c2 := h.c2
  have f1 := h.f1
  have f2 := h.f2
  have hi := h.hi
  have hn := h.hn
  obtain ⟨r0, r1, r2, r3⟩ := h.row i hi
  have hfin : Hid (((tk T i).k == c) = true → i + 1 < T.length) := fun hk => h.fin i hi (by simp at hk; simp [PT.fin, hk]; omega)
  have H := hide h
  clear h hc
  unfold MarkPost
  cases bad
  · cases hk : ((tk T i).k == c)
    · have hk' : (((tk T i).k : Int) == c) = false := by simp at hk ⊢; omega
      clear hk
      go_enter Tryz.func43, Tryz.ntmps43
      go_wp2
      go_quiet (fail)
      go_wp2
      go_end0
      exact ⟨rfl, (H.out.drewN _).setBad true, grownBy_set (grownBy_drewN (grownBy_refl _ _) _) _ _⟩
    · have hk' : (((tk T i).k : Int) == c) = true := by simp at hk ⊢; omega
      have hf := hide (hfin.out hk)
      clear hk
      go_enter Tryz.func43, Tryz.ntmps43
      go_wp2
      go_quiet (fail)
      go_wp2
      go_end0
      exact ⟨rfl, (H.out.drewN _).next hf.out, grownBy_set (grownBy_drewN (grownBy_refl _ _) _) _ _⟩
  · go_enter Tryz.func43, Tryz.ntmps43
    go_wp2
    go_quiet (fail)
    go_wp2
    go_end0
    exact ⟨rfl, (H.out.drewN _).setBad true, grownBy_set (grownBy_drewN (grownBy_refl _ _) _) _ _⟩
end
end Go.Proofs.YtbdffcjganlblaaGreatDoor

namespace Go.Proofs.YtbdffcjganlblaaGreatDoor
open Go.RowKit
set_option linter.unusedVariables false
set_option linter.unusedSimpArgs false

theorem blk_set {w : World} {X : Nat} {c : Array Value} {ty : TypeId} (h : w.heap[X]? = some (.cells c ty (0, 0))) (o : Nat) (v : Value) : (w.setCell ⟨X, o, none⟩ v).heap[X]? = some (.cells (c.setIfInBounds o v) ty (0, 0)) := by
  simp only [World.setCell, Array.getElem?_modify, if_true, h]
  simp
theorem blk_cell {w : World} {X : Nat} {c : Array Value} {ty : TypeId} (h : w.heap[X]? = some (.cells c ty (0, 0))) (o : Nat) : w.cell? ⟨X, o, none⟩ = c[o]? := by
  simp [World.cell?, h]
theorem blk_frozen {w : World} {X : Nat} {c : Array Value} {ty : TypeId} (h : w.heap[X]? = some (.cells c ty (0, 0))) (o : Nat) : w.frozen? ⟨X, o, none⟩ = false := by
  simp [World.frozen?, h]
theorem blk_new (w : World) (c : Array Value) (ty : TypeId) : (w.alloc (.cells c ty)).heap[w.heap.size]? = some (.cells c ty (0, 0)) := by
  show (w.heap.push _)[w.heap.size]? = _
  simp
theorem blk_lt {w : World} {X : Nat} {o : Obj} (h : w.heap[X]? = some o) : X < w.heap.size := by
  rcases Nat.lt_or_ge X w.heap.size with h1 | h1
  · exact h1
  · rw [Array.getElem?_eq_none h1] at h; simp at h

/-- In the midst of a parser's method that fills a new struct: block w.heap.size the result, the next one the local. -/
structure St (w wk : World) (ty : TypeId) (c d : Array Value) (b r cap : Nat) (T : List PT) (i : Nat) (bad : Bool) : Prop where
  ps : PS wk b r cap T i bad
  hx : wk.heap[w.heap.size + 1]? = some (.cells c ty (0, 0))
  hy : wk.heap[w.heap.size]? = some (.cells d ty (0, 0))
  g : w.grownBy wk (some b)
  hb : b < w.heap.size
  hr : r < w.heap.size

section
variable {w wk : World} {ty : TypeId} {c d : Array Value} {b r cap : Nat} {T : List PT} {i : Nat} {bad : Bool}

theorem St.start (h : PS w b r cap T i bad) (ty : TypeId) (c d : Array Value) : St w ((w.alloc (.cells d ty)).alloc (.cells c ty)) ty c d b r cap T i bad :=
  ⟨(h.alloc _).alloc _, by simpa using blk_new (w.alloc (.cells d ty)) c ty,
    by rw [Below.heap_alloc _ _ _ (by simp)]; exact blk_new w d ty, grownBy_alloc' (World.grownBy_alloc _ _ _) _, h.ltb, h.ltr⟩
theorem PS.setOther {w : World} {X : Nat} (h : PS w b r cap T i bad) (h1 : X ≠ b) (h2 : X ≠ r) (o : Nat) (v : Value) : PS (w.setCell ⟨X, o, none⟩ v) b r cap T i bad :=
  h.kept (Below.heap_setCell _ _ _ _ (fun e => h1 e.symm)) (Below.heap_setCell _ _ _ _ (fun e => h2 e.symm)) (by rw [heap_set_size]; exact Nat.le_refl _)
theorem St.set (h : St w wk ty c d b r cap T i bad) (o : Nat) (v : Value) {c' : Array Value} (hc : c.setIfInBounds o v = c') : St w (wk.setCell ⟨w.heap.size + 1, o, none⟩ v) ty c' d b r cap T i bad := by
  have hb := h.hb
  have hr := h.hr
  refine ⟨h.ps.setOther (by omega) (by omega) o v, ?_, ?_, grownBy_setNew h.g (by omega) o v, hb, hr⟩
  · rw [blk_set h.hx o v, hc]
  · rw [Below.heap_setCell _ _ _ _ (by show w.heap.size ≠ w.heap.size + 1; omega)]; exact h.hy
theorem St.call {w' : World} {i' : Nat} {bad' : Bool} (h : St w wk ty c d b r cap T i bad) (p : PS w' b r cap T i' bad') (g : wk.grownBy w' (some b)) : St w w' ty c d b r cap T i' bad' := by
  have hb := h.hb
  exact ⟨p, by rw [g.block _ (blk_lt h.hx) (by simp; omega)]; exact h.hx, by rw [g.block _ (blk_lt h.hy) (by simp; omega)]; exact h.hy, grownBy_trans h.g g, hb, h.hr⟩
theorem St.cells (h : St w wk ty c d b r cap T i bad) : (∀ o, wk.cell? ⟨w.heap.size + 1, o, none⟩ = c[o]?) ∧ (∀ o, wk.frozen? ⟨w.heap.size + 1, o, none⟩ = false) ∧ (∀ o, wk.cell? ⟨w.heap.size, o, none⟩ = d[o]?) ∧ (∀ o, wk.frozen? ⟨w.heap.size, o, none⟩ = false) :=
  ⟨blk_cell h.hx, blk_frozen h.hx, blk_cell h.hy, blk_frozen h.hy⟩


theorem rplace_ex (h : PS w b r cap T i bad) :
    Calls Tryz.prog 130 #[.pointer (some ⟨b, 0, none⟩)] w fun e w' => ∃ v : Nat, e = .returned (.int .i64 v) ∧ PS w' b r cap T i bad ∧ w.grownBy w' (some b) ∧ Hid (v = (tk T i).at_) := by
  refine (rplace_any h).mono ?_
  rintro e w' ⟨rfl, n, rfl⟩
  exact ⟨_, rfl, h.drewN n, grownBy_drewN (grownBy_refl _ _) _, rfl⟩

def NameR (T : List PT) (i : Nat) (bad : Bool) (v i' : Nat) (bad' : Bool) : Prop :=
  if (!bad && isName (tk T i)) = true then v = (nameB (tk T i)).toNat ∧ i' = i + 1 ∧ bad' = false else i' = i ∧ bad' = true
theorem rname_ex (h : PS w b r cap T i bad) :
    Calls Tryz.prog 80 #[.pointer (some ⟨b, 0, none⟩)] w fun e w' => ∃ (v i' : Nat) (bad' : Bool), e = .returned (.int .u8 v) ∧ PS w' b r cap T i' bad' ∧ w.grownBy w' (some b) ∧ Hid (NameR T i bad v i' bad') := by
  refine (rname_any h).mono ?_
  rintro e w' ⟨rfl, hp, hg⟩
  unfold Hid NameR
  cases hc : (!bad && isName (tk T i))
  · rw [hc] at hp
    refine ⟨0, _, _, rfl, hp, hg, ?_⟩
    cases bad <;> cases hq : isName (tk T i) <;> simp_all
  · rw [hc] at hp
    refine ⟨_, _, _, rfl, hp, hg, ?_⟩
    cases bad <;> cases hq : isName (tk T i) <;> simp_all

def NumR (T : List PT) (i : Nat) (bad : Bool) (v i' : Nat) (bad' : Bool) : Prop :=
  if (!bad && (tk T i).k == 110) = true then v = (tk T i).N ∧ i' = i + 1 ∧ bad' = false else v = 0 ∧ i' = i ∧ bad' = true
theorem rnumber_ex (h : PS w b r cap T i bad) :
    Calls Tryz.prog 42 #[.pointer (some ⟨b, 0, none⟩)] w fun e w' => ∃ (v i' : Nat) (bad' : Bool), e = .returned (.int .i64 v) ∧ PS w' b r cap T i' bad' ∧ w.grownBy w' (some b) ∧ Hid (NumR T i bad v i' bad') := by
  refine (rnumber_any h).mono ?_
  rintro e w' ⟨rfl, hp, hg⟩
  unfold Hid NumR
  cases hc : (!bad && (tk T i).k == 110)
  · rw [hc] at hp
    refine ⟨0, _, _, rfl, hp, hg, ?_⟩
    cases bad <;> cases hq : ((tk T i).k == 110) <;> simp_all
  · rw [hc] at hp
    refine ⟨_, _, _, rfl, hp, hg, ?_⟩
    cases bad <;> cases hq : ((tk T i).k == 110) <;> simp_all

def GoesR (ok bad : Bool) (i i' : Nat) (bad' : Bool) : Prop :=
  if (!bad && ok) = true then i' = i + 1 ∧ bad' = false else i' = i ∧ bad' = true
theorem rmark_ex (h : PS w b r cap T i bad) (c : Nat) (hc : c ≠ 101 ∧ c ≠ 120) :
    Calls Tryz.prog 43 #[.pointer (some ⟨b, 0, none⟩), .int .u8 c] w fun e w' => ∃ (i' : Nat) (bad' : Bool), e = .returned (.tuple #[]) ∧ PS w' b r cap T i' bad' ∧ w.grownBy w' (some b) ∧ Hid (GoesR ((tk T i).k == c) bad i i' bad') := by
  refine (rmark_any h c hc).mono ?_
  rintro e w' ⟨rfl, hp, hg⟩
  refine ⟨_, _, rfl, hp, hg, ?_⟩
  unfold Hid GoesR
  cases bad <;> cases hq : ((tk T i).k == c) <;> simp
theorem rmust_ex (h : PS w b r cap T i bad) (wd : ByteArray) :
    Calls Tryz.prog 41 #[.pointer (some ⟨b, 0, none⟩), .string wd] w fun e w' => ∃ (i' : Nat) (bad' : Bool), e = .returned (.tuple #[]) ∧ PS w' b r cap T i' bad' ∧ w.grownBy w' (some b) ∧ Hid (GoesR (sees (tk T i) wd) bad i i' bad') := by
  refine (rmust_any h wd).mono ?_
  rintro e w' ⟨rfl, hp, hg⟩
  refine ⟨_, _, rfl, hp, hg, ?_⟩
  unfold Hid GoesR
  cases bad <;> cases hq : sees (tk T i) wd <;> simp
theorem rword_ex (h : PS w b r cap T i bad) (wd : ByteArray) :
    Calls Tryz.prog 78 #[.pointer (some ⟨b, 0, none⟩), .string wd] w fun e w' => ∃ (i' : Nat) (ok : Bool), e = .returned (.bool ok) ∧ PS w' b r cap T i' bad ∧ w.grownBy w' (some b) ∧ Hid (ok = (!bad && sees (tk T i) wd) ∧ i' = if ok then i + 1 else i) := by
  refine (rword_any h wd).mono ?_
  rintro e w' ⟨rfl, hp, hg⟩
  exact ⟨_, _, rfl, hp, hg, rfl, rfl⟩

/-- A pair, with its places. -/
structure Pr where
  a : UInt8
  b : UInt8
  ap : Bool
  q0 : Nat
  q1 : Nat

def pPair (T : List PT) (ap : Bool) (i : Nat) : Except Nat (Pr × Nat) :=
  if isName (tk T i) then
    if isName (tk T (i + 1)) then
      if (tk T (i + 2)).k == 59 then .ok (⟨nameB (tk T i), nameB (tk T (i + 1)), ap, (tk T i).at_, (tk T (i + 1)).at_⟩, i + 3) else .error (i + 2)
    else .error (i + 1)
  else .error i

def prRaw (a c : Nat) (ap : Bool) (q0 q1 : Nat) : Value := .agg #[.int .u8 a, .int .u8 c, .bool ap, .int .i64 q0, .int .i64 q1]
def prV (p : Pr) : Value := prRaw p.a.toNat p.b.toNat p.ap p.q0 p.q1

theorem pair_chain {T : List PT} {ap : Bool} {i a i1 c i2 i3 : Nat} {b1 b2 b3 : Bool} (h1 : NameR T i false a i1 b1) (h2 : NameR T i1 b1 c i2 b2) (h3 : GoesR ((tk T i2).k == 59) b2 i2 i3 b3) :
    (b3 = true ∧ pPair T ap i = .error i3) ∨ (b3 = false ∧ ∃ p, pPair T ap i = .ok (p, i3) ∧ a = p.a.toNat ∧ c = p.b.toNat ∧ p.ap = ap ∧ p.q0 = (tk T i).at_ ∧ p.q1 = (tk T i1).at_) := by
  unfold NameR at h1 h2
  unfold GoesR at h3
  unfold pPair
  cases hn1 : isName (tk T i)
  · rw [hn1] at h1
    simp at h1
    obtain ⟨rfl, rfl⟩ := h1
    simp at h2
    obtain ⟨rfl, rfl⟩ := h2
    simp at h3
    obtain ⟨rfl, rfl⟩ := h3
    simp
  · rw [hn1] at h1
    simp at h1
    obtain ⟨rfl, rfl, rfl⟩ := h1
    cases hn2 : isName (tk T (i + 1))
    · rw [hn2] at h2
      simp at h2
      obtain ⟨rfl, rfl⟩ := h2
      simp at h3
      obtain ⟨rfl, rfl⟩ := h3
      simp
    · rw [hn2] at h2
      simp at h2
      obtain ⟨rfl, rfl, rfl⟩ := h2
      cases hn3 : ((tk T (i + 1 + 1)).k == 59)
      · rw [hn3] at h3
        simp at h3
        obtain ⟨rfl, rfl⟩ := h3
        simp [hn3]
      · rw [hn3] at h3
        simp at h3
        obtain ⟨rfl, rfl⟩ := h3
        simp [hn3]

set_option maxRecDepth 100000 in
set_option maxHeartbeats 1000000 in
theorem rpair_any (h : PS w b r cap T i false) (apart : Bool) :
    Calls Tryz.prog 88 #[.pointer (some ⟨b, 0, none⟩), .bool apart] w fun e w' =>
      ∃ (a c q0 q1 i' : Nat) (bad' : Bool), e = .returned (prRaw a c apart q0 q1) ∧ PS w' b r cap T i' bad' ∧ w.grownBy w' (some b) ∧
        ((bad' = true ∧ pPair T apart i = .error i') ∨ (bad' = false ∧ ∃ p, pPair T apart i = .ok (p, i') ∧ prRaw a c apart q0 q1 = prV p)) := by
  have S0 := St.start h 133 #[.int .u8 0, .int .u8 0, .bool apart, .int .i64 0, .int .i64 0] #[.int .u8 0, .int .u8 0, .bool false, .int .i64 0, .int .i64 0]
  clear h
  go_enter Tryz.func88, Tryz.ntmps88
  go_wp2_with fail
  refine (rplace_ex S0.ps).mono ?_
  rintro e w1 ⟨q0, rfl, p, g, hq0⟩
  have S1 := S0.call p g
  obtain ⟨x1, x2, x3, x4⟩ := S1.cells
  clear p g S0
  go_wp2_with fail
  have S1 := S1.set 3 (.int .i64 q0) (c' := #[.int .u8 0, .int .u8 0, .bool apart, .int .i64 q0, .int .i64 0]) rfl
  clear x1 x2 x3 x4
  refine (rname_ex S1.ps).mono ?_
  rintro e w2 ⟨a, i1, b1, rfl, p, g, ha⟩
  have S2 := S1.call p g
  obtain ⟨x1, x2, x3, x4⟩ := S2.cells
  clear p g S1
  go_wp2_with fail
  have S2 := S2.set 0 (.int .u8 a) (c' := #[.int .u8 a, .int .u8 0, .bool apart, .int .i64 q0, .int .i64 0]) rfl
  clear x1 x2 x3 x4
  refine (rplace_ex S2.ps).mono ?_
  rintro e w3 ⟨q1, rfl, p, g, hq1⟩
  have S3 := S2.call p g
  obtain ⟨x1, x2, x3, x4⟩ := S3.cells
  clear p g S2
  go_wp2_with fail
  have S3 := S3.set 4 (.int .i64 q1) (c' := #[.int .u8 a, .int .u8 0, .bool apart, .int .i64 q0, .int .i64 q1]) rfl
  clear x1 x2 x3 x4
  refine (rname_ex S3.ps).mono ?_
  rintro e w4 ⟨c, i2, b2, rfl, p, g, hc⟩
  have S4 := S3.call p g
  obtain ⟨x1, x2, x3, x4⟩ := S4.cells
  clear p g S3
  go_wp2_with fail
  have S4 := S4.set 1 (.int .u8 c) (c' := #[.int .u8 a, .int .u8 c, .bool apart, .int .i64 q0, .int .i64 q1]) rfl
  clear x1 x2 x3 x4
  refine (rmark_ex S4.ps 59 (by decide)).mono ?_
  rintro e w5 ⟨i3, b3, rfl, p, g, hm⟩
  have S5 := S4.call p g
  obtain ⟨x1, x2, x3, x4⟩ := S5.cells
  clear p g S4
  go_wp2
  have hbb := S5.hb
  have hrr := S5.hr
  refine bodyPost_ret (v := prRaw a c apart q0 q1) (by simp [results, Tryz.results88, go_sem, x3, prRaw]) rfl ⟨a, c, q0, q1, i3, b3, rfl, ?_, ?_, ?_⟩
  · have Y : ∀ (wz : World) (o : Nat) (v : Value), PS wz b r cap T i3 b3 → PS (wz.setCell ⟨w.heap.size, o, none⟩ v) b r cap T i3 b3 := fun wz o v hz => hz.setOther (by omega) (by omega) o v
    exact Y _ _ _ (Y _ _ _ (Y _ _ _ (Y _ _ _ (Y _ _ _ S5.ps))))
  · have Y : ∀ (wz : World) (o : Nat) (v : Value), w.grownBy wz (some b) → w.grownBy (wz.setCell ⟨w.heap.size, o, none⟩ v) (some b) := fun wz o v hz => grownBy_setNew hz (Nat.le_refl _) o v
    exact Y _ _ _ (Y _ _ _ (Y _ _ _ (Y _ _ _ (Y _ _ _ S5.g))))
  · rcases pair_chain (ap := apart) ha.out hc.out hm.out with ⟨h1, h2⟩ | ⟨h1, p, h2, h3, h4, h5, h6, h7⟩
    · exact .inl ⟨h1, h2⟩
    · refine .inr ⟨h1, p, h2, ?_⟩
      unfold prV
      rw [h3, h4, h5, h6, h7, hq0.out, hq1.out]
end
end Go.Proofs.YtbdffcjganlblaaGreatDoor
