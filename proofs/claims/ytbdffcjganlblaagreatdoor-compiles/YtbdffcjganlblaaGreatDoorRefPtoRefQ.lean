/-
  Own work. The document's tables: the slices of one frame.
-/
import Derived.Test.YtbdffcjganlblaaGreatDoorRefItoRefK
import Derived.Test.YtbdffcjganlblaaGreatDoorMpStoTabA
import Derived.Test.YtbdffcjganlblaaGreatDoorRefMtoRefO
import Derived.Test.YtbdffcjganlblaaGreatDoorTabBtoPlC
namespace Go.Proofs.YtbdffcjganlblaaGreatDoor
open Go.RowKit
set_option linter.unusedVariables false
set_option linter.unusedSimpArgs false

section
variable {w : World} {b r cap : Nat} {T : List PT} {i : Nat} {bad : Bool}

theorem rname_ex2 (h : PS w b r cap T i bad) :
    Calls Tryz.prog 80 #[.pointer (some ⟨b, 0, none⟩)] w fun e w' => ∃ (v i' : Nat) (bad' : Bool), e = .returned (.int .u8 v) ∧ PS w' b r cap T i' bad' ∧ w.grownBy w' (some b) ∧ Hid (NameR T i bad v i' bad') ∧ Hid (v < 256) := by
  refine (rname_any h).mono ?_
  rintro e w' ⟨rfl, hp, hg⟩
  unfold Hid NameR
  cases hc : (!bad && isName (tk T i))
  · rw [hc] at hp
    refine ⟨0, _, _, rfl, hp, hg, ?_, by omega⟩
    cases bad <;> cases hq : isName (tk T i) <;> simp_all
  · rw [hc] at hp
    refine ⟨_, _, _, rfl, hp, hg, ?_, by simpa using (nameB (tk T i)).toNat_lt⟩
    cases bad <;> cases hq : isName (tk T i) <;> simp_all

set_option maxRecDepth 100000 in
set_option maxHeartbeats 1000000 in
theorem ris_any (h : PS w b r cap T i bad) (c : Nat) :
    Calls Tryz.prog 79 #[.pointer (some ⟨b, 0, none⟩), .int .u8 c] w fun e w' => ∃ ok : Bool, e = .returned (.bool ok) ∧ PS w' b r cap T i bad ∧ w.grownBy w' (some b) ∧ Hid (ok = (!bad && (tk T i).k == c)) := by
  have c0 := h.c0
  have c1 := h.c1
  have c2 := h.c2
  have hi := h.hi
  have hn := h.hn
  obtain ⟨r0, r1, r2, r3⟩ := h.row i hi
  have H := hide h
  clear h
  cases bad
  · cases hk : ((tk T i).k == c)
    · have hk' : (((tk T i).k : Int) == c) = false := by simp at hk ⊢; omega
      clear hk
      go_enter Tryz.func79, Tryz.ntmps79
      go_wp2
      go_quiet (fail)
      go_wp2
      go_ret
      exact ⟨false, rfl, H.out.drewN _, grownBy_drewN (grownBy_refl _ _) _, rfl⟩
    · have hk' : (((tk T i).k : Int) == c) = true := by simp at hk ⊢; omega
      clear hk
      go_enter Tryz.func79, Tryz.ntmps79
      go_wp2
      go_quiet (fail)
      go_wp2
      go_ret
      exact ⟨true, rfl, H.out.drewN _, grownBy_drewN (grownBy_refl _ _) _, rfl⟩
  · go_enter Tryz.func79, Tryz.ntmps79
    go_wp2
    go_quiet (fail)
    go_wp2
    go_ret
    exact ⟨false, rfl, H.out.drewN _, grownBy_drewN (grownBy_refl _ _) _, rfl⟩
end

theorem sl_chain {T : List PT} {i nm i1 k i2 i3 bd i4 : Nat} {b1 b2 b3 b4 : Bool} (h1 : NameR T i false nm i1 b1) (h2 : NumR T i1 b1 k i2 b2) (h3 : GoesR ((tk T i2).k == 58) b2 i2 i3 b3) (h4 : NumR T i3 b3 bd i4 b4) :
    (b4 = true ∧ slOk T i = false ∧ i ≤ i4) ∨ (b4 = false ∧ slOk T i = true ∧ i4 = i + 4 ∧ nm = (slAt T i).nm.toNat ∧ k = (slAt T i).job ∧ bd = (slAt T i).bud) := by
  unfold slOk slAt
  cases e1 : isName (tk T i)
  · obtain ⟨rfl, rfl⟩ := name_no h1 e1
    obtain ⟨_, rfl, rfl⟩ := num_bad h2
    obtain ⟨rfl, rfl⟩ := goes_bad h3
    obtain ⟨_, rfl, rfl⟩ := num_bad h4
    simp
  · obtain ⟨rfl, rfl, rfl⟩ := name_yes h1 e1
    cases e2 : ((tk T (i + 1)).k == 110)
    · obtain ⟨rfl, rfl⟩ := num_no h2 e2
      obtain ⟨rfl, rfl⟩ := goes_bad h3
      obtain ⟨_, rfl, rfl⟩ := num_bad h4
      simp
    · obtain ⟨rfl, rfl, rfl⟩ := num_yes h2 e2
      simp only [Nat.add_assoc, Nat.reduceAdd] at *
      cases e3 : ((tk T (i + 2)).k == 58)
      · rw [e3] at h3
        obtain ⟨rfl, rfl⟩ := goes_no h3
        obtain ⟨_, rfl, rfl⟩ := num_bad h4
        simp
      · rw [e3] at h3
        obtain ⟨rfl, rfl⟩ := goes_yes h3
        simp only [Nat.add_assoc, Nat.reduceAdd] at *
        cases e4 : ((tk T (i + 3)).k == 110)
        · obtain ⟨rfl, rfl⟩ := num_no h4 e4
          simp
        · obtain ⟨rfl, rfl, rfl⟩ := num_yes h4 e4
          simp

def slCells (j : Nat) (s : Sl) : List Value := [.int .i64 j, .int .u8 s.nm.toNat, .int .i64 s.job, .int .i64 s.bud]
def slRowR (j : Nat) (l : List Sl) : List Value := l.flatMap (slCells j)

/-- How far a frame has been read. -/
def SlsR (T : List PT) (i0 i : Nat) (bad more : Bool) (l : List Sl) : Prop :=
  (more = true ∧ bad = false ∧ i0 + 5 * l.length ≤ i ∧ pFrame T i0 = (match pMore T i with | none => none | some (r, k) => some (l ++ r, k))) ∨
  (more = false ∧ 4 * l.length ≤ i + 4 ∧ pFrame T i0 = if bad then none else if (tk T i).k == 59 then some (l, i + 1) else none)

theorem slsR_start (T : List PT) (i : Nat) : SlsR T i i false (!((tk T i).k == 59)) [] := by
  unfold SlsR pFrame
  cases hk : ((tk T i).k == 59)
  · left
    refine ⟨rfl, rfl, by simp, ?_⟩
    cases pMore T i <;> simp
  · right
    simp [hk]
theorem slsR_bad {T : List PT} {i0 i : Nat} {l : List Sl} (h : SlsR T i0 i false true l) (hs : slOk T i = false) (s : Sl) {i' : Nat} (hi : i ≤ i') : SlsR T i0 i' true false (l ++ [s]) := by
  rcases h with ⟨_, _, h1, h2⟩ | ⟨h1, _⟩
  · right
    rw [pMore_no hs] at h2
    exact ⟨rfl, by simp; omega, h2⟩
  · simp at h1
theorem slsR_last {T : List PT} {i0 i : Nat} {l : List Sl} (h : SlsR T i0 i false true l) (hs : slOk T i = true) (hk : ((tk T (i + 4)).k == 44) = false) : SlsR T i0 (i + 4) false false (l ++ [slAt T i]) := by
  rcases h with ⟨_, _, h1, h2⟩ | ⟨h1, _⟩
  · right
    refine ⟨rfl, by simp; omega, ?_⟩
    rw [h2]
    cases hk2 : ((tk T (i + 4)).k == 59)
    · rw [pMore_cut hs (by simpa using hk2) (by simpa using hk)]; simp
    · rw [pMore_last hs (by simpa using hk2)]; simp
  · simp at h1
theorem slsR_more {T : List PT} {i0 i : Nat} {l : List Sl} (h : SlsR T i0 i false true l) (hs : slOk T i = true) (hk : ((tk T (i + 4)).k == 44) = true) : SlsR T i0 (i + 5) false true (l ++ [slAt T i]) := by
  rcases h with ⟨_, _, h1, h2⟩ | ⟨h1, _⟩
  · left
    refine ⟨rfl, rfl, by simp; omega, ?_⟩
    rw [h2, pMore_on hs (by simpa using hk)]
    cases pMore T (i + 5) <;> simp
  · simp at h1

/-- The memory of slices. -/
structure SW (w wk : World) (b r cap : Nat) (T : List PT) (i : Nat) (bad : Bool) (v : Value) (n : Nat) (xs : List Value) : Prop where
  ps : PS wk b r cap T i bad
  ow : wk.ownsRow w.heap.size 44 4 v n xs
  g : w.grownBy wk (some b)
  hb : b < w.heap.size
  hr : r < w.heap.size

section
variable {w wk : World} {b r cap : Nat} {T : List PT} {i : Nat} {bad : Bool} {v : Value} {n : Nat} {xs : List Value}
theorem SW.call (h : SW w wk b r cap T i bad v n xs) {w' : World} {i' : Nat} {bad' : Bool} (p : PS w' b r cap T i' bad') (g : wk.grownBy w' (some b)) : SW w w' b r cap T i' bad' v n xs :=
  ⟨p, h.ow.kept g (.inr (own_ge h.ow h.hb)), grownBy_trans h.g g, h.hb, h.hr⟩
theorem SW.push (h : SW w wk b r cap T i bad v n xs) {o : Obj} {w2 : World} {v' : Value} {news : List Value} {m : Nat} (hg : (wk.alloc o).grownBy w2 v.ownBlock) (hown : w2.ownsRow w.heap.size 44 4 v' m news) : SW w w2 b r cap T i bad v' m news := by
  have hb := h.hb
  have hr := h.hr
  have hsz := h.g.size
  refine ⟨(h.ps.alloc o).grown hg (own_ge h.ow hb) (own_ge h.ow hr), hown, ?_, hb, hr⟩
  have ha := grownBy_alloc' h.g o
  refine ⟨hg.os.trans ha.os, hg.tape.trans ha.tape, hg.output.trans ha.output, Nat.le_trans ha.size hg.size, fun k hk hne => ?_⟩
  rw [hg.block k (by simp; omega) (fun e => own_ge h.ow hk e.symm)]
  exact ha.block k hk hne
end

theorem Tryz.infoSl : (Tryz.prog.info? 44).map (fun i => (i.zero, i.size, i.bytes)) = some (some (.agg #[.int .i64 0, .int .u8 0, .int .i64 0, .int .i64 0]), 4, 32) := by kernel_rfl

theorem u8_back (v : Nat) (h : v < 256) : (UInt8.ofNat v).toNat = v := by simp; omega

def SlsPost (T : List PT) (i : Nat) (w : World) (b r cap j : Nat) (e : Ending) (w' : World) : Prop :=
  ∃ (v : Value) (i' : Nat) (bad' : Bool) (l : List Sl), e = .returned v ∧ PS w' b r cap T i' bad' ∧ w.grownBy w' (some b) ∧ w'.ownsRow w.heap.size 44 4 v l.length (slRowR j l) ∧ l.length ≤ 202 ∧
    Hid ((bad' = true ∧ pFrame T i = none) ∨ (bad' = false ∧ pFrame T i = some (l, i')))

theorem sls_end {T : List PT} {i0 i i' : Nat} {bad bad' : Bool} {l : List Sl} (h : SlsR T i0 i bad false l) (hg : GoesR ((tk T i).k == 59) bad i i' bad') : (bad' = true ∧ pFrame T i0 = none) ∨ (bad' = false ∧ pFrame T i0 = some (l, i')) := by
  rcases h with ⟨h1, _⟩ | ⟨_, _, h2⟩
  · simp at h1
  · cases bad
    · simp only [Bool.false_eq_true, if_false] at h2
      cases hk : ((tk T i).k == 59)
      · rw [hk] at h2 hg
        obtain ⟨rfl, rfl⟩ := goes_no hg
        exact .inl ⟨rfl, by simpa using h2⟩
      · rw [hk] at h2 hg
        obtain ⟨rfl, rfl⟩ := goes_yes hg
        exact .inr ⟨rfl, by simpa using h2⟩
    · obtain ⟨rfl, rfl⟩ := goes_bad hg
      exact .inl ⟨rfl, by simpa using h2⟩

section
variable {w : World} {b r cap : Nat} {T : List PT} {i : Nat}

set_option maxRecDepth 100000 in
set_option maxHeartbeats 2000000 in
theorem rslices_any (h : PS w b r cap T i false) (j : Nat) :
    Calls Tryz.prog 44 #[.pointer (some ⟨b, 0, none⟩), .int .i64 j] w (SlsPost T i w b r cap j) := by
  obtain ⟨i0, hi0, hz0, hz1, hz2⟩ := info_parts Tryz.infoSl
  have hlb := h.ltb
  have hlr := h.ltr
  go_enter Tryz.func44, Tryz.ntmps44
  go_wp2_with fail
  refine (ris_any h 59).mono ?_
  rintro e w1 ⟨ok, rfl, p, g, hok⟩
  have S0 : SW w w1 b r cap T i false (.slice none 0 0) 0 [] := ⟨p, World.ownsRow_nil _ _ _ _, g, hlb, hlr⟩
  have HR : Hid (SlsR T i i false (!ok) []) := by
    unfold Hid
    rw [hok.out]
    simpa using slsR_start T i
  have c2 := p.c2
  clear p g hok h hlb hlr
  cases ok
  all_goals
    go_wp2_with fail
    have H0 := hide S0
    clear S0 c2
    go_loopw [5, 7] (fun v more wr => ∃ (i' : Nat) (bad mr : Bool) (l : List Sl), more = .bool mr ∧ SW w wr b r cap T i' bad v l.length (slRowR j l) ∧ SlsR T i i' bad mr l) (fun v _ _ => 300 - lenOf (some v))
    case atStart => exact ⟨i, false, _, [], rfl, H0.out, HR.out⟩
    case round =>
      clear H0 HR
      obtain ⟨i', bad, mr, l, rfl, S, hR⟩ := hrel
      obtain ⟨va, vc, rfl⟩ := own_slice S.ow
      have hlen := S.ps.hi
      have hlen2 := S.ps.hn
      cases mr
      · have hl : l.length ≤ 202 := by
          rcases hR with ⟨h1, _⟩ | ⟨_, h1, _⟩
          · simp at h1
          · omega
        have HR := hide hR
        clear hR
        go_wp2_with fail
        refine (rmark_ex S.ps 59 (by decide)).mono ?_
        rintro e w2 ⟨i2, b2, rfl, p, g, hg⟩
        have S2 := hide (S.call p g)
        clear p g S
        go_wp2
        go_ret
        exact ⟨_, i2, b2, l, rfl, S2.out.ps, S2.out.g, S2.out.ow, hl, hide (sls_end HR.out hg.out)⟩
      · have hbad : bad = false := by
          rcases hR with ⟨_, h1, _⟩ | ⟨h1, _⟩
          · exact h1
          · simp at h1
        subst hbad
        have hl : l.length ≤ 160 := by
          rcases hR with ⟨_, _, h1, _⟩ | ⟨h1, _⟩
          · omega
          · simp at h1
        have HR := hide hR
        clear hR
        go_wp2_with fail
        refine (rname_ex2 S.ps).mono ?_
        rintro e w2 ⟨nm, i1, b1, rfl, p, g, h1, hnm⟩
        have S2 := S.call p g
        clear p g S
        go_wp2_with fail
        refine (rnumber_ex S2.ps).mono ?_
        rintro e w3 ⟨k, i2, b2, rfl, p, g, h2⟩
        have S3 := S2.call p g
        clear p g S2
        go_wp2_with fail
        refine (rmark_ex S3.ps 58 (by decide)).mono ?_
        rintro e w4 ⟨i3, b3, rfl, p, g, h3⟩
        have S4 := S3.call p g
        clear p g S3
        go_wp2_with fail
        refine (rnumber_ex S4.ps).mono ?_
        rintro e w5 ⟨bd, i4, b4, rfl, p, g, h4⟩
        have S5 := S4.call p g
        clear p g S4
        have hch := hide (sl_chain h1.out h2.out h3.out h4.out)
        clear h1 h2 h3 h4
        have hws := S5.g.size
        have H5 := hide S5
        have ow5 := S5.ow
        clear S5
        go_wp2_with (at_builtin; refine wpList_append_own _ rfl _ _ 37 rfl w.heap.size 44 i0 _ 4 32 Tryz.underlying37 hi0 hz0 hz1 hz2 rfl (by decide) _ _ _ rfl (ow5.alloc _) ⟨w5.heap.size, 0, none⟩ 1 1 [.int .i64 j, .int .u8 nm, .int .i64 k, .int .i64 bd] rfl rfl ?c1 ?c2 ?c3 ?c4 ?c5 ?_)
        case c1 => exact cells_new w5 #[_, _, _, _] _ _ rfl
        case c2 => simp [Value.oneCell']
        case c3 => unfold maxLen; omega
        case c4 => omega
        case c5 => simp; omega
        intro v' w6 hown6 hgr _
        have S6 := H5.out.push hgr hown6
        have hsl : slRowR j l ++ [Value.int .i64 j, .int .u8 nm, .int .i64 k, .int .i64 bd] = slRowR j (l ++ [⟨UInt8.ofNat nm, k, bd⟩]) := by
          unfold slRowR
          rw [List.flatMap_append]
          simp only [List.flatMap_cons, List.flatMap_nil, List.append_nil, slCells]
          rw [u8_back nm hnm.out]
        rw [hsl] at S6
        obtain ⟨va', vc', rfl⟩ := own_slice S6.ow
        clear hown6 hgr ow5 H5 hsl
        go_wp2_with fail
        refine (ris_any S6.ps 44).mono ?_
        rintro e w7 ⟨mr, rfl, p, g, hmr⟩
        have S7 := S6.call p g
        clear p g S6
        cases mr
        · have hRR : Hid (SlsR T i i4 b4 false (l ++ [⟨UInt8.ofNat nm, k, bd⟩])) := by
            unfold Hid
            rcases hch.out with ⟨rfl, q1, q2⟩ | ⟨rfl, q1, rfl, q2, q3, q4⟩
            · exact slsR_bad HR.out q1 _ q2
            · have hm := hmr.out
              simp at hm
              have := slsR_last HR.out q1 (by simpa using hm)
              rw [show slAt T i' = ⟨UInt8.ofNat nm, k, bd⟩ by rw [q2, q3, q4]; simp] at this
              exact this
          have H7 := hide S7
          clear S7 hch hmr HR
          go_wp2
          go_roundw
          case rel => exact ⟨i4, b4, false, _, rfl, by simpa using H7.out, hRR.out⟩
          case measure => simp [lenOf]; omega
        · have hok : b4 = false ∧ ((tk T i4).k == 44) = true := by
            have hm := hmr.out
            cases b4
            · exact ⟨rfl, by simpa using hm⟩
            · simp at hm
          obtain ⟨rfl, hk44⟩ := hok
          have hRR : Hid (SlsR T i (i4 + 1) false true (l ++ [⟨UInt8.ofNat nm, k, bd⟩])) := by
            unfold Hid
            rcases hch.out with ⟨q0, _⟩ | ⟨_, q1, rfl, q2, q3, q4⟩
            · simp at q0
            · have := slsR_more HR.out q1 (by simpa using hk44)
              rw [show slAt T i' = ⟨UInt8.ofNat nm, k, bd⟩ by rw [q2, q3, q4]; simp] at this
              exact this
          have hf4 := S7.ps.fin i4 S7.ps.hi (by unfold PT.fin; simp at hk44; rw [hk44]; rfl)
          have c1 := S7.ps.c1
          have f1 := S7.ps.f1
          have h7i := S7.ps.hi
          have h7n := S7.ps.hn
          have H8 := hide (S7.call (S7.ps.next hf4) (grownBy_set (grownBy_refl _ _) _ _))
          clear S7 hch hmr HR hf4 hk44
          go_wp2
          go_roundw
          case rel => exact ⟨i4 + 1, false, true, _, rfl, by simpa using H8.out, hRR.out⟩
          case measure => simp [lenOf]; omega
end
end Go.Proofs.YtbdffcjganlblaaGreatDoor

namespace Go.Proofs.YtbdffcjganlblaaGreatDoor
open Go.RowKit
set_option linter.unusedVariables false
set_option linter.unusedSimpArgs false

def fsk (l : List FSl) (k : Nat) : FSl := l.getD k (0, ⟨0, 0, 0⟩)
theorem fsk_eq {l : List FSl} {k : Nat} (h : k < l.length) : l[k] = fsk l k := by simp [fsk, List.getD_eq_getElem?_getD, h]
def flCells (x : FSl) : List Value := slCells x.1 x.2
def flRow (l : List FSl) : List Value := l.flatMap flCells
theorem flRow_get (T : List FSl) : ∀ (j : Nat), j < T.length → ∀ o, o < 4 → (flRow T)[j * 4 + o]? = (flCells (fsk T j))[o]? := by
  induction T with
  | nil => intro j h; simp at h
  | cons t r ih =>
    intro j hj o ho
    have e : flRow (t :: r) = flCells t ++ flRow r := rfl
    have el : (flCells t).length = 4 := rfl
    cases j with
    | zero => rw [e, List.getElem?_append_left (by omega)]; simp [fsk]
    | succ j =>
      have := ih j (by simpa using hj) o ho
      rw [e, List.getElem?_append_right (by omega), el, show (j + 1) * 4 + o - 4 = j * 4 + o by omega, this]
      simp [fsk]
/-- The slices lie in block g. -/
def RowF (w : World) (g : Nat) (l : List FSl) : Prop := ∀ k, k < l.length →
  w.cell? ⟨g, k * 4, none⟩ = some (.int .i64 (fsk l k).1) ∧ w.cell? ⟨g, k * 4 + 1, none⟩ = some (.int .u8 (fsk l k).2.nm.toNat) ∧ w.cell? ⟨g, k * 4 + 2, none⟩ = some (.int .i64 (fsk l k).2.job) ∧ w.cell? ⟨g, k * 4 + 3, none⟩ = some (.int .i64 (fsk l k).2.bud)
theorem rowF_own {w : World} {base g cap : Nat} {l : List FSl} (h : w.ownsRow base 44 4 (.slice (some ⟨g, 0, none⟩) l.length cap) l.length (flRow l)) : RowF w g l := by
  intro k hk
  have e : ∀ o, o < 4 → w.cell? ⟨g, k * 4 + o, none⟩ = (flCells (fsk l k))[o]? := fun o ho => by rw [h.cellAt _ (by omega)]; exact flRow_get l k hk o ho
  have e0 := e 0 (by omega)
  simp only [Nat.add_zero] at e0
  rw [e0, e 1 (by omega), e 2 (by omega), e 3 (by omega)]
  exact ⟨rfl, rfl, rfl, rfl⟩
theorem RowF.below {w w' : World} {g B : Nat} {l : List FSl} (h : RowF w g l) (hb : Below B w w') (hg : g < B) : RowF w' g l := by
  intro k hk
  have e : ∀ o, w'.cell? ⟨g, o, none⟩ = w.cell? ⟨g, o, none⟩ := fun o => hb.cell (p := ⟨g, o, none⟩) hg
  rw [e, e, e, e]
  exact h k hk

/-- A table that a method was handed. -/
structure TBx (w wr : World) (c f : Nat) (sv : Value) : Prop where
  h : wr.heap[w.heap.size]? = some (.cells #[.int .i64 c, .int .i64 f, sv] 39 (0, 0))
  b : Below w.heap.size w wr
section
variable {w wr : World} {c f : Nat} {sv : Value}
theorem TBx.start (w : World) (c f : Nat) (sv : Value) : TBx w (w.alloc (.cells #[.int .i64 c, .int .i64 f, sv] 39)) c f sv := ⟨blk_new _ _ _, below_new _ _⟩
theorem TBx.keep (h : TBx w wr c f sv) {w' : World} (hb : Below wr.heap.size wr w') : TBx w w' c f sv := ⟨blk_keep h.h hb, h.b.trans (hb.mono h.b.size)⟩
theorem TBx.drewN (h : TBx w wr c f sv) (n : Nat) : TBx w (wr.drewN n) c f sv := h.keep (below_drewN (Below.refl _ _) n)
theorem TBx.alloc (h : TBx w wr c f sv) (o : Obj) : TBx w (wr.alloc o) c f sv := h.keep (below_new _ _)
theorem TBx.cells (h : TBx w wr c f sv) : wr.cell? ⟨w.heap.size, 0, none⟩ = some (.int .i64 c) ∧ wr.cell? ⟨w.heap.size, 1, none⟩ = some (.int .i64 f) ∧ wr.cell? ⟨w.heap.size, 2, none⟩ = some sv := by
  refine ⟨?_, ?_, ?_⟩ <;> (rw [blk_cell h.h]; rfl)
end

/-- An answer that says whether Q. -/
def BoolPost (Q : Prop) (w : World) (e : Ending) (w' : World) : Prop := ∃ b : Bool, e = .returned (.bool b) ∧ (b = true ↔ Q) ∧ Below w.heap.size w w'
theorem boolPost_no {Q : Prop} {w w' : World} {v : Value} (hv : v = .bool false) (h : ¬ Q) (hb : Below w.heap.size w w') : BoolPost Q w (.returned v) w' := ⟨false, by rw [hv], by simp [h], hb⟩
theorem boolPost_yes {Q : Prop} {w w' : World} {v : Value} (hv : v = .bool true) (h : Q) (hb : Below w.heap.size w w') : BoolPost Q w (.returned v) w' := ⟨true, by rw [hv], by simp [h], hb⟩

def FSl.small (x : FSl) : Prop := x.1 ≤ 60 ∧ x.2.job ≤ 9999 ∧ x.2.bud ≤ 9999

theorem dup_snoc (P : List FSl) (y x : FSl) : dupJ (P ++ [y]) x ↔ dupJ P x ∨ (y.2.nm = x.2.nm ∧ y.2.job = x.2.job ∧ y.1 = x.1) := by
  unfold dupJ
  simp only [List.mem_append, List.mem_singleton]
  constructor
  · rintro ⟨z, hz | rfl, h⟩
    · exact .inl ⟨z, hz, h⟩
    · exact .inr h
  · rintro (⟨z, hz, h⟩ | h)
    · exact ⟨z, .inl hz, h⟩
    · exact ⟨y, .inr rfl, h⟩
theorem take_next {l : List FSl} {k : Nat} (h : k < l.length) : l.take (k + 1) = l.take k ++ [fsk l k] := by
  rw [List.take_succ_eq_append_getElem h, fsk_eq h]
theorem nextJ_le {l : List FSl} (hs : ∀ k, k < l.length → (fsk l k).small) (n : UInt8) : ∀ k, k ≤ l.length → nextJ (l.take k) n ≤ 10000
  | 0, _ => by simp [nextJ]
  | k + 1, h => by
    have ih := nextJ_le hs n k (by omega)
    have hk := (hs k (by omega)).2.1
    rw [take_next (by omega), nextJ_snoc]
    split
    · split <;> omega
    · exact ih

/-- Up to slice k all is as it should be. -/
def JTo (l : List FSl) (k : Nat) : Prop := ∀ i, i < k → okR (l.take i) (fsk l i)
theorem jTo_all {l : List FSl} : JobsR l ↔ JTo l l.length := by
  constructor
  · intro h i hi
    have := h i hi
    rw [fsk_eq hi] at this
    exact this
  · intro h i hi
    rw [fsk_eq hi]
    exact h i hi
theorem jTo_step {l : List FSl} {k : Nat} (h : JTo l k) (hk : okR (l.take k) (fsk l k)) : JTo l (k + 1) := by
  intro i hi
  rcases Nat.lt_or_ge i k with h1 | h1
  · exact h i h1
  · have : i = k := by omega
    subst this
    exact hk

set_option maxRecDepth 100000 in
set_option maxHeartbeats 4000000 in
theorem rjobs_any (c f : Nat) (l : List FSl) (g cap : Nat) (w : World) (hg : g < w.heap.size) (hr : RowF w g l) (hn : l.length ≤ 300) (hs : ∀ k, k < l.length → (fsk l k).small) :
    Calls Tryz.prog 81 #[.agg #[.int .i64 c, .int .i64 f, .slice (some ⟨g, 0, none⟩) l.length cap]] w (BoolPost (JobsR l) w) := by
  have Hr := hide hr
  have H0 := hide (TBx.start w c f (.slice (some ⟨g, 0, none⟩) l.length cap))
  have Hs := hide hs
  clear hr hs
  go_enter Tryz.func81, Tryz.ntmps81
  go_wp2_with fail
  go_loopw [3] (fun i wr => ∃ k : Nat, k ≤ l.length ∧ i = .int .i64 k ∧ TBx w wr c f (.slice (some ⟨g, 0, none⟩) l.length cap) ∧ JTo l k) (fun i _ => l.length - (intOf i).toNat)
  case atStart => exact ⟨0, by omega, rfl, H0.out, fun i hi => by omega⟩
  case round =>
    clear H0
    obtain ⟨k, hk, rfl, hT, hJ⟩ := hrel
    obtain ⟨x0, x1, x2⟩ := hT.cells
    have HT := hide hT
    have HJ := hide hJ
    clear hT hJ
    by_cases hlt : k < l.length
    · have hlt' : (k : Int) < l.length := by omega
      go_wp2_with fail
      clear x0 x1 x2
      go_loopw [4, 5] (fun nx j wr => ∃ q : Nat, q ≤ k ∧ j = .int .i64 q ∧ nx = .int .i64 (nextJ (l.take q) (fsk l k).2.nm : Nat) ∧ TBx w wr c f (.slice (some ⟨g, 0, none⟩) l.length cap) ∧ Hid (¬ dupJ (l.take q) (fsk l k))) (fun _ j _ => k - (intOf j).toNat)
      case atStart => exact ⟨0, by omega, rfl, rfl, HT.out, by simp [Hid, dupJ]⟩
      case round =>
        clear HT
        obtain ⟨q, hq, rfl, rfl, hT, hD⟩ := hrel
        obtain ⟨x0, x1, x2⟩ := hT.cells
        have HT := hide hT
        have hR := Hr.out.below hT.b hg
        obtain ⟨k0, k1, k2, k3⟩ := hR k hlt
        have hks := Hs.out k hlt
        obtain ⟨hk1, hk2, hk3⟩ := hks
        have hnl := nextJ_le Hs.out (fsk l k).2.nm q (by omega)
        by_cases hqk : q < k
        · have hqk' : (q : Int) < k := by omega
          obtain ⟨q0, q1, q2, q3⟩ := hR q (by omega)
          obtain ⟨hq1, hq2, hq3⟩ := Hs.out q (by omega)
          have htk := hide (take_next (l := l) (k := q) (by omega))
          clear hT hR
          by_cases hnm : (fsk l q).2.nm = (fsk l k).2.nm
          · have hb : (((fsk l q).2.nm.toNat : Int) == (fsk l k).2.nm.toNat) = true := by rw [u8_eq]; simpa using hnm
            have hnx : Hid (nextJ (l.take (q + 1)) (fsk l k).2.nm = if nextJ (l.take q) (fsk l k).2.nm < (fsk l q).2.job + 1 then (fsk l q).2.job + 1 else nextJ (l.take q) (fsk l k).2.nm) := by
              unfold Hid
              rw [htk.out, nextJ_snoc, if_pos hnm]
            have hds : Hid (dupJ (l.take (q + 1)) (fsk l k) ↔ (fsk l q).2.job = (fsk l k).2.job ∧ (fsk l q).1 = (fsk l k).1) := by
              unfold Hid
              rw [htk.out, dup_snoc]
              constructor
              · rintro (h | ⟨_, h⟩)
                · exact absurd h hD.out
                · exact h
              · intro h
                exact .inr ⟨hnm, h⟩
            have Hnm := hide hnm
            clear hnm htk
            generalize nextJ (l.take q) (fsk l k).2.nm = nq at *
            have hcase : ((((fsk l q).2.job : Int) == (fsk l k).2.job) = false) ∨ ((((fsk l q).2.job : Int) == (fsk l k).2.job) = true ∧ (((fsk l q).1 : Int) == (fsk l k).1) = false) ∨ ((((fsk l q).2.job : Int) == (fsk l k).2.job) = true ∧ (((fsk l q).1 : Int) == (fsk l k).1) = true) := by
              cases (((fsk l q).2.job : Int) == (fsk l k).2.job) <;> cases (((fsk l q).1 : Int) == (fsk l k).1) <;> simp
            by_cases hgt : nq < (fsk l q).2.job + 1
            · have hgt' : (nq : Int) < (fsk l q).2.job + 1 := by omega
              have hnx2 : Hid (nextJ (l.take (q + 1)) (fsk l k).2.nm = (fsk l q).2.job + 1) := by unfold Hid; rw [hnx.out, if_pos hgt]
              clear hnx hgt
              rcases hcase with h1 | ⟨h1, h2⟩ | ⟨h1, h2⟩
              · have hnd : Hid (¬ dupJ (l.take (q + 1)) (fsk l k)) := by unfold Hid; rw [hds.out]; simp at h1; omega
                clear hds
                go_wp2
                go_quiet (fail)
                go_wp2
                go_quiet (fail)
                go_wp2
                go_roundw
                case rel => exact ⟨q + 1, by omega, by go_num, by rw [hnx2.out]; go_num, HT.out.drewN _, hnd.out⟩
                case measure => simp [intOf]; omega
              · have hnd : Hid (¬ dupJ (l.take (q + 1)) (fsk l k)) := by unfold Hid; rw [hds.out]; simp at h2; omega
                clear hds
                go_wp2
                go_quiet (fail)
                go_wp2
                go_quiet (fail)
                go_wp2
                go_roundw
                case rel => exact ⟨q + 1, by omega, by go_num, by rw [hnx2.out]; go_num, HT.out.drewN _, hnd.out⟩
                case measure => simp [intOf]; omega
              · have hno : Hid (¬ JobsR l) := by
                  unfold Hid
                  intro hall
                  have := (jTo_all.1 hall k hlt).1
                  refine this ?_
                  obtain ⟨z, hz, hz'⟩ := hds.out.2 ⟨by simp at h1; omega, by simp at h2; omega⟩
                  exact ⟨z, List.mem_of_mem_take (i := q + 1) (by rw [List.take_take]; rw [show min (q + 1) k = q + 1 by omega]; exact hz), hz'⟩
                clear hds
                go_wp2
                go_quiet (fail)
                go_wp2
                go_quiet (fail)
                go_wp2
                go_ret
                exact boolPost_no rfl hno.out ((HT.out.drewN _).drewN _).b
            · have hgt' : ¬ (nq : Int) < (fsk l q).2.job + 1 := by omega
              have hnx2 : Hid (nextJ (l.take (q + 1)) (fsk l k).2.nm = nq) := by unfold Hid; rw [hnx.out, if_neg hgt]
              clear hnx hgt
              rcases hcase with h1 | ⟨h1, h2⟩ | ⟨h1, h2⟩
              · have hnd : Hid (¬ dupJ (l.take (q + 1)) (fsk l k)) := by unfold Hid; rw [hds.out]; simp at h1; omega
                clear hds
                go_wp2
                go_quiet (fail)
                go_wp2
                go_quiet (fail)
                go_wp2
                go_roundw
                case rel => exact ⟨q + 1, by omega, by go_num, by rw [hnx2.out], HT.out.drewN _, hnd.out⟩
                case measure => simp [intOf]; omega
              · have hnd : Hid (¬ dupJ (l.take (q + 1)) (fsk l k)) := by unfold Hid; rw [hds.out]; simp at h2; omega
                clear hds
                go_wp2
                go_quiet (fail)
                go_wp2
                go_quiet (fail)
                go_wp2
                go_roundw
                case rel => exact ⟨q + 1, by omega, by go_num, by rw [hnx2.out], HT.out.drewN _, hnd.out⟩
                case measure => simp [intOf]; omega
              · have hno : Hid (¬ JobsR l) := by
                  unfold Hid
                  intro hall
                  have := (jTo_all.1 hall k hlt).1
                  refine this ?_
                  obtain ⟨z, hz, hz'⟩ := hds.out.2 ⟨by simp at h1; omega, by simp at h2; omega⟩
                  exact ⟨z, List.mem_of_mem_take (i := q + 1) (by rw [List.take_take]; rw [show min (q + 1) k = q + 1 by omega]; exact hz), hz'⟩
                clear hds
                go_wp2
                go_quiet (fail)
                go_wp2
                go_quiet (fail)
                go_wp2
                go_ret
                exact boolPost_no rfl hno.out ((HT.out.drewN _).drewN _).b
          · have hb : (((fsk l q).2.nm.toNat : Int) == (fsk l k).2.nm.toNat) = false := by rw [u8_eq]; simpa using hnm
            have hnx : Hid (nextJ (l.take (q + 1)) (fsk l k).2.nm = nextJ (l.take q) (fsk l k).2.nm) := by
              unfold Hid
              rw [htk.out, nextJ_snoc, if_neg hnm]
            have hnd : Hid (¬ dupJ (l.take (q + 1)) (fsk l k)) := by
              unfold Hid
              rw [htk.out, dup_snoc]
              rintro (h | ⟨h, _⟩)
              · exact hD.out h
              · exact hnm h
            clear hnm htk
            go_wp2
            go_quiet (fail)
            go_wp2
            go_roundw
            case rel => exact ⟨q + 1, by omega, by go_num, by rw [hnx.out], HT.out.drewN _, hnd.out⟩
            case measure => simp [intOf]; omega
        · have hqe : q = k := by omega
          subst hqe
          have hqk' : ¬ (q : Int) < q := by omega
          clear hT hR hqk
          generalize hnq : nextJ (l.take q) (fsk l q).2.nm = nq at *
          have Hnq := hide hnq
          clear hnq
          have hcase : (((fsk l q).2.job : Int) != nq) = false ∨ ((((fsk l q).2.job : Int) != nq) = true ∧ (((fsk l q).2.job : Int) != (nq : Int) - 1) = false) ∨ ((((fsk l q).2.job : Int) != nq) = true ∧ (((fsk l q).2.job : Int) != (nq : Int) - 1) = true) := by
            cases (((fsk l q).2.job : Int) != nq) <;> cases (((fsk l q).2.job : Int) != (nq : Int) - 1) <;> simp
          rcases hcase with h1 | ⟨h1, h2⟩ | ⟨h1, h2⟩
          · have hok : Hid (JTo l (q + 1)) := by
              refine jTo_step HJ.out ⟨hD.out, .inl ?_⟩
              rw [Hnq.out]
              simp at h1
              omega
            go_wp2
            go_roundw
            case rel => exact ⟨q + 1, by omega, by go_num, HT.out, hok.out⟩
            case measure => simp [intOf]; omega
          · have hok : Hid (JTo l (q + 1)) := by
              refine jTo_step HJ.out ⟨hD.out, .inr ?_⟩
              rw [Hnq.out]
              simp at h2
              omega
            go_wp2
            go_roundw
            case rel => exact ⟨q + 1, by omega, by go_num, HT.out, hok.out⟩
            case measure => simp [intOf]; omega
          · have hno : Hid (¬ JobsR l) := by
              intro hall
              have := (jTo_all.1 hall q hlt).2
              rw [Hnq.out] at this
              simp at h1 h2
              omega
            go_wp2
            go_ret
            exact boolPost_no rfl hno.out HT.out.b
    · have hlt' : ¬ (k : Int) < l.length := by omega
      have hke : k = l.length := by omega
      have hok : Hid (JobsR l) := by
        rw [hke] at HJ
        exact jTo_all.2 HJ.out
      go_wp2
      go_ret
      exact boolPost_yes rfl hok.out HT.out.b
end Go.Proofs.YtbdffcjganlblaaGreatDoor
