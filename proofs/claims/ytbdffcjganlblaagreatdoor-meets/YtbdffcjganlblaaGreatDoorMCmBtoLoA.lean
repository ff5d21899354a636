/-
  Own work. The law Compiles: one task set.
-/
import Derived.Test.YtbdffcjganlblaaGreatDoorMPnMtoCmA
import Derived.Test.YtbdffcjganlblaaGreatDoorMDsHtoDsH
import Derived.Test.YtbdffcjganlblaaGreatDoorMDsFtoMtD
import Derived.Test.YtbdffcjganlblaaGreatDoorMLawCtoMtA
import Derived.Test.YtbdffcjganlblaaGreatDoorMTbMtoRnH
import Derived.Test.YtbdffcjganlblaaGreatDoorMTbCtoPrE
import Derived.Test.YtbdffcjganlblaaGreatDoorMPrCtoTbB
namespace Go.Proofs.YtbdffcjganlblaaGreatDoor
open Go.RowKit
set_option linter.unusedVariables false
set_option linter.unusedSimpArgs false

/-! ### What the answers are -/
section
variable {ts : List Tk} {ps : List Pr}
end

/-- The memory that Known leaves. -/
structure KnM (w : World) (g : Nat) (ts : List Tk) (pa : Option Addr) (ps : List Pr) : Prop where
  hg : g < w.heap.size
  t : RowT w g ts
  p : 0 < ps.length → ∃ gp, pa = some ⟨gp, 0, none⟩ ∧ gp < w.heap.size ∧ RowP w gp ps
theorem KnM.keep {w : World} {g : Nat} {ts : List Tk} {pa : Option Addr} {ps : List Pr} (h : KnM w g ts pa ps) {w' : World} (hb : Below w.heap.size w w') : KnM w' g ts pa ps :=
  ⟨Nat.lt_of_lt_of_le h.hg hb.size, h.t.below hb h.hg, fun h0 => by
    obtain ⟨gp, e, h1, h2⟩ := h.p h0
    exact ⟨gp, e, Nat.lt_of_lt_of_le h1 hb.size, h2.below hb h1⟩⟩
def KnOut (ts : List Tk) (ps : List Pr) (w : World) (e : Ending) (w' : World) : Prop := Below w.heap.size w w' ∧ ∃ g cap pa pc, e = .returned (.tuple #[.agg #[.slice (some ⟨g, 0, none⟩) ts.length cap, .slice pa ps.length pc], .int .i64 0, .int .i64 0]) ∧ KnM w' g ts pa ps
theorem known_ok (s : ByteArray) (w : World) (hm : s.size ≤ 9223372036854775807) {ts : List Tk} {ps : List Pr} (h : knownR s.data.toList = .ok (ts, ps)) (h1 : 0 < ts.length) : Calls Tryz.prog 27 #[.string s] w (KnOut ts ps w) := by
  refine (rKnown_any s w hm).mono ?_
  rintro e w' ⟨hb, hcase⟩
  rcases hcase with ⟨f, hf, _⟩ | ⟨ts2, ps2, tv, pv, hk, rfl, ht, hp⟩
  · rw [h] at hf; cases hf
  · rw [h] at hk
    simp only [Except.ok.injEq, Prod.mk.injEq] at hk
    obtain ⟨rfl, rfl⟩ := hk
    obtain ⟨g, cap, rfl, g1, g2⟩ := own_form ht h1
    obtain ⟨pa, pc, rfl⟩ := own_slice hp
    refine ⟨hb, g, cap, pa, pc, rfl, g2, rowT_own ht, fun h0 => ?_⟩
    obtain ⟨gp, cp, e, p1, p2⟩ := own_form hp h0
    injection e with e1 _ e3
    subst e1 e3
    exact ⟨gp, rfl, p2, rowP_own hp⟩
end Go.Proofs.YtbdffcjganlblaaGreatDoor

namespace Go.Proofs.YtbdffcjganlblaaGreatDoor
set_option linter.unusedVariables false
set_option linter.unusedSimpArgs false

theorem letter_46 {c : UInt8} (h : letterB (c.toNat : Int) = true) : c ≠ 46 := by
  rintro rfl
  simp [letterB] at h
section
variable {ts : List Tk} {ps : List Pr}
theorem set_goes (h : SetR ts ps) (hw : 0 < wideL ts ps) : Goes (flL ts ps) (cycI ts) (wideL ts ps) := goes_of_sound (tab_right h hw).1
theorem set_dot (h : SetR ts ps) : ∀ k, k < (jsL ts).length → (jk (jsL ts) k).ltr ≠ 46 := fun k hk => by
  obtain ⟨h1, h2, _⟩ := job_task hk
  rw [h2]
  exact letter_46 (h.ltr _ (tsk_mem h1))
theorem set_trc (h : SetR ts ps) (hw : 0 < wideL ts ps) {s : List UInt8} (hs : ∀ u, u < s.length → s.getD u 0 = barU (flL ts ps) (wideL ts ps) (u % cycI ts) ∨ s.getD u 0 = 46) :
    Trc (jsL ts) ps (cycI ts) (wideL ts ps) (runJ (jsL ts) ps (cycI ts) (wideL ts ps)).1.flatten (flL ts ps) s :=
  ⟨set_goes h hw, set_flat h hw, jobs_of h.tok, set_dot h, hs⟩
/-- With all costs as they were told. -/
theorem met_full (h : SetR ts ps) (hw : 0 < wideL ts ps) {T : Nat} (hT : T ≤ 400) : ∃ A tm, MetS (jsL ts) (cycI ts) T (prT (flL ts ps) (cycI ts) (wideL ts ps) [] T).out true A tm := by
  have hc := tab_right h hw
  have hn : ∀ i, i < (flL ts ps).length → (fsk (flL ts ps) i).2.nm ≠ 33 := fun i hi => by
    have hm : fsk (flL ts ps) i ∈ flL ts ps := by rw [← fsk_eq hi]; exact List.getElem_mem _
    obtain ⟨_, _, f, hf, hx⟩ := flatF_mem (tabL ts ps).fs 0 _ hm
    exact letter_33 (hc.2 f hf _ hx)
  rw [(out_nil (set_goes h hw) hn T).1]
  have ha : ∀ u, u < (barL (flL ts ps) (cycI ts) (wideL ts ps) T).length → (barL (flL ts ps) (cycI ts) (wideL ts ps) T).getD u 0 = barU (flL ts ps) (wideL ts ps) (u % cycI ts) := fun u hu => barL_at _ _ _ T u (by rw [barL_len] at hu; exact hu)
  exact ⟨_, _, (set_trc h hw (fun u hu => .inl (ha u hu))).met (barL_len _ _ _ T) hT true (fun _ => ha)⟩
/-- With less. -/
theorem met_less (h : SetR ts ps) (hw : 0 < wideL ts ps) {T : Nat} (hT : T ≤ 400) : ∃ A tm, MetS (jsL ts) (cycI ts) T (prT (flL ts ps) (cycI ts) (wideL ts ps) [1, 0] T).out false A tm := by
  have hL := LeW.all (flL ts ps) (cycI ts) (wideL ts ps) [1, 0] least_wants T
  exact ⟨_, _, (set_trc h hw (fun u hu => hL.at_ u (by rw [hL.len] at hu; exact hu))).met hL.len hT false (fun e => by cases e)⟩
end
end Go.Proofs.YtbdffcjganlblaaGreatDoor

namespace Go.Proofs.YtbdffcjganlblaaGreatDoor
open Go.RowKit
set_option linter.unusedVariables false
set_option linter.unusedSimpArgs false

def tbV : Tb := ⟨4, 2, [[⟨97, 0, 1⟩, ⟨98, 0, 1⟩], [⟨98, 0, 1⟩]]⟩
theorem tbV_ok : ChkOk tbV := by
  refine ⟨⟨by decide, by decide, by decide, ?_, ?_⟩, ?_⟩
  · intro f hf k hk
    have : f = [⟨97, 0, 1⟩, ⟨98, 0, 1⟩] ∨ f = [⟨98, 0, 1⟩] := by simpa [tbV] using hf
    rcases this with rfl | rfl
    · have : k = 0 ∨ k = 1 := by simp at hk; omega
      rcases this with rfl | rfl <;> simp [budS, tbV]
    · have : k = 0 := by simp at hk; omega
      subst this
      simp [budS, tbV]
  · intro k hk
    have : k = 0 ∨ k = 1 ∨ k = 2 := by simp [tbV, flatF] at hk; omega
    rcases this with rfl | rfl | rfl
    · left; rfl
    · left; rfl
    · right
      refine ⟨rfl, ?_⟩
      show (0 : Nat) ≠ 1
      decide
  · intro f hf s hs
    have : f = [⟨97, 0, 1⟩, ⟨98, 0, 1⟩] ∨ f = [⟨98, 0, 1⟩] := by simpa [tbV] using hf
    rcases this with rfl | rfl
    · have : s = ⟨97, 0, 1⟩ ∨ s = ⟨98, 0, 1⟩ := by simpa using hs
      rcases this with rfl | rfl <;> decide
    · have : s = ⟨98, 0, 1⟩ := by simpa using hs
      subst this
      decide
def tV1 : List UInt8 := [99, 121, 99, 108, 101, 32, 52, 32, 102, 114, 97, 109, 101, 32, 50, 59, 10, 97, 48, 58, 49, 44, 98, 48, 58, 49, 59, 10, 98, 48, 58, 49, 59, 10]
theorem tbV_txt : tbTxt tbV = tV1 := by decide +kernel
theorem tbV_run : (prT (flatF 0 tbV.fs) 4 2 [] 6).out = [97, 98, 98, 46, 97, 98] := by decide +kernel
def tV2 : List UInt8 := [116, 97, 115, 107, 32, 97, 32, 101, 118, 101, 114, 121, 32, 52, 32, 116, 97, 107, 101, 115, 32, 49, 32, 119, 105, 116, 104, 105, 110, 32, 52, 59, 32, 116, 97, 115, 107, 32, 98, 32, 101, 118, 101, 114, 121, 32, 56, 32, 116, 97, 107, 101, 115, 32, 51, 32, 119, 105, 116, 104, 105, 110, 32, 56, 59]
def isKn (r : Except (Nat × Nat) (List Tk × List Pr)) : Option (List (UInt8 × List Nat) × Nat) :=
  match r with
  | .error _ => none
  | .ok (ts, ps) => some (ts.map fun t => (t.nm, [t.P, t.O, t.C, t.D]), ps.length)
theorem tV2_kn : isKn (knownR tV2) = some ([(97, [4, 0, 1, 4]), (98, [8, 0, 3, 8])], 0) := by decide +kernel
theorem kn_parts {r : Except (Nat × Nat) (List Tk × List Pr)} (h : isKn r = some ([(97, [4, 0, 1, 4]), (98, [8, 0, 3, 8])], 0)) : ∃ a b, r = .ok ([a, b], []) ∧ a.nm = 97 ∧ a.P = 4 ∧ a.O = 0 ∧ a.C = 1 ∧ a.D = 4 ∧ b.nm = 98 ∧ b.P = 8 ∧ b.O = 0 ∧ b.C = 3 ∧ b.D = 8 := by
  cases r with
  | error f => simp [isKn] at h
  | ok x =>
    obtain ⟨ts, ps⟩ := x
    simp only [isKn, Option.some.injEq, Prod.mk.injEq] at h
    obtain ⟨h1, h2⟩ := h
    have hp : ps = [] := List.length_eq_zero_iff.1 h2
    subst hp
    match ts, h1 with
    | [a, b], h1 =>
      simp at h1
      obtain ⟨⟨a1, a2, a3, a4, a5⟩, b1, b2, b3, b4, b5⟩ := h1
      exact ⟨a, b, rfl, a1, a2, a3, a4, a5, b1, b2, b3, b4, b5⟩
    | [], h1 => simp at h1
    | [a], h1 => simp at h1
    | a :: b :: c :: r, h1 => simp at h1
theorem pack_len (t : Tb) : 4 ≤ (packB t).length := by
  unfold packB
  rw [List.length_append, show (sumL (bodyB t)).length = 4 from rfl]
  omega
theorem bs_ne {x : List UInt8} (h : 0 < x.length) : (bs x).toList.isEmpty = false := by
  rw [ByteArray.toList_eq, bs_data]
  cases x with
  | nil => simp at h
  | cons a r => rfl
/-- Run, where all is in order. -/
theorem run_good (pk : List UInt8) (t : Tb) (hu : UnpOk pk t) (tk : Int) (cs : List Int) (ca : Option Addr) (ccap : Nat) (w : World) (hk : ticksOk tk cs) (hca : CostsAt w ca cs) :
    Calls Tryz.prog 18 #[.string (bs pk), .int .i64 tk, .slice ca cs.length ccap] w fun e w' => e = .returned (.tuple #[.string (bs (prT (flatF 0 t.fs) t.cyc t.fr cs tk.toNat).out), .int .i64 0]) ∧ Below w.heap.size w w' := by
  have hl := hk.2.2.1
  refine (run_out (bs pk) tk cs ca ccap w (by rw [bs_size]; have := hu.1; omega) (by omega) hca).mono ?_
  rintro e w' ⟨hb, hcase⟩
  rw [bs_data] at hcase
  rcases hcase with ⟨f, hf, rfl⟩ | ⟨x, ⟨t2, h2, _, rfl⟩, rfl⟩
  · exfalso
    rcases hf with ⟨_, h⟩ | ⟨_, _, h⟩
    · exact h ⟨t, hu⟩
    · exact h hk
  · have := unp_one hu h2
    subst this
    exact ⟨rfl, hb⟩
/-- The program plans the document's example. -/
theorem tV2_wide {ts : List Tk} {ps : List Pr} (h : knownR tV2 = .ok (ts, ps)) : 0 < wideL ts ps := by
  obtain ⟨a, b, e, a1, a2, a3, a4, a5, b1, b2, b3, b4, b5⟩ := kn_parts tV2_kn
  rw [h] at e
  simp only [Except.ok.injEq, Prod.mk.injEq] at e
  obtain ⟨rfl, rfl⟩ := e
  have hc : cycI [a, b] = 8 := by
    unfold cycI
    simp only [List.length_cons, List.length_nil]
    rw [cycF, cycF, cycF]
    have t0 : (tsk [a, b] 0).P = 4 := a2
    have t1 : (tsk [a, b] (0 + 1)).P = 8 := b2
    rw [t0, t1]
    decide
  have hj : jsL [a, b] = [⟨97, 0, 0, 0, 4, 1⟩, ⟨97, 1, 0, 4, 8, 1⟩, ⟨98, 0, 1, 0, 8, 3⟩] := by
    show jobsL (cycI [a, b]) 0 [a, b] = _
    rw [hc]
    simp only [jobsL, jobsT, a1, a2, a3, a4, a5, b1, b2, b3, b4, b5]
    rfl
  show 0 < wideJ (jsL [a, b]) [] (cycI [a, b]) (cycI [a, b])
  rw [hj, hc]
  decide +kernel

set_option maxRecDepth 100000 in
set_option maxHeartbeats 4000000 in
theorem alive_any (w : World) : Calls Tryz.prog 19 #[] w fun e w' => e = .returned (.bool true) ∧ Below w.heap.size w w' := by
  have hup : Hid (UnpOk (packB tbV) tbV) := pack_unp tbV_ok
  have hto : Hid (TabOk tV1 tbV) := by
    have := (unp_tab hup.out).1
    rw [tbV_txt] at this
    exact this
  have CW : Hid (∀ (s : ByteArray) (W : World), s.data.toList = tV1 → Calls Tryz.prog 14 #[.string s] W fun e w' => e = .returned (.tuple #[.string (bs (packB tbV)), .int .i64 0]) ∧ Below W.heap.size W w') := fun s W hs => by
    refine (write_any s W (by have : s.size = 34 := (by rw [← ByteArray.size_data, ← Array.length_toList, hs]; rfl); omega)).mono ?_
    rintro e w' ⟨hb, hcase⟩
    rw [hs] at hcase
    rcases hcase with ⟨f, ⟨_, hno⟩, _⟩ | ⟨x, ⟨t, ht, rfl⟩, rfl⟩
    · exact absurd ⟨_, hto.out⟩ hno
    · rw [tab_one ht hto.out]
      exact ⟨rfl, hb⟩
  have CR : Hid (∀ W : World, Calls Tryz.prog 18 #[.string (bs (packB tbV)), .int .i64 6, .slice none 0 0] W fun e w' => e = .returned (.tuple #[.string ⟨#[97, 98, 98, 46, 97, 98]⟩, .int .i64 0]) ∧ Below W.heap.size W w') := fun W => by
    refine (run_good (packB tbV) tbV hup.out 6 [] none 0 W ⟨by decide, by decide, by simp, fun k hk => by simp at hk⟩ (.inl rfl)).mono ?_
    rintro e w' ⟨rfl, hb⟩
    refine ⟨?_, hb⟩
    rw [show (prT (flatF 0 tbV.fs) tbV.cyc tbV.fr [] (6 : Int).toNat).out = [97, 98, 98, 46, 97, 98] from tbV_run]
    rfl
  have CC : Hid (∀ (s : ByteArray) (W : World), s.data.toList = tV2 → Calls Tryz.prog 26 #[.string s] W fun e w' => ∃ c : ByteArray, e = .returned (.tuple #[.string c, .int .i64 0, .int .i64 0]) ∧ c.toList.isEmpty = false ∧ Below W.heap.size W w') := fun s W hs => by
    refine (compile_out s W (by have : s.size = 65 := (by rw [← ByteArray.size_data, ← Array.length_toList, hs]; rfl); omega)).mono ?_
    rintro e w' ⟨hb, hcase⟩
    rw [hs] at hcase
    rcases hcase with ⟨f, hf, _⟩ | ⟨x, ⟨ts, ps, h1, h2, h3, rfl⟩, rfl⟩
    · exfalso
      obtain ⟨a, b, e, _⟩ := kn_parts tV2_kn
      rcases hf with h1 | ⟨ts, ps, h1, h2, h3, _⟩
      · rw [h1] at e
        simp at e
      · have := tV2_wide h1
        omega
    · exact ⟨_, rfl, bs_ne (by have := pack_len (tabL ts ps); omega), hb⟩
  clear hup hto
  have hbs : ((bs (packB tbV)).toList == (bs (packB tbV)).toList) = true := by simp
  generalize bs (packB tbV) = PK at *
  go_enter Tryz.func19, Tryz.ntmps19
  go_wp2_with fail
  refine (CW.out _ _ rfl).mono ?_
  rintro e w1 ⟨rfl, hb1⟩
  have HB1 := hide hb1
  clear hb1 CW
  go_wp2_with fail
  refine (CR.out _).mono ?_
  rintro e w2 ⟨rfl, hb2⟩
  have HB2 := hide (HB1.out.trans (hb2.mono HB1.out.size))
  clear hb2 CR HB1
  go_wp2_with fail
  refine (CC.out _ _ rfl).mono ?_
  rintro e w3 ⟨c, rfl, hc, hb3⟩
  have HB3 := hide (HB2.out.trans (hb3.mono HB2.out.size))
  clear hb3 CC HB2
  have hss : ((ByteArray.mk #[97, 98, 98, 46, 97, 98]).toList == (ByteArray.mk #[97, 98, 98, 46, 97, 98]).toList) = true := by simp
  go_wp2_with (go_at_call 15; refine (num_any 0 _).mono ?_; rintro e w' ⟨rfl, hw'⟩; replace hw' := hw'.symm; subst hw')
  go_ret
  exact ⟨rfl, HB3.out⟩
end Go.Proofs.YtbdffcjganlblaaGreatDoor

namespace Go.Proofs.YtbdffcjganlblaaGreatDoor
set_option linter.unusedVariables false
set_option linter.unusedSimpArgs false

/-! ### A longer run -/
end Go.Proofs.YtbdffcjganlblaaGreatDoor

namespace Go.Proofs.YtbdffcjganlblaaGreatDoor
open Go.RowKit
set_option linter.unusedVariables false
set_option linter.unusedSimpArgs false

end Go.Proofs.YtbdffcjganlblaaGreatDoor
