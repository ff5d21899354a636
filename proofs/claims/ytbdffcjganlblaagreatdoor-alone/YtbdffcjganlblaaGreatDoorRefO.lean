/-
  Own work. The document's answer: Print.
-/
import Derived.Test.YtbdffcjganlblaaGreatDoorRefN
import Derived.Deep.RegionWith
import Derived.Deep.DeepCutAuto
namespace Go.Proofs.YtbdffcjganlblaaGreatDoor
open Go.RowKit
set_option linter.unusedVariables false
set_option linter.unusedSimpArgs false

def dL (n : Nat) : List UInt8 := (dB n).data.toList
def tLine (t : Tk) : List UInt8 := [116, 97, 115, 107, 32] ++ [t.nm] ++ [32, 101, 118, 101, 114, 121, 32] ++ dL t.P ++ (if 0 < t.O then [32, 102, 114, 111, 109, 32] ++ dL t.O else []) ++ [32, 116, 97, 107, 101, 115, 32] ++ dL t.C ++ [32, 119, 105, 116, 104, 105, 110, 32] ++ dL t.D ++ [59, 10]
def pLine (p : Pr) : List UInt8 := (if p.ap then [97, 112, 97, 114, 116, 32] else [98, 101, 102, 111, 114, 101, 32]) ++ [p.a, 32, p.b] ++ [59, 10]

def printR (l : List UInt8) : List UInt8 × Nat × Nat :=
  match knownR l with
  | .error f => ([], f)
  | .ok (ts, ps) => (ts.flatMap tLine ++ ps.flatMap pLine, 0, 0)

theorem knownR_ok {l : List UInt8} {ts : List Tk} {ps : List Pr} (h : knownR l = .ok (ts, ps)) : (∀ k, k < ts.length → (tsk ts k).P < 100 ∧ (tsk ts k).O < 100 ∧ (tsk ts k).C < 100 ∧ (tsk ts k).D < 100) ∧ 1 ≤ ts.length ∧ ts.length ≤ 6 ∧ ps.length ≤ 6 := by
  unfold knownR at h
  split at h
  · simp at h
  · cases h1 : pSet (allToks l) with
    | error j => rw [h1] at h; simp at h
    | ok x =>
      obtain ⟨ts', ps'⟩ := x
      rw [h1] at h
      simp only at h
      split at h
      · simp at h
      · rename_i hE
        split at h
        · simp at h
        · simp at h
          obtain ⟨rfl, rfl⟩ := h
          obtain ⟨_, b2, b3, b4⟩ := pSet_bounds h1
          refine ⟨?_, b2, b3, b4⟩
          intro k hk
          have := timed_P (mT_zero ts'.length (mP_zero (ps := ps') ps'.length (by unfold meantI at hE; omega)) k hk)
          omega

theorem knownR_err {l : List UInt8} {f : Nat × Nat} (h : knownR l = .error f) : f.1 ≠ 0 := by
  unfold knownR at h
  split at h
  · simp at h; rw [← h]; decide
  · split at h
    · simp at h; rw [← h]; simp
    · split at h
      · simp at h; rw [← h]; assumption
      · split at h
        · simp at h; rw [← h]; decide
        · simp at h

theorem dL_len (n : Nat) : (dL n).length ≤ 2 := by
  have := dB_size n
  simpa [dL] using this
theorem tLine_len (t : Tk) : (tLine t).length ≤ 60 := by
  have h1 := dL_len t.P
  have h2 := dL_len t.O
  have h3 := dL_len t.C
  have h4 := dL_len t.D
  unfold tLine
  split <;> simp only [List.length_append, List.length_cons, List.length_nil] <;> omega
theorem flat_take {α : Type} (f : α → List UInt8) (d : α) (l : List α) (k : Nat) (h : k < l.length) : (l.take (k + 1)).flatMap f = (l.take k).flatMap f ++ f (l.getD k d) := by
  rw [List.take_succ_eq_append_getElem h, List.flatMap_append, List.getD_eq_getElem?_getD, List.getElem?_eq_getElem h]
  simp

/-- A sum of two short strings, under a name. -/
theorem add_named (a b : ByteArray) (h : a.size + b.size ≤ 100000) : ∃ X : ByteArray, (∀ w : World, (Op.stringOp .add a b).run Tryz.prog w = .ok (.string X) w) ∧ X.size = a.size + b.size ∧ X.data.toList = a.data.toList ++ b.data.toList :=
  ⟨a ++ b, fun w => run_string_add_sum w a b (by omega), by simp [ByteArray.size_append], by simp [ByteArray.data_append]⟩

set_option maxRecDepth 100000 in
set_option maxHeartbeats 1000000 in
theorem rPrint_R (s : ByteArray) (w : World) (hm : s.size ≤ 9223372036854775807) (R : List UInt8 × Nat × Nat) (hRR : printR s.data.toList = R) :
    Calls Tryz.prog 58 #[.string s] w fun e w' => e = .returned (.tuple #[.string (bs R.1), .int .i64 R.2.1, .int .i64 R.2.2]) ∧ Below w.heap.size w w' := by
  have hpr : Hid (R = match knownR s.data.toList with
    | .error f => ([], f)
    | .ok (ts, ps) => (ts.flatMap tLine ++ ps.flatMap pLine, 0, 0)) := hRR.symm
  clear hRR
  have hko := fun ts ps => knownR_ok (l := s.data.toList) (ts := ts) (ps := ps)
  have Hko := hide hko
  clear hko
  go_enter Tryz.func58, Tryz.ntmps58
  go_wp2_with fail
  refine (rKnown_any s _ hm).mono ?_
  rintro e w1 ⟨hb, hcase⟩
  have Hb := hide hb
  clear hb
  rcases hcase with ⟨f, hf, rfl⟩ | ⟨ts, ps, tv, pv, hj, rfl, ht, hp⟩
  · have hR : R = ([], f) := by rw [hpr.out, hf]
    subst hR
    have h0 := knownR_err hf
    clear hf hpr Hko
    have h0' : ((f.1 : Int) != 0) = true := by rw [bne_iff_ne]; omega
    go_wp2
    go_ret3
    refine ⟨?_, Hb.out.alloc Hb.out.size _⟩
    simp [bs]
  · have hR : R = (ts.flatMap tLine ++ ps.flatMap pLine, 0, 0) := by rw [hpr.out, hj]
    subst hR
    obtain ⟨hsm, hn1, hn6, hm6⟩ := Hko.out ts ps hj
    obtain ⟨g, cap, rfl, hg1, hg2⟩ := own_form ht (by omega)
    obtain ⟨pa, pc, rfl⟩ := own_slice hp
    have Hrow := hide (rowT_own ht)
    have Hpp := hide (hp_of hp)
    have Hsm := hide hsm
    clear hj hpr Hko hsm ht hp
    have hX := hide (blk_new w1 #[.slice (some ⟨g, 0, none⟩) ts.length cap, .slice pa ps.length pc] 53)
    have hB := hide (Hb.out.alloc Hb.out.size (.cells #[.slice (some ⟨g, 0, none⟩) ts.length cap, .slice pa ps.length pc] 53))
    have hbn := hide (below_new w1 (.cells #[.slice (some ⟨g, 0, none⟩) ts.length cap, .slice pa ps.length pc] 53))
    have hsz := Hb.out.size
    go_wp2
    go_loopw [8, 9] (fun x i wr => ∃ (k : Nat), k ≤ ts.length ∧ i = .int .i64 k ∧ x = .string (bs ((ts.take k).flatMap tLine)) ∧ ((ts.take k).flatMap tLine).length ≤ 60 * k ∧ wr.heap[w1.heap.size]? = some (.cells #[.slice (some ⟨g, 0, none⟩) ts.length cap, .slice pa ps.length pc] 53 (0, 0)) ∧ Below w.heap.size w wr ∧ Below w1.heap.size w1 wr) (fun _ i _ => ts.length - (intOf i).toNat)
    case atStart => exact ⟨0, by omega, rfl, by simp [bs], by simp, hX.out, hB.out, hbn.out⟩
    case round =>
      clear hX hB hbn
      obtain ⟨k, hk, rfl, rfl, hlen, hx, hbw, hbw1⟩ := hrel
      have x0 : ∀ o, wr.cell? ⟨w1.heap.size, o, none⟩ = #[Value.slice (some ⟨g, 0, none⟩) ts.length cap, .slice pa ps.length pc][o]? := blk_cell hx
      have hxl := blk_lt hx
      by_cases hlt : k < ts.length
      · obtain ⟨r0, r1, r2, r3, r4, r5, r6, r7, r8, r9⟩ := Hrow.out.below hbw1 hg2 k hlt
        obtain ⟨b1, b2, b3, b4⟩ := Hsm.out k hlt
        have hft : Hid ((ts.take (k + 1)).flatMap tLine = (ts.take k).flatMap tLine ++ tLine (tsk ts k)) := flat_take tLine _ ts k hlt
        have htl : Hid ((tLine (tsk ts k)).length ≤ 60) := tLine_len _
        have Hx := hide hx
        have Hbw := hide hbw
        have Hbw1 := hide hbw1
        have hgw : g < wr.heap.size := by omega
        clear hx hbw hbw1
        generalize tsk ts k = t at *
        generalize (ts.take k).flatMap tLine = L at *
        have hLs : (bs L).size ≤ 360 := by rw [bs_size]; omega
        have hd1 := dB_size t.P
        have hd2 := dB_size t.O
        have hd3 := dB_size t.C
        have hd4 := dB_size t.D
        have hcv : ∀ (o : Obj), (convert 64 9 (.slice (some ⟨wr.heap.size + 1, 0, none⟩) 1 1)).run Tryz.prog ((wr.alloc o).alloc (.cells #[.int .u8 t.nm.toNat] 5)).drew = .ok (.string ⟨#[t.nm]⟩) ((wr.alloc o).alloc (.cells #[.int .u8 t.nm.toNat] 5)).drew := by
          intro o
          refine run_convert_bytes_back _ 64 9 5 ⟨wr.heap.size + 1, 0, none⟩ 1 [t.nm] Tryz.underlying64 Tryz.underlying5 Tryz.underlying9 ?_
          intro j hj
          have h0 : j = 0 := by simpa using hj
          subst h0
          exact cells_new (wr.alloc o) #[.int .u8 t.nm.toNat] 5 (wr.heap.size + 1) (by simp) 0 _ rfl
        obtain ⟨X1, a1, z1, e1⟩ := add_named (bs L) ⟨#[116, 97, 115, 107, 32]⟩ (by rw [show (ByteArray.size ⟨#[116, 97, 115, 107, 32]⟩) = 5 from rfl]; omega)
        rw [show (ByteArray.size ⟨#[116, 97, 115, 107, 32]⟩) = 5 from rfl] at z1
        obtain ⟨X2, a2, z2, e2⟩ := add_named X1 ⟨#[t.nm]⟩ (by rw [show (ByteArray.size ⟨#[t.nm]⟩) = 1 from rfl]; omega)
        rw [show (ByteArray.size ⟨#[t.nm]⟩) = 1 from rfl] at z2
        obtain ⟨X3, a3, z3, e3⟩ := add_named X2 ⟨#[32, 101, 118, 101, 114, 121, 32]⟩ (by rw [show (ByteArray.size ⟨#[32, 101, 118, 101, 114, 121, 32]⟩) = 7 from rfl]; omega)
        rw [show (ByteArray.size ⟨#[32, 101, 118, 101, 114, 121, 32]⟩) = 7 from rfl] at z3
        obtain ⟨X4, a4, z4, e4⟩ := add_named X3 (dB t.P) (by omega)
        have z4' : X4.size ≤ 375 := by omega
        have E4 : Hid (X4.data.toList = L ++ [116, 97, 115, 107, 32] ++ [t.nm] ++ [32, 101, 118, 101, 114, 121, 32] ++ dL t.P) := by
          unfold Hid
          rw [e4, e3, e2, e1, bs_data]
          simp [dL]
        clear z1 z2 z3 z4 e1 e2 e3 e4
        go_wp2_with fail
        go_cut [8] (fun x wc => x = .string X4 ∧ wc.heap[wr.heap.size]? = some (.cells (tkA t) 95 (0, 0)) ∧ Below wr.heap.size wr wc)
        case first =>
          go_region_with ((go_at_call 82; refine (rdec_any t.P _ b1).mono ?_; rintro e w' ⟨rfl, rfl⟩))
          all_goals
            go_wp2
            go_meet
            case rel =>
              refine ⟨rfl, ?_, (((below_new wr _).alloc (by simp) _)).drew⟩
              show ((wr.alloc _).alloc _).heap[wr.heap.size]? = _
              rw [Below.heap_alloc _ _ _ (by simp)]
              exact blk_new _ _ _
        case rest =>
          obtain ⟨rfl, hT, hbc⟩ := hcut
          obtain ⟨c0, c1, c2, c3, c4, _⟩ := tkA_cells hT
          have HX2 := hide (blk_keep Hx.out hbc)
          have Hwc := hide (Hbw.out.trans (hbc.mono (by omega)))
          have Hwc1 := hide (Hbw1.out.trans (hbc.mono (by omega)))
          clear hT hbc a1 a2 a3 a4 hcv r0 r1 r2 r3 r4 r5 r6 r7 r8 r9 x0
          generalize wr.heap.size = X at *
          by_cases hO : 0 < t.O
          · have hO' : (0 : Int) < t.O := by omega
            obtain ⟨Y1, b5, y1, f1⟩ := add_named X4 ⟨#[32, 102, 114, 111, 109, 32]⟩ (by rw [show (ByteArray.size ⟨#[32, 102, 114, 111, 109, 32]⟩) = 6 from rfl]; omega)
            rw [show (ByteArray.size ⟨#[32, 102, 114, 111, 109, 32]⟩) = 6 from rfl] at y1
            obtain ⟨Y2, b6, y2, f2⟩ := add_named Y1 (dB t.O) (by omega)
            have E6 : Hid (Y2.data.toList = L ++ [116, 97, 115, 107, 32] ++ [t.nm] ++ [32, 101, 118, 101, 114, 121, 32] ++ dL t.P ++ [32, 102, 114, 111, 109, 32] ++ dL t.O) := by
              unfold Hid
              rw [f2, f1, E4.out]
              simp [dL]
            have y2' : Y2.size ≤ 400 := by omega
            clear y1 y2 f1 f2
            go_wp2_with fail
            refine (rdec_any t.O _ b2).mono ?_
            rintro e w' ⟨rfl, rfl⟩
            obtain ⟨Z1, d1, z1, e1⟩ := add_named Y2 ⟨#[32, 116, 97, 107, 101, 115, 32]⟩ (by rw [show (ByteArray.size ⟨#[32, 116, 97, 107, 101, 115, 32]⟩) = 7 from rfl]; omega)
            rw [show (ByteArray.size ⟨#[32, 116, 97, 107, 101, 115, 32]⟩) = 7 from rfl] at z1
            obtain ⟨Z2, d2, z2, e2⟩ := add_named Z1 (dB t.C) (by omega)
            obtain ⟨Z3, d3, z3, e3⟩ := add_named Z2 ⟨#[32, 119, 105, 116, 104, 105, 110, 32]⟩ (by rw [show (ByteArray.size ⟨#[32, 119, 105, 116, 104, 105, 110, 32]⟩) = 8 from rfl]; omega)
            rw [show (ByteArray.size ⟨#[32, 119, 105, 116, 104, 105, 110, 32]⟩) = 8 from rfl] at z3
            obtain ⟨Z4, d4, z4, e4⟩ := add_named Z3 (dB t.D) (by omega)
            obtain ⟨Z5, d5, z5, e5⟩ := add_named Z4 ⟨#[59, 10]⟩ (by rw [show (ByteArray.size ⟨#[59, 10]⟩) = 2 from rfl]; omega)
            have EZ : Hid (.string Z5 = Value.string (bs ((ts.take (k + 1)).flatMap tLine))) := by
              unfold Hid
              rw [hft.out]
              congr 1
              rw [← bs_list Z5]
              congr 1
              rw [e5, e4, e3, e2, e1]
              rw [E6.out]
              unfold tLine
              rw [if_pos hO]
              simp [dL]
            have EL : Hid (((ts.take (k + 1)).flatMap tLine).length ≤ 60 * (k + 1)) := by
              unfold Hid
              rw [hft.out, List.length_append]
              have := htl.out
              omega
            clear z1 z2 z3 z4 z5 e1 e2 e3 e4 e5
            go_wp2_with fail
            go_quiet ((go_at_call 82; exact Calls.quiet_of_same (rdec_any _ _ (by first | exact b3 | exact b4))))
            go_wp2
            go_roundw
            case rel => exact ⟨k + 1, by omega, by go_num, EZ.out, EL.out, by exact HX2.out, below_drewN Hwc.out _, below_drewN Hwc1.out _⟩
            case measure => simp [intOf]; omega
          · have hO' : ¬ (0 : Int) < t.O := by omega
            obtain ⟨Z1, d1, z1, e1⟩ := add_named X4 ⟨#[32, 116, 97, 107, 101, 115, 32]⟩ (by rw [show (ByteArray.size ⟨#[32, 116, 97, 107, 101, 115, 32]⟩) = 7 from rfl]; omega)
            rw [show (ByteArray.size ⟨#[32, 116, 97, 107, 101, 115, 32]⟩) = 7 from rfl] at z1
            obtain ⟨Z2, d2, z2, e2⟩ := add_named Z1 (dB t.C) (by omega)
            obtain ⟨Z3, d3, z3, e3⟩ := add_named Z2 ⟨#[32, 119, 105, 116, 104, 105, 110, 32]⟩ (by rw [show (ByteArray.size ⟨#[32, 119, 105, 116, 104, 105, 110, 32]⟩) = 8 from rfl]; omega)
            rw [show (ByteArray.size ⟨#[32, 119, 105, 116, 104, 105, 110, 32]⟩) = 8 from rfl] at z3
            obtain ⟨Z4, d4, z4, e4⟩ := add_named Z3 (dB t.D) (by omega)
            obtain ⟨Z5, d5, z5, e5⟩ := add_named Z4 ⟨#[59, 10]⟩ (by rw [show (ByteArray.size ⟨#[59, 10]⟩) = 2 from rfl]; omega)
            have EZ : Hid (.string Z5 = Value.string (bs ((ts.take (k + 1)).flatMap tLine))) := by
              unfold Hid
              rw [hft.out]
              congr 1
              rw [← bs_list Z5]
              congr 1
              rw [e5, e4, e3, e2, e1]
              rw [E4.out]
              unfold tLine
              rw [if_neg hO]
              simp [dL]
            have EL : Hid (((ts.take (k + 1)).flatMap tLine).length ≤ 60 * (k + 1)) := by
              unfold Hid
              rw [hft.out, List.length_append]
              have := htl.out
              omega
            clear z1 z2 z3 z4 z5 e1 e2 e3 e4 e5
            go_wp2_with fail
            go_quiet ((go_at_call 82; exact Calls.quiet_of_same (rdec_any _ _ (by first | exact b3 | exact b4))))
            go_wp2
            go_roundw
            case rel => exact ⟨k + 1, by omega, by go_num, EZ.out, EL.out, by exact HX2.out, below_drewN Hwc.out _, below_drewN Hwc1.out _⟩
            case measure => simp [intOf]; omega
      · have hkl : k = ts.length := by omega
        subst hkl
        have hxx := hide hx
        have Hbw := hide hbw
        have Hbw1 := hide hbw1
        have hR0 : Hid ((ts.take ts.length).flatMap tLine = ts.flatMap tLine) := by unfold Hid; rw [List.take_length]
        have hlen' : (ts.flatMap tLine).length ≤ 400 := by rw [← hR0.out]; omega
        rw [hR0.out]
        clear hx hbw hbw1 hlen hR0
        generalize hL0 : ts.flatMap tLine = L0 at *
        have HL0 := hide hL0
        clear hL0
        go_wp2
        go_loopw [8, 11] (fun x i wr => ∃ (k : Nat), k ≤ ps.length ∧ i = .int .i64 k ∧ x = .string (bs (L0 ++ (ps.take k).flatMap pLine)) ∧ (L0 ++ (ps.take k).flatMap pLine).length ≤ 400 + 12 * k ∧ wr.heap[w1.heap.size]? = some (.cells #[.slice (some ⟨g, 0, none⟩) ts.length cap, .slice pa ps.length pc] 53 (0, 0)) ∧ Below w.heap.size w wr ∧ Below w1.heap.size w1 wr) (fun _ i _ => ps.length - (intOf i).toNat)
        case atStart => exact ⟨0, by omega, rfl, by simp, by simp; omega, hxx.out, Hbw.out, Hbw1.out⟩
        case round =>
          clear hxx Hbw Hbw1 x0
          obtain ⟨k, hk, rfl, rfl, hlen, hx, hbw, hbw1⟩ := hrel
          have x0 : ∀ o, wr.cell? ⟨w1.heap.size, o, none⟩ = #[Value.slice (some ⟨g, 0, none⟩) ts.length cap, .slice pa ps.length pc][o]? := blk_cell hx
          have hxl2 := blk_lt hx
          by_cases hlt : k < ps.length
          · obtain ⟨gp, rfl, hgp, hRP⟩ := Hpp.out (by omega)
            obtain ⟨r0, r1, r2, r3, r4⟩ := hRP.below hbw1 hgp k hlt
            have hft : Hid ((ps.take (k + 1)).flatMap pLine = (ps.take k).flatMap pLine ++ pLine (psk ps k)) := flat_take pLine _ ps k hlt
            have Hx := hide hx
            have Hbw := hide hbw
            have Hbw1 := hide hbw1
            have hgw : gp < wr.heap.size := by omega
            clear hx hbw hbw1 hRP Hpp
            generalize psk ps k = p at *
            have hL : Hid (L0 ++ (ps.take (k + 1)).flatMap pLine = (L0 ++ (ps.take k).flatMap pLine) ++ pLine p) := by unfold Hid; rw [hft.out, List.append_assoc]
            generalize L0 ++ (ps.take k).flatMap pLine = L at *
            have hLs : (bs L).size ≤ 480 := by rw [bs_size]; omega
            have hcv : ∀ (o : Obj), (convert 64 9 (.slice (some ⟨wr.heap.size + 1, 0, none⟩) 3 3)).run Tryz.prog ((wr.alloc o).alloc (.cells #[.int .u8 p.a.toNat, .int .u8 32, .int .u8 p.b.toNat] 5)) = .ok (.string ⟨#[p.a, 32, p.b]⟩) ((wr.alloc o).alloc (.cells #[.int .u8 p.a.toNat, .int .u8 32, .int .u8 p.b.toNat] 5)) := by
              intro o
              refine run_convert_bytes_back _ 64 9 5 ⟨wr.heap.size + 1, 0, none⟩ 3 [p.a, 32, p.b] Tryz.underlying64 Tryz.underlying5 Tryz.underlying9 ?_
              intro j hj
              refine cells_new (wr.alloc o) #[.int .u8 p.a.toNat, .int .u8 32, .int .u8 p.b.toNat] 5 (wr.heap.size + 1) (by simp) j _ ?_
              match j, hj with
              | 0, _ => rfl
              | 1, _ => rfl
              | 2, _ => rfl
            have hap : ∃ (W : ByteArray) (b : Bool), p.ap = b ∧ W.size ≤ 7 ∧ W.data.toList = (if b then [97, 112, 97, 114, 116, 32] else [98, 101, 102, 111, 114, 101, 32]) ∧ W = (if b then ⟨#[97, 112, 97, 114, 116, 32]⟩ else ⟨#[98, 101, 102, 111, 114, 101, 32]⟩) := by
              cases p.ap
              · exact ⟨⟨#[98, 101, 102, 111, 114, 101, 32]⟩, false, rfl, by decide, rfl, rfl⟩
              · exact ⟨⟨#[97, 112, 97, 114, 116, 32]⟩, true, rfl, by decide, rfl, rfl⟩
            obtain ⟨W, bb, hbb, hW, hWl, hWe⟩ := hap
            obtain ⟨X1, a1, z1, e1⟩ := add_named (bs L) W (by omega)
            obtain ⟨X2, a2, z2, e2⟩ := add_named X1 ⟨#[p.a, 32, p.b]⟩ (by rw [show (ByteArray.size ⟨#[p.a, 32, p.b]⟩) = 3 from rfl]; omega)
            rw [show (ByteArray.size ⟨#[p.a, 32, p.b]⟩) = 3 from rfl] at z2
            obtain ⟨X3, a3, z3, e3⟩ := add_named X2 ⟨#[59, 10]⟩ (by rw [show (ByteArray.size ⟨#[59, 10]⟩) = 2 from rfl]; omega)
            have EZ : Hid (.string X3 = Value.string (bs (L ++ pLine p))) := by
              unfold Hid
              congr 1
              rw [← bs_list X3]
              congr 1
              rw [e3, e2, e1, hWl, bs_data]
              unfold pLine
              rw [hbb]
              simp
            have EL : Hid ((L ++ pLine p).length ≤ 400 + 12 * (k + 1)) := by
              unfold Hid
              have : (pLine p).length ≤ 12 := by unfold pLine; split <;> simp
              rw [List.length_append]
              omega
            clear z1 z2 z3 e1 e2 e3 hW hWl
            rw [hbb] at r2
            clear hbb
            cases bb
            all_goals
              simp only [if_true, Bool.false_eq_true, if_false] at hWe
              subst hWe
              go_wp2
              go_roundw
              case rel => exact ⟨k + 1, by omega, by go_num, by rw [hL.out]; exact EZ.out, by rw [hL.out]; exact EL.out, by rw [Below.heap_alloc _ _ _ (by simp; omega), Below.heap_alloc _ _ _ (by omega)]; exact Hx.out, (Hbw.out.alloc (by have := Hbw.out.size; omega) _).alloc (by have := Hbw.out.size; simp; omega) _, (Hbw1.out.alloc (by omega) _).alloc (by simp; omega) _⟩
              case measure => simp [intOf]; omega
          · have hkl : k = ps.length := by omega
            subst hkl
            have Hbw := hide hbw
            clear hx hbw hbw1
            rw [List.take_length]
            go_wp2
            go_ret3
            refine ⟨?_, Hbw.out⟩
            simp [HL0.out]

theorem rPrint_any (s : ByteArray) (w : World) (hm : s.size ≤ 9223372036854775807) :
    Calls Tryz.prog 58 #[.string s] w fun e w' => e = .returned (.tuple #[.string (bs (printR s.data.toList).1), .int .i64 (printR s.data.toList).2.1, .int .i64 (printR s.data.toList).2.2]) ∧ Below w.heap.size w w' :=
  rPrint_R s w hm _ rfl
end Go.Proofs.YtbdffcjganlblaaGreatDoor
