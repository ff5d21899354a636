import Derived.Test.YtbdffcjganlblaaGreatDoorAProgFtoRefW
import Derived.Test.YtbdffcjganlblaaGreatDoorARefOtoRefP
import Derived.Deep.DeepCutAuto
set_option linter.unusedVariables false
set_option linter.unusedSimpArgs false
set_option maxRecDepth 100000
set_option maxHeartbeats 16000000
namespace Go.Proofs.YtbdffcjganlblaaGreatDoor
section
open Go.RowKit
theorem tok_sgn2 {l:List UInt8}{q:Nat}{c:UInt8}(hc:signB (c.toNat:Int)=true)(h:(tokAt l q).k=c.toNat):(tokAt l q).tx=[c]:=by
 have hc':c.toNat=44\/c.toNat=59\/c.toNat=58:=by
  simp only[signB,Bool.or_eq_true,beq_iff_eq]at hc;omega
 revert h
 unfold tokAt;split
 .intro h;simp only at h;omega
 .rename_i d r' hd;split
  .intro h;simp only at h ⊢;rw[UInt8.toNat_inj.1 h]
  .split
   .intro h;simp only at h;omega
   .split<;>(intro h;simp only at h;omega)
theorem seesP_sgn (l:List UInt8)(j:Nat)(c:UInt8)(hc:signB (c.toNat:Int)=true):seesP (tk (zT l) j) ⟨#[c]⟩=((tk (zT l) j).k==c.toNat):=by
 unfold seesP;rw[ByteArray.toList_eq,bs_data,ByteArray.toList_eq]
 cases hk:((tk (zT l) j).k==c.toNat)
 .cases h:((tk (zT l) j).tx==(ByteArray.mk #[c]).data.toList)
  .rfl
  .have h':(tk (zT l) j).tx=[c]:=by simpa using h
   simp only[beq_eq_false_iff_ne,ne_eq]at hk;simp only[signB,Bool.or_eq_true,beq_iff_eq]at hc;rcases tk_first h' with⟨h1,_⟩|⟨h1,_⟩|⟨_,h1,_⟩
   .simp only[zB,Bool.and_eq_true,decide_eq_true_eq]at h1;omega
   .simp only[zD,Bool.and_eq_true,decide_eq_true_eq]at h1;omega
   .exact absurd h1 hk
 .have hk':(tk (zT l) j).k=c.toNat:=by simpa using hk
  have:(tk (zT l) j).tx=[c]:=by
   rcases tk_form l j with⟨i,hi⟩|hi
   .rw[hi]at hk' ⊢;exact tok_sgn2 hc hk'
   .rw[hi]at hk';simp only[signB,Bool.or_eq_true,beq_iff_eq]at hc;simp only at hk';omega
  rw[this];simp
theorem s_colon (l:List UInt8)(j:Nat):seesP (tk (zT l) j) ⟨#[58]⟩=((tk (zT l) j).k==58):=seesP_sgn l j 58 (by decide)
theorem s_comma (l:List UInt8)(j:Nat):seesP (tk (zT l) j) ⟨#[44]⟩=((tk (zT l) j).k==44):=seesP_sgn l j 44 (by decide)
theorem s_cycle (l:List UInt8)(j:Nat):seesP (tk (zT l) j) wCycle=sees (tk (zT l) j) wCycle:=seesP_eq l j 99 [121,99,108,101] wCycle (by rw[ByteArray.toList_eq];rfl) rfl
theorem s_frame (l:List UInt8)(j:Nat):seesP (tk (zT l) j) wFrame=sees (tk (zT l) j) wFrame:=seesP_eq l j 102 [114,97,109,101] wFrame (by rw[ByteArray.toList_eq];rfl) rfl
def Dead {α:Type} (T:List PT) (R:Option (α×Nat)):Prop:=R=none\/∃a j,R=some (a,j)/\(tk T j).k=120
def slR (T:List PT) (i:Nat):Option (Sl×Nat):=if slOk T i then some (slAt T i,i+4) else none
def slRaw (s:Sl):Value:=.agg #[.int .u8 s.nm.toNat,.int .i64 s.job,.int .i64 s.bud]
section
variable {w wk:World} {ty:TypeId} {c d:Array Value} {b:Nat} {s:ByteArray} {i:Nat} {er:Nat}
def SlOut (er:Nat) (s:ByteArray) (b i:Nat) (w:World) (en:Ending) (w':World):Prop:=
 w.grownBy w' (some b)/\((∃p,en=pan er p/\Dead (zT s.data.toList) (slR (zT s.data.toList) i))\/(slOk (zT s.data.toList) i=true/\RS er w' b s (i+4)/\en=.returned (slRaw (slAt (zT s.data.toList) i))))
theorem dead_no {T:List PT}{i:Nat}(h:slOk T i=false):Dead T (slR T i):=.inl (by unfold slR;rw[h];rfl)
theorem name_at (t:PT)(h:t.tx=[nameB t])(w:World):(Instr.index 9 (.string (bs t.tx)) (.int .i64 0)).run Tryz.prog w=.ok (.int .u8 (nameB t).toNat) w:=by
 rw[h];simp[Instr.index,run_underlying Tryz.underlying9,go_sem,bs];rfl
theorem name_text (x:ByteArray)(c:Value)(w:World):(Instr.field 170 (.agg #[.string x,c]) 0).run Tryz.prog w=.ok (.string x) w:=by
 simp[Instr.field,run_underlying Tryz.underlying170,go_sem,asAgg]
theorem num_val (x:Int)(c:Value)(w:World):(Instr.field 145 (.agg #[.int .i64 x,c]) 0).run Tryz.prog w=.ok (.int .i64 x) w:=by
 simp[Instr.field,run_underlying Tryz.underlying145,go_sem,asAgg]
theorem takeSlice_any (h:RS er w b s i):
  Calls Tryz.prog 144 #[.pointer (some ⟨b,0,none⟩)] w (SlOut er s b i w):=by
 have S0:=Sp.start h 106 #[.int .u8 0,.int .i64 0,.int .i64 0] #[.int .u8 0,.int .i64 0,.int .i64 0];clear h;go_enter Tryz.func144,Tryz.ntmps144;go_wp2_with fail;refine(takeName_any S0.rs).mono ?_;rintro e w1 ⟨hg,hcase⟩;have hgw:=zR S0.g hg;rw[isNameP_eq]at hcase;rcases hcase with⟨h0,rfl⟩|⟨h0,h1,rfl⟩|⟨h0,h1,rfl⟩
 .exact⟨rfl,hgw,.inl ⟨_,rfl,dead_no (by simp[slOk,h0])⟩⟩
 .exact⟨rfl,hgw,.inl ⟨_,rfl,dead_no (by simp[slOk,h1])⟩⟩
 have F1:=hide h0;have S1:=S0.call h1 hg;obtain⟨x1,x2,x3,x4⟩:=S1.cells;have hnx:=name_at _ (name_tx h0);clear hg hgw h0 h1 S0;have hft:=name_text;have hfn:=num_val;go_wp2_with fail;have S1:=S1.set 0 (.int .u8 (nameB (tk (zT s.data.toList) i)).toNat) (c':=#[.int .u8 (nameB (tk (zT s.data.toList) i)).toNat,.int .i64 0,.int .i64 0]) rfl;clear x1 x2 x3 x4 hnx;refine(takeNumber_any S1.rs).mono ?_;rintro e w2 ⟨hg,hcase⟩;have hgw:=zR S1.g hg;rcases hcase with⟨h0,rfl⟩|⟨h0,h1,rfl⟩|⟨h0,h1,rfl⟩
 .exact⟨rfl,hgw,.inl ⟨_,rfl,dead_no (by simp[slOk,h0])⟩⟩
 .exact⟨rfl,hgw,.inl ⟨_,rfl,dead_no (by simp[slOk,h1])⟩⟩
 have F2:=hide h0;have S2:=S1.call h1 hg;obtain⟨x1,x2,x3,x4⟩:=S2.cells;clear hg hgw h0 h1 S1;go_wp2_with fail;have S2:=S2.set 1 (.int .i64 (tk (zT s.data.toList) (i+1)).N) (c':=#[.int .u8 (nameB (tk (zT s.data.toList) i)).toNat,.int .i64 (tk (zT s.data.toList) (i+1)).N,.int .i64 0]) rfl;clear x1 x2 x3 x4;refine(takeText_any S2.rs ⟨#[58]⟩ (by rw[ByteArray.toList_eq];decide)).mono ?_;rintro e w3 ⟨hg,hcase⟩;have hgw:=zR S2.g hg;rw[s_colon]at hcase;rcases hcase with⟨h0,rfl⟩|⟨h0,h1,rfl⟩|⟨h0,h1,rfl⟩
 .exact⟨rfl,hgw,.inl ⟨_,rfl,dead_no (by simp[slOk];intro _ _;simp at h0;simp[h0])⟩⟩
 .exact⟨rfl,hgw,.inl ⟨_,rfl,dead_no (by simp[slOk,h1])⟩⟩
 have F3:=hide h0;have S3:=S2.call h1 hg;obtain⟨x1,x2,x3,x4⟩:=S3.cells;clear hg hgw h0 h1 S2;go_wp2_with fail;clear x1 x2 x3 x4;refine(takeNumber_any S3.rs).mono ?_;rintro e w4 ⟨hg,hcase⟩;have hgw:=zR S3.g hg;rcases hcase with⟨h0,rfl⟩|⟨h0,h1,rfl⟩|⟨h0,h1,rfl⟩
 .exact⟨rfl,hgw,.inl ⟨_,rfl,dead_no (by simp[slOk];intro _ _ _;simp at h0;simp[h0])⟩⟩
 .refine⟨rfl,hgw,.inl ⟨_,rfl,.inr ⟨slAt (zT s.data.toList) i,i+4,?_,h1⟩⟩⟩;unfold slR;rw[if_pos (by simp only[slOk,F1.out,F2.out,F3.out,h0];rfl)]
 have hok:Hid (slOk (zT s.data.toList) i=true):=by unfold Hid;simp only[slOk,F1.out,F2.out,F3.out,h0];rfl
 have S4:=S3.call h1 hg;obtain⟨x1,x2,x3,x4⟩:=S4.cells;clear hg hgw h0 h1 S3;have hbb:=S4.hb;have S4':=hide (S4.set 2 (.int .i64 (tk (zT s.data.toList) (i+3)).N) (c':=#[.int .u8 (nameB (tk (zT s.data.toList) i)).toNat,.int .i64 (tk (zT s.data.toList) (i+1)).N,.int .i64 (tk (zT s.data.toList) (i+3)).N]) rfl);clear S4;go_wp2;refine bodyPost_ret (v:=slRaw (slAt (zT s.data.toList) i)) (by simp[results,Tryz.results144,go_sem,x3,slRaw,slAt]) rfl ⟨?_,.inr ⟨hok.out,?_,rfl⟩⟩
 .have Y:∀(wz:World) (o:Nat) (v:Value),w.grownBy wz (some b)->w.grownBy (wz.setCell ⟨w.heap.size,o,none⟩ v) (some b):=fun wz o v hz=>zG hz (Nat.le_refl _) o v;exact Y _ _ _ (Y _ _ _ (Y _ _ _ S4'.out.g))
 .have Y:∀(wz:World) (o:Nat) (v:Value),RS er wz b s (i+4)->RS er (wz.setCell ⟨w.heap.size,o,none⟩ v) b s (i+4):=fun wz o v hz=>hz.set (by omega) o v;exact Y _ _ _ (Y _ _ _ (Y _ _ _ S4'.out.rs))
end
def slP (s:Sl):List Value:=[.int .u8 s.nm.toNat,.int .i64 s.job,.int .i64 s.bud]
def slPs (f:List Sl):List Value:=f.flatMap slP
theorem Tryz.infoPSl:(Tryz.prog.info? 106).map (fun i=>(i.zero,i.size,i.bytes))=some (some (.agg #[.int .u8 0,.int .i64 0,.int .i64 0]),3,24):=by kernel_rfl
def SlsP (T:List PT) (i0 i:Nat) (l:List Sl):Prop:=i0+5*l.length<=i+1/\1<=l.length/\
 pFrame T i0=if (tk T i).k==44 then (match pMore T (i+1) with|none=>none|some (r,k)=>some (l++r,k)) else if (tk T i).k==59 then some (l,i+1) else none
theorem slsP_first {T:List PT}{i:Nat}(h:slOk T i=true)(hk:((tk T i).k==59)=false):SlsP T i (i+4) [slAt T i]:=by
 refine⟨by simp,by simp,?_⟩;unfold pFrame;rw[hk,pMore_eq,h];simp only[Bool.false_eq_true,if_false,if_true]
 cases h4:((tk T (i+4)).k==44)
 .rfl
 .simp only[if_true]
  cases pMore T (i+4+1)<;>rfl
theorem pFrame_first {T:List PT}{i:Nat}(h:Dead T (slR T i))(hk:((tk T i).k==59)=false):pFrame T i=none:=by
 unfold pFrame;rw[hk];simp only[Bool.false_eq_true,if_false];rcases h with h|⟨a,j,h,hx⟩
 .unfold slR at h;split at h
  .simp at h
  .rename_i hs;exact pMore_no (by simpa using hs)
 .unfold slR at h;split at h
  .rename_i hs;simp at h;obtain⟨_,rfl⟩:=h;exact pMore_cut hs (by omega) (by omega)
  .simp at h
theorem slsP_more {T:List PT}{i0 i:Nat}{l:List Sl}(h:SlsP T i0 i l)(hk:((tk T i).k==44)=true)(hs:slOk T (i+1)=true):SlsP T i0 (i+1+4) (l++[slAt T (i+1)]):=by
 obtain⟨h1,h2,h3⟩:=h;refine⟨by simp;omega,by simp,?_⟩;rw[h3,hk,pMore_eq,hs];simp only[if_true]
 cases h4:((tk T (i+1+4)).k==44)
 .simp only[Bool.false_eq_true,if_false]
  cases h5:((tk T (i+1+4)).k==59)<;>simp
 .simp only[if_true]
  cases pMore T (i+1+5)<;>simp
theorem slsP_dead {T:List PT}{i0 i:Nat}{l:List Sl}(h:SlsP T i0 i l)(hk:((tk T i).k==44)=true)(hs:Dead T (slR T (i+1))):pFrame T i0=none:=by
 obtain⟨h1,h2,h3⟩:=h;rw[h3,hk];simp only[if_true];have:pMore T (i+1)=none:=by
  rcases hs with h|⟨a,j,h,hx⟩
  .unfold slR at h;split at h
   .simp at h
   .rename_i hs;exact pMore_no (by simpa using hs)
  .unfold slR at h;split at h
   .rename_i hs;simp at h;obtain⟨_,rfl⟩:=h;exact pMore_cut hs (by omega) (by omega)
   .simp at h
 rw[this]
theorem slsP_x {T:List PT}{i0 i:Nat}{l:List Sl}(h:SlsP T i0 i l)(hk:((tk T i).k==44)=true)(hx:(tk T (i+1)).k=120):pFrame T i0=none:=by
 refine slsP_dead h hk (.inl ?_);unfold slR;rw[if_neg (by simp[slOk,isName,hx])]
theorem slsP_end {T:List PT}{i0 i:Nat}{l:List Sl}(h:SlsP T i0 i l)(hk:((tk T i).k==44)=false):pFrame T i0=if (tk T i).k==59 then some (l,i+1) else none:=by
 rw[h.2.2,hk];rfl
structure FW (er:Nat) (w wk:World) (b:Nat) (s:ByteArray) (i:Nat) (v:Value) (n:Nat) (xs:List Value):Prop where
 rs:RS er wk b s i
 ow:wk.ownsRow w.heap.size 106 3 v n xs
 g:w.grownBy wk (some b)
 hb:b<w.heap.size
section
variable {w wk:World} {b:Nat} {s:ByteArray} {i:Nat} {er:Nat} {v:Value} {n:Nat} {xs:List Value}
theorem FW.call (h:FW er w wk b s i v n xs){w':World}{i':Nat}(p:RS er w' b s i')(g:wk.grownBy w' (some b)):FW er w w' b s i' v n xs:=
 ⟨p,h.ow.kept g (.inr (own_ge h.ow h.hb)),zR h.g g,h.hb⟩
theorem FW.push (h:FW er w wk b s i v n xs){o:Obj}{w2:World}{v':Value}{news:List Value}{m:Nat}(hg:(wk.alloc o).grownBy w2 v.ownBlock)(hown:w2.ownsRow w.heap.size 106 3 v' m news):FW er w w2 b s i v' m news:=by
 have hb:=h.hb;have hsz:=h.g.size;refine⟨h.rs.keep ?_,hown,?_,hb⟩
 .rw[hg.block b (by simp;omega) (fun e=>own_ge h.ow hb e.symm),Below.heap_alloc _ _ _ (by omega)]
 .have ha:=grownBy_alloc' h.g o;refine⟨hg.os.trans ha.os,hg.tape.trans ha.tape,hg.output.trans ha.output,Nat.le_trans ha.size hg.size,fun k hk hne=>?_⟩;rw[hg.block k (by simp;omega) (fun e=>own_ge h.ow hk e.symm)];exact ha.block k hk hne
def FrOut (er:Nat) (s:ByteArray) (b i:Nat) (w:World) (en:Ending) (w':World):Prop:=
 w.grownBy w' (some b)/\((∃p,en=pan er p/\Dead (zT s.data.toList) (pFrame (zT s.data.toList) i))\/
  (∃l j v,pFrame (zT s.data.toList) i=some (l,j)/\RS er w' b s j/\en=.returned v/\l.length<=200/\w'.ownsRow w.heap.size 106 3 v l.length (slPs l)))
theorem takeFrame_any (h:RS er w b s i):
  Calls Tryz.prog 104 #[.pointer (some ⟨b,0,none⟩)] w (FrOut er s b i w):=by
 obtain⟨i0,hi0,hz0,hz1,hz2⟩:=info_parts Tryz.infoPSl;have hlt:=zL h.h;have hTl:(zT s.data.toList).length<=802:=by
  have h1:=toks_le (s.data.toList.length+1) s.data.toList 0;have h2:=h.hs;have h3:s.data.toList.length=s.size:=by simp
  unfold zT;omega
 have hsemi:=seesP_semi s.data.toList i;unfold seesP at hsemi;have Hsemi:=hide hsemi;have hcom:=fun j=>s_comma s.data.toList j;unfold seesP at hcom;have Hcom:=hide hcom;clear hsemi hcom;go_enter Tryz.func104,Tryz.ntmps104;go_wp2_with fail;refine(sees_any h ⟨#[59]⟩).mono ?_;rintro e w' ⟨rfl,hww⟩;have hww:=hww.symm;subst hww;rw[Hsemi.out]
 cases hk:((tk (zT s.data.toList) i).k==59)
 .have Hk:=hide hk;clear hk;go_wp2_with fail;refine(takeSlice_any h).mono ?_;rintro e w1 ⟨hg,hcase⟩;rcases hcase with⟨p,rfl,hd⟩|⟨hok,hrs,rfl⟩
  .exact⟨rfl,hg,.inl ⟨p,rfl,.inl (pFrame_first hd Hk.out)⟩⟩
  have hS:=hide (slsP_first hok Hk.out);have F0:FW er w (w1.alloc (.cells #[.int .u8 (slAt (zT s.data.toList) i).nm.toNat,.int .i64 (slAt (zT s.data.toList) i).job,.int .i64 (slAt (zT s.data.toList) i).bud] 106)) b s (i+4) (.slice (some ⟨w1.heap.size,0,none⟩) 1 1) 1 (slPs [slAt (zT s.data.toList) i]):=
   ⟨hrs.alloc _,World.ownsRow_lit (base:=w.heap.size) (size:=3) w1 #[.int .u8 (slAt (zT s.data.toList) i).nm.toNat,.int .i64 (slAt (zT s.data.toList) i).job,.int .i64 (slAt (zT s.data.toList) i).bud] 1 hg.size (by decide) rfl,grownBy_alloc' hg _,hlt⟩
  have H0:=hide F0;clear F0 hg hok hrs h Hk;unfold slRaw;go_wp2_with fail
  go_loopw [3] (fun v wr=>∃(j:Nat) (l:List Sl),FW er w wr b s j v l.length (slPs l)/\SlsP (zT s.data.toList) i j l) (fun v _=>300-lenOf (some v))
  case atStart=>exact⟨i+4,[_],H0.out,hS.out⟩
  case round=>
   clear H0 hS;obtain⟨j,l,hF,hP⟩:=hrel;obtain⟨va,vc,rfl⟩:=own_slice hF.ow;have hj:=hF.rs.hi;have hl:l.length<=161:=by have:=hP.1;omega
   have HF:=hide hF;have HP:=hide hP;clear hP;go_wp2_with fail;refine(sees_any hF.rs ⟨#[44]⟩).mono ?_;clear hF;rintro e w' ⟨rfl,rfl⟩;rw[Hcom.out]
   cases hk:((tk (zT s.data.toList) j).k==44)
   .have Hk:=hide hk;clear hk;go_wp2_with fail;refine(takeText_any HF.out.rs ⟨#[59]⟩ (by rw[ByteArray.toList_eq];decide)).mono ?_;rintro e w2 ⟨hg,hcase⟩;rw[seesP_semi]at hcase;have hend:=slsP_end HP.out Hk.out;have hgw:=zR HF.out.g hg;rcases hcase with⟨h0,rfl⟩|⟨h0,h1,rfl⟩|⟨h0,h1,rfl⟩
    .exact⟨rfl,hgw,.inl ⟨_,rfl,.inl (by rw[hend,h0];rfl)⟩⟩
    .exact⟨rfl,hgw,.inl ⟨_,rfl,.inr ⟨l,j+1,by rw[hend,h0];rfl,h1⟩⟩⟩
    .have H2:=hide (HF.out.call h1 hg);have hfin:Hid (pFrame (zT s.data.toList) i=some (l,j+1)):=by unfold Hid;rw[hend,h0];rfl
     clear hg hend hgw h0 h1;go_wp2;go_ret;exact⟨H2.out.g,.inr ⟨l,j+1,_,hfin.out,H2.out.rs,rfl,by omega,H2.out.ow⟩⟩
   .have Hk:=hide hk;have hfin:(tk (zT s.data.toList) j).fin=false:=by
     simp at hk;unfold PT.fin;rw[hk];rfl
    clear hk;go_wp2_with fail;refine(take_any HF.out.rs hfin).mono ?_;rintro e w2 ⟨hg,hcase⟩;have hgw:=zR HF.out.g hg;rcases hcase with⟨h1,rfl⟩|⟨h1,rfl⟩
    .exact⟨rfl,hgw,.inl ⟨_,rfl,.inl (slsP_x HP.out Hk.out h1)⟩⟩
    have H2:=hide (HF.out.call h1 hg);clear hg hgw h1 hfin;go_wp2_with fail;refine(takeSlice_any H2.out.rs).mono ?_;rintro e w3 ⟨hg,hcase⟩;have hgw:=zR H2.out.g hg;rcases hcase with⟨p,rfl,hd⟩|⟨hok,hrs,rfl⟩
    .exact⟨rfl,hgw,.inl ⟨p,rfl,.inl (slsP_dead HP.out Hk.out hd)⟩⟩
    have H3:=hide (H2.out.call hrs hg);have hP3:=hide (slsP_more HP.out Hk.out hok);have hws:=hgw.size;clear hg hgw hrs hok H2;have ow3:=H3.out.ow;unfold slRaw;go_wp2_with (at_builtin;refine wpList_append_own _ rfl _ _ 104 rfl w.heap.size 106 i0 _ 3 24 Tryz.underlying104 hi0 hz0 hz1 hz2 rfl (by decide) _ _ _ rfl (ow3.alloc _) ⟨w3.heap.size,0,none⟩ 1 1 (slP (slAt (zT s.data.toList) (j+1))) rfl rfl ?c1 ?c2 ?c3 ?c4 ?c5 ?_)
    case c1=>exact cells_new w3 #[_,_,_] _ _ rfl
    case c2=>simp[slP,Value.oneCell']
    case c3=>unfold maxLen;omega
    case c4=>omega
    case c5=>simp;omega
    intro v' w4 hown4 hgr _;have S4:=H3.out.push hgr hown4;have hsl:slPs l++slP (slAt (zT s.data.toList) (j+1))=slPs (l++[slAt (zT s.data.toList) (j+1)]):=by
     unfold slPs;rw[List.flatMap_append];simp
    rw[hsl]at S4;obtain⟨va',vc',rfl⟩:=own_slice S4.ow;have H4:=hide S4;clear hown4 hgr ow3 H3 hsl S4;go_wp2;go_roundw
    case rel=>exact⟨j+1+4,l++[slAt (zT s.data.toList) (j+1)],by simpa using H4.out,hP3.out⟩
    case measure=>simp[lenOf];omega
 .have Hk:=hide hk;have hfin:(tk (zT s.data.toList) i).fin=false:=by
   simp at hk;unfold PT.fin;rw[hk];rfl
  have hpf:Hid (pFrame (zT s.data.toList) i=some ([],i+1)):=by unfold Hid pFrame;rw[hk];rfl
  clear hk;go_wp2_with fail;refine(take_any h hfin).mono ?_;rintro e w2 ⟨hg,hcase⟩;rcases hcase with⟨h1,rfl⟩|⟨h1,rfl⟩
  .exact⟨rfl,hg,.inl ⟨_,rfl,.inr ⟨[],i+1,hpf.out,h1⟩⟩⟩
  .have Hg:=hide hg;have H1:=hide h1;clear hg h1 h;go_wp2;go_ret;exact⟨Hg.out,.inr ⟨[],i+1,_,hpf.out,H1.out,rfl,by simp,World.ownsRow_nil _ _ _ _⟩⟩
end
theorem Tryz.infoPFr:(Tryz.prog.info? 104).map (fun i=>(i.zero,i.size,i.bytes))=some (some (.slice none 0 0),1,24):=by kernel_rfl
theorem dead_or {α:Type}(T:List PT)(R:Option (α×Nat)):Dead T R\/∃a j,R=some (a,j)/\(tk T j).k≠120:=by
 cases R with
 | none=>exact .inl (.inl rfl)
 | some x=>
  obtain⟨a,j⟩:=x;by_cases h:(tk T j).k=120
  .exact .inl (.inr ⟨a,j,rfl,h⟩)
  .exact .inr ⟨a,j,rfl,h⟩
section
variable {w wk:World} {b:Nat} {s:ByteArray} {i:Nat} {er:Nat}
theorem takeFrame_bad (h:RS er w b s i)(hd:Dead (zT s.data.toList) (pFrame (zT s.data.toList) i)):
  Calls Tryz.prog 104 #[.pointer (some ⟨b,0,none⟩)] w fun en w'=>(∃p,en=pan er p)/\w.grownBy w' (some b):=
 (takeFrame_any h).mono fun en w' h'=>by
  obtain⟨hg,⟨p,rfl,_⟩|⟨l,j,v,h1,h2,_⟩⟩:=h'
  .exact⟨⟨p,rfl⟩,hg⟩
  .exfalso;rcases hd with hd|⟨a,k,hd,hk⟩
   .rw[h1]at hd;simp at hd
   .rw[h1]at hd;simp at hd;obtain⟨_,rfl⟩:=hd;exact h2.hk hk
theorem takeFrame_good (h:RS er w b s i){l:List Sl}{j:Nat}(hl:pFrame (zT s.data.toList) i=some (l,j))(hk:(tk (zT s.data.toList) j).k≠120):
  Calls Tryz.prog 104 #[.pointer (some ⟨b,0,none⟩)] w fun en w'=>∃a c,en=.returned (.slice a l.length c)/\RS er w' b s j/\w.grownBy w' (some b)/\w'.ownsRow w.heap.size 106 3 (.slice a l.length c) l.length (slPs l):=
 (takeFrame_any h).mono fun en w' h'=>by
  obtain⟨hg,⟨p,rfl,hd⟩|⟨l',j',v,h1,h2,rfl,_,h3⟩⟩:=h'
  .exfalso;rcases hd with hd|⟨a,k,hd,hk'⟩
   .rw[hl]at hd;simp at hd
   .rw[hl]at hd;simp at hd;obtain⟨_,rfl⟩:=hd;exact hk hk'
  .rw[hl]at h1;simp at h1;obtain⟨rfl,rfl⟩:=h1;obtain⟨a,c,rfl⟩:=own_slice h3;exact⟨a,c,rfl,h2,hg,h3⟩
end
def FrM (w:World) (base:Nat) (fv:Value) (P:List (Value×List Sl)):Prop:=
 w.ownsRow base 104 1 fv P.length (P.map Prod.fst)/\∀p∈P,w.ownsRow base 106 3 p.1 p.2.length (slPs p.2)
theorem FrM.nil (w:World)(base:Nat):FrM w base (.slice none 0 0) []:=⟨World.ownsRow_nil _ _ _ _,fun p hp=>by simp at hp⟩
theorem FrM.kept {w w':World}{base:Nat}{fv:Value}{P:List (Value×List Sl)}(h:FrM w base fv P){row:Option Nat}(g:w.grownBy w' row)(hr:∀k,row=some k->k<base\/∃c ty,w.heap[k]? =some (.cells c ty (0,0))/\104≠ty/\106≠ty):FrM w' base fv P:=by
 have key:∀ {e:TypeId} {size:Nat} {v:Value} {n:Nat} {xs:List Value},w.ownsRow base e size v n xs->(e=104\/e=106)->w'.ownsRow base e size v n xs:=by
  intro e size v n xs ho he;refine ho.kept g ?_
  cases hq:v.ownBlock with
  | none=>exact .inl rfl
  | some q=>
   right
   cases hrow:row with
   | none=>simp
   | some k=>
    intro hqk;have hqk:q=k:=by simpa using hqk
    subst hqk;rcases hr q hrow with h1|⟨c,ty,h1,h2,h3⟩
    .exact own_ge ho h1 hq
    .rcases he with rfl|rfl
     .exact own_type ho h1 h2 hq
     .exact own_type ho h1 h3 hq
 exact⟨key h.1 (.inl rfl),fun p hp=>key (h.2 p hp) (.inr rfl)⟩
theorem FrM.push {w w2:World}{base:Nat}{fv fv' v:Value}{P:List (Value×List Sl)}{l:List Sl}(h:FrM w base fv P)(hv:w.ownsRow base 106 3 v l.length (slPs l))(hg:w.grownBy w2 fv.ownBlock)(hown:w2.ownsRow base 104 1 fv' (P.length+1) (P.map Prod.fst++[v])):FrM w2 base fv' (P++[(v,l)]):=by
 have key:∀ {v:Value} {n:Nat} {xs:List Value},w.ownsRow base 106 3 v n xs->w2.ownsRow base 106 3 v n xs:=by
  intro v n xs ho;refine ho.kept hg ?_
  cases hq:v.ownBlock with
  | none=>exact .inl rfl
  | some q=>exact .inr (fun e=>own_apart ho h.1 (by decide) q hq e.symm)
 refine⟨by simpa using hown,?_⟩;intro p hp;rcases List.mem_append.1 hp with hp|hp
 .exact key (h.2 p hp)
 .simp at hp;subst hp;exact key hv
def ptZ:Array Value:=#[.int .i64 0,.int .i64 0,.slice none 0 0]
structure TW (w wk:World) (b X:Nat) (s:ByteArray) (i:Nat) (c f:Nat) (fv:Value) (P:List (Value×List Sl)):Prop where
 rs:RS 8 wk b s i
 hy:wk.heap[w.heap.size]? =some (.cells ptZ 61 (0,0))
 hx:wk.heap[X]? =some (.cells #[.int .i64 c,.int .i64 f,fv] 61 (0,0))
 fm:FrM wk (b+1) fv P
 g:w.grownBy wk none
 h1:w.heap.size<b
 h2:b<X
section
variable {w wk:World} {b X:Nat} {s:ByteArray} {i c f:Nat} {fv:Value} {P:List (Value×List Sl)}
theorem TW.call (h:TW w wk b X s i c f fv P){w':World}{i':Nat}(p:RS 8 w' b s i')(g:wk.grownBy w' (some b)):TW w w' b X s i' c f fv P:=by
 have h1:=h.h1;have h2:=h.h2;refine⟨p,?_,?_,h.fm.kept g (fun k hk=>.inl (by simp at hk;omega)),grownBy_new h.g g (by omega),h1,h2⟩
 .rw[g.block _ (zL h.hy) (by simp;omega)];exact h.hy
 .rw[g.block _ (zL h.hx) (by simp;omega)];exact h.hx
theorem TW.cells (h:TW w wk b X s i c f fv P):wk.cell? ⟨X,0,none⟩=some (.int .i64 c)/\wk.cell? ⟨X,1,none⟩=some (.int .i64 f)/\wk.cell? ⟨X,2,none⟩=some fv/\(∀o,wk.frozen? ⟨X,o,none⟩=false)/\(∀o,wk.cell? ⟨w.heap.size,o,none⟩=#[Value.int .i64 0,.int .i64 0,.slice none 0 0][o]?)/\(∀o,wk.frozen? ⟨w.heap.size,o,none⟩=false):=
 ⟨by rw[zC h.hx];rfl,by rw[zC h.hx];rfl,by rw[zC h.hx];rfl,zF h.hx,zC h.hy,zF h.hy⟩
theorem TW.set (h:TW w wk b X s i c f fv P)(o:Nat)(v:Value){c' f':Nat}(hc:(#[Value.int .i64 c,.int .i64 f,fv].setIfInBounds o v)=#[.int .i64 c',.int .i64 f',fv]):TW w (wk.setCell ⟨X,o,none⟩ v) b X s i c' f' fv P:=by
 have h1:=h.h1;have h2:=h.h2;refine⟨h.rs.set (by omega) o v,?_,by rw[zS h.hx,hc],h.fm.kept (zE (k:=X) (zI _ _) o v) (fun k hk=>.inr ?_),zG h.g (by omega) o v,h1,h2⟩
 .rw[Below.heap_setCell _ _ _ _ (by show w.heap.size≠X;omega)];exact h.hy
 .simp at hk;subst hk;exact⟨_,_,h.hx,by decide,by decide⟩
theorem TW.grow (h:TW w wk b X s i c f fv P){o1:Obj}{w2:World}(hg:(wk.alloc o1).grownBy w2 fv.ownBlock):w2.heap[X]? =some (.cells #[.int .i64 c,.int .i64 f,fv] 61 (0,0)):=by
 have hX:=zL h.hx;rw[hg.block X (by simp;omega) (fun e=>own_type h.fm.1 h.hx (by decide) e.symm),Below.heap_alloc _ _ _ hX];exact h.hx
theorem TW.push (h:TW w wk b X s i c f fv P){o1:Obj}{w2:World}{v fv':Value}{l:List Sl}(hv:wk.ownsRow (b+1) 106 3 v l.length (slPs l))(hg:(wk.alloc o1).grownBy w2 fv.ownBlock)(hown:w2.ownsRow (b+1) 104 1 fv' (P.length+1) (P.map Prod.fst++[v])):
  TW w (w2.setCell ⟨X,2,none⟩ fv') b X s i c f fv' (P++[(v,l)]):=by
 have h1:=h.h1;have h2:=h.h2;have hX:=zL h.hx;have hX2:=h.grow hg;have hlow:∀k,k<b+1->fv.ownBlock≠some k:=fun k hk=>own_ge h.fm.1 hk;have hblk:∀k,k<b+1->w2.heap[k]? =wk.heap[k]? := by
  intro k hk;rw[hg.block k (by simp;omega) (fun e=>hlow k hk e.symm),Below.heap_alloc _ _ _ (by omega)]
 have fm1:FrM (wk.alloc o1) (b+1) fv P:=h.fm.kept (World.grownBy_alloc wk o1 none) (fun k hk=>by simp at hk);have fm2:=fm1.push (l:=l) (hv.alloc o1) hg hown;refine⟨(h.rs.keep (hblk b (by omega))).set (by omega) 2 fv',?_,?_,fm2.kept (zE (k:=X) (zI _ _) 2 fv') (fun k hk=>.inr ?_),?_,h1,h2⟩
 .rw[Below.heap_setCell _ _ _ _ (by show w.heap.size≠X;omega),hblk _ (by omega)];exact h.hy
 .rw[zS hX2];rfl
 .simp at hk;subst hk;exact⟨_,_,hX2,by decide,by decide⟩
 .have hgw:w.grownBy w2 none:=by
   have ha:=grownBy_alloc' h.g o1;refine⟨hg.os.trans ha.os,hg.tape.trans ha.tape,hg.output.trans ha.output,Nat.le_trans ha.size hg.size,fun k hk hne=>?_⟩;rw[hg.block k (by have:=ha.size;omega) (fun e=>hlow k (by omega) e.symm)];exact ha.block k hk hne
  exact zG hgw (by omega) _ _
end
def PtOut (s:ByteArray) (w:World) (en:Ending) (w':World):Prop:=
 Below w.heap.size w w'/\((∃p,en=pan 8 p/\pTab (zT s.data.toList)=none)\/
  (∃(t:Tb) (P:List (Value×List Sl)) (fv:Value),pTab (zT s.data.toList)=some t/\t.fs=P.map Prod.snd/\P.length<=802/\en=.returned (.agg #[.int .i64 t.cyc,.int .i64 t.fr,fv])/\FrM w' w.heap.size fv P))
def PfR (T:List PT) (i:Nat) (fs:List (List Sl)):Prop:=hdOk T=true/\5+fs.length<=i/\pFrames T 5=(match pFrames T i with|none=>none|some r=>some (fs++r))
theorem pfR_start {T:List PT}(h:hdOk T=true):PfR T 5 []:=⟨h,by simp,by cases pFrames T 5<;>simp⟩
theorem pfR_more {T:List PT}{i j:Nat}{fs:List (List Sl)}{l:List Sl}(h:PfR T i fs)(hp:pFrame T i=some (l,j)):PfR T j (fs++[l]):=by
 have:=pFrame_len hp;refine⟨h.1,by simp;have:=h.2.1;omega,?_⟩;rw[h.2.2,pFrames_on hp]
 cases pFrames T j<;>simp
theorem pfR_dead {T:List PT}{i:Nat}{fs:List (List Sl)}(h:PfR T i fs)(hk:(tk T i).k≠101)(hd:Dead T (pFrame T i)):pTab T=none:=by
 unfold pTab;rw[if_pos h.1,h.2.2];have:pFrames T i=none:=by
  rcases hd with hd|⟨l,j,hd,hx⟩
  .exact pFrames_no hk hd
  .rw[pFrames_on hd,pFrames_x hx]
 rw[this]
theorem pfR_end {T:List PT}{i:Nat}{fs:List (List Sl)}(h:PfR T i fs)(hi:i<T.length)(hk:(tk T i).k=101):pTab T=some ⟨(tk T 1).N,(tk T 3).N,fs⟩:=by
 unfold pTab;rw[if_pos h.1,h.2.2,pFrames_end hi hk];simp
theorem pTab_x5 {T:List PT}(h:(tk T 5).k=120):pTab T=none:=by
 unfold pTab;rw[pFrames_x h];split<;>rfl
theorem hd_no {T:List PT}(h:hdOk T=false):pTab T=none:=by unfold pTab;rw[h];rfl
theorem tw_start {w w1:World}{s:ByteArray}(hrs:RS 8 w1 (w.heap.size+1) s 0)(hb:Below (w.heap.size+1) (w.alloc (.cells ptZ 61)) w1):
  TW w (w1.alloc (.cells #[.int .i64 0,.int .i64 0,.slice none 0 0] 61)) (w.heap.size+1) w1.heap.size s 0 0 0 (.slice none 0 0) []:=by
 have hlt:=zL hrs.h;refine⟨hrs.alloc _,?_,zW _ _ _,FrM.nil _ _,?_,by omega,hlt⟩
 .rw[Below.heap_alloc _ _ _ (by omega),hb.block _ (by omega)];exact zW _ _ _
 .refine grownBy_alloc' ?_ _;exact⟨hb.os,hb.tape,hb.output,by omega,fun k hk _=>by rw[hb.block k (by omega),Below.heap_alloc _ _ _ hk]⟩
theorem parseTable_any (s:ByteArray)(w:World)(hs:s.size<=800):
  Calls Tryz.prog 66 #[.string s] w (PtOut s w):=by
 obtain⟨it,hti,htz0,htz1,htz2⟩:=info_parts Tryz.infoPFr;have hfn:=num_val;go_enter Tryz.func66,Tryz.ntmps66;go_wp2_with fail;refine(newReader_any 8 _ rfl s _ hs).mono ?_;rintro e w1 ⟨hb,hcase⟩;simp only[World.size_alloc]at hb hcase;have hbw:Below w.heap.size w w1:=(zN w _).trans (hb.mono (by omega));rcases hcase with⟨h1,rfl⟩|⟨h1,rfl⟩
 .exact⟨rfl,hbw,.inl ⟨_,rfl,hd_no (by simp[hdOk,sees,h1])⟩⟩
 have T0:=tw_start h1 hb;clear hb hbw h1;have hTl:(zT s.data.toList).length<=802:=by
  have h1:=toks_le (s.data.toList.length+1) s.data.toList 0;have h3:s.data.toList.length=s.size:=by simp
  unfold zT;omega
 have hs0:=s_cycle s.data.toList;have hs2:=s_frame s.data.toList;have hs4:=seesP_semi s.data.toList;generalize w.heap.size+1=b at *;have Hs0:=hide hs0;have Hs2:=hide hs2;have Hs4:=hide hs4;clear hs0 hs2 hs4;go_wp2_with fail;refine(takeText_any T0.rs wCycle (by rw[ByteArray.toList_eq];decide)).mono ?_;rintro e w2 ⟨hg,hcase⟩;rw[Hs0.out]at hcase;have hgw:=below_grown (grownBy_new T0.g hg (Nat.le_of_lt T0.h1));rcases hcase with⟨h0,rfl⟩|⟨h0,h1,rfl⟩|⟨h0,h1,rfl⟩
 .exact⟨rfl,hgw,.inl ⟨_,rfl,hd_no (by simp[hdOk,h0])⟩⟩
 .exact⟨rfl,hgw,.inl ⟨_,rfl,hd_no (by simp at h1;simp[hdOk,h1])⟩⟩
 have F0:=hide h0;have T1:=T0.call h1 hg;clear hg hgw h0 h1 T0;generalize w1.heap.size=X at *;obtain⟨x0,x1,x2,xf,y0,yf⟩:=T1.cells;go_wp2_with fail;clear x0 x1 x2 xf y0 yf;refine(takeNumber_any T1.rs).mono ?_;rintro e w3 ⟨hg,hcase⟩;have hgw:=below_grown (grownBy_new T1.g hg (Nat.le_of_lt T1.h1));rcases hcase with⟨h0,rfl⟩|⟨h0,h1,rfl⟩|⟨h0,h1,rfl⟩
 .exact⟨rfl,hgw,.inl ⟨_,rfl,hd_no (by simp at h0;simp[hdOk,h0])⟩⟩
 .exact⟨rfl,hgw,.inl ⟨_,rfl,hd_no (by simp at h1;simp[hdOk,sees,h1])⟩⟩
 have F1:=hide h0;have T2:=T1.call h1 hg;clear hg hgw h0 h1 T1;obtain⟨x0,x1,x2,xf,y0,yf⟩:=T2.cells;go_wp2_with fail;clear x0 x1 x2 xf y0 yf;have T2:=T2.set 0 (.int .i64 (tk (zT s.data.toList) (0+1)).N) (c':=(tk (zT s.data.toList) (0+1)).N) (f':=0) rfl;refine(takeText_any T2.rs wFrame (by rw[ByteArray.toList_eq];decide)).mono ?_;rintro e w4 ⟨hg,hcase⟩;rw[Hs2.out]at hcase;have hgw:=below_grown (grownBy_new T2.g hg (Nat.le_of_lt T2.h1));rcases hcase with⟨h0,rfl⟩|⟨h0,h1,rfl⟩|⟨h0,h1,rfl⟩
 .exact⟨rfl,hgw,.inl ⟨_,rfl,hd_no (by simp at h0;simp[hdOk,h0])⟩⟩
 .exact⟨rfl,hgw,.inl ⟨_,rfl,hd_no (by simp at h1;simp[hdOk,h1])⟩⟩
 have F2:=hide h0;have T3:=T2.call h1 hg;clear hg hgw h0 h1 T2;obtain⟨x0,x1,x2,xf,y0,yf⟩:=T3.cells;go_wp2_with fail;clear x0 x1 x2 xf y0 yf;refine(takeNumber_any T3.rs).mono ?_;rintro e w5 ⟨hg,hcase⟩;have hgw:=below_grown (grownBy_new T3.g hg (Nat.le_of_lt T3.h1));rcases hcase with⟨h0,rfl⟩|⟨h0,h1,rfl⟩|⟨h0,h1,rfl⟩
 .exact⟨rfl,hgw,.inl ⟨_,rfl,hd_no (by simp at h0;simp[hdOk,h0])⟩⟩
 .exact⟨rfl,hgw,.inl ⟨_,rfl,hd_no (by simp at h1;simp[hdOk,h1])⟩⟩
 have F3:=hide h0;have T4:=T3.call h1 hg;clear hg hgw h0 h1 T3;obtain⟨x0,x1,x2,xf,y0,yf⟩:=T4.cells;go_wp2_with fail;clear x0 x1 x2 xf y0 yf;have T4:=T4.set 1 (.int .i64 (tk (zT s.data.toList) (0+1+1+1)).N) (c':=(tk (zT s.data.toList) (0+1)).N) (f':=(tk (zT s.data.toList) (0+1+1+1)).N) rfl;refine(takeText_any T4.rs ⟨#[59]⟩ (by rw[ByteArray.toList_eq];decide)).mono ?_;rintro e w6 ⟨hg,hcase⟩;rw[Hs4.out]at hcase;have hgw:=below_grown (grownBy_new T4.g hg (Nat.le_of_lt T4.h1));rcases hcase with⟨h0,rfl⟩|⟨h0,h1,rfl⟩|⟨h0,h1,rfl⟩
 .exact⟨rfl,hgw,.inl ⟨_,rfl,hd_no (by simp at h0;simp[hdOk,h0])⟩⟩
 .exact⟨rfl,hgw,.inl ⟨_,rfl,pTab_x5 (by simpa using h1)⟩⟩
 have hhd:hdOk (zT s.data.toList)=true:=by
  have a0:=F0.out;have a1:=F1.out;have a2:=F2.out;have a3:=F3.out;simp only[Nat.zero_add,Nat.reduceAdd]at a0 a1 a2 a3 h0;unfold hdOk;rw[a0,a1,a2,a3,h0];rfl
 have HS:=hide (pfR_start hhd);have T5:=hide (T4.call h1 hg);clear hg hgw h0 h1 T4 F0 F1 F2 F3 hhd Hs0 Hs2 Hs4;simp only[Nat.zero_add,Nat.reduceAdd]at T5;simp only[Nat.zero_add,Nat.reduceAdd];generalize hcc:(tk (zT s.data.toList) 1).N=c at *;generalize hff:(tk (zT s.data.toList) 3).N=f at *;have Hc:=hide hcc;have Hf:=hide hff;clear hcc hff;go_wp2_with fail
 go_loopw [21] (fun _ wr=>∃(i:Nat) (P:List (Value×List Sl)) (fv:Value),TW w wr b X s i c f fv P/\PfR (zT s.data.toList) i (P.map Prod.snd)) (fun _ wr=>900-lenOf (wr.cell? ⟨X,2,none⟩))
 case atStart=>exact⟨5,[],_,T5.out,HS.out⟩
 case round=>
  clear T5 HS;obtain⟨i,P,fv,hT,hR⟩:=hrel;obtain⟨fa,fc,rfl⟩:=own_slice hT.fm.1;have hii:=hT.rs.hi;have hPl:P.length<=802:=by have:=hR.2.1;simp at this;omega
  have HL:Hid (lenOf (wr.cell? ⟨X,2,none⟩)=P.length):=by
   unfold Hid;rw[hT.cells.2.2.1];rfl
  obtain⟨x0,x1,x2,xf,y0,yf⟩:=hT.cells;have HT:=hide hT;have HR:=hide hR;clear hR;go_wp2_with fail;refine(seesEnd_any hT.rs).mono ?_;clear hT;rintro e w' ⟨rfl,hww⟩;have hww:=hww.symm;subst hww
  cases hk:((tk (zT s.data.toList) i).k==101)
  .have hk':(tk (zT s.data.toList) i).k≠101:=by simpa using hk
   have Hk:=hide hk';clear hk hk';go_wp2_with fail;rcases dead_or (zT s.data.toList) (pFrame (zT s.data.toList) i) with hd|⟨l,j,hl,hx⟩
   .have hbb:=hide hd;clear hd;have hdr:RS 8 wr.drew b s i:=HT.out.rs.keep rfl;have Hdr:=hide hdr;clear hdr
    go_region_dies
    all_goals
     refine(takeFrame_bad Hdr.out hbb.out).mono ?_;rintro e w9 ⟨⟨p,rfl⟩,hg⟩;exact⟨rfl,below_grown (grownBy_new (grownBy_drew HT.out.g) hg (Nat.le_of_lt HT.out.h1)),.inl ⟨p,rfl,pfR_dead HR.out Hk.out hbb.out⟩⟩
   .have Hl:=hide hl;have Hx:=hide hx;have HR2:=hide (pfR_more HR.out hl);clear hl hx;have HTd:Hid (TW w wr.drew b X s i c f (.slice fa P.length fc) P):=HT.out.call (HT.out.rs.keep rfl) ⟨rfl,rfl,rfl,Nat.le_refl _,fun _ _ _=>rfl⟩;have h1:=HT.out.h1;have h2:=HT.out.h2
    go_region_law (first|(refine step_append_own rfl (.tmp 25) (.tmp 28) 59 rfl (b+1) 104 it _ 1 24 Tryz.underlying59 hti htz0 htz1 htz2 rfl (by decide) _ _ _ rfl (fm9.1.alloc _) ⟨w9.heap.size,0,none⟩ 1 1 [.slice la l.length lc] rfl rfl (cells_new w9 #[_] _ _ rfl) (by simp[Value.oneCell']) (by unfold maxLen;omega) (by omega) (by simp;omega) ?_;intro v' w10 hown10 hgr;have T10:=HT9.out.push hv9.out hgr hown10;have hX10:=HT9.out.grow hgr;have u1:=zC hX10 2;have u2:=zF hX10 2;obtain⟨fa',fc',rfl⟩:=own_slice hown10;have HT10:=hide T10;clear T10 hX10 hown10 hgr)|(go_simp;go_at_call 104;refine(takeFrame_good HTd.out.rs Hl.out Hx.out).mono ?_;rintro e w9 ⟨la,lc,rfl,hrs9,hg9,hv⟩;have T9:=HTd.out.call hrs9 hg9;obtain⟨z0,z1,z2,z3,z4,z5⟩:=T9.cells;have HT9:=hide T9;have fm9:=T9.fm;have hl9:=zL T9.hx;have hv9:=hide (own_weak (base':=b+1) hv (by have:=HT.out.rs.hi;have:=zL HT.out.rs.h;show b+1<=wr.heap.size;omega));clear T9 hrs9 hg9 hv))
    all_goals
     go_wp2;go_roundw
     case rel=>exact⟨j,P++[(.slice la l.length lc,l)],_,HT10.out,by rw[List.map_append];exact HR2.out⟩
     case measure=>rw[HL.out,HT10.out.cells.2.2.1];show 900-(P.length+1)<900-P.length;omega
  .have hk':(tk (zT s.data.toList) i).k=101:=by simpa using hk
   have hend:=hide (pfR_end HR.out hii hk');rw[Hc.out,Hf.out]at hend;clear hk hk';have h1:=HT.out.h1;have h2:=HT.out.h2;have hne1:¬w.heap.size=X:=by omega
   have hne2:¬X=w.heap.size:=by omega
   go_wp2;refine bodyPost_ret (v:=.agg #[.int .i64 c,.int .i64 f,.slice fa P.length fc]) (by simp[results,Tryz.results66,go_sem,y0]) rfl ⟨?_,.inr ⟨⟨c,f,P.map Prod.snd⟩,P,.slice fa P.length fc,hend.out,rfl,hPl,rfl,?_⟩⟩
   .exact below_grown (zG (zG (zG HT.out.g (Nat.le_refl _) _ _) (Nat.le_refl _) _ _) (Nat.le_refl _) _ _)
   .have K:∀(W:World) (o:Nat) (v:Value),FrM W (b+1) (.slice fa P.length fc) P->FrM (W.setCell ⟨w.heap.size,o,none⟩ v) (b+1) (.slice fa P.length fc) P:=fun W o v h=>h.kept (zE (k:=w.heap.size) (zI _ _) o v) (fun k hk=>.inl (by simp at hk;omega));have h3:=K _ 2 (.slice fa P.length fc) (K _ 1 (.int .i64 f) (K _ 0 (.int .i64 c) HT.out.fm));exact⟨own_weak h3.1 (by omega),fun p hp=>own_weak (h3.2 p hp) (by omega)⟩
end
end Go.Proofs.YtbdffcjganlblaaGreatDoor
