import Derived.Test.YtbdffcjganlblaaGreatDoorARefLtoRefN
import Derived.Deep.RegionWith
import Derived.Deep.DeepCutAuto
import Derived.Test.YtbdffcjganlblaaGreatDoorARefFtoRefH
import Derived.Test.YtbdffcjganlblaaGreatDoorARefItoRefK
set_option linter.unusedVariables false
set_option linter.unusedSimpArgs false
set_option maxRecDepth 100000
set_option maxHeartbeats 16000000
namespace Go.Proofs.YtbdffcjganlblaaGreatDoor
section
open Go.RowKit
def dL (n:Nat):List UInt8:=(dB n).data.toList
def tLine (t:Tk):List UInt8:=[116,97,115,107,32]++[t.nm]++[32,101,118,101,114,121,32]++dL t.P++(if 0<t.O then [32,102,114,111,109,32]++dL t.O else [])++[32,116,97,107,101,115,32]++dL t.C++[32,119,105,116,104,105,110,32]++dL t.D++[59,10]
def pLine (p:Pr):List UInt8:=(if p.ap then [97,112,97,114,116,32] else [98,101,102,111,114,101,32])++[p.a,32,p.b]++[59,10]
def printR (l:List UInt8):List UInt8×Nat×Nat:=
 match knownR l with
 | .error f=>([],f)
 | .ok (ts,ps)=>(ts.flatMap tLine++ps.flatMap pLine,0,0)
theorem knownR_ok {l:List UInt8}{ts:List Tk}{ps:List Pr}(h:knownR l=.ok (ts,ps)):(∀k,k<ts.length->(tsk ts k).P<100/\(tsk ts k).O<100/\(tsk ts k).C<100/\(tsk ts k).D<100)/\1<=ts.length/\ts.length<=6/\ps.length<=6:=by
 unfold knownR at h;split at h
 .simp at h
 .cases h1:pSet (zT l) with
  | error j=>rw[h1]at h;simp at h
  | ok x=>
   obtain⟨ts',ps'⟩:=x;rw[h1]at h;simp only at h;split at h
   .simp at h
   .rename_i hE;split at h
    .simp at h
    .simp at h;obtain⟨rfl,rfl⟩:=h;obtain⟨_,b2,b3,b4⟩:=pSet_bounds h1;refine⟨?_,b2,b3,b4⟩;intro k hk;have:=timed_P (mT_zero ts'.length (mP_zero (ps:=ps') ps'.length (by unfold meantI at hE;omega)) k hk);omega
theorem knownR_err {l:List UInt8}{f:Nat×Nat}(h:knownR l=.error f):f.1≠0:=by
 unfold knownR at h;split at h
 .simp at h;rw[←h];decide
 .split at h
  .simp at h;rw[←h];simp
  .split at h
   .simp at h;rw[←h];assumption
   .split at h
    .simp at h;rw[←h];decide
    .simp at h
theorem dL_len (n:Nat):(dL n).length<=2:=by
 have:=dB_size n;simpa [dL] using this
theorem tLine_len (t:Tk):(tLine t).length<=60:=by
 have h1:=dL_len t.P;have h2:=dL_len t.O;have h3:=dL_len t.C;have h4:=dL_len t.D;unfold tLine;split<;>simp only[List.length_append,List.length_cons,List.length_nil]<;>omega
theorem flat_take {α:Type}(f:α->List UInt8)(d:α)(l:List α)(k:Nat)(h:k<l.length):(l.take (k+1)).flatMap f=(l.take k).flatMap f++f (l.getD k d):=by
 rw[List.take_succ_eq_append_getElem h,List.flatMap_append,List.getD_eq_getElem?_getD,List.getElem?_eq_getElem h];simp
theorem add_named (a b:ByteArray)(h:a.size+b.size<=100000):∃X:ByteArray,(∀w:World,(Op.stringOp .add a b).run Tryz.prog w=.ok (.string X) w)/\X.size=a.size+b.size/\X.data.toList=a.data.toList++b.data.toList:=
 ⟨a++b,fun w=>run_string_add_sum w a b (by omega),by simp[ByteArray.size_append],by simp[ByteArray.data_append]⟩
theorem rPrint_R (s:ByteArray)(w:World)(hm:s.size<=9223372036854775807)(R:List UInt8×Nat×Nat)(hRR:printR s.data.toList=R):
  Calls Tryz.prog 58 #[.string s] w fun e w'=>e=.returned (.tuple #[.string (bs R.1),.int .i64 R.2.1,.int .i64 R.2.2])/\Below w.heap.size w w':=by
 have hpr:Hid (R=match knownR s.data.toList with
  | .error f=>([],f)
  | .ok (ts,ps)=>(ts.flatMap tLine++ps.flatMap pLine,0,0)):=hRR.symm
 clear hRR;have hko:=fun ts ps=>knownR_ok (l:=s.data.toList) (ts:=ts) (ps:=ps);have Hko:=hide hko;clear hko;go_enter Tryz.func58,Tryz.ntmps58;go_wp2_with fail;refine(rKnown_any s _ hm).mono ?_;rintro e w1 ⟨hb,hcase⟩;have Hb:=hide hb;clear hb;rcases hcase with⟨f,hf,rfl⟩|⟨ts,ps,tv,pv,hj,rfl,ht,hp⟩
 .have hR:R=([],f):=by rw[hpr.out,hf]
  subst hR;have h0:=knownR_err hf;clear hf hpr Hko;have h0':((f.1:Int) != 0)=true:=by rw[bne_iff_ne];omega
  go_wp2
  go_ret3
  refine⟨?_,Hb.out.alloc Hb.out.size _⟩;simp[bs]
 .have hR:R=(ts.flatMap tLine++ps.flatMap pLine,0,0):=by rw[hpr.out,hj]
  subst hR;obtain⟨hsm,hn1,hn6,hm6⟩:=Hko.out ts ps hj;obtain⟨g,cap,rfl,hg1,hg2⟩:=own_form ht (by omega);obtain⟨pa,pc,rfl⟩:=own_slice hp;have Hrow:=hide (rowT_own ht);have Hpp:=hide (hp_of hp);have Hsm:=hide hsm;clear hj hpr Hko hsm ht hp;have hX:=hide (zW w1 #[.slice (some ⟨g,0,none⟩) ts.length cap,.slice pa ps.length pc] 53);have hB:=hide (Hb.out.alloc Hb.out.size (.cells #[.slice (some ⟨g,0,none⟩) ts.length cap,.slice pa ps.length pc] 53));have hbn:=hide (zN w1 (.cells #[.slice (some ⟨g,0,none⟩) ts.length cap,.slice pa ps.length pc] 53));have hsz:=Hb.out.size;go_wp2
  go_loopw [8,9] (fun x i wr=>∃(k:Nat),k<=ts.length/\i=.int .i64 k/\x=.string (bs ((ts.take k).flatMap tLine))/\((ts.take k).flatMap tLine).length<=60*k/\wr.heap[w1.heap.size]? =some (.cells #[.slice (some ⟨g,0,none⟩) ts.length cap,.slice pa ps.length pc] 53 (0,0))/\Below w.heap.size w wr/\Below w1.heap.size w1 wr) (fun _ i _=>ts.length-(intOf i).toNat)
  case atStart=>exact⟨0,by omega,rfl,by simp[bs],by simp,hX.out,hB.out,hbn.out⟩
  case round=>
   clear hX hB hbn;obtain⟨k,hk,rfl,rfl,hlen,hx,hbw,hbw1⟩:=hrel;have x0:∀o,wr.cell? ⟨w1.heap.size,o,none⟩=#[Value.slice (some ⟨g,0,none⟩) ts.length cap,.slice pa ps.length pc][o]? := zC hx;have hxl:=zL hx;by_cases hlt:k<ts.length
   .obtain⟨r0,r1,r2,r3,r4,r5,r6,r7,r8,r9⟩:=Hrow.out.below hbw1 hg2 k hlt;obtain⟨b1,b2,b3,b4⟩:=Hsm.out k hlt;have hft:Hid ((ts.take (k+1)).flatMap tLine=(ts.take k).flatMap tLine++tLine (tsk ts k)):=flat_take tLine _ ts k hlt;have htl:Hid ((tLine (tsk ts k)).length<=60):=tLine_len _;have Hx:=hide hx;have Hbw:=hide hbw;have Hbw1:=hide hbw1;have hgw:g<wr.heap.size:=by omega
    clear hx hbw hbw1;generalize tsk ts k=t at *;generalize (ts.take k).flatMap tLine=L at *;have hLs:(bs L).size<=360:=by rw[bs_size];omega
    have hd1:=dB_size t.P;have hd2:=dB_size t.O;have hd3:=dB_size t.C;have hd4:=dB_size t.D;have hcv:∀(o:Obj),(convert 64 9 (.slice (some ⟨wr.heap.size+1,0,none⟩) 1 1)).run Tryz.prog ((wr.alloc o).alloc (.cells #[.int .u8 t.nm.toNat] 5)).drew=.ok (.string ⟨#[t.nm]⟩) ((wr.alloc o).alloc (.cells #[.int .u8 t.nm.toNat] 5)).drew:=by
     intro o;refine run_convert_bytes_back _ 64 9 5 ⟨wr.heap.size+1,0,none⟩ 1 [t.nm] Tryz.underlying64 Tryz.underlying5 Tryz.underlying9 ?_;intro j hj;have h0:j=0:=by simpa using hj
     subst h0;exact cells_new (wr.alloc o) #[.int .u8 t.nm.toNat] 5 (wr.heap.size+1) (by simp) 0 _ rfl
    obtain⟨X1,a1,z1,e1⟩:=add_named (bs L) ⟨#[116,97,115,107,32]⟩ (by rw[show (ByteArray.size ⟨#[116,97,115,107,32]⟩)=5 from rfl];omega);rw[show (ByteArray.size ⟨#[116,97,115,107,32]⟩)=5 from rfl]at z1;obtain⟨X2,a2,z2,e2⟩:=add_named X1 ⟨#[t.nm]⟩ (by rw[show (ByteArray.size ⟨#[t.nm]⟩)=1 from rfl];omega);rw[show (ByteArray.size ⟨#[t.nm]⟩)=1 from rfl]at z2;obtain⟨X3,a3,z3,e3⟩:=add_named X2 ⟨#[32,101,118,101,114,121,32]⟩ (by rw[show (ByteArray.size ⟨#[32,101,118,101,114,121,32]⟩)=7 from rfl];omega);rw[show (ByteArray.size ⟨#[32,101,118,101,114,121,32]⟩)=7 from rfl]at z3;obtain⟨X4,a4,z4,e4⟩:=add_named X3 (dB t.P) (by omega);have z4':X4.size<=375:=by omega
    have E4:Hid (X4.data.toList=L++[116,97,115,107,32]++[t.nm]++[32,101,118,101,114,121,32]++dL t.P):=by
     unfold Hid;rw[e4,e3,e2,e1,bs_data];simp[dL]
    clear z1 z2 z3 z4 e1 e2 e3 e4;go_wp2_with fail
    go_cut [8] (fun x wc=>x=.string X4/\wc.heap[wr.heap.size]? =some (.cells (tkA t) 95 (0,0))/\Below wr.heap.size wr wc)
    case first=>
     go_region_with ((go_at_call 82;refine(rdec_any t.P _ b1).mono ?_;rintro e w' ⟨rfl,rfl⟩))
     all_goals
      go_wp2
      go_meet
      case rel=>
       refine⟨rfl,?_,(((zN wr _).alloc (by simp) _)).drew⟩;show ((wr.alloc _).alloc _).heap[wr.heap.size]? =_;rw[Below.heap_alloc _ _ _ (by simp)];exact zW _ _ _
    case rest=>
     obtain⟨rfl,hT,hbc⟩:=hcut;obtain⟨c0,c1,c2,c3,c4,_⟩:=tkA_cells hT;have HX2:=hide (zK Hx.out hbc);have Hwc:=hide (Hbw.out.trans (hbc.mono (by omega)));have Hwc1:=hide (Hbw1.out.trans (hbc.mono (by omega)));clear hT hbc a1 a2 a3 a4 hcv r0 r1 r2 r3 r4 r5 r6 r7 r8 r9 x0;generalize wr.heap.size=X at *;by_cases hO:0<t.O
     .have hO':(0:Int)<t.O:=by omega
      obtain⟨Y1,b5,y1,f1⟩:=add_named X4 ⟨#[32,102,114,111,109,32]⟩ (by rw[show (ByteArray.size ⟨#[32,102,114,111,109,32]⟩)=6 from rfl];omega);rw[show (ByteArray.size ⟨#[32,102,114,111,109,32]⟩)=6 from rfl]at y1;obtain⟨Y2,b6,y2,f2⟩:=add_named Y1 (dB t.O) (by omega);have E6:Hid (Y2.data.toList=L++[116,97,115,107,32]++[t.nm]++[32,101,118,101,114,121,32]++dL t.P++[32,102,114,111,109,32]++dL t.O):=by
       unfold Hid;rw[f2,f1,E4.out];simp[dL]
      have y2':Y2.size<=400:=by omega
      clear y1 y2 f1 f2;go_wp2_with fail;refine(rdec_any t.O _ b2).mono ?_;rintro e w' ⟨rfl,rfl⟩;obtain⟨Z1,d1,z1,e1⟩:=add_named Y2 ⟨#[32,116,97,107,101,115,32]⟩ (by rw[show (ByteArray.size ⟨#[32,116,97,107,101,115,32]⟩)=7 from rfl];omega);rw[show (ByteArray.size ⟨#[32,116,97,107,101,115,32]⟩)=7 from rfl]at z1;obtain⟨Z2,d2,z2,e2⟩:=add_named Z1 (dB t.C) (by omega);obtain⟨Z3,d3,z3,e3⟩:=add_named Z2 ⟨#[32,119,105,116,104,105,110,32]⟩ (by rw[show (ByteArray.size ⟨#[32,119,105,116,104,105,110,32]⟩)=8 from rfl];omega);rw[show (ByteArray.size ⟨#[32,119,105,116,104,105,110,32]⟩)=8 from rfl]at z3;obtain⟨Z4,d4,z4,e4⟩:=add_named Z3 (dB t.D) (by omega);obtain⟨Z5,d5,z5,e5⟩:=add_named Z4 ⟨#[59,10]⟩ (by rw[show (ByteArray.size ⟨#[59,10]⟩)=2 from rfl];omega);have EZ:Hid (.string Z5=Value.string (bs ((ts.take (k+1)).flatMap tLine))):=by
       unfold Hid;rw[hft.out];congr 1;rw[←bs_list Z5];congr 1;rw[e5,e4,e3,e2,e1];rw[E6.out];unfold tLine;rw[if_pos hO];simp[dL]
      have EL:Hid (((ts.take (k+1)).flatMap tLine).length<=60*(k+1)):=by
       unfold Hid;rw[hft.out,List.length_append];have:=htl.out;omega
      clear z1 z2 z3 z4 z5 e1 e2 e3 e4 e5;go_wp2_with fail
      go_quiet ((go_at_call 82;exact Calls.quiet_of_same (rdec_any _ _ (by first|exact b3|exact b4))))
      go_wp2;go_roundw
      case rel=>exact⟨k+1,by omega,by go_num,EZ.out,EL.out,by exact HX2.out,below_drewN Hwc.out _,below_drewN Hwc1.out _⟩
      case measure=>simp[intOf];omega
     .have hO':¬(0:Int)<t.O:=by omega
      obtain⟨Z1,d1,z1,e1⟩:=add_named X4 ⟨#[32,116,97,107,101,115,32]⟩ (by rw[show (ByteArray.size ⟨#[32,116,97,107,101,115,32]⟩)=7 from rfl];omega);rw[show (ByteArray.size ⟨#[32,116,97,107,101,115,32]⟩)=7 from rfl]at z1;obtain⟨Z2,d2,z2,e2⟩:=add_named Z1 (dB t.C) (by omega);obtain⟨Z3,d3,z3,e3⟩:=add_named Z2 ⟨#[32,119,105,116,104,105,110,32]⟩ (by rw[show (ByteArray.size ⟨#[32,119,105,116,104,105,110,32]⟩)=8 from rfl];omega);rw[show (ByteArray.size ⟨#[32,119,105,116,104,105,110,32]⟩)=8 from rfl]at z3;obtain⟨Z4,d4,z4,e4⟩:=add_named Z3 (dB t.D) (by omega);obtain⟨Z5,d5,z5,e5⟩:=add_named Z4 ⟨#[59,10]⟩ (by rw[show (ByteArray.size ⟨#[59,10]⟩)=2 from rfl];omega);have EZ:Hid (.string Z5=Value.string (bs ((ts.take (k+1)).flatMap tLine))):=by
       unfold Hid;rw[hft.out];congr 1;rw[←bs_list Z5];congr 1;rw[e5,e4,e3,e2,e1];rw[E4.out];unfold tLine;rw[if_neg hO];simp[dL]
      have EL:Hid (((ts.take (k+1)).flatMap tLine).length<=60*(k+1)):=by
       unfold Hid;rw[hft.out,List.length_append];have:=htl.out;omega
      clear z1 z2 z3 z4 z5 e1 e2 e3 e4 e5;go_wp2_with fail
      go_quiet ((go_at_call 82;exact Calls.quiet_of_same (rdec_any _ _ (by first|exact b3|exact b4))))
      go_wp2;go_roundw
      case rel=>exact⟨k+1,by omega,by go_num,EZ.out,EL.out,by exact HX2.out,below_drewN Hwc.out _,below_drewN Hwc1.out _⟩
      case measure=>simp[intOf];omega
   .have hkl:k=ts.length:=by omega
    subst hkl;have hxx:=hide hx;have Hbw:=hide hbw;have Hbw1:=hide hbw1;have hR0:Hid ((ts.take ts.length).flatMap tLine=ts.flatMap tLine):=by unfold Hid;rw[List.take_length]
    have hlen':(ts.flatMap tLine).length<=400:=by rw[←hR0.out];omega
    rw[hR0.out];clear hx hbw hbw1 hlen hR0;generalize hL0:ts.flatMap tLine=L0 at *;have HL0:=hide hL0;clear hL0;go_wp2
    go_loopw [8,11] (fun x i wr=>∃(k:Nat),k<=ps.length/\i=.int .i64 k/\x=.string (bs (L0++(ps.take k).flatMap pLine))/\(L0++(ps.take k).flatMap pLine).length<=400+12*k/\wr.heap[w1.heap.size]? =some (.cells #[.slice (some ⟨g,0,none⟩) ts.length cap,.slice pa ps.length pc] 53 (0,0))/\Below w.heap.size w wr/\Below w1.heap.size w1 wr) (fun _ i _=>ps.length-(intOf i).toNat)
    case atStart=>exact⟨0,by omega,rfl,by simp,by simp;omega,hxx.out,Hbw.out,Hbw1.out⟩
    case round=>
     clear hxx Hbw Hbw1 x0;obtain⟨k,hk,rfl,rfl,hlen,hx,hbw,hbw1⟩:=hrel;have x0:∀o,wr.cell? ⟨w1.heap.size,o,none⟩=#[Value.slice (some ⟨g,0,none⟩) ts.length cap,.slice pa ps.length pc][o]? := zC hx;have hxl2:=zL hx;by_cases hlt:k<ps.length
     .obtain⟨gp,rfl,hgp,hRP⟩:=Hpp.out (by omega);obtain⟨r0,r1,r2,r3,r4⟩:=hRP.below hbw1 hgp k hlt;have hft:Hid ((ps.take (k+1)).flatMap pLine=(ps.take k).flatMap pLine++pLine (psk ps k)):=flat_take pLine _ ps k hlt;have Hx:=hide hx;have Hbw:=hide hbw;have Hbw1:=hide hbw1;have hgw:gp<wr.heap.size:=by omega
      clear hx hbw hbw1 hRP Hpp;generalize psk ps k=p at *;have hL:Hid (L0++(ps.take (k+1)).flatMap pLine=(L0++(ps.take k).flatMap pLine)++pLine p):=by unfold Hid;rw[hft.out,List.append_assoc]
      generalize L0++(ps.take k).flatMap pLine=L at *;have hLs:(bs L).size<=480:=by rw[bs_size];omega
      have hcv:∀(o:Obj),(convert 64 9 (.slice (some ⟨wr.heap.size+1,0,none⟩) 3 3)).run Tryz.prog ((wr.alloc o).alloc (.cells #[.int .u8 p.a.toNat,.int .u8 32,.int .u8 p.b.toNat] 5))=.ok (.string ⟨#[p.a,32,p.b]⟩) ((wr.alloc o).alloc (.cells #[.int .u8 p.a.toNat,.int .u8 32,.int .u8 p.b.toNat] 5)):=by
       intro o;refine run_convert_bytes_back _ 64 9 5 ⟨wr.heap.size+1,0,none⟩ 3 [p.a,32,p.b] Tryz.underlying64 Tryz.underlying5 Tryz.underlying9 ?_;intro j hj;refine cells_new (wr.alloc o) #[.int .u8 p.a.toNat,.int .u8 32,.int .u8 p.b.toNat] 5 (wr.heap.size+1) (by simp) j _ ?_
       match j,hj with
       | 0,_=>rfl
       | 1,_=>rfl
       | 2,_=>rfl
      have hap:∃(W:ByteArray) (b:Bool),p.ap=b/\W.size<=7/\W.data.toList=(if b then [97,112,97,114,116,32] else [98,101,102,111,114,101,32])/\W=(if b then ⟨#[97,112,97,114,116,32]⟩ else ⟨#[98,101,102,111,114,101,32]⟩):=by
       cases p.ap
       .exact⟨⟨#[98,101,102,111,114,101,32]⟩,false,rfl,by decide,rfl,rfl⟩
       .exact⟨⟨#[97,112,97,114,116,32]⟩,true,rfl,by decide,rfl,rfl⟩
      obtain⟨W,bb,hbb,hW,hWl,hWe⟩:=hap;obtain⟨X1,a1,z1,e1⟩:=add_named (bs L) W (by omega);obtain⟨X2,a2,z2,e2⟩:=add_named X1 ⟨#[p.a,32,p.b]⟩ (by rw[show (ByteArray.size ⟨#[p.a,32,p.b]⟩)=3 from rfl];omega);rw[show (ByteArray.size ⟨#[p.a,32,p.b]⟩)=3 from rfl]at z2;obtain⟨X3,a3,z3,e3⟩:=add_named X2 ⟨#[59,10]⟩ (by rw[show (ByteArray.size ⟨#[59,10]⟩)=2 from rfl];omega);have EZ:Hid (.string X3=Value.string (bs (L++pLine p))):=by
       unfold Hid;congr 1;rw[←bs_list X3];congr 1;rw[e3,e2,e1,hWl,bs_data];unfold pLine;rw[hbb];simp
      have EL:Hid ((L++pLine p).length<=400+12*(k+1)):=by
       unfold Hid;have:(pLine p).length<=12:=by unfold pLine;split<;>simp
       rw[List.length_append];omega
      clear z1 z2 z3 e1 e2 e3 hW hWl;rw[hbb]at r2;clear hbb
      cases bb
      all_goals
       simp only[if_true,Bool.false_eq_true,if_false]at hWe;subst hWe;go_wp2;go_roundw
       case rel=>exact⟨k+1,by omega,by go_num,by rw[hL.out];exact EZ.out,by rw[hL.out];exact EL.out,by rw[Below.heap_alloc _ _ _ (by simp;omega),Below.heap_alloc _ _ _ (by omega)];exact Hx.out,(Hbw.out.alloc (by have:=Hbw.out.size;omega) _).alloc (by have:=Hbw.out.size;simp;omega) _,(Hbw1.out.alloc (by omega) _).alloc (by simp;omega) _⟩
       case measure=>simp[intOf];omega
     .have hkl:k=ps.length:=by omega
      subst hkl;have Hbw:=hide hbw;clear hx hbw hbw1;rw[List.take_length];go_wp2
      go_ret3
      refine⟨?_,Hbw.out⟩;simp[HL0.out]
theorem rPrint_any (s:ByteArray)(w:World)(hm:s.size<=9223372036854775807):
  Calls Tryz.prog 58 #[.string s] w fun e w'=>e=.returned (.tuple #[.string (bs (printR s.data.toList).1),.int .i64 (printR s.data.toList).2.1,.int .i64 (printR s.data.toList).2.2])/\Below w.heap.size w w':=
 rPrint_R s w hm _ rfl
end
structure Sl where
 nm:UInt8
 job:Nat
 bud:Nat
structure Tb where
 cyc:Nat
 fr:Nat
 fs:List (List Sl)
def wCycle:ByteArray:=⟨#[99,121,99,108,101]⟩
def wFrame:ByteArray:=⟨#[102,114,97,109,101]⟩
def slOk (T:List PT) (i:Nat):Bool:=isName (tk T i)&&((tk T (i+1)).k==110&&((tk T (i+2)).k==58&&(tk T (i+3)).k==110))
def slAt (T:List PT) (i:Nat):Sl:=⟨nameB (tk T i),(tk T (i+1)).N,(tk T (i+3)).N⟩
def pMore (T:List PT) (i:Nat):Option (List Sl×Nat):=
 if h:i<T.length then
  if slOk T i then
   if (tk T (i+4)).k==44 then (match pMore T (i+5) with|none=>none|some (l,k)=>some (slAt T i::l,k))
   else if (tk T (i+4)).k==59 then some ([slAt T i],i+5) else none
  else none
 else none
termination_by T.length-i
theorem tk_out {T:List PT}{i:Nat}(h:T.length<=i):tk T i=⟨101,[],0⟩:=by
 unfold tk;rw[List.getD_eq_getElem?_getD,List.getElem?_eq_none h];rfl
theorem slOk_lt {T:List PT}{i:Nat}(h:slOk T i=true):i+3<T.length:=by
 rcases Nat.lt_or_ge (i+3) T.length with h1|h1
 .exact h1
 .simp[slOk,tk_out h1]at h
theorem pMore_eq (T:List PT)(i:Nat):pMore T i=if slOk T i then
   if (tk T (i+4)).k==44 then (match pMore T (i+5) with|none=>none|some (l,k)=>some (slAt T i::l,k))
   else if (tk T (i+4)).k==59 then some ([slAt T i],i+5) else none
  else none:=by
 conv=>lhs;rw[pMore]
 split
 .rfl
 .rename_i h;rw[if_neg];intro h1;have:=slOk_lt h1;omega
theorem pMore_no {T:List PT}{i:Nat}(h:slOk T i=false):pMore T i=none:=by rw[pMore_eq,h];rfl
theorem pMore_last {T:List PT}{i:Nat}(h:slOk T i=true)(h1:(tk T (i+4)).k=59):pMore T i=some ([slAt T i],i+5):=by rw[pMore_eq,h,h1];rfl
theorem pMore_cut {T:List PT}{i:Nat}(h:slOk T i=true)(h1:(tk T (i+4)).k≠59)(h2:(tk T (i+4)).k≠44):pMore T i=none:=by rw[pMore_eq,h];simp[h1,h2]
theorem pMore_on {T:List PT}{i:Nat}(h:slOk T i=true)(h1:(tk T (i+4)).k=44):pMore T i=(match pMore T (i+5) with|none=>none|some (l,k)=>some (slAt T i::l,k)):=by rw[pMore_eq,h,h1];rfl
theorem pMore_len:∀(n:Nat) (T:List PT) (i:Nat),T.length-i<=n->∀l j,pMore T i=some (l,j)->i+4*l.length<j/\1<=l.length/\j<=T.length:=by
 intro n
 induction n with
 | zero=>
  intro T i hn l j h;rw[pMore,dif_neg (by omega)]at h;simp at h
 | succ n ih=>
  intro T i hn l j h;rw[pMore_eq]at h;split at h
  .rename_i hs;have hlt:=slOk_lt hs;split at h
   .cases hm:pMore T (i+5) with
    | none=>rw[hm]at h;simp at h
    | some x=>
     obtain⟨l',k⟩:=x;rw[hm]at h;simp at h;obtain⟨rfl,rfl⟩:=h;have:=ih T (i+5) (by omega) l' k hm;simp;omega
   .split at h
    .rename_i h1;simp at h;obtain⟨rfl,rfl⟩:=h;simp;rcases Nat.lt_or_ge (i+4) T.length with h2|h2
     .omega
     .simp[tk_out h2]at h1
    .simp at h
  .simp at h
def pFrame (T:List PT) (i:Nat):Option (List Sl×Nat):=if (tk T i).k==59 then some ([],i+1) else pMore T i
theorem pFrame_len {T:List PT}{i:Nat}{l:List Sl}{j:Nat}(h:pFrame T i=some (l,j)):i+4*l.length<j/\j<=T.length:=by
 unfold pFrame at h;split at h
 .rename_i h1;simp at h;obtain⟨rfl,rfl⟩:=h;simp;rcases Nat.lt_or_ge i T.length with h2|h2
  .omega
  .simp[tk_out h2]at h1
 .have:=pMore_len _ T i (Nat.le_refl _) l j h;omega
theorem pFrame_k {T:List PT}{i:Nat}{x:List Sl×Nat}(h:pFrame T i=some x):(tk T i).k≠101/\(tk T i).k≠120:=by
 unfold pFrame at h;split at h
 .rename_i h1;have:(tk T i).k=59:=by simpa using h1
  omega
 .rw[pMore_eq]at h;split at h
  .rename_i hs;simp only[slOk,isName,Bool.and_eq_true,beq_iff_eq]at hs;omega
  .simp at h
def pFrames (T:List PT) (i:Nat):Option (List (List Sl)):=
 if h:i<T.length then
  if (tk T i).k==101 then some [] else
  match pFrame T i with
  | none=>none
  | some (f,j)=>if hj:i<j then (match pFrames T j with|none=>none|some r=>some (f::r)) else none
 else none
termination_by T.length-i
theorem pFrames_end {T:List PT}{i:Nat}(h:i<T.length)(hk:(tk T i).k=101):pFrames T i=some []:=by
 rw[pFrames,dif_pos h,hk];rfl
theorem pFrames_no {T:List PT}{i:Nat}(hk:(tk T i).k≠101)(h:pFrame T i=none):pFrames T i=none:=by
 rw[pFrames,h];split
 .rw[if_neg (by simpa using hk)]
 .rfl
theorem pFrames_x {T:List PT}{i:Nat}(hk:(tk T i).k=120):pFrames T i=none:=by
 refine pFrames_no (by omega) ?_
 cases h:pFrame T i with
 | none=>rfl
 | some x=>exact absurd hk (pFrame_k h).2
theorem pFrames_on {T:List PT}{i:Nat}{f:List Sl}{j:Nat}(h:pFrame T i=some (f,j)):pFrames T i=(match pFrames T j with|none=>none|some r=>some (f::r)):=by
 have h1:=pFrame_len h;have h2:=(pFrame_k h).1;rw[pFrames,dif_pos (by omega),if_neg (by simpa using h2),h];simp only;rw[dif_pos (by omega)]
def pN:Nat->List PT->Nat->Option (List (List Sl)×Nat)
 | 0,T,i=>some ([],i)
 | n+1,T,i=>match pN n T i with
  | none=>none
  | some (fs,j)=>match pFrame T j with
   | none=>none
   | some (f,k)=>some (fs++[f],k)
theorem pN_frames {T:List PT}{i:Nat}:∀ {n:Nat} {fs:List (List Sl)} {j:Nat},pN n T i=some (fs,j)->fs.length=n/\i+4*fs.flatten.length<=j/\pFrames T i=(match pFrames T j with|none=>none|some r=>some (fs++r))
 | 0,fs,j,h=>by
  simp[pN]at h;obtain⟨rfl,rfl⟩:=h;refine⟨rfl,by simp,?_⟩
  cases pFrames T i<;>simp
 | n+1,fs,j,h=>by
  rw[pN]at h
  cases h1:pN n T i with
  | none=>rw[h1]at h;simp at h
  | some x=>
   obtain⟨gs,k⟩:=x;rw[h1]at h;simp only at h
   cases h2:pFrame T k with
   | none=>rw[h2]at h;simp at h
   | some y=>
    obtain⟨f,k'⟩:=y;rw[h2]at h;simp at h;obtain⟨rfl,rfl⟩:=h;obtain⟨h3,h4,h5⟩:=pN_frames h1;have h6:=pFrame_len h2;refine⟨by simp[h3],by simp;simp at h4;omega,?_⟩;rw[h5,pFrames_on h2]
    cases pFrames T k'<;>simp
theorem pFrames_pN {T:List PT}{i:Nat}{fs:List (List Sl)}(h:pFrames T i=some fs):∀n,n<=fs.length->∃j,pN n T i=some (fs.take n,j)/\pFrames T j=some (fs.drop n)
 | 0,_=>⟨i,by simp[pN],by simpa using h⟩
 | n+1,hn=>by
  obtain⟨j,h1,h2⟩:=pFrames_pN h n (by omega);rw[pN,h1];simp only;have hd:fs.drop n=fs[n]::fs.drop (n+1):=List.drop_eq_getElem_cons (by omega);have h2k:=h2;rw[pFrames]at h2;split at h2
  .split at h2
   .rw[hd]at h2;simp at h2;omega
   .cases h3:pFrame T j with
    | none=>rw[h3]at h2;simp at h2
    | some y=>
     obtain⟨f,k⟩:=y;have h4:=pFrames_on h3;rw[h2k,hd]at h4
     cases h5:pFrames T k with
     | none=>rw[h5]at h4;simp at h4
     | some r=>
      rw[h5]at h4;obtain⟨h6a,h6⟩:=List.cons.inj (Option.some.inj h4);refine⟨k,?_,by rw[h5,h6]⟩;simp only;rw[List.take_succ_eq_append_getElem (by omega),h6a]
  .simp at h2
def hdOk (T:List PT):Bool:=sees (tk T 0) wCycle&&((tk T 1).k==110&&(sees (tk T 2) wFrame&&((tk T 3).k==110&&(tk T 4).k==59)))
def pTab (T:List PT):Option Tb:=
 if hdOk T then (match pFrames T 5 with|none=>none|some fs=>some ⟨(tk T 1).N,(tk T 3).N,fs⟩) else none
theorem pTab_pN {T:List PT}{t:Tb}(h:pTab T=some t):hdOk T=true/\t.cyc=(tk T 1).N/\t.fr=(tk T 3).N/\pFrames T 5=some t.fs/\∃j,pN t.fs.length T 5=some (t.fs,j)/\j<T.length/\(tk T j).k=101:=by
 unfold pTab at h;split at h
 .rename_i h1
  cases h2:pFrames T 5 with
  | none=>rw[h2]at h;simp at h
  | some fs=>
   rw[h2]at h;simp at h;subst h;refine⟨h1,rfl,rfl,rfl,?_⟩;obtain⟨j,h3,h4⟩:=pFrames_pN h2 fs.length (Nat.le_refl _);refine⟨j,by simpa using h3,?_⟩;rw[pFrames]at h4;split at h4
   .rename_i h5;split at h4
    .rename_i h6;exact⟨h5,by simpa using h6⟩
    .exfalso;simp at h4;split at h4
     .simp at h4
     .rename_i f k h7;have:=pFrame_len h7;rw[if_pos (by omega)]at h4;split at h4<;>simp at h4
   .simp at h4
 .simp at h
theorem pTab_of {T:List PT}{fs:List (List Sl)}{n j:Nat}(h:hdOk T=true)(h1:pN n T 5=some (fs,j))(h2:j<T.length)(h3:(tk T j).k=101):pTab T=some ⟨(tk T 1).N,(tk T 3).N,fs⟩:=by
 unfold pTab;rw[if_pos h,(pN_frames h1).2.2,pFrames_end h2 h3];simp
section
open Go.RowKit
section
variable {w:World} {b r cap:Nat} {T:List PT} {i:Nat} {bad:Bool}
theorem rname_ex2 (h:PS w b r cap T i bad):
  Calls Tryz.prog 80 #[.pointer (some ⟨b,0,none⟩)] w fun e w'=>∃(v i':Nat) (bad':Bool),e=.returned (.int .u8 v)/\PS w' b r cap T i' bad'/\w.grownBy w' (some b)/\Hid (NameR T i bad v i' bad')/\Hid (v<256):=by
 refine(rname_any h).mono ?_;rintro e w' ⟨rfl,hp,hg⟩;unfold Hid NameR
 cases hc:(!bad&&isName (tk T i))
 .rw[hc]at hp;refine⟨0,_,_,rfl,hp,hg,?_,by omega⟩
  cases bad<;>cases hq:isName (tk T i)<;>simp_all
 .rw[hc]at hp;refine⟨_,_,_,rfl,hp,hg,?_,by simpa using (nameB (tk T i)).toNat_lt⟩
  cases bad<;>cases hq:isName (tk T i)<;>simp_all
theorem ris_any (h:PS w b r cap T i bad)(c:Nat):
  Calls Tryz.prog 79 #[.pointer (some ⟨b,0,none⟩),.int .u8 c] w fun e w'=>∃ok:Bool,e=.returned (.bool ok)/\PS w' b r cap T i bad/\w.grownBy w' (some b)/\Hid (ok=(!bad&&(tk T i).k==c)):=by
 have c0:=h.c0;have c1:=h.c1;have c2:=h.c2;have hi:=h.hi;have hn:=h.hn;obtain⟨r0,r1,r2,r3⟩:=h.row i hi;have H:=hide h;clear h
 cases bad
 .cases hk:((tk T i).k==c)
  .have hk':(((tk T i).k:Int)==c)=false:=by simp at hk ⊢;omega
   clear hk;go_enter Tryz.func79,Tryz.ntmps79;go_wp2
   go_quiet (fail)
   go_wp2;go_ret;exact⟨false,rfl,H.out.drewN _,grownBy_drewN (zI _ _) _,rfl⟩
  .have hk':(((tk T i).k:Int)==c)=true:=by simp at hk ⊢;omega
   clear hk;go_enter Tryz.func79,Tryz.ntmps79;go_wp2
   go_quiet (fail)
   go_wp2;go_ret;exact⟨true,rfl,H.out.drewN _,grownBy_drewN (zI _ _) _,rfl⟩
 .go_enter Tryz.func79,Tryz.ntmps79;go_wp2
  go_quiet (fail)
  go_wp2;go_ret;exact⟨false,rfl,H.out.drewN _,grownBy_drewN (zI _ _) _,rfl⟩
end
theorem sl_chain {T:List PT}{i nm i1 k i2 i3 bd i4:Nat}{b1 b2 b3 b4:Bool}(h1:NameR T i false nm i1 b1)(h2:NumR T i1 b1 k i2 b2)(h3:GoesR ((tk T i2).k==58) b2 i2 i3 b3)(h4:NumR T i3 b3 bd i4 b4):
  (b4=true/\slOk T i=false/\i<=i4)\/(b4=false/\slOk T i=true/\i4=i+4/\nm=(slAt T i).nm.toNat/\k=(slAt T i).job/\bd=(slAt T i).bud):=by
 unfold slOk slAt
 cases e1:isName (tk T i)
 .obtain⟨rfl,rfl⟩:=name_no h1 e1;obtain⟨_,rfl,rfl⟩:=num_bad h2;obtain⟨rfl,rfl⟩:=goes_bad h3;obtain⟨_,rfl,rfl⟩:=num_bad h4;simp
 .obtain⟨rfl,rfl,rfl⟩:=name_yes h1 e1
  cases e2:((tk T (i+1)).k==110)
  .obtain⟨rfl,rfl⟩:=num_no h2 e2;obtain⟨rfl,rfl⟩:=goes_bad h3;obtain⟨_,rfl,rfl⟩:=num_bad h4;simp
  .obtain⟨rfl,rfl,rfl⟩:=num_yes h2 e2;simp only[Nat.add_assoc,Nat.reduceAdd]at *
   cases e3:((tk T (i+2)).k==58)
   .rw[e3]at h3;obtain⟨rfl,rfl⟩:=goes_no h3;obtain⟨_,rfl,rfl⟩:=num_bad h4;simp
   .rw[e3]at h3;obtain⟨rfl,rfl⟩:=goes_yes h3;simp only[Nat.add_assoc,Nat.reduceAdd]at *
    cases e4:((tk T (i+3)).k==110)
    .obtain⟨rfl,rfl⟩:=num_no h4 e4;simp
    .obtain⟨rfl,rfl,rfl⟩:=num_yes h4 e4;simp
def slCells (j:Nat) (s:Sl):List Value:=[.int .i64 j,.int .u8 s.nm.toNat,.int .i64 s.job,.int .i64 s.bud]
def slRowR (j:Nat) (l:List Sl):List Value:=l.flatMap (slCells j)
def SlsR (T:List PT) (i0 i:Nat) (bad more:Bool) (l:List Sl):Prop:=
 (more=true/\bad=false/\i0+5*l.length<=i/\pFrame T i0=(match pMore T i with|none=>none|some (r,k)=>some (l++r,k)))\/
 (more=false/\4*l.length<=i+4/\pFrame T i0=if bad then none else if (tk T i).k==59 then some (l,i+1) else none)
theorem slsR_start (T:List PT)(i:Nat):SlsR T i i false (!((tk T i).k==59)) []:=by
 unfold SlsR pFrame
 cases hk:((tk T i).k==59)
 .left;refine⟨rfl,rfl,by simp,?_⟩
  cases pMore T i<;>simp
 .right;simp[hk]
theorem slsR_bad {T:List PT}{i0 i:Nat}{l:List Sl}(h:SlsR T i0 i false true l)(hs:slOk T i=false)(s:Sl){i':Nat}(hi:i<=i'):SlsR T i0 i' true false (l++[s]):=by
 rcases h with⟨_,_,h1,h2⟩|⟨h1,_⟩
 .right;rw[pMore_no hs]at h2;exact⟨rfl,by simp;omega,h2⟩
 .simp at h1
theorem slsR_last {T:List PT}{i0 i:Nat}{l:List Sl}(h:SlsR T i0 i false true l)(hs:slOk T i=true)(hk:((tk T (i+4)).k==44)=false):SlsR T i0 (i+4) false false (l++[slAt T i]):=by
 rcases h with⟨_,_,h1,h2⟩|⟨h1,_⟩
 .right;refine⟨rfl,by simp;omega,?_⟩;rw[h2]
  cases hk2:((tk T (i+4)).k==59)
  .rw[pMore_cut hs (by simpa using hk2) (by simpa using hk)];simp
  .rw[pMore_last hs (by simpa using hk2)];simp
 .simp at h1
theorem slsR_more {T:List PT}{i0 i:Nat}{l:List Sl}(h:SlsR T i0 i false true l)(hs:slOk T i=true)(hk:((tk T (i+4)).k==44)=true):SlsR T i0 (i+5) false true (l++[slAt T i]):=by
 rcases h with⟨_,_,h1,h2⟩|⟨h1,_⟩
 .left;refine⟨rfl,rfl,by simp;omega,?_⟩;rw[h2,pMore_on hs (by simpa using hk)]
  cases pMore T (i+5)<;>simp
 .simp at h1
structure SW (w wk:World) (b r cap:Nat) (T:List PT) (i:Nat) (bad:Bool) (v:Value) (n:Nat) (xs:List Value):Prop where
 ps:PS wk b r cap T i bad
 ow:wk.ownsRow w.heap.size 44 4 v n xs
 g:w.grownBy wk (some b)
 hb:b<w.heap.size
 hr:r<w.heap.size
section
variable {w wk:World} {b r cap:Nat} {T:List PT} {i:Nat} {bad:Bool} {v:Value} {n:Nat} {xs:List Value}
theorem SW.call (h:SW w wk b r cap T i bad v n xs){w':World}{i':Nat}{bad':Bool}(p:PS w' b r cap T i' bad')(g:wk.grownBy w' (some b)):SW w w' b r cap T i' bad' v n xs:=
 ⟨p,h.ow.kept g (.inr (own_ge h.ow h.hb)),zR h.g g,h.hb,h.hr⟩
theorem SW.push (h:SW w wk b r cap T i bad v n xs){o:Obj}{w2:World}{v':Value}{news:List Value}{m:Nat}(hg:(wk.alloc o).grownBy w2 v.ownBlock)(hown:w2.ownsRow w.heap.size 44 4 v' m news):SW w w2 b r cap T i bad v' m news:=by
 have hb:=h.hb;have hr:=h.hr;have hsz:=h.g.size;refine⟨(h.ps.alloc o).grown hg (own_ge h.ow hb) (own_ge h.ow hr),hown,?_,hb,hr⟩;have ha:=grownBy_alloc' h.g o;refine⟨hg.os.trans ha.os,hg.tape.trans ha.tape,hg.output.trans ha.output,Nat.le_trans ha.size hg.size,fun k hk hne=>?_⟩;rw[hg.block k (by simp;omega) (fun e=>own_ge h.ow hk e.symm)];exact ha.block k hk hne
end
theorem Tryz.infoSl:(Tryz.prog.info? 44).map (fun i=>(i.zero,i.size,i.bytes))=some (some (.agg #[.int .i64 0,.int .u8 0,.int .i64 0,.int .i64 0]),4,32):=by kernel_rfl
theorem u8_back (v:Nat)(h:v<256):(UInt8.ofNat v).toNat=v:=by simp;omega
def SlsPost (T:List PT) (i:Nat) (w:World) (b r cap j:Nat) (e:Ending) (w':World):Prop:=
 ∃(v:Value) (i':Nat) (bad':Bool) (l:List Sl),e=.returned v/\PS w' b r cap T i' bad'/\w.grownBy w' (some b)/\w'.ownsRow w.heap.size 44 4 v l.length (slRowR j l)/\l.length<=202/\
  Hid ((bad'=true/\pFrame T i=none)\/(bad'=false/\pFrame T i=some (l,i')))
theorem sls_end {T:List PT}{i0 i i':Nat}{bad bad':Bool}{l:List Sl}(h:SlsR T i0 i bad false l)(hg:GoesR ((tk T i).k==59) bad i i' bad'):(bad'=true/\pFrame T i0=none)\/(bad'=false/\pFrame T i0=some (l,i')):=by
 rcases h with⟨h1,_⟩|⟨_,_,h2⟩
 .simp at h1
 .cases bad
  .simp only[Bool.false_eq_true,if_false]at h2
   cases hk:((tk T i).k==59)
   .rw[hk]at h2 hg;obtain⟨rfl,rfl⟩:=goes_no hg;exact .inl ⟨rfl,by simpa using h2⟩
   .rw[hk]at h2 hg;obtain⟨rfl,rfl⟩:=goes_yes hg;exact .inr ⟨rfl,by simpa using h2⟩
  .obtain⟨rfl,rfl⟩:=goes_bad hg;exact .inl ⟨rfl,by simpa using h2⟩
section
variable {w:World} {b r cap:Nat} {T:List PT} {i:Nat}
theorem rslices_any (h:PS w b r cap T i false)(j:Nat):
  Calls Tryz.prog 44 #[.pointer (some ⟨b,0,none⟩),.int .i64 j] w (SlsPost T i w b r cap j):=by
 obtain⟨i0,hi0,hz0,hz1,hz2⟩:=info_parts Tryz.infoSl;have hlb:=h.ltb;have hlr:=h.ltr;go_enter Tryz.func44,Tryz.ntmps44;go_wp2_with fail;refine(ris_any h 59).mono ?_;rintro e w1 ⟨ok,rfl,p,g,hok⟩;have S0:SW w w1 b r cap T i false (.slice none 0 0) 0 []:=⟨p,World.ownsRow_nil _ _ _ _,g,hlb,hlr⟩;have HR:Hid (SlsR T i i false (!ok) []):=by
  unfold Hid;rw[hok.out];simpa using slsR_start T i
 have c2:=p.c2;clear p g hok h hlb hlr
 cases ok
 all_goals
  go_wp2_with fail;have H0:=hide S0;clear S0 c2
  go_loopw [5,7] (fun v more wr=>∃(i':Nat) (bad mr:Bool) (l:List Sl),more=.bool mr/\SW w wr b r cap T i' bad v l.length (slRowR j l)/\SlsR T i i' bad mr l) (fun v _ _=>300-lenOf (some v))
  case atStart=>exact⟨i,false,_,[],rfl,H0.out,HR.out⟩
  case round=>
   clear H0 HR;obtain⟨i',bad,mr,l,rfl,S,hR⟩:=hrel;obtain⟨va,vc,rfl⟩:=own_slice S.ow;have hlen:=S.ps.hi;have hlen2:=S.ps.hn
   cases mr
   .have hl:l.length<=202:=by
     rcases hR with⟨h1,_⟩|⟨_,h1,_⟩
     .simp at h1
     .omega
    have HR:=hide hR;clear hR;go_wp2_with fail;refine(rmark_ex S.ps 59 (by decide)).mono ?_;rintro e w2 ⟨i2,b2,rfl,p,g,hg⟩;have S2:=hide (S.call p g);clear p g S;go_wp2;go_ret;exact⟨_,i2,b2,l,rfl,S2.out.ps,S2.out.g,S2.out.ow,hl,hide (sls_end HR.out hg.out)⟩
   .have hbad:bad=false:=by
     rcases hR with⟨_,h1,_⟩|⟨h1,_⟩
     .exact h1
     .simp at h1
    subst hbad;have hl:l.length<=160:=by
     rcases hR with⟨_,_,h1,_⟩|⟨h1,_⟩
     .omega
     .simp at h1
    have HR:=hide hR;clear hR;go_wp2_with fail;refine(rname_ex2 S.ps).mono ?_;rintro e w2 ⟨nm,i1,b1,rfl,p,g,h1,hnm⟩;have S2:=S.call p g;clear p g S;go_wp2_with fail;refine(rnumber_ex S2.ps).mono ?_;rintro e w3 ⟨k,i2,b2,rfl,p,g,h2⟩;have S3:=S2.call p g;clear p g S2;go_wp2_with fail;refine(rmark_ex S3.ps 58 (by decide)).mono ?_;rintro e w4 ⟨i3,b3,rfl,p,g,h3⟩;have S4:=S3.call p g;clear p g S3;go_wp2_with fail;refine(rnumber_ex S4.ps).mono ?_;rintro e w5 ⟨bd,i4,b4,rfl,p,g,h4⟩;have S5:=S4.call p g;clear p g S4;have hch:=hide (sl_chain h1.out h2.out h3.out h4.out);clear h1 h2 h3 h4;have hws:=S5.g.size;have H5:=hide S5;have ow5:=S5.ow;clear S5;go_wp2_with (at_builtin;refine wpList_append_own _ rfl _ _ 37 rfl w.heap.size 44 i0 _ 4 32 Tryz.underlying37 hi0 hz0 hz1 hz2 rfl (by decide) _ _ _ rfl (ow5.alloc _) ⟨w5.heap.size,0,none⟩ 1 1 [.int .i64 j,.int .u8 nm,.int .i64 k,.int .i64 bd] rfl rfl ?c1 ?c2 ?c3 ?c4 ?c5 ?_)
    case c1=>exact cells_new w5 #[_,_,_,_] _ _ rfl
    case c2=>simp[Value.oneCell']
    case c3=>unfold maxLen;omega
    case c4=>omega
    case c5=>simp;omega
    intro v' w6 hown6 hgr _;have S6:=H5.out.push hgr hown6;have hsl:slRowR j l++[Value.int .i64 j,.int .u8 nm,.int .i64 k,.int .i64 bd]=slRowR j (l++[⟨UInt8.ofNat nm,k,bd⟩]):=by
     unfold slRowR;rw[List.flatMap_append];simp only[List.flatMap_cons,List.flatMap_nil,List.append_nil,slCells];rw[u8_back nm hnm.out]
    rw[hsl]at S6;obtain⟨va',vc',rfl⟩:=own_slice S6.ow;clear hown6 hgr ow5 H5 hsl;go_wp2_with fail;refine(ris_any S6.ps 44).mono ?_;rintro e w7 ⟨mr,rfl,p,g,hmr⟩;have S7:=S6.call p g;clear p g S6
    cases mr
    .have hRR:Hid (SlsR T i i4 b4 false (l++[⟨UInt8.ofNat nm,k,bd⟩])):=by
      unfold Hid;rcases hch.out with⟨rfl,q1,q2⟩|⟨rfl,q1,rfl,q2,q3,q4⟩
      .exact slsR_bad HR.out q1 _ q2
      .have hm:=hmr.out;simp at hm;have:=slsR_last HR.out q1 (by simpa using hm);rw[show slAt T i'=⟨UInt8.ofNat nm,k,bd⟩ by rw[q2,q3,q4];simp]at this;exact this
     have H7:=hide S7;clear S7 hch hmr HR;go_wp2;go_roundw
     case rel=>exact⟨i4,b4,false,_,rfl,by simpa using H7.out,hRR.out⟩
     case measure=>simp[lenOf];omega
    .have hok:b4=false/\((tk T i4).k==44)=true:=by
      have hm:=hmr.out
      cases b4
      .exact⟨rfl,by simpa using hm⟩
      .simp at hm
     obtain⟨rfl,hk44⟩:=hok;have hRR:Hid (SlsR T i (i4+1) false true (l++[⟨UInt8.ofNat nm,k,bd⟩])):=by
      unfold Hid;rcases hch.out with⟨q0,_⟩|⟨_,q1,rfl,q2,q3,q4⟩
      .simp at q0
      .have:=slsR_more HR.out q1 (by simpa using hk44);rw[show slAt T i'=⟨UInt8.ofNat nm,k,bd⟩ by rw[q2,q3,q4];simp]at this;exact this
     have hf4:=S7.ps.fin i4 S7.ps.hi (by unfold PT.fin;simp at hk44;rw[hk44];rfl);have c1:=S7.ps.c1;have f1:=S7.ps.f1;have h7i:=S7.ps.hi;have h7n:=S7.ps.hn;have H8:=hide (S7.call (S7.ps.next hf4) (zE (zI _ _) _ _));clear S7 hch hmr HR hf4 hk44;go_wp2;go_roundw
     case rel=>exact⟨i4+1,false,true,_,rfl,by simpa using H8.out,hRR.out⟩
     case measure=>simp[lenOf];omega
end
end
end Go.Proofs.YtbdffcjganlblaaGreatDoor
