import Derived.Test.YtbdffcjganlblaaGreatDoorAGrAtoDsA
import Derived.Test.YtbdffcjganlblaaGreatDoorADsHtoDsH
import Derived.Test.YtbdffcjganlblaaGreatDoorARunFtoLawC
import Derived.Test.YtbdffcjganlblaaGreatDoorALawRtoEqvA
import Derived.Test.YtbdffcjganlblaaGreatDoorAEqvBtoPlA
import Derived.Lib.LaidTab
import Derived.MakeChecks
import Derived.Stop.LaidErr
import Derived.SizedLaws
set_option linter.unusedVariables false
set_option linter.unusedSimpArgs false
set_option maxRecDepth 100000
set_option maxHeartbeats 16000000
namespace Go.Proofs.YtbdffcjganlblaaGreatDoor
section
open Go.RowKit
section
variable {ts:List Tk} {ps:List Pr}
abbrev mostL (ts:List Tk):Nat:=wideJ (jsL ts) [] (cycI ts) (cycI ts)
theorem most_pos (h:SetR ts ps)(hw:0<wideL ts ps):0<mostL ts:=by
 obtain⟨h1,h2,h3,_⟩:=wide_pos hw;have hj:=jobs_of h.tok;have h4:=goes_of_flows hj hw (flows_of_goes h2 h3);rcases Nat.eq_zero_or_pos (mostL ts) with h0|h0
 .have:=wide_zero h0 (wideL ts ps) hw h1 h2;rw[this]at h4
  cases h4
 .exact h0
theorem why_six (h:SetR ts ps)(h0:mostL ts=0):whyJ (jsL ts) (cycI ts)=6:=by
 unfold whyJ;rw[if_neg];rw[wide_zero h0 1 (Nat.le_refl _) h.tok.c1 (Nat.mod_one _)];decide
theorem why_seven (h:SetR ts ps)(h0:0<mostL ts):whyJ (jsL ts) (cycI ts)=7:=by
 obtain⟨h1,h2,h3,_⟩:=wide_pos h0;unfold whyJ;rw[if_pos (goes_one (jobs_of h.tok) h2 (flows_of_goes h2 h3))]
theorem no_greedy (h:SetR ts ps)(hw:wideL ts ps=0):goesJ (jsL ts) ps (cycI ts) 1=false:=wide_zero hw 1 (Nat.le_refl _) h.tok.c1 (Nat.mod_one _)
theorem some_pair (hw:wideL ts ps=0)(h0:0<mostL ts):0<ps.length:=by
 cases ps with
 | nil=>have:wideL ts []=mostL ts:=rfl;omega
 | cons p r=>simp
end
structure KnM (w:World) (g:Nat) (ts:List Tk) (pa:Option Addr) (ps:List Pr):Prop where
 hg:g<w.heap.size
 t:RowT w g ts
 p:0<ps.length->∃gp,pa=some ⟨gp,0,none⟩/\gp<w.heap.size/\RowP w gp ps
theorem KnM.keep {w:World}{g:Nat}{ts:List Tk}{pa:Option Addr}{ps:List Pr}(h:KnM w g ts pa ps){w':World}(hb:Below w.heap.size w w'):KnM w' g ts pa ps:=
 ⟨Nat.lt_of_lt_of_le h.hg hb.size,h.t.below hb h.hg,fun h0=>by
  obtain⟨gp,e,h1,h2⟩:=h.p h0;exact⟨gp,e,Nat.lt_of_lt_of_le h1 hb.size,h2.below hb h1⟩⟩
def KnOut (ts:List Tk) (ps:List Pr) (w:World) (e:Ending) (w':World):Prop:=Below w.heap.size w w'/\∃g cap pa pc,e=.returned (.tuple #[.agg #[.slice (some ⟨g,0,none⟩) ts.length cap,.slice pa ps.length pc],.int .i64 0,.int .i64 0])/\KnM w' g ts pa ps
theorem known_ok (s:ByteArray)(w:World)(hm:s.size<=9223372036854775807){ts:List Tk}{ps:List Pr}(h:knownR s.data.toList=.ok (ts,ps))(h1:0<ts.length):Calls Tryz.prog 27 #[.string s] w (KnOut ts ps w):=by
 refine(rKnown_any s w hm).mono ?_;rintro e w' ⟨hb,hcase⟩;rcases hcase with⟨f,hf,_⟩|⟨ts2,ps2,tv,pv,hk,rfl,ht,hp⟩
 .rw[h]at hf;cases hf
 .rw[h]at hk;simp only[Except.ok.injEq,Prod.mk.injEq]at hk;obtain⟨rfl,rfl⟩:=hk;obtain⟨g,cap,rfl,g1,g2⟩:=own_form ht h1;obtain⟨pa,pc,rfl⟩:=own_slice hp;refine⟨hb,g,cap,pa,pc,rfl,g2,rowT_own ht,fun h0=>?_⟩;obtain⟨gp,cp,e,p1,p2⟩:=own_form hp h0;injection e with e1 _ e3;subst e1 e3;exact⟨gp,rfl,p2,rowP_own hp⟩
theorem known_no (s:ByteArray)(w:World)(hm:s.size<=9223372036854775807){f:Nat×Nat}(h:knownR s.data.toList=.error f):Calls Tryz.prog 27 #[.string s] w fun e w'=>e=.returned (.tuple #[.agg #[.slice none 0 0,.slice none 0 0],.int .i64 f.1,.int .i64 f.2])/\Below w.heap.size w w':=by
 refine(rKnown_any s w hm).mono ?_;rintro e w' ⟨hb,hcase⟩;rcases hcase with⟨f2,hf,rfl⟩|⟨ts2,ps2,tv,pv,hk,_⟩
 .rw[h]at hf
  cases hf
  exact⟨rfl,hb⟩
 .rw[h]at hk;cases hk
theorem compiles_one (s:ByteArray)(w:World)(hm:s.size<=9223372036854775807)(ht:T10 w):
  Calls Tryz.prog 61 #[.string s] w fun e w'=>e=.returned (.bool true)/\Below w.heap.size w w':=by
 have CP:=hide (planned_any s w hm ht);clear ht;go_enter Tryz.func61,Tryz.ntmps61;go_wp2_with fail;refine CP.out.mono ?_;clear CP;rintro e w1 ⟨hb1,hcase⟩;rcases hcase with⟨f,hf,rfl⟩|⟨ts,ps,gT,cT,hkn,hset,hwd,rfl,hrow,hg1,hg2⟩
 .have HB1:=hide (hb1.alloc hb1.size (.cells #[.int .i64 0,.int .i64 0,.slice none 0 0] 39));clear hb1;rcases hf with hf|⟨ts,ps,hkn,hset,hwd,rfl⟩
  .have hf0:¬(f.1:Int)=0:=by have:=known_err hf;omega
   have CK:=hide (fun W=>known_no s W hm hf);clear hf;go_wp2_with fail;refine(CK.out _).mono ?_;rintro e w2 ⟨rfl,hb2⟩;have HB2:=hide ((HB1.out.trans (hb2.mono HB1.out.size)).alloc (HB1.out.trans (hb2.mono HB1.out.size)).size (.cells #[.slice none 0 0,.slice none 0 0] 53));clear hb2 HB1 CK;go_wp2_with fail;go_ret;exact⟨rfl,HB2.out⟩
  .have CK:=hide (fun W=>known_ok s W hm hkn hset.n1);have HSet:=hide hset;have HWd:=hide hwd;have hy6:whyJ (jsL ts) (cycI ts)=6\/whyJ (jsL ts) (cycI ts)=7:=by
    unfold whyJ;split<;>simp
   have hw0:¬(whyJ (jsL ts) (cycI ts):Int)=0:=by omega
   have HW6:=hide (fun h=>why_six hset h);have HW7:=hide (fun h=>why_seven hset h);clear hkn hset hwd;generalize whyJ (jsL ts) (cycI ts)=wy at *;go_wp2_with fail;refine(CK.out _).mono ?_;rintro e w2 ⟨hb2,g,cap,pa,pc,rfl,hK⟩;have hb3:Below w.heap.size w (w2.alloc (.cells #[.slice (some ⟨g,0,none⟩) ts.length cap,.slice pa ps.length pc] 53)):=(HB1.out.trans (hb2.mono HB1.out.size)).alloc (HB1.out.trans (hb2.mono HB1.out.size)).size _;have HB3:=hide hb3;have HK3:=hide (hK.keep (zN w2 (.cells #[.slice (some ⟨g,0,none⟩) ts.length cap,.slice pa ps.length pc] 53)));have HS3:=hide (zW w2 #[.slice (some ⟨g,0,none⟩) ts.length cap,.slice pa ps.length pc] 53);clear hb2 hb3 hK HB1 CK;go_upto_region 5 with fail;generalize w2.alloc (.cells #[.slice (some ⟨g,0,none⟩) ts.length cap,.slice pa ps.length pc] 53)=w3 at *;generalize w2.heap.size=X at *;have s0:=zC HS3.out;have CW:=hide (rWidest_any ts (cycI ts) g cap pa ps.length pc w3 HK3.out.hg HK3.out.t HSet.out.tok.len HSet.out.tok rfl (set_jobs HSet.out));obtain⟨mo,hmo⟩:∃m,wideJ (zJ (cycI ts) 0 ts) [] (cycI ts) (cycI ts)=m:=⟨_,rfl⟩;have hmo':mostL ts=mo:=hmo;have hc60:=HSet.out.tok.c2;have hmoB:mo<=60:=by
    rcases Nat.eq_zero_or_pos (mostL ts) with h0|h0
    .omega
    .have h1:mostL ts<=cycI ts:=(wide_pos h0).1;omega
   rw[hmo]at CW;clear hmo;have HMo:=hide hmo';clear hmo';go_wp2_with fail;refine CW.out.mono ?_;rintro e w4 ⟨rfl,hb4⟩;have HB4:=hide (HB3.out.trans (hb4.mono HB3.out.size));have HK4:=hide (HK3.out.keep hb4);have HS4:=hide (zK HS3.out hb4);clear hb4 HB3 HK3 HS3 s0 CW;rcases Nat.eq_zero_or_pos mo with h0|h0
   .have e6:=HW6.out (HMo.out.trans h0);subst e6;subst h0;go_wp2_with fail;go_ret;exact⟨rfl,HB4.out⟩
   .have e7:=HW7.out (by rw[HMo.out];exact h0);subst e7;have h0':¬(mo:Int)=0:=by omega
    have s0:=zC HS4.out;have hp0:=some_pair HWd.out (by rw[HMo.out];exact h0);have hp0':(0:Int)<(ps.length:Int):=by omega
    have CG:=hide (rGreedy_any ts ps (cycI ts) g cap pa pc w4 HK4.out.hg HK4.out.t HSet.out.tok.len HSet.out.len HK4.out.p HSet.out.prs HSet.out.tok rfl (set_jobs HSet.out));have hng:=no_greedy HSet.out HWd.out;rw[hng]at CG;clear hng;go_wp2_with fail;refine CG.out.mono ?_;rintro e w5 ⟨rfl,hb5⟩;have HB5:=hide (HB4.out.trans (hb5.mono HB4.out.size));have s5:=zC (zK HS4.out hb5);clear hb5 HB4 HK4 HS4 s0 CG;go_wp2_with fail;go_ret;exact⟨rfl,HB5.out⟩
 .have CK:=hide (fun W=>known_ok s W hm hkn hset.n1);have HSet:=hide hset;have HWd:=hide hwd;have hb2:=hb1.alloc hb1.size (.cells #[.int .i64 (cycI ts),.int .i64 (wideL ts ps),.slice (some ⟨gT,0,none⟩) (flL ts ps).length cT] 39);have hbn:=zN w1 (.cells #[.int .i64 (cycI ts),.int .i64 (wideL ts ps),.slice (some ⟨gT,0,none⟩) (flL ts ps).length cT] 39);have HB2:=hide hb2;have HR2:=hide (hrow.below hbn hg1);have HT2:=hide (zW w1 #[.int .i64 (cycI ts),.int .i64 (wideL ts ps),.slice (some ⟨gT,0,none⟩) (flL ts ps).length cT] 39);have hg2':gT<(w1.alloc (.cells #[.int .i64 (cycI ts),.int .i64 (wideL ts ps),.slice (some ⟨gT,0,none⟩) (flL ts ps).length cT] 39)).heap.size:=Nat.lt_of_lt_of_le hg1 hbn.size;have hm0:=most_pos hset hwd;have HFr:Hid (ps.length=0->wideL ts ps=mostL ts):=fun h0=>by
   have:ps=[]:=List.length_eq_zero_iff.1 h0;rw[this]
  have HFl:=hide (set_flat hset hwd);have hS:=(tab_right hset hwd).1;have hll:(flL ts ps).length<=300:=Nat.le_trans (flat_len hS) (by have h5:(tabL ts ps).cyc<=60:=hS.c2;generalize (tabL ts ps).cyc=q at *;omega);have Hsm:Hid (∀i,i<(flL ts ps).length->(fsk (flL ts ps) i).small):=fun i hi=>(job_small hS i hi).2.2;have hF60:wideL ts ps<=60:=Nat.le_trans (wide_pos hwd).1 hset.tok.c2;have hc60:=hset.tok.c2;clear hkn hset hwd hb1 hb2 hbn hrow hg1 hS;have CKp:Hid (∀(W:World) (g cap:Nat) (pa:Option Addr) (pc:Nat),KnM W g ts pa ps->gT<W.heap.size->RowF W gT (flL ts ps)->Calls Tryz.prog 98 #[.agg #[.slice (some ⟨g,0,none⟩) ts.length cap,.slice pa ps.length pc],.agg #[.int .i64 (cycI ts),.int .i64 (wideL ts ps),.slice (some ⟨gT,0,none⟩) (flL ts ps).length cT]] W fun e w'=>e=.returned (.bool true)/\Below W.heap.size W w'):=fun W g cap pa pc hk hgT hrT=>by
   refine rKeeps_yes ts ps (cycI ts) g cap pa pc (wideL ts ps) (flL ts ps) gT cT W hk.hg hk.t HSet.out.tok.len HSet.out.len hk.p HSet.out.prs HSet.out.tok rfl (set_jobs HSet.out) hgT hrT hll Hsm.out hF60 (HFl.out.kept (jobs_of HSet.out.tok)) ?_ ?_
   .intro p hp hap a ha;obtain⟨i,j,P⟩:=HSet.out.prs p hp;rw[P.fa,Int.toNat_natCast]at ha;exact HFl.out.ord1 HSet.out.tok hp P hap ha
   .intro p hp hap a b ha hb;obtain⟨i,j,P⟩:=HSet.out.prs p hp;rw[P.fa,Int.toNat_natCast]at ha;rw[P.fb,Int.toNat_natCast]at hb;exact HFl.out.ord2 HSet.out.tok hp P hap ha hb
  clear HFl Hsm;have CWi:=hide (fun (W:World) (g cap:Nat) (pa:Option Addr) (pc:Nat) (hk:KnM W g ts pa ps)=>rWidest_any ts (cycI ts) g cap pa ps.length pc W hk.hg hk.t HSet.out.tok.len HSet.out.tok rfl (set_jobs HSet.out));obtain⟨mo,hmo⟩:∃m,wideJ (zJ (cycI ts) 0 ts) [] (cycI ts) (cycI ts)=m:=⟨_,rfl⟩;have hmo':mostL ts=mo:=hmo;rw[hmo]at CWi;rw[hmo']at hm0 HFr;have hmoB:mo<=60:=by
   have h1:mostL ts<=cycI ts:=(wide_pos (by rw[←hmo']at hm0;exact hm0)).1;omega
  clear hmo hmo';obtain⟨L,hL⟩:∃L,flL ts ps=L:=⟨_,rfl⟩;rw[hL]at CKp HR2 HT2 HB2 hg2' hll ⊢;clear hL;obtain⟨wd,hwe⟩:∃c,wideL ts ps=c:=⟨_,rfl⟩;rw[hwe]at CKp HR2 HT2 HB2 hg2' HFr hF60 HWd ⊢;clear hwe;obtain⟨cy,hcy⟩:∃c,cycI ts=c:=⟨_,rfl⟩;rw[hcy]at CKp HR2 HT2 HB2 hg2' hc60 ⊢;clear hcy;go_wp2_with fail;generalize w1.alloc (.cells #[.int .i64 cy,.int .i64 wd,.slice (some ⟨gT,0,none⟩) L.length cT] 39)=w2 at *;generalize w1.heap.size=XT at *;refine(CK.out w2).mono ?_;rintro e w3 ⟨hb3,g,cap,pa,pc,rfl,hK⟩;have hb4:Below w2.heap.size w2 (w3.alloc (.cells #[.slice (some ⟨g,0,none⟩) ts.length cap,.slice pa ps.length pc] 53)):=hb3.alloc hb3.size _;have HB4:=hide (HB2.out.trans (hb4.mono HB2.out.size));have HK4:=hide (hK.keep (zN w3 (.cells #[.slice (some ⟨g,0,none⟩) ts.length cap,.slice pa ps.length pc] 53)));have HS4:=hide (zW w3 #[.slice (some ⟨g,0,none⟩) ts.length cap,.slice pa ps.length pc] 53);have HT4:=hide (zK HT2.out hb4);have HR4:=hide (HR2.out.below hb4 hg2');have hg4:=Nat.lt_of_lt_of_le hg2' hb4.size;clear hb3 hb4 hK HB2 HT2 HR2 hg2' CK;go_upto_region 5 with fail;generalize w3.alloc (.cells #[.slice (some ⟨g,0,none⟩) ts.length cap,.slice pa ps.length pc] 53)=w4 at *;generalize w3.heap.size=X at *;have s0:=zC HS4.out;go_wp2_with fail;refine(CWi.out w4 g cap pa pc HK4.out).mono ?_;rintro e w5 ⟨rfl,hb5⟩;have HB5:=hide (HB4.out.trans (hb5.mono HB4.out.size));have HK5:=hide (HK4.out.keep hb5);have HS5:=hide (zK HS4.out hb5);have HT5:=hide (zK HT4.out hb5);have HR5:=hide (HR4.out.below hb5 hg4);have hg5:=Nat.lt_of_lt_of_le hg4 hb5.size;clear hb5 HB4 HK4 HS4 HT4 HR4 hg4 s0 CWi;have h0':¬(mo:Int)=0:=by omega
  have s5:=zC HS5.out;have t5:=zC HT5.out;go_wp2_with fail;refine(CKp.out w5 g cap pa pc HK5.out hg5 HR5.out).mono ?_;rintro e w6 ⟨rfl,hb6⟩;have HB6:=hide (HB5.out.trans (hb6.mono HB5.out.size));have s6:=zC (zK HS5.out hb6);have t6:=zC (zK HT5.out hb6);clear hb6 HB5 HK5 HS5 HT5 HR5 hg5 CKp s5 t5;by_cases hp0:0<ps.length
  .have hp0':(0:Int)<(ps.length:Int):=by omega
   go_wp2_with fail;go_ret;exact⟨rfl,HB6.out⟩
  .have hp0':¬(0:Int)<(ps.length:Int):=by omega
   have hwm:wd=mo:=HFr.out (by omega);subst hwm;go_wp2_with fail;go_ret;exact⟨rfl,HB6.out⟩
theorem plays_compiles (s:ByteArray)(A B C:Int)(L:Value)(w:World)(hm:s.size<=9223372036854775807)(ht:T10 w):
  Calls Tryz.prog 29 #[.agg #[.int .i64 4,.int .i64 A,.int .i64 B,.int .i64 C,.string s,L]] w fun e w'=>e=.returned (.bool true)/\Below w.heap.size w w':=by
 have hB:=hide (zN w (.cells #[.int .i64 4,.int .i64 A,.int .i64 B,.int .i64 C,.string s,L] 27));have Ht:=hide (ht.below hB.out);clear ht;go_enter Tryz.func29,Tryz.ntmps29;go_wp2_with fail;refine(compiles_one s _ hm Ht.out).mono ?_;rintro e w1 ⟨rfl,hb1⟩;have HB1:=hide (hB.out.trans (hb1.mono (by simp)));clear hb1 hB Ht;go_wp2;go_ret;exact⟨rfl,HB1.out⟩
theorem plays_all (K:Int)(s:ByteArray)(A B C:Int)(la:Option Addr)(lc:Nat)(cs:List Int)(w:World)(h1:1<=K)(h2:K<=5)(hm:s.size<=9223372036854775807)(ht:T10 w)(hca:CostsAt w la cs)(hcl:cs.length*8<=140737488351232):
  Calls Tryz.prog 29 #[.agg #[.int .i64 K,.int .i64 A,.int .i64 B,.int .i64 C,.string s,.slice la cs.length lc]] w fun e w'=>e=.returned (.bool true)/\Below w.heap.size w w':=by
 have hK:K=1\/K=2\/K=3\/K=4\/K=5:=by omega
 rcases hK with rfl|rfl|rfl|rfl|rfl
 .exact plays_print s A B C _ w hm
 .exact plays_writes s A B C _ w hm ht
 .exact plays_reads s A B C _ w hm ht
 .exact plays_compiles s A B C _ w hm ht
 .exact plays_runs s A B C la lc cs w hm ht hca hcl
theorem upTo_all (b off len cap:Nat)(w:World)(hl:len<=cap)(hc:cap<=9223372036854775807)(hb:b<w.heap.size)(ht:T10 w)(hr:∀k,k<len->OpL w b off k):
  Calls Tryz.prog 13 #[.slice (some ⟨b,off,none⟩) len cap,.int .i64 1,.int .i64 5] w fun e w'=>e=.returned (.int .i64 (-1))/\Below w.heap.size w w':=by
 have Hr:=hide hr;have Ht:=hide ht;clear hr ht;go_enter Tryz.func13,Tryz.ntmps13;go_wp2
 go_loopw [7] (fun i wr=>∃k:Nat,k<=len/\i=.int .i64 k/\Below w.heap.size w wr) (fun i _=>len-(intOf i).toNat)
 case atStart=>exact⟨0,by omega,rfl,Below.refl _ _⟩
 case round=>
  obtain⟨k,hk,rfl,hbw⟩:=hrel;have Hb:=hide hbw;have hsz:=hbw.size;have hbw':b<wr.heap.size:=by omega
  have hex:¬((k:Int)<len)\/((k:Int)<len/\¬((k:Int)<1152921504606846976))\/((k:Int)<len/\(k:Int)<1152921504606846976):=by omega
  rcases hex with hlt' | ⟨hlt',hk60⟩|⟨hlt',hk60⟩
  .clear hbw;go_wp2;go_ret;exact⟨rfl,Hb.out⟩
  .clear hbw;go_wp2;go_ret;exact⟨rfl,Hb.out⟩
  .obtain⟨K,A,B,C,s,la,lc,cs,r0,r1,r2,r3,r4,r5,hs,hca,hcl⟩:=Hr.out k (by omega);have e:∀o,wr.cell? ⟨b,o,none⟩=w.cell? ⟨b,o,none⟩:=fun o=>hbw.cell (p:=⟨b,o,none⟩) hb;rw[←e]at r0 r1 r2 r3 r4 r5;have hB1:=hide (hbw.alloc hbw.size (.cells #[.int .i64 K,.int .i64 A,.int .i64 B,.int .i64 C,.string s,.slice la cs.length lc] 27));have Ht1:=hide (Ht.out.below hB1.out);have Hca1:=hide (hca.below hB1.out);clear e hbw hca;have hcs:(1<=K/\K<=5)\/¬(1<=K)\/(1<=K/\¬(K<=5)):=by omega
   rcases hcs with⟨h1,h2⟩|h1|⟨h1,h2⟩
   .go_wp2_with fail;refine(plays_all K s A B C la lc cs _ h1 h2 hs Ht1.out Hca1.out hcl).mono ?_;rintro e w1 ⟨rfl,hb1⟩;have HB:=hide (hB1.out.trans (hb1.mono (by simp;omega)));clear hb1 r0 r1 r2 r3 r4 r5 Hca1;have hnot:∀(x:Bool) (w:World),(Op.unary .not (.bool x)).run Tryz.prog w=.ok (.bool (!x)) w:=fun _ _=>rfl;go_wp2;go_roundw
    case rel=>exact⟨k+1,by omega,by go_num,HB.out⟩
    case measure=>simp[intOf];omega
   .go_wp2;go_roundw
    case rel=>exact⟨k+1,by omega,by go_num,hB1.out⟩
    case measure=>simp[intOf];omega
   .go_wp2;go_roundw
    case rel=>exact⟨k+1,by omega,by go_num,hB1.out⟩
    case measure=>simp[intOf];omega
theorem all_any (b off len cap:Nat)(w:World)(hl:len<=cap)(hc:cap<=9223372036854775807)(hb:b<w.heap.size)(ht:T10 w)(hr:∀k,k<len->OpL w b off k):
  Calls Tryz.prog 12 #[.slice (some ⟨b,off,none⟩) len cap] w fun e w'=>e=.returned (.bool true)/\Below w.heap.size w w':=by
 have H:=hide (upTo_all b off len cap w hl hc hb ht hr);clear ht hr;go_enter Tryz.func12,Tryz.ntmps12;go_wp2_with fail;refine H.out.mono ?_;rintro e w1 ⟨rfl,hb1⟩;have HB:=hide hb1;clear hb1 H;go_wp2;go_ret;exact⟨rfl,HB.out⟩
theorem upTo_all_empty (a:Option Addr)(cap:Nat)(w:World):
  Calls Tryz.prog 13 #[.slice a 0 cap,.int .i64 1,.int .i64 5] w fun e w'=>e=.returned (.int .i64 (-1))/\Below w.heap.size w w':=by
 go_enter Tryz.func13,Tryz.ntmps13;go_wp2
 go_loopw [7] (fun i wr=>i=.int .i64 0/\Below w.heap.size w wr) (fun _ _=>0)
 case atStart=>exact⟨rfl,Below.refl _ _⟩
 case round=>
  obtain⟨rfl,hbw⟩:=hrel;have Hb:=hide hbw;clear hbw;go_wp2;go_ret;exact⟨rfl,Hb.out⟩
theorem all_empty (a:Option Addr)(cap:Nat)(w:World):
  Calls Tryz.prog 12 #[.slice a 0 cap] w fun e w'=>e=.returned (.bool true)/\Below w.heap.size w w':=by
 go_enter Tryz.func12,Tryz.ntmps12;go_wp2_with fail;refine(upTo_all_empty a cap w).mono ?_;rintro e w1 ⟨rfl,hb1⟩;have HB:=hide hb1;clear hb1;go_wp2;go_ret;exact⟨rfl,HB.out⟩
end
section
open Go.ChangeShapes Go.WideShapes Go.ChangeAt Go.RowKit Go.Deep
theorem door_met_all (os:Os)(args:Array Value):laidMetH Tryz.prog Rows.allRow.laid ((World.doorLaid Tryz.prog 4000 os).forCall (fun _ _=>0) ⟨#[],args,[]⟩).memory:=
 laidMetH_of_parts3 (fuel:=8) (laidMet_of_run' 8 (by kernel_rfl) (by kernel_rfl)) (by kernel_rfl) (by kernel_rfl)
theorem tab_of_all {W:World}(h:laidMetH Tryz.prog Rows.allRow.laid W):T10 W:=by
 rw[MakeChecks.laidMetH_plain _ _ _ (by kernel_rfl)]at h;have h3:laidMet Tryz.prog (("internal/strconv.uint64pow10",Lib.tabData .u64 Lib.pow10Tab)::[("strconv.ErrRange",Rows.laid_strconv_ErrRange),("strconv.ErrSyntax",Rows.laid_strconv_ErrSyntax)]) W:=h.tail.tail;exact Lib.tabIs_of_head (g:=0) (by kernel_rfl) (by kernel_rfl) Tryz.underlying238 Tryz.underlying212 (by kernel_rfl) (by kernel_rfl) h3
theorem lifted_all (os:Os)(started:os.Started)(H:Type)(enc:TypeId×Value->H):
  ReturnsInHanded {} Tryz.checked os 12 .any (fun w args=>(Rows.allSpec.pre enc Tryz.prog Tryz.f12 [] false w args/\laidMetH Tryz.prog Rows.allRow.laid w)/\sizedMet enc Tryz.prog Tryz.f12 (OpenSpec.ofChange Rows.allSpec) false w args)
   (Rows.allSpec.post enc Tryz.prog Tryz.f12 false true false false):=by
 refine returnsInHanded_of_change_and (C:=Tryz.checked) (X:=fun w _=>laidMetH Tryz.prog Rows.allRow.laid w) (fun _ _ _ hh h=>h.of_heap hh) own started (by kernel_rfl) Tryz.func12
  (ChangeSpec.witness_shaped (enc:=enc) (C:=Tryz.checked) (os:=os) (X:=fun w _=>laidMetH Tryz.prog Rows.allRow.laid w) false (World.doorLaid Tryz.prog 4000 os) #[.slice none 0 0] 8 rfl (World.shaped_of_RefB (by kernel_rfl) (by kernel_rfl)) (by kernel_rfl) (by kernel_rfl) (by kernel_rfl) (door_met_all os _)) ?_
 intro W base args ds gs before hval0 hW _ hsz hL _;have hval:∀(j:Nat) t v,Tryz.f12.params[j]? =some t->args[j]? =some v->Value.okWide Tryz.prog W .any base t v:=hval0;have hW':=hW;obtain⟨p,q,hA0,hV,rfl,hfz,hnd⟩:=hW;have hA:DataW.TrodAll enc Tryz.prog W 0 (fun _=>true) true Tryz.f12.params.toList args.toList ds p:=hA0;rw[Tryz.params12]at hA hval;obtain⟨v0,d0,rfl,rfl,h0⟩:=trodAll_one hA;obtain⟨rfl,rfl⟩:=trodVars_none hV;have h0k:=h0;obtain⟨fuel,hf⟩:=h0;have hT:=tab_of_all hL;clear hA0 hval0 hL;simp only[List.append_nil]at hW';have hlt:∀x∈p,x.block<W.heap.size:=fun x hx=>by simpa using hW'.lt x hx
 obtain⟨a0,len,cap,rfl⟩:=okWide_slice Tryz.underlying22 (hval 0 22 v0 rfl rfl);have walk:Calls Tryz.prog 12 #[.slice a0 len cap] W fun e w'=>e=.returned (.bool true)/\Below W.heap.size W w':=by
  rcases open_slice Tryz.underlying22 hf with⟨hcs,_⟩|⟨a,len',cap',m,n,D,Pl,hcs,_,hl,hm,hmm,hdd,hel⟩
  .simp[Value.cells]at hcs;obtain⟨rfl,rfl,rfl⟩:=hcs;exact all_empty none 0 W
  .simp[Value.cells]at hcs;obtain⟨rfl,rfl,rfl⟩:=hcs;simp only[if_true]at hmm;subst hmm;by_cases h0:len=0
   .subst h0;exact all_empty _ _ W
   .obtain⟨b,off,spot⟩:=a;rw[cellsOp]at hel;obtain⟨cs0,hc0,_⟩:=hel 0 (by omega);obtain⟨_,hlen0,hcell0⟩:=World.cells?_some hc0;have c0raw:=hcell0 0 (by omega);rw[List.getElem?_eq_getElem (by omega)]at c0raw;have hspot:spot=none:=by simpa [Addr.add] using World.cell?_spot c0raw
    subst hspot;have hb:b<W.heap.size:=by
     have h1:((⟨b,off,none⟩:Addr).add (0*6)).add 0=⟨b,off,none⟩:=by simp[Addr.add]
     rw[h1]at c0raw;exact lt_of_cell c0raw rfl
    refine all_any b off len _ W hl (by simpa [maxLen] using hm) hb hT ?_;intro k hk;obtain⟨cs,hc,ht⟩:=hel k (by omega);refine opL_of hc ht (fun n hn=>?_);obtain⟨sp,hd0⟩:∃sp,d0=.slice ((List.range len).map D) sp:=⟨_,congrArg Prod.fst hdd⟩;have hm2:n∈DataW.weights Tryz.prog 22 d0:=by
     rw[hd0];simp only[DataW.weights,Tryz.underlying22];exact List.mem_cons_of_mem _ (List.mem_append_left _ (weights_all (List.mem_map.2 ⟨k,List.mem_range.2 hk,rfl⟩) hn))
    simpa using List.all_eq_true.1 hsz n (DataW.weights_mem_each (j:=0) (t:=22) (d:=d0) rfl rfl n hm2)
 refine walk.mono fun e W' ⟨he,hb⟩=>?_;subst he;exact⟨_,rfl,⟨_,_,_,[],_,[],hW',trodAll_mk1 (shut_bool Tryz.underlying4 true),trodAll_mk1 (Below.trod laidOut (by kernel_rfl) (of_decide_eq_true (by kernel_rfl)) h0k hb hlt),rfl,hb.frame _,fun h=>by cases h⟩⟩
theorem all_holds:Rows.AllSaid:=
 OpenClaim.holds_of_wide 12 Tryz.f12 rfl rfl rfl rfl rfl rfl rfl ⟨rfl,rfl,rfl,rfl,rfl⟩ rfl rfl rfl rfl rfl (by kernel_rfl) Tryz.func12 (by kernel_rfl)
  (of_decide_eq_true (by kernel_rfl)) (by unfold Func.isWrapper;first|(rw[if_pos (by decide +kernel)];kernel_rfl)|(rw[if_neg (by decide +kernel)];exact⟨rfl,rfl⟩))
  (fun os started H enc _=>lifted_all os started H enc)
end
end Go.Proofs.YtbdffcjganlblaaGreatDoor
