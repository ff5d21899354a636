import Derived.Test.YtbdffcjganlblaaGreatDoorAPrBtoPrD
import Derived.Test.YtbdffcjganlblaaGreatDoorATbEtoTbF
import Derived.Deep.DeepCutAuto
import Derived.Test.YtbdffcjganlblaaGreatDoorATbAtoTbD
import Derived.Test.YtbdffcjganlblaaGreatDoorATabBtoRefQ
set_option linter.unusedVariables false
set_option linter.unusedSimpArgs false
set_option maxRecDepth 100000
set_option maxHeartbeats 16000000
namespace Go.Proofs.YtbdffcjganlblaaGreatDoor
section
open Go.RowKit Go.Maps
theorem Tryz.infoJR:(Tryz.prog.info? 122).map (fun i=>(i.zero,i.size,i.bytes))=some (some (.pointer none),1,8):=by kernel_rfl
def nilsA (c:Nat):Array Value:=madeCells (Value.pointer none).cells c
theorem nilsA_at (c j:Nat)(h:j<c):(nilsA c)[j]? =some (.pointer none):=by
 simp[nilsA,madeCells,h,Value.cells,Nat.mod_one]
theorem make_jobs (c:Nat)(hc:c<=1000)(w:World):(Instr.makeSlice 119 (.int .i64 c) (.int .i64 c)).run Tryz.prog w=.ok (.slice (some ⟨w.heap.size,0,none⟩) c c) (w.alloc (.cells (nilsA c) 122)):=by
 obtain⟨i0,hi,hz0,hz1,hz2⟩:=info_parts Tryz.infoJR;have:=run_make (P:=Tryz.prog) w 119 122 i0 _ Tryz.underlying119 hi hz0 .i64 .i64 c c (by omega) (by omega) (by rw[hz2];omega) (by omega);rw[hz1]at this;simpa [nilsA] using this
theorem UX.start (w:World)(tv:Array Value)(cyc fr:Nat)(l:List FSl):UX w (((w.alloc (.cells tv 61)).alloc (.cells (nilsA cyc) 122)).alloc (.map #[] 0)) tv cyc fr l 0 0 0 0 []:=by
 have h0:=zW w tv 61;have h1:=zW (w.alloc (.cells tv 61)) (nilsA cyc) 122;simp only[World.size_alloc]at h1;have b1:=zN (w.alloc (.cells tv 61)) (.cells (nilsA cyc) 122);have b2:=zN ((w.alloc (.cells tv 61)).alloc (.cells (nilsA cyc) 122)) (.map #[] 0);have hm:=KMap.made ((w.alloc (.cells tv 61)).alloc (.cells (nilsA cyc) 122));simp only[World.size_alloc]at hm;refine⟨zK (zK h0 b1) b2,⟨nilsA cyc,zK h1 b2,fun u hu=>?_⟩,hm,fun k hk=>by simp at hk,fun a b ha=>by simp at ha,rfl,Nat.zero_le _,((zN w _).alloc (by simp) _).alloc (by simp;omega) _⟩;rw[nilsA_at cyc u hu];unfold uvV;simp only[atTo];rw[if_neg (by omega)]
theorem eq_nil (o:Option Addr)(w:World):(binOp .eql 122 (.pointer o) (.pointer none)).run Tryz.prog w=.ok (.bool (o==none)) w:=by
 have h:∀d:Nat,(Op.equalIn (d+1) 122 (.pointer o) (.pointer none)).run Tryz.prog w=.ok (o==none) w:=fun d=>by
  cases o<;>simp[Op.equalIn,run_underlying Tryz.underlying122,sizeOf,typeInfo]
 simp only[binOp];simp[Op.equal,Op.maxDepth,h 9999]
theorem hadK_small {t:Tb}(h:Sound t)(k q:Nat)(hq:q<=(zX 0 t.fs).length):hadK (zX 0 t.fs) k q<=599940:=by
 have:=spotTo_cost (fun i hi=>(job_small h i hi).2.2) (fsk (zX 0 t.fs) (jobI (zX 0 t.fs) k)).2.nm (fsk (zX 0 t.fs) (jobI (zX 0 t.fs) k)).2.job q hq;have h2:=flat_len h;have h3:q*9999<=60*9999:=Nat.mul_le_mul_right _ (by omega);unfold hadK;omega
theorem units_any (t:Tb)(a:Option Addr)(cc:Nat)(w:World)(hr:FvA w a t.fs)(hS:Sound t):
  Calls Tryz.prog 75 #[.agg #[.int .i64 t.cyc,.int .i64 t.fr,.slice a t.fs.length cc]] w fun e w'=>∃P,e=.returned (.slice (some ⟨w.heap.size+1,0,none⟩) t.cyc t.cyc)/\UX w w' #[.int .i64 t.cyc,.int .i64 t.fr,.slice a t.fs.length cc] t.cyc t.fr (zX 0 t.fs) (zX 0 t.fs).length 0 (zX 0 t.fs).length (zX 0 t.fs).length P:=by
 obtain⟨f1,f2,n1,n2,_⟩:=hS.frames;have hc1:=hS.c1;have hc2:=hS.c2;have hll:=flat_len hS;have hG:=hide (goes_of_sound hS);have Hsm:=hide (job_small hS);have Hbl:=hide (fun j (hj:j<t.fs.length)=>base_le hj);have Hhad:=hide (fun k q hq=>hadK_small hS k q hq);have H0:=hide (UX.start w #[.int .i64 t.cyc,.int .i64 t.fr,.slice a t.fs.length cc] t.cyc t.fr (zX 0 t.fs));have hmk:=make_jobs t.cyc (by omega);have hmm:=@run_makeMap Tryz.prog;have Hr:=hide hr;have Hba:=hide (base_all t.fs);have HJs:Hid (∀i,i<(zX 0 t.fs).length->(fsk (zX 0 t.fs) i).2.job<=9999):=fun i hi=>(Hsm.out i hi).1;clear hr hS;go_enter Tryz.func75,Tryz.ntmps75;go_wp2_with fail;clear hmk hmm
 go_loopw [18] (fun i wr=>∃(j:Nat) (P:List Nat),j<=t.fs.length/\i=.int .i64 j/\UX w wr #[.int .i64 t.cyc,.int .i64 t.fr,.slice a t.fs.length cc] t.cyc t.fr (zX 0 t.fs) (baseJ t.fs j) 0 (baseJ t.fs j) (baseJ t.fs j) P) (fun i _=>200-(intOf i).toNat)
 case atStart=>exact⟨0,[],by omega,rfl,by rw[base_zero];exact H0.out⟩
 case round=>
  clear H0;obtain⟨j,P,hj,rfl,hU⟩:=hrel;by_cases hlt:j<t.fs.length
  .have hlt':(j:Int)<t.fs.length:=by omega
   obtain⟨g,rfl,hg,hF⟩:=Hr.out (by omega);obtain⟨fa,fc,hfc0,hfa⟩:=hF j hlt;have hfc:=(hU.bel.cell (p:=⟨g,j,none⟩) hg).trans hfc0;have x:=zC hU.hx;have hbl:=Hbl.out j hlt;have hjf:j*t.fr<=3600:=Nat.le_trans (Nat.mul_le_mul (show j<=60 by omega) f2) (by omega);have hmul:((j:Int)*(t.fr:Int))=((j*t.fr:Nat):Int):=by rw[Int.natCast_mul]
   have hm1:0<=(j:Int)*(t.fr:Int):=by omega
   have hm2:(j:Int)*(t.fr:Int)<=3600:=by omega
   have Hmul:Hid (Value.int .i64 ((j:Int)*(t.fr:Int))=.int .i64 (atK t.fs t.fr j 0)):=by unfold Hid;rw[hmul,atK_zero (by omega)]
   have HFA:=hide hfa;have HU:=hide hU;have hsz:=hU.bel.size;clear hfc0 hF hU hfa hmul;go_wp2_with fail
   go_loopw [7,29] (fun av i wr=>∃(k:Nat) (P:List Nat),k<=(frk t.fs j).length/\i=.int .i64 k/\av=.int .i64 (atK t.fs t.fr j k)/\UX w wr #[.int .i64 t.cyc,.int .i64 t.fr,.slice (some ⟨g,0,none⟩) t.fs.length cc] t.cyc t.fr (zX 0 t.fs) (baseJ t.fs j+k) 0 (baseJ t.fs j+k) (baseJ t.fs j+k) P) (fun _ i _=>200-(intOf i).toNat)
   case atStart=>exact⟨0,P,by omega,rfl,Hmul.out,HU.out⟩
   case round=>
    clear HU x hfc hsz;obtain⟨k,P,hk,rfl,rfl,hU⟩:=hrel;by_cases hkl:k<(frk t.fs j).length
    .have hkl':(k:Int)<(frk t.fs j).length:=by omega
     obtain⟨gf,rfl,hgf,hrow⟩:=HFA.out (by omega);obtain⟨r0,r1,r2⟩:=hrow.below hU.bel hgf k hkl;have hq:baseJ t.fs j+k<(zX 0 t.fs).length:=by omega
     have hfq:=flat_at hlt hkl;have hst:=atK_start (fr:=t.fr) hlt hkl;have hnx:=atK_next (fr:=t.fr) hlt hkl;have hsm:=Hsm.out _ hq;rw[hfq]at hsm;obtain⟨hjb,hbd,_⟩:=hsm;have hfin:=hG.out.fin_cyc hq;unfold stopI at hfin;rw[hst,hfq]at hfin;simp only at hjb hbd hfin;have HU:=hide hU;have hsz:=hU.bel.size;have Hnx:=hide hnx;have Hst:=hide hst;have Hfq:=hide hfq;clear hU hrow hnx hst hfq;generalize hQ:baseJ t.fs j+k=q at *;have HQ:=hide hQ;clear hQ;generalize hY:slk (frk t.fs j) k=y at *;clear hY;generalize hT:atK t.fs t.fr j k=T at *;clear hT;obtain⟨o,hlook,ho⟩:∃o:Option Addr,(Instr.lookup 162 (.map (some (w.heap.size+1+1))) (.agg #[.int .u8 y.nm.toNat,.int .i64 y.job]) false).run Tryz.prog ((wr.alloc (.cells #[.int .u8 y.nm.toNat,.int .i64 y.job,.int .i64 y.bud] 106)).alloc (.cells #[.int .u8 y.nm.toNat,.int .i64 y.job] 164))=.ok (.pointer o) ((wr.alloc (.cells #[.int .u8 y.nm.toNat,.int .i64 y.job,.int .i64 y.bud] 106)).alloc (.cells #[.int .u8 y.nm.toNat,.int .i64 y.job] 164))/\
       Hid ((o=none/\jobI (zX 0 t.fs) (zM (zX 0 t.fs) q)=q)\/(o≠none/\jobI (zX 0 t.fs) (zM (zX 0 t.fs) q)≠q)):=by
      have h2:=(HU.out.keep (zN wr (.cells #[.int .u8 y.nm.toNat,.int .i64 y.job,.int .i64 y.bud] 106))).keep (zN _ (.cells #[.int .u8 y.nm.toNat,.int .i64 y.job] 164));by_cases hf:jobI (zX 0 t.fs) (zM (zX 0 t.fs) q)=q
      .have:=(h2.look_none HJs.out hq rfl hf).1;rw[Hfq.out]at this;exact⟨none,this,.inl ⟨rfl,hf⟩⟩
      .have h3:=h2.old hq hf;have:=h3.look_some HJs.out hq h3.job.1;rw[Hfq.out]at this;exact⟨_,this,.inr ⟨by simp,hf⟩⟩
     have hnil:=eq_nil o;have hMw:=HU.out.hm.lt;go_upto_if 41 with(first|(at_lookup;refine wpList_look_at _ rfl _ _ _ rfl _ _ _ rfl rfl hlook ?_)|fail)
     go_cut [7] (fun av wc=>av=.int .i64 T/\wc.heap[wr.heap.size]? =some (.cells #[.int .u8 y.nm.toNat,.int .i64 y.job,.int .i64 y.bud] 106 (0,0))/\wc.heap[wr.heap.size+1]? =some (.cells #[.int .u8 y.nm.toNat,.int .i64 y.job] 164 (0,0))/\∃P',UX w wc #[.int .i64 t.cyc,.int .i64 t.fr,.slice (some ⟨g,0,none⟩) t.fs.length cc] t.cyc t.fr (zX 0 t.fs) q 0 (q+1) q P')
     case first=>
      have hU2:=(HU.out.keep (zN wr (.cells #[.int .u8 y.nm.toNat,.int .i64 y.job,.int .i64 y.bud] 106))).keep (zN _ (.cells #[.int .u8 y.nm.toNat,.int .i64 y.job] 164));have s1:=zK (zW wr #[.int .u8 y.nm.toNat,.int .i64 y.job,.int .i64 y.bud] 106) (zN _ (.cells #[.int .u8 y.nm.toNat,.int .i64 y.job] 164));have s2:=zW (wr.alloc (.cells #[.int .u8 y.nm.toNat,.int .i64 y.job,.int .i64 y.bud] 106)) #[.int .u8 y.nm.toNat,.int .i64 y.job] 164;have c10:=zC s2 0;have c11:=zC s2 1;have c00:=zC s1 0;simp only[World.size_alloc]at s2 c10 c11;have S1:=hide s1;have S2:=hide s2;have HU2:=hide hU2;clear hlook hnil s1 s2 hU2 HU r0 r1 r2;rcases ho.out with⟨rfl,hf⟩|⟨hne,hf⟩
      .obtain⟨w3,hrun,hU3,hg3⟩:=UX.new hG.out HU2.out HJs.out (by omega) hq hf;rw[Hfq.out]at hrun hg3;have HU3:=hide hU3;have HG3:=hide hg3;have hrun':(Instr.mapUpdate 162 (.map (some (w.heap.size+1+1))) (.agg #[.int .u8 y.nm.toNat,.int .i64 y.job]) (.pointer (some ⟨wr.heap.size+1+1,0,none⟩))).run Tryz.prog (((wr.alloc (.cells #[.int .u8 y.nm.toNat,.int .i64 y.job,.int .i64 y.bud] 106)).alloc (.cells #[.int .u8 y.nm.toNat,.int .i64 y.job] 164)).alloc (.cells #[.int .u8 y.nm.toNat,.int .i64 0,.int .i64 0,.int .i64 0] 166))=.ok () w3:=by
        simp only[World.size_alloc]at hrun;exact hrun
       have hM:=HU2.out.hm.lt;clear hrun hU3 hg3 ho hf;go_wp2_with (first|(at_mapUpdate;refine wpList_store_at _ rfl _ _ _ _ rfl _ _ _ rfl rfl rfl w3 hrun' ?_)|fail)
       go_meet
       case rel=>
        refine⟨rfl,?_,?_,_,HU3.out⟩
        .rw[HG3.out.block wr.heap.size (by simp;omega) (fun e=>by injection e with e;omega),Below.heap_alloc _ _ _ (by simp;omega)];exact S1.out
        .rw[HG3.out.block (wr.heap.size+1) (by simp) (fun e=>by injection e with e;omega),Below.heap_alloc _ _ _ (by simp)];exact S2.out
      .obtain⟨ad,rfl⟩:=Option.ne_none_iff_exists'.1 hne;have HU3:=hide (HU2.out.old hq hf);clear ho hf hne;go_wp2_with fail
       go_meet
       case rel=>exact⟨rfl,S1.out,S2.out,_,HU3.out⟩
     case rest=>
      clear hlook hnil ho HU r0 r1 r2 hsz;obtain⟨rfl,s1,s2,P',hU⟩:=hcut;generalize wr.heap.size=S0 at *;obtain⟨hk1,hk2,hk3⟩:=hU.job;have hlk:=hU.look_some HJs.out hq hk1;rw[Hfq.out]at hlk;have hl1:(Instr.lookup 162 (.map (some (w.heap.size+1+1))) (.agg #[.int .u8 y.nm.toNat,.int .i64 y.job]) false).run Tryz.prog wc.drew=.ok (.pointer (some ⟨P'.getD (zM (zX 0 t.fs) q) 0,0,none⟩)) wc.drew:=by
       have h0:UX w wc.drew #[.int .i64 t.cyc,.int .i64 t.fr,.slice (some ⟨g,0,none⟩) t.fs.length cc] t.cyc t.fr (zX 0 t.fs) q 0 (q+1) q P':=⟨hU.hx,hU.hu,hU.hm,hU.hj,hU.inj,hU.pl,hU.kl,hU.bel.drew⟩;have:=h0.look_some HJs.out hq hk1;rw[Hfq.out]at this;exact this
      have c02:=zC s1 2;have c10:=zC s2 0;have c11:=zC s2 1;have j1:wc.cell? ⟨P'.getD (zM (zX 0 t.fs) q) 0,1,none⟩=some (.int .i64 (hadK (zX 0 t.fs) (zM (zX 0 t.fs) q) q)):=by rw[zC hk3];rfl
      have jf:=zF hk3;have hhb:=Hhad.out (zM (zX 0 t.fs) q) q (by omega);have hUb:=hU.bud hq;rw[Hfq.out]at hUb;simp only at hUb;have e0:((hadK (zX 0 t.fs) (zM (zX 0 t.fs) q) q+y.bud:Nat):Int)=(hadK (zX 0 t.fs) (zM (zX 0 t.fs) q) q:Int)+y.bud:=by omega
      rw[e0]at hUb;have HUb:=hide hUb;have hKJ:S0+1≠P'.getD (zM (zX 0 t.fs) q) 0:=by
       intro e;rw[←e,s2]at hk3;simp at hk3
      have S2:Hid ((wc.setCell ⟨P'.getD (zM (zX 0 t.fs) q) 0,1,none⟩ (.int .i64 ((hadK (zX 0 t.fs) (zM (zX 0 t.fs) q) q:Int)+y.bud))).heap[S0+1]? =some (.cells #[.int .u8 y.nm.toNat,.int .i64 y.job] 164 (0,0))):=by
       unfold Hid;rw[Below.heap_setCell _ _ _ _ hKJ];exact s2
      have hSJ:S0≠P'.getD (zM (zX 0 t.fs) q) 0:=by
       intro e;rw[←e,s1]at hk3;simp at hk3
      have hSJ2:¬P'.getD (zM (zX 0 t.fs) q) 0=S0:=fun e=>hSJ e.symm;have hSJ1:¬S0=P'.getD (zM (zX 0 t.fs) q) 0:=hSJ;clear hU hk2 hk3 hUb e0 s1 s2;generalize hadK (zX 0 t.fs) (zM (zX 0 t.fs) q) q=HD at *;generalize hPJ:P'.getD (zM (zX 0 t.fs) q) 0=J at *;have HPJ:=hide hPJ;clear hPJ;have hl2:=hide hlk;clear hlk;go_wp2_with fail
      go_region
      all_goals
       have HU3:=hide HUb.out.drew;have S3:Hid ((wc.setCell ⟨J,1,none⟩ (.int .i64 ((HD:Int)+y.bud))).drew.heap[S0+1]? =some (.cells #[.int .u8 y.nm.toNat,.int .i64 y.job] 164 (0,0))):=S2.out;have hs2:(wc.setCell ⟨J,1,none⟩ (.int .i64 ((HD:Int)+y.bud))).drew.cell? ⟨S0,2,none⟩=some (.int .i64 y.bud):=by
        show (wc.setCell ⟨J,1,none⟩ (.int .i64 ((HD:Int)+y.bud))).cell? ⟨S0,2,none⟩=_;rw[set_other (by intro e;injection e with e1 _;exact hSJ2 e1)];exact c02
       generalize (wc.setCell ⟨J,1,none⟩ (.int .i64 ((HD:Int)+y.bud))).drew=W3 at *;clear hl1 hl2 c02 c10 c11 j1 jf hhb HUb S2 hSJ hSJ1 hSJ2 hKJ;go_wp2_with fail;clear hs2
       go_loopw [7,61] (fun av i wr=>∃r Z:Nat,r<=y.bud/\i=.int .i64 r/\av=.int .i64 Z/\Hid (Z=T+r)/\wr.heap[S0+1]? =some (.cells #[.int .u8 y.nm.toNat,.int .i64 y.job] 164 (0,0))/\UX w wr #[.int .i64 t.cyc,.int .i64 t.fr,.slice (some ⟨g,0,none⟩) t.fs.length cc] t.cyc t.fr (zX 0 t.fs) q r (q+1) (q+1) P') (fun _ i _=>200-(intOf i).toNat)
       case atStart=>exact⟨0,T,by omega,rfl,rfl,rfl,S3.out,HU3.out⟩
       case round=>
        clear S3 HU3;obtain⟨r,Z,hr,rfl,rfl,hZ,hK,hU⟩:=hrel;by_cases hrl:r<y.bud
        .have hrl':(r:Int)<y.bud:=by omega
         have hZ1:(Z:Int)<t.cyc:=by have:=hZ.out;omega
         have hlk:=hU.look_some HJs.out hq hU.job.1;rw[Hfq.out]at hlk;have hlk':(Instr.lookup 162 (.map (some (w.heap.size+1+1))) (.agg #[.int .u8 y.nm.toNat,.int .i64 y.job]) false).run Tryz.prog wr=.ok (.pointer (some ⟨J,0,none⟩)) wr:=by rw[←HPJ.out];exact hlk
         have k0:=zC hK 0;have k1:=zC hK 1;obtain⟨arr,ha1,ha2⟩:=hU.hu;have hcz:=zC ha1 Z;rw[ha2 Z (by have:=hZ.out;omega)]at hcz;have hfz:=zF ha1 Z;have hUn:=hU.unit hG.out hq (by rw[Hfq.out];exact hrl);rw[Hst.out,←hZ.out]at hUn;unfold ptrP at hUn;rw[HPJ.out]at hUn;have hne:S0+1≠w.heap.size+1:=by
          intro e;rw[e,ha1]at hK;simp at hK
         have HUn:=hide hUn;have HK2:Hid ((wr.setCell ⟨w.heap.size+1,Z,none⟩ (.pointer (some ⟨J,0,none⟩))).heap[S0+1]? =some (.cells #[.int .u8 y.nm.toNat,.int .i64 y.job] 164 (0,0))):=by
          unfold Hid;rw[Below.heap_setCell _ _ _ _ hne];exact hK
         clear hU hK ha1 ha2 hUn hlk hne;go_wp2_with (first|(at_lookup;refine wpList_look_at _ rfl _ _ _ rfl _ _ _ rfl rfl hlk' ?_)|fail);go_roundw
         case rel=>exact⟨r+1,Z+1,by omega,by go_num,by go_num,by have:=hZ.out;unfold Hid;omega,HK2.out,HUn.out⟩
         case measure=>simp[intOf];omega
        .have hre:r=y.bud:=by omega
         subst hre;have hrl':¬(y.bud:Int)<y.bud:=by omega
         have HUn:Hid (UX w wr #[.int .i64 t.cyc,.int .i64 t.fr,.slice (some ⟨g,0,none⟩) t.fs.length cc] t.cyc t.fr (zX 0 t.fs) (q+1) 0 (q+1) (q+1) P'):=by
          refine UX.next hG.out ?_ hq;rw[Hfq.out];exact hU
         clear hU hK;go_wp2_with fail;go_roundw
         case rel=>exact⟨k+1,P',by omega,by go_num,by rw[Hnx.out,hZ.out],by rw[←Nat.add_assoc,HQ.out];exact HUn.out⟩
         case measure=>simp[intOf];omega
    .have hkl':¬(k:Int)<(frk t.fs j).length:=by omega
     have hke:k=(frk t.fs j).length:=by omega
     have HU2:Hid (UX w wr #[.int .i64 t.cyc,.int .i64 t.fr,.slice (some ⟨g,0,none⟩) t.fs.length cc] t.cyc t.fr (zX 0 t.fs) (baseJ t.fs (j+1)) 0 (baseJ t.fs (j+1)) (baseJ t.fs (j+1)) P):=by
      unfold Hid;rw[base_next hlt,←hke];exact hU
     clear hU hke;go_wp2_with fail;go_roundw
     case rel=>exact⟨j+1,P,by omega,by go_num,HU2.out⟩
     case measure=>simp[intOf];omega
  .have hlt':¬(j:Int)<t.fs.length:=by omega
   have hje:j=t.fs.length:=by omega
   subst hje;rw[Hba.out]at hU;have HU:=hide hU;clear hU;go_wp2;go_ret;exact⟨rfl,P,HU.out⟩
end
section
open Go.RowKit
def crc1 (x:Int):Int:=if bits .and .u32 x 1==1 then bits .xor .u32 (x/2) 3988292384 else x/2
def crcN:Nat->Int->Int
 | 0,x=>x
 | n+1,x=>crc1 (crcN n x)
def crcB (a c:Int):Int:=crcN 8 (bits .xor .u32 a c)
def crcL (l:List UInt8):Int:=l.foldl (fun x c=>crcB x (c.toNat:Int)) 4294967295
theorem addByte_any (a:Int)(c:Nat)(hc:c<256)(w:World):
  Calls Tryz.prog 108 #[.int .u32 a,.int .u8 c] w fun e w'=>e=.returned (.int .u32 (crcB a c))/\w'=w:=by
 go_enter Tryz.func108,Tryz.ntmps108;go_wp2_with fail
 go_loop [0,10] (fun s i=>∃(k:Nat),k<=8/\i=.int .i64 k/\s=.int .u32 (crcN k (bits .xor .u32 a c))) (fun _ i=>8-(intOf i).toNat)
 case atStart=>exact⟨0,by omega,rfl,rfl⟩
 case round=>
  obtain⟨k,hk,rfl,rfl⟩:=hrel;by_cases hlt:k<8
  .have hlt':(k:Int)<8:=by omega
   have hst:Hid (crcN (k+1) (bits .xor .u32 a c)=crc1 (crcN k (bits .xor .u32 a c))):=rfl;generalize crcN k (bits .xor .u32 a c)=x at *
   cases hb:(bits .and .u32 x 1==1)
   .have hc1:Hid (crc1 x=x/2):=by unfold Hid crc1;rw[hb];rfl
    go_wp2
    go_round
    case rel=>exact⟨k+1,by omega,by go_num,by rw[hst.out,hc1.out]⟩
    case measure=>simp[intOf];omega
   .have hc1:Hid (crc1 x=bits .xor .u32 (x/2) 3988292384):=by unfold Hid crc1;rw[hb];rfl
    go_wp2
    go_round
    case rel=>exact⟨k+1,by omega,by go_num,by rw[hst.out,hc1.out]⟩
    case measure=>simp[intOf];omega
  .have hlt':¬(k:Int)<8:=by omega
   have hke:k=8:=by omega
   subst hke;have hfin:Hid (crcN 8 (bits .xor .u32 a c)=crcB a c):=rfl;generalize crcN 8 (bits .xor .u32 a c)=x at *;go_wp2;go_ret;exact⟨by rw[←hfin.out];rfl,rfl⟩
def u8i (y:Int):UInt8:=UInt8.ofNat (y%256).toNat
theorem u8i_nat (y:Int):((u8i y).toNat:Int)=y%256:=by
 have h1:=Int.emod_nonneg y (b:=256) (by decide);have h2:=Int.emod_lt_of_pos y (b:=256) (by decide);unfold u8i;simp;omega
def sum4 (y:Int):List UInt8:=[u8i y,u8i (y/256),u8i (y/65536),u8i (y/16777216)]
def sumL (l:List UInt8):List UInt8:=sum4 (bits .xor .u32 IntKind.u32.max (crcL l))
theorem bytesN (l:List UInt8)(W:World)(b c:Nat)(h:∀j,(hj:j<l.length)->W.cell? ⟨b,j,none⟩=some (.int .u8 (l[j].toNat:Int))):(convert 64 9 (.slice (some ⟨b,0,none⟩) l.length c)).run Tryz.prog W=.ok (.string ⟨l.toArray⟩) W:=by
 refine run_convert_bytes_back _ 64 9 5 ⟨b,0,none⟩ c l Tryz.underlying64 Tryz.underlying5 Tryz.underlying9 ?_;intro j hj;have e:((⟨b,0,none⟩:Addr).add j)=⟨b,j,none⟩:=by simp[Addr.add];intro h;exact h.symm
 rw[e];exact h j hj
theorem sumOf_any (s:ByteArray)(w:World)(hs:s.size<=1000):
  Calls Tryz.prog 68 #[.string s] w fun e w'=>e=.returned (.string (bs (sumL s.data.toList)))/\Below w.heap.size w w':=by
 go_enter Tryz.func68,Tryz.ntmps68;go_wp2_with fail
 go_loop [3,7] (fun x i=>∃(k:Nat),k<=s.size/\i=.int .i64 k/\x=.int .u32 (crcL (s.data.toList.take k))) (fun _ i=>s.size-(intOf i).toNat)
 case atStart=>exact⟨0,by omega,rfl,rfl⟩
 case round=>
  obtain⟨k,hk,rfl,rfl⟩:=hrel;by_cases hlt:k<s.size
  .have hlt':(k:Int)<s.size:=by omega
   have hst:Hid (crcL (s.data.toList.take (k+1))=crcB (crcL (s.data.toList.take k)) (s[k].toNat:Int)):=by
    unfold Hid crcL;have:=take_more s 0 k (by omega) hlt;simp only[List.drop_zero,Nat.sub_zero]at this;rw[this,List.foldl_append];rfl
   generalize crcL (s.data.toList.take k)=x at *;go_wp2_with fail;refine(addByte_any x s[k].toNat (UInt8.toNat_lt _) _).mono ?_;rintro e w' ⟨rfl,rfl⟩;go_wp2
   go_round
   case rel=>exact⟨k+1,by omega,by go_num,by rw[hst.out]⟩
   case measure=>simp[intOf];omega
  .have hlt':¬(k:Int)<s.size:=by omega
   have hke:s.data.toList.take k=s.data.toList:=List.take_of_length_le (by simp;omega);rw[hke];have hfin:Hid (sumL s.data.toList=sum4 (bits .xor .u32 IntKind.u32.max (crcL s.data.toList))):=rfl;generalize crcL s.data.toList=x at *;have hcv:(convert 64 9 (.slice (some ⟨w.heap.size,0,none⟩) 4 4)).run Tryz.prog (w.alloc (.cells #[.int .u8 (bits .xor .u32 IntKind.u32.max x%256),.int .u8 (bits .xor .u32 IntKind.u32.max x/256%256),.int .u8 (bits .xor .u32 IntKind.u32.max x/65536%256),.int .u8 (bits .xor .u32 IntKind.u32.max x/16777216%256)] 5))=.ok (.string (bs (sum4 (bits .xor .u32 IntKind.u32.max x)))) (w.alloc (.cells #[.int .u8 (bits .xor .u32 IntKind.u32.max x%256),.int .u8 (bits .xor .u32 IntKind.u32.max x/256%256),.int .u8 (bits .xor .u32 IntKind.u32.max x/65536%256),.int .u8 (bits .xor .u32 IntKind.u32.max x/16777216%256)] 5)):=by
    refine bytesN (sum4 (bits .xor .u32 IntKind.u32.max x)) _ w.heap.size 4 ?_;intro j hj;rw[zC (zW w _ _)];have hj4:j<4:=hj
    match j,hj4 with
    | 0,_=>simp[sum4,u8i_nat]
    | 1,_=>simp[sum4,u8i_nat]
    | 2,_=>simp[sum4,u8i_nat]
    | 3,_=>simp[sum4,u8i_nat]
   generalize sum4 (bits .xor .u32 IntKind.u32.max x)=Y at *;go_wp2;go_ret;exact⟨by rw[hfin.out];rfl,zN _ _⟩
end
def key (t:PT):Nat×List UInt8:=(t.k,t.tx)
def tokL (l:List UInt8):Nat×List UInt8:=
 match l with
 | []=>(101,[])
 | c::r=>
  if signB (c.toNat:Int) then (c.toNat,[c])
  else if zB (c.toNat:Int) then (119,(c::r).take (lead zB (c::r)))
  else if 1<=lead zD (c::r)/\lead zD (c::r)<=4 then (110,(c::r).take (lead zD (c::r)))
  else (120,[])
def nextL (l:List UInt8):Nat×List UInt8:=tokL (l.drop (lead blankB l))
def finK (k:Nat):Bool:=k==101||k==120
def lexL:Nat->List UInt8->List (Nat×List UInt8)
 | 0,l=>[nextL l]
 | f+1,l=>if finK (nextL l).1 then [nextL l] else nextL l::lexL f (l.drop (lead blankB l+(nextL l).2.length))
theorem key_tok (l:List UInt8)(i:Nat):key (tokAt l i)=tokL (l.drop i):=by
 unfold tokAt tokL key
 cases l.drop i with
 | nil=>rfl
 | cons c r=>
  simp only;split
  .rfl
  .split
   .rfl
   .split<;>rfl
theorem key_next (l:List UInt8)(i:Nat):key (nextTok l i)=nextL (l.drop i):=by
 unfold nextTok nextL skipB;rw[key_tok,List.drop_drop]
theorem toks_lex:∀(f:Nat) (l:List UInt8) (i:Nat),i<=l.length->(toks f l i).map key=lexL f (l.drop i)
 | 0,l,i,_=>by simp[toks,lexL,key_next]
 | f+1,l,i,hi=>by
  have hk:=key_next l i;have hf:(nextTok l i).fin=finK (nextL (l.drop i)).1:=by rw[←hk];rfl
  rw[toks,lexL,hf];split
  .simp[hk]
  .have hb:=nextTok_bound l i hi;have hat:(nextTok l i).at_=skipB l i:=by
    unfold nextTok;exact(tokAt_bound l (skipB l i) (skipB_le l i hi).2).1
   have hx:(nextTok l i).nx=i+(lead blankB (l.drop i)+(nextL (l.drop i)).2.length):=by
    unfold PT.nx;rw[hat,←hk];show skipB l i+(nextTok l i).tx.length=_;unfold skipB key;simp only;omega
   rw[List.map_cons,hk,toks_lex f l (nextTok l i).nx hb.2.1,hx,List.drop_drop]
theorem lead_all (P:Int->Bool):∀(x l:List UInt8),(∀c∈x,P (c.toNat:Int)=true)->(∀c r,l=c::r->P (c.toNat:Int)=false)->lead P (x++l)=x.length
 | [],[],_,_=>rfl
 | [],c::r,_,h=>by simp[lead,h c r rfl]
 | d::x,l,h,h2=>by
  simp only[List.cons_append,lead,h d (by simp),if_true,List.length_cons];rw[lead_all P x l (fun c hc=>h c (by simp[hc])) h2]
theorem blank_no {P:Int->Bool}(c:UInt8)(h:blankB (c.toNat:Int)=false)(r:List UInt8):lead blankB (c::r)=0:=by simp[lead,h]
theorem lex_blank (f:Nat)(c:UInt8)(l:List UInt8)(h:blankB (c.toNat:Int)=true):lexL f (c::l)=lexL f l:=by
 have h1:lead blankB (c::l)=lead blankB l+1:=by simp[lead,h]
 have h2:nextL (c::l)=nextL l:=by unfold nextL;rw[h1];rfl
 cases f with
 | zero=>simp[lexL,h2]
 | succ f=>
  rw[lexL,lexL,h2,h1,show lead blankB l+1+(nextL l).2.length=lead blankB l+(nextL l).2.length+1 by omega];rfl
theorem lex_sign (f:Nat)(c:UInt8)(l:List UInt8)(h:signB (c.toNat:Int)=true):lexL (f+1) (c::l)=(c.toNat,[c])::lexL f l:=by
 have hb:blankB (c.toNat:Int)=false:=by
  simp only[signB,Bool.or_eq_true,beq_iff_eq]at h;simp only[blankB,Bool.or_eq_false_iff,beq_eq_false_iff_ne,ne_eq];omega
 have h1:=blank_no (P:=blankB) c hb l;have h2:nextL (c::l)=(c.toNat,[c]):=by unfold nextL;rw[h1];simp[tokL,h]
 have h3:finK c.toNat=false:=by
  simp only[signB,Bool.or_eq_true,beq_iff_eq]at h;simp only[finK,Bool.or_eq_false_iff,beq_eq_false_iff_ne,ne_eq];omega
 rw[lexL,h2,h1];simp[h3]
theorem lex_word (f:Nat)(c:UInt8)(x l:List UInt8)(h:∀d∈c::x,zB (d.toNat:Int)=true)(hl:∀d r,l=d::r->zB (d.toNat:Int)=false):lexL (f+1) (c::x++l)=(119,c::x)::lexL f l:=by
 have hc:=h c (by simp);have hb:blankB (c.toNat:Int)=false:=by
  simp only[zB,Bool.and_eq_true,decide_eq_true_eq]at hc;simp only[blankB,Bool.or_eq_false_iff,beq_eq_false_iff_ne,ne_eq];omega
 have hs:signB (c.toNat:Int)=false:=by
  simp only[zB,Bool.and_eq_true,decide_eq_true_eq]at hc;simp only[signB,Bool.or_eq_false_iff,beq_eq_false_iff_ne,ne_eq];omega
 have h1:lead blankB (c::x++l)=0:=blank_no (P:=blankB) c hb (x++l);have hlead:=lead_all zB (c::x) l h hl;have h2:nextL (c::x++l)=(119,c::x):=by
  unfold nextL;rw[h1,List.drop_zero];show tokL (c::(x++l))=_;unfold tokL;simp only[hs,hc,Bool.false_eq_true,if_false,if_true];rw[show c::(x++l)=c::x++l from rfl,hlead,List.take_left'];rfl
 rw[lexL,h2,h1];simp[finK]
theorem lex_num (f:Nat)(c:UInt8)(x l:List UInt8)(h:∀d∈c::x,zD (d.toNat:Int)=true)(h4:x.length<4)(hl:∀d r,l=d::r->zD (d.toNat:Int)=false):lexL (f+1) (c::x++l)=(110,c::x)::lexL f l:=by
 have hc:=h c (by simp);have hb:blankB (c.toNat:Int)=false:=by
  simp only[zD,Bool.and_eq_true,decide_eq_true_eq]at hc;simp only[blankB,Bool.or_eq_false_iff,beq_eq_false_iff_ne,ne_eq];omega
 have hs:signB (c.toNat:Int)=false:=by
  simp only[zD,Bool.and_eq_true,decide_eq_true_eq]at hc;simp only[signB,Bool.or_eq_false_iff,beq_eq_false_iff_ne,ne_eq];omega
 have hle:zB (c.toNat:Int)=false:=by
  simp only[zD,Bool.and_eq_true,decide_eq_true_eq]at hc;simp only[zB,Bool.and_eq_false_iff,decide_eq_false_iff_not];omega
 have h1:lead blankB (c::x++l)=0:=blank_no (P:=blankB) c hb (x++l);have hlead:=lead_all zD (c::x) l h hl;have h2:nextL (c::x++l)=(110,c::x):=by
  unfold nextL;rw[h1,List.drop_zero];show tokL (c::(x++l))=_;unfold tokL;simp only[hs,hle,Bool.false_eq_true,if_false];rw[show c::(x++l)=c::x++l from rfl,hlead,if_pos (by simp;omega),List.take_left'];rfl
 rw[lexL,h2,h1];simp[finK]
theorem lex_end (f:Nat):lexL f []=[(101,[])]:=by
 cases f with
 | zero=>rfl
 | succ f=>simp[lexL,nextL,tokL,lead,finK]
theorem dL_facts:∀n<100,(∀d∈dL n,zD (d.toNat:Int)=true)/\1<=(dL n).length/\dval (dL n)=n:=by decide
theorem lex_dL (f n:Nat)(hn:n<100)(l:List UInt8)(hl:∀d r,l=d::r->zD (d.toNat:Int)=false):lexL (f+1) (dL n++l)=(110,dL n)::lexL f l:=by
 obtain⟨h1,h2,_⟩:=dL_facts n hn;have h3:=dL_len n
 cases hd:dL n with
 | nil=>rw[hd]at h2;simp at h2
 | cons c x=>
  rw[hd]at h1 h3;exact lex_num f c x l h1 (by simp at h3;omega) hl
theorem dL_head (n:Nat)(hn:n<100)(l:List UInt8):∀d r,dL n++l=d::r->zB (d.toNat:Int)=false:=by
 obtain⟨h1,h2,_⟩:=dL_facts n hn;intro d r h
 cases hd:dL n with
 | nil=>rw[hd]at h2;simp at h2
 | cons c x=>
  rw[hd]at h;simp at h;have hc:=h1 c (by rw[hd];simp);rw[h.1]at hc;simp only[zD,Bool.and_eq_true,decide_eq_true_eq]at hc;simp only[zB,Bool.and_eq_false_iff,decide_eq_false_iff_not];omega
def slK (s:Sl):List (Nat×List UInt8):=[(119,[s.nm]),(110,dL s.job),(58,[58]),(110,dL s.bud)]
def frK:List Sl->List (Nat×List UInt8)
 | []=>[]
 | [s]=>slK s
 | s::r=>slK s++[(44,[44])]++frK r
def tbK (t:Tb):List (Nat×List UInt8):=[(119,wCycle.data.toList),(110,dL t.cyc),(119,wFrame.data.toList),(110,dL t.fr),(59,[59])]++t.fs.flatMap (fun f=>frK f++[(59,[59])])++[(101,[])]
def Sl.fine (s:Sl):Prop:=zB (s.nm.toNat:Int)=true/\s.job<100/\s.bud<100
theorem lex_sl (f:Nat)(s:Sl)(hs:s.fine)(l:List UInt8)(hl:∀d r,l=d::r->zD (d.toNat:Int)=false):lexL (f+4) (slTxt s++l)=slK s++lexL f l:=by
 obtain⟨h1,h2,h3⟩:=hs;have e:slTxt s++l=[s.nm]++(dL s.job++(58::(dL s.bud++l))):=by simp[slTxt]
 rw[e];have a:=lex_word (f+3) s.nm [] (dL s.job++(58::(dL s.bud++l))) (by simpa using h1) (dL_head s.job h2 _);have b:=lex_dL (f+2) s.job h2 (58::(dL s.bud++l)) (by intro d r h;simp at h;rw[←h.1];decide);have c:=lex_sign (f+1) 58 (dL s.bud++l) (by decide);have d:=lex_dL f s.bud h3 l hl;rw[a,b,c,d];rfl
theorem lex_fr:∀(f:Nat) (x:List Sl) (hx:∀s∈x,s.fine) (l:List UInt8) (hl:∀d r,l=d::r->zD (d.toNat:Int)=false),lexL (f+(frK x).length) (frTxt x++l)=frK x++lexL f l
 | f,[],_,l,hl=>by simp[frK,frTxt]
 | f,[s],hx,l,hl=>lex_sl f s (hx s (by simp)) l hl
 | f,s::y::r,hx,l,hl=>by
  have ih:=lex_fr f (y::r) (fun z hz=>hx z (by simp[hz])) l hl;have e1:frK (s::y::r)=slK s++[(44,[44])]++frK (y::r):=rfl;have e2:frTxt (s::y::r)++l=slTxt s++(44::(frTxt (y::r)++l)):=by simp[frTxt]
  have e3:f+(frK (s::y::r)).length=(f+(frK (y::r)).length+1)+4:=by rw[e1];simp[slK];omega
  rw[e2,e3,lex_sl _ s (hx s (by simp)) _ (by intro d r h;simp at h;rw[←h.1];decide),lex_sign _ 44 _ (by decide),ih,e1];simp
theorem lex_frames:∀(f:Nat) (fs:List (List Sl)) (hx:∀x∈fs,∀s∈x,s.fine),lexL (f+(fs.flatMap (fun f=>frK f++[(59,[59])])).length) (fs.flatMap (fun f=>frTxt f++[59,10]))=fs.flatMap (fun f=>frK f++[(59,[59])])++[(101,[])]
 | f,[],_=>by simp[lex_end]
 | f,x::r,hx=>by
  have ih:=lex_frames f r (fun z hz=>hx z (by simp[hz]));simp only[List.flatMap_cons];have e:f+(frK x++[(59,[59])]++r.flatMap (fun f=>frK f++[(59,[59])])).length=(f+(r.flatMap (fun f=>frK f++[(59,[59])])).length+1)+(frK x).length:=by simp;omega
  have e2:frTxt x++[59,10]++r.flatMap (fun f=>frTxt f++[59,10])=frTxt x++(59::10::r.flatMap (fun f=>frTxt f++[59,10])):=by simp
  rw[e,e2,lex_fr _ x (hx x (by simp)) _ (by intro d r h;simp at h;rw[←h.1];decide),lex_sign _ 59 _ (by decide),lex_blank _ 10 _ (by decide),ih];simp
theorem lex_tb (f:Nat)(t:Tb)(hc:t.cyc<100)(hf:t.fr<100)(hx:∀x∈t.fs,∀s∈x,s.fine):lexL (f+5+(t.fs.flatMap (fun f=>frK f++[(59,[59])])).length) (tbTxt t)=tbK t:=by
 have e:tbTxt t=(99::[121,99,108,101])++(32::(dL t.cyc++(32::((102::[114,97,109,101])++(32::(dL t.fr++(59::10::t.fs.flatMap (fun f=>frTxt f++[59,10])))))))):=by
  simp[tbTxt,hdTxt]
 have e1:f+5+(t.fs.flatMap (fun f=>frK f++[(59,[59])])).length=(f+(t.fs.flatMap (fun f=>frK f++[(59,[59])])).length)+4+1:=by omega
 rw[e,e1,lex_word _ 99 _ _ (by decide) (by intro d r h;simp at h;rw[←h.1];decide),lex_blank _ 32 _ (by decide),
  lex_dL _ _ hc _ (by intro d r h;simp at h;rw[←h.1];decide),lex_blank _ 32 _ (by decide),
  lex_word _ 102 _ _ (by decide) (by intro d r h;simp at h;rw[←h.1];decide),lex_blank _ 32 _ (by decide),
  lex_dL _ _ hf _ (by intro d r h;simp at h;rw[←h.1];decide),lex_sign _ 59 _ (by decide),lex_blank _ 10 _ (by decide),lex_frames f t.fs hx]
 rfl
theorem frK_len:∀(f:List Sl),(∀s∈f,s.fine)->(frK f).length<=(frTxt f).length
 | [],_=>by simp[frK,frTxt]
 | [s],h=>by
  have h1:=(dL_facts s.job (h s (by simp)).2.1).2.1;have h2:=(dL_facts s.bud (h s (by simp)).2.2).2.1;simp[frK,frTxt,slK,slTxt];omega
 | s::y::r,h=>by
  have ih:=frK_len (y::r) (fun z hz=>h z (by simp[hz]));have h1:=(dL_facts s.job (h s (by simp)).2.1).2.1;have h2:=(dL_facts s.bud (h s (by simp)).2.2).2.1;simp[frK,frTxt,slK,slTxt]at ih ⊢;omega
theorem framesK_len:∀(fs:List (List Sl)),(∀f∈fs,∀s∈f,s.fine)->(fs.flatMap (fun f=>frK f++[(59,[59])])).length<=(fs.flatMap (fun f=>frTxt f++[59,10])).length
 | [],_=>by simp
 | f::r,h=>by
  have h1:=frK_len f (h f (by simp));have h2:=framesK_len r (fun g hg=>h g (by simp[hg]));simp only[List.flatMap_cons,List.length_append,List.length_cons,List.length_nil]at h2 ⊢;omega
theorem toks_tb (t:Tb)(hc:t.cyc<100)(hf:t.fr<100)(hx:∀x∈t.fs,∀s∈x,s.fine):(zT (tbTxt t)).map key=tbK t:=by
 unfold zT;rw[toks_lex _ _ _ (by omega),List.drop_zero];have h1:=framesK_len t.fs hx;have h2:5<=(hdTxt t.cyc t.fr).length:=by simp[hdTxt]
 have h3:(tbTxt t).length=(hdTxt t.cyc t.fr).length+(t.fs.flatMap (fun f=>frTxt f++[59,10])).length:=by simp[tbTxt]
 obtain⟨f,hfu⟩:∃f,(tbTxt t).length+1=f+5+(t.fs.flatMap (fun f=>frK f++[(59,[59])])).length:=⟨(tbTxt t).length+1-5-(t.fs.flatMap (fun f=>frK f++[(59,[59])])).length,by omega⟩;rw[hfu];exact lex_tb f t hc hf hx
theorem tk_key {T:List PT}{K:List (Nat×List UInt8)}(h:T.map key=K)(i:Nat){k:Nat}{x:List UInt8}(hk:K[i]? =some (k,x)):(tk T i).k=k/\(tk T i).tx=x:=by
 subst h;rw[List.getElem?_map]at hk;unfold tk;rw[List.getD_eq_getElem?_getD]
 cases hq:T[i]? with
 | none=>rw[hq]at hk;simp at hk
 | some t=>
  rw[hq]at hk;simp[key]at hk;exact hk
theorem drop_at {α:Type}{K:List α}{i:Nat}{L:List α}(h:K.drop i=L)(m:Nat):K[i+m]? =L[m]? := by
 rw[←h,List.getElem?_drop]
theorem num_key {T:List PT}{i n:Nat}(h:(tk T i).k=110/\(tk T i).tx=dL n)(hn:n<100):(tk T i).N=n:=by
 unfold PT.N;rw[h.1,h.2];exact(dL_facts n hn).2.2
theorem name_key {T:List PT}{i:Nat}{c:UInt8}(h:(tk T i).k=119/\(tk T i).tx=[c]):isName (tk T i)=true/\nameB (tk T i)=c:=by
 have hS:(tk T i).S=[c]:=by unfold PT.S;rw[h.1,h.2];rfl
 unfold isName nameB;rw[hS,h.1];exact⟨rfl,rfl⟩
theorem sl_key {T:List PT}{i:Nat}{s:Sl}{L:List (Nat×List UInt8)}(hs:s.fine)(h:(T.map key).drop i=slK s++L):slOk T i=true/\slAt T i=s/\(T.map key).drop (i+4)=L:=by
 have d:=fun m=>drop_at h m;have k0:=tk_key rfl (i+0) ((d 0).trans rfl);have k1:=tk_key rfl (i+1) ((d 1).trans rfl);have k2:=tk_key rfl (i+2) ((d 2).trans rfl);have k3:=tk_key rfl (i+3) ((d 3).trans rfl);have n0:=name_key k0;refine⟨?_,?_,?_⟩
 .unfold slOk;rw[show tk T i=tk T (i+0) from rfl,n0.1,k1.1,k2.1,k3.1];rfl
 .unfold slAt;rw[show tk T i=tk T (i+0) from rfl,n0.2,num_key k1 hs.2.1,num_key k3 hs.2.2]
 .rw[←List.drop_drop,h];rfl
theorem more_key:∀(f:List Sl) (T:List PT) (i:Nat) (L:List (Nat×List UInt8)),f≠[]->(∀s∈f,s.fine)->(T.map key).drop i=frK f++(59,[59])::L->∃j,pMore T i=some (f,j)/\(T.map key).drop j=L
 | [],_,_,_,h,_,_=>absurd rfl h
 | [s],T,i,L,_,hf,h=>by
  obtain⟨h1,h2,h3⟩:=sl_key (hf s (by simp)) h;have k:=tk_key rfl (i+4+0) ((drop_at h3 0).trans rfl);refine⟨i+5,?_,?_⟩
  .rw[pMore_last h1 k.1,h2]
  .rw[show i+5=i+4+1 by omega,←List.drop_drop,h3];rfl
 | s::y::r,T,i,L,_,hf,h=>by
  have h':(T.map key).drop i=slK s++((44,[44])::(frK (y::r)++(59,[59])::L)):=by rw[h];simp[frK]
  obtain⟨h1,h2,h3⟩:=sl_key (hf s (by simp)) h';have k:=tk_key rfl (i+4+0) ((drop_at h3 0).trans rfl);have h4:(T.map key).drop (i+5)=frK (y::r)++(59,[59])::L:=by
   rw[show i+5=i+4+1 by omega,←List.drop_drop,h3];rfl
  obtain⟨j,h5,h6⟩:=more_key (y::r) T (i+5) L (by simp) (fun z hz=>hf z (by simp[hz])) h4;refine⟨j,?_,h6⟩;rw[pMore_on h1 k.1,h5,h2]
theorem frame_key (f:List Sl)(T:List PT)(i:Nat)(L:List (Nat×List UInt8))(hf:∀s∈f,s.fine)(h:(T.map key).drop i=frK f++(59,[59])::L):∃j,pFrame T i=some (f,j)/\(T.map key).drop j=L:=by
 unfold pFrame
 cases f with
 | nil=>
  have k:=tk_key rfl (i+0) ((drop_at h 0).trans rfl);refine⟨i+1,?_,?_⟩
  .rw[show tk T i=tk T (i+0) from rfl,k.1];rfl
  .rw[←List.drop_drop,h];rfl
 | cons s r=>
  have h0:∃L',(T.map key).drop i=(119,[s.nm])::L':=by
   rw[h]
   cases r with
   | nil=>exact⟨_,rfl⟩
   | cons y r=>exact⟨_,rfl⟩
  obtain⟨L',h0⟩:=h0;have k:=tk_key rfl (i+0) ((drop_at h0 0).trans rfl);rw[show tk T i=tk T (i+0) from rfl,k.1];exact more_key (s::r) T i L (by simp) hf h
theorem frames_key:∀(fs:List (List Sl)) (T:List PT) (i:Nat),(∀f∈fs,∀s∈f,s.fine)->(T.map key).drop i=fs.flatMap (fun f=>frK f++[(59,[59])])++[(101,[])]->pFrames T i=some fs
 | [],T,i,_,h=>by
  have hd:=drop_at h 0;have k:=tk_key rfl (i+0) (hd.trans rfl);refine pFrames_end ?_ k.1;have:=congrArg List.length h;simp at this;omega
 | f::r,T,i,hf,h=>by
  have h':(T.map key).drop i=frK f++(59,[59])::(r.flatMap (fun f=>frK f++[(59,[59])])++[(101,[])]):=by rw[h];simp
  obtain⟨j,h1,h2⟩:=frame_key f T i _ (hf f (by simp)) h';rw[pFrames_on h1,frames_key r T j (fun g hg=>hf g (by simp[hg])) h2]
theorem sees_key {T:List PT}{i:Nat}{wd:ByteArray}(h:(tk T i).k=119/\(tk T i).tx=wd.data.toList):sees (tk T i) wd=true:=by
 have hS:(tk T i).S=wd.data.toList:=by unfold PT.S;rw[h.1,h.2];rfl
 unfold sees;rw[hS,h.1,bs_list];simp
theorem pTab_txt (t:Tb)(hc:t.cyc<100)(hf:t.fr<100)(hx:∀x∈t.fs,∀s∈x,s.fine):pTab (zT (tbTxt t))=some t:=by
 have h:=toks_tb t hc hf hx;generalize zT (tbTxt t)=T at h;have d:=fun m=>drop_at (K:=T.map key) (i:=0) (L:=tbK t) (by rw[List.drop_zero,h]) m;have k0:=tk_key rfl (0+0) ((d 0).trans rfl);have k1:=tk_key rfl (0+1) ((d 1).trans rfl);have k2:=tk_key rfl (0+2) ((d 2).trans rfl);have k3:=tk_key rfl (0+3) ((d 3).trans rfl);have k4:=tk_key rfl (0+4) ((d 4).trans rfl);simp only[Nat.zero_add]at k0 k1 k2 k3 k4;have hh:hdOk T=true:=by
  unfold hdOk;rw[sees_key k0,sees_key k2,k1.1,k3.1,k4.1];rfl
 have hfr:=frames_key t.fs T 5 hx (by rw[h];simp[tbK]);unfold pTab;rw[if_pos hh,hfr,num_key k1 hc,num_key k3 hf]
def u8 (n:Nat):UInt8:=UInt8.ofNat n
def slB (s:Sl):List UInt8:=[s.nm,u8 s.job,u8 s.bud]
def frB (f:List Sl):List UInt8:=u8 f.length::f.flatMap slB
def bodyB (t:Tb):List UInt8:=u8 t.cyc::u8 t.fr::t.fs.flatMap frB
theorem u8_nat {n:Nat}(h:n<256):(u8 n).toNat=n:=by simp[u8];omega
theorem u8_of (c:UInt8):u8 c.toNat=c:=by simp[u8]
def bSl:Nat->List UInt8->Option (List Sl×List UInt8)
 | 0,l=>some ([],l)
 | n+1,a::b::c::r=>match bSl n r with
  | none=>none
  | some (f,r')=>some (⟨a,b.toNat,c.toNat⟩::f,r')
 | _+1,_=>none
theorem bSl_inv:∀(n:Nat) (l:List UInt8) (f:List Sl) (r:List UInt8),bSl n l=some (f,r)->l=f.flatMap slB++r/\f.length=n/\∀s∈f,s.job<256/\s.bud<256
 | 0,l,f,r,h=>by
  simp[bSl]at h;obtain⟨rfl,rfl⟩:=h;simp
 | n+1,[],f,r,h=>by simp[bSl]at h
 | n+1,[a],f,r,h=>by simp[bSl]at h
 | n+1,[a,b],f,r,h=>by simp[bSl]at h
 | n+1,a::b::c::t,f,r,h=>by
  rw[bSl]at h
  cases h1:bSl n t with
  | none=>rw[h1]at h;simp at h
  | some x=>
   obtain⟨g,r'⟩:=x;rw[h1]at h;simp at h;obtain⟨rfl,rfl⟩:=h;obtain⟨h2,h3,h4⟩:=bSl_inv n t g r' h1;refine⟨?_,by simp[h3],?_⟩
   .simp[slB,u8_of,h2]
   .intro s hs;rcases List.mem_cons.1 hs with rfl|hs
    .exact⟨b.toNat_lt,c.toNat_lt⟩
    .exact h4 s hs
theorem bSl_pack:∀(f:List Sl) (r:List UInt8),(∀s∈f,s.job<256/\s.bud<256)->bSl f.length (f.flatMap slB++r)=some (f,r)
 | [],r,_=>by simp[bSl]
 | s::f,r,h=>by
  have ih:=bSl_pack f r (fun z hz=>h z (by simp[hz]));have hs:=h s (by simp);simp only[List.length_cons,List.flatMap_cons,slB,List.cons_append,List.nil_append,bSl,ih];rw[u8_nat hs.1,u8_nat hs.2]
theorem bSl_len {n:Nat}{l:List UInt8}{f:List Sl}{r:List UInt8}(h:bSl n l=some (f,r)):r.length<=l.length:=by
 rw[(bSl_inv n l f r h).1];simp
def bFr:List UInt8->Option (List (List Sl))
 | []=>some []
 | c::r=>match bSl c.toNat r with
  | none=>none
  | some (f,r')=>if h:r'.length<=r.length then (match bFr r' with|none=>none|some fs=>some (f::fs)) else none
termination_by l=>l.length
decreasing_by simp;omega
theorem bFr_nil:bFr []=some []:=by rw[bFr]
theorem bFr_no {c:UInt8}{r:List UInt8}(h:bSl c.toNat r=none):bFr (c::r)=none:=by rw[bFr,h]
theorem bFr_on {c:UInt8}{r:List UInt8}{f:List Sl}{r':List UInt8}(h:bSl c.toNat r=some (f,r')):bFr (c::r)=(match bFr r' with|none=>none|some fs=>some (f::fs)):=by
 rw[bFr,h];simp only;rw[dif_pos (bSl_len h)]
theorem bFr_pack:∀(fs:List (List Sl)),(∀f∈fs,f.length<256/\∀s∈f,s.job<256/\s.bud<256)->bFr (fs.flatMap frB)=some fs
 | [],_=>by simp[bFr_nil]
 | f::r,h=>by
  have ih:=bFr_pack r (fun g hg=>h g (by simp[hg]));obtain⟨h1,h2⟩:=h f (by simp);simp only[List.flatMap_cons,frB,List.cons_append];have:=bSl_pack f (r.flatMap frB) h2;rw[bFr_on (f:=f) (r':=r.flatMap frB) (by rw[u8_nat h1];exact this),ih]
theorem bFr_inv:∀(n:Nat) (l:List UInt8) (fs:List (List Sl)),l.length<=n->bFr l=some fs->fs.flatMap frB=l/\∀f∈fs,f.length<256/\∀s∈f,s.job<256/\s.bud<256
 | n,[],fs,_,h=>by
  rw[bFr_nil]at h;simp at h;subst h;simp
 | 0,c::r,fs,hn,h=>by simp at hn
 | n+1,c::r,fs,hn,h=>by
  cases h1:bSl c.toNat r with
  | none=>rw[bFr_no h1]at h;simp at h
  | some x=>
   obtain⟨f,r'⟩:=x;rw[bFr_on h1]at h
   cases h2:bFr r' with
   | none=>rw[h2]at h;simp at h
   | some gs=>
    rw[h2]at h;simp at h;subst h;obtain⟨h3,h4,h5⟩:=bSl_inv _ _ _ _ h1;obtain⟨h6,h7⟩:=bFr_inv n r' gs (by have:=bSl_len h1;simp at hn;omega) h2;refine⟨?_,?_⟩
    .simp only[List.flatMap_cons,frB,h4,h6,u8_of,List.cons_append];rw[←h3]
    .intro g hg;rcases List.mem_cons.1 hg with rfl|hg
     .exact⟨by rw[h4];exact c.toNat_lt,h5⟩
     .exact h7 g hg
def bTab:List UInt8->Option Tb
 | c::f::r=>match bFr r with
  | none=>none
  | some fs=>some ⟨c.toNat,f.toNat,fs⟩
 | _=>none
theorem bTab_inv {l:List UInt8}{t:Tb}(h:bTab l=some t):bodyB t=l:=by
 match l,h with
 | c::f::r,h=>
  simp only[bTab]at h
  cases h1:bFr r with
  | none=>rw[h1]at h;simp at h
  | some fs=>
   rw[h1]at h;simp at h;subst h;simp only[bodyB,u8_of,(bFr_inv _ r fs (Nat.le_refl _) h1).1]
theorem bTab_pack {t:Tb}(h:Sound t):bTab (bodyB t)=some t:=by
 obtain⟨h1,h2,h3,h4,h5⟩:=h.frames;have hc:=h.c2;have hs:=h.small;unfold bodyB bTab;simp only;rw[bFr_pack t.fs (fun f hf=>⟨by have:=(hs f hf).1;omega,fun s hss=>by have:=(hs f hf).2 s hss;omega⟩),u8_nat (by omega),u8_nat (by omega)]
theorem frB_len:∀(fs:List (List Sl)),(fs.flatMap frB).length=fs.length+3*fs.flatten.length
 | []=>by simp
 | f::r=>by
  have ih:=frB_len r;have h1:(f.flatMap slB).length=3*f.length:=by
   induction f with
   | nil=>rfl
   | cons s f ih=>simp[slB]at ih ⊢;omega
  simp only[List.flatMap_cons,frB,List.cons_append,List.length_cons,List.length_append,h1,List.flatten_cons]at ih ⊢;omega
theorem bodyB_len {t:Tb}(h:Sound t):(bodyB t).length<=242:=by
 obtain⟨h1,h2,h3,h4,h5⟩:=h.frames;have:=frB_len t.fs;simp only[bodyB,List.length_cons];omega
end Go.Proofs.YtbdffcjganlblaaGreatDoor
