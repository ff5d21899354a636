import Derived.Test.YtbdffcjganlblaaGreatDoorADsDtoDsE
import Derived.Test.YtbdffcjganlblaaGreatDoorARefXtoRunA
import Derived.Test.YtbdffcjganlblaaGreatDoorARefLtoRefN
import Derived.Test.YtbdffcjganlblaaGreatDoorARunFtoLawC
import Derived.Test.YtbdffcjganlblaaGreatDoorATbEtoTbF
set_option linter.unusedVariables false
set_option linter.unusedSimpArgs false
set_option maxRecDepth 100000
set_option maxHeartbeats 16000000
namespace Go.Proofs.YtbdffcjganlblaaGreatDoor
section
open Go.RowKit
structure GrM (w:World) (tv pv:Value) (js:List Jb) (gL gF:Nat) (left:Nat->Nat) (wr:World):Prop where
 s:wr.heap[w.heap.size]? =some (.cells #[tv,pv] 53 (0,0))
 l:RowB wr gL js
 hl:gL<wr.heap.size
 f:RowV wr gF 3 js.length (fun q=>.int .i64 (left q))
 b:Below w.heap.size w wr
 lo:w.heap.size<gL/\w.heap.size<gF/\gL≠gF
section
variable {w:World} {tv pv:Value} {js:List Jb} {gL gF:Nat} {left:Nat->Nat} {wr:World}
theorem GrM.keep (h:GrM w tv pv js gL gF left wr){w':World}(hb:Below wr.heap.size wr w'):GrM w tv pv js gL gF left w':=
 ⟨zK h.s hb,h.l.below hb h.hl,Nat.lt_of_lt_of_le h.hl hb.size,h.f.keep (hb.block gF h.f.lt),h.b.trans (hb.mono h.b.size),h.lo⟩
theorem GrM.same (h:GrM w tv pv js gL gF left wr)(n:Nat):GrM w tv pv js gL gF left (wr.drewN n):=h.keep (below_drewN (Below.refl _ _) n)
theorem GrM.set (h:GrM w tv pv js gL gF left wr){k:Nat}(hk:k<js.length)(v:Nat):GrM w tv pv js gL gF (updL left k v) (wr.setCell ⟨gF,k,none⟩ (.int .i64 v)):=
 ⟨by rw[Below.heap_setCell _ _ _ _ (show w.heap.size≠gF by have:=h.lo;omega)];exact h.s,h.l.keep (Below.heap_setCell _ _ _ _ h.lo.2.2),by simpa [World.setCell] using h.hl,(h.f.set hk (.int .i64 v)).congr (fun i hi=>by
  show Value.int .i64 (updL left k v i)=_;unfold updL;split<;>rfl),h.b.setCell (by show w.heap.size<=gF;have:=h.lo;omega) _,h.lo⟩
end
def bestV:Option Nat->Value
 | none=>.int .i64 (-1)
 | some b=>.int .i64 b
theorem best_skip {js:List Jb}{ps:List Pr}{left:Nat->Nat}{t k:Nat}(h:¬(candJ js ps left t k/\sooB js k (bestTo js ps left t k)=true)):bestTo js ps left t (k+1)=bestTo js ps left t k:=by rw[bestTo,if_neg h]
theorem best_take {js:List Jb}{ps:List Pr}{left:Nat->Nat}{t k:Nat}(h:candJ js ps left t k/\sooB js k (bestTo js ps left t k)=true):bestTo js ps left t (k+1)=some k:=by rw[bestTo,if_pos h]
theorem int_le {a b:Nat}(h:a<=b):decide ((a:Int)<=(b:Int))=true:=by rw[decide_eq_true_eq];omega
theorem int_nle {a b:Nat}(h:¬a<=b):decide ((a:Int)<=(b:Int))=false:=by rw[decide_eq_false_iff_not];omega
theorem holds_same {js:List Jb}{left left':Nat->Nat}(h:∀q,q<js.length->left q=left' q)(k:Nat)(p:Pr):holdsN js left k p=holdsN js left' k p:=by
 have hb:∀c,busyN js left c=busyN js left' c:=fun c=>by
  unfold busyN;rw[Bool.eq_iff_iff,List.any_eq_true,List.any_eq_true];constructor<;>rintro ⟨n,hn,h1⟩<;>refine⟨n,hn,?_⟩<;>have e:=h n (by simpa using hn)
  .rw[←e];exact h1
  .rw[e];exact h1
 have hd:∀c n,doneN js left c n=doneN js left' c n:=fun c n=>by
  unfold doneN;rw[Bool.eq_iff_iff,List.all_eq_true,List.all_eq_true];constructor<;>intro h1 q hq<;>have e:=h q (by simpa using hq)<;>have:=h1 q hq
  .rw[←e];exact this
  .rw[e];exact this
 unfold holdsN;rw[hd,hb,hb]
theorem best_same {js:List Jb}{ps:List Pr}{left left':Nat->Nat}(h:∀q,q<js.length->left q=left' q)(t:Nat):bestJ js ps left t=bestJ js ps left' t:=by
 unfold bestJ;congr 1;apply List.filter_congr;intro k hk;have e:=h k (by simpa using hk);unfold rdyJ freeJ;rw[e];congr 2;apply List.any_congr
 .rfl
 .exact fun a=>holds_same h k a
theorem greedy_same {js:List Jb}{ps:List Pr}:∀ {left left':Nat->Nat},(∀q,q<js.length->left q=left' q)->∀n t,greedyJ js ps n t left=greedyJ js ps n t left'
 | left,left',h,0,t=>by
  rw[greedyJ,greedyJ];unfold allJ;rw[Bool.eq_iff_iff,List.all_eq_true,List.all_eq_true];constructor<;>intro h1 q hq<;>have e:=h q (by simpa using hq)<;>have:=h1 q hq
  .rw[←e];exact this
  .rw[e];exact this
 | left,left',h,n+1,t=>by
  rw[greedyJ,greedyJ,best_same h t]
  cases hb:bestJ js ps left' t with
  | none=>exact greedy_same h n (t+1)
  | some k=>
   simp only;split
   .rfl
   .have hk:=(best_some hb).1;refine greedy_same (fun q hq=>?_) n (t+1);unfold updL;rw[h k hk];split
    .rfl
    .exact h q hq
theorem rGreedy_any (ts:List Tk)(ps:List Pr)(cyc g cap:Nat)(pa:Option Addr)(pc:Nat)(w:World)(hg:g<w.heap.size)(hr:RowT w g ts)(hn:ts.length<=6)(hp6:ps.length<=6)(hp:0<ps.length->∃gp,pa=some ⟨gp,0,none⟩/\gp<w.heap.size/\RowP w gp ps)(hpt:∀p∈ps,∃i j,PairT ts p i j)(hts:TsOk ts cyc)(hcy:cycI ts=cyc)(hne:0<(zJ cyc 0 ts).length):
  Calls Tryz.prog 97 #[.agg #[.slice (some ⟨g,0,none⟩) ts.length cap,.slice pa ps.length pc]] w fun e w'=>e=.returned (.bool (goesJ (zJ cyc 0 ts) ps cyc 1))/\Below w.heap.size w w':=by
 have hc1:=hts.c1;have hc2:=hts.c2;have hjs:=jobs_of hts;have hj360:=jobs_few hts;have HPk:Hid (∀k,k<ts.length->1<=(tsk ts k).P/\(tsk ts k).P<=60):=fun k hk=>by
  have h5:=hts.each _ (tsk_mem hk);have h6:(tsk ts k).P<=cyc:=Nat.le_of_dvd (by omega) (Nat.dvd_of_mod_eq_zero h5.2.1);omega
 have hS:=zW w #[.slice (some ⟨g,0,none⟩) ts.length cap,.slice pa ps.length pc] 53;have HB0:=hide (zN w (.cells #[.slice (some ⟨g,0,none⟩) ts.length cap,.slice pa ps.length pc] 53));have HS:=hide hS;have s0:=zC hS;have CJ:=hide (fun W (hW:Below w.heap.size w W)=>rSetJobs_any ts cyc g cap pa ps.length pc W (Nat.lt_of_lt_of_le hg hW.size) (hr.below hW hg) hn hts hcy);have CC:=hide (fun W (hW:Below w.heap.size w W)=>rCycle_any ts g cap (.slice pa ps.length pc) pa ps.length pc rfl W (Nat.lt_of_lt_of_le hg hW.size) (hr.below hW hg) hn HPk.out);rw[hcy]at CC;have CFr:=hide (fun (gL cL gF cF:Nat) (left:Nat->Nat) (k:Nat) (W:World) (hW:Below w.heap.size w W) (hgL:gL<W.heap.size) (hl:RowB W gL (zJ cyc 0 ts)) (hf:RowV W gF 3 (zJ cyc 0 ts).length (fun q=>.int .i64 (left q))) (hk:k<(zJ cyc 0 ts).length)=>rfree_any ts ps cyc g cap pa pc gL cL gF cF left k W (Nat.lt_of_lt_of_le hg hW.size) (hr.below hW hg) hn hp6 (fun h0=>by
  obtain⟨gp,e,h1,h2⟩:=hp h0;exact⟨gp,e,Nat.lt_of_lt_of_le h1 hW.size,h2.below hW h1⟩) hpt hts.name hgL hl hf.lt hf hk (by omega))
 have HSm:Hid (∀k,k<(zJ cyc 0 ts).length->(jk (zJ cyc 0 ts) k).rel<=1000/\(jk (zJ cyc 0 ts) k).dl<=1000/\(jk (zJ cyc 0 ts) k).cost<=1000):=fun k hk=>by
  have h1:=hjs.win k hk;have h2:=hjs.cyc k hk;omega
 have HGo:=hide (greedy_goes (ps:=ps) hjs);have HSt:=hide (fun left t n=>greedy_step hjs ps left t n);have HLeft:Hid (∀left:Nat->Nat,(∀q,q<(zJ cyc 0 ts).length->left q=(jk (zJ cyc 0 ts) q).cost)->greedyJ (zJ cyc 0 ts) ps cyc 0 (costJ (zJ cyc 0 ts))=greedyJ (zJ cyc 0 ts) ps cyc 0 left):=fun left h=>greedy_same (fun q hq=>(h q hq).symm) cyc 0;clear hr hts hcy hS hjs hp hpt;generalize zJ cyc 0 ts=js at *;have hmk1:=make_many js.length (by omega);rw[←HGo.out];go_enter Tryz.func97,Tryz.ntmps97;go_wp2_with fail;generalize w.alloc (.cells #[.slice (some ⟨g,0,none⟩) ts.length cap,.slice pa ps.length pc] 53)=w0 at *;have hw0:w.heap.size<w0.heap.size:=zL HS.out;refine(CJ.out w0 HB0.out).mono ?_;rintro e w1 ⟨la,lc,rfl,hown,hb1⟩;have HB1:=hide (HB0.out.trans (hb1.mono HB0.out.size));have HS1:=hide (zK HS.out hb1);have s1:=zC HS1.out;obtain⟨gL,lcap,hv,hgL1,hgL2⟩:=own_form hown (by omega);injection hv with e1 _ e3;subst e1 e3;have HRB:=hide (rowB_own hown);clear hb1 hown HB0 HS s0 CJ;go_wp2_with fail;refine(CC.out w1 HB1.out).mono ?_;rintro e w2 ⟨rfl,hb2⟩;have HM2:Hid (GrM w (.slice (some ⟨g,0,none⟩) ts.length cap) (.slice pa ps.length pc) js gL w2.heap.size (fun _=>0) (w2.alloc (.cells (zerosA js.length) 3))):=by
  have hb3:Below w1.heap.size w1 (w2.alloc (.cells (zerosA js.length) 3)):=hb2.alloc hb2.size _;have h4:=hb2.size;exact⟨zK HS1.out hb3,HRB.out.below hb3 hgL2,Nat.lt_of_lt_of_le hgL2 hb3.size,zero_row (zW _ _ _),HB1.out.trans (hb3.mono HB1.out.size),by omega,by omega,by omega⟩
 clear hb2 HB1 HS1 s1 CC HRB;go_wp2_with fail;generalize w2.alloc (.cells (zerosA js.length) 3)=w3 at *;generalize w2.heap.size=gF at *
 go_loopw [6] (fun kv wr=>∃k:Nat,k<=js.length/\kv=.int .i64 k/\∃left,(∀q,q<k->left q=(jk js q).cost)/\GrM w (.slice (some ⟨g,0,none⟩) ts.length cap) (.slice pa ps.length pc) js gL gF left wr) (fun kv _=>js.length-(intOf kv).toNat)
 case atStart=>exact⟨0,by omega,rfl,_,fun q h=>by omega,HM2.out⟩
 case round=>
  clear HM2;obtain⟨k,hk,rfl,left,hlf,hM⟩:=hrel;by_cases hlt:k<js.length
  .have hlt':(k:Int)<js.length:=by omega
   obtain⟨q0,q1,q2,q3,q4⟩:=hM.l k hlt;have f0:=hM.f.cell hlt;have fz:=hM.f.loose;have HM2:=hide (hM.set hlt (jk js k).cost);have HLf:Hid (∀q,q<k+1->updL left k (jk js k).cost q=(jk js q).cost):=fun q hq=>by
    unfold updL;by_cases e:q=k
    .rw[if_pos e,e]
    .rw[if_neg e];exact hlf q (by omega)
   clear hM hlf;go_wp2_with fail;go_roundw
   case rel=>exact⟨k+1,by omega,by go_num,_,HLf.out,HM2.out⟩
   case measure=>simp[intOf];omega
  .have hlt':¬(k:Int)<js.length:=by omega
   have hke:k=js.length:=by omega
   subst hke;have HM2:=hide hM;have HLf:=hide hlf;clear hM hlf;have HLm:Hid (∀k,k<js.length->left k<=1000):=fun k hk=>by rw[HLf.out k hk];exact(HSm.out k hk).2.2
   have HG0:Hid (greedyJ js ps cyc 0 (costJ js)=greedyJ js ps (cyc-0) 0 left):=by
    unfold Hid;rw[Nat.sub_zero];exact HLeft.out left HLf.out
   clear HLf;go_wp2_with fail
   go_loopw [7] (fun tv wr=>∃(t:Nat) (left:Nat->Nat),t<=cyc/\tv=.int .i64 t/\greedyJ js ps cyc 0 (costJ js)=greedyJ js ps (cyc-t) t left/\(∀k,k<js.length->left k<=1000)/\GrM w (.slice (some ⟨g,0,none⟩) ts.length cap) (.slice pa ps.length pc) js gL gF left wr) (fun tv _=>cyc-(intOf tv).toNat)
   case atStart=>exact⟨0,left,Nat.zero_le _,rfl,HG0.out,HLm.out,HM2.out⟩
   case round=>
    clear HG0 HLm HM2;obtain⟨t,left,ht,rfl,hG,hlm,hM⟩:=hrel;have HG:=hide hG;clear hG;by_cases htl:t<cyc
    .have htl':(t:Int)<cyc:=by omega
     have HM:=hide hM;clear hM;go_wp2_with fail
     go_loopw [8,9] (fun bv kv wr=>∃k:Nat,k<=js.length/\kv=.int .i64 k/\bv=bestV (bestTo js ps left t k)/\GrM w (.slice (some ⟨g,0,none⟩) ts.length cap) (.slice pa ps.length pc) js gL gF left wr) (fun _ kv _=>js.length-(intOf kv).toNat)
     case atStart=>exact⟨0,Nat.zero_le _,rfl,rfl,HM.out⟩
     case round=>
      clear HM;obtain⟨k,hk,rfl,rfl,hM⟩:=hrel;by_cases hlt:k<js.length
      .have hlt':(k:Int)<js.length:=by omega
       obtain⟨q0,q1,q2,q3,q4⟩:=hM.l k hlt;have f0:=hM.f.cell hlt;have HBs:=hide ((bestTo_spec js ps left t k).2);have HM:=hide hM;have HRl:=HSm.out k hlt;have hr1:=HRl.1;have hr2:=HRl.2.1;have HL:=hide hM.l;clear hM HRl;by_cases hl0:0<left k
       .have d0:=int_pos hl0;have d0n:=decide_eq_true hl0;have d0p:(0:Int)<(left k:Int):=by omega
        by_cases hl1:(jk js k).rel<=t
        .have d1:=int_le hl1;have d1n:=decide_eq_true hl1;have d1p:((jk js k).rel:Int)<=(t:Int):=by omega
         cases hbt:bestTo js ps left t k with
         | none=>
          have HSo:Hid (sooB js k (bestTo js ps left t k)=true):=by unfold Hid;rw[hbt];rfl
          have HBv:Hid (bestV (bestTo js ps left t k)=.int .i64 (-1)):=by unfold Hid;rw[hbt];rfl
          have hb0:bestV none=.int .i64 (-1):=rfl;rw[hb0];clear hb0 hbt HBs HL;go_wp2_with fail
          go_quiet (fail)
          generalize hw4:World.drewN wr _=w4;have HM4:Hid (GrM w (.slice (some ⟨g,0,none⟩) ts.length cap) (.slice pa ps.length pc) js gL gF left w4):=by rw[←hw4];exact HM.out.same _
          clear hw4 HM q0 q1 q2 q3 q4 f0;have s4:=zC HM4.out.s;have CF4:=hide (CFr.out gL lc gF js.length left k w4 HM4.out.b HM4.out.hl HM4.out.l HM4.out.f hlt);go_wp2_with fail;refine CF4.out.mono ?_;rintro e w5 ⟨rfl,hb5⟩;have HM5:=hide (HM4.out.keep hb5);clear hb5 HM4 s4 CF4
          cases hfr:freeJ js ps left k with
          | true=>
           have HNx:=hide (best_take (js:=js) (ps:=ps) (left:=left) (t:=t) (k:=k) ⟨⟨hl0,hl1,hfr⟩,HSo.out⟩);clear hfr hl0 hl1 HSo;go_wp2_with fail;go_roundw
           case rel=>exact⟨k+1,by omega,by go_num,by rw[HNx.out];rfl,HM5.out⟩
           case measure=>simp[intOf];omega
          | false=>
           have HNx:=hide (best_skip (js:=js) (ps:=ps) (left:=left) (t:=t) (k:=k) (fun h=>by have:=h.1.2.2;rw[hfr]at this;cases this));clear hfr hl0 hl1 HSo;go_wp2_with fail;go_roundw
           case rel=>exact⟨k+1,by omega,by go_num,by rw[HNx.out,HBv.out],HM5.out⟩
           case measure=>simp[intOf];omega
         | some b=>
          obtain⟨hbk,_,_⟩:=HBs.out b hbt;have hbJ:b<js.length:=by omega
          obtain⟨p0,p1,p2,p3,p4⟩:=HL.out b hbJ;have hb2:=(HSm.out b hbJ).2.1;have HBv:Hid (bestV (bestTo js ps left t k)=.int .i64 b):=by unfold Hid;rw[hbt];rfl
          have hb0:bestV (some b)=.int .i64 b:=rfl;rw[hb0];have hbn:decide ((b:Int)<0)=false:=by rw[decide_eq_false_iff_not];omega
          have hbn2:¬(b:Int)<0:=by omega
          have hbJ':(b:Int)<js.length:=by omega
          by_cases hdl:(jk js k).dl<(jk js b).dl
          .have HSo:Hid (sooB js k (bestTo js ps left t k)=true):=by unfold Hid;rw[hbt];exact decide_eq_true hdl
           have d2:=int_lt hdl;have d2n:=decide_eq_true hdl;have d2p:((jk js k).dl:Int)<((jk js b).dl:Int):=by omega
           clear hb0 hbt HBs HL hdl;go_wp2_with fail
           go_quiet (fail)
           clear p0 p1 p2 p3 p4;generalize hw4:World.drewN wr _=w4;have HM4:Hid (GrM w (.slice (some ⟨g,0,none⟩) ts.length cap) (.slice pa ps.length pc) js gL gF left w4):=by rw[←hw4];exact HM.out.same _
           clear hw4 HM q0 q1 q2 q3 q4 f0;have s4:=zC HM4.out.s;have CF4:=hide (CFr.out gL lc gF js.length left k w4 HM4.out.b HM4.out.hl HM4.out.l HM4.out.f hlt);go_wp2_with fail;refine CF4.out.mono ?_;rintro e w5 ⟨rfl,hb5⟩;have HM5:=hide (HM4.out.keep hb5);clear hb5 HM4 s4 CF4
           cases hfr:freeJ js ps left k with
           | true=>
            have HNx:=hide (best_take (js:=js) (ps:=ps) (left:=left) (t:=t) (k:=k) ⟨⟨hl0,hl1,hfr⟩,HSo.out⟩);clear hfr hl0 hl1 HSo;go_wp2_with fail;go_roundw
            case rel=>exact⟨k+1,by omega,by go_num,by rw[HNx.out];rfl,HM5.out⟩
            case measure=>simp[intOf];omega
           | false=>
            have HNx:=hide (best_skip (js:=js) (ps:=ps) (left:=left) (t:=t) (k:=k) (fun h=>by have:=h.1.2.2;rw[hfr]at this;cases this));clear hfr hl0 hl1 HSo;go_wp2_with fail;go_roundw
            case rel=>exact⟨k+1,by omega,by go_num,by rw[HNx.out,HBv.out],HM5.out⟩
            case measure=>simp[intOf];omega
          .have HNx:=hide (best_skip (js:=js) (ps:=ps) (left:=left) (t:=t) (k:=k) (fun h=>by have:=h.2;rw[hbt]at this;exact hdl (of_decide_eq_true this)));have d2:=int_ge hdl;have d2n:=decide_eq_false hdl;have d2p:¬((jk js k).dl:Int)<((jk js b).dl:Int):=by omega
           clear hb0 hbt HBs HL hdl;go_wp2_with fail
           go_quiet (fail)
           clear p0 p1 p2 p3 p4;generalize hw4:World.drewN wr _=w4;have HM4:Hid (GrM w (.slice (some ⟨g,0,none⟩) ts.length cap) (.slice pa ps.length pc) js gL gF left w4):=by rw[←hw4];exact HM.out.same _
           clear hw4 HM q0 q1 q2 q3 q4 f0;go_wp2_with fail;go_roundw
           case rel=>exact⟨k+1,by omega,by go_num,by rw[HNx.out,HBv.out],HM4.out⟩
           case measure=>simp[intOf];omega
        .have HNx:=hide (best_skip (js:=js) (ps:=ps) (left:=left) (t:=t) (k:=k) (fun h=>hl1 h.1.2.1));have d1:=int_nle hl1;have d1n:=decide_eq_false hl1;have d1p:¬((jk js k).rel:Int)<=(t:Int):=by omega
         clear HBs HL hl1;obtain⟨bv,hbv⟩:∃bv:Int,bestV (bestTo js ps left t k)=.int .i64 bv:=by
          cases bestTo js ps left t k
          .exact⟨-1,rfl⟩
          .exact⟨_,rfl⟩
         have HBv:=hide hbv;rw[hbv];clear hbv;go_wp2_with fail
         go_quiet (fail)
         generalize hw4:World.drewN wr _=w4;have HM4:Hid (GrM w (.slice (some ⟨g,0,none⟩) ts.length cap) (.slice pa ps.length pc) js gL gF left w4):=by rw[←hw4];exact HM.out.same _
         clear hw4 HM q0 q1 q2 q3 q4 f0;go_wp2_with fail;go_roundw
         case rel=>exact⟨k+1,by omega,by go_num,by rw[HNx.out,HBv.out],HM4.out⟩
         case measure=>simp[intOf];omega
       .have HNx:=hide (best_skip (js:=js) (ps:=ps) (left:=left) (t:=t) (k:=k) (fun h=>hl0 h.1.1));have d0:=int_zero hl0;have d0n:=decide_eq_false hl0;have d0p:¬(0:Int)<(left k:Int):=by omega
        clear HBs HL hl0;obtain⟨bv,hbv⟩:∃bv:Int,bestV (bestTo js ps left t k)=.int .i64 bv:=by
         cases bestTo js ps left t k
         .exact⟨-1,rfl⟩
         .exact⟨_,rfl⟩
        have HBv:=hide hbv;rw[hbv];clear hbv;go_wp2_with fail
        go_quiet (fail)
        generalize hw4:World.drewN wr _=w4;have HM4:Hid (GrM w (.slice (some ⟨g,0,none⟩) ts.length cap) (.slice pa ps.length pc) js gL gF left w4):=by rw[←hw4];exact HM.out.same _
        clear hw4 HM q0 q1 q2 q3 q4 f0;go_wp2_with fail;go_roundw
        case rel=>exact⟨k+1,by omega,by go_num,by rw[HNx.out,HBv.out],HM4.out⟩
        case measure=>simp[intOf];omega
      .have hlt':¬(k:Int)<js.length:=by omega
       have hke:k=js.length:=by omega
       subst hke;have HM:=hide hM;have HBs:=hide (bestTo_spec js ps left t js.length);clear hM
       cases hbt:bestTo js ps left t js.length with
       | none=>
        have hb0:bestV none=.int .i64 (-1):=rfl;rw[hb0];have HGn:Hid (greedyJ js ps cyc 0 (costJ js)=greedyJ js ps (cyc-(t+1)) (t+1) left):=by
         unfold Hid;rw[HG.out,show cyc-t=(cyc-(t+1))+1 by omega,HSt.out,hbt]
        clear hbt hb0 HBs;go_wp2_with fail;go_roundw
        case rel=>exact⟨t+1,left,by omega,by go_num,HGn.out,hlm,HM.out⟩
        case measure=>simp[intOf];omega
       | some b=>
        obtain⟨hbJ,hcd,_⟩:=HBs.out.2 b hbt;have hb0:bestV (some b)=.int .i64 b:=rfl;rw[hb0];obtain⟨p0,p1,p2,p3,p4⟩:=HM.out.l b hbJ;have f0:=HM.out.f.cell hbJ;have fz:=HM.out.f.loose;have hb2:=(HSm.out b hbJ).2.1;have hbJ':(b:Int)<js.length:=by omega
        have hbn:(0:Int)<=(b:Int):=by omega
        have hlb:=hlm b hbJ;obtain⟨y,hy⟩:∃y,left b=y+1:=⟨left b-1,by have:=hcd.1;omega⟩;by_cases hdl:(jk js b).dl<=t
        .have hdl':((jk js b).dl:Int)<=(t:Int):=by omega
         have HGn:Hid (greedyJ js ps cyc 0 (costJ js)=false):=by
          unfold Hid;rw[HG.out,show cyc-t=(cyc-(t+1))+1 by omega,HSt.out,hbt];simp only;rw[if_pos hdl]
         have HB:=hide HM.out.b;clear hbt hb0 HBs hcd HM;go_wp2_with fail;go_ret;exact⟨by rw[HGn.out];rfl,HB.out⟩
        .have hdl':¬((jk js b).dl:Int)<=(t:Int):=by omega
         have HGn:Hid (greedyJ js ps cyc 0 (costJ js)=greedyJ js ps (cyc-(t+1)) (t+1) (updL left b y)):=by
          unfold Hid;rw[HG.out,show cyc-t=(cyc-(t+1))+1 by omega,HSt.out,hbt];simp only;rw[if_neg hdl,hy,Nat.add_sub_cancel]
         have HM2:=hide (HM.out.set hbJ y);have hlm2:∀k,k<js.length->updL left b y k<=1000:=fun q hq=>by
          unfold updL;split
          .omega
          .exact hlm q hq
         rw[hy]at f0;clear hbt hb0 HBs hcd HM hdl;have Hy:=hide hy;have hy2:y<=1000:=by omega
         clear hy;go_wp2_with fail;go_roundw
         case rel=>exact⟨t+1,updL left b y,by omega,by go_num,HGn.out,hlm2,HM2.out⟩
         case measure=>simp[intOf];omega
    .have htl':¬(t:Int)<cyc:=by omega
     have hte:t=cyc:=by omega
     have HGf:Hid (greedyJ js ps cyc 0 (costJ js)=allJ js left):=by
      unfold Hid;rw[HG.out,hte,Nat.sub_self];rfl
     have HM:=hide hM;clear hM HG hte;go_wp2_with fail
     go_loopw [11] (fun kv wr=>∃k:Nat,k<=js.length/\kv=.int .i64 k/\(∀q,q<k->left q=0)/\GrM w (.slice (some ⟨g,0,none⟩) ts.length cap) (.slice pa ps.length pc) js gL gF left wr) (fun kv _=>js.length-(intOf kv).toNat)
     case atStart=>exact⟨0,Nat.zero_le _,rfl,fun q h=>by omega,HM.out⟩
     case round=>
      clear HM;obtain⟨k,hk,rfl,hz,hM⟩:=hrel;have Hz:=hide hz;have HB:=hide hM.b;by_cases hlt:k<js.length
      .have hlt':(k:Int)<js.length:=by omega
       have f0:=hM.f.cell hlt;have HM:=hide hM;clear hM hz;by_cases hl0:0<left k
       .have d0p:(0:Int)<(left k:Int):=by omega
        have HF:Hid (greedyJ js ps cyc 0 (costJ js)=false):=by
         unfold Hid;rw[HGf.out];unfold allJ;rw[List.all_eq_false];exact⟨k,by simpa using hlt,by simp;omega⟩
        go_wp2_with fail;go_ret;exact⟨by rw[HF.out];rfl,HB.out⟩
       .have d0p:¬(0:Int)<(left k:Int):=by omega
        have Hz2:Hid (∀q,q<k+1->left q=0):=fun q hq=>by
         by_cases e:q=k
         .rw[e];omega
         .exact Hz.out q (by omega)
        go_wp2_with fail;go_roundw
        case rel=>exact⟨k+1,by omega,by go_num,Hz2.out,HM.out⟩
        case measure=>simp[intOf];omega
      .have hlt':¬(k:Int)<js.length:=by omega
       have HF:Hid (greedyJ js ps cyc 0 (costJ js)=true):=by
        unfold Hid;rw[HGf.out];unfold allJ;rw[List.all_eq_true];intro q hq;have:=Hz.out q (by simp at hq;omega);simp[this]
       clear hM hz;go_wp2_with fail;go_ret;exact⟨by rw[HF.out];rfl,HB.out⟩
structure OdM (w wr:World) (c f:Nat) (sv:Value) (p:Pr):Prop where
 t:wr.heap[w.heap.size]? =some (.cells #[.int .i64 c,.int .i64 f,sv] 39 (0,0))
 p:wr.heap[w.heap.size+1]? =some (.cells (prA p) 133 (0,0))
 b:Below w.heap.size w wr
section
variable {w wr:World} {c f:Nat} {sv:Value} {p:Pr}
theorem OdM.start (w:World)(c f:Nat)(sv:Value)(p:Pr):OdM w ((w.alloc (.cells #[.int .i64 c,.int .i64 f,sv] 39)).alloc (.cells (prA p) 133)) c f sv p:=by
 have h1:=zW w #[.int .i64 c,.int .i64 f,sv] 39;have h2:=zW (w.alloc (.cells #[.int .i64 c,.int .i64 f,sv] 39)) (prA p) 133;simp only[World.size_alloc]at h2;exact⟨zK h1 (zN _ _),h2,(zN w _).alloc (by simp) _⟩
theorem OdM.keep (h:OdM w wr c f sv p){w':World}(hb:Below wr.heap.size wr w'):OdM w w' c f sv p:=⟨zK h.t hb,zK h.p hb,h.b.trans (hb.mono h.b.size)⟩
end
theorem rordered_yes (c f:Nat)(l:List FSl)(g cap:Nat)(p:Pr)(na nb:Nat)(w:World)(hg:g<w.heap.size)(hr:RowF w g l)(hn:l.length<=300)(hs:∀k,k<l.length->(fsk l k).small)(hna:na<=100)(hnb:nb<=100)
  (h1:p.ap=false->∀a,a<na->(spotL l p.a a).lst<=(spotL l p.b a).fst) (h2:p.ap=true->∀a b,a<na->b<nb->¬((spotL l p.a a).fst<(spotL l p.b b).lst/\(spotL l p.b b).fst<(spotL l p.a a).lst)):
  Calls Tryz.prog 136 #[.agg #[.int .i64 c,.int .i64 f,.slice (some ⟨g,0,none⟩) l.length cap],.agg (prA p),.int .i64 na,.int .i64 nb] w fun e w'=>e=.returned (.bool true)/\Below w.heap.size w w':=by
 have HM0:=hide (OdM.start w c f (.slice (some ⟨g,0,none⟩) l.length cap) p);have CS:Hid (∀(nm:UInt8) (j:Nat) (W:World),j<=9999->Below w.heap.size w W->Calls Tryz.prog 47 #[.agg #[.int .i64 c,.int .i64 f,.slice (some ⟨g,0,none⟩) l.length cap],.int .u8 nm.toNat,.int .i64 j] W fun e w'=>e=.returned (.agg #[.int .i64 (spotL l nm j).fst,.int .i64 (spotL l nm j).lst,.int .i64 (spotL l nm j).cost])/\Below W.heap.size W w'):=fun nm j W hj hW=>rspot_any c f l g cap nm j W (Nat.lt_of_lt_of_le hg hW.size) (hr.below hW hg) hn hs hj;have H1:=hide h1;have H2:=hide h2;clear hr hs h1 h2;unfold prA at HM0 ⊢;go_enter Tryz.func136,Tryz.ntmps136;go_wp2_with fail;generalize (w.alloc (.cells #[.int .i64 c,.int .i64 f,.slice (some ⟨g,0,none⟩) l.length cap] 39)).alloc _=w0 at *
 go_loopw [9] (fun av wr=>∃a:Nat,a<=na/\av=.int .i64 a/\OdM w wr c f (.slice (some ⟨g,0,none⟩) l.length cap) p) (fun av _=>na-(intOf av).toNat)
 case atStart=>exact⟨0,Nat.zero_le _,rfl,HM0.out⟩
 case round=>
  clear HM0;obtain⟨a,ha,rfl,hM⟩:=hrel;have t0:=zC hM.t;obtain⟨x0,x1,x2,x3,x4⟩:=prA_cells (p:=p) hM.p;have HM:=hide hM;clear hM;by_cases hlt:a<na
  .have hlt':(a:Int)<na:=by omega
   have C1:=hide (CS.out p.a a wr (by omega) HM.out.b);go_wp2_with fail;refine C1.out.mono ?_;rintro e w2 ⟨rfl,hb2⟩;have hb3:Below wr.heap.size wr (w2.alloc (.cells #[.int .i64 (spotL l p.a a).fst,.int .i64 (spotL l p.a a).lst,.int .i64 (spotL l p.a a).cost] 78)):=hb2.alloc hb2.size _;have HM3:=hide (HM.out.keep hb3);have HX:=hide (zW w2 #[.int .i64 (spotL l p.a a).fst,.int .i64 (spotL l p.a a).lst,.int .i64 (spotL l p.a a).cost] 78);clear hb2 hb3 HM t0 x0 x1 x2 x3 x4 C1;go_upto_region 5 with fail;generalize w2.alloc (.cells #[.int .i64 (spotL l p.a a).fst,.int .i64 (spotL l p.a a).lst,.int .i64 (spotL l p.a a).cost] 78)=w3 at *;generalize w2.heap.size=X at *;have t0:=zC HM3.out.t;obtain⟨x0,x1,x2,x3,x4⟩:=prA_cells (p:=p) HM3.out.p;have y0:=zC HX.out;rcases Bool.eq_false_or_eq_true p.ap with hap|hap
   .have x2t:w3.cell? ⟨w.heap.size+1,2,none⟩=some (.bool true):=by rw[x2,hap]
    clear x2 y0;go_wp2_with fail
    go_loopw [12] (fun bv wq=>∃b:Nat,b<=nb/\bv=.int .i64 b/\Below w3.heap.size w3 wq) (fun bv _=>nb-(intOf bv).toNat)
    case atStart=>exact⟨0,Nat.zero_le _,rfl,Below.refl _ _⟩
    case round=>
     obtain⟨b,hb,rfl,hB⟩:=hrel;have HMb:=hide (HM3.out.keep hB);have HXb:=hide (zK HX.out hB);have HBb:=hide hB;clear t0 x0 x1 x3 x4 x2t hB;have t0:=zC HMb.out.t;obtain⟨x0,x1,x2,x3,x4⟩:=prA_cells (p:=p) HMb.out.p;have x2t:wr.cell? ⟨w.heap.size+1,2,none⟩=some (.bool true):=by rw[x2,hap]
     clear x2;by_cases hbl:b<nb
     .have hbl':(b:Int)<nb:=by omega
      have C2:=hide (CS.out p.b b wr (by omega) HMb.out.b);have hno:=H2.out hap a b hlt hbl;generalize spotL l p.b b=Y at *;generalize spotL l p.a a=Z at *;go_wp2_with fail;refine C2.out.mono ?_;rintro e w5 ⟨rfl,hb5⟩;have hb6:Below wr.heap.size wr (w5.alloc (.cells #[.int .i64 Y.fst,.int .i64 Y.lst,.int .i64 Y.cost] 78)):=hb5.alloc hb5.size _;have HB6:=hide (HBb.out.trans (hb6.mono HBb.out.size));have z0:=zC (zW w5 #[.int .i64 Y.fst,.int .i64 Y.lst,.int .i64 Y.cost] 78);have y0:=zC (zK HXb.out hb6);clear hb5 hb6 C2 HMb HXb HBb t0 x0 x1 x3 x4 x2t;go_upto_region 13 with fail;generalize w5.alloc (.cells #[.int .i64 Y.fst,.int .i64 Y.lst,.int .i64 Y.cost] 78)=w6 at *;generalize w5.heap.size=X5 at *;have y00:w6.cell? ⟨X,0,none⟩=some (.int .i64 Z.fst):=y0 0;have y01:w6.cell? ⟨X,1,none⟩=some (.int .i64 Z.lst):=y0 1;have z00:w6.cell? ⟨X5,0,none⟩=some (.int .i64 Y.fst):=z0 0;have z01:w6.cell? ⟨X5,1,none⟩=some (.int .i64 Y.lst):=z0 1;clear y0 z0;by_cases hq:Z.fst<Y.lst
      .have hq2:¬Y.fst<Z.lst:=fun h=>hno ⟨hq,h⟩;clear hno;go_wp2_with fail;go_roundw
       case rel=>exact⟨b+1,by omega,by go_num,HB6.out⟩
       case measure=>simp[intOf];omega
      .clear hno;go_wp2_with fail;go_roundw
       case rel=>exact⟨b+1,by omega,by go_num,HB6.out⟩
       case measure=>simp[intOf];omega
     .have hbl':¬(b:Int)<nb:=by omega
      go_wp2_with fail;go_roundw
      case rel=>exact⟨a+1,by omega,by go_num,HMb.out⟩
      case measure=>simp[intOf];omega
   .have x2f:w3.cell? ⟨w.heap.size+1,2,none⟩=some (.bool false):=by rw[x2,hap]
    have C2:=hide (CS.out p.b a w3 (by omega) HM3.out.b);have hno:=H1.out hap a hlt;have HAP:=hide hap;clear x2 hap;generalize spotL l p.b a=Y at *;generalize spotL l p.a a=Z at *;go_wp2_with fail;refine C2.out.mono ?_;rintro e w5 ⟨rfl,hb5⟩;have hb6:Below w3.heap.size w3 (w5.alloc (.cells #[.int .i64 Y.fst,.int .i64 Y.lst,.int .i64 Y.cost] 78)):=hb5.alloc hb5.size _;have HM6:=hide (HM3.out.keep hb6);have z0:=zC (zW w5 #[.int .i64 Y.fst,.int .i64 Y.lst,.int .i64 Y.cost] 78);have y6:=zC (zK HX.out hb6);clear hb5 hb6 C2 HM3 HX t0 x0 x1 x3 x4 x2f y0;go_upto_region 7 with fail;generalize w5.alloc (.cells #[.int .i64 Y.fst,.int .i64 Y.lst,.int .i64 Y.cost] 78)=w6 at *;generalize w5.heap.size=X5 at *;have y01:w6.cell? ⟨X,1,none⟩=some (.int .i64 Z.lst):=y6 1;have z00:w6.cell? ⟨X5,0,none⟩=some (.int .i64 Y.fst):=z0 0;obtain⟨x0,x1,x2,x3,x4⟩:=prA_cells (p:=p) HM6.out.p;have x2f:w6.cell? ⟨w.heap.size+1,2,none⟩=some (.bool false):=by rw[x2,HAP.out]
    have hno2:¬Y.fst<Z.lst:=by omega
    clear y6 z0 x2 hno;go_wp2_with fail
    go_loopw [12] (fun bv wq=>bv=.int .i64 0/\wq=w6) (fun _ _=>0)
    case atStart=>exact⟨rfl,rfl⟩
    case round=>
     obtain⟨rfl,rfl⟩:=hrel;go_wp2_with fail;go_roundw
     case rel=>exact⟨a+1,by omega,by go_num,HM6.out⟩
     case measure=>simp[intOf];omega
  .have hlt':¬(a:Int)<na:=by omega
   have HB:=hide HM.out.b;clear HM;go_wp2_with fail;go_ret;exact⟨rfl,HB.out⟩
end
end Go.Proofs.YtbdffcjganlblaaGreatDoor
