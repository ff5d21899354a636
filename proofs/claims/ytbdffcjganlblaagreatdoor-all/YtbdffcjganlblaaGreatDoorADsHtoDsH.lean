import Derived.Test.YtbdffcjganlblaaGreatDoorADsFtoAlB
import Derived.Test.YtbdffcjganlblaaGreatDoorADsFtoAlB
import Derived.Test.YtbdffcjganlblaaGreatDoorADsFtoAlB
import Derived.Test.YtbdffcjganlblaaGreatDoorAGrAtoDsA
import Derived.Test.YtbdffcjganlblaaGreatDoorAPnFtoSoC
set_option linter.unusedVariables false
set_option linter.unusedSimpArgs false
set_option maxRecDepth 100000
set_option maxHeartbeats 16000000
namespace Go.Proofs.YtbdffcjganlblaaGreatDoor
section
open Go.RowKit
structure KeM (w:World) (tv pv:Value) (c f:Nat) (sv:Value) (wr:World):Prop where
 s:wr.heap[w.heap.size]? =some (.cells #[tv,pv] 53 (0,0))
 t:wr.heap[w.heap.size+1]? =some (.cells #[.int .i64 c,.int .i64 f,sv] 39 (0,0))
 b:Below w.heap.size w wr
section
variable {w:World} {tv pv sv:Value} {c f:Nat} {wr:World}
theorem KeM.start (w:World)(tv pv sv:Value)(c f:Nat):KeM w tv pv c f sv ((w.alloc (.cells #[tv,pv] 53)).alloc (.cells #[.int .i64 c,.int .i64 f,sv] 39)):=by
 have h1:=zW w #[tv,pv] 53;have h2:=zW (w.alloc (.cells #[tv,pv] 53)) #[.int .i64 c,.int .i64 f,sv] 39;simp only[World.size_alloc]at h2;exact⟨zK h1 (zN _ _),h2,(zN w _).alloc (by simp) _⟩
theorem KeM.keep (h:KeM w tv pv c f sv wr){w':World}(hb:Below wr.heap.size wr w'):KeM w tv pv c f sv w':=⟨zK h.s hb,zK h.t hb,h.b.trans (hb.mono h.b.size)⟩
theorem KeM.cells (h:KeM w tv pv c f sv wr):wr.cell? ⟨w.heap.size,0,none⟩=some tv/\wr.cell? ⟨w.heap.size,1,none⟩=some pv/\wr.cell? ⟨w.heap.size+1,0,none⟩=some (.int .i64 c)/\wr.cell? ⟨w.heap.size+1,1,none⟩=some (.int .i64 f)/\wr.cell? ⟨w.heap.size+1,2,none⟩=some sv:=by
 simp only[zC h.s,zC h.t];exact⟨rfl,rfl,rfl,rfl,rfl⟩
end
theorem tk_below {B Y:Nat}{w w':World}(hb:Below B w w')(hY:B<=Y)(v0 v1 v2 v3 v4 v5 v6 v7 v8 v9:Value):Below B w ((((((((((w'.setCell ⟨Y,0,none⟩ v0).setCell ⟨Y,1,none⟩ v1).setCell ⟨Y,2,none⟩ v2).setCell ⟨Y,3,none⟩ v3).setCell ⟨Y,4,none⟩ v4).setCell ⟨Y,5,none⟩ v5).setCell ⟨Y,6,none⟩ v6).setCell ⟨Y,7,none⟩ v7).setCell ⟨Y,8,none⟩ v8).setCell ⟨Y,9,none⟩ v9):=
 (((((((((hb.setCell hY _).setCell hY _).setCell hY _).setCell hY _).setCell hY _).setCell hY _).setCell hY _).setCell hY _).setCell hY _).setCell hY _
theorem tk_cell {Y:Nat}{w':World}{c:Array Value}{ty:TypeId}(hc:c.size=10)(h:w'.heap[Y]? =some (.cells c ty (0,0)))(v0 v1 v2 v3 v4 v5 v6 v7 v8 v9:Value):((((((((((w'.setCell ⟨Y,0,none⟩ v0).setCell ⟨Y,1,none⟩ v1).setCell ⟨Y,2,none⟩ v2).setCell ⟨Y,3,none⟩ v3).setCell ⟨Y,4,none⟩ v4).setCell ⟨Y,5,none⟩ v5).setCell ⟨Y,6,none⟩ v6).setCell ⟨Y,7,none⟩ v7).setCell ⟨Y,8,none⟩ v8).setCell ⟨Y,9,none⟩ v9).cell? ⟨Y,1,none⟩=some v1/\Y<((((((((((w'.setCell ⟨Y,0,none⟩ v0).setCell ⟨Y,1,none⟩ v1).setCell ⟨Y,2,none⟩ v2).setCell ⟨Y,3,none⟩ v3).setCell ⟨Y,4,none⟩ v4).setCell ⟨Y,5,none⟩ v5).setCell ⟨Y,6,none⟩ v6).setCell ⟨Y,7,none⟩ v7).setCell ⟨Y,8,none⟩ v8).setCell ⟨Y,9,none⟩ v9).heap.size:=by
 have h10:=zS (zS (zS (zS (zS (zS (zS (zS (zS (zS h 0 v0) 1 v1) 2 v2) 3 v3) 4 v4) 5 v5) 6 v6) 7 v7) 8 v8) 9 v9;refine⟨?_,zL h10⟩;rw[zC h10];simp[Array.getElem?_setIfInBounds,hc]
theorem rKeeps_yes (ts:List Tk)(ps:List Pr)(cyc g cap:Nat)(pa:Option Addr)(pc:Nat)(F:Nat)(l:List FSl)(gT cT:Nat)(w:World)(hg:g<w.heap.size)(hr:RowT w g ts)(hn:ts.length<=6)(hp6:ps.length<=6)(hp:0<ps.length->∃gp,pa=some ⟨gp,0,none⟩/\gp<w.heap.size/\RowP w gp ps)(hpt:∀p∈ps,∃i j,PairT ts p i j)(hts:TsOk ts cyc)(hcy:cycI ts=cyc)(hne:0<(zJ cyc 0 ts).length)
  (hgT:gT<w.heap.size) (hrT:RowF w gT l) (hn3:l.length<=300) (hs:∀k,k<l.length->(fsk l k).small) (hF:F<=60) (hK:KpT (zJ cyc 0 ts) F l)
  (ho1:∀p∈ps,p.ap=false->∀a,a<cyc/(tsk ts (findI ts p.a).toNat).P->(spotL l p.a a).lst<=(spotL l p.b a).fst)
  (ho2:∀p∈ps,p.ap=true->∀a b,a<cyc/(tsk ts (findI ts p.a).toNat).P->b<cyc/(tsk ts (findI ts p.b).toNat).P->¬((spotL l p.a a).fst<(spotL l p.b b).lst/\(spotL l p.b b).fst<(spotL l p.a a).lst)):
  Calls Tryz.prog 98 #[.agg #[.slice (some ⟨g,0,none⟩) ts.length cap,.slice pa ps.length pc],.agg #[.int .i64 cyc,.int .i64 F,.slice (some ⟨gT,0,none⟩) l.length cT]] w fun e w'=>e=.returned (.bool true)/\Below w.heap.size w w':=by
 have hc1:=hts.c1;have hc2:=hts.c2;have hjs:=jobs_of hts;have hj360:=jobs_few hts;have HPk:Hid (∀k,k<ts.length->1<=(tsk ts k).P/\(tsk ts k).P<=60):=fun k hk=>by
  have h5:=hts.each _ (tsk_mem hk);have h6:(tsk ts k).P<=cyc:=Nat.le_of_dvd (by omega) (Nat.dvd_of_mod_eq_zero h5.2.1);omega
 have HM0:=hide (KeM.start w (.slice (some ⟨g,0,none⟩) ts.length cap) (.slice pa ps.length pc) (.slice (some ⟨gT,0,none⟩) l.length cT) cyc F);have CJ:=hide (fun W (hW:Below w.heap.size w W)=>rSetJobs_any ts cyc g cap pa ps.length pc W (Nat.lt_of_lt_of_le hg hW.size) (hr.below hW hg) hn hts hcy);have CC:=hide (fun W (hW:Below w.heap.size w W)=>rCycle_any ts g cap (.slice pa ps.length pc) pa ps.length pc rfl W (Nat.lt_of_lt_of_le hg hW.size) (hr.below hW hg) hn HPk.out);rw[hcy]at CC;have CFi:=hide (fun (c:UInt8) W (hW:Below w.heap.size w W)=>rfind_any ts g cap (.slice pa ps.length pc) pa ps.length pc rfl c W (Nat.lt_of_lt_of_le hg hW.size) (hr.below hW hg) hn);have CS:Hid (∀(nm:UInt8) (j:Nat) (W:World),j<=9999->Below w.heap.size w W->Calls Tryz.prog 47 #[.agg #[.int .i64 cyc,.int .i64 F,.slice (some ⟨gT,0,none⟩) l.length cT],.int .u8 nm.toNat,.int .i64 j] W fun e w'=>e=.returned (.agg #[.int .i64 (spotL l nm j).fst,.int .i64 (spotL l nm j).lst,.int .i64 (spotL l nm j).cost])/\Below W.heap.size W w'):=fun nm j W hj hW=>rspot_any cyc F l gT cT nm j W (Nat.lt_of_lt_of_le hgT hW.size) (hrT.below hW hgT) hn3 hs hj;have HSm:Hid (∀k,k<(zJ cyc 0 ts).length->(jk (zJ cyc 0 ts) k).rel<=1000/\(jk (zJ cyc 0 ts) k).dl<=1000/\(jk (zJ cyc 0 ts) k).cost<=60/\(jk (zJ cyc 0 ts) k).num<=60/\(jk (zJ cyc 0 ts) k).tsk<ts.length/\(tsk ts (jk (zJ cyc 0 ts) k).tsk).nm=(jk (zJ cyc 0 ts) k).ltr):=fun k hk=>by
  have h1:=hjs.win k hk;have h2:=hjs.cyc k hk;obtain⟨t1,t2,t3,_⟩:=job_task hk;have h4:=Nat.div_le_self cyc (tsk ts (jk (zJ cyc 0 ts) k).tsk).P;exact⟨by omega,by omega,by omega,by omega,t1,t2.symm⟩
 have HK:=hide hK;have HR:=hide hr;have HRT:=hide hrT;have HP:=hide hp;have HS:=hide hs;have HO1:=hide ho1;have HO2:=hide ho2;have HPt:=hide hpt;clear hr hrT hts hcy hjs hp hpt hs ho1 ho2 hK;generalize zJ cyc 0 ts=js at *;go_enter Tryz.func98,Tryz.ntmps98;go_wp2_with fail;generalize (w.alloc (.cells #[.slice (some ⟨g,0,none⟩) ts.length cap,.slice pa ps.length pc] 53)).alloc _=w0 at *;have C0:Hid (∀W,Below w0.heap.size w0 W->W.cell? ⟨w.heap.size,0,none⟩=some (.slice (some ⟨g,0,none⟩) ts.length cap)/\W.cell? ⟨w.heap.size,1,none⟩=some (.slice pa ps.length pc)/\W.cell? ⟨w.heap.size+1,0,none⟩=some (.int .i64 cyc)):=fun W hW=>by
  obtain⟨x0,x1,x2,_,_⟩:=(HM0.out.keep hW).cells;exact⟨x0,x1,x2⟩
 have bA:=hide ((Below.refl w0.heap.size w0).drew);have CC0:Hid (∀W,Below w0.heap.size w0 W->Calls Tryz.prog 54 #[.agg #[.slice (some ⟨g,0,none⟩) ts.length cap,.slice pa ps.length pc]] W fun e w'=>e=.returned (.int .i64 cyc)/\Below w0.heap.size w0 w'):=fun W hW=>(CC.out W (HM0.out.b.trans (hW.mono HM0.out.b.size))).mono (fun e w' h=>⟨h.1,hW.trans (h.2.mono hW.size)⟩);obtain⟨x0,x1,x2⟩:=C0.out w0 (Below.refl _ _)
 go_cut [20] (fun v wc=>v=.bool false/\Below w0.heap.size w0 wc)
 case first=>
  go_region_with (go_at_call 54;refine(CC0.out _ bA.out).mono ?_;rintro e w9 ⟨rfl,hb9⟩;obtain⟨y0,y1,y2⟩:=C0.out _ hb9)
  all_goals
   go_wp2_with fail
   go_meet
   case rel=>exact⟨rfl,hb9⟩
 clear x0 x1 x2;obtain⟨rfl,hb9⟩:=hcut;have HM9:=hide (HM0.out.keep hb9);clear hb9 bA CC0 C0 HM0 CC;obtain⟨x0,x1,x2,x3,x4⟩:=HM9.out.cells;have CJ9:=hide (CJ.out wc HM9.out.b);go_wp2_with fail;refine CJ9.out.mono ?_;rintro e w1 ⟨la,lc,rfl,hown,hb1⟩;have HM1:=hide (HM9.out.keep hb1);obtain⟨gL,lcap,hv,hgL1,hgL2⟩:=own_form hown (by omega);injection hv with e1 _ e3;subst e1 e3;have HRB:=hide (rowB_own hown);clear hb1 hown CJ CJ9 HM9 x0 x1 x2 x3 x4;go_wp2_with fail
 go_loopw [6,7] (fun av kv wr=>∃k:Nat,k<=js.length/\kv=.int .i64 k/\av=.int .i64 (sumN (fun q=>(jk js q).cost) k)/\Below w1.heap.size w1 wr) (fun _ kv _=>js.length-(intOf kv).toNat)
 case atStart=>exact⟨0,by omega,rfl,rfl,Below.refl _ _⟩
 case round=>
  obtain⟨k,hk,rfl,rfl,hb⟩:=hrel;have HB:=hide hb;clear hb;by_cases hlt:k<js.length
  .have hlt':(k:Int)<js.length:=by omega
   have HMk:=hide (HM1.out.keep HB.out);obtain⟨a,b,ha,hb,hsp,hfa,hfb⟩:=HK.out.spot k hlt;obtain⟨m1,m2,m3,m4,m5,m6⟩:=HSm.out k hlt;have hkn:¬(k:Int)<0:=by omega
   have hsum:sumN (fun q=>(jk js q).cost) k<=60*k:=by
    have h1:=sumN_le (f:=fun q=>(jk js q).cost) (g:=fun _=>60) k (fun i hi=>(HSm.out i (by omega)).2.2.1);have h2:∀n,sumN (fun _=>60) n=60*n:=fun n=>by induction n with
     | zero=>rfl
     | succ n ih=>rw[sumN,ih];omega
    rw[h2]at h1;exact h1
   have HSn:Hid (((sumN (fun q=>(jk js q).cost) k:Nat):Int)+((jk js k).cost:Int)=((sumN (fun q=>(jk js q).cost) (k+1):Nat):Int)):=by
    unfold Hid;rw[sumN];omega
   generalize sumN (fun q=>(jk js q).cost) k=sm at *;have hwlt:w.heap.size+1<wr.heap.size:=zL HMk.out.t;have hgLr:gL<wr.heap.size:=Nat.lt_of_lt_of_le hgL2 HB.out.size;have HKc:Hid (∀W,Below wr.heap.size wr W->(W.cell? ⟨w.heap.size,0,none⟩=some (.slice (some ⟨g,0,none⟩) ts.length cap)/\W.cell? ⟨w.heap.size,1,none⟩=some (.slice pa ps.length pc)/\W.cell? ⟨w.heap.size+1,0,none⟩=some (.int .i64 cyc)/\W.cell? ⟨w.heap.size+1,1,none⟩=some (.int .i64 F)/\W.cell? ⟨w.heap.size+1,2,none⟩=some (.slice (some ⟨gT,0,none⟩) l.length cT))/\W.cell? ⟨gL,k*5,none⟩=some (.int .i64 (jk js k).tsk)/\W.cell? ⟨gL,k*5+1,none⟩=some (.int .i64 (jk js k).num)/\W.cell? ⟨g,(jk js k).tsk*10,none⟩=some (.int .u8 (jk js k).ltr.toNat)):=fun W hW=>by
    have hM:=HMk.out.keep hW;obtain⟨j0,j1,_,_,_⟩:=(HRB.out.below HB.out hgL2).below hW hgLr k hlt;obtain⟨r0,_⟩:=HR.out.below hM.b hg _ m5;rw[m6]at r0;exact⟨hM.cells,j0,j1,r0⟩
   have CSk:Hid (∀W,Below wr.heap.size wr W->Calls Tryz.prog 47 #[.agg #[.int .i64 cyc,.int .i64 F,.slice (some ⟨gT,0,none⟩) l.length cT],.int .u8 (jk js k).ltr.toNat,.int .i64 (jk js k).num] W fun e w'=>e=.returned (.agg #[.int .i64 a,.int .i64 b,.int .i64 (jk js k).cost])/\Below wr.heap.size wr w'/\∀(b:Nat) (o:Obj),W.heap[b]? =some o->w'.heap[b]? =some o):=fun W hW=>(CS.out (jk js k).ltr (jk js k).num W (by omega) (HMk.out.b.trans (hW.mono HMk.out.b.size))).mono (fun e w' h=>by
    rw[hsp]at h;exact⟨h.1,hW.trans (h.2.mono hW.size),fun b o h2=>zK h2 h.2⟩)
   have bA:=hide ((Below.refl wr.heap.size wr).drew);have bB:=hide ((zN wr (.cells #[.int .i64 0,.int .i64 0,.int .i64 0] 78)).drew);have nB:Hid ((wr.alloc (.cells #[.int .i64 0,.int .i64 0,.int .i64 0] 78)).drew.heap[wr.heap.size]? =some (.cells #[.int .i64 0,.int .i64 0,.int .i64 0] 78 (0,0))):=zW wr _ _;obtain⟨⟨x0,x1,x2,x3,x4⟩,j0,j1,r0⟩:=HKc.out wr (Below.refl _ _);clear hsp m6;go_wp2_with fail
   go_cut [8] (fun v wc=>∃Y,v=.pointer (some ⟨Y,0,none⟩)/\wc.heap[Y]? =some (.cells #[.int .i64 a,.int .i64 b,.int .i64 (jk js k).cost] 78 (0,0))/\Below wr.heap.size wr wc)
   case first=>
    go_region_held_law (fun W=>(W.cell? ⟨w.heap.size,0,none⟩=some (.slice (some ⟨g,0,none⟩) ts.length cap)/\W.cell? ⟨w.heap.size,1,none⟩=some (.slice pa ps.length pc)/\W.cell? ⟨w.heap.size+1,0,none⟩=some (.int .i64 cyc)/\W.cell? ⟨w.heap.size+1,1,none⟩=some (.int .i64 F)/\W.cell? ⟨w.heap.size+1,2,none⟩=some (.slice (some ⟨gT,0,none⟩) l.length cT))/\W.cell? ⟨gL,k*5,none⟩=some (.int .i64 (jk js k).tsk)/\W.cell? ⟨gL,k*5+1,none⟩=some (.int .i64 (jk js k).num)/\W.cell? ⟨g,(jk js k).tsk*10,none⟩=some (.int .u8 (jk js k).ltr.toNat)) (first|with_reducible exact HKc.out _ bA.out|with_reducible exact HKc.out _ bB.out|with_reducible exact HKc.out _ hb9|with_reducible exact HKc.out _ (hb9.alloc hb9.size _)|with_reducible exact HKc.out _ (below_set3 hb9 (Nat.le_refl _) _ _ _))
     (first|(go_at_call 47;refine(CSk.out _ ?hw).mono ?_;(case hw=>(first|exact bA.out|exact bB.out));rintro e wc ⟨rfl,hb9,hc9⟩;try (have h9:=hc9 wr.heap.size _ nB.out;have c90:=zC h9 0;have c91:=zC h9 1;have c92:=zC h9 2;have z9:=zF h9)))
    .go_wp2_with fail
     go_meet
     case rel=>exact⟨_,rfl,zW _ _ _,hb9.alloc hb9.size _⟩
    .go_wp2_with fail
     go_meet
     case rel=>exact⟨_,rfl,by rw[zS (zS (zS h9 _ _) _ _) _ _];rfl,below_set3 hb9 (Nat.le_refl _) _ _ _⟩
   case rest=>
    obtain⟨Y,rfl,hY,hbc⟩:=hcut;clear bA bB nB CSk x0 x1 x2 x3 x4 j0 j1 r0;have HBc:=hide (HB.out.trans (hbc.mono HB.out.size));have HMc:=hide (HMk.out.keep hbc);obtain⟨_,_,x2,x3,x4⟩:=HMc.out.cells;obtain⟨f0,_,_,_⟩:=HRT.out.below HMc.out.b hgT a ha;obtain⟨g0,_,_,_⟩:=HRT.out.below HMc.out.b hgT b hb;obtain⟨j0,j1,j2,j3,j4⟩:=HRB.out.below HBc.out hgL2 k hlt;have y0:wc.cell? ⟨Y,0,none⟩=some (.int .i64 a):=zC hY 0;have y1:wc.cell? ⟨Y,1,none⟩=some (.int .i64 b):=zC hY 1;have y2:wc.cell? ⟨Y,2,none⟩=some (.int .i64 (jk js k).cost):=zC hY 2;have sa:=(HS.out a ha).1;have sb:=(HS.out b hb).1;have ha':(a:Int)<l.length:=by omega
    have hb':(b:Int)<l.length:=by omega
    have han:¬(a:Int)<0:=by omega
    have hbn:¬(b:Int)<0:=by omega
    obtain⟨q,hq⟩:∃q,(fsk l a).1*F=q:=⟨_,rfl⟩;obtain⟨r,hr⟩:∃r,((fsk l b).1+1)*F=r:=⟨_,rfl⟩;rw[hq]at hfa;rw[hr]at hfb;have hq2:q<=3600:=by rw[←hq];exact Nat.mul_le_mul sa hF
    have hr2:r<=3660:=by rw[←hr];exact Nat.mul_le_mul (Nat.succ_le_succ sb) hF
    have hqi:((fsk l a).1:Int)*(F:Int)=(q:Int):=by rw[←hq];push_cast;rfl
    have hri:(((fsk l b).1:Int)+1)*(F:Int)=(r:Int):=by rw[←hr];push_cast;rfl
    clear hq hr HKc HMk hY hbc;generalize (fsk l a).1=fa at *;generalize (fsk l b).1=fb at *;have c1:(((jk js k).cost:Int) != ((jk js k).cost:Int))=false:=by simp
    have d1:decide ((q:Int)<((jk js k).rel:Int))=false:=decide_eq_false (by omega);have d2:decide (((jk js k).dl:Int)<(r:Int))=false:=decide_eq_false (by omega);have p1:¬(q:Int)<((jk js k).rel:Int):=by omega
    have p2:¬((jk js k).dl:Int)<(r:Int):=by omega
    go_wp2_with fail
    go_quiet (fail)
    go_wp2_with fail
    go_quiet (fail)
    go_wp2_with fail
    go_quiet (fail)
    go_wp2_with fail;go_roundw
    case rel=>exact⟨k+1,by omega,by go_num,by rw[HSn.out],below_drewN HBc.out _⟩
    case measure=>simp[intOf];omega
  .have hlt':¬(k:Int)<js.length:=by omega
   have hke:k=js.length:=by omega
   subst hke;have hsum:sumN (fun q=>(jk js q).cost) js.length<=60*js.length:=by
    have h1:=sumN_le (f:=fun q=>(jk js q).cost) (g:=fun _=>60) js.length (fun i hi=>(HSm.out i (by omega)).2.2.1);have h2:∀n,sumN (fun _=>60) n=60*n:=fun n=>by induction n with
     | zero=>rfl
     | succ n ih=>rw[sumN,ih];omega
    rw[h2]at h1;exact h1
   rw[HK.out.sum]at hsum ⊢;have hall:sumN (fun q=>(fsk l q).2.bud) l.length<=21600:=by omega
   have HM:=hide (HM1.out.keep HB.out);clear HB HM1 HRB hsum;go_wp2_with fail
   go_loopw [6,11] (fun av iv wr=>∃i R:Nat,i<=l.length/\iv=.int .i64 i/\av=.int .i64 R/\R+sumN (fun q=>(fsk l q).2.bud) i=sumN (fun q=>(fsk l q).2.bud) l.length/\KeM w (.slice (some ⟨g,0,none⟩) ts.length cap) (.slice pa ps.length pc) cyc F (.slice (some ⟨gT,0,none⟩) l.length cT) wr) (fun _ iv _=>l.length-(intOf iv).toNat)
   case atStart=>exact⟨0,_,by omega,rfl,rfl,rfl,HM.out⟩
   case round=>
    clear HM;obtain⟨i,R,hi,rfl,rfl,hR,hM⟩:=hrel;obtain⟨x0,x1,x2,x3,x4⟩:=hM.cells;by_cases hil:i<l.length
    .have hil':(i:Int)<l.length:=by omega
     obtain⟨f0,f1,f2,f3⟩:=HRT.out.below hM.b hgT i hil;have HM:=hide hM;have h1:=sumN_ge (f:=fun q=>(fsk l q).2.bud) hil;have h2:sumN (fun q=>(fsk l q).2.bud) (i+1)<=sumN (fun q=>(fsk l q).2.bud) l.length:=by
      have:∀m n,n<=m->sumN (fun q=>(fsk l q).2.bud) n<=sumN (fun q=>(fsk l q).2.bud) m:=fun m=>by
       induction m with
       | zero=>intro n h;rw[show n=0 by omega];omega
       | succ m ih=>
        intro n h;by_cases e:n=m+1
        .rw[e];omega
        .have:=ih n (by omega);have e2:sumN (fun q=>(fsk l q).2.bud) (m+1)=sumN (fun q=>(fsk l q).2.bud) m+(fsk l m).2.bud:=rfl;omega
      exact this _ _ hil
     have e3:sumN (fun q=>(fsk l q).2.bud) (i+1)=sumN (fun q=>(fsk l q).2.bud) i+(fsk l i).2.bud:=rfl;have HR2:Hid (R-(fsk l i).2.bud+sumN (fun q=>(fsk l q).2.bud) (i+1)=sumN (fun q=>(fsk l q).2.bud) l.length):=by unfold Hid;omega
     have hRb:(fsk l i).2.bud<=R:=by omega
     have hR9:R<=21600:=by omega
     clear hM hR h1 h2 e3;generalize (fsk l i).2.bud=bd at *;go_wp2_with fail;go_roundw
     case rel=>exact⟨i+1,R-bd,by omega,by go_num,by go_num,HR2.out,HM.out⟩
     case measure=>simp[intOf];omega
    .have hil':¬(i:Int)<l.length:=by omega
     have hie:i=l.length:=by omega
     subst hie;have hR0:R=0:=by omega
     subst hR0;have HM:=hide hM;clear hM hR;go_wp2_with fail
     go_loopw [12] (fun iv wr=>∃i:Nat,i<=ps.length/\iv=.int .i64 i/\KeM w (.slice (some ⟨g,0,none⟩) ts.length cap) (.slice pa ps.length pc) cyc F (.slice (some ⟨gT,0,none⟩) l.length cT) wr) (fun iv _=>ps.length-(intOf iv).toNat)
     case atStart=>exact⟨0,by omega,rfl,HM.out⟩
     case round=>
      clear HM x0 x1 x2 x3 x4;obtain⟨i,hi,rfl,hM⟩:=hrel;have HM:=hide hM;clear hM;by_cases hil:i<ps.length
      .have hil':(i:Int)<ps.length:=by omega
       obtain⟨gp,rfl,hgp,hRP⟩:=HP.out (by omega);have HRP:=hide hRP;have hpm:psk ps i∈ps:=by simp[psk,List.getD_eq_getElem?_getD,hil]
       obtain⟨ia,ib,P⟩:=HPt.out _ hpm;have hia:=P.hi;have hib:=P.hj;have hia':(ia:Int)<ts.length:=by omega
       have hib':(ib:Int)<ts.length:=by omega
       have hian:¬(ia:Int)<0:=by omega
       have hibn:¬(ib:Int)<0:=by omega
       have h1:=HO1.out _ hpm;have h2:=HO2.out _ hpm;rw[P.fa,Int.toNat_natCast]at h1 h2;rw[P.fb,Int.toNat_natCast]at h2;have hPa:=HPk.out ia hia;have hPb:=HPk.out ib hib;have AM:=hide HM.out;clear hRP hpm;obtain⟨p,hpi⟩:∃p,psk ps i=p:=⟨_,rfl⟩;obtain⟨ta,htA⟩:∃t,tsk ts ia=t:=⟨_,rfl⟩;obtain⟨tb,htB⟩:∃t,tsk ts ib=t:=⟨_,rfl⟩;rw[hpi]at h1 h2 P;rw[htA]at h1 h2 hPa;rw[htB]at h2 hPb;have H1:=hide h1;have H2:=hide h2;clear h1 h2;have HKA:Hid (∀W,Below wr.heap.size wr W->(W.cell? ⟨w.heap.size,0,none⟩=some (.slice (some ⟨g,0,none⟩) ts.length cap)/\W.cell? ⟨w.heap.size,1,none⟩=some (.slice (some ⟨gp,0,none⟩) ps.length pc))/\W.cell? ⟨gp,i*5,none⟩=some (.int .u8 p.a.toNat)/\W.cell? ⟨g,ia*10,none⟩=some (.int .u8 ta.nm.toNat)/\W.cell? ⟨g,ia*10+1,none⟩=some (.int .i64 ta.P)/\W.cell? ⟨g,ia*10+2,none⟩=some (.int .i64 ta.O)/\W.cell? ⟨g,ia*10+3,none⟩=some (.int .i64 ta.C)/\W.cell? ⟨g,ia*10+4,none⟩=some (.int .i64 ta.D)/\W.cell? ⟨g,ia*10+5,none⟩=some (.int .i64 ta.q0)/\W.cell? ⟨g,ia*10+6,none⟩=some (.int .i64 ta.q1)/\W.cell? ⟨g,ia*10+7,none⟩=some (.int .i64 ta.q2)/\W.cell? ⟨g,ia*10+8,none⟩=some (.int .i64 ta.q3)/\W.cell? ⟨g,ia*10+9,none⟩=some (.int .i64 ta.q4)):=fun W hW=>by
        have hM:=AM.out.keep hW;obtain⟨x0,x1,_,_,_⟩:=hM.cells;obtain⟨z0,_,_,_,_⟩:=HRP.out.below hM.b hgp i hil;have ht:=HR.out.below hM.b hg ia hia;rw[htA]at ht;rw[hpi]at z0;exact⟨⟨x0,x1⟩,z0,ht⟩
       have CFA:Hid (∀W,Below wr.heap.size wr W->Calls Tryz.prog 89 #[.agg #[.slice (some ⟨g,0,none⟩) ts.length cap,.slice (some ⟨gp,0,none⟩) ps.length pc],.int .u8 p.a.toNat] W fun e w'=>e=.returned (.int .i64 ia)/\Below wr.heap.size wr w'/\∀(b:Nat) (o:Obj),W.heap[b]? =some o->w'.heap[b]? =some o):=fun W hW=>(CFi.out p.a W (AM.out.b.trans (hW.mono AM.out.b.size))).mono (fun e w' h=>by
        rw[P.fa]at h;exact⟨h.1,hW.trans (h.2.mono hW.size),fun b o h2=>zK h2 h.2⟩)
       have bAA:=hide ((Below.refl wr.heap.size wr).drew);have bBA:=hide ((zN wr (.cells #[.int .u8 0,.int .i64 0,.int .i64 0,.int .i64 0,.int .i64 0,.int .i64 0,.int .i64 0,.int .i64 0,.int .i64 0,.int .i64 0] 95)).drew);have nBA:Hid ((wr.alloc (.cells #[.int .u8 0,.int .i64 0,.int .i64 0,.int .i64 0,.int .i64 0,.int .i64 0,.int .i64 0,.int .i64 0,.int .i64 0,.int .i64 0] 95)).drew.heap[wr.heap.size]? =some (.cells #[.int .u8 0,.int .i64 0,.int .i64 0,.int .i64 0,.int .i64 0,.int .i64 0,.int .i64 0,.int .i64 0,.int .i64 0,.int .i64 0] 95 (0,0))):=zW wr _ _;obtain⟨⟨x0,x1⟩,y0,z0,z1,z2,z3,z4,z5,z6,z7,z8,z9⟩:=HKA.out wr (Below.refl _ _);go_wp2_with fail;clear z0 z1 z2 z3 z4 z5 z6 z7 z8 z9 x0 x1 y0
       go_cut [13] (fun v wc=>∃Y,v=.pointer (some ⟨Y,0,none⟩)/\wc.cell? ⟨Y,1,none⟩=some (.int .i64 ta.P)/\Y<wc.heap.size/\Below wr.heap.size wr wc)
       case first=>
        go_region_held_law (fun W=>(W.cell? ⟨w.heap.size,0,none⟩=some (.slice (some ⟨g,0,none⟩) ts.length cap)/\W.cell? ⟨w.heap.size,1,none⟩=some (.slice (some ⟨gp,0,none⟩) ps.length pc))/\W.cell? ⟨gp,i*5,none⟩=some (.int .u8 p.a.toNat)/\W.cell? ⟨g,ia*10,none⟩=some (.int .u8 ta.nm.toNat)/\W.cell? ⟨g,ia*10+1,none⟩=some (.int .i64 ta.P)/\W.cell? ⟨g,ia*10+2,none⟩=some (.int .i64 ta.O)/\W.cell? ⟨g,ia*10+3,none⟩=some (.int .i64 ta.C)/\W.cell? ⟨g,ia*10+4,none⟩=some (.int .i64 ta.D)/\W.cell? ⟨g,ia*10+5,none⟩=some (.int .i64 ta.q0)/\W.cell? ⟨g,ia*10+6,none⟩=some (.int .i64 ta.q1)/\W.cell? ⟨g,ia*10+7,none⟩=some (.int .i64 ta.q2)/\W.cell? ⟨g,ia*10+8,none⟩=some (.int .i64 ta.q3)/\W.cell? ⟨g,ia*10+9,none⟩=some (.int .i64 ta.q4)) (first|with_reducible exact HKA.out _ bAA.out|with_reducible exact HKA.out _ bBA.out|with_reducible exact HKA.out _ hb9|with_reducible exact HKA.out _ (hb9.alloc hb9.size _)|with_reducible exact HKA.out _ (tk_below hb9 (Nat.le_refl _) _ _ _ _ _ _ _ _ _ _))
         (first|(go_at_call 89;refine(CFA.out _ ?hw).mono ?_;(case hw=>(first|with_reducible exact bAA.out|with_reducible exact bBA.out));rintro e w9 ⟨rfl,hb9,hc9⟩;try (have h9:=hc9 wr.heap.size _ nBA.out;have c90:=zC h9 0;have c91:=zC h9 1;have c92:=zC h9 2;have c93:=zC h9 3;have c94:=zC h9 4;have c95:=zC h9 5;have c96:=zC h9 6;have c97:=zC h9 7;have c98:=zC h9 8;have c99:=zC h9 9;have z9:=zF h9)))
        .go_wp2_with fail
         go_meet
         case rel=>exact⟨_,rfl,by rw[zC (zW _ _ _)];rfl,by simp,hb9.alloc hb9.size _⟩
        .go_wp2_with fail
         go_meet
         case rel=>exact⟨_,rfl,(tk_cell rfl h9 _ _ _ _ _ _ _ _ _ _).1,(tk_cell rfl h9 _ _ _ _ _ _ _ _ _ _).2,tk_below hb9 (Nat.le_refl _) _ _ _ _ _ _ _ _ _ _⟩
       obtain⟨Y,rfl,hY,hYl,hbc⟩:=hcut;have BM:=hide (AM.out.keep hbc);have HY:=hide hY;clear hY hbc AM HM HKA CFA bAA bBA nBA;generalize hwv:wc=wv at *;clear hwv;have HKB:Hid (∀W,Below wv.heap.size wv W->(W.cell? ⟨w.heap.size,0,none⟩=some (.slice (some ⟨g,0,none⟩) ts.length cap)/\W.cell? ⟨w.heap.size,1,none⟩=some (.slice (some ⟨gp,0,none⟩) ps.length pc))/\W.cell? ⟨gp,i*5+1,none⟩=some (.int .u8 p.b.toNat)/\W.cell? ⟨g,ib*10,none⟩=some (.int .u8 tb.nm.toNat)/\W.cell? ⟨g,ib*10+1,none⟩=some (.int .i64 tb.P)/\W.cell? ⟨g,ib*10+2,none⟩=some (.int .i64 tb.O)/\W.cell? ⟨g,ib*10+3,none⟩=some (.int .i64 tb.C)/\W.cell? ⟨g,ib*10+4,none⟩=some (.int .i64 tb.D)/\W.cell? ⟨g,ib*10+5,none⟩=some (.int .i64 tb.q0)/\W.cell? ⟨g,ib*10+6,none⟩=some (.int .i64 tb.q1)/\W.cell? ⟨g,ib*10+7,none⟩=some (.int .i64 tb.q2)/\W.cell? ⟨g,ib*10+8,none⟩=some (.int .i64 tb.q3)/\W.cell? ⟨g,ib*10+9,none⟩=some (.int .i64 tb.q4)):=fun W hW=>by
        have hM:=BM.out.keep hW;obtain⟨x0,x1,_,_,_⟩:=hM.cells;obtain⟨_,z0,_,_,_⟩:=HRP.out.below hM.b hgp i hil;have ht:=HR.out.below hM.b hg ib hib;rw[htB]at ht;rw[hpi]at z0;exact⟨⟨x0,x1⟩,z0,ht⟩
       have CFB:Hid (∀W,Below wv.heap.size wv W->Calls Tryz.prog 89 #[.agg #[.slice (some ⟨g,0,none⟩) ts.length cap,.slice (some ⟨gp,0,none⟩) ps.length pc],.int .u8 p.b.toNat] W fun e w'=>e=.returned (.int .i64 ib)/\Below wv.heap.size wv w'/\∀(b:Nat) (o:Obj),W.heap[b]? =some o->w'.heap[b]? =some o):=fun W hW=>(CFi.out p.b W (BM.out.b.trans (hW.mono BM.out.b.size))).mono (fun e w' h=>by
        rw[P.fb]at h;exact⟨h.1,hW.trans (h.2.mono hW.size),fun b o h2=>zK h2 h.2⟩)
       have bAB:=hide ((Below.refl wv.heap.size wv).drew);have bBB:=hide ((zN wv (.cells #[.int .u8 0,.int .i64 0,.int .i64 0,.int .i64 0,.int .i64 0,.int .i64 0,.int .i64 0,.int .i64 0,.int .i64 0,.int .i64 0] 95)).drew);have nBB:Hid ((wv.alloc (.cells #[.int .u8 0,.int .i64 0,.int .i64 0,.int .i64 0,.int .i64 0,.int .i64 0,.int .i64 0,.int .i64 0,.int .i64 0,.int .i64 0] 95)).drew.heap[wv.heap.size]? =some (.cells #[.int .u8 0,.int .i64 0,.int .i64 0,.int .i64 0,.int .i64 0,.int .i64 0,.int .i64 0,.int .i64 0,.int .i64 0,.int .i64 0] 95 (0,0))):=zW wv _ _;obtain⟨⟨x0,x1⟩,y0,z0,z1,z2,z3,z4,z5,z6,z7,z8,z9⟩:=HKB.out wv (Below.refl _ _);go_wp2_with fail;clear z0 z1 z2 z3 z4 z5 z6 z7 z8 z9 x0 x1 y0
       go_cut [14] (fun v wc=>∃Y,v=.pointer (some ⟨Y,0,none⟩)/\wc.cell? ⟨Y,1,none⟩=some (.int .i64 tb.P)/\Y<wc.heap.size/\Below wv.heap.size wv wc)
       case first=>
        go_region_held_law (fun W=>(W.cell? ⟨w.heap.size,0,none⟩=some (.slice (some ⟨g,0,none⟩) ts.length cap)/\W.cell? ⟨w.heap.size,1,none⟩=some (.slice (some ⟨gp,0,none⟩) ps.length pc))/\W.cell? ⟨gp,i*5+1,none⟩=some (.int .u8 p.b.toNat)/\W.cell? ⟨g,ib*10,none⟩=some (.int .u8 tb.nm.toNat)/\W.cell? ⟨g,ib*10+1,none⟩=some (.int .i64 tb.P)/\W.cell? ⟨g,ib*10+2,none⟩=some (.int .i64 tb.O)/\W.cell? ⟨g,ib*10+3,none⟩=some (.int .i64 tb.C)/\W.cell? ⟨g,ib*10+4,none⟩=some (.int .i64 tb.D)/\W.cell? ⟨g,ib*10+5,none⟩=some (.int .i64 tb.q0)/\W.cell? ⟨g,ib*10+6,none⟩=some (.int .i64 tb.q1)/\W.cell? ⟨g,ib*10+7,none⟩=some (.int .i64 tb.q2)/\W.cell? ⟨g,ib*10+8,none⟩=some (.int .i64 tb.q3)/\W.cell? ⟨g,ib*10+9,none⟩=some (.int .i64 tb.q4)) (first|with_reducible exact HKB.out _ bAB.out|with_reducible exact HKB.out _ bBB.out|with_reducible exact HKB.out _ hb9|with_reducible exact HKB.out _ (hb9.alloc hb9.size _)|with_reducible exact HKB.out _ (tk_below hb9 (Nat.le_refl _) _ _ _ _ _ _ _ _ _ _))
         (first|(go_at_call 89;refine(CFB.out _ ?hw).mono ?_;(case hw=>(first|with_reducible exact bAB.out|with_reducible exact bBB.out));rintro e w9 ⟨rfl,hb9,hc9⟩;try (have h9:=hc9 wv.heap.size _ nBB.out;have c90:=zC h9 0;have c91:=zC h9 1;have c92:=zC h9 2;have c93:=zC h9 3;have c94:=zC h9 4;have c95:=zC h9 5;have c96:=zC h9 6;have c97:=zC h9 7;have c98:=zC h9 8;have c99:=zC h9 9;have z9:=zF h9)))
        .go_wp2_with fail
         go_meet
         case rel=>exact⟨_,rfl,by rw[zC (zW _ _ _)];rfl,by simp,hb9.alloc hb9.size _⟩
        .go_wp2_with fail
         go_meet
         case rel=>exact⟨_,rfl,(tk_cell rfl h9 _ _ _ _ _ _ _ _ _ _).1,(tk_cell rfl h9 _ _ _ _ _ _ _ _ _ _).2,tk_below hb9 (Nat.le_refl _) _ _ _ _ _ _ _ _ _ _⟩
       obtain⟨Y2,rfl,hY2,hYl2,hbc⟩:=hcut;have DM:=hide (BM.out.keep hbc);have hY1:=(hbc.cell (p:=⟨Y,1,none⟩) hYl).trans HY.out;have hYL:Y<wc.heap.size:=Nat.lt_of_lt_of_le hYl hbc.size;have HY1:=hide hY1;have HY2:=hide hY2;clear hY1 hY2 hYl hbc BM HY HKB CFB bAB bBB nBB;have HKD:Hid (∀W,Below wc.heap.size wc W->(W.cell? ⟨w.heap.size,0,none⟩=some (.slice (some ⟨g,0,none⟩) ts.length cap)/\W.cell? ⟨w.heap.size,1,none⟩=some (.slice (some ⟨gp,0,none⟩) ps.length pc)/\W.cell? ⟨w.heap.size+1,0,none⟩=some (.int .i64 cyc)/\W.cell? ⟨w.heap.size+1,1,none⟩=some (.int .i64 F)/\W.cell? ⟨w.heap.size+1,2,none⟩=some (.slice (some ⟨gT,0,none⟩) l.length cT))/\(W.cell? ⟨gp,i*5,none⟩=some (.int .u8 p.a.toNat)/\W.cell? ⟨gp,i*5+1,none⟩=some (.int .u8 p.b.toNat)/\W.cell? ⟨gp,i*5+2,none⟩=some (.bool p.ap)/\W.cell? ⟨gp,i*5+3,none⟩=some (.int .i64 p.q0)/\W.cell? ⟨gp,i*5+4,none⟩=some (.int .i64 p.q1))/\W.cell? ⟨Y,1,none⟩=some (.int .i64 ta.P)/\W.cell? ⟨Y2,1,none⟩=some (.int .i64 tb.P)):=fun W hW=>by
        have hM:=DM.out.keep hW;have hq:=HRP.out.below hM.b hgp i hil;rw[hpi]at hq;exact⟨hM.cells,hq,(hW.cell (p:=⟨Y,1,none⟩) hYL).trans HY1.out,(hW.cell (p:=⟨Y2,1,none⟩) hYl2).trans HY2.out⟩
       have hda:=Nat.div_le_self cyc ta.P;have hdb:=Nat.div_le_self cyc tb.P;have CO:Hid (∀W,Below wc.heap.size wc W->Calls Tryz.prog 136 #[.agg #[.int .i64 cyc,.int .i64 F,.slice (some ⟨gT,0,none⟩) l.length cT],.agg #[.int .u8 p.a.toNat,.int .u8 p.b.toNat,.bool p.ap,.int .i64 p.q0,.int .i64 p.q1],.int .i64 (wrap64 ((cyc:Int)/(ta.P:Int))),.int .i64 (wrap64 ((cyc:Int)/(tb.P:Int)))] W fun e w'=>e=.returned (.bool true)/\Below wc.heap.size wc w'):=fun W hW=>by
        rw[div_wrap cyc ta.P (by omega),div_wrap cyc tb.P (by omega)];have hM:=DM.out.keep hW;exact(rordered_yes cyc F l gT cT p (cyc/ta.P) (cyc/tb.P) W (Nat.lt_of_lt_of_le hgT hM.b.size) (HRT.out.below hM.b hgT) hn3 HS.out (by omega) (by omega) H1.out H2.out).mono (fun e w' h=>⟨h.1,hW.trans (h.2.mono hW.size)⟩)
       have bA:=hide ((Below.refl wc.heap.size wc).drew);obtain⟨⟨x0,x1,x2,x3,x4⟩,⟨y0,y1,y2,y3,y4⟩,z0,z1⟩:=HKD.out wc (Below.refl _ _);have hpa0:¬(ta.P:Int)=0:=by omega
       have hpb0:¬(tb.P:Int)=0:=by omega
       obtain⟨na,hna⟩:∃n,cyc/ta.P=n:=⟨_,rfl⟩;obtain⟨nb,hnb⟩:∃n,cyc/tb.P=n:=⟨_,rfl⟩;have hqa:(cyc:Int)/(ta.P:Int)=(na:Int):=by rw[←hna];exact(Int.natCast_ediv _ _).symm
       have hqb:(cyc:Int)/(tb.P:Int)=(nb:Int):=by rw[←hnb];exact(Int.natCast_ediv _ _).symm
       rw[div_wrap cyc ta.P (by omega),div_wrap cyc tb.P (by omega),hna,hnb]at CO;rw[hna]at hda;rw[hnb]at hdb;have hna9:na<=60:=by omega
       have hnb9:nb<=60:=by omega
       clear hna hnb hPa hPb;clear hda hdb HO1 HO2 HPt HP;go_wp2_with fail
       go_cut [15] (fun v wd=>v=.bool true/\Below wc.heap.size wc wd)
       case first=>
        go_region_held_law (fun W=>(W.cell? ⟨w.heap.size,0,none⟩=some (.slice (some ⟨g,0,none⟩) ts.length cap)/\W.cell? ⟨w.heap.size,1,none⟩=some (.slice (some ⟨gp,0,none⟩) ps.length pc)/\W.cell? ⟨w.heap.size+1,0,none⟩=some (.int .i64 cyc)/\W.cell? ⟨w.heap.size+1,1,none⟩=some (.int .i64 F)/\W.cell? ⟨w.heap.size+1,2,none⟩=some (.slice (some ⟨gT,0,none⟩) l.length cT))/\(W.cell? ⟨gp,i*5,none⟩=some (.int .u8 p.a.toNat)/\W.cell? ⟨gp,i*5+1,none⟩=some (.int .u8 p.b.toNat)/\W.cell? ⟨gp,i*5+2,none⟩=some (.bool p.ap)/\W.cell? ⟨gp,i*5+3,none⟩=some (.int .i64 p.q0)/\W.cell? ⟨gp,i*5+4,none⟩=some (.int .i64 p.q1))/\W.cell? ⟨Y,1,none⟩=some (.int .i64 ta.P)/\W.cell? ⟨Y2,1,none⟩=some (.int .i64 tb.P)) (first|with_reducible exact HKD.out _ bA.out|with_reducible exact HKD.out _ hb9)
         (first|(go_at_call 136;refine(CO.out _ ?hw).mono ?_;(case hw=>with_reducible exact bA.out);rintro e w9 ⟨rfl,hb9⟩))
        all_goals
         go_wp2_with fail
         go_meet
         case rel=>exact⟨rfl,hb9⟩
       clear x0 x1 x2 x3 x4 y0 y1 y2 y3 y4 z0 z1 CO HKD bA;obtain⟨rfl,hbd⟩:=hcut;have EM:=hide (DM.out.keep hbd);clear hbd DM;go_wp2_with fail;go_roundw
       case rel=>exact⟨i+1,by omega,by go_num,EM.out⟩
       case measure=>simp[intOf];omega
      .have hil':¬(i:Int)<ps.length:=by omega
       obtain⟨x0,x1,x2,x3,x4⟩:=HM.out.cells;have HB:=hide HM.out.b;clear HM;go_wp2_with fail;go_ret;exact⟨rfl,HB.out⟩
end
end Go.Proofs.YtbdffcjganlblaaGreatDoor
