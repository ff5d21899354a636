import Derived.Test.YtbdffcjganlblaaGreatDoorARunBtoPrA
import Derived.Deep.RegionHeldLaw
import Derived.Deep.DeepCutAuto
import Derived.Test.YtbdffcjganlblaaGreatDoorARnMtoRefA
import Derived.ProofKit
import Derived.LaidMore
import Derived.OpenShut
import Derived.Stop.Joined
import Derived.Deep.Slices
import Derived.Test.YtbdffcjganlblaaGreatDoorATbMtoRnH
set_option linter.unusedVariables false
set_option linter.unusedSimpArgs false
set_option maxRecDepth 100000
set_option maxHeartbeats 16000000
namespace Go.Proofs.YtbdffcjganlblaaGreatDoor
section
open Go.RowKit
theorem wr64 {n:Int}(h1:-9223372036854775808<=n)(h2:n<=9223372036854775807):IntKind.i64.wrap n=n:=by
 rw[IntKind.wrap_i64];omega
theorem cntTo_mono (l:List FSl)(a:Nat):∀d,cntTo l a<=cntTo l (a+d)
 | 0=>Nat.le_refl _
 | d+1=>by
  have:=cntTo_mono l a d;rw[←Nat.add_assoc,cntTo];split<;>omega
theorem numI_lt {l:List FSl}{i:Nat}(hi:i<l.length):zM l i<cntTo l l.length:=by
 obtain⟨m,hm,hmi,hs,_⟩:=spotI_fst hi;unfold zM;rw[hm];have h1:(spotI l m).fst=m:=by rw[spotI_same hs,hm]
 have h2:cntTo l (m+1)=cntTo l m+1:=by rw[cntTo,if_pos h1]
 have h3:=cntTo_mono l (m+1) (l.length-(m+1));rw[show m+1+(l.length-(m+1))=l.length by omega]at h3;simp only[Int.toNat_natCast];omega
theorem startI_le {l:List FSl}(hn:l.length<=300)(hs:∀i,i<l.length->(fsk l i).small){f i:Nat}(hf:f<=60)(hi:i<l.length):startI l f i<=3003600:=by
 have h1:=Nat.mul_le_mul (hs i hi).1 hf;have h2:=usedJ_le hs (fsk l i).1 i (by omega);unfold startI;generalize (fsk l i).1*f=A at *;omega
theorem CostsAt.below {w w':World}{a:Option Addr}{cs:List Int}(h:CostsAt w a cs)(hb:Below w.heap.size w w'):CostsAt w' a cs:=by
 rcases h with h|⟨b,off,h1,h2,h3⟩
 .exact .inl h
 .exact .inr ⟨b,off,h1,Nat.lt_of_lt_of_le h2 hb.size,fun k hk=>(hb.cell (p:=⟨b,off+k,none⟩) h2).trans (h3 k hk)⟩
theorem TrX.start {w w1:World}{c f:Nat}{sv:Value}(hT:TBx w w1 c f sv)(n:Nat)(hn:n<=1000):TrX w (w1.alloc (.cells (zerosA n) 3)) c f sv w1.heap.size n (fun _=>0):=by
 have hb:=zW w1 (zerosA n) 3;refine⟨hT.alloc _,?_,zF hb,zL hT.h,by simp⟩;intro j hj;rw[zC hb,zerosA_at n j hj]
theorem rTrace_any (c f:Nat)(l:List FSl)(g cap tk:Nat)(cs:List Int)(a:Option Addr)(ccap:Nat)(w:World)(hg:g<w.heap.size)(hr:RowF w g l)(hn:l.length<=300)(hs:∀k,k<l.length->(fsk l k).small)
  (hc1:1<=c) (hc2:c<=60) (hf1:1<=f) (hf2:f<=60) (htk:tk<=400) (hca:CostsAt w a cs) (hcl:cs.length<=40) (hcb:∀k,k<cs.length->0<=cs.getD k 0/\cs.getD k 0<=400):
  Calls Tryz.prog 99 #[.agg #[.int .i64 c,.int .i64 f,.slice (some ⟨g,0,none⟩) l.length cap],.int .i64 tk,.slice a cs.length ccap] w fun e w'=>e=.returned (.string (bs (trcL l c f cs tk).2))/\Below w.heap.size w w':=by
 have Hr:=hide hr;have Hs:=hide hs;have Hca:=hide hca;have Hcb:=hide hcb;have H0:=hide (TBx.start w c f (.slice (some ⟨g,0,none⟩) l.length cap));have hnl:=cntTo_le l l.length;have hmk:=make_ints (cntTo l l.length) (by omega);have HJb:=hide (rJobs_any c f l g cap (w.alloc (.cells #[.int .i64 c,.int .i64 f,.slice (some ⟨g,0,none⟩) l.length cap] 39)) (by simp;omega) (hr.below (zN w _) hg) hn hs);have HFine:=hide (fun u=>trc_fine hn hs hcb c f u);clear hr hs hca hcb;go_enter Tryz.func99,Tryz.ntmps99;go_wp2_with fail;generalize w.alloc (.cells #[.int .i64 c,.int .i64 f,.slice (some ⟨g,0,none⟩) l.length cap] 39)=W0 at *;refine HJb.out.mono ?_;rintro e w1 ⟨rfl,hb1⟩;have HX:=hide (TrX.start (H0.out.keep hb1) (cntTo l l.length) (by omega));clear hb1 H0 HJb;generalize hN:cntTo l l.length=n at *;have HN:=hide hN;clear hN;go_wp2_with fail;generalize w1.alloc (.cells (zerosA n) 3)=w2 at *;generalize w1.heap.size=X at *;clear hmk
 go_loopw [7,10] (fun sv uv wr=>∃q:Nat,q<=tk/\uv=.int .i64 q/\sv=.string (bs (trcL l c f cs q).2)/\TrX w wr c f (.slice (some ⟨g,0,none⟩) l.length cap) X n (trcL l c f cs q).1) (fun _ uv _=>tk-(intOf uv).toNat)
 case atStart=>exact⟨0,by omega,rfl,rfl,HX.out⟩
 case round=>
  clear HX;obtain⟨q,hq,rfl,rfl,hT⟩:=hrel;obtain⟨x0,x1,x2⟩:=hT.t.cells;have HT:=hide hT;by_cases hlt:q<tk
  .have hlt':(q:Int)<tk:=by omega
   have hlen:=trc_len l c f cs q;have hww:w.heap.size<wr.heap.size:=zL hT.t.h;have hwg:g<wr.heap.size:=by omega
   have hR:=Hr.out.below hT.t.b hg;have hmod:((q:Int)%c)=((q%c:Nat):Int):=by simp
   have hml:=Nat.mod_lt q (show 0<c by omega);have hc0:¬(c:Int)=0:=by omega
   have HAt:=hide (fun W (hW:Below wr.heap.size wr W)=>(rat_any c f l g cap (q%c) W (by have:=hW.size;omega) (hR.below hW hwg) hn Hs.out hf1 hf2 (by omega)).mono (fun e w' h=>(⟨h.1,hW.trans (h.2.mono hW.size)⟩:e=.returned (atV l f (q%c))/\Below wr.heap.size wr w')));have HR:=hide hR;have HK:Hid (∀W,Below wr.heap.size wr W->W.cell? ⟨w.heap.size,0,none⟩=some (.int .i64 c)/\W.cell? ⟨w.heap.size,1,none⟩=some (.int .i64 f)/\W.cell? ⟨w.heap.size,2,none⟩=some (.slice (some ⟨g,0,none⟩) l.length cap)/\Below wr.heap.size wr W):=fun W hW=>⟨(hW.cell (p:=⟨w.heap.size,0,none⟩) hww).trans x0,(hW.cell (p:=⟨w.heap.size,1,none⟩) hww).trans x1,(hW.cell (p:=⟨w.heap.size,2,none⟩) hww).trans x2,hW⟩;have hstep:Hid (trcL l c f cs (q+1)=tickL l c f cs q (trcL l c f cs q)):=rfl;have hfn:=hide (HFine.out q);rw[←hmod]at HAt;clear hmod;generalize trcL l c f cs q=TR at *;have bA:=hide ((Below.refl wr.heap.size wr).drew);clear hT hR;rcases atTo_spec l f (q%c) l.length with⟨hat,_⟩|⟨i,hat,hil,hhit,_⟩
   .have hv:Hid (atV l f (q%c)=.tuple #[.int .i64 (-1),.bool false]):=by unfold Hid atV atL;rw[hat]
    have hst2:Hid (trcL l c f cs (q+1)=(TR.1,TR.2++[46])):=by unfold Hid;rw[hstep.out,tickL,show atL l f (q%c)=none from hat]
    rw[hv.out]at HAt;obtain⟨X1,a1,z1,e1⟩:=add_named2 (bs TR.2) ⟨#[46]⟩ (by rw[bs_size,show (ByteArray.size ⟨#[46]⟩)=1 from rfl];omega);have EX:Hid (X1=bs (TR.2++[46])):=by unfold Hid;rw[←bs_list X1,e1,bs_data]
    clear hat hstep hv e1 z1;go_wp2_with fail
    go_region_held_law (fun w'=>w'.cell? ⟨w.heap.size,0,none⟩=some (.int .i64 c)/\w'.cell? ⟨w.heap.size,1,none⟩=some (.int .i64 f)/\w'.cell? ⟨w.heap.size,2,none⟩=some (.slice (some ⟨g,0,none⟩) l.length cap)/\Below wr.heap.size wr w') (first|exact HK.out _ bA.out|exact HK.out _ hb8)
     (first|(go_at_call 137;refine(HAt.out _ ?hw).mono ?_;(case hw=>(first|exact bA.out));rintro e w8 ⟨rfl,hb8⟩))
    all_goals
     have HT8:=hide (HT.out.keep hb8);clear HK HAt HT HR x0 x1 x2;go_wp2;go_roundw
     case rel=>exact⟨q+1,by omega,by go_num,by rw[hst2.out,EX.out],HT8.out.ext (by rw[hst2.out])⟩
     case measure=>simp[intOf];omega
   .have hv:Hid (atV l f (q%c)=.tuple #[.int .i64 i,.bool (decide (q%c+1=endI l f (q%c/f) i))]):=by unfold Hid atV atL;rw[hat]
    have hst2:Hid (trcL l c f cs (q+1)=(lessL (zM l i) (begunL l c f cs q i TR.1),TR.2++ranL (fsk l i).2.nm (zM l i) (begunL l c f cs q i TR.1)++markL l c f q i (lessL (zM l i) (begunL l c f cs q i TR.1)))):=by unfold Hid;rw[hstep.out,tickL,show atL l f (q%c)=some i from hat]
    have hmk:Hid (∀L,markL l c f q i L=if q%c+1=endI l f (q%c/f) i/\(i:Int)=(spotI l i).lst/\0<L (zM l i) then [33,(fsk l i).2.nm] else []):=fun L=>rfl;rw[hv.out]at HAt;generalize hEd:decide (q%c+1=endI l f (q%c/f) i)=E at *;have HEd:=hide hEd;clear hat hstep hv hhit hEd;go_wp2_with fail
    go_region_held_law (fun w'=>w'.cell? ⟨w.heap.size,0,none⟩=some (.int .i64 c)/\w'.cell? ⟨w.heap.size,1,none⟩=some (.int .i64 f)/\w'.cell? ⟨w.heap.size,2,none⟩=some (.slice (some ⟨g,0,none⟩) l.length cap)/\Below wr.heap.size wr w') (first|exact HK.out _ bA.out|exact HK.out _ hb8)
     (first|(go_at_call 137;refine(HAt.out _ ?hw).mono ?_;(case hw=>(first|exact bA.out));rintro e w8 ⟨rfl,hb8⟩))
    have HT8:=hide (HT.out.keep hb8);have HR8:=hide (HR.out.below hb8 hwg);have hww8:w.heap.size<w8.heap.size:=by have:=hb8.size;omega
    have hwg8:g<w8.heap.size:=by have:=hb8.size;omega
    clear HK HAt HT HR x0 x1 x2 hb8 bA hww hwg;obtain⟨x0,x1,x2⟩:=HT8.out.t.cells;obtain⟨k0,k1,k2,k3⟩:=HR8.out i hil;obtain⟨m,hm,hmi,hsm,_⟩:=spotI_fst hil;have HSp:=hide (fun W' hW'=>rspot_kept c f l g cap w8 hwg8 HR8.out hn Hs.out i hil W' hW');rw[hm]at HSp;have HK:Hid (∀W,Below w8.heap.size w8 W->W.cell? ⟨w.heap.size,0,none⟩=some (.int .i64 c)/\W.cell? ⟨w.heap.size,1,none⟩=some (.int .i64 f)/\W.cell? ⟨w.heap.size,2,none⟩=some (.slice (some ⟨g,0,none⟩) l.length cap)/\W.cell? ⟨g,i*4+1,none⟩=some (.int .u8 (fsk l i).2.nm.toNat)/\W.cell? ⟨g,i*4+2,none⟩=some (.int .i64 (fsk l i).2.job)):=fun W hW=>⟨(hW.cell (p:=⟨w.heap.size,0,none⟩) hww8).trans x0,(hW.cell (p:=⟨w.heap.size,1,none⟩) hww8).trans x1,(hW.cell (p:=⟨w.heap.size,2,none⟩) hww8).trans x2,(hW.cell (p:=⟨g,i*4+1,none⟩) hwg8).trans k1,(hW.cell (p:=⟨g,i*4+2,none⟩) hwg8).trans k2⟩;have bA:=hide ((Below.refl w8.heap.size w8).drew);have bB:=hide ((zN w8 (.cells #[.int .i64 0,.int .i64 0,.int .i64 0] 78)).drew);have nB:Hid ((w8.alloc (.cells #[.int .i64 0,.int .i64 0,.int .i64 0] 78)).drew.heap[w8.heap.size]? =some (.cells #[.int .i64 0,.int .i64 0,.int .i64 0] 78 (0,0))):=zW w8 _ _;have hil':(i:Int)<l.length:=by omega
    have hi0:¬(i:Int)<0:=by omega
    have Hm:=hide hm;have Hsm:=hide hsm;clear hm hsm k0 k3;go_wp2_with fail
    go_cut [13] (fun v wc=>∃Y,v=.pointer (some ⟨Y,0,none⟩)/\wc.heap[Y]? =some (.cells #[.int .i64 m,.int .i64 (spotI l i).lst,.int .i64 (spotI l i).cost] 78 (0,0))/\Y≠X/\w.heap.size<Y/\TrX w wc c f (.slice (some ⟨g,0,none⟩) l.length cap) X n TR.1)
    case first=>
     go_region_held_law (fun w'=>w'.cell? ⟨w.heap.size,0,none⟩=some (.int .i64 c)/\w'.cell? ⟨w.heap.size,1,none⟩=some (.int .i64 f)/\w'.cell? ⟨w.heap.size,2,none⟩=some (.slice (some ⟨g,0,none⟩) l.length cap)/\w'.cell? ⟨g,i*4+1,none⟩=some (.int .u8 (fsk l i).2.nm.toNat)/\w'.cell? ⟨g,i*4+2,none⟩=some (.int .i64 (fsk l i).2.job)) (first|exact HK.out _ bA.out|exact HK.out _ bB.out|exact HK.out _ hb9|exact HK.out _ (hb9.alloc hb9.size _)|exact HK.out _ (below_set3 hb9 (Nat.le_refl _) _ _ _))
      (first|(go_at_call 47;refine(HSp.out _ ?hw).mono ?_;(case hw=>(first|exact bA.out|exact bB.out));rintro e w9 ⟨rfl,hb9,hc9⟩;try (have h9:=hc9 w8.heap.size _ nB.out;have c90:=zC h9 0;have c91:=zC h9 1;have c92:=zC h9 2;have z9:=zF h9)))
     .go_wp2_with fail
      go_meet
      case rel=>exact⟨_,rfl,zW _ _ _,by have:=HT8.out.lt;have:=hb9.size;omega,by have:=hb9.size;omega,(HT8.out.keep hb9).keep (zN _ _)⟩
     .go_wp2_with fail
      go_meet
      case rel=>exact⟨_,rfl,by rw[zS (zS (zS h9 _ _) _ _) _ _];rfl,by have:=HT8.out.lt;omega,hww8,HT8.out.keep (below_set3 hb9 (Nat.le_refl _) _ _ _)⟩
    case rest=>
     clear HK HSp bA bB nB x0 x1 x2 k1 k2 HT8 HR8 hww8 hwg8;obtain⟨Y,rfl,hY,hYX,hYw,hT⟩:=hcut;have HY:=hide hY;have HT:=hide hT;have hwg9:g<wc.heap.size:=by have:=hT.t.b.size;omega
     have HNum:=hide (rnum_any c f l g cap hn Hs.out i wc hil hwg9 (Hr.out.below hT.t.b hg));obtain⟨x0,x1,x2⟩:=hT.t.cells;clear hT hY;go_wp2_with fail;refine HNum.out.mono ?_;rintro e w10 ⟨rfl,hb10⟩;have HT10:=hide (HT.out.keep hb10);have HY10:=hide (zK HY.out hb10);clear hb10 HNum HT HY x0 x1 x2 hwg9;obtain⟨x0,x1,x2⟩:=HT10.out.t.cells;have y0:=zC HY10.out 0;have hww10:w.heap.size<w10.heap.size:=zL HT10.out.t.h;have hY10:Y<w10.heap.size:=zL HY10.out;have hSTb:=startI_le hn Hs.out (i:=m) hf2 (by omega);have HSt:=hide (fun W (hW:Below w10.heap.size w10 W)=>(rstart_any c f l g cap m W (by omega) (by have:=hW.size;omega) ((Hr.out.below HT10.out.t.b hg).below hW (by omega)) hn Hs.out hf2).mono (fun e w' h=>(⟨h.1,hW.trans (h.2.mono hW.size)⟩:e=.returned (.int .i64 (startI l f m))/\Below w10.heap.size w10 w')));have HK:Hid (∀W,Below w10.heap.size w10 W->W.cell? ⟨w.heap.size,0,none⟩=some (.int .i64 c)/\W.cell? ⟨w.heap.size,1,none⟩=some (.int .i64 f)/\W.cell? ⟨w.heap.size,2,none⟩=some (.slice (some ⟨g,0,none⟩) l.length cap)/\W.cell? ⟨Y,0,none⟩=some (.int .i64 m)):=fun W hW=>⟨(hW.cell (p:=⟨w.heap.size,0,none⟩) hww10).trans x0,(hW.cell (p:=⟨w.heap.size,1,none⟩) hww10).trans x1,(hW.cell (p:=⟨w.heap.size,2,none⟩) hww10).trans x2,(hW.cell (p:=⟨Y,0,none⟩) hY10).trans y0⟩;have bA:=hide ((Below.refl w10.heap.size w10).drew);obtain⟨U,hU⟩:∃U,U=q%c:=⟨_,rfl⟩;have hqm:(q:Int)%(c:Int)=(U:Int):=by rw[hU];simp
     have hUc:U<=60:=by omega
     have HU:=hide hU;clear hU y0;generalize hST:startI l f m=ST at *;have HST:=hide hST;clear hST;go_wp2_with fail
     go_region_held_law (fun w'=>w'.cell? ⟨w.heap.size,0,none⟩=some (.int .i64 c)/\w'.cell? ⟨w.heap.size,1,none⟩=some (.int .i64 f)/\w'.cell? ⟨w.heap.size,2,none⟩=some (.slice (some ⟨g,0,none⟩) l.length cap)/\w'.cell? ⟨Y,0,none⟩=some (.int .i64 m)) (first|exact HK.out _ bA.out|exact HK.out _ hb11)
      (first|(go_at_call 138;refine(HSt.out _ ?hw).mono ?_;(case hw=>(first|exact bA.out));rintro e w11 ⟨rfl,hb11⟩))
     all_goals
      have HT11:=hide (HT10.out.keep hb11);have HY11:=hide (zK HY10.out hb11);clear hb11 HSt HK bA HT10 HY10 x0 x1 x2 hww10 hY10;have hv15:IntKind.i64.wrap ((q:Int).tmod (c:Int)-(ST:Int))=(U:Int)-(ST:Int):=by
       rw[Int.tmod_eq_emod_of_nonneg (by omega),hqm];exact wr64 (by omega) (by omega)
      generalize IntKind.i64.wrap ((q:Int).tmod (c:Int)-(ST:Int))=V15 at hv15 ⊢;have HV15:=hide hv15;clear hv15;go_upto_if 66 with fail
      go_cut [15] (fun _ wc=>wc.heap[Y]? =some (.cells #[.int .i64 m,.int .i64 (spotI l i).lst,.int .i64 (spotI l i).cost] 78 (0,0))/\TrX w wc c f (.slice (some ⟨g,0,none⟩) l.length cap) X n (begunL l c f cs q i TR.1))
      case first=>
       have hbd:Hid (begunL l c f cs q i TR.1=if (U:Int)=(ST:Int) then setL TR.1 (zM l i) (wantsL cs (q/c*n+zM l i) (spotI l i).cost) else TR.1):=by
        unfold Hid begunL;rw[Hm.out,←HU.out,show ((m:Int).toNat)=m from rfl,HST.out,HN.out]
       by_cases hz0:U=ST
       .have hz:(V15==0)=true:=by rw[HV15.out,hz0];simp
        have hbd2:Hid (begunL l c f cs q i TR.1=setL TR.1 (zM l i) (wantsL cs (q/c*n+zM l i) (spotI l i).cost)):=by unfold Hid;rw[hbd.out,if_pos (by rw[hz0])]
        have hkn:=numI_lt hil;rw[HN.out]at hkn;have hkn':(zM l i:Int)<n:=by omega
        obtain⟨x0,x1,x2⟩:=HT11.out.t.cells;have y2:w11.cell? ⟨Y,2,none⟩=some (.int .i64 (spotI l i).cost):=by rw[zC HY11.out];rfl
        have l0:=HT11.out.l _ hkn;have lf:=HT11.out.fz (zM l i);obtain⟨D,hD⟩:∃D,D=q/c:=⟨_,rfl⟩;obtain⟨DN,hDN⟩:∃DN,DN=D*n:=⟨_,rfl⟩;have hdq:D<=q:=by rw[hD];exact Nat.div_le_self q c
        have hdn:DN<=400*300:=by rw[hDN];exact Nat.mul_le_mul (by omega) (by omega)
        have hw1:IntKind.i64.wrap (IntKind.i64.wrap (IntKind.i64.wrap ((q:Int).tdiv (c:Int))*(n:Int))+(zM l i:Int))=((q/c*n+zM l i:Nat):Int):=by
         have e1:IntKind.i64.wrap ((q:Int).tdiv (c:Int))=(D:Int):=by
          rw[Int.tdiv_eq_ediv_of_nonneg (by omega),←Int.natCast_ediv,←hD];exact wr64 (by omega) (by omega)
         have e2:IntKind.i64.wrap ((D:Int)*(n:Int))=(DN:Int):=by
          rw[←Int.natCast_mul,←hDN];exact wr64 (by omega) (by omega)
         rw[e1,e2,←hD,←hDN];have e3:(DN:Int)+(zM l i:Int)=((DN+zM l i:Nat):Int):=by omega
         rw[e3];exact wr64 (by omega) (by omega)
        have hMM:q/c*n+zM l i<=1000000:=by rw[←hD,←hDN];omega
        have HWt:Hid (∀W,Below w.heap.size w W->Calls Tryz.prog 139 #[.slice a cs.length ccap,.int .i64 (IntKind.i64.wrap (IntKind.i64.wrap (IntKind.i64.wrap ((q:Int).tdiv (c:Int))*(n:Int))+(zM l i:Int))),.int .i64 (spotI l i).cost] W fun e w'=>e=.returned (.int .i64 (wantsL cs (q/c*n+zM l i) (spotI l i).cost))/\w'=W):=fun W hW=>by
         rw[hw1];exact rWants_any cs a ccap (q/c*n+zM l i) (spotI l i).cost W (Hca.out.below hW) (by omega) (Nat.le_trans hMM (by omega))
        have bT:=hide HT11.out.t.b.drew;have HT12:=hide (HT11.out.set (zM l i) (wantsL cs (q/c*n+zM l i) (spotI l i).cost));generalize wantsL cs (q/c*n+zM l i) (spotI l i).cost=VW at *;clear hbd hw1 hdn hdq hz0 hMM hD hDN;have hXw:=HT11.out.gt;have x0s:(w11.setCell ⟨X,zM l i,none⟩ (.int .i64 VW)).cell? ⟨w.heap.size,0,none⟩=some (.int .i64 c):=by
         rw[set_other (by intro e;injection e with e1 _;omega)];exact x0
        have y2s:(w11.setCell ⟨X,zM l i,none⟩ (.int .i64 VW)).cell? ⟨Y,2,none⟩=some (.int .i64 (spotI l i).cost):=by
         rw[set_other (by intro e;injection e with e1 _;exact hYX e1.symm)];exact y2
        have HT12d:Hid (TrX w (w11.setCell ⟨X,zM l i,none⟩ (.int .i64 VW)).drew c f (.slice (some ⟨g,0,none⟩) l.length cap) X n (setL TR.1 (zM l i) VW)):=⟨HT12.out.t.drewN 1,HT12.out.l,HT12.out.fz,HT12.out.gt,HT12.out.lt⟩;have HY12:Hid ((w11.setCell ⟨X,zM l i,none⟩ (.int .i64 VW)).drew.heap[Y]? =some (.cells #[.int .i64 m,.int .i64 (spotI l i).lst,.int .i64 (spotI l i).cost] 78 (0,0))):=by
         show (w11.setCell ⟨X,zM l i,none⟩ (.int .i64 VW)).heap[Y]? =_;rw[Below.heap_setCell _ _ _ _ hYX];exact HY11.out
        clear HT12 hkn x1 x2;go_wp2_with fail
        go_region_held_law (fun w'=>w'.cell? ⟨w.heap.size,0,none⟩=some (.int .i64 c)/\w'.cell? ⟨Y,2,none⟩=some (.int .i64 (spotI l i).cost)) (first|exact⟨x0,y2⟩|exact⟨x0s,y2s⟩)
         (first|(go_at_call 139;refine(HWt.out _ ?hw).mono ?_;(case hw=>(first|exact bT.out));rintro e w12 ⟨rfl,hw12⟩;subst hw12))
        all_goals
         go_wp2_with fail
         go_meet
         case rel=>exact⟨HY12.out,by rw[hbd2.out];exact HT12d.out⟩
       .have hz:(V15==0)=false:=by rw[HV15.out];simp;omega
        have hbd2:Hid (begunL l c f cs q i TR.1=TR.1):=by unfold Hid;rw[hbd.out,if_neg (by omega)]
        go_wp2_with fail
        go_meet
        case rel=>exact⟨HY11.out,by rw[hbd2.out];exact HT11.out⟩
      case rest=>
       clear HT11 HY11 HV15 hUc hqm;obtain⟨hY,hT⟩:=hcut;have hL1f:=fine_begun hn Hs.out Hcb.out c f q i hfn.out (zM l i);generalize hL1:begunL l c f cs q i TR.1=L1 at *;clear hL1;have hkn:=numI_lt hil;rw[HN.out]at hkn;have hkn':(zM l i:Int)<n:=by omega
       have hwcg:g<wc.heap.size:=by have:=hT.t.b.size;omega
       obtain⟨k0,k1,k2,k3⟩:=(Hr.out.below hT.t.b hg) i hil;obtain⟨x0,x1,x2⟩:=hT.t.cells;have bN:=zN wc (.cells #[.int .u8 (fsk l i).2.nm.toNat] 5);have hcv:=bytes1 (fsk l i).2.nm (wc.alloc (.cells #[.int .u8 (fsk l i).2.nm.toNat] 5)) wc.heap.size (by rw[zC (zW wc _ _)];rfl);have HT13:=hide (hT.keep bN);have HY13:=hide (zK hY bN);have l0:=(hT.keep bN).l _ hkn;have lf:=(hT.keep bN).fz (zM l i);have hrn:Hid (ranL (fsk l i).2.nm (zM l i) L1=if 0<L1 (zM l i) then [(fsk l i).2.nm] else [46]):=rfl;have hls:Hid (lessL (zM l i) L1=if 0<L1 (zM l i) then setL L1 (zM l i) (L1 (zM l i)-1) else L1):=rfl;clear hY hT k0 k2 k3;go_upto_if 94 with fail
       go_cut [7] (fun sv wd=>sv=.string (bs (TR.2++ranL (fsk l i).2.nm (zM l i) L1))/\wd.heap[Y]? =some (.cells #[.int .i64 m,.int .i64 (spotI l i).lst,.int .i64 (spotI l i).cost] 78 (0,0))/\TrX w wd c f (.slice (some ⟨g,0,none⟩) l.length cap) X n (lessL (zM l i) L1))
       case first=>
        clear k1 x0 x1 x2 hcv bN;by_cases hp:0<L1 (zM l i)
        .have e1:Hid (ranL (fsk l i).2.nm (zM l i) L1=[(fsk l i).2.nm]):=by unfold Hid;rw[hrn.out,if_pos hp]
         have e2:Hid (lessL (zM l i) L1=setL L1 (zM l i) (L1 (zM l i)-1)):=by unfold Hid;rw[hls.out,if_pos hp]
         obtain⟨X1,a1,z1,ee1⟩:=add_named2 (bs TR.2) ⟨#[(fsk l i).2.nm]⟩ (by rw[bs_size,show (ByteArray.size ⟨#[(fsk l i).2.nm]⟩)=1 from rfl];omega);have EX:Hid (X1=bs (TR.2++[(fsk l i).2.nm])):=by unfold Hid;rw[←bs_list X1,ee1,bs_data]
         have HT14:=hide (HT13.out.set (zM l i) (L1 (zM l i)-1));have HY14:Hid (((wc.alloc (.cells #[.int .u8 (fsk l i).2.nm.toNat] 5)).setCell ⟨X,zM l i,none⟩ (.int .i64 (L1 (zM l i)-1))).heap[Y]? =some (.cells #[.int .i64 m,.int .i64 (spotI l i).lst,.int .i64 (spotI l i).cost] 78 (0,0))):=by
          unfold Hid;rw[Below.heap_setCell _ _ _ _ hYX];exact HY13.out
         clear ee1 z1;go_wp2_with fail
         go_meet
         case rel=>exact⟨by rw[e1.out,EX.out],HY14.out,by rw[e2.out];exact HT14.out⟩
        .have e1:Hid (ranL (fsk l i).2.nm (zM l i) L1=[46]):=by unfold Hid;rw[hrn.out,if_neg hp]
         have e2:Hid (lessL (zM l i) L1=L1):=by unfold Hid;rw[hls.out,if_neg hp]
         obtain⟨X1,a1,z1,ee1⟩:=add_named2 (bs TR.2) ⟨#[46]⟩ (by rw[bs_size,show (ByteArray.size ⟨#[46]⟩)=1 from rfl];omega);have EX:Hid (X1=bs (TR.2++[46])):=by unfold Hid;rw[←bs_list X1,ee1,bs_data]
         clear ee1 z1;go_wp2_with fail
         go_meet
         case rel=>exact⟨by rw[e1.out,EX.out],HY13.out,by rw[e2.out];exact HT13.out⟩
       case rest=>
        clear HT13 HY13 l0 lf k1 x0 x1 x2 hcv bN;obtain⟨rfl,hY,hT⟩:=hcut;have y1:wc.cell? ⟨Y,1,none⟩=some (.int .i64 (spotI l i).lst):=by rw[zC hY];rfl
        have l2:=hT.l _ hkn;have HT:=hide hT;have hS2:(TR.2++ranL (fsk l i).2.nm (zM l i) L1).length<=3*q+1:=by
         have:(ranL (fsk l i).2.nm (zM l i) L1).length=1:=by rw[hrn.out];split<;>rfl
         rw[List.length_append,this];omega
        clear hT hY hrn hls hL1f;generalize TR.2++ranL (fsk l i).2.nm (zM l i) L1=S2 at *;generalize lessL (zM l i) L1=L2 at *;have hmk2:=hmk.out L2;have fin:Hid (∀M,markL l c f q i L2=M->trcL l c f cs (q+1)=(L2,S2++M)):=fun M hM=>by rw[hst2.out,hM]
        have hnoE:Hid (E=false->markL l c f q i L2=[]):=fun h=>by
         rw[hmk2,if_neg];rintro ⟨h1,_⟩;rw[←HEd.out]at h;simp at h;exact h h1
        have hyes:Hid (E=true->(i:Int)=(spotI l i).lst->0<L2 (zM l i)->markL l c f q i L2=[33,(fsk l i).2.nm]):=fun h h2 h3=>by
         rw[hmk2,if_pos];rw[←HEd.out]at h;exact⟨by simpa using h,h2,h3⟩
        have hnoI:Hid (¬(i:Int)=(spotI l i).lst->markL l c f q i L2=[]):=fun h=>by rw[hmk2,if_neg (fun z=>h z.2.1)]
        have hnoL:Hid (¬0<L2 (zM l i)->markL l c f q i L2=[]):=fun h=>by rw[hmk2,if_neg (fun z=>h z.2.2)]
        clear hmk2 hmk hst2 HEd hfn
        cases E with
        | false=>
         have hf0:=hide (fin.out _ (hnoE.out rfl));clear fin hnoE hyes hnoI hnoL;go_wp2_with fail;go_roundw
         case rel=>exact⟨q+1,by omega,by go_num,by rw[hf0.out,List.append_nil],HT.out.ext (by rw[hf0.out])⟩
         case measure=>simp[intOf];omega
        | true=>
         by_cases hi:(i:Int)=(spotI l i).lst
         .have hi':((i:Int)==(spotI l i).lst)=true:=by simpa using hi
          by_cases hp:0<L2 (zM l i)
          .have hf0:=hide (fin.out _ (hyes.out rfl hi hp));obtain⟨X1,a1,z1,ee1⟩:=add_named2 (bs S2) ⟨#[33]⟩ (by rw[bs_size,show (ByteArray.size ⟨#[33]⟩)=1 from rfl];omega);rw[bs_size,show (ByteArray.size ⟨#[33]⟩)=1 from rfl]at z1;obtain⟨X2,a2,z2,ee2⟩:=add_named2 X1 ⟨#[(fsk l i).2.nm]⟩ (by rw[show (ByteArray.size ⟨#[(fsk l i).2.nm]⟩)=1 from rfl];omega);have EX:Hid (X2=bs (S2++[33,(fsk l i).2.nm])):=by
            unfold Hid;rw[←bs_list X2,ee2,ee1,bs_data];simp
           clear fin hnoE hyes hnoI hnoL ee1 ee2 z1 z2 hi;go_wp2_with fail;go_roundw
           case rel=>exact⟨q+1,by omega,by go_num,by rw[hf0.out,EX.out],HT.out.ext (by rw[hf0.out])⟩
           case measure=>simp[intOf];omega
          .have hf0:=hide (fin.out _ (hnoL.out hp));clear fin hnoE hyes hnoI hnoL hi;go_wp2_with fail;go_roundw
           case rel=>exact⟨q+1,by omega,by go_num,by rw[hf0.out,List.append_nil],HT.out.ext (by rw[hf0.out])⟩
           case measure=>simp[intOf];omega
         .have hi':((i:Int)==(spotI l i).lst)=false:=by simpa using hi
          have hf0:=hide (fin.out _ (hnoI.out hi));clear fin hnoE hyes hnoI hnoL hi;go_wp2_with fail;go_roundw
          case rel=>exact⟨q+1,by omega,by go_num,by rw[hf0.out,List.append_nil],HT.out.ext (by rw[hf0.out])⟩
          case measure=>simp[intOf];omega
  .have hlt':¬(q:Int)<tk:=by omega
   have hqe:q=tk:=by omega
   subst hqe;clear hT;generalize hRR:bs (trcL l c f cs q).2=RR at *;have HRR:=hide hRR;clear hRR;go_wp2;go_ret;exact⟨by rw[HRR.out];rfl,HT.out.t.b⟩
theorem rJobs_nil (c f:Nat)(w:World):Calls Tryz.prog 23 #[.agg #[.int .i64 c,.int .i64 f,.slice none 0 0]] w fun e w'=>e=.returned (.int .i64 0)/\Below w.heap.size w w':=by
 have H0:=hide (TBx.start w c f (.slice none 0 0));go_enter Tryz.func23,Tryz.ntmps23;go_wp2_with fail
 go_loopw [3,4] (fun n i wr=>i=.int .i64 0/\n=.int .i64 0/\TBx w wr c f (.slice none 0 0)) (fun _ _ _=>0)
 case atStart=>exact⟨rfl,rfl,H0.out⟩
 case round=>
  clear H0;obtain⟨rfl,rfl,hT⟩:=hrel;obtain⟨x0,x1,x2⟩:=hT.cells;have HT:=hide hT;clear hT;go_wp2;go_ret;exact⟨rfl,HT.out.b⟩
theorem rat_nil (c f u:Nat)(w:World)(hf1:1<=f)(hf2:f<=60)(hu:u<=60):Calls Tryz.prog 137 #[.agg #[.int .i64 c,.int .i64 f,.slice none 0 0],.int .i64 u] w fun e w'=>e=.returned (.tuple #[.int .i64 (-1),.bool false])/\Below w.heap.size w w':=by
 have H0:=hide (TBx.start w c f (.slice none 0 0));obtain⟨e1,e2⟩:=quo_wraps u f (by omega);have hb:=frame_base u f;generalize u/f=J at *;generalize J*f=M at *;go_enter Tryz.func137,Tryz.ntmps137;go_wp2_with fail;rw[e1,e2];clear e1 e2
 go_loopw [7,8] (fun fv i wr=>i=.int .i64 0/\TBx w wr c f (.slice none 0 0)) (fun _ _ _=>0)
 case atStart=>exact⟨rfl,H0.out⟩
 case round=>
  clear H0;obtain⟨rfl,hT⟩:=hrel;obtain⟨x0,x1,x2⟩:=hT.cells;have HT:=hide hT;clear hT;go_wp2;exact bodyPost_ret (v:=.tuple #[.int .i64 (-1),.bool false]) (by simp[results,Tryz.results137,go_sem]) rfl ⟨rfl,HT.out.b⟩
theorem rTrace_nil (c f tk:Nat)(cs:List Int)(a:Option Addr)(ccap:Nat)(w:World)(hc1:1<=c)(hc2:c<=60)(hf1:1<=f)(hf2:f<=60)(htk:tk<=400):
  Calls Tryz.prog 99 #[.agg #[.int .i64 c,.int .i64 f,.slice none 0 0],.int .i64 tk,.slice a cs.length ccap] w fun e w'=>e=.returned (.string (bs (trcL [] c f cs tk).2))/\Below w.heap.size w w':=by
 have H0:=hide (TBx.start w c f (.slice none 0 0));have HJb:=hide (rJobs_nil c f (w.alloc (.cells #[.int .i64 c,.int .i64 f,.slice none 0 0] 39)));have hmk:∀w:World,(Instr.makeSlice 25 (.int .i64 0) (.int .i64 0)).run Tryz.prog w=.ok (.slice (some ⟨w.heap.size,0,none⟩) 0 0) (w.alloc (.cells (zerosA 0) 3)):=fun w=>make_ints 0 (by omega) w;go_enter Tryz.func99,Tryz.ntmps99;go_wp2_with fail;generalize w.alloc (.cells #[.int .i64 c,.int .i64 f,.slice none 0 0] 39)=W0 at *;refine HJb.out.mono ?_;rintro e w1 ⟨rfl,hb1⟩;have H1:=hide (H0.out.keep hb1);clear hb1 HJb H0;have H2:=hide (H1.out.alloc (.cells (zerosA 0) 3));go_wp2_with fail;generalize w1.alloc (.cells (zerosA 0) 3)=w2 at *;generalize w1.heap.size=X at *;clear hmk H1
 go_loopw [7,10] (fun sv uv wr=>∃q:Nat,q<=tk/\uv=.int .i64 q/\sv=.string (bs (trcL [] c f cs q).2)/\TBx w wr c f (.slice none 0 0)) (fun _ uv _=>tk-(intOf uv).toNat)
 case atStart=>exact⟨0,by omega,rfl,rfl,H2.out⟩
 case round=>
  clear H2;obtain⟨q,hq,rfl,rfl,hT⟩:=hrel;obtain⟨x0,x1,x2⟩:=hT.cells;have HT:=hide hT;by_cases hlt:q<tk
  .have hlt':(q:Int)<tk:=by omega
   have hlen:=trc_len [] c f cs q;have hww:w.heap.size<wr.heap.size:=zL hT.h;have hml:=Nat.mod_lt q (show 0<c by omega);have hmod:((q:Int)%c)=((q%c:Nat):Int):=by simp
   have hc0:¬(c:Int)=0:=by omega
   have HAt:=hide (fun W (hW:Below wr.heap.size wr W)=>(rat_nil c f (q%c) W hf1 hf2 (by omega)).mono (fun e w' h=>(⟨h.1,hW.trans (h.2.mono hW.size)⟩:e=.returned (.tuple #[.int .i64 (-1),.bool false])/\Below wr.heap.size wr w')));have HK:Hid (∀W,Below wr.heap.size wr W->W.cell? ⟨w.heap.size,0,none⟩=some (.int .i64 c)/\W.cell? ⟨w.heap.size,1,none⟩=some (.int .i64 f)/\W.cell? ⟨w.heap.size,2,none⟩=some (.slice none 0 0)/\Below wr.heap.size wr W):=fun W hW=>⟨(hW.cell (p:=⟨w.heap.size,0,none⟩) hww).trans x0,(hW.cell (p:=⟨w.heap.size,1,none⟩) hww).trans x1,(hW.cell (p:=⟨w.heap.size,2,none⟩) hww).trans x2,hW⟩;have hst2:Hid (trcL [] c f cs (q+1)=((trcL [] c f cs q).1,(trcL [] c f cs q).2++[46])):=rfl;rw[←hmod]at HAt;clear hmod;generalize trcL [] c f cs q=TR at *;have bA:=hide ((Below.refl wr.heap.size wr).drew);obtain⟨X1,a1,z1,e1⟩:=add_named2 (bs TR.2) ⟨#[46]⟩ (by rw[bs_size,show (ByteArray.size ⟨#[46]⟩)=1 from rfl];omega);have EX:Hid (X1=bs (TR.2++[46])):=by unfold Hid;rw[←bs_list X1,e1,bs_data]
   clear hT e1 z1;go_wp2_with fail
   go_region_held_law (fun w'=>w'.cell? ⟨w.heap.size,0,none⟩=some (.int .i64 c)/\w'.cell? ⟨w.heap.size,1,none⟩=some (.int .i64 f)/\w'.cell? ⟨w.heap.size,2,none⟩=some (.slice none 0 0)/\Below wr.heap.size wr w') (first|exact HK.out _ bA.out|exact HK.out _ hb8)
    (first|(go_at_call 137;refine(HAt.out _ ?hw).mono ?_;(case hw=>(first|exact bA.out));rintro e w8 ⟨rfl,hb8⟩))
   all_goals
    have HT8:=hide (HT.out.keep hb8);clear HK HAt HT x0 x1 x2;go_wp2;go_roundw
    case rel=>exact⟨q+1,by omega,by go_num,by rw[hst2.out,EX.out],HT8.out⟩
    case measure=>simp[intOf];omega
  .have hlt':¬(q:Int)<tk:=by omega
   have hqe:q=tk:=by omega
   subst hqe;clear hT;generalize hRR:bs (trcL [] c f cs q).2=RR at *;have HRR:=hide hRR;clear hRR;go_wp2;go_ret;exact⟨by rw[HRR.out];rfl,HT.out.b⟩
end
section
open Go.ChangeShapes Go.WideShapes Go.ChangeAt Go.RowKit Go.Deep
theorem own:ownKnob Tryz.prog.godebug=none:=by kernel_rfl
theorem laidOut:laidOutB Tryz.prog=true:=by kernel_rfl
theorem cellsOp:Tryz.prog.cellsOf 27=6:=by kernel_rfl
theorem cellsInt:Tryz.prog.cellsOf 3=1:=by kernel_rfl
theorem cellsStr:Tryz.prog.cellsOf 9=1:=by kernel_rfl
theorem cellsSl:Tryz.prog.cellsOf 25=1:=by kernel_rfl
theorem lt_of_cell {w:World}{b off:Nat}{o:Option Value}(h:w.cell? ⟨b,off,none⟩=o)(ho:o.isSome=true):b<w.heap.size:=by
 rcases Nat.lt_or_ge b w.heap.size with h1|h1
 .exact h1
 .rw[←h]at ho;simp[World.cell?,Array.getElem?_eq_none h1]at ho
section
variable {H:Type} {enc:TypeId×Value->H} {w:World} {base:Nat} {spare:Nat->Bool} {held:Bool}
end
end
section
open Go.RowKit
theorem tab_fine {l:List UInt8}{t:Tb}(h:TabOk l t):ChkOk t:=⟨h.2.2.1,(pTab_small h.1 h.2.1).2⟩
theorem tab_one {l:List UInt8}{t t':Tb}(h:TabOk l t)(h':TabOk l t'):t=t':=by
 have:=h.2.1;rw[h'.2.1]at this;exact(Option.some.inj this).symm
theorem pack_unp {t:Tb}(h:ChkOk t):UnpOk (packB t) t:=by
 refine⟨?_,bodyB t,rfl,bTab_pack h.1,h⟩;have:=bodyB_len h.1;unfold packB;rw[List.length_append,show (sumL (bodyB t)).length=4 from rfl];omega
theorem unp_one {l:List UInt8}{t t':Tb}(h:UnpOk l t)(h':UnpOk l t'):t=t':=by
 obtain⟨_,b,e,h1,_⟩:=h;obtain⟨_,b',e',h1',_⟩:=h';have hl:=congrArg List.length (e.symm.trans e');rw[List.length_append,List.length_append,show (sumL b).length=4 from rfl,show (sumL b').length=4 from rfl]at hl;have hb:b=b':=by
  have:=congrArg (List.take b.length) (e.symm.trans e');rw[List.take_left',List.take_append_of_le_length (by omega),show b.length=b'.length by omega,List.take_length]at this
  .exact this
  .rfl
 subst hb;rw[h1]at h1';exact Option.some.inj h1'
theorem unp_tab {l:List UInt8}{t:Tb}(h:UnpOk l t):TabOk (tbTxt t) t/\packB t=l:=by
 obtain⟨_,b,e,h1,h2,h3⟩:=h;obtain⟨f1,f2,f3,f4,f5⟩:=h2.frames;have hc:=h2.c2;have hs:=h2.small;refine⟨⟨tbTxt_len h2,pTab_txt t (by omega) (by omega) (fun x hx s hsx=>⟨h3 x hx s hsx,by have:=(hs x hx).2 s hsx;omega,by have:=(hs x hx).2 s hsx;omega⟩),h2,rfl⟩,?_⟩;unfold packB;rw[bTab_inv h1,e]
theorem num_any (n:Nat)(w:World):Calls Tryz.prog 15 #[.int .i64 n] w fun e w'=>e=.returned (.int .i64 n)/\w'=w:=by
 go_enter Tryz.func15,Tryz.ntmps15;go_wp2;go_ret;exact⟨rfl,rfl⟩
theorem writes_one (s:ByteArray)(w:World)(hm:s.size<=9223372036854775807)(ht:T10 w):
  Calls Tryz.prog 59 #[.string s] w fun e w'=>e=.returned (.bool true)/\Below w.heap.size w w':=by
 have Ht:=hide ht;clear ht;go_enter Tryz.func59,Tryz.ntmps59;go_wp2_with fail;refine(write_any s w hm).mono ?_;rintro e w1 ⟨hb1,hcase⟩;have HB1:=hide hb1;have HT1:=hide (Ht.out.below hb1);clear hb1 Ht;rcases hcase with⟨f,⟨hf8,hno⟩,rfl⟩|⟨x,⟨t,ht,rfl⟩,rfl⟩
 .rw[hf8];have Hno:=hide hno;clear hno hf8;go_wp2_with fail;refine(rReadTable_any s w1 hm HT1.out).mono ?_;rintro e w2 ⟨hb2,hcase⟩;have HB2:=hide (HB1.out.trans (hb2.mono HB1.out.size));clear hb2 HT1;rcases hcase with⟨t,sv,ht,rfl,how⟩|⟨_,c,f,a,n,k,rfl⟩
  .exact absurd ⟨t,ht⟩ Hno.out
  .go_wp2_with (go_at_call 15;refine(num_any 8 _).mono ?_;rintro e w' ⟨rfl,rfl⟩);go_ret;exact⟨rfl,HB2.out.alloc HB2.out.size _⟩
 .have Ht:=hide ht;clear ht;generalize hpk:packB t=pk at *;have Hpk:=hide hpk;clear hpk;go_wp2_with fail;refine(rReadTable_any s w1 hm HT1.out).mono ?_;rintro e w2 ⟨hb2,hcase⟩;have HB2:=hide (HB1.out.trans (hb2.mono HB1.out.size));clear hb2 HT1 HB1;rcases hcase with⟨t',sv,ht',rfl,how⟩|⟨hno,_⟩
  .obtain⟨sa,sc,rfl⟩:=own_slice how;clear how ht';have hpl:(bs pk).size<=9223372036854775807:=by
    rw[bs_size,←Hpk.out];have:=(pack_unp (tab_fine Ht.out)).1;omega
   have HB3:=hide (HB2.out.alloc HB2.out.size (.cells #[.int .i64 t'.cyc,.int .i64 t'.fr,.slice sa (zX 0 t'.fs).length sc] 39));have hsz3:=HB3.out.size;generalize (zX 0 t'.fs).length=n at *;go_wp2_with fail;refine(read_any (bs pk) _ hpl).mono ?_;rintro e w4 ⟨hb4,hcase⟩;have HB4:=hide (HB3.out.trans (hb4.mono HB3.out.size));clear hb4 HB3 HB2;rw[bs_data]at hcase;have hup:UnpOk pk t:=by rw[←Hpk.out];exact pack_unp (tab_fine Ht.out)
   rcases hcase with⟨f,⟨_,hno⟩,_⟩|⟨x,⟨t2,h2,rfl⟩,rfl⟩
   .exact absurd ⟨t,hup⟩ hno
   .have:=unp_one hup h2;subst this;have hxs:bs (tbTxt t)=s:=by rw[Ht.out.2.2.2,bs_list]
    rw[hxs];have hss:(s.toList==s.toList)=true:=by simp
    clear h2 hup hxs;go_wp2_with (go_at_call 15;refine(num_any 0 _).mono ?_;rintro e w' ⟨rfl,rfl⟩);go_ret;exact⟨rfl,HB4.out⟩
  .exact absurd ⟨t,Ht.out⟩ hno
theorem reads_one (s:ByteArray)(w:World)(hm:s.size<=9223372036854775807)(ht:T10 w):
  Calls Tryz.prog 60 #[.string s] w fun e w'=>e=.returned (.bool true)/\Below w.heap.size w w':=by
 have Ht:=hide ht;clear ht;go_enter Tryz.func60,Tryz.ntmps60;go_wp2_with fail;refine(read_any s w hm).mono ?_;rintro e w1 ⟨hb1,hcase⟩;have HB1:=hide hb1;have HT1:=hide (Ht.out.below hb1);clear hb1 Ht;rcases hcase with⟨f,⟨hf8,_⟩,rfl⟩|⟨x,⟨t,ht,rfl⟩,rfl⟩
 .rw[hf8];clear hf8;go_wp2_with (go_at_call 15;refine(num_any 8 _).mono ?_;rintro e w' ⟨rfl,rfl⟩);go_ret;exact⟨rfl,HB1.out⟩
 .obtain⟨htab,hpk⟩:=unp_tab ht;have Htab:=hide htab;have Hpk:=hide hpk;have htl:(bs (tbTxt t)).size<=800:=by rw[bs_size];exact htab.1
  clear ht htab hpk;generalize hTX:bs (tbTxt t)=TX at *;have HTX:Hid (TX.data.toList=tbTxt t):=by unfold Hid;rw[←hTX,bs_data]
  clear hTX;go_wp2_with (go_at_call 15;refine(num_any 0 _).mono ?_;rintro e w' ⟨rfl,rfl⟩);refine(rReadTable_any TX _ (by omega) HT1.out).mono ?_;rintro e w2 ⟨hb2,hcase⟩;have HB2:=hide (HB1.out.trans (hb2.mono HB1.out.size));clear hb2 HT1 HB1;rcases hcase with⟨t',sv,ht',rfl,how⟩|⟨hno,_⟩
  .obtain⟨sa,sc,rfl⟩:=own_slice how;clear how ht';have HB3:=hide (HB2.out.alloc HB2.out.size (.cells #[.int .i64 t'.cyc,.int .i64 t'.fr,.slice sa (zX 0 t'.fs).length sc] 39));generalize (zX 0 t'.fs).length=n at *;go_wp2_with fail;refine(write_any TX _ (by omega)).mono ?_;rintro e w4 ⟨hb4,hcase⟩;have HB4:=hide (HB3.out.trans (hb4.mono HB3.out.size));clear hb4 HB3 HB2;rw[HTX.out]at hcase;rcases hcase with⟨f,⟨_,hno⟩,_⟩|⟨x,⟨t2,h2,rfl⟩,rfl⟩
   .exact absurd ⟨t,Htab.out⟩ hno
   .have:=tab_one Htab.out h2;subst this;have hxs:bs (packB t)=s:=by rw[Hpk.out,bs_list]
    rw[hxs];have hss:(s.toList==s.toList)=true:=by simp
    clear h2 hxs;go_wp2_with (go_at_call 15;refine(num_any 0 _).mono ?_;rintro e w' ⟨rfl,rfl⟩);go_ret;exact⟨rfl,HB4.out⟩
  .exact absurd ⟨t,by rw[HTX.out];exact Htab.out⟩ hno
end
end Go.Proofs.YtbdffcjganlblaaGreatDoor
