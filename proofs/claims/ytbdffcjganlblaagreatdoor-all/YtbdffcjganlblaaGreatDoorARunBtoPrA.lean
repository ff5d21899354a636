import Derived.Test.YtbdffcjganlblaaGreatDoorARefXtoRunA
import Derived.Deep.RegionHeldLaw
set_option linter.unusedVariables false
set_option linter.unusedSimpArgs false
set_option maxRecDepth 100000
set_option maxHeartbeats 16000000
namespace Go.Proofs.YtbdffcjganlblaaGreatDoor
section
open Go.RowKit
theorem spotTo_fst (l:List FSl)(n:UInt8)(k:Nat):∀q,((spotTo l n k q).fst=-1/\∀i,i<q->¬isOf (fsk l i) n k)\/∃m:Nat,(spotTo l n k q).fst=m/\m<q/\isOf (fsk l m) n k/\∀i,i<m->¬isOf (fsk l i) n k
 | 0=>.inl ⟨rfl,fun i h=>by omega⟩
 | q+1=>by
  rcases spotTo_fst l n k q with⟨h1,h2⟩|⟨m,h1,h2,h3,h4⟩
  .by_cases h:isOf (fsk l q) n k
   .refine .inr ⟨q,?_,by omega,h,h2⟩;rw[spotTo_yes h];show (if (spotTo l n k q).fst<0 then (q:Int) else (spotTo l n k q).fst)=q;rw[if_pos (by omega)]
   .refine .inl ⟨by rw[spotTo_no h];exact h1,fun i hi=>?_⟩;rcases Nat.lt_or_ge i q with h5|h5
    .exact h2 i h5
    .have:i=q:=by omega
     subst this;exact h
  .refine .inr ⟨m,?_,by omega,h3,h4⟩;by_cases h:isOf (fsk l q) n k
   .rw[spotTo_yes h];show (if (spotTo l n k q).fst<0 then (q:Int) else (spotTo l n k q).fst)=m;rw[if_neg (by omega),h1]
   .rw[spotTo_no h];exact h1
def spotI (l:List FSl) (i:Nat):Spt:=spotL l (fsk l i).2.nm (fsk l i).2.job
def sameJ (l:List FSl) (i k:Nat):Prop:=(fsk l k).2.nm=(fsk l i).2.nm/\(fsk l k).2.job=(fsk l i).2.job
theorem spotI_fst {l:List FSl}{i:Nat}(h:i<l.length):∃m:Nat,(spotI l i).fst=m/\m<=i/\sameJ l i m/\∀k,k<m->¬sameJ l i k:=by
 rcases spotTo_fst l (fsk l i).2.nm (fsk l i).2.job l.length with⟨_,h2⟩|⟨m,h1,h2,h3,h4⟩
 .exact absurd ⟨rfl,rfl⟩ (h2 i h)
 .refine⟨m,h1,?_,h3,h4⟩;rcases Nat.lt_or_ge i m with h5|h5
  .exact absurd ⟨rfl,rfl⟩ (h4 i h5)
  .exact h5
theorem spotI_same {l:List FSl}{i k:Nat}(h:sameJ l i k):spotI l k=spotI l i:=by
 unfold spotI;rw[h.1,h.2]
def cntTo (l:List FSl):Nat->Nat
 | 0=>0
 | q+1=>if (spotI l q).fst=q then cntTo l q+1 else cntTo l q
theorem cntTo_le (l:List FSl):∀q,cntTo l q<=q
 | 0=>Nat.le_refl _
 | q+1=>by
  have:=cntTo_le l q;rw[cntTo];split<;>omega
def zM (l:List FSl) (i:Nat):Nat:=cntTo l (spotI l i).fst.toNat
theorem below_set3 {B X:Nat}{w w8:World}(h:Below B w w8)(hX:B<=X)(u v t:Value):Below B w (((w8.setCell ⟨X,0,none⟩ u).setCell ⟨X,1,none⟩ v).setCell ⟨X,2,none⟩ t):=((h.setCell hX _).setCell hX _).setCell hX _
theorem rspot_kept (c f:Nat)(l:List FSl)(g cap:Nat)(wr:World)(hg:g<wr.heap.size)(hr:RowF wr g l)(hn:l.length<=300)(hs:∀k,k<l.length->(fsk l k).small)(i:Nat)(hi:i<l.length)(W:World)(hW:Below wr.heap.size wr W):
  Calls Tryz.prog 47 #[.agg #[.int .i64 c,.int .i64 f,.slice (some ⟨g,0,none⟩) l.length cap],.int .u8 (fsk l i).2.nm.toNat,.int .i64 (fsk l i).2.job] W fun e w'=>e=.returned (.agg #[.int .i64 (spotI l i).fst,.int .i64 (spotI l i).lst,.int .i64 (spotI l i).cost])/\Below wr.heap.size wr w'/\∀(b:Nat) (o:Obj),W.heap[b]? =some o->w'.heap[b]? =some o:=by
 refine(rspot_any c f l g cap _ _ W (Nat.lt_of_lt_of_le hg hW.size) (hr.below hW hg) hn hs (hs i hi).2.1).mono ?_;rintro e w' ⟨rfl,hb⟩;exact⟨rfl,hW.trans (hb.mono hW.size),fun b o h=>zK h hb⟩
theorem rJobs_any (c f:Nat)(l:List FSl)(g cap:Nat)(w:World)(hg:g<w.heap.size)(hr:RowF w g l)(hn:l.length<=300)(hs:∀k,k<l.length->(fsk l k).small):
  Calls Tryz.prog 23 #[.agg #[.int .i64 c,.int .i64 f,.slice (some ⟨g,0,none⟩) l.length cap]] w fun e w'=>e=.returned (.int .i64 (cntTo l l.length))/\Below w.heap.size w w':=by
 have Hr:=hide hr;have Hs:=hide hs;have H0:=hide (TBx.start w c f (.slice (some ⟨g,0,none⟩) l.length cap));clear hr hs;go_enter Tryz.func23,Tryz.ntmps23;go_wp2_with fail
 go_loopw [3,4] (fun n i wr=>∃q:Nat,q<=l.length/\i=.int .i64 q/\n=.int .i64 (cntTo l q)/\TBx w wr c f (.slice (some ⟨g,0,none⟩) l.length cap)) (fun _ i _=>l.length-(intOf i).toNat)
 case atStart=>exact⟨0,by omega,rfl,rfl,H0.out⟩
 case round=>
  clear H0;obtain⟨q,hq,rfl,rfl,hT⟩:=hrel;obtain⟨x0,x1,x2⟩:=hT.cells;have HT:=hide hT;by_cases hlt:q<l.length
  .have hlt':(q:Int)<l.length:=by omega
   have hwg:g<wr.heap.size:=Nat.lt_of_lt_of_le hg hT.b.size;have hww:w.heap.size<wr.heap.size:=zL hT.h;have hR:=Hr.out.below hT.b hg;obtain⟨k0,k1,k2,k3⟩:=hR q hlt;have HSp:=hide (fun W hW=>rspot_kept c f l g cap wr hwg hR hn Hs.out q hlt W hW);have hcl:=cntTo_le l q;obtain⟨m,hm,hmq,_,_⟩:=spotI_fst hlt;have hnext:Hid (cntTo l (q+1)=if (m:Int)=q then cntTo l q+1 else cntTo l q):=by unfold Hid;rw[cntTo,hm]
   have HK:Hid (∀W,Below wr.heap.size wr W->W.cell? ⟨w.heap.size,0,none⟩=some (.int .i64 c)/\W.cell? ⟨w.heap.size,1,none⟩=some (.int .i64 f)/\W.cell? ⟨w.heap.size,2,none⟩=some (.slice (some ⟨g,0,none⟩) l.length cap)/\W.cell? ⟨g,q*4+1,none⟩=some (.int .u8 (fsk l q).2.nm.toNat)/\W.cell? ⟨g,q*4+2,none⟩=some (.int .i64 (fsk l q).2.job)):=fun W hW=>⟨(hW.cell (p:=⟨w.heap.size,0,none⟩) hww).trans x0,(hW.cell (p:=⟨w.heap.size,1,none⟩) hww).trans x1,(hW.cell (p:=⟨w.heap.size,2,none⟩) hww).trans x2,(hW.cell (p:=⟨g,q*4+1,none⟩) hwg).trans k1,(hW.cell (p:=⟨g,q*4+2,none⟩) hwg).trans k2⟩;rw[hm]at HSp;clear hT hR hm k0 k3;generalize cntTo l q=N at *;have bA:=hide ((Below.refl wr.heap.size wr).drew);have bB:=hide ((zN wr (.cells #[.int .i64 0,.int .i64 0,.int .i64 0] 78)).drew);have nB:Hid ((wr.alloc (.cells #[.int .i64 0,.int .i64 0,.int .i64 0] 78)).drew.heap[wr.heap.size]? =some (.cells #[.int .i64 0,.int .i64 0,.int .i64 0] 78 (0,0))):=zW wr _ _;go_wp2_with fail
   go_region_held_law (fun w'=>w'.cell? ⟨w.heap.size,0,none⟩=some (.int .i64 c)/\w'.cell? ⟨w.heap.size,1,none⟩=some (.int .i64 f)/\w'.cell? ⟨w.heap.size,2,none⟩=some (.slice (some ⟨g,0,none⟩) l.length cap)/\w'.cell? ⟨g,q*4+1,none⟩=some (.int .u8 (fsk l q).2.nm.toNat)/\w'.cell? ⟨g,q*4+2,none⟩=some (.int .i64 (fsk l q).2.job)) (first|exact HK.out _ bA.out|exact HK.out _ bB.out|exact HK.out _ hb8|exact HK.out _ (hb8.alloc hb8.size _)|exact HK.out _ (below_set3 hb8 (Nat.le_refl _) _ _ _))
    (first|(go_at_call 47;refine(HSp.out _ ?hw).mono ?_;(case hw=>(first|exact bA.out|exact bB.out));rintro e w8 ⟨rfl,hb8,hc8⟩;try (have h8:=hc8 wr.heap.size _ nB.out;have c80:=zC h8 0;have c81:=zC h8 1;have c82:=zC h8 2;have z8:=zF h8)))
   all_goals
    have Hfin:Hid (∀W:World,Below wr.heap.size wr W->TBx w W c f (.slice (some ⟨g,0,none⟩) l.length cap)):=fun W hW=>HT.out.keep hW;clear HK HSp hc8 HT x0 x1 x2 k1 k2;by_cases he:m=q
    .have he':((m:Int)==q)=true:=by simp[he]
     have hn2:Hid (cntTo l (q+1)=N+1):=by unfold Hid;rw[hnext.out,if_pos (by omega)]
     clear he hnext;go_wp2;go_roundw
     case rel=>exact⟨q+1,by omega,by go_num,by rw[hn2.out];go_num,by first|exact Hfin.out _ (hb8.alloc hb8.size _)|exact Hfin.out _ (below_set3 hb8 (Nat.le_refl _) _ _ _)⟩
     case measure=>simp[intOf];omega
    .have he':((m:Int)==q)=false:=by simp;omega
     have hn2:Hid (cntTo l (q+1)=N):=by unfold Hid;rw[hnext.out,if_neg (by omega)]
     clear he hnext;go_wp2;go_roundw
     case rel=>exact⟨q+1,by omega,by go_num,by rw[hn2.out],by first|exact Hfin.out _ (hb8.alloc hb8.size _)|exact Hfin.out _ (below_set3 hb8 (Nat.le_refl _) _ _ _)⟩
     case measure=>simp[intOf];omega
  .have hlt':¬(q:Int)<l.length:=by omega
   have hqe:q=l.length:=by omega
   clear hT hlt;go_wp2;go_ret;exact⟨rfl,HT.out.b⟩
theorem numI_here {l:List FSl}{i:Nat}(hi:i<l.length)(h:∀k,k<i->¬sameJ l i k):zM l i=cntTo l i:=by
 obtain⟨m,hm,hmi,hs,_⟩:=spotI_fst hi;unfold zM;rw[hm];have:m=i:=by
  rcases Nat.lt_or_ge m i with h1|h1
  .exact absurd hs (h m h1)
  .omega
 rw[this];rfl
theorem rnum_any (c f:Nat)(l:List FSl)(g cap:Nat)(hn:l.length<=300)(hs:∀k,k<l.length->(fsk l k).small)(i:Nat):∀(w:World),i<l.length->g<w.heap.size->RowF w g l->
  Calls Tryz.prog 48 #[.agg #[.int .i64 c,.int .i64 f,.slice (some ⟨g,0,none⟩) l.length cap],.int .i64 i] w fun e w'=>e=.returned (.int .i64 (zM l i))/\Below w.heap.size w w':=by
 induction i using Nat.strongRecOn with
 | ind i ih=>
 intro w hi hg hr;have Hih:=hide ih;have Hr:=hide hr;have Hs:=hide hs;have H0:=hide (TBx.start w c f (.slice (some ⟨g,0,none⟩) l.length cap));clear hr hs ih;go_enter Tryz.func48,Tryz.ntmps48;go_wp2_with fail
 go_loopw [5,6] (fun n k wr=>∃q:Nat,q<=i/\k=.int .i64 q/\n=.int .i64 (cntTo l q)/\TBx w wr c f (.slice (some ⟨g,0,none⟩) l.length cap)/\Hid (∀k,k<q->¬sameJ l i k)) (fun _ k _=>i-(intOf k).toNat)
 case atStart=>exact⟨0,by omega,rfl,rfl,H0.out,fun k h=>by omega⟩
 case round=>
  clear H0;obtain⟨q,hq,rfl,rfl,hT,hno⟩:=hrel;obtain⟨x0,x1,x2⟩:=hT.cells;have HT:=hide hT;have hwg:g<wr.heap.size:=Nat.lt_of_lt_of_le hg hT.b.size;have hww:w.heap.size<wr.heap.size:=zL hT.h;have hR:=Hr.out.below hT.b hg;by_cases hlt:q<i
  .have hlt':(q:Int)<i:=by omega
   have hql:(q:Int)<l.length:=by omega
   have hil:(i:Int)<l.length:=by omega
   obtain⟨k0,k1,k2,k3⟩:=hR q (by omega);obtain⟨i0,i1,i2,i3⟩:=hR i hi;have HR:=hide hR;clear k0 k3 i0 i3 hR;by_cases hsm:sameJ l i q
   .have h1:(((fsk l q).2.nm.toNat:Int)==(fsk l i).2.nm.toNat)=true:=by rw[hsm.1];simp
    have h2:(((fsk l q).2.job:Int)==(fsk l i).2.job)=true:=by rw[hsm.2];simp
    have hnum:Hid (zM l q=zM l i):=by unfold Hid zM;rw[spotI_same hsm]
    clear hsm hT;go_wp2_with fail
    go_quiet (fail)
    have HT2:=hide (HT.out.drewN nq);have HR2:=hide (HR.out.below (below_drewN (Below.refl wr.heap.size wr) nq) hwg);have hwg2:g<(wr.drewN nq).heap.size:=hwg;clear x0 x1 x2 k1 k2 i1 i2;generalize wr.drewN nq=W at *;obtain⟨x0,x1,x2⟩:=HT2.out.cells;go_wp2_with fail;refine(Hih.out q hlt _ (by omega) hwg2 HR2.out).mono ?_;rintro e w1 ⟨rfl,hb1⟩;have HT3:=hide (HT2.out.keep hb1);clear hb1 HT2 HR2 HR HT;rw[hnum.out];go_wp2;go_ret;exact⟨rfl,HT3.out.b⟩
   .have hcs:((((fsk l q).2.nm.toNat:Int)==(fsk l i).2.nm.toNat)=false)\/((((fsk l q).2.nm.toNat:Int)==(fsk l i).2.nm.toNat)=true/\(((fsk l q).2.job:Int)==(fsk l i).2.job)=false):=by
     by_cases h1:(fsk l q).2.nm=(fsk l i).2.nm
     .refine .inr ⟨by rw[h1];simp,?_⟩;have:(fsk l q).2.job≠(fsk l i).2.job:=fun h2=>hsm ⟨h1,h2⟩;simp;omega
     .refine .inl ?_;have:(fsk l q).2.nm.toNat≠(fsk l i).2.nm.toNat:=fun h=>h1 (UInt8.toNat_inj.1 h);simp;omega
    have hno2:Hid (∀k,k<q+1->¬sameJ l i k):=by
     intro k hk;rcases Nat.lt_or_ge k q with h5|h5
     .exact hno.out k h5
     .have:k=q:=by omega
      subst this;exact hsm
    clear hsm hT hno;have hcl:=cntTo_le l q;obtain⟨m,hm,hmq,_,_⟩:=spotI_fst (show q<l.length by omega);have hnext:Hid (cntTo l (q+1)=if (m:Int)=q then cntTo l q+1 else cntTo l q):=by unfold Hid;rw[cntTo,hm]
    have Hm:=hide hm;clear hm;generalize cntTo l q=N at *;rcases hcs with h1|⟨h1,h2⟩
    all_goals
     go_wp2_with fail
     go_quiet (fail)
     have HT2:=hide (HT.out.drewN nq);have HR2:=hide (HR.out.below (below_drewN (Below.refl wr.heap.size wr) nq) hwg);have hwg2:g<(wr.drewN nq).heap.size:=hwg;have hww2:w.heap.size<(wr.drewN nq).heap.size:=hww;clear x0 x1 x2 k1 k2 i1 i2 HT HR hwg hww;generalize wr.drewN nq=W at *;clear h1
     try clear h2
     obtain⟨x0,x1,x2⟩:=HT2.out.cells;obtain⟨k0,k1,k2,k3⟩:=HR2.out q (by omega);have HSp:=hide (fun W' hW'=>rspot_kept c f l g cap W hwg2 HR2.out hn Hs.out q (by omega) W' hW');rw[Hm.out]at HSp;have HK:Hid (∀W',Below W.heap.size W W'->W'.cell? ⟨w.heap.size,0,none⟩=some (.int .i64 c)/\W'.cell? ⟨w.heap.size,1,none⟩=some (.int .i64 f)/\W'.cell? ⟨w.heap.size,2,none⟩=some (.slice (some ⟨g,0,none⟩) l.length cap)/\W'.cell? ⟨g,q*4+1,none⟩=some (.int .u8 (fsk l q).2.nm.toNat)/\W'.cell? ⟨g,q*4+2,none⟩=some (.int .i64 (fsk l q).2.job)):=fun W' hW=>⟨(hW.cell (p:=⟨w.heap.size,0,none⟩) hww2).trans x0,(hW.cell (p:=⟨w.heap.size,1,none⟩) hww2).trans x1,(hW.cell (p:=⟨w.heap.size,2,none⟩) hww2).trans x2,(hW.cell (p:=⟨g,q*4+1,none⟩) hwg2).trans k1,(hW.cell (p:=⟨g,q*4+2,none⟩) hwg2).trans k2⟩;clear k0 k3;have bA:=hide ((Below.refl W.heap.size W).drew);have bB:=hide ((zN W (.cells #[.int .i64 0,.int .i64 0,.int .i64 0] 78)).drew);have nB:Hid ((W.alloc (.cells #[.int .i64 0,.int .i64 0,.int .i64 0] 78)).drew.heap[W.heap.size]? =some (.cells #[.int .i64 0,.int .i64 0,.int .i64 0] 78 (0,0))):=zW W _ _;go_wp2_with fail
     go_region_held_law (fun w'=>w'.cell? ⟨w.heap.size,0,none⟩=some (.int .i64 c)/\w'.cell? ⟨w.heap.size,1,none⟩=some (.int .i64 f)/\w'.cell? ⟨w.heap.size,2,none⟩=some (.slice (some ⟨g,0,none⟩) l.length cap)/\w'.cell? ⟨g,q*4+1,none⟩=some (.int .u8 (fsk l q).2.nm.toNat)/\w'.cell? ⟨g,q*4+2,none⟩=some (.int .i64 (fsk l q).2.job)) (first|exact HK.out _ bA.out|exact HK.out _ bB.out|exact HK.out _ hb8|exact HK.out _ (hb8.alloc hb8.size _)|exact HK.out _ (below_set3 hb8 (Nat.le_refl _) _ _ _))
      (first|(go_at_call 47;refine(HSp.out _ ?hw).mono ?_;(case hw=>(first|exact bA.out|exact bB.out));rintro e w8 ⟨rfl,hb8,hc8⟩;try (have h8:=hc8 W.heap.size _ nB.out;have c80:=zC h8 0;have c81:=zC h8 1;have c82:=zC h8 2;have z8:=zF h8)))
     all_goals
      have Hfin:Hid (∀W':World,Below W.heap.size W W'->TBx w W' c f (.slice (some ⟨g,0,none⟩) l.length cap)):=fun W' hW=>HT2.out.keep hW;clear HK HSp hc8 HT2 HR2 x0 x1 x2 k1 k2;by_cases he:m=q
      .have he':((m:Int)==q)=true:=by simp[he]
       have hn2:Hid (cntTo l (q+1)=N+1):=by unfold Hid;rw[hnext.out,if_pos (by omega)]
       clear he hnext;go_wp2;go_roundw
       case rel=>exact⟨q+1,by omega,by go_num,by rw[hn2.out];go_num,(by first|exact Hfin.out _ (hb8.alloc hb8.size _)|exact Hfin.out _ (below_set3 hb8 (Nat.le_refl _) _ _ _)),hno2⟩
       case measure=>simp[intOf];omega
      .have he':((m:Int)==q)=false:=by simp;omega
       have hn2:Hid (cntTo l (q+1)=N):=by unfold Hid;rw[hnext.out,if_neg (by omega)]
       clear he hnext;go_wp2;go_roundw
       case rel=>exact⟨q+1,by omega,by go_num,by rw[hn2.out],(by first|exact Hfin.out _ (hb8.alloc hb8.size _)|exact Hfin.out _ (below_set3 hb8 (Nat.le_refl _) _ _ _)),hno2⟩
       case measure=>simp[intOf];omega
  .have hlt':¬(q:Int)<i:=by omega
   have hqe:q=i:=by omega
   subst hqe;have hend:Hid (zM l q=cntTo l q):=numI_here hi hno.out;clear hT hlt hR;go_wp2;go_ret;exact⟨by rw[hend.out];rfl,HT.out.b⟩
def endI (l:List FSl) (fr j i:Nat):Nat:=j*fr+usedJ (l.take i) j+(fsk l i).2.bud
def hitI (l:List FSl) (fr u i:Nat):Prop:=(fsk l i).1=u/fr/\u<endI l fr (u/fr) i
instance (l:List FSl) (fr u i:Nat):Decidable (hitI l fr u i):=by unfold hitI;infer_instance
def atTo (l:List FSl) (fr u:Nat):Nat->Option Nat
 | 0=>none
 | q+1=>match atTo l fr u q with
  | some i=>some i
  | none=>if hitI l fr u q then some q else none
def atL (l:List FSl) (fr u:Nat):Option Nat:=atTo l fr u l.length
def atV (l:List FSl) (fr u:Nat):Value:=match atL l fr u with
 | some i=>.tuple #[.int .i64 i,.bool (decide (u+1=endI l fr (u/fr) i))]
 | none=>.tuple #[.int .i64 (-1),.bool false]
theorem atTo_spec (l:List FSl)(fr u:Nat):∀q,(atTo l fr u q=none/\∀k,k<q->¬hitI l fr u k)\/∃i,atTo l fr u q=some i/\i<q/\hitI l fr u i/\∀k,k<i->¬hitI l fr u k
 | 0=>.inl ⟨rfl,fun k h=>by omega⟩
 | q+1=>by
  rcases atTo_spec l fr u q with⟨h1,h2⟩|⟨i,h1,h2,h3,h4⟩
  .by_cases h:hitI l fr u q
   .exact .inr ⟨q,by rw[atTo,h1];simp[h],by omega,h,h2⟩
   .refine .inl ⟨by rw[atTo,h1];simp[h],fun k hk=>?_⟩;rcases Nat.lt_or_ge k q with h5|h5
    .exact h2 k h5
    .have:k=q:=by omega
     subst this;exact h
  .exact .inr ⟨i,by rw[atTo,h1],by omega,h3,h4⟩
theorem atTo_stay {l:List FSl}{fr u i:Nat}{q:Nat}(h:atTo l fr u q=some i):∀d,atTo l fr u (q+d)=some i
 | 0=>h
 | d+1=>by rw[←Nat.add_assoc,atTo,atTo_stay h d]
def startI (l:List FSl) (fr i:Nat):Nat:=(fsk l i).1*fr+usedJ (l.take i) (fsk l i).1
theorem usedJ_next {l:List FSl}{q j:Nat}(hq:q<l.length):usedJ (l.take (q+1)) j=usedJ (l.take q) j+if (fsk l q).1=j then (fsk l q).2.bud else 0:=by
 rw[take_next hq,usedJ_app];simp[usedJ]
theorem frame_base (u f:Nat):u/f*f<=u:=Nat.div_mul_le_self u f
theorem quo_wraps (u f:Nat)(hu:u<=100000):wrap64 ((u:Int)/f)=((u/f:Nat):Int)/\wrap64 (((u/f:Nat):Int)*f)=((u/f*f:Nat):Int):=by
 have h1:=frame_base u f;have h2:u/f<=u:=Nat.div_le_self u f;refine⟨?_,?_⟩
 .rw[←Int.natCast_ediv];generalize u/f=q at *;exact w64 _ (by omega)
 .rw[←Int.natCast_mul];exact w64 _ (by omega)
theorem rat_any (c f:Nat)(l:List FSl)(g cap u:Nat)(w:World)(hg:g<w.heap.size)(hr:RowF w g l)(hn:l.length<=300)(hs:∀k,k<l.length->(fsk l k).small)(hf1:1<=f)(hf2:f<=60)(hu:u<=60):
  Calls Tryz.prog 137 #[.agg #[.int .i64 c,.int .i64 f,.slice (some ⟨g,0,none⟩) l.length cap],.int .i64 u] w fun e w'=>e=.returned (atV l f u)/\Below w.heap.size w w':=by
 have Hr:=hide hr;have Hs:=hide hs;have H0:=hide (TBx.start w c f (.slice (some ⟨g,0,none⟩) l.length cap));obtain⟨e1,e2⟩:=quo_wraps u f (by omega);have hb:=frame_base u f;have hJ:Hid (∀q i,q<=l.length->i<q->atTo l f u q=some i->atV l f u=.tuple #[.int .i64 i,.bool (decide (u+1=endI l f (u/f) i))]):=by
  intro q i hq hi h;have:=atTo_stay h (l.length-q);unfold atV atL;rw[show l.length=q+(l.length-q) by omega,this]
 have hJn:Hid (atTo l f u l.length=none->atV l f u=.tuple #[.int .i64 (-1),.bool false]):=by
  intro h;unfold atV atL;rw[h]
 have hhit:Hid (∀q,hitI l f u q↔(fsk l q).1=u/f/\u<u/f*f+usedJ (l.take q) (u/f)+(fsk l q).2.bud):=fun q=>Iff.rfl;have hend:Hid (∀q,endI l f (u/f) q=u/f*f+usedJ (l.take q) (u/f)+(fsk l q).2.bud):=fun q=>rfl;clear hr hs;generalize u/f=J at *;generalize hM:J*f=M at *;have HM:=hide hM;clear hM;go_enter Tryz.func137,Tryz.ntmps137;go_wp2_with fail;rw[e1,e2];clear e1 e2
 go_loopw [7,8] (fun fv i wr=>∃q:Nat,q<=l.length/\i=.int .i64 q/\fv=.int .i64 (M+usedJ (l.take q) J:Nat)/\M+usedJ (l.take q) J<=u/\TBx w wr c f (.slice (some ⟨g,0,none⟩) l.length cap)/\Hid (atTo l f u q=none)) (fun _ i _=>l.length-(intOf i).toNat)
 case atStart=>exact⟨0,by omega,rfl,by simp[usedJ],by simpa [usedJ] using hb,H0.out,rfl⟩
 case round=>
  clear H0;obtain⟨q,hq,rfl,rfl,hle,hT,hno⟩:=hrel;obtain⟨x0,x1,x2⟩:=hT.cells;have HT:=hide hT;by_cases hlt:q<l.length
  .have hlt':(q:Int)<l.length:=by omega
   obtain⟨k0,k1,k2,k3⟩:=Hr.out.below hT.b hg q hlt;obtain⟨hk1,hk2,hk3⟩:=Hs.out q hlt;have hun:=hide (usedJ_next (j:=J) hlt);have hat:Hid (atTo l f u (q+1)=if hitI l f u q then some q else none):=by unfold Hid;rw[atTo,hno.out]
   have hhq:=hide (hhit.out q);have heq:=hide (hend.out q);clear hT k1 k2 hhit hend;generalize usedJ (l.take q) J=U at *;by_cases hfr:(fsk l q).1=J
   .have hfr':(((fsk l q).1:Int)==J)=true:=by simp[hfr]
    have hge:((M+U:Nat):Int)<=u:=by omega
    by_cases hend2:u<M+U+(fsk l q).2.bud
    .have hend2':(u:Int)<((M+U:Nat):Int)+(fsk l q).2.bud:=by omega
     have hfin:=hide (hJ.out (q+1) q (by omega) (by omega) (by rw[hat.out,if_pos (hhq.out.2 ⟨hfr,hend2⟩)]));have hdec:Hid (decide (u+1=endI l f J q)=((u:Int)==((M+U:Nat):Int)+(fsk l q).2.bud-1)):=by
      unfold Hid;rw[heq.out,Bool.eq_iff_iff];simp;omega
     clear hfr hend2 hat hhq heq hun;go_wp2;exact bodyPost_ret (v:=atV l f u) (by rw[hfin.out,hdec.out];simp[results,Tryz.results137,go_sem]) rfl ⟨rfl,HT.out.b⟩
    .have hend2':¬(u:Int)<((M+U:Nat):Int)+(fsk l q).2.bud:=by omega
     have hat2:Hid (atTo l f u (q+1)=none):=by unfold Hid;rw[hat.out,if_neg (fun h=>hend2 (hhq.out.1 h).2)]
     have hun2:Hid (M+usedJ (l.take (q+1)) J=M+U+(fsk l q).2.bud):=by unfold Hid;rw[hun.out,if_pos hfr];omega
     clear hfr hat hhq heq hun;go_wp2;go_roundw
     case rel=>exact⟨q+1,by omega,by go_num,by rw[hun2.out];go_num,by rw[hun2.out];omega,HT.out,hat2⟩
     case measure=>simp[intOf];omega
   .have hfr':(((fsk l q).1:Int)==J)=false:=by simp;omega
    have hat2:Hid (atTo l f u (q+1)=none):=by unfold Hid;rw[hat.out,if_neg (fun h=>hfr (hhq.out.1 h).1)]
    have hun2:Hid (M+usedJ (l.take (q+1)) J=M+U):=by unfold Hid;rw[hun.out,if_neg hfr];rfl
    clear hfr hat hhq heq hun;go_wp2;go_roundw
    case rel=>exact⟨q+1,by omega,by go_num,by rw[hun2.out],by rw[hun2.out];omega,HT.out,hat2⟩
    case measure=>simp[intOf];omega
  .have hlt':¬(q:Int)<l.length:=by omega
   have hqe:q=l.length:=by omega
   have hfin:Hid (atV l f u=.tuple #[.int .i64 (-1),.bool false]):=hJn.out (by rw[←hqe];exact hno.out);clear hT hlt;go_wp2;exact bodyPost_ret (v:=atV l f u) (by rw[hfin.out];simp[results,Tryz.results137,go_sem]) rfl ⟨rfl,HT.out.b⟩
theorem rstart_any (c f:Nat)(l:List FSl)(g cap i:Nat)(w:World)(hi:i<l.length)(hg:g<w.heap.size)(hr:RowF w g l)(hn:l.length<=300)(hs:∀k,k<l.length->(fsk l k).small)(hf2:f<=60):
  Calls Tryz.prog 138 #[.agg #[.int .i64 c,.int .i64 f,.slice (some ⟨g,0,none⟩) l.length cap],.int .i64 i] w fun e w'=>e=.returned (.int .i64 (startI l f i))/\Below w.heap.size w w':=by
 have Hr:=hide hr;have Hs:=hide hs;have H0:=hide (TBx.start w c f (.slice (some ⟨g,0,none⟩) l.length cap));have hil:(i:Int)<l.length:=by omega
 have hM:(fsk l i).1*f<=3600:=Nat.mul_le_mul (hs i hi).1 hf2;have e1:wrap64 (((fsk l i).1:Int)*f)=(((fsk l i).1*f:Nat):Int):=by rw[←Int.natCast_mul];exact w64 _ (by omega)
 have hst:Hid (startI l f i=(fsk l i).1*f+usedJ (l.take i) (fsk l i).1):=rfl;obtain⟨i0,i1,i2,i3⟩:=(hr.below (zN w (.cells #[.int .i64 c,.int .i64 f,.slice (some ⟨g,0,none⟩) l.length cap] 39)) hg) i hi;obtain⟨x0,x1,x2⟩:=H0.out.cells;clear hr hs i1 i2 i3;generalize (fsk l i).1*f=M at *;go_enter Tryz.func138,Tryz.ntmps138;go_wp2_with fail;generalize w.alloc (.cells #[.int .i64 c,.int .i64 f,.slice (some ⟨g,0,none⟩) l.length cap] 39)=W0 at *
 go_quiet (fail)
 have H1:=hide (H0.out.drewN nq);clear x0 x1 x2 i0 H0;generalize W0.drewN nq=W1 at *;go_wp2_with fail;rw[e1];clear e1
 go_loopw [5,6] (fun fv k wr=>∃q:Nat,q<=i/\k=.int .i64 q/\fv=.int .i64 (M+usedJ (l.take q) (fsk l i).1:Nat)/\TBx w wr c f (.slice (some ⟨g,0,none⟩) l.length cap)) (fun _ k _=>i-(intOf k).toNat)
 case atStart=>exact⟨0,by omega,rfl,by simp[usedJ],H1.out⟩
 case round=>
  clear H1;obtain⟨q,hq,rfl,rfl,hT⟩:=hrel;obtain⟨x0,x1,x2⟩:=hT.cells;have HT:=hide hT;have hul:=usedJ_le Hs.out (fsk l i).1 q (by omega);by_cases hlt:q<i
  .have hlt':(q:Int)<i:=by omega
   have hql:(q:Int)<l.length:=by omega
   have hR:=Hr.out.below hT.b hg;obtain⟨k0,k1,k2,k3⟩:=hR q (by omega);obtain⟨i0,i1,i2,i3⟩:=hR i hi;obtain⟨hk1,hk2,hk3⟩:=Hs.out q (by omega);have hun:=hide (usedJ_next (j:=(fsk l i).1) (show q<l.length by omega));clear hT k1 k2 i1 i2 i3 hR;generalize usedJ (l.take q) (fsk l i).1=U at *;by_cases hfr:(fsk l q).1=(fsk l i).1
   .have hfr':(((fsk l q).1:Int)==(fsk l i).1)=true:=by simp[hfr]
    have hun2:Hid (M+usedJ (l.take (q+1)) (fsk l i).1=M+U+(fsk l q).2.bud):=by unfold Hid;rw[hun.out,if_pos hfr];omega
    clear hfr hun;go_wp2_with fail
    go_quiet (fail)
    go_wp2;go_roundw
    case rel=>exact⟨q+1,by omega,by go_num,by rw[hun2.out];go_num,HT.out.drewN _⟩
    case measure=>simp[intOf];omega
   .have hfr':(((fsk l q).1:Int)==(fsk l i).1)=false:=by simp;omega
    have hun2:Hid (M+usedJ (l.take (q+1)) (fsk l i).1=M+U):=by unfold Hid;rw[hun.out,if_neg hfr];rfl
    clear hfr hun;go_wp2_with fail
    go_quiet (fail)
    go_wp2;go_roundw
    case rel=>exact⟨q+1,by omega,by go_num,by rw[hun2.out],HT.out.drewN _⟩
    case measure=>simp[intOf];omega
  .have hlt':¬(q:Int)<i:=by omega
   have hqe:q=i:=by omega
   subst hqe;clear hT hlt;go_wp2;go_ret;exact⟨by rw[hst.out];rfl,HT.out.b⟩
def wantsL (cs:List Int) (m:Nat) (b:Nat):Int:=if cs.length=0 then b else cs.getD (m%cs.length) 0
def CostsAt (w:World) (a:Option Addr) (cs:List Int):Prop:=cs=[]\/∃b off,a=some ⟨b,off,none⟩/\b<w.heap.size/\∀k,k<cs.length->w.cell? ⟨b,off+k,none⟩=some (.int .i64 (cs.getD k 0))
theorem rWants_any (cs:List Int)(a:Option Addr)(cap m b:Nat)(w:World)(hc:CostsAt w a cs)(hn:cs.length<=1000000)(hm:m<=1000000000):
  Calls Tryz.prog 139 #[.slice a cs.length cap,.int .i64 m,.int .i64 b] w fun e w'=>e=.returned (.int .i64 (wantsL cs m b))/\w'=w:=by
 rcases hc with rfl|⟨x,off,rfl,hx,hr⟩
 .have hz:Hid (wantsL [] m b=b):=rfl;go_enter Tryz.func139,Tryz.ntmps139;go_wp2;go_ret;exact⟨by rw[hz.out];rfl,rfl⟩
 .by_cases h0:cs.length=0
  .have hz:Hid (wantsL cs m b=b):=by unfold Hid wantsL;rw[if_pos h0]
   have h0':((cs.length:Int)==0)=true:=by simp[h0]
   clear h0 hr;go_enter Tryz.func139,Tryz.ntmps139;go_wp2;go_ret;exact⟨by rw[hz.out];rfl,rfl⟩
  .have hz:Hid (wantsL cs m b=cs.getD (m%cs.length) 0):=by unfold Hid wantsL;rw[if_neg h0]
   have h0':((cs.length:Int)==0)=false:=by simpa using h0
   have hlt:=Nat.mod_lt m (show 0<cs.length by omega);have hc:=hr _ hlt;have hi1:0<=(m:Int)%cs.length:=by rw[←Int.natCast_emod];exact Int.natCast_nonneg _
   have hi2:(m:Int)%cs.length<cs.length:=by rw[←Int.natCast_emod];exact Int.ofNat_lt.2 hlt
   clear hr;generalize cs.getD (m%cs.length) 0=V at *;go_enter Tryz.func139,Tryz.ntmps139;go_wp2;go_ret;exact⟨by rw[hz.out];rfl,rfl⟩
def ticksOk (t:Int) (cs:List Int):Prop:=0<=t/\t<=400/\cs.length<=40/\∀k,k<cs.length->0<=cs.getD k 0/\cs.getD k 0<=400
theorem rTicks_any (t:Int)(cs:List Int)(a:Option Addr)(cap:Nat)(w:World)(hc:CostsAt w a cs)(hn:cs.length<=9223372036854775807):
  Calls Tryz.prog 20 #[.int .i64 t,.slice a cs.length cap] w (BoolPost (ticksOk t cs) w):=by
 have HC:=hide hc;have HX:Hid (¬cs.length=0->∃b off,a=some ⟨b,off,none⟩/\b<w.heap.size/\∀k,k<cs.length->w.cell? ⟨b,off+k,none⟩=some (.int .i64 (cs.getD k 0))):=by
  intro h0;rcases hc with rfl|h
  .exact absurd rfl h0
  .exact h
 clear hc HC;go_enter Tryz.func20,Tryz.ntmps20;have hcs:t<0\/(¬t<0/\400<t)\/(¬t<0/\¬400<t/\(40:Int)<cs.length)\/(¬t<0/\¬400<t/\¬(40:Int)<cs.length):=by omega
 rcases hcs with h1|⟨h1,h2⟩|⟨h1,h2,h3⟩|⟨h1,h2,h3⟩
 .have hno:Hid (¬ticksOk t cs):=fun h=>by have:=h.1;omega
  go_wp2;go_ret;exact boolPost_no rfl hno.out (Below.refl _ _)
 .have hno:Hid (¬ticksOk t cs):=fun h=>by have:=h.2.1;omega
  go_wp2;go_ret;exact boolPost_no rfl hno.out (Below.refl _ _)
 .have hno:Hid (¬ticksOk t cs):=fun h=>by have:=h.2.2.1;omega
  go_wp2;go_ret;exact boolPost_no rfl hno.out (Below.refl _ _)
 .have hyes:Hid ((∀k,k<cs.length->0<=cs.getD k 0/\cs.getD k 0<=400)->ticksOk t cs):=fun h=>⟨by omega,by omega,by omega,h⟩;go_wp2_with fail
  go_loopw [5] (fun i wr=>∃q:Nat,q<=cs.length/\i=.int .i64 q/\wr=w/\Hid (∀k,k<q->0<=cs.getD k 0/\cs.getD k 0<=400)) (fun i _=>cs.length-(intOf i).toNat)
  case atStart=>exact⟨0,by omega,rfl,rfl,fun k h=>by omega⟩
  case round=>
   obtain⟨q,hq,rfl,rfl,hto⟩:=hrel;by_cases hlt:q<cs.length
   .have hlt':(q:Int)<cs.length:=by omega
    obtain⟨b,off,rfl,hb,hr⟩:=HX.out (by omega);have hk:=hr q hlt;have hcs:cs.getD q 0<0\/(¬cs.getD q 0<0/\400<cs.getD q 0)\/(¬cs.getD q 0<0/\¬400<cs.getD q 0):=by omega
    have hno:Hid (¬(0<=cs.getD q 0/\cs.getD q 0<=400)->¬ticksOk t cs):=fun h h2=>h (h2.2.2.2 q hlt);have hnx:Hid (0<=cs.getD q 0/\cs.getD q 0<=400->∀k,k<q+1->0<=cs.getD k 0/\cs.getD k 0<=400):=by
     intro h k hk;rcases Nat.lt_or_ge k q with h5|h5
     .exact hto.out k h5
     .have:k=q:=by omega
      subst this;exact h
    clear hr HX hto;generalize cs.getD q 0=V at *;rcases hcs with h4|⟨h4,h5⟩|⟨h4,h5⟩
    .go_wp2;go_ret;exact boolPost_no rfl (hno.out (by omega)) (Below.refl _ _)
    .go_wp2;go_ret;exact boolPost_no rfl (hno.out (by omega)) (Below.refl _ _)
    .go_wp2;go_roundw
     case rel=>exact⟨q+1,by omega,by go_num,trivial,hnx.out (by omega)⟩
     case measure=>simp[intOf];omega
   .have hlt':¬(q:Int)<cs.length:=by omega
    have hall:=hide (hyes.out (by have:q=cs.length:=(by omega);rw[←this];exact hto.out));clear hto hyes;go_wp2;go_ret;exact boolPost_yes rfl hall.out (Below.refl _ _)
def setL (L:Nat->Int) (k:Nat) (v:Int):Nat->Int:=fun j=>if j=k then v else L j
def begunL (l:List FSl) (cyc fr:Nat) (cs:List Int) (u i:Nat) (L:Nat->Int):Nat->Int:=
 if (u%cyc:Nat)=(startI l fr (spotI l i).fst.toNat:Int) then setL L (zM l i) (wantsL cs (u/cyc*cntTo l l.length+zM l i) (spotI l i).cost) else L
def lessL (k:Nat) (L:Nat->Int):Nat->Int:=if 0<L k then setL L k (L k-1) else L
def ranL (nm:UInt8) (k:Nat) (L:Nat->Int):List UInt8:=if 0<L k then [nm] else [46]
def markL (l:List FSl) (cyc fr:Nat) (u i:Nat) (L:Nat->Int):List UInt8:=
 if u%cyc+1=endI l fr (u%cyc/fr) i/\(i:Int)=(spotI l i).lst/\0<L (zM l i) then [33,(fsk l i).2.nm] else []
def tickL (l:List FSl) (cyc fr:Nat) (cs:List Int) (u:Nat) (x:(Nat->Int)×List UInt8):(Nat->Int)×List UInt8:=
 match atL l fr (u%cyc) with
 | none=>(x.1,x.2++[46])
 | some i=>
  (lessL (zM l i) (begunL l cyc fr cs u i x.1),
   x.2++ranL (fsk l i).2.nm (zM l i) (begunL l cyc fr cs u i x.1)++markL l cyc fr u i (lessL (zM l i) (begunL l cyc fr cs u i x.1)))
def trcL (l:List FSl) (cyc fr:Nat) (cs:List Int):Nat->(Nat->Int)×List UInt8
 | 0=>(fun _=>0,[])
 | u+1=>tickL l cyc fr cs u (trcL l cyc fr cs u)
theorem trc_len (l:List FSl)(cyc fr:Nat)(cs:List Int):∀u,(trcL l cyc fr cs u).2.length<=3*u
 | 0=>Nat.le_refl _
 | u+1=>by
  have ih:=trc_len l cyc fr cs u;rw[trcL,tickL];split
  .simp;omega
  .rename_i i hi;have h1:∀L,(ranL (fsk l i).2.nm (zM l i) L).length=1:=fun L=>by unfold ranL;split<;>rfl
   have h2:∀L,(markL l cyc fr u i L).length<=2:=fun L=>by unfold markL;split<;>simp
   simp only[List.length_append];have:=h1 (begunL l cyc fr cs u i (trcL l cyc fr cs u).1);have:=h2 (lessL (zM l i) (begunL l cyc fr cs u i (trcL l cyc fr cs u).1));omega
def FineL (L:Nat->Int):Prop:=∀k,0<=L k/\L k<=3000000
theorem fine_set {L:Nat->Int}(h:FineL L){k:Nat}{v:Int}(hv:0<=v/\v<=3000000):FineL (setL L k v):=by
 intro j;unfold setL;split
 .exact hv
 .exact h j
theorem wants_fine {cs:List Int}(hc:∀k,k<cs.length->0<=cs.getD k 0/\cs.getD k 0<=400)(m b:Nat)(hb:b<=3000000):0<=wantsL cs m b/\wantsL cs m b<=3000000:=by
 unfold wantsL;split
 .omega
 .have:=hc (m%cs.length) (Nat.mod_lt _ (by omega));omega
theorem spotI_cost {l:List FSl}(hn:l.length<=300)(hs:∀i,i<l.length->(fsk l i).small)(i:Nat):(spotI l i).cost<=2999700:=by
 have:=spotTo_cost hs (fsk l i).2.nm (fsk l i).2.job l.length (Nat.le_refl _);unfold spotI spotL;generalize (spotTo l (fsk l i).2.nm (fsk l i).2.job l.length).cost=z at *;omega
theorem fine_begun {l:List FSl}(hn:l.length<=300)(hs:∀i,i<l.length->(fsk l i).small){cs:List Int}(hc:∀k,k<cs.length->0<=cs.getD k 0/\cs.getD k 0<=400)(cyc fr u i:Nat){L:Nat->Int}(h:FineL L):FineL (begunL l cyc fr cs u i L):=by
 unfold begunL;split
 .exact fine_set h (wants_fine hc _ _ (by have:=spotI_cost hn hs i;omega))
 .exact h
theorem fine_less {k:Nat}{L:Nat->Int}(h:FineL L):FineL (lessL k L):=by
 unfold lessL;split
 .exact fine_set h (by have:=h k;omega)
 .exact h
theorem trc_fine {l:List FSl}(hn:l.length<=300)(hs:∀i,i<l.length->(fsk l i).small){cs:List Int}(hc:∀k,k<cs.length->0<=cs.getD k 0/\cs.getD k 0<=400)(cyc fr:Nat):∀u,FineL (trcL l cyc fr cs u).1
 | 0=>fun k=>by simp[trcL]
 | u+1=>by
  have ih:=trc_fine hn hs hc cyc fr u;rw[trcL,tickL];split
  .exact ih
  .exact fine_less (fine_begun hn hs hc _ _ _ _ ih)
structure TrX (w wr:World) (c f:Nat) (sv:Value) (X n:Nat) (L:Nat->Int):Prop where
 t:TBx w wr c f sv
 l:∀k,k<n->wr.cell? ⟨X,k,none⟩=some (.int .i64 (L k))
 fz:∀k,wr.frozen? ⟨X,k,none⟩=false
 gt:w.heap.size<X
 lt:X<wr.heap.size
section
variable {w wr:World} {c f:Nat} {sv:Value} {X n:Nat} {L:Nat->Int}
theorem frozen_below {w w':World}{B:Nat}(hb:Below B w w'){x o:Nat}(hx:x<B):w'.frozen? ⟨x,o,none⟩=w.frozen? ⟨x,o,none⟩:=by
 unfold World.frozen?
 simp only;rw[hb.block x hx]
theorem TrX.keep (h:TrX w wr c f sv X n L){w':World}(hb:Below wr.heap.size wr w'):TrX w w' c f sv X n L:=
 ⟨h.t.keep hb,fun k hk=>(hb.cell (p:=⟨X,k,none⟩) h.lt).trans (h.l k hk),fun k=>(frozen_below hb h.lt).trans (h.fz k),h.gt,Nat.lt_of_lt_of_le h.lt hb.size⟩
theorem TrX.set (h:TrX w wr c f sv X n L)(k:Nat)(v:Int):TrX w (wr.setCell ⟨X,k,none⟩ (.int .i64 v)) c f sv X n (setL L k v):=by
 refine⟨⟨?_,h.t.b.setCell (by show w.heap.size<=X;have:=h.gt;omega) _⟩,?_,?_,h.gt,by rw[zH];exact h.lt⟩
 .rw[Below.heap_setCell _ _ _ _ (by show w.heap.size≠X;have:=h.gt;omega)];exact h.t.h
 .intro j hj;unfold setL;by_cases hjk:j=k
  .subst hjk;rw[if_pos rfl,set_same (h.l _ hj)]
  .rw[if_neg hjk,set_other (by intro e;injection e with _ e2;exact hjk e2.symm),h.l j hj]
 .intro j;simpa using h.fz j
theorem TrX.ext (h:TrX w wr c f sv X n L){L':Nat->Int}(he:L=L'):TrX w wr c f sv X n L':=he▸h
end
end
structure Goes (l:List FSl) (cyc fr:Nat):Prop where
 ris:∀i,i+1<l.length->(fsk l i).1<=(fsk l (i+1)).1
 bud:∀i,i<l.length->1<=(fsk l i).2.bud
 fit:∀i,i<l.length->usedJ (l.take i) (fsk l i).1+(fsk l i).2.bud<=fr
 ends:∀i,i<l.length->((fsk l i).1+1)*fr<=cyc
 fr1:1<=fr
 c1:1<=cyc
def stopI (l:List FSl) (fr i:Nat):Nat:=startI l fr i+(fsk l i).2.bud
theorem mul_next (a f:Nat):(a+1)*f=a*f+f:=Nat.succ_mul a f
theorem Goes.fin_frame {l:List FSl}{cyc fr:Nat}(G:Goes l cyc fr){i:Nat}(h:i<l.length):stopI l fr i<=((fsk l i).1+1)*fr:=by
 have:=G.fit i h;unfold stopI startI;rw[mul_next];omega
theorem Goes.fin_cyc {l:List FSl}{cyc fr:Nat}(G:Goes l cyc fr){i:Nat}(h:i<l.length):stopI l fr i<=cyc:=Nat.le_trans (G.fin_frame h) (G.ends i h)
theorem Goes.start_fin {l:List FSl}{cyc fr:Nat}(G:Goes l cyc fr){i:Nat}(h:i<l.length):startI l fr i<stopI l fr i:=by
 have:=G.bud i h;unfold stopI;omega
theorem Goes.next {l:List FSl}{cyc fr:Nat}(G:Goes l cyc fr){i:Nat}(h:i+1<l.length):stopI l fr i<=startI l fr (i+1):=by
 by_cases e:(fsk l i).1=(fsk l (i+1)).1
 .have h1:=usedJ_next (l:=l) (q:=i) (j:=(fsk l (i+1)).1) (by omega);rw[if_pos e]at h1;unfold stopI startI;rw[h1,e];omega
 .have h1:=G.ris i h;have h2:(fsk l i).1+1<=(fsk l (i+1)).1:=by omega
  have h3:=Nat.mul_le_mul_right fr h2;have h4:=G.fin_frame (i:=i) (by omega);show stopI l fr i<=(fsk l (i+1)).1*fr+_;omega
theorem Goes.apart {l:List FSl}{cyc fr:Nat}(G:Goes l cyc fr){i:Nat}:∀d,i+1+d<l.length->stopI l fr i<=startI l fr (i+1+d)
 | 0,h=>Goes.next G h
 | d+1,h=>by
  have ih:=Goes.apart G (i:=i) d (by omega);have h1:=G.next (i:=i+1+d) (by omega);have h2:=G.start_fin (i:=i+1+d) (by omega);have e:i+1+(d+1)=i+1+d+1:=by omega
  rw[e];omega
theorem Goes.lt {l:List FSl}{cyc fr:Nat}(G:Goes l cyc fr){i k:Nat}(h:i<k)(hk:k<l.length):stopI l fr i<=startI l fr k:=by
 have:=G.apart (i:=i) (k-(i+1)) (by omega)
 rwa [show i+1+(k-(i+1))=k by omega]at this
theorem Goes.frame {l:List FSl}{cyc fr:Nat}(G:Goes l cyc fr){i u:Nat}(h:i<l.length)(h1:startI l fr i<=u)(h2:u<stopI l fr i):u/fr=(fsk l i).1:=by
 have h3:=G.fin_frame h;have h4:(fsk l i).1*fr<=startI l fr i:=by unfold startI;omega
 have f0:0<fr:=G.fr1;apply Nat.le_antisymm
 .exact Nat.le_of_lt_succ ((Nat.div_lt_iff_lt_mul f0).2 (by show u<((fsk l i).1+1)*fr;omega))
 .exact(Nat.le_div_iff_mul_le f0).2 (by omega)
theorem Goes.hit {l:List FSl}{cyc fr:Nat}(G:Goes l cyc fr){i u:Nat}(h:i<l.length)(h1:startI l fr i<=u)(h2:u<stopI l fr i):hitI l fr u i:=by
 have e:=G.frame h h1 h2;refine⟨e.symm,?_⟩;rw[e];exact h2
theorem Goes.atu {l:List FSl}{cyc fr:Nat}(G:Goes l cyc fr){i u:Nat}(h:i<l.length)(h1:startI l fr i<=u)(h2:u<stopI l fr i):atL l fr u=some i:=by
 have hh:=G.hit h h1 h2;have e:=G.frame h h1 h2;rcases atTo_spec l fr u l.length with⟨_,hn⟩|⟨k,hk,hkl,hkh,hkn⟩
 .exact absurd hh (hn i h)
 .have:k=i:=by
   rcases Nat.lt_trichotomy k i with h5|h5|h5
   .exfalso;obtain⟨a,b⟩:=hkh;have:endI l fr (u/fr) k=stopI l fr k:=by rw[←a];rfl
    have:=G.lt h5 h;omega
   .exact h5
   .exact absurd hh (hkn i h5)
  rw[←this];exact hk
theorem used_low {l:List FSl}{fr:Nat}{u:Nat}:∀q,q<=l.length->(∀k,k<q->¬hitI l fr u k)->u/fr*fr+usedJ (l.take q) (u/fr)<=u
 | 0,_,_=>by simp[usedJ];exact Nat.div_mul_le_self u fr
 | q+1,h,hn=>by
  have ih:=used_low q (by omega) (fun k hk=>hn k (by omega));rw[usedJ_next (by omega)];split
  .rename_i e;have:¬u<endI l fr (u/fr) q:=fun h'=>hn q (by omega) ⟨e,h'⟩;unfold endI at this;omega
  .omega
theorem at_some {l:List FSl}{fr:Nat}{i u:Nat}(h:atL l fr u=some i):i<l.length/\startI l fr i<=u/\u<stopI l fr i/\endI l fr (u/fr) i=stopI l fr i:=by
 rcases atTo_spec l fr u l.length with⟨h1,_⟩|⟨k,hk,hkl,hkh,hkn⟩
 .have e:atL l fr u=none:=h1;rw[e]at h
  cases h
 .have e:atL l fr u=some k:=hk;rw[e]at h;obtain rfl:k=i:=by injection h
  obtain⟨a,b⟩:=hkh;have e2:endI l fr (u/fr) k=stopI l fr k:=by rw[←a];rfl
  refine⟨hkl,?_,by omega,e2⟩;have:=used_low (l:=l) (fr:=fr) (u:=u) k (by omega) hkn;unfold startI;rw[a];exact this
theorem at_none {l:List FSl}{fr:Nat}{u:Nat}(h:∀i,i<l.length->startI l fr i<=u->¬u<stopI l fr i):atL l fr u=none:=by
 cases e:atL l fr u with
 | none=>rfl
 | some i=>
  obtain⟨a,b,c,_⟩:=at_some e;exact absurd c (h i a b)
def firsts (l:List FSl):Nat->List Nat
 | 0=>[]
 | q+1=>if (spotI l q).fst=q then firsts l q++[q] else firsts l q
theorem firsts_len (l:List FSl):∀q,(firsts l q).length=cntTo l q
 | 0=>rfl
 | q+1=>by
  rw[firsts,cntTo];split
  .simp[firsts_len l q]
  .exact firsts_len l q
theorem firsts_pre (l:List FSl)(q:Nat):∀d,∃r,firsts l (q+d)=firsts l q++r
 | 0=>⟨[],by simp⟩
 | d+1=>by
  obtain⟨r,h⟩:=firsts_pre l q d;rw[←Nat.add_assoc,firsts];split
  .exact⟨r++[q+d],by rw[h,List.append_assoc]⟩
  .exact⟨r,h⟩
def jobI (l:List FSl) (k:Nat):Nat:=(firsts l l.length).getD k 0
theorem jobI_first {l:List FSl}{m:Nat}(hm:m<l.length)(h:(spotI l m).fst=m):jobI l (cntTo l m)=m:=by
 obtain⟨r,hr⟩:=firsts_pre l (m+1) (l.length-(m+1));rw[show m+1+(l.length-(m+1))=l.length by omega]at hr;have e:firsts l (m+1)=firsts l m++[m]:=by rw[firsts,if_pos h]
 unfold jobI;rw[hr,e,←firsts_len l m];simp[List.getD_eq_getElem?_getD]
theorem spotI_self {l:List FSl}{i m:Nat}(h:(spotI l i).fst=(m:Int))(hs:sameJ l i m):(spotI l m).fst=m:=by
 rw[spotI_same hs,h]
theorem jobI_num {l:List FSl}{i:Nat}(hi:i<l.length):(spotI l i).fst=(jobI l (zM l i):Int)/\jobI l (zM l i)<=i/\sameJ l i (jobI l (zM l i))/\∀k,k<jobI l (zM l i)->¬sameJ l i k:=by
 obtain⟨m,hm,hmi,hs,hn⟩:=spotI_fst hi;have e:jobI l (zM l i)=m:=by
  unfold zM;rw[hm];exact jobI_first (by omega) (spotI_self hm hs)
 rw[e];exact⟨hm,hmi,hs,hn⟩
theorem sameJ_iff {l:List FSl}{i k:Nat}(hi:i<l.length)(hk:k<l.length):zM l i=zM l k↔sameJ l i k:=by
 constructor
 .intro h;obtain⟨_,_,a,_⟩:=jobI_num hi;obtain⟨_,_,b,_⟩:=jobI_num hk;rw[h]at a;exact⟨b.1.symm.trans a.1,b.2.symm.trans a.2⟩
 .intro h;unfold zM;rw[spotI_same h]
def budK (l:List FSl) (k:Nat):Nat:=(spotI l (jobI l k)).cost
def nmK (l:List FSl) (k:Nat):UInt8:=(fsk l (jobI l k)).2.nm
theorem budK_num {l:List FSl}{i:Nat}(hi:i<l.length):budK l (zM l i)=(spotI l i).cost:=by
 unfold budK;rw[spotI_same (jobI_num hi).2.2.1]
theorem nmK_num {l:List FSl}{i:Nat}(hi:i<l.length):nmK l (zM l i)=(fsk l i).2.nm:=(jobI_num hi).2.2.1.1
def hadK (l:List FSl) (k q:Nat):Nat:=(spotTo l (fsk l (jobI l k)).2.nm (fsk l (jobI l k)).2.job q).cost
theorem hadK_all (l:List FSl)(k:Nat):hadK l k l.length=budK l k:=rfl
theorem isOf_num {l:List FSl}{i q:Nat}(hi:i<l.length)(hq:q<l.length):isOf (fsk l q) (fsk l (jobI l (zM l i))).2.nm (fsk l (jobI l (zM l i))).2.job↔zM l q=zM l i:=by
 obtain⟨_,_,a,_⟩:=jobI_num hi;rw[eq_comm,sameJ_iff hi hq,a.1,a.2];exact Iff.rfl
theorem hadK_next {l:List FSl}{i q:Nat}(hi:i<l.length)(hq:q<l.length):hadK l (zM l i) (q+1)=hadK l (zM l i) q+if zM l q=zM l i then (fsk l q).2.bud else 0:=by
 unfold hadK;by_cases h:zM l q=zM l i
 .rw[if_pos h,spotTo_yes ((isOf_num hi hq).2 h)]
 .rw[if_neg h,spotTo_no (fun h'=>h ((isOf_num hi hq).1 h'))];rfl
theorem hadK_mono {l:List FSl}{i:Nat}(hi:i<l.length)(q:Nat):∀d,q+d<=l.length->hadK l (zM l i) q<=hadK l (zM l i) (q+d)
 | 0,_=>Nat.le_refl _
 | d+1,h=>by
  have:=hadK_mono hi q d (by omega);rw[←Nat.add_assoc,hadK_next hi (by omega)];omega
theorem hadK_le {l:List FSl}{i q:Nat}(hi:i<l.length)(hq:q<=l.length):hadK l (zM l i) q<=budK l (zM l i):=by
 have:=hadK_mono hi q (l.length-q) (by omega)
 rwa [show q+(l.length-q)=l.length by omega,hadK_all]at this
theorem num_surj {l:List FSl}:∀q,q<=l.length->∀k,k<cntTo l q->∃i,i<q/\zM l i=k/\jobI l k=i
 | 0,_,k,h=>by simp[cntTo]at h
 | q+1,hq,k,h=>by
  rw[cntTo]at h;split at h
  .rename_i e;by_cases hk:k=cntTo l q
   .refine⟨q,by omega,?_,by rw[hk];exact jobI_first (m:=q) (by omega) e⟩;unfold zM;rw[e,hk];rfl
   .obtain⟨i,a,b,c⟩:=num_surj (l:=l) q (by omega) k (by omega);exact⟨i,by omega,b,c⟩
  .obtain⟨i,a,b,c⟩:=num_surj (l:=l) q (by omega) k h;exact⟨i,by omega,b,c⟩
end Go.Proofs.YtbdffcjganlblaaGreatDoor
