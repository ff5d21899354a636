import Derived.Test.YtbdffcjganlblaaGreatDoorASoFtoPnI
import Derived.Test.YtbdffcjganlblaaGreatDoorAMpStoPnA
import Derived.Test.YtbdffcjganlblaaGreatDoorATbMtoRnH
set_option linter.unusedVariables false
set_option linter.unusedSimpArgs false
set_option maxRecDepth 100000
set_option maxHeartbeats 16000000
namespace Go.Proofs.YtbdffcjganlblaaGreatDoor
section
open Go.RowKit
structure PInv (js:List Jb) (s:Nat) (left:Nat->Nat) (L Cm:List Nat):Prop where
 nod:(L++Cm).Nodup
 iff:∀k,(k∈L\/k∈Cm)↔k<js.length/\0<left k
 rel:∀k∈L,(jk js k).rel<=s
 srt:Srt (relK js) Cm 0 Cm.length
 lo:∀k,left k<=costJ js k
section
variable {js:List Jb} {cyc s:Nat} {ps:List Pr} {left:Nat->Nat} {L Cm:List Nat}
theorem PInv.start (hj:JsOk js cyc)(hS:Sorted js (List.range js.length) Cm):PInv js 0 (costJ js) [] Cm:=by
 refine⟨by rw[List.nil_append];exact hS.perm.nodup_iff.2 List.nodup_range,fun k=>?_,(fun k hk=>by simp at hk),hS.srt,fun k=>Nat.le_refl _⟩;rw[hS.perm.mem_iff];constructor
 .rintro (h|h)
  .simp at h
  .have h5:k<js.length:=by simpa using h
   exact⟨h5,hj.cost k h5⟩
 .intro h;exact .inr (by simpa using h.1)
theorem PInv.released (h:PInv js s left L Cm){i:Nat}{L':List Nat}(hp:L'.Perm (L++Cm.take i))(h1:∀x∈Cm.take i,(jk js x).rel<=s)(h2:∀x∈Cm.drop i,s<(jk js x).rel):RdyL js left s L':=by
 have hn:=h.nod;rw[←List.take_append_drop i Cm,←List.append_assoc]at hn;refine⟨hp.nodup_iff.2 (List.nodup_append.1 hn).1,fun k=>?_⟩;rw[hp.mem_iff,List.mem_append];constructor
 .rintro (h5|h5)
  .have h6:=(h.iff k).1 (.inl h5);exact⟨h6.1,h.rel k h5,h6.2⟩
  .have h6:=(h.iff k).1 (.inr (List.mem_of_mem_take h5));exact⟨h6.1,h1 k h5,h6.2⟩
 .rintro ⟨a1,a2,a3⟩;rcases(h.iff k).2 ⟨a1,a3⟩ with h5|h5
  .exact .inl h5
  .rw[←List.take_append_drop i Cm,List.mem_append]at h5;rcases h5 with h5|h5
   .exact .inr h5
   .have:=h2 k h5;omega
theorem srt_drop {key:Nat->Nat}{C:List Nat}(h:Srt key C 0 C.length)(i:Nat):Srt key (C.drop i) 0 (C.drop i).length:=fun q h1 h2=>by
 rw[List.length_drop]at h2;have e:∀q,gd (C.drop i) q=gd C (i+q):=fun q=>by simp[gd,List.getD_eq_getElem?_getD]
 rw[e,e];exact h (i+q) (by omega) (by omega)
theorem PInv.filled (h:PInv js s left L Cm){i:Nat}{L2:List Nat}{e f:Nat}(h1:∀x∈Cm.take i,(jk js x).rel<=s)(h2:∀x∈Cm.drop i,s<(jk js x).rel)(hR:RdyL js (fillJ js ps s e f s left).2 s L2){s2:Nat}(hs:s<=s2):PInv js s2 (fillJ js ps s e f s left).2 L2 (Cm.drop i):=by
 obtain⟨⟨f1,f2,f3⟩,f4,f5⟩:=fill_ok js ps s e f s left;have hlate:∀k,s<(jk js k).rel->(fillJ js ps s e f s left).2 k=left k:=fun k hk=>by
  have h6:=f4 k;rcases Nat.eq_zero_or_pos (gvn k (fillJ js ps s e f s left).1) with h7|h7
  .omega
  .obtain⟨x,hx,ex⟩:=gvn_pos h7;have h8:=(f1 x hx).2.1;rw[ex]at h8;omega
 have hn:=h.nod;have hnC:=(List.nodup_append.1 hn).2.1;refine⟨?_,fun k=>?_,fun k hk=>Nat.le_trans ((hR.iff k).1 hk).2.1 hs,srt_drop h.srt i,fun k=>?_⟩
 .rw[List.nodup_append];refine⟨hR.nod,hnC.sublist (List.drop_sublist _ _),fun a ha b hb e=>?_⟩;have h5:=((hR.iff a).1 ha).2.1;have h6:=h2 b hb;rw[←e]at h6;omega
 .rw[hR.iff k];constructor
  .rintro (⟨a1,a2,a3⟩|h5)
   .exact⟨a1,a3⟩
   .have h6:=(h.iff k).1 (.inr (List.mem_of_mem_drop h5));exact⟨h6.1,by rw[hlate k (h2 k h5)];exact h6.2⟩
  .rintro ⟨a1,a2⟩;by_cases hr:(jk js k).rel<=s
   .exact .inl ⟨a1,hr,a2⟩
   .right;rw[hlate k (by omega)]at a2;rcases(h.iff k).2 ⟨a1,a2⟩ with h5|h5
    .exact absurd (h.rel k h5) hr
    .rw[←List.take_append_drop i Cm,List.mem_append]at h5;rcases h5 with h5|h5
     .exact absurd (h1 k h5) hr
     .exact h5
 .have h6:=f4 k;have:=h.lo k;omega
theorem PInv.done (h:PInv js s left L Cm):(decide (Cm.length=0)&&decide (L.length=0))=allJ js left:=by
 rw[Bool.eq_iff_iff];unfold allJ;rw[Bool.and_eq_true,decide_eq_true_eq,decide_eq_true_eq,List.all_eq_true];constructor
 .rintro ⟨h1,h2⟩ k hk;have e1:=List.length_eq_zero_iff.1 h1;have e2:=List.length_eq_zero_iff.1 h2;subst e1 e2;have:=(h.iff k).2;simp at hk;rcases Nat.eq_zero_or_pos (left k) with h5|h5
  .simp[h5]
  .have:=this ⟨hk,h5⟩;simp at this
 .intro h5;have hno:∀k,¬(k∈L\/k∈Cm):=fun k hk=>by
   obtain⟨a1,a2⟩:=(h.iff k).1 hk;have:=h5 k (by simpa using a1);simp at this;omega
  refine⟨?_,?_⟩
  .rw[List.length_eq_zero_iff]
   cases Cm with
   | nil=>rfl
   | cons x r=>exact absurd (.inr (by simp)) (hno x)
  .rw[List.length_eq_zero_iff]
   cases L with
   | nil=>rfl
   | cons x r=>exact absurd (.inl (by simp)) (hno x)
end
structure PrOk (l:List (Tk×Nat)) (cyc:Nat) (ps:List Pr):Prop where
 a:∀p∈ps,p.a∈l.map (·.1.nm)
 b:∀p∈ps,p.b∈l.map (·.1.nm)
 bef:∀p∈ps,p.ap=false->∀i j,(hi:i<l.length)->(hj:j<l.length)->l[i].1.nm=p.a->l[j].1.nm=p.b->l[i].1.P=l[j].1.P
 len:ps.length<=6
theorem NpF.ps {l:List (Tk×Nat)}{cyc:Nat}{pa:Option Addr}{pn pc:Nat}{w:World}{js:List Jb}{bl:Nat->Nat}{es:List (UInt8×Value)}{c2:Value}{Cm:List Nat}{wr:World}(h:NpF l cyc pa pn pc w js bl es c2 Cm wr){ps:List Pr}(hp:PrOk l cyc ps):PsOk js es ps:=by
 have hin:∀c,c∈l.map (·.1.nm)->∃x∈es,x.1=c:=fun c hc=>by
  rw[←h.keys]at hc;obtain⟨x,hx,e⟩:=List.mem_map.1 hc;exact⟨x,hx,e⟩
 refine⟨fun p hpp=>hin _ (hp.a p hpp),fun p hpp=>hin _ (hp.b p hpp),fun p hpp hap k hk hkb=>?_⟩;have hm:jk js k∈zJ cyc 0 (l.map Prod.fst):=by rw[←h.is,jk_get hk];exact List.getElem_mem _
 obtain⟨q,hq,n,hn,e⟩:=(jobsL_mem _ _ _ _).1 hm;obtain⟨i,hi,ei⟩:=List.getElem_of_mem (hp.a p hpp);have hi':i<l.length:=by simpa using hi
 have hq':q<l.length:=by simpa using hq
 have ea:l[i].1.nm=p.a:=by simpa using ei
 have eb:l[q].1.nm=p.b:=by
  rw[e]at hkb;simpa [jobA] using hkb
 have hP:=hp.bef p hpp hap i q hi' hq' ea eb;have him:i<(l.map Prod.fst).length:=by simpa using hi'
 have hx:=(jobsL_mem cyc (l.map Prod.fst) 0 (jobA (0+i) (l.map Prod.fst)[i] n)).2 ⟨i,him,n,by
  have h7:(l.map Prod.fst)[i].P=(l.map Prod.fst)[q].P:=by simpa using hP
  rw[h7];exact hn,rfl⟩
 rw[←h.is]at hx;obtain⟨j,hj,ej⟩:=List.getElem_of_mem hx;refine⟨j,hj,?_,?_⟩
 .rw[jk_get hj,ej];simpa [jobA] using ea
 .rw[jk_get hj,ej,e];rfl
theorem NpF.pl {l:List (Tk×Nat)}{cyc:Nat}{pa:Option Addr}{pc:Nat}{w:World}{js:List Jb}{bl:Nat->Nat}{es:List (UInt8×Value)}{c2:Value}{Cm:List Nat}{wr:World}{ps:List Pr}(h:NpF l cyc pa ps.length pc w js bl es c2 Cm wr)(hp:PrOk l cyc ps)(hts:TsOk (l.map Prod.fst) cyc)(hpa:PairsAt w pa ps)(hgp:∀gp,pa=some ⟨gp,0,none⟩->gp<w.heap.size):
  PlS js cyc ps bl (costJ js) (w.heap.size+2) (w.heap.size+1) es pa pc c2 wr.heap.size (.slice none 0 0) [] wr/\ComAt w.heap.size wr.heap.size (w.heap.size+2) js bl c2 Cm wr:=by
 have hPl:=zL h.pln;have hjl:∀k,k<js.length->bl k<wr.heap.size:=fun k hk=>zL (h.jobs k hk);have hjP:∀k,k<js.length->bl k≠w.heap.size+2:=fun k hk e=>by
  have:=h.jobs k hk;rw[e,h.pln]at this;simp at this
 have hty:∀ {b0:Nat} {u:Value} {T:List Nat},RowJ wr b0 u bl T->∀b,u.ownBlock=some b->b<wr.heap.size/\b≠w.heap.size+2:=fun hr b hb=>⟨(hr.lt b hb).2,fun e=>by
  obtain⟨_,c,fr,e'⟩:=own_typed hr hb;rw[e,h.pln]at e';simp at e'⟩
 refine⟨⟨⟨h.pln,World.ownsRow_nil _ _ _ _⟩,h.jobs,h.map,hpa.keep (Below.frm h.b) (fun gp hg hX=>by have:=hgp gp hg;omega),hp_nil _,⟨hPl,⟨h.map.m.lt,by omega⟩,fun x hx b hb=>?_,fun k hk=>⟨hjl k hk,hjP k hk⟩,fun gp hg=>?_,h.inj⟩,Nat.le_refl _,(fun x hx=>by simp at hx),by rw[h.is];exact jobs_of hts,h.ps hp,hp.len⟩,?_⟩
 .obtain⟨T,r1,_⟩:=h.map.each x hx;exact hty r1 b hb
 .have h5:=hgp gp hg;exact⟨by omega,by omega,fun k hk e=>by have:=h.low k hk;omega⟩
 .obtain⟨a,cap,e1,e2,e3⟩:=h.com.len;refine⟨a,cap,e1,e2,e3,fun h0=>?_⟩;obtain⟨g,cap',cur,hv,_,hg,_,_,_,hcl⟩:=h.com.form h0;rw[e1]at hv;injection hv with hv _ _;obtain⟨t1,t2⟩:=hty h.com g (by rw[e1,hv];rfl);refine⟨g,0,hv,(h.com.lt g (by rw[e1,hv];rfl)).1,t1,t2,t1,fun k hk e=>own_not_job h.com h.jobs hk (by rw[e1,hv,←e];rfl),fun q hq=>?_⟩;rw[Nat.zero_add,zC hg];exact hcl q hq
section
variable {js:List Jb} {cyc:Nat} {ps:List Pr} {bl left:Nat->Nat} {P M:Nat} {es:List (UInt8×Value)} {pa:Option Addr} {pc:Nat} {c2:Value} {base:Nat} {v:Value} {L:List Nat} {w:World}
theorem PlS.only (h:PlS js cyc ps bl left P M es pa pc c2 base v L w){T:Nat}{c:Array Value}{ty:TypeId}(hT:w.heap[T]? =some (.cells c ty (0,0)))(h1:ty≠221)(h2:ty≠225)(h3:ty≠226)(hg:∀gp,pa=some ⟨gp,0,none⟩->gp≠T){w':World}(hf:Frm (fun k=>k=T) w w'):PlS js cyc ps bl left P M es pa pc c2 base v L w':=by
 have hrow:∀ {b0:Nat} {u:Value} {Z:List Nat},RowJ w b0 u bl Z->∀b,u.ownBlock=some b->¬b=T:=fun hr b hb e=>by
  obtain⟨_,c',fr,e'⟩:=own_typed hr hb;rw[e,hT]at e';simp at e';exact h3 e'.2.1
 refine⟨⟨hf.blk h.hp.blk (fun e=>?_),h.hp.own.frm hf (fun b hb=>hrow h.hp.own b hb)⟩,h.jobs.keep hf (fun k hk e=>?_),h.map.keep hf (fun e=>?_) (fun x hx b hb=>?_),h.prs.keep hf (fun gp hgp=>hg gp hgp),h.heap,h.low,Nat.le_trans h.bas hf.size,h.mem,h.jok,h.pok,h.pl⟩
 .have:=h.hp.blk;rw[e,hT]at this;simp at this;exact h1 this.2
 .have:=h.jobs k hk;rw[e,hT]at this;simp at this;exact h2 this.2
 .have:=h.map.m.noCells c ty (0,0);rw[e]at this;exact this hT
 .obtain⟨Z,r1,_⟩:=h.map.each x hx;exact hrow r1 b hb
theorem frM_frJ {w':World}{fv:Value}{Pf:List (Value×List Sl)}(h:FrM w base fv Pf)(hf:FrJ base P js bl w w')(hP:P<base)(hj:∀k,k<js.length->bl k<base):FrM w' base fv Pf:=by
 have key:∀ {e:TypeId} {size:Nat} {u:Value} {n:Nat} {xs:List Value},w.ownsRow base e size u n xs->e≠226->w'.ownsRow base e size u n xs:=by
  intro e size u n xs ho he;refine⟨ho.1,?_⟩;rcases ho.2 with h3|⟨g,cap,cur,h3,h4,h5,h6⟩
  .exact .inl h3
  .refine .inr ⟨g,cap,cur,h3,h4,?_,h6⟩;rw[hf.block g (zL h5) (by omega) (fun k hk e=>by have:=hj k hk;omega) (fun _ c fr e'=>by
    rw[h5]at e';simp at e';exact he e'.2.1)]
   exact h5
 exact⟨key h.1 (by decide),fun p hp=>key (h.2 p hp) (by decide)⟩
end
structure PkW (js:List Jb) (cyc fr:Nat) (ps:List Pr) (bl:Nat->Nat) (es:List (UInt8×Value)) (pa:Option Addr) (pc:Nat) (base B0 T:Nat) (w:World) (q:Nat) (left:Nat->Nat) (L Cm:List Nat) (c2 v fv:Value) (Pf:List (Value×List Sl)) (wr:World):Prop where
 pl:PlS js cyc ps bl left (B0+2) (B0+1) es pa pc c2 base v L wr
 com:ComAt B0 base (B0+2) js bl c2 Cm wr
 inv:PInv js (q*fr) left L Cm
 tb:wr.heap[T]? =some (.cells #[.int .i64 cyc,.int .i64 fr,fv] 61 (0,0))
 fm:FrM wr base fv Pf
 len:Pf.length=q
 fs:Pf.map Prod.snd++(planJ js ps fr (cyc/fr-q) (q*fr) left).1.map (outJ js)=(runJ js ps cyc fr).1.map (outJ js)
 lf:(planJ js ps fr (cyc/fr-q) (q*fr) left).2=(runJ js ps cyc fr).2
 b:Below w.heap.size w wr
section
variable {js:List Jb} {cyc fr:Nat} {ps:List Pr} {bl:Nat->Nat} {es:List (UInt8×Value)} {pa:Option Addr} {pc base B0 T:Nat} {w:World} {q:Nat} {left:Nat->Nat} {L Cm:List Nat} {c2 v fv:Value} {Pf:List (Value×List Sl)} {wr:World}
theorem PkW.push (h:PkW js cyc fr ps bl es pa pc base B0 T w q left L Cm c2 v fv Pf wr)(hT:T<B0)(hwT:w.heap.size<=T)(hgp:∀gp,pa=some ⟨gp,0,none⟩->gp≠T)(hjT:∀k,k<js.length->B0<bl k)(hq:q<cyc/fr){w4 w5 w6:World}{i:Nat}{c4 v4 v5 ov fv':Value}{L4 L5:List Nat}{o:Obj}(h4:PlS js cyc ps bl left (B0+2) (B0+1) es pa pc c4 base v4 L4 w4)(hc4:ComAt B0 base (B0+2) js bl c4 (Cm.drop i) w4)(h1:∀x∈Cm.take i,(jk js x).rel<=q*fr)(h2:∀x∈Cm.drop i,q*fr<(jk js x).rel)(hf4:FrB base (B0+2) wr w4)
  (h5:PlS js cyc ps bl (fillJ js ps (q*fr) (q*fr+fr) fr (q*fr) left).2 (B0+2) (B0+1) es pa pc c4 base v5 L5 w5) (hr5:RdyL js (fillJ js ps (q*fr) (q*fr+fr) fr (q*fr) left).2 (q*fr) L5) (ho5:w5.ownsRow base 106 3 ov (fillJ js ps (q*fr) (q*fr+fr) fr (q*fr) left).1.length (slPs (outJ js (fillJ js ps (q*fr) (q*fr+fr) fr (q*fr) left).1))) (hf5:FrJ base (B0+2) js bl w4 w5)
  (hg6:(w5.alloc o).grownBy w6 fv.ownBlock) (ho6:w6.ownsRow base 104 1 fv' (Pf.length+1) (Pf.map Prod.fst++[ov])):
  PkW js cyc fr ps bl es pa pc base B0 T w (q+1) (fillJ js ps (q*fr) (q*fr+fr) fr (q*fr) left).2 L5 (Cm.drop i) c4 v5 fv' (Pf++[(ov,outJ js (fillJ js ps (q*fr) (q*fr+fr) fr (q*fr) left).1)]) (w6.setCell ⟨T,2,none⟩ fv')/\w6.heap[T]? =some (.cells #[.int .i64 cyc,.int .i64 fr,fv] 61 (0,0)):=by
 have hPb:=h.pl.low.p;have hjb:∀k,k<js.length->bl k<base:=fun k hk=>(h.pl.low.j k hk).1;have hf45:FrJ base (B0+2) js bl wr w5:=(hf4.frJ js bl).trans hf5;have htb5:w5.heap[T]? =some (.cells #[.int .i64 cyc,.int .i64 fr,fv] 61 (0,0)):=by
  rw[hf45.block T (zL h.tb) (by omega) (fun k hk e=>by have:=hjT k hk;omega) (fun hb=>by omega)];exact h.tb
 have hfv:∀b,fv.ownBlock=some b->base<=b:=fun b hb=>(h.fm.1.lt b hb).1;have hbas5:=h5.bas;have hfr6:Frm (fun b=>fv.ownBlock=some b) w5 w6:=((Frm.refl _ w5).alloc o).grown hg6 (fun b hb _=>hb);have htb6:w6.heap[T]? =some (.cells #[.int .i64 cyc,.int .i64 fr,fv] 61 (0,0)):=hfr6.blk htb5 (fun e=>by have:=hfv T e;omega);have fm5:=frM_frJ h.fm hf45 hPb hjb;have hvne:∀b,fv.ownBlock=some b->v5.ownBlock≠some b:=fun b hb hv=>by
  obtain⟨_,c,fr',e⟩:=own_typed h5.hp.own hv;rcases fm5.1.2 with⟨e0,_⟩|⟨g,cap,cur,e0,_,h7,_⟩
  .rw[e0]at hb;simp[Value.ownBlock]at hb
  .rw[e0]at hb;simp[Value.ownBlock]at hb;subst hb;rw[h7]at e;simp at e
 have pl6:=h5.quiet hfr6 (fun b hb=>⟨hfv b hb,hvne b hb⟩);have hfT:Frm (fun k=>k=T) w6 (w6.setCell ⟨T,2,none⟩ fv'):=(Frm.refl (fun k=>k=T) w6).setCell (p:=⟨T,2,none⟩) rfl _;have fm5a:FrM (w5.alloc o) base fv Pf:=fm5.kept (World.grownBy_alloc w5 o none) (fun k hk=>by simp at hk);have fm6:=fm5a.push (l:=outJ js (fillJ js ps (q*fr) (q*fr+fr) fr (q*fr) left).1) (by
  have:=ho5.alloc o;rw[show (outJ js (fillJ js ps (q*fr) (q*fr+fr) fr (q*fr) left).1).length=(fillJ js ps (q*fr) (q*fr+fr) fr (q*fr) left).1.length by simp[outJ]];exact this) hg6 ho6
 have hst:planJ js ps fr (cyc/fr-q) (q*fr) left=((fillJ js ps (q*fr) (q*fr+fr) fr (q*fr) left).1::(planJ js ps fr (cyc/fr-(q+1)) ((q+1)*fr) (fillJ js ps (q*fr) (q*fr+fr) fr (q*fr) left).2).1,(planJ js ps fr (cyc/fr-(q+1)) ((q+1)*fr) (fillJ js ps (q*fr) (q*fr+fr) fr (q*fr) left).2).2):=by
  rw[show cyc/fr-q=(cyc/fr-(q+1))+1 by omega,planJ,show (q+1)*fr=q*fr+fr by rw[Nat.add_mul,Nat.one_mul]]
 have hfs:=h.fs;have hlf:=h.lf;rw[hst]at hfs hlf;refine⟨⟨pl6.only htb6 (by decide) (by decide) (by decide) hgp hfT,?_,?_,?_,?_,?_,?_,hlf,?_⟩,htb6⟩
 .exact((hc4.frJ hf5).keep hfr6 (fun j _ hj _ _ e=>by have:=hfv j e;omega)).keep hfT (fun j hj _ _ _ e=>by omega)
 .exact h.inv.filled h1 h2 hr5 (by rw[Nat.add_mul];omega)
 .rw[zS htb6];rfl
 .exact fm6.kept (zE (k:=T) (zI _ _) 2 fv') (fun k hk=>.inl (by simp at hk;omega))
 .simp[h.len]
 .rw[←hfs];simp
 .have hb5:Below w.heap.size w w5:=h.b.trans (hf45.frm.below h.b.size (fun k hk hX=>by
   rcases hX with e|e|⟨j,hj,e⟩
   .omega
   .omega
   .have:=hjT j hj;omega))
  exact(hb5.trans (hfr6.below hb5.size (fun k hk e=>by have:=hfv k e;omega))).setCell (p:=⟨T,2,none⟩) hwT _
end
def PlanOut (l:List (Tk×Nat)) (cyc fr:Nat) (ps:List Pr) (w:World) (en:Ending) (w':World):Prop:=
 ∃fv Pf a c,fv=.slice a Pf.length c/\en=.returned (.tuple #[.agg #[.int .i64 cyc,.int .i64 fr,fv],.bool (goesJ (zJ cyc 0 (l.map Prod.fst)) ps cyc fr)])/\FrM w' w.heap.size fv Pf/\Pf.map Prod.snd=(tabJ (zJ cyc 0 (l.map Prod.fst)) ps cyc fr).fs/\Below w.heap.size w w'
theorem plan_any (l:List (Tk×Nat))(cyc fr g cap:Nat)(pa:Option Addr)(pc:Nat)(ps:List Pr)(w:World)(hg:g<w.heap.size)(hr:RowPT w g l)(hn:l.length<=6)(hts:TsOk (l.map Prod.fst) cyc)(hcy:cycI (l.map Prod.fst)=cyc)(hp:PrOk l cyc ps)(hpa:PairsAt w pa ps)(hgp:∀gp,pa=some ⟨gp,0,none⟩->gp<w.heap.size)(hfr:1<=fr)(hdv:cyc%fr=0):
  Calls Tryz.prog 129 #[.agg #[.slice (some ⟨g,0,none⟩) l.length cap,.slice pa ps.length pc],.int .i64 fr] w (PlanOut l cyc fr ps w):=by
 obtain⟨i0,hi0,hz0,hz1,hz2⟩:=info_parts Tryz.infoPFr;have hc1:=hts.c1;have hc2:=hts.c2;have HWz:=hide (((Below.refl _ w).alloc (Nat.le_refl _) (.cells #[.slice (some ⟨g,0,none⟩) l.length cap,.slice pa ps.length pc] 84)).alloc (by simp) (.cells #[.int .i64 0,.int .i64 0,.slice none 0 0] 61));have HSz:Hid (((w.alloc (.cells #[.slice (some ⟨g,0,none⟩) l.length cap,.slice pa ps.length pc] 84)).alloc (.cells #[.int .i64 0,.int .i64 0,.slice none 0 0] 61)).heap[w.heap.size]? =some (.cells #[.slice (some ⟨g,0,none⟩) l.length cap,.slice pa ps.length pc] 84 (0,0))):=by
  unfold Hid;rw[Below.heap_alloc _ _ _ (by simp)];exact zW _ _ _
 have HTz:Hid (((w.alloc (.cells #[.slice (some ⟨g,0,none⟩) l.length cap,.slice pa ps.length pc] 84)).alloc (.cells #[.int .i64 0,.int .i64 0,.slice none 0 0] 61)).heap[w.heap.size+1]? =some (.cells #[.int .i64 0,.int .i64 0,.slice none 0 0] 61 (0,0))):=by
  have:=zW (w.alloc (.cells #[.slice (some ⟨g,0,none⟩) l.length cap,.slice pa ps.length pc] 84)) #[.int .i64 0,.int .i64 0,.slice none 0 0] 61;unfold Hid;simpa using this
 have HZz:Hid (((w.alloc (.cells #[.slice (some ⟨g,0,none⟩) l.length cap,.slice pa ps.length pc] 84)).alloc (.cells #[.int .i64 0,.int .i64 0,.slice none 0 0] 61)).heap.size=w.heap.size+2):=by unfold Hid;simp
 have HR:=hide hr;have HT:=hide hts;have HC:=hide hcy;have HP:=hide hp;have HPa:=hide hpa;have HGp:=hide hgp;have HFw:=hide (jobs_few hts);clear hr hts hcy hp hpa hgp;go_enter Tryz.func129,Tryz.ntmps129;go_wp2_with fail;generalize (w.alloc (.cells #[.slice (some ⟨g,0,none⟩) l.length cap,.slice pa ps.length pc] 84)).alloc (.cells #[.int .i64 0,.int .i64 0,.slice none 0 0] 61)=wz at *;have hRz:RowPT wz g l:=HR.out.keep (HWz.out.block g hg);have hgz:g<wz.heap.size:=Nat.lt_of_lt_of_le hg HWz.out.size;have CN:=hide (newPlan_any l cyc g cap pa ps.length pc wz hgz hRz hn HT.out HC.out);have HPz:Hid (PairsAt wz pa ps):=HPa.out.keep (Below.frm HWz.out) (fun gp hg' hX=>by have:=HGp.out gp hg';omega);have hPk:∀k,k<l.length->1<=(lk l k).1.P/\(lk l k).1.P<=60:=fun k hk=>by
  have hm:(lk l k).1∈l.map Prod.fst:=by
   unfold lk;rw[List.getD_eq_getElem?_getD,List.getElem?_eq_getElem hk];exact List.mem_map.2 ⟨_,List.getElem_mem _,rfl⟩
  have h5:=HT.out.each _ hm;have h6:(lk l k).1.P<=cyc:=Nat.le_of_dvd (by omega) (Nat.dvd_of_mod_eq_zero h5.2.1);omega
 have HPk:=hide hPk;clear hRz hgz hPk;refine CN.out.mono ?_;rintro en w1 ⟨rfl,js,bl,es,c2,Cm,hF⟩;obtain⟨hPl,hCm⟩:=hF.pl HP.out HT.out HPz.out (fun gp hg'=>by have:=HGp.out gp hg';have:=HWz.out.size;omega);have hB1:=HWz.out.trans (hF.b.mono HWz.out.size);have hS1:=zK HSz.out hF.b;have hT1:=zK HTz.out hF.b;have s0:w1.cell? ⟨w.heap.size,0,none⟩=some (.slice (some ⟨g,0,none⟩) l.length cap):=by rw[zC hS1];rfl
 have s1:w1.cell? ⟨w.heap.size,1,none⟩=some (.slice pa ps.length pc):=by rw[zC hS1];rfl
 have CC:=hide (cyc_any l g cap pa ps.length pc w1 (Nat.lt_of_lt_of_le hg hB1.size) (HR.out.keep (hB1.block g hg)) hn HPk.out (by rw[HC.out];omega));rw[HC.out]at CC;have HInv:=hide (PInv.start hPl.jok hF.srt);have His:=hide hF.is;have Hlow:=hide hF.low;have HPl:=hide hPl;have HCm:=hide hCm;have HB1:=hide hB1;have HT1:=hide hT1;clear CN hF hPl hCm hB1 hS1 hT1 HPz HSz HTz;go_wp2_with fail;refine CC.out.mono ?_;rintro en w2 ⟨rfl,hb2⟩;have hT2:=zK HT1.out hb2;have t0:=zC hT2;have tf:=zF hT2;have hf2:Frm (fun k=>w1.heap.size<=k) w1 w2:=Below.frm hb2;have HPl2:=hide (HPl.out.quiet hf2 (fun b hb=>⟨hb,by simp[Value.ownBlock]⟩));have HCm2:=hide (HCm.out.keep hf2 (fun i _ hi _ _ hX=>by omega));have HB2:=hide (HB1.out.trans (hb2.mono HB1.out.size));have HT2:=hide hT2;clear hb2 hf2 hT2 CC HPl HCm HB1 HT1 s0 s1;go_wp2_with fail;have hzz:=HZz.out;have hf3:Frm (fun k=>k=w.heap.size+1) w2 (((w2.setCell ⟨w.heap.size+1,0,none⟩ (.int .i64 cyc)).setCell ⟨w.heap.size+1,1,none⟩ (.int .i64 fr)).setCell ⟨w.heap.size+1,2,none⟩ (.slice none 0 0)):=(((Frm.refl (fun k=>k=w.heap.size+1) w2).setCell (p:=⟨w.heap.size+1,0,none⟩) rfl _).setCell (p:=⟨w.heap.size+1,1,none⟩) rfl _).setCell (p:=⟨w.heap.size+1,2,none⟩) rfl _;have HK0:Hid (PkW js cyc fr ps bl es pa pc w1.heap.size wz.heap.size (w.heap.size+1) w 0 (costJ js) [] Cm c2 (.slice none 0 0) (.slice none 0 0) [] (((w2.setCell ⟨w.heap.size+1,0,none⟩ (.int .i64 cyc)).setCell ⟨w.heap.size+1,1,none⟩ (.int .i64 fr)).setCell ⟨w.heap.size+1,2,none⟩ (.slice none 0 0))):=
  ⟨HPl2.out.only HT2.out (by decide) (by decide) (by decide) (fun gp hg'=>by have:=HGp.out gp hg';omega) hf3,HCm2.out.keep hf3 (fun i hi _ _ _ hX=>by omega),by rw[Nat.zero_mul];exact HInv.out,by rw[zS (zS (zS HT2.out 0 _) 1 _) 2 _];rfl,FrM.nil _ _,rfl,by rw[Nat.zero_mul];rfl,by rw[Nat.zero_mul];rfl,((HB2.out.setCell (p:=⟨w.heap.size+1,0,none⟩) (by show w.heap.size<=w.heap.size+1;omega) _).setCell (p:=⟨w.heap.size+1,1,none⟩) (by show w.heap.size<=w.heap.size+1;omega) _).setCell (p:=⟨w.heap.size+1,2,none⟩) (by show w.heap.size<=w.heap.size+1;omega) _⟩
 have hNf:cyc/fr*fr=cyc:=Nat.div_mul_cancel (Nat.dvd_of_mod_eq_zero hdv);have HNf:=hide hNf;have hjl:js.length<=360:=by rw[His.out];exact HFw.out
 have hTz:w.heap.size+1<wz.heap.size:=by omega
 clear hf3 HPl2 HCm2 HB2 HT2 HInv hNf t0 tf hzz hdv;generalize ((w2.setCell ⟨w.heap.size+1,0,none⟩ (.int .i64 cyc)).setCell ⟨w.heap.size+1,1,none⟩ (.int .i64 fr)).setCell ⟨w.heap.size+1,2,none⟩ (.slice none 0 0)=w3 at *;generalize w1.heap.size=base at *
 go_loopw [7] (fun sv wr=>∃(q s:Nat) (left:Nat->Nat) (L Cm:List Nat) (c2 v fv:Value) (Pf:List (Value×List Sl)),sv=.int .i64 s/\s=q*fr/\q<=cyc/fr/\PkW js cyc fr ps bl es pa pc base wz.heap.size (w.heap.size+1) w q left L Cm c2 v fv Pf wr) (fun sv _=>cyc-(intOf sv).toNat)
 case atStart=>exact⟨0,0,_,_,_,_,_,_,_,rfl,by simp,Nat.zero_le _,HK0.out⟩
 case round=>
  obtain⟨q,s,left,L,Cm,c2,v,fv,Pf,rfl,hsq,hqN,hK⟩:=hrel;have x0:wr.cell? ⟨w.heap.size+1,0,none⟩=some (.int .i64 cyc):=by rw[zC hK.tb];rfl
  by_cases hq:q<cyc/fr
  .have hsf:s+fr<=cyc:=by
    have h1:(q+1)*fr<=cyc/fr*fr:=Nat.mul_le_mul_right _ hq;rw[HNf.out,Nat.add_mul,Nat.one_mul,←hsq]at h1;exact h1
   have hlt':(s:Int)<cyc:=by omega
   have hcyc:∀k,k<js.length->(jk js k).rel<=1000/\(jk js k).cost<=1000:=fun k hk=>by
    have h1:=hK.pl.jok.win k hk;have h2:=hK.pl.jok.cyc k hk;omega
   have hCm:∀x∈Cm,x<js.length:=fun x hx=>((hK.inv.iff x).1 (.inr hx)).1;have hLC:L.length+Cm.length<=1000:=by
    have:=nodup_le js.length (L++Cm) hK.inv.nod (fun x hx=>((hK.inv.iff x).1 (List.mem_append.1 hx)).1);rw[List.length_append]at this;omega
   have CR:=hide (release_any wz.heap.size js cyc ps bl left (wz.heap.size+2) (wz.heap.size+1) es pa pc c2 base v L Cm wr s hK.pl hK.com hCm hK.inv.srt hLC (fun k hk=>(hcyc k hk).1));have HK:=hide hK;have HCy:=hide hcyc;have Hsq:=hide hsq;have Hq:=hide hq;have HqN:=hide hqN;clear hK hcyc hCm hLC hsq hq hqN;go_wp2_with fail;refine CR.out.mono ?_;rintro en w4 ⟨rfl,i,c4,v4,L4,h4,hc4,hp4,hr4,hd4,hf4⟩;have hinv:=HK.out.inv;rw[←Hsq.out]at hinv;have hR4:=hinv.released hp4 hr4 hd4;have h4d:PlS js cyc ps bl left (wz.heap.size+2) (wz.heap.size+1) es pa pc c4 base v4 L4 w4.drew:=h4.quiet (X:=fun _=>False) (Frm.sames rfl rfl rfl rfl) (fun b hb=>hb.elim);have CF:Hid (∀E:Int,E=(s:Int)+(fr:Int)->Calls Tryz.prog 156 #[.pointer (some ⟨wz.heap.size+2,0,none⟩),.int .i64 s,.int .i64 E] w4.drew (FillOut js cyc ps bl left (wz.heap.size+2) (wz.heap.size+1) es pa pc c4 base s (s+fr) w4.drew)):=fun E hE=>by
    have:=fill_any js cyc ps bl left (wz.heap.size+2) (wz.heap.size+1) es pa pc c4 base v4 L4 w4.drew s (s+fr) h4d hR4 (by omega) (by omega) (by omega) (fun k hk=>(HCy.out k hk).2) (fun k hk=>Nat.le_trans (hinv.lo k) (HCy.out k hk).2);rw[Int.natCast_add,←hE]at this;exact this
   have htb4:w4.heap[w.heap.size+1]? =some (.cells #[.int .i64 cyc,.int .i64 fr,fv] 61 (0,0)):=by
    have hlb:=HK.out.pl.low.p;rw[hf4.block _ (zL HK.out.tb) (by omega) (fun hb=>by omega)];exact HK.out.tb
   have x2:w4.cell? ⟨w.heap.size+1,2,none⟩=some fv:=by rw[zC htb4];rfl
   obtain⟨fa,fc,hfv⟩:=own_slice HK.out.fm.1;subst hfv;have hPf:Pf.length<=60:=by
    rw[HK.out.len];exact Nat.le_trans HqN.out (Nat.le_trans (Nat.div_le_self _ _) hc2)
   have HF4:=hide hf4;have H4:=hide h4;have HC4:=hide hc4;have Hr4:=hide hr4;have Hd4:=hide hd4;clear h4 hc4 hp4 hr4 hd4 hf4 h4d hR4 hinv CR x0;have hjlo:∀k,k<js.length->wz.heap.size<bl k:=Hlow.out;have Hjlo:=hide hjlo;have HE:Hid (∀(w5:World) (L5:List Nat) (v5 ov:Value),PlS js cyc ps bl (fillJ js ps s (s+fr) (s+fr-s) s left).2 (wz.heap.size+2) (wz.heap.size+1) es pa pc c4 base v5 L5 w5->RdyL js (fillJ js ps s (s+fr) (s+fr-s) s left).2 s L5->w5.ownsRow w4.drew.heap.size 106 3 ov (fillJ js ps s (s+fr) (s+fr-s) s left).1.length (slPs (outJ js (fillJ js ps s (s+fr) (s+fr-s) s left).1))->FrJ base (wz.heap.size+2) js bl w4.drew w5->
     w5.ownsRow base 104 1 (.slice fa Pf.length fc) Pf.length (Pf.map Prod.fst)/\base<=w5.heap.size/\(∃oa n oc,ov=.slice oa n oc)/\w5.cell? ⟨w.heap.size+1,2,none⟩=some (.slice fa Pf.length fc)/\(w5.alloc (.cells #[ov] 104)).cell? ⟨w.heap.size+1,2,none⟩=some (.slice fa Pf.length fc)/\
     ∀(o:Obj) (w6:World) (fv':Value),(w5.alloc o).grownBy w6 (Value.slice fa Pf.length fc).ownBlock->w6.ownsRow base 104 1 fv' (Pf.length+1) (Pf.map Prod.fst++[ov])->(∃(q s':Nat) (left:Nat->Nat) (L Cm:List Nat) (c2 v fv:Value) (Pf:List (Value×List Sl)),s'=s+fr/\s'=q*fr/\q<=cyc/fr/\PkW js cyc fr ps bl es pa pc base wz.heap.size (w.heap.size+1) w q left L Cm c2 v fv Pf (w6.setCell ⟨w.heap.size+1,2,none⟩ fv'))/\w6.cell? ⟨w.heap.size+1,2,none⟩=some (.slice fa Pf.length fc)/\w6.frozen? ⟨w.heap.size+1,2,none⟩=false):=by
    intro w5 L5 v5 ov h5 hr5 ho5 hf5;have hlb:=HK.out.pl.low.p;have hf5':FrJ base (wz.heap.size+2) js bl w4 w5:=⟨hf5.os,hf5.tape,hf5.output,hf5.size,hf5.block⟩;have hfm:=frM_frJ HK.out.fm ((HF4.out.frJ js bl).trans hf5') hlb (fun k hk=>(HK.out.pl.low.j k hk).1);have hoB:w5.ownsRow base 106 3 ov (fillJ js ps s (s+fr) (s+fr-s) s left).1.length (slPs (outJ js (fillJ js ps s (s+fr) (s+fr-s) s left).1)):=own_weak ho5 H4.out.bas;have htb5:w5.heap[w.heap.size+1]? =some (.cells #[.int .i64 cyc,.int .i64 fr,.slice fa Pf.length fc] 61 (0,0)):=by
     rw[hf5'.block _ (zL htb4) (by omega) (fun k hk e=>by have:=Hjlo.out k hk;omega) (fun hb=>by omega)];exact htb4
    refine⟨hfm.1,h5.bas,?_,?_,?_,?_⟩
    .obtain⟨oa,oc,e⟩:=own_slice ho5;exact⟨oa,_,oc,e⟩
    .rw[zC htb5];rfl
    .rw[zC (show (w5.alloc (.cells #[ov] 104)).heap[w.heap.size+1]? =_ from (Below.heap_alloc _ _ _ (zL htb5)).trans htb5)];rfl
    .intro o w6 fv' hg6 ho6;have hs:=Hsq.out;rw[Nat.add_sub_cancel_left]at h5 hr5 hoB;have Hd:=Hd4.out;have Hr:=Hr4.out;rw[hs]at h5 hr5 hoB Hd Hr;obtain⟨k1,k2⟩:=PkW.push HK.out hTz (Nat.le_succ _) (fun gp hg'=>by have:=HGp.out gp hg';omega) Hjlo.out Hq.out H4.out HC4.out Hr Hd HF4.out h5 hr5 hoB hf5' hg6 ho6;refine⟨⟨q+1,s+fr,_,_,_,_,_,_,_,rfl,by rw[hs,Nat.add_mul,Nat.one_mul],Hq.out,k1⟩,?_,zF k2 2⟩;rw[zC k2];rfl
   clear H4 HC4 Hr4 Hd4 hjlo htb4;go_wp2_with fail;clear HK HF4 Hsq Hq HqN HCy Hjlo HR HT HC HP HPa HGp HFw HPk His Hlow HWz HNf HK0
   go_region_law (first|(refine step_append_own rfl (.tmp 25) (.tmp 32) 59 rfl base 104 i0 _ 1 24 Tryz.underlying59 hi0 hz0 hz1 hz2 rfl (by decide) _ _ _ rfl (m1.alloc _) ⟨w5.heap.size,0,none⟩ 1 1 [.slice oa on oc] rfl rfl (cells_new w5 #[_] _ _ rfl) (by simp[Value.oneCell']) (by unfold maxLen;omega) (by omega) (by simp;omega) ?_;intro fv' w6 hown6 hgr6;obtain⟨g',cap',hv',_,_⟩:=own_form hown6 (by omega);subst hv';obtain⟨z0,z2,z2f⟩:=M5.out _ w6 _ hgr6 hown6;have Z0:=hide z0;clear z0 hown6 hgr6)|(go_simp;go_at_call 156;refine(CF.out _ (by first|with_reducible rfl|(rw[IntKind.wrap_i64];omega)|omega)).mono ?_;rintro en w5 ⟨L5,v5,ov,rfl,h5,hr5,ho5,hf5⟩;obtain⟨m1,m2,⟨oa,on,oc,rfl⟩,m4,m6,m5⟩:=HE.out w5 L5 v5 ov h5 hr5 ho5 hf5;have M5:=hide m5;clear m5 h5 hr5 ho5 hf5))
   all_goals
    go_wp2_with fail;obtain⟨q',s',left',L',Cm',c2',v',fv',Pf',e1,e2,e3,e4⟩:=Z0.out;refine⟨⟨q',s',left',L',Cm',c2',v',fv',Pf',by rw[e1,Int.natCast_add],e2,e3,e4⟩,?_⟩;show cyc-((s:Int)+(fr:Int)).toNat<cyc-((s:Int)).toNat;omega
  .have hqe:q=cyc/fr:=by omega
   have hse:s=cyc:=by rw[hsq,hqe];exact HNf.out
   have hlt':¬(s:Int)<cyc:=by omega
   have hfs:=hK.fs;have hlf:=hK.lf;rw[hqe,Nat.sub_self,planJ]at hfs hlf;simp only[List.map_nil,List.append_nil]at hfs hlf;have hgo:(decide (Cm.length=0)&&decide (L.length=0))=goesJ js ps cyc fr:=by
    rw[hK.inv.done];unfold goesJ;rw[←hlf]
   obtain⟨ca,ccap,hc2v,_⟩:=hK.com;obtain⟨va,vcap,hvv,_,_⟩:=hK.pl.hp.own.len;have hpl:=hK.pl.hp.blk;rw[hc2v,hvv]at hpl;have CD:Hid (Calls Tryz.prog 157 #[.pointer (some ⟨wz.heap.size+2,0,none⟩)] wr.drew fun e w'=>e=.returned (.bool (goesJ js ps cyc fr))/\w'=wr.drew):=by
    have:=allDone_any (wz.heap.size+2) _ _ ca va Cm.length L.length ccap vcap wr.drew hpl;rw[hgo]at this;exact this
   obtain⟨fa,fc,hfv⟩:=own_slice hK.fm.1;subst hfv;have x1:wr.cell? ⟨w.heap.size+1,1,none⟩=some (.int .i64 fr):=by rw[zC hK.tb];rfl
   have x2:wr.cell? ⟨w.heap.size+1,2,none⟩=some (.slice fa Pf.length fc):=by rw[zC hK.tb];rfl
   have xf:=zF hK.tb;have htb:=hK.tb;have hbw:w.heap.size<=base:=Nat.le_trans (by omega) (Nat.le_of_lt hK.pl.low.p);have HRes:Hid (∀W:World,Frm (fun k=>k=w.heap.size+1) wr W->FrM W w.heap.size (.slice fa Pf.length fc) Pf/\Below w.heap.size w W):=fun W hW=>by
    have hk:∀ {e:TypeId} {size:Nat} {u:Value} {n:Nat} {xs:List Value},wr.ownsRow base e size u n xs->W.ownsRow w.heap.size e size u n xs:=by
     intro e size u n xs ho;refine⟨ho.1,?_⟩;rcases ho.2 with h3|⟨g',cap',cur,h3,h4,h5,h6⟩
     .exact .inl h3
     .have:=hK.pl.low.p;exact .inr ⟨g',cap',cur,h3,by omega,hW.blk h5 (by omega),h6⟩
    exact⟨⟨hk hK.fm.1,fun p hp=>hk (hK.fm.2 p hp)⟩,hK.b.trans (hW.below hK.b.size (fun k hk' e=>by omega))⟩
   have HFs:Hid (Pf.map Prod.snd=(tabJ (zJ cyc 0 (l.map Prod.fst)) ps cyc fr).fs):=by
    unfold Hid tabJ;rw[←His.out];exact hfs
   have HGo:Hid (goesJ js ps cyc fr=goesJ (zJ cyc 0 (l.map Prod.fst)) ps cyc fr):=by
    unfold Hid;rw[←His.out]
   clear hK hfs hlf hgo hpl hc2v hvv hqe hse hsq hqN;generalize goesJ js ps cyc fr=gg at *;go_wp2_with fail
   go_region_with (go_at_call 157;refine CD.out.mono ?_;rintro en w' ⟨rfl,hw'⟩;replace hw':=hw'.symm;subst hw')
   all_goals
    go_wp2_with fail;have hfW:Frm (fun k=>k=w.heap.size+1) wr ((((wr.setCell ⟨w.heap.size+1,0,none⟩ (.int .i64 cyc)).setCell ⟨w.heap.size+1,1,none⟩ (.int .i64 fr)).setCell ⟨w.heap.size+1,2,none⟩ (.slice fa Pf.length fc)).drew):=((((Frm.refl (fun k=>k=w.heap.size+1) wr).setCell (p:=⟨w.heap.size+1,0,none⟩) rfl _).setCell (p:=⟨w.heap.size+1,1,none⟩) rfl _).setCell (p:=⟨w.heap.size+1,2,none⟩) rfl _).drew;have y0:∀o,((((wr.setCell ⟨w.heap.size+1,0,none⟩ (.int .i64 cyc)).setCell ⟨w.heap.size+1,1,none⟩ (.int .i64 fr)).setCell ⟨w.heap.size+1,2,none⟩ (.slice fa Pf.length fc)).drew).cell? ⟨w.heap.size+1,o,none⟩=#[Value.int .i64 cyc,.int .i64 fr,.slice fa Pf.length fc][o]? := fun o=>zC (w:=(((wr.setCell ⟨w.heap.size+1,0,none⟩ (.int .i64 cyc)).setCell ⟨w.heap.size+1,1,none⟩ (.int .i64 fr)).setCell ⟨w.heap.size+1,2,none⟩ (.slice fa Pf.length fc)).drew) (by
     have:=zS (zS (zS htb 0 (.int .i64 cyc)) 1 (.int .i64 fr)) 2 (.slice fa Pf.length fc);exact this) o
    obtain⟨r1,r2⟩:=HRes.out _ hfW;generalize ((((wr.setCell ⟨w.heap.size+1,0,none⟩ (.int .i64 cyc)).setCell ⟨w.heap.size+1,1,none⟩ (.int .i64 fr)).setCell ⟨w.heap.size+1,2,none⟩ (.slice fa Pf.length fc)).drew)=W at *;refine bodyPost_ret (v:=.tuple #[.agg #[.int .i64 cyc,.int .i64 fr,.slice fa Pf.length fc],.bool gg]) (by simp[results,Tryz.results129,go_sem,y0]) rfl ?_;exact⟨_,Pf,fa,fc,rfl,by rw[HGo.out],r1,HFs.out,r2⟩
structure SetAt (l:List (Tk×Nat)) (cyc g:Nat) (pa:Option Addr) (ps:List Pr) (w:World):Prop where
 hg:g<w.heap.size
 hr:RowPT w g l
 hn:l.length<=6
 hts:TsOk (l.map Prod.fst) cyc
 hcy:cycI (l.map Prod.fst)=cyc
 hp:PrOk l cyc ps
 hpa:PairsAt w pa ps
 hgp:∀gp,pa=some ⟨gp,0,none⟩->gp<w.heap.size
section
variable {l:List (Tk×Nat)} {cyc g:Nat} {pa:Option Addr} {ps:List Pr} {w w':World}
theorem SetAt.keep (h:SetAt l cyc g pa ps w)(hb:Below w.heap.size w w'):SetAt l cyc g pa ps w':=
 ⟨Nat.lt_of_lt_of_le h.hg hb.size,h.hr.keep (hb.block g h.hg),h.hn,h.hts,h.hcy,h.hp,h.hpa.keep (Below.frm hb) (fun gp hg' hX=>by have:=h.hgp gp hg';omega),fun gp hg'=>Nat.lt_of_lt_of_le (h.hgp gp hg') hb.size⟩
theorem SetAt.plan (h:SetAt l cyc g pa ps w)(cap pc fr:Nat)(hfr:1<=fr)(hdv:cyc%fr=0):
  Calls Tryz.prog 129 #[.agg #[.slice (some ⟨g,0,none⟩) l.length cap,.slice pa ps.length pc],.int .i64 fr] w (PlanOut l cyc fr ps w):=
 plan_any l cyc fr g cap pa pc ps w h.hg h.hr h.hn h.hts h.hcy h.hp h.hpa h.hgp hfr hdv
theorem SetAt.cycle (h:SetAt l cyc g pa ps w)(cap pc:Nat):
  Calls Tryz.prog 128 #[.agg #[.slice (some ⟨g,0,none⟩) l.length cap,.slice pa ps.length pc]] w fun e w'=>e=.returned (.int .i64 cyc)/\Below w.heap.size w w':=by
 have hPk:∀k,k<l.length->1<=(lk l k).1.P/\(lk l k).1.P<=60:=fun k hk=>by
  have hm:(lk l k).1∈l.map Prod.fst:=by
   unfold lk;rw[List.getD_eq_getElem?_getD,List.getElem?_eq_getElem hk];exact List.mem_map.2 ⟨_,List.getElem_mem _,rfl⟩
  have h5:=h.hts.each _ hm;have hc1:=h.hts.c1;have hc2:=h.hts.c2;have h6:(lk l k).1.P<=cyc:=Nat.le_of_dvd (by omega) (Nat.dvd_of_mod_eq_zero h5.2.1);omega
 have:=cyc_any l g cap pa ps.length pc w h.hg h.hr h.hn hPk (by rw[h.hcy];have:=h.hts.c1;omega);rw[h.hcy]at this;exact this
end
def WideOut (l:List (Tk×Nat)) (cyc:Nat) (ps:List Pr) (w:World) (en:Ending) (w':World):Prop:=
 ∃(c0 f0:Nat) (Pf:List (Value×List Sl)) (a:Option Addr) (n c:Nat),en=.returned (.tuple #[.agg #[.int .i64 c0,.int .i64 f0,.slice a n c],.bool (decide (0<wideJ (zJ cyc 0 (l.map Prod.fst)) ps cyc cyc))])/\Below w.heap.size w w'/\
  (0<wideJ (zJ cyc 0 (l.map Prod.fst)) ps cyc cyc->c0=cyc/\f0=wideJ (zJ cyc 0 (l.map Prod.fst)) ps cyc cyc/\n=Pf.length/\FrM w' w.heap.size (.slice a Pf.length c) Pf/\Pf.map Prod.snd=(tabJ (zJ cyc 0 (l.map Prod.fst)) ps cyc f0).fs)
structure WdW (js:List Jb) (ps:List Pr) (cyc:Nat) (w:World) (cap:Nat) (S:Array Value) (gg:Bool) (f:Nat) (c0 f0:Nat) (a:Option Addr) (n c:Nat) (Pf:List (Value×List Sl)) (wr:World):Prop where
 b:Below w.heap.size w wr
 s:wr.heap[w.heap.size]? =some (.cells S 84 (0,0))
 t:wr.heap[w.heap.size+1]? =some (.cells #[.int .i64 c0,.int .i64 f0,.slice a n c] 61 (0,0))
 le:f<=cyc
 no:gg=false->wideJ js ps cyc cyc=wideJ js ps cyc f
 ok:gg=true->0<wideJ js ps cyc cyc/\c0=cyc/\f0=wideJ js ps cyc cyc/\n=Pf.length/\FrM wr (w.heap.size+2) (.slice a Pf.length c) Pf/\Pf.map Prod.snd=(tabJ js ps cyc f0).fs
theorem planWidest_any (l:List (Tk×Nat))(cyc g cap:Nat)(pa:Option Addr)(pc:Nat)(ps:List Pr)(w:World)(h:SetAt l cyc g pa ps w):
  Calls Tryz.prog 85 #[.agg #[.slice (some ⟨g,0,none⟩) l.length cap,.slice pa ps.length pc]] w (WideOut l cyc ps w):=by
 have hc1:=h.hts.c1;have hc2:=h.hts.c2;have HS:Hid (((w.alloc (.cells #[.slice (some ⟨g,0,none⟩) l.length cap,.slice pa ps.length pc] 84)).alloc (.cells #[.int .i64 0,.int .i64 0,.slice none 0 0] 61)).heap[w.heap.size]? =some (.cells #[.slice (some ⟨g,0,none⟩) l.length cap,.slice pa ps.length pc] 84 (0,0))):=by
  unfold Hid;rw[Below.heap_alloc _ _ _ (by simp)];exact zW _ _ _
 have HT:Hid (((w.alloc (.cells #[.slice (some ⟨g,0,none⟩) l.length cap,.slice pa ps.length pc] 84)).alloc (.cells #[.int .i64 0,.int .i64 0,.slice none 0 0] 61)).heap[w.heap.size+1]? =some (.cells #[.int .i64 0,.int .i64 0,.slice none 0 0] 61 (0,0))):=by
  have:=zW (w.alloc (.cells #[.slice (some ⟨g,0,none⟩) l.length cap,.slice pa ps.length pc] 84)) #[.int .i64 0,.int .i64 0,.slice none 0 0] 61;unfold Hid;simpa using this
 have HW:=hide (((Below.refl _ w).alloc (Nat.le_refl _) (.cells #[.slice (some ⟨g,0,none⟩) l.length cap,.slice pa ps.length pc] 84)).alloc (by simp) (.cells #[.int .i64 0,.int .i64 0,.slice none 0 0] 61));have H:=hide h;have s0:=zC HS.out;clear h;go_enter Tryz.func85,Tryz.ntmps85;go_wp2_with fail;generalize (w.alloc (.cells #[.slice (some ⟨g,0,none⟩) l.length cap,.slice pa ps.length pc] 84)).alloc (.cells #[.int .i64 0,.int .i64 0,.slice none 0 0] 61)=wz at *;refine((H.out.keep HW.out).cycle cap pc).mono ?_;rintro en w1 ⟨rfl,hb1⟩;have HK:Hid (WdW (zJ cyc 0 (l.map Prod.fst)) ps cyc w cap #[.slice (some ⟨g,0,none⟩) l.length cap,.slice pa ps.length pc] false cyc 0 0 none 0 0 [] w1):=
  ⟨HW.out.trans (hb1.mono HW.out.size),zK HS.out hb1,by exact zK HT.out hb1,Nat.le_refl _,fun _=>rfl,fun e=>by simp at e⟩
 clear hb1 HS HT HW s0;go_wp2_with fail
 go_loopw [3,5] (fun gv fv wr=>∃(f:Nat) (gg:Bool) (c0 f0:Nat) (a:Option Addr) (n c:Nat) (Pf:List (Value×List Sl)),gv=.bool gg/\fv=.int .i64 f/\WdW (zJ cyc 0 (l.map Prod.fst)) ps cyc w cap #[.slice (some ⟨g,0,none⟩) l.length cap,.slice pa ps.length pc] gg f c0 f0 a n c Pf wr) (fun _ fv _=>(intOf fv).toNat)
 case atStart=>exact⟨cyc,false,0,0,none,0,0,[],rfl,rfl,HK.out⟩
 case round=>
  clear HK;obtain⟨f,gg,c0,f0,a,n,c,Pf,rfl,rfl,hK⟩:=hrel;by_cases hf:1<=f/\gg=false
  .obtain⟨hf1,rfl⟩:=hf;have hf1':(1:Int)<=f:=by omega
   have hf1'':¬(f:Int)=0:=by omega
   have s0:wr.cell? ⟨w.heap.size,0,none⟩=some (.slice (some ⟨g,0,none⟩) l.length cap):=by rw[zC hK.s];rfl
   have s1:wr.cell? ⟨w.heap.size,1,none⟩=some (.slice pa ps.length pc):=by rw[zC hK.s];rfl
   obtain⟨f',rfl⟩:∃f',f=f'+1:=⟨f-1,by omega⟩;have hle:f'+1<=cyc:=hK.le;have hmod:(cyc:Int)%((f':Int)+1)=((cyc%(f'+1):Nat):Int):=by rw[Int.natCast_emod];rfl
   by_cases hd:cyc%(f'+1)=0
   .have hd':(cyc:Int)%((f':Int)+1)=0:=by rw[hmod,hd];rfl
    clear hmod;have CP:=hide ((H.out.keep hK.b).plan cap pc (f'+1) hf1 hd);rw[Int.natCast_add]at CP;have HK:=hide hK;clear hK;go_wp2_with fail;refine CP.out.mono ?_;rintro en w2 ⟨fv,Pf',a',c',rfl,rfl,hF,hfs,hb2⟩;have hT2:=zK HK.out.t hb2;have hS2:=zK HK.out.s hb2;have t0:=zC hT2;have tf:=zF hT2;have hsz:=zL HK.out.t;have HN:Hid (WdW (zJ cyc 0 (l.map Prod.fst)) ps cyc w cap #[.slice (some ⟨g,0,none⟩) l.length cap,.slice pa ps.length pc] (goesJ (zJ cyc 0 (l.map Prod.fst)) ps cyc (f'+1)) f' cyc (f'+1) a' Pf'.length c' Pf' (((w2.setCell ⟨w.heap.size+1,0,none⟩ (.int .i64 cyc)).setCell ⟨w.heap.size+1,1,none⟩ (.int .i64 ((f':Int)+1))).setCell ⟨w.heap.size+1,2,none⟩ (.slice a' Pf'.length c'))):=by
     have hw:wideJ (zJ cyc 0 (l.map Prod.fst)) ps cyc cyc=if cyc%(f'+1)=0/\goesJ (zJ cyc 0 (l.map Prod.fst)) ps cyc (f'+1)=true then f'+1 else wideJ (zJ cyc 0 (l.map Prod.fst)) ps cyc f':=by
      rw[HK.out.no rfl,wideJ]
     refine⟨(((HK.out.b.trans (hb2.mono HK.out.b.size)).setCell (p:=⟨w.heap.size+1,0,none⟩) (by show w.heap.size<=w.heap.size+1;omega) _).setCell (p:=⟨w.heap.size+1,1,none⟩) (by show w.heap.size<=w.heap.size+1;omega) _).setCell (p:=⟨w.heap.size+1,2,none⟩) (by show w.heap.size<=w.heap.size+1;omega) _,?_,?_,by have:=HK.out.le;omega,fun e=>?_,fun e=>?_⟩
     .have hfr:Frm (fun k=>k=w.heap.size+1) w2 (((w2.setCell ⟨w.heap.size+1,0,none⟩ (.int .i64 cyc)).setCell ⟨w.heap.size+1,1,none⟩ (.int .i64 ((f':Int)+1))).setCell ⟨w.heap.size+1,2,none⟩ (.slice a' Pf'.length c')):=(((Frm.refl (fun k=>k=w.heap.size+1) w2).setCell (p:=⟨w.heap.size+1,0,none⟩) rfl _).setCell (p:=⟨w.heap.size+1,1,none⟩) rfl _).setCell (p:=⟨w.heap.size+1,2,none⟩) rfl _;exact hfr.blk hS2 (by omega)
     .rw[zS (zS (zS hT2 0 _) 1 _) 2 _];rfl
     .rw[hw,if_neg (by rw[e];simp)]
     .rw[hw,if_pos ⟨hd,e⟩];exact⟨by omega,rfl,rfl,rfl,(((hF.setLow hsz 0 _).setLow hsz 1 _).setLow hsz 2 _).weak (by omega),hfs⟩
    clear hF hfs hb2 hT2 hS2 HK;go_wp2_with fail;refine⟨⟨f',_,cyc,f'+1,a',Pf'.length,c',Pf',rfl,?_,HN.out⟩,?_⟩
    .congr 1
    .simp only[intOf];omega
   .have hd':¬(cyc:Int)%((f':Int)+1)=0:=by rw[hmod];omega
    clear hmod;have HK:=hide hK;clear hK;go_wp2_with fail;refine⟨⟨f',false,c0,f0,a,n,c,Pf,rfl,?_,⟨HK.out.b,HK.out.s,HK.out.t,by have:=HK.out.le;omega,fun _=>?_,fun e=>by simp at e⟩⟩,?_⟩
    .congr 1
    .rw[HK.out.no rfl,wideJ,if_neg (fun e=>hd e.1)]
    .simp only[intOf];omega
  .have hfin:(decide (0<wideJ (zJ cyc 0 (l.map Prod.fst)) ps cyc cyc))=gg:=by
    cases gg with
    | true=>simpa using (hK.ok rfl).1
    | false=>
     have hf0:f=0:=by simp at hf;omega
     rw[hK.no rfl,hf0];rfl
   have HFin:=hide hfin;have x0:wr.cell? ⟨w.heap.size+1,0,none⟩=some (.int .i64 c0):=by rw[zC hK.t];rfl
   have x1:wr.cell? ⟨w.heap.size+1,1,none⟩=some (.int .i64 f0):=by rw[zC hK.t];rfl
   have x2:wr.cell? ⟨w.heap.size+1,2,none⟩=some (.slice a n c):=by rw[zC hK.t];rfl
   have xf:=zF hK.t;have hsz:=zL hK.t;have HRes:Hid (∀W:World,W=((wr.setCell ⟨w.heap.size+1,0,none⟩ (.int .i64 c0)).setCell ⟨w.heap.size+1,1,none⟩ (.int .i64 f0)).setCell ⟨w.heap.size+1,2,none⟩ (.slice a n c)->(∀o,W.cell? ⟨w.heap.size+1,o,none⟩=#[Value.int .i64 c0,.int .i64 f0,.slice a n c][o]?)/\WideOut l cyc ps w (.returned (.tuple #[.agg #[.int .i64 c0,.int .i64 f0,.slice a n c],.bool gg])) W):=by
    rintro W rfl;refine⟨fun o=>zC (by rw[zS (zS (zS hK.t 0 _) 1 _) 2 _];rfl) o,c0,f0,Pf,a,n,c,by rw[hfin],((hK.b.setCell (p:=⟨w.heap.size+1,0,none⟩) (by show w.heap.size<=w.heap.size+1;omega) _).setCell (p:=⟨w.heap.size+1,1,none⟩) (by show w.heap.size<=w.heap.size+1;omega) _).setCell (p:=⟨w.heap.size+1,2,none⟩) (by show w.heap.size<=w.heap.size+1;omega) _,fun e=>?_⟩;have hgg:gg=true:=by rw[←hfin];simpa using e
    obtain⟨k1,k2,k3,k4,k5,k6⟩:=hK.ok hgg;exact⟨k2,k3,k4,(((k5.setLow (by omega) 0 _).setLow (by omega) 1 _).setLow (by omega) 2 _).weak (by omega),k6⟩
   clear hK hfin HFin
   cases gg with
   | true=>
    go_wp2_with fail
    all_goals
     obtain⟨y0,y1⟩:=HRes.out _ rfl;generalize ((wr.setCell ⟨w.heap.size+1,0,none⟩ (.int .i64 c0)).setCell ⟨w.heap.size+1,1,none⟩ (.int .i64 f0)).setCell ⟨w.heap.size+1,2,none⟩ (.slice a n c)=W at *;exact bodyPost_ret (by simp[results,Tryz.results85,go_sem,y0]) rfl y1
   | false=>
    have hf0:f=0:=by simp at hf;omega
    subst hf0;go_wp2_with fail
    all_goals
     obtain⟨y0,y1⟩:=HRes.out _ rfl;generalize ((wr.setCell ⟨w.heap.size+1,0,none⟩ (.int .i64 c0)).setCell ⟨w.heap.size+1,1,none⟩ (.int .i64 f0)).setCell ⟨w.heap.size+1,2,none⟩ (.slice a n c)=W at *;exact bodyPost_ret (by simp[results,Tryz.results85,go_sem,y0]) rfl y1
end
end Go.Proofs.YtbdffcjganlblaaGreatDoor
