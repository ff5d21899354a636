import Derived.Test.YtbdffcjganlblaaGreatDoorARunBtoPrA
import Derived.Test.YtbdffcjganlblaaGreatDoorARnMtoRefA
set_option linter.unusedVariables false
set_option linter.unusedSimpArgs false
set_option maxRecDepth 100000
set_option maxHeartbeats 16000000
namespace Go.Proofs.YtbdffcjganlblaaGreatDoor
structure PZ where
 left:Nat->Nat
 want:Nat->Int
 beg:Nat
 out:List UInt8
def setN (L:Nat->Nat) (k v:Nat):Nat->Nat:=fun j=>if j=k then v else L j
def prBegin (l:List FSl) (cs:List Int) (k:Nat) (x:PZ):PZ:=⟨setN x.left k (budK l k),setL x.want k (wantsL cs x.beg (budK l k)),x.beg+1,x.out⟩
def prGive (l:List FSl) (k:Nat) (x:PZ):PZ:=
 if x.want k=0 then ⟨setN x.left k (x.left k-1),x.want,x.beg,x.out++[46]⟩
 else ⟨setN x.left k (x.left k-1),setL x.want k (x.want k-1),x.beg,x.out++[nmK l k]++if x.left k-1=0/\0<x.want k-1 then [33,nmK l k] else []⟩
def prTick (l:List FSl) (cs:List Int) (U:Option Nat) (x:PZ):PZ:=
 match U with
 | none=>⟨x.left,x.want,x.beg,x.out++[46]⟩
 | some k=>prGive l k (if x.left k=0 then prBegin l cs k x else x)
def unitL (l:List FSl) (fr p:Nat):Option Nat:=(atL l fr p).map (zM l)
def prT (l:List FSl) (cyc fr:Nat) (cs:List Int):Nat->PZ
 | 0=>⟨fun _=>0,fun _=>0,0,[]⟩
 | u+1=>prTick l cs (unitL l fr (u%cyc)) (prT l cyc fr cs u)
def usedK (l:List FSl) (fr i p k:Nat):Nat:=hadK l k i+if i<l.length/\zM l i=k then p-startI l fr i else 0
def begK (l:List FSl) (fr i p:Nat):Nat:=if i<l.length/\startI l fr i<p then cntTo l (i+1) else cntTo l i
structure PI (l:List FSl) (fr c p i:Nat) (x:PZ):Prop where
 i1:i<=l.length
 i2:∀k,k<i->stopI l fr k<=p
 i3:i<l.length->p<stopI l fr i
 beg:x.beg=c*cntTo l l.length+begK l fr i p
 left:∀k,k<l.length->x.left (zM l k)=if usedK l fr i p (zM l k)=0 then 0 else budK l (zM l k)-usedK l fr i p (zM l k)
theorem PI.none {l:List FSl}{cyc fr:Nat}(G:Goes l cyc fr){c p i:Nat}{x:PZ}(h:PI l fr c p i x)(hg:i<l.length->p<startI l fr i)(o:List UInt8):atL l fr p=none/\PI l fr c (p+1) i ⟨x.left,x.want,x.beg,o⟩/\∀k,usedK l fr i (p+1) k=usedK l fr i p k:=by
 have hu:∀k,usedK l fr i (p+1) k=usedK l fr i p k:=by
  intro k;unfold usedK;by_cases hc:i<l.length/\zM l i=k
  .have:=hg hc.1;rw[if_pos hc,if_pos hc];omega
  .rw[if_neg hc,if_neg hc]
 refine⟨?_,⟨h.i1,fun k hk=>by have:=h.i2 k hk;omega,fun hi=>by have:=hg hi;have:=G.start_fin hi;omega,?_,?_⟩,hu⟩
 .apply at_none;intro k hk h1 h2;rcases Nat.lt_or_ge k i with h3|h3
  .have:=h.i2 k h3;omega
  .have h4:=hg (by omega);rcases Nat.lt_or_ge i k with h5|h5
   .have:=G.lt h5 hk;have:=G.start_fin (i:=i) (by omega);omega
   .have:k=i:=by omega
    subst this;omega
 .rw[h.beg];unfold begK;by_cases hi:i<l.length
  .have:=hg hi;rw[if_neg (by omega),if_neg (by omega)]
  .rw[if_neg (by omega),if_neg (by omega)]
 .intro k hk;rw[hu];exact h.left k hk
theorem used_next {l:List FSl}{fr:Nat}{p i:Nat}(hi:i<l.length)(h1:startI l fr i<=p)(h2:p<stopI l fr i){k:Nat}(hk:k<l.length):
  usedK l fr i (p+1) (zM l k)=usedK l fr i p (zM l k)+if zM l i=zM l k then 1 else 0:=by
 unfold usedK;by_cases h:zM l i=zM l k
 .rw[if_pos ⟨hi,h⟩,if_pos ⟨hi,h⟩,if_pos h];omega
 .rw[if_neg (fun x=>h x.2),if_neg (fun x=>h x.2),if_neg h]
theorem used_end {l:List FSl}{cyc fr:Nat}(G:Goes l cyc fr){i:Nat}(hi:i<l.length){k:Nat}(hk:k<l.length):usedK l fr (i+1) (stopI l fr i) (zM l k)=usedK l fr i (stopI l fr i) (zM l k):=by
 unfold usedK;rw[hadK_next hk hi];by_cases h:zM l i=zM l k
 .rw[if_pos h,if_pos (show i<l.length/\zM l i=zM l k from ⟨hi,h⟩)];have:stopI l fr i-startI l fr i=(fsk l i).2.bud:=by unfold stopI;omega
  rw[this];split
  .rename_i hc;have:=G.next hc.1;omega
  .omega
 .rw[if_neg h,if_neg (show ¬(i<l.length/\zM l i=zM l k) from fun x=>h x.2)];split
  .rename_i hc;have:=G.next hc.1;omega
  .omega
theorem used_lt {l:List FSl}{fr:Nat}{p i:Nat}(hi:i<l.length)(h1:startI l fr i<=p)(h2:p<stopI l fr i):usedK l fr i p (zM l i)<budK l (zM l i):=by
 have h3:=hadK_next (q:=i) hi hi;rw[if_pos rfl]at h3;have h4:=hadK_le (q:=i+1) hi hi;unfold usedK;rw[if_pos ⟨hi,rfl⟩];unfold stopI at h2;omega
theorem had_zero {l:List FSl}{cyc fr:Nat}(G:Goes l cyc fr){i:Nat}(hi:i<l.length):hadK l (zM l i) i=0↔jobI l (zM l i)=i:=by
 obtain⟨_,h2,h3,h4⟩:=jobI_num hi;constructor
 .intro h;rcases Nat.lt_or_ge (jobI l (zM l i)) i with h5|h5
  .exfalso;have a1:=hadK_next (i:=i) (q:=jobI l (zM l i)) hi (by omega);have a2:zM l (jobI l (zM l i))=zM l i:=((sameJ_iff hi (by omega)).2 h3).symm;rw[if_pos a2]at a1;have a3:=G.bud (jobI l (zM l i)) (by omega);have a4:=hadK_mono hi (jobI l (zM l i)+1) (i-(jobI l (zM l i)+1)) (by omega);rw[show jobI l (zM l i)+1+(i-(jobI l (zM l i)+1))=i by omega]at a4;omega
  .omega
 .intro h;have key:∀q,q<=i->hadK l (zM l i) q=0:=by
   intro q
   induction q with
   | zero=>intro _;rfl
   | succ q ih=>
    intro hq;rw[hadK_next hi (by omega),ih (by omega),if_neg];intro e;exact h4 q (by omega) ((sameJ_iff hi (by omega)).1 e.symm)
  exact key i (Nat.le_refl _)
theorem used_zero {l:List FSl}{cyc fr:Nat}(G:Goes l cyc fr){p i:Nat}(hi:i<l.length)(h1:startI l fr i<=p)(h2:p<stopI l fr i):usedK l fr i p (zM l i)=0↔p=startI l fr (jobI l (zM l i)):=by
 obtain⟨_,a2,_,_⟩:=jobI_num hi;unfold usedK;rw[if_pos ⟨hi,rfl⟩];constructor
 .intro h;have:=(had_zero G hi).1 (by omega);rw[this];omega
 .intro h;have:jobI l (zM l i)=i:=by
   rcases Nat.lt_or_ge (jobI l (zM l i)) i with h5|h5
   .exfalso;have b1:=G.lt h5 hi;have b2:=G.start_fin (i:=jobI l (zM l i)) (by omega);omega
   .omega
  have h0:=(had_zero G hi).2 this;rw[this]at h;omega
theorem lst_spec (l:List FSl)(n:UInt8)(k:Nat):∀q,(∀i,i<q->isOf (fsk l i) n k->(i:Int)<=(spotTo l n k q).lst)/\((spotTo l n k q).lst=-1\/∃m:Nat,(spotTo l n k q).lst=m/\m<q/\isOf (fsk l m) n k)
 | 0=>⟨fun i h=>by omega,.inl rfl⟩
 | q+1=>by
  obtain⟨a,b⟩:=lst_spec l n k q;by_cases h:isOf (fsk l q) n k
  .rw[spotTo_yes h];refine⟨fun i hi _=>?_,.inr ⟨q,rfl,by omega,h⟩⟩;show (i:Int)<=(q:Int);omega
  .rw[spotTo_no h];refine⟨fun i hi ho=>?_,?_⟩
   .rcases Nat.lt_or_ge i q with h5|h5
    .exact a i h5 ho
    .have:i=q:=by omega
     subst this;exact absurd ho h
   .rcases b with b|⟨m,b1,b2,b3⟩
    .exact .inl b
    .exact .inr ⟨m,b1,by omega,b3⟩
theorem had_all {l:List FSl}{cyc fr:Nat}(G:Goes l cyc fr){i:Nat}(hi:i<l.length):hadK l (zM l i) (i+1)=budK l (zM l i)↔(i:Int)=(spotI l i).lst:=by
 obtain⟨a,b⟩:=lst_spec l (fsk l i).2.nm (fsk l i).2.job l.length;have e:(spotI l i).lst=(spotTo l (fsk l i).2.nm (fsk l i).2.job l.length).lst:=rfl;rw[←e]at a b;have ai:=a i hi ⟨rfl,rfl⟩;constructor
 .intro h;rcases b with b|⟨m,b1,b2,b3⟩
  .omega
  .rcases Nat.lt_or_ge i m with h5|h5
   .exfalso;have hm:zM l m=zM l i:=((sameJ_iff hi b2).2 b3).symm;have c1:=hadK_next (i:=i) (q:=m) hi b2;rw[if_pos hm]at c1;have c2:=G.bud m b2;have c3:=hadK_le (q:=m+1) hi (by omega);have c4:=hadK_mono hi (i+1) (m-(i+1)) (by omega);rw[show i+1+(m-(i+1))=m by omega]at c4;omega
   .omega
 .intro h;have key:∀d,i+1+d<=l.length->hadK l (zM l i) (i+1+d)=hadK l (zM l i) (i+1):=by
   intro d
   induction d with
   | zero=>intro _;rfl
   | succ d ih=>
    intro hd;rw[←Nat.add_assoc,hadK_next hi (by omega),ih (by omega),if_neg,Nat.add_zero];intro e2;have:=a (i+1+d) (by omega) ((sameJ_iff hi (by omega)).1 e2.symm);omega
  have:=key (l.length-(i+1)) (by omega);rw[show i+1+(l.length-(i+1))=l.length by omega,hadK_all]at this;exact this.symm
theorem used_full {l:List FSl}{cyc fr:Nat}(G:Goes l cyc fr){p i:Nat}(hi:i<l.length)(h1:startI l fr i<=p)(h2:p<stopI l fr i):usedK l fr i p (zM l i)+1=budK l (zM l i)↔p+1=stopI l fr i/\(i:Int)=(spotI l i).lst:=by
 have h3:=hadK_next (q:=i) hi hi;rw[if_pos rfl]at h3;have h4:=hadK_le (q:=i+1) hi hi;have h5:=had_all G hi;unfold usedK;rw[if_pos ⟨hi,rfl⟩];unfold stopI at *;constructor
 .intro h;have:p+1=startI l fr i+(fsk l i).2.bud:=by omega
  exact⟨this,h5.1 (by omega)⟩
 .rintro ⟨a,b⟩;have:=h5.2 b;omega
section
open Go.RowKit Go.Maps
def ptrP (P:List Nat) (k:Nat):Value:=.pointer (some ⟨P.getD k 0,0,none⟩)
def uvV (l:List FSl) (fr:Nat) (P:List Nat) (q r u:Nat):Value:=
 match atTo l fr u q with
 | some i=>ptrP P (zM l i)
 | none=>if startI l fr q<=u/\u<startI l fr q+r then ptrP P (zM l q) else .pointer none
def keyK (l:List FSl) (k:Nat):JK:=((fsk l (jobI l k)).2.nm,(fsk l (jobI l k)).2.job)
def keysL (l:List FSl) (n:Nat) (P:List Nat):List (JK×Nat):=(List.range n).map (fun k=>(keyK l k,P.getD k 0))
theorem keyK_num {l:List FSl}{q:Nat}(hq:q<l.length):keyK l (zM l q)=((fsk l q).2.nm,(fsk l q).2.job):=by
 obtain⟨_,_,a,_⟩:=jobI_num hq;unfold keyK;rw[a.1,a.2]
theorem cnt_le {l:List FSl}{q:Nat}(hq:q<=l.length):cntTo l q<=cntTo l l.length:=by
 obtain⟨r,hr⟩:=firsts_pre l q (l.length-q);rw[show q+(l.length-q)=l.length by omega]at hr;rw[←firsts_len,←firsts_len,hr];simp
theorem keyK_inj {l:List FSl}{a b:Nat}(ha:a<cntTo l l.length)(hb:b<cntTo l l.length)(h:keyK l a=keyK l b):a=b:=by
 obtain⟨i,hi,ei,_⟩:=num_surj (l:=l) l.length (Nat.le_refl _) a ha;obtain⟨j,hj,ej,_⟩:=num_surj (l:=l) l.length (Nat.le_refl _) b hb;subst ei ej;rw[keyK_num hi,keyK_num hj]at h;injection h with h1 h2;exact(sameJ_iff hi hj).2 ⟨h1.symm,h2.symm⟩
theorem num_lt_cnt {l:List FSl}{i q:Nat}(hi:i<q)(hq:q<=l.length):zM l i<cntTo l q:=by
 obtain⟨a,b,c,_⟩:=jobI_num (l:=l) (i:=i) (by omega);have e:(spotI l (jobI l (zM l i))).fst=jobI l (zM l i):=spotI_self a c;have h2:cntTo l (jobI l (zM l i)+1)=cntTo l (jobI l (zM l i))+1:=by rw[cntTo,if_pos e]
 have h3:zM l i=cntTo l (jobI l (zM l i)):=by
  conv=>lhs;unfold zM
  rw[a];rfl
 obtain⟨r,hr⟩:=firsts_pre l (jobI l (zM l i)+1) (q-(jobI l (zM l i)+1));rw[show jobI l (zM l i)+1+(q-(jobI l (zM l i)+1))=q by omega]at hr;have h4:=firsts_len l q;rw[hr,List.length_append,firsts_len]at h4;omega
structure UX (w wr:World) (tv:Array Value) (cyc fr:Nat) (l:List FSl) (q r kq bq:Nat) (P:List Nat):Prop where
 hx:wr.heap[w.heap.size]? =some (.cells tv 61 (0,0))
 hu:∃arr,wr.heap[w.heap.size+1]? =some (.cells arr 122 (0,0))/\∀u,u<cyc->arr[u]? =some (uvV l fr P q r u)
 hm:KMap wr (w.heap.size+1+1) (keysL l P.length P)
 hj:∀k,k<P.length->w.heap.size+1+1<P.getD k 0/\wr.heap[P.getD k 0]? =some (.cells (jobV (nmK l k) (hadK l k bq) 0 0) 166 (0,0))
 inj:∀a b,a<P.length->b<P.length->P.getD a 0=P.getD b 0->a=b
 pl:P.length=cntTo l kq
 kl:kq<=l.length
 bel:Below w.heap.size w wr
section
variable {w wr:World} {tv:Array Value} {cyc fr:Nat} {l:List FSl} {q r kq bq:Nat} {P:List Nat}
theorem UX.keep (h:UX w wr tv cyc fr l q r kq bq P){w':World}(hb:Below wr.heap.size wr w'):UX w w' tv cyc fr l q r kq bq P:=by
 obtain⟨arr,h1,h2⟩:=h.hu;exact⟨zK h.hx hb,⟨arr,zK h1 hb,h2⟩,h.hm.keep (hb.block _ h.hm.lt),fun k hk=>⟨(h.hj k hk).1,zK (h.hj k hk).2 hb⟩,h.inj,h.pl,h.kl,h.bel.trans (hb.mono h.bel.size)⟩
theorem UX.drew (h:UX w wr tv cyc fr l q r kq bq P):UX w wr.drew tv cyc fr l q r kq bq P:=⟨h.hx,h.hu,h.hm,h.hj,h.inj,h.pl,h.kl,h.bel.drew⟩
theorem UX.small (h:UX w wr tv cyc fr l q r kq bq P)(hs:∀i,i<l.length->(fsk l i).2.job<=9999):∀x∈keysL l P.length P,x.1.2<=1000000:=by
 intro x hx;obtain⟨k,hk,rfl⟩:=List.mem_map.1 hx;rw[List.mem_range,h.pl]at hk;obtain⟨i,hi,_,e⟩:=num_surj (l:=l) kq h.kl k hk;have:=hs (jobI l k) (by have:=h.kl;omega);show (fsk l (jobI l k)).2.job<=1000000;omega
theorem UX.look_none (h:UX w wr tv cyc fr l q r kq bq P)(hs:∀i,i<l.length->(fsk l i).2.job<=9999)(hq:q<l.length)(hk:kq=q)(hf:jobI l (zM l q)=q):
  (Instr.lookup 162 (.map (some (w.heap.size+1+1))) (keyV ((fsk l q).2.nm,(fsk l q).2.job)) false).run Tryz.prog wr=.ok (.pointer none) wr/\∀x∈keysL l P.length P,x.1≠((fsk l q).2.nm,(fsk l q).2.job):=by
 have hno:∀x∈keysL l P.length P,x.1≠((fsk l q).2.nm,(fsk l q).2.job):=by
  intro x hx e;obtain⟨k,hkm,rfl⟩:=List.mem_map.1 hx;rw[List.mem_range,h.pl,hk]at hkm;obtain⟨i,hi,ei,ej⟩:=num_surj (l:=l) q (by omega) k hkm;have e2:keyK l k=keyK l (zM l q):=by rw[keyK_num hq];exact e
  have:=keyK_inj (l:=l) (a:=k) (b:=zM l q) (Nat.lt_of_lt_of_le hkm (cnt_le (by omega))) (num_lt_cnt hq (Nat.le_refl _)) e2;rw[this,hf]at ej;omega
 refine⟨?_,hno⟩;rcases h.hm.look (h.small hs) ((fsk l q).2.nm,(fsk l q).2.job) (by have:=hs q hq;show (fsk l q).2.job<=1000000;omega) with⟨_,e⟩|⟨j,x,hx,ex,_⟩
 .exact e
 .exact absurd ex (hno x (List.mem_of_getElem? hx))
theorem UX.look_some (h:UX w wr tv cyc fr l q r kq bq P)(hs:∀i,i<l.length->(fsk l i).2.job<=9999)(hq:q<l.length)(hk:zM l q<P.length):
  (Instr.lookup 162 (.map (some (w.heap.size+1+1))) (keyV ((fsk l q).2.nm,(fsk l q).2.job)) false).run Tryz.prog wr=.ok (ptrP P (zM l q)) wr:=by
 rcases h.hm.look (h.small hs) ((fsk l q).2.nm,(fsk l q).2.job) (by have:=hs q hq;show (fsk l q).2.job<=1000000;omega) with⟨hno,_⟩|⟨j,x,hx,ex,e⟩
 .exact absurd (keyK_num hq) (hno (keyK l (zM l q),P.getD (zM l q) 0) (List.mem_map.2 ⟨zM l q,List.mem_range.2 hk,rfl⟩))
 .obtain⟨k,hkm,rfl⟩:=List.mem_map.1 (List.mem_of_getElem? hx);rw[List.mem_range,h.pl]at hkm;have e2:keyK l k=keyK l (zM l q):=by rw[keyK_num hq];exact ex
  have hkk:=h.pl;rw[hkk]at hk;have:=keyK_inj (l:=l) (a:=k) (b:=zM l q) (Nat.lt_of_lt_of_le hkm (cnt_le h.kl)) (Nat.lt_of_lt_of_le hk (cnt_le h.kl)) e2;rw[e,this];rfl
theorem getD_left {P:List Nat}{A k:Nat}(h:k<P.length):(P++[A]).getD k 0=P.getD k 0:=by simp[List.getD_eq_getElem?_getD,List.getElem?_append_left h]
theorem getD_last {P:List Nat}{A:Nat}:(P++[A]).getD P.length 0=A:=by simp[List.getD_eq_getElem?_getD]
theorem keysL_snoc (l:List FSl)(P:List Nat)(A:Nat):keysL l (P++[A]).length (P++[A])=keysL l P.length P++[(keyK l P.length,A)]:=by
 unfold keysL;rw[List.length_append,List.length_singleton,List.range_succ,List.map_append];congr 1
 .refine List.map_congr_left (fun k hk=>?_);rw[getD_left (List.mem_range.1 hk)]
 .simp only[List.map_cons,List.map_nil];rw[getD_last]
theorem uvV_snoc {u A:Nat}(hq:q<=l.length)(hp:P.length=cntTo l q):uvV l fr (P++[A]) q 0 u=uvV l fr P q 0 u:=by
 unfold uvV;rcases atTo_spec l fr u q with⟨e,_⟩|⟨i,e,hi,_⟩
 .rw[e];simp only;rw[if_neg (by omega),if_neg (by omega)]
 .rw[e];simp only;unfold ptrP;rw[getD_left];rw[hp];exact num_lt_cnt hi hq
theorem UX.new (G:Goes l cyc fr)(h:UX w wr tv cyc fr l q 0 q q P)(hs:∀i,i<l.length->(fsk l i).2.job<=9999)(hn:l.length<=300)(hq:q<l.length)(hf:jobI l (zM l q)=q):
  ∃w2,(Instr.mapUpdate 162 (.map (some (w.heap.size+1+1))) (keyV ((fsk l q).2.nm,(fsk l q).2.job)) (.pointer (some ⟨wr.heap.size,0,none⟩))).run Tryz.prog (wr.alloc (.cells (jobV (fsk l q).2.nm 0 0 0) 166))=.ok () w2/\
   UX w w2 tv cyc fr l q 0 (q+1) q (P++[wr.heap.size])/\(wr.alloc (.cells (jobV (fsk l q).2.nm 0 0 0) 166)).grownBy w2 (some (w.heap.size+1+1)):=by
 have h1:=h.keep (zN wr (.cells (jobV (fsk l q).2.nm 0 0 0) 166));have hno:=(h1.look_none hs hq rfl hf).2;have hcl:=cntTo_le l q;have hpl:=h.pl;obtain⟨w2,hrun,hkm,hg⟩:=h1.hm.store (h1.small hs) ((fsk l q).2.nm,(fsk l q).2.job) (by have:=hs q hq;show (fsk l q).2.job<=1000000;omega) hno (by simp[keysL];omega) wr.heap.size;refine⟨w2,hrun,?_,hg⟩;have hM:=h.hm.lt;have hnum:zM l q=P.length:=by
  have:=(jobI_num hq).1;rw[hf]at this;rw[hpl];unfold zM;rw[this];rfl
 have hc1:cntTo l (q+1)=cntTo l q+1:=by rw[cntTo,if_pos (by have:=(jobI_num hq).1;rw[hf]at this;exact this)]
 have blk:∀ {X:Nat} {o:Obj},(wr.alloc (.cells (jobV (fsk l q).2.nm 0 0 0) 166)).heap[X]? =some o->X≠w.heap.size+1+1->w2.heap[X]? =some o:=by
  intro X o hX hne;rw[hg.block X (zL hX) (fun e=>hne (by injection e))];exact hX
 obtain⟨arr,hu1,hu2⟩:=h1.hu;refine⟨blk h1.hx (by omega),⟨arr,blk hu1 (by omega),fun u hu=>by rw[uvV_snoc (by omega) hpl];exact hu2 u hu⟩,?_,?_,?_,by simp;omega,hq,h1.bel.grown hg (by have:=h1.bel.size;omega) (fun k hk=>by injection hk with hk;omega)⟩
 .have ek:keyK l P.length=((fsk l q).2.nm,(fsk l q).2.job):=by rw[←hnum,keyK_num hq]
  rw[keysL_snoc,ek];exact hkm
 .intro k hk;simp only[List.length_append,List.length_singleton]at hk;by_cases e:k<P.length
  .obtain⟨a,b⟩:=h1.hj k e;rw[getD_left e];exact⟨a,blk b (by omega)⟩
  .have e2:k=P.length:=by omega
   subst e2;rw[getD_last];refine⟨hM,?_⟩;rw[←hnum,nmK_num hq,(had_zero G hq).2 hf];exact blk (zW wr _ _) (by omega)
 .intro a b ha hb e;simp only[List.length_append,List.length_singleton]at ha hb;have hlt:∀k,k<P.length->P.getD k 0<wr.heap.size:=fun k hk=>zL (h.hj k hk).2;by_cases ea:a<P.length<;>by_cases eb:b<P.length
  .rw[getD_left ea,getD_left eb]at e;exact h.inj a b ea eb e
  .have:b=P.length:=by omega
   subst this;rw[getD_left ea,getD_last]at e;have:=hlt a ea;omega
  .have:a=P.length:=by omega
   subst this;rw[getD_left eb,getD_last]at e;have:=hlt b eb;omega
  .omega
theorem UX.old (h:UX w wr tv cyc fr l q 0 q q P)(hq:q<l.length)(hf:jobI l (zM l q)≠q):UX w wr tv cyc fr l q 0 (q+1) q P:=by
 have hc1:cntTo l (q+1)=cntTo l q:=by rw[cntTo,if_neg (by have:=(jobI_num hq).1;omega)]
 exact⟨h.hx,h.hu,h.hm,h.hj,h.inj,by rw[hc1];exact h.pl,hq,h.bel⟩
theorem UX.job (h:UX w wr tv cyc fr l q r (q+1) bq P):zM l q<P.length/\w.heap.size+1+1<P.getD (zM l q) 0/\wr.heap[P.getD (zM l q) 0]? =some (.cells (jobV (nmK l (zM l q)) (hadK l (zM l q) bq) 0 0) 166 (0,0)):=by
 have hk:zM l q<P.length:=by rw[h.pl];exact num_lt_cnt (Nat.lt_succ_self _) h.kl
 exact⟨hk,h.hj _ hk⟩
theorem UX.bud (h:UX w wr tv cyc fr l q 0 (q+1) q P)(hq:q<l.length):UX w (wr.setCell ⟨P.getD (zM l q) 0,1,none⟩ (.int .i64 ((hadK l (zM l q) q+(fsk l q).2.bud:Nat)))) tv cyc fr l q 0 (q+1) (q+1) P:=by
 obtain⟨hk,hgt,hb⟩:=h.job;obtain⟨arr,hu1,hu2⟩:=h.hu;refine⟨by rw[Below.heap_setCell _ _ _ _ (by show w.heap.size≠P.getD (zM l q) 0;omega)];exact h.hx,⟨arr,by rw[Below.heap_setCell _ _ _ _ (by show w.heap.size+1≠P.getD (zM l q) 0;omega)];exact hu1,hu2⟩,
  h.hm.keep (Below.heap_setCell _ _ _ _ (by show w.heap.size+1+1≠P.getD (zM l q) 0;omega)),?_,h.inj,h.pl,h.kl,h.bel.setCell (by show w.heap.size<=P.getD (zM l q) 0;omega) _⟩
 intro k hkl;refine⟨(h.hj k hkl).1,?_⟩;obtain⟨i,hi,ei,_⟩:=num_surj (l:=l) (q+1) hq k (by rw[←h.pl];exact hkl);have hn:=hadK_next (l:=l) (i:=i) (q:=q) (by omega) hq;rw[ei]at hn;by_cases e:k=zM l q
 .rw[if_pos e.symm]at hn;rw[hn];subst e;rw[zS hb];rfl
 .rw[if_neg (fun x=>e x.symm),Nat.add_zero]at hn;rw[hn,Below.heap_setCell _ _ _ _ (by intro x;exact e (h.inj k _ hkl hk x))];exact(h.hj k hkl).2
theorem at_before (G:Goes l cyc fr)(hq:q<l.length){u:Nat}(h1:startI l fr q<=u):atTo l fr u q=none:=by
 rcases atTo_spec l fr u q with⟨e,_⟩|⟨i,_,hi,hh,_⟩
 .exact e
 .exfalso;obtain⟨a,b⟩:=hh;have:endI l fr (u/fr) i=stopI l fr i:=by rw[←a];rfl
  have:=G.lt hi hq;omega
theorem UX.unit (G:Goes l cyc fr)(h:UX w wr tv cyc fr l q r (q+1) (q+1) P)(hq:q<l.length)(hr:r<(fsk l q).2.bud):UX w (wr.setCell ⟨w.heap.size+1,startI l fr q+r,none⟩ (ptrP P (zM l q))) tv cyc fr l q (r+1) (q+1) (q+1) P:=by
 obtain⟨arr,hu1,hu2⟩:=h.hu;have hM:=h.hm;refine⟨by rw[Below.heap_setCell _ _ _ _ (by show w.heap.size≠w.heap.size+1;omega)];exact h.hx,⟨arr.setIfInBounds (startI l fr q+r) (ptrP P (zM l q)),zS hu1 _ _,?_⟩,
  h.hm.keep (Below.heap_setCell _ _ _ _ (by show w.heap.size+1+1≠w.heap.size+1;omega)),?_,h.inj,h.pl,h.kl,h.bel.setCell (by show w.heap.size<=w.heap.size+1;omega) _⟩
 .intro u hu;have hfin:=G.fin_cyc hq;have hsz:startI l fr q+r<arr.size:=by
   have:=hu2 (startI l fr q+r) (by unfold stopI at hfin;omega);exact(Array.getElem?_eq_some_iff.1 this).1
  by_cases e:u=startI l fr q+r
  .subst e;have:(arr.setIfInBounds (startI l fr q+r) (ptrP P (zM l q)))[startI l fr q+r]? =some (ptrP P (zM l q)):=by simp[hsz]
   rw[this];unfold uvV;rw[at_before G hq (by omega)];simp only;rw[if_pos (by omega)]
  .have:(arr.setIfInBounds (startI l fr q+r) (ptrP P (zM l q)))[u]? =arr[u]? := by
    rw[Array.getElem?_setIfInBounds_ne (fun x=>e x.symm)]
   rw[this,hu2 u hu];unfold uvV
   cases atTo l fr u q with
   | some i=>rfl
   | none=>
    simp only;by_cases e2:startI l fr q<=u/\u<startI l fr q+r
    .rw[if_pos e2,if_pos (by omega)]
    .rw[if_neg e2,if_neg (by omega)]
 .intro k hk;obtain⟨a,b⟩:=h.hj k hk;exact⟨a,by rw[Below.heap_setCell _ _ _ _ (by show P.getD k 0≠w.heap.size+1;omega)];exact b⟩
theorem UX.next (G:Goes l cyc fr)(h:UX w wr tv cyc fr l q (fsk l q).2.bud (q+1) (q+1) P)(hq:q<l.length):UX w wr tv cyc fr l (q+1) 0 (q+1) (q+1) P:=by
 obtain⟨arr,hu1,hu2⟩:=h.hu;refine⟨h.hx,⟨arr,hu1,fun u hu=>?_⟩,h.hm,h.hj,h.inj,h.pl,h.kl,h.bel⟩;rw[hu2 u hu];unfold uvV;rw[atTo]
 cases e:atTo l fr u q with
 | some i=>rfl
 | none=>
  simp only;have hno:∀k,k<q->¬hitI l fr u k:=by
   rcases atTo_spec l fr u q with⟨_,hn⟩|⟨i,e2,_⟩
   .exact hn
   .rw[e]at e2
    cases e2
  have hiff:hitI l fr u q↔(startI l fr q<=u/\u<startI l fr q+(fsk l q).2.bud):=by
   constructor
   .intro hh;obtain⟨a,b⟩:=hh;have:=used_low (l:=l) (fr:=fr) (u:=u) q (by omega) hno;have e3:endI l fr (u/fr) q=stopI l fr q:=by rw[←a];rfl
    refine⟨?_,by rw[e3]at b;exact b⟩;unfold startI;rw[a];exact this
   .rintro ⟨a,b⟩;exact G.hit hq a b
  by_cases e4:hitI l fr u q
  .rw[if_pos (hiff.1 e4),if_pos e4]
  .rw[if_neg (fun x=>e4 (hiff.2 x)),if_neg e4];simp only;rw[if_neg (by omega)]
end
end
theorem left_zero {l:List FSl}{cyc fr c p i:Nat}(G:Goes l cyc fr){x:PZ}(h:PI l fr c p i x)(hi:i<l.length)(h1:startI l fr i<=p):x.left (zM l i)=0↔p=startI l fr (jobI l (zM l i)):=by
 have h2:=h.i3 hi;have h3:=used_lt hi h1 h2;rw[h.left i hi,←used_zero G hi h1 h2];split
 .rename_i e;exact⟨fun _=>e,fun _=>rfl⟩
 .rename_i e;exact⟨fun _=>by omega,fun h'=>absurd h' e⟩
theorem beg_num {l:List FSl}{cyc fr c p i:Nat}(G:Goes l cyc fr){x:PZ}(h:PI l fr c p i x)(hi:i<l.length)(h1:startI l fr i<=p)(h0:x.left (zM l i)=0):x.beg=c*cntTo l l.length+zM l i/\jobI l (zM l i)=i/\p=startI l fr i:=by
 have h2:=h.i3 hi;have e:=(left_zero G h hi h1).1 h0;have e1:jobI l (zM l i)=i:=by
  have:=(used_zero G hi h1 h2).2 e;unfold usedK at this;exact(had_zero G hi).1 (by omega)
 rw[e1]at e;refine⟨?_,e1,e⟩;rw[h.beg];unfold begK;rw[if_neg (by omega)];have:=(jobI_num hi).1;rw[e1]at this;unfold zM;rw[this];rfl
theorem cnt_next {l:List FSl}{i:Nat}(hi:i<l.length):cntTo l (i+1)=cntTo l i+if jobI l (zM l i)=i then 1 else 0:=by
 have h1:=(jobI_num hi).1;rw[cntTo,h1];by_cases h:jobI l (zM l i)=i
 .rw[if_pos h,if_pos (by rw[h])]
 .rw[if_neg h,if_neg (by omega)];rfl
theorem setN_same (L:Nat->Nat)(k v:Nat):setN L k v k=v:=by simp[setN]
theorem setN_other {L:Nat->Nat}{k j:Nat}(v:Nat)(h:j≠k):setN L k v j=L j:=by simp[setN,h]
def prNow (l:List FSl) (cs:List Int) (k:Nat) (x:PZ):PZ:=if x.left k=0 then prBegin l cs k x else x
theorem give_left (l:List FSl)(k:Nat)(x:PZ):(prGive l k x).left=setN x.left k (x.left k-1)/\(prGive l k x).beg=x.beg:=by
 unfold prGive;split<;>exact⟨rfl,rfl⟩
theorem PI.some {l:List FSl}{cyc fr c p i:Nat}(G:Goes l cyc fr){x:PZ}(h:PI l fr c p i x)(hi:i<l.length)(h1:startI l fr i<=p)(cs:List Int):
  atL l fr p=some i/\∃i',PI l fr c (p+1) i' (prGive l (zM l i) (prNow l cs (zM l i) x))/\(prGive l (zM l i) (prNow l cs (zM l i) x)).left (zM l i)=budK l (zM l i)-(usedK l fr i p (zM l i)+1)/\
   ∀k,k<l.length->usedK l fr i' (p+1) (zM l k)=usedK l fr i p (zM l k)+if zM l i=zM l k then 1 else 0:=by
 have h2:=h.i3 hi;have hlt:=used_lt hi h1 h2;have hlz:=left_zero G h hi h1;have huz:=used_zero G hi h1 h2;have hli:=h.left i hi;obtain⟨g1,g2⟩:=give_left l (zM l i) (prNow l cs (zM l i) x);have hnow:(prNow l cs (zM l i) x).left (zM l i)=budK l (zM l i)-usedK l fr i p (zM l i):=by
  unfold prNow;by_cases e:x.left (zM l i)=0
  .rw[if_pos e];have:=huz.2 (hlz.1 e);rw[this];exact setN_same _ _ _
  .rw[if_neg e,hli];rw[if_neg (fun e2=>e (by rw[hli,if_pos e2]))]
 have hoth:∀k,k≠zM l i->(prNow l cs (zM l i) x).left k=x.left k:=by
  intro k hk;unfold prNow;split
  .exact setN_other _ hk
  .rfl
 have hleft:∀k,k<l.length->(prGive l (zM l i) (prNow l cs (zM l i) x)).left (zM l k)=if usedK l fr i (p+1) (zM l k)=0 then 0 else budK l (zM l k)-usedK l fr i (p+1) (zM l k):=by
  intro k hk;rw[g1,used_next hi h1 h2 hk];by_cases e:zM l i=zM l k
  .rw[←e,setN_same,hnow,if_pos rfl,if_neg (by omega)];omega
  .rw[setN_other _ (fun e2=>e e2.symm),if_neg e,hoth _ (fun e2=>e e2.symm)];exact h.left k hk
 have hbeg:(prGive l (zM l i) (prNow l cs (zM l i) x)).beg=c*cntTo l l.length+cntTo l (i+1):=by
  rw[g2];unfold prNow;by_cases e:x.left (zM l i)=0
  .obtain⟨b1,b2,b3⟩:=beg_num G h hi h1 e;rw[if_pos e];show x.beg+1=_;have hb:=h.beg;unfold begK at hb;rw[if_neg (by omega)]at hb;rw[hb,cnt_next hi,if_pos b2];omega
  .rw[if_neg e,h.beg];unfold begK;by_cases e2:startI l fr i<p
   .rw[if_pos ⟨hi,e2⟩]
   .rw[if_neg (fun y=>e2 y.2),cnt_next hi,if_neg]
    .rfl
    .intro e3;apply e;apply hlz.2;rw[e3];omega
 refine⟨G.atu hi h1 h2,?_⟩;have hlast:(prGive l (zM l i) (prNow l cs (zM l i) x)).left (zM l i)=budK l (zM l i)-(usedK l fr i p (zM l i)+1):=by
  rw[g1,setN_same,hnow];omega
 by_cases e:p+1<stopI l fr i
 .refine⟨i,⟨h.i1,fun k hk=>by have:=h.i2 k hk;omega,fun _=>e,?_,hleft⟩,hlast,fun k hk=>used_next hi h1 h2 hk⟩;rw[hbeg];unfold begK;rw[if_pos ⟨hi,by omega⟩]
 .have e1:p+1=stopI l fr i:=by omega
  refine⟨i+1,⟨hi,fun k hk=>?_,fun hi'=>?_,?_,?_⟩,hlast,fun k hk=>by rw[e1,used_end G hi hk,←e1];exact used_next hi h1 h2 hk⟩
  .rcases Nat.lt_or_ge k i with h5|h5
   .have:=h.i2 k h5;omega
   .have:k=i:=by omega
    subst this;omega
  .have:=G.next hi';have:=G.start_fin hi';omega
  .rw[hbeg];unfold begK;rw[if_neg];rintro ⟨y1,y2⟩;have:=G.next y1;omega
  .intro k hk;rw[hleft k hk,e1,used_end G hi hk]
theorem PI.wrap {l:List FSl}{cyc fr c i:Nat}(G:Goes l cyc fr){x:PZ}(h:PI l fr c cyc i x):PI l fr (c+1) 0 0 x:=by
 have hi:i=l.length:=by
  rcases Nat.lt_or_ge i l.length with h5|h5
  .have:=h.i3 h5;have:=G.fin_cyc h5;omega
  .have:=h.i1;omega
 subst hi;refine⟨Nat.zero_le _,fun k hk=>by omega,fun h0=>by have:=G.start_fin h0;omega,?_,?_⟩
 .have hb:=h.beg;unfold begK at hb;rw[if_neg (by omega)]at hb;rw[hb,mul_next];unfold begK;rw[if_neg (by omega)];rfl
 .intro k hk;have:=h.left k hk;have eU:usedK l fr l.length cyc (zM l k)=budK l (zM l k):=by
   unfold usedK;rw[if_neg (fun y=>absurd y.1 (by omega)),Nat.add_zero,hadK_all]
  rw[eU]at this;have h0:usedK l fr 0 0 (zM l k)=0:=by
   unfold usedK;rw[show hadK l (zM l k) 0=0 from rfl,Nat.zero_sub];split<;>rfl
  rw[h0,if_pos rfl,this];split
  .rfl
  .omega
theorem PI.start (l:List FSl){cyc fr:Nat}(G:Goes l cyc fr):PI l fr 0 0 0 ⟨fun _=>0,fun _=>0,0,[]⟩:=by
 refine⟨Nat.zero_le _,fun k hk=>by omega,fun h0=>by have:=G.start_fin h0;omega,?_,?_⟩
 .unfold begK;rw[if_neg (by omega)];simp[cntTo]
 .intro k hk;have h0:usedK l fr 0 0 (zM l k)=0:=by
   unfold usedK;rw[show hadK l (zM l k) 0=0 from rfl,Nat.zero_sub];split<;>rfl
  rw[h0,if_pos rfl]
theorem time_next {cyc:Nat}(hc:1<=cyc)(u:Nat):(u%cyc+1<cyc/\(u+1)%cyc=u%cyc+1/\(u+1)/cyc=u/cyc)\/(u%cyc+1=cyc/\(u+1)%cyc=0/\(u+1)/cyc=u/cyc+1):=by
 have h1:=Nat.mod_lt u (show 0<cyc by omega);have h2:=Nat.div_add_mod u cyc;by_cases h:u%cyc+1<cyc
 .left;have e:u+1=cyc*(u/cyc)+(u%cyc+1):=by omega
  refine⟨h,?_,?_⟩
  .rw[e,Nat.mul_add_mod,Nat.mod_eq_of_lt h]
  .rw[e,Nat.mul_add_div (by omega),Nat.div_eq_of_lt h];rfl
 .right;have e0:u%cyc+1=cyc:=by omega
  have e:u+1=cyc*(u/cyc+1):=by rw[Nat.mul_add];omega
  refine⟨e0,?_,?_⟩
  .rw[e,Nat.mul_mod_right]
  .rw[e,Nat.mul_div_cancel_left _ (by omega)]
theorem PI.tick {l:List FSl}{cyc fr c p i:Nat}(G:Goes l cyc fr){x:PZ}(h:PI l fr c p i x)(cs:List Int):∃i',PI l fr c (p+1) i' (prTick l cs (unitL l fr p) x):=by
 by_cases hg:i<l.length/\startI l fr i<=p
 .obtain⟨a,i',b,_⟩:=PI.some G h hg.1 hg.2 cs;refine⟨i',?_⟩;unfold unitL;rw[a];exact b
 .obtain⟨a,b,_⟩:=PI.none G h (fun hi=>by omega) (x.out++[46]);refine⟨i,?_⟩;unfold unitL;rw[a];exact b
theorem PI.all {l:List FSl}{cyc fr:Nat}(G:Goes l cyc fr)(cs:List Int):∀u,∃i,PI l fr (u/cyc) (u%cyc) i (prT l cyc fr cs u)
 | 0=>⟨0,by rw[Nat.zero_div,Nat.zero_mod];exact PI.start l G⟩
 | u+1=>by
  obtain⟨i,h⟩:=PI.all G cs u;obtain⟨i',h'⟩:=PI.tick G h cs;rcases time_next G.c1 u with⟨_,a,b⟩|⟨e,a,b⟩
  .rw[a,b];exact⟨i',h'⟩
  .rw[a,b];rw[e]at h';exact⟨0,PI.wrap G h'⟩
theorem pr_trc {l:List FSl}{cyc fr:Nat}(G:Goes l cyc fr)(cs:List Int)(hf:∀u i k,0<=begunL l cyc fr cs u i (trcL l cyc fr cs u).1 k):∀u,(prT l cyc fr cs u).want=(trcL l cyc fr cs u).1/\(prT l cyc fr cs u).out=(trcL l cyc fr cs u).2
 | 0=>⟨rfl,rfl⟩
 | u+1=>by
  obtain⟨ih1,ih2⟩:=pr_trc G cs hf u;obtain⟨i,h⟩:=PI.all G cs u;rw[trcL,prT,tickL];by_cases hg:i<l.length/\startI l fr i<=u%cyc
  .obtain⟨hi,h1⟩:=hg;have h2:=h.i3 hi;obtain⟨a,i',b,hlast,_⟩:=PI.some G h hi h1 cs;have hee:=(at_some a).2.2.2;have eu:unitL l fr (u%cyc)=some (zM l i):=by unfold unitL;rw[a];rfl
   rw[eu,a];show (prGive l (zM l i) (prNow l cs (zM l i) (prT l cyc fr cs u))).want=_/\(prGive l (zM l i) (prNow l cs (zM l i) (prT l cyc fr cs u))).out=_;have hb:(prNow l cs (zM l i) (prT l cyc fr cs u)).want=begunL l cyc fr cs u i (trcL l cyc fr cs u).1/\(prNow l cs (zM l i) (prT l cyc fr cs u)).out=(trcL l cyc fr cs u).2:=by
    unfold prNow begunL;have hf:(spotI l i).fst.toNat=jobI l (zM l i):=by rw[(jobI_num hi).1];rfl
    rw[hf];by_cases e:(prT l cyc fr cs u).left (zM l i)=0
    .obtain⟨b1,b2,b3⟩:=beg_num G h hi h1 e;rw[if_pos e,if_pos (by rw[←(left_zero G h hi h1).1 e])];refine⟨?_,ih2⟩;show setL (prT l cyc fr cs u).want (zM l i) (wantsL cs (prT l cyc fr cs u).beg (budK l (zM l i)))=_;rw[ih1,b1,budK_num hi]
    .rw[if_neg e,if_neg (fun e2=>e ((left_zero G h hi h1).2 (by omega)))];exact⟨ih1,ih2⟩
   generalize prNow l cs (zM l i) (prT l cyc fr cs u)=y at *;obtain⟨hb1,hb2⟩:=hb;have hm:((prGive l (zM l i) y).left (zM l i)=0)↔(u%cyc+1=endI l fr (u%cyc/fr) i/\(i:Int)=(spotI l i).lst):=by
    rw[hlast,hee,←used_full G hi h1 h2];have:=used_lt hi h1 h2;omega
   rw[(give_left l (zM l i) y).1,setN_same]at hm;have hy:=hf u i (zM l i);show (prGive l (zM l i) y).want=lessL (zM l i) (begunL l cyc fr cs u i (trcL l cyc fr cs u).1)/\(prGive l (zM l i) y).out=(trcL l cyc fr cs u).2++ranL (fsk l i).2.nm (zM l i) (begunL l cyc fr cs u i (trcL l cyc fr cs u).1)++markL l cyc fr u i (lessL (zM l i) (begunL l cyc fr cs u i (trcL l cyc fr cs u).1));unfold markL;rw[←hb1,←hb2,←nmK_num hi];rw[←hb1]at hy;unfold prGive lessL ranL;by_cases e:y.want (zM l i)=0
   .rw[if_pos e];have e2:¬0<y.want (zM l i):=by omega
    rw[if_neg e2,if_neg e2,if_neg (fun z=>e2 z.2.2)];exact⟨rfl,by simp⟩
   .rw[if_neg e];have e2:0<y.want (zM l i):=by omega
    rw[if_pos e2,if_pos e2];refine⟨rfl,?_⟩;have e3:setL y.want (zM l i) (y.want (zM l i)-1) (zM l i)=y.want (zM l i)-1:=by simp[setL]
    rw[e3];show y.out++[nmK l (zM l i)]++_=y.out++[nmK l (zM l i)]++_;congr 1;by_cases e4:y.left (zM l i)-1=0/\0<y.want (zM l i)-1
    .obtain⟨z1,z2⟩:=hm.1 e4.1;rw[if_pos e4,if_pos ⟨z1,z2,e4.2⟩]
    .rw[if_neg e4,if_neg];rintro ⟨z1,z2,z3⟩;exact e4 ⟨hm.2 ⟨z1,z2⟩,z3⟩
  .obtain⟨a,b,_⟩:=PI.none G h (fun hi=>by omega) ((prT l cyc fr cs u).out++[46]);have eu:unitL l fr (u%cyc)=none:=by unfold unitL;rw[a];rfl
   rw[eu,a];show (prT l cyc fr cs u).want=_/\(prT l cyc fr cs u).out++[46]=_;exact⟨ih1,by rw[ih2]⟩
theorem setL_same (L:Nat->Int)(k:Nat)(v:Int):setL L k v k=v:=by simp[setL]
theorem setL_other {L:Nat->Int}{k j:Nat}(v:Int)(h:j≠k):setL L k v j=L j:=by simp[setL,h]
end Go.Proofs.YtbdffcjganlblaaGreatDoor
