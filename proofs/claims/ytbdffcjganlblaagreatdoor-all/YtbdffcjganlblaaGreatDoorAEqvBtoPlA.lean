import Derived.Test.YtbdffcjganlblaaGreatDoorALawRtoEqvA
import Derived.Test.YtbdffcjganlblaaGreatDoorARunFtoLawC
import Derived.Test.YtbdffcjganlblaaGreatDoorRows
import Derived.Test.YtbdffcjganlblaaGreatDoorARefFtoRefH
set_option linter.unusedVariables false
set_option linter.unusedSimpArgs false
set_option maxRecDepth 100000
set_option maxHeartbeats 16000000
namespace Go.Proofs.YtbdffcjganlblaaGreatDoor
section
open Go.RowKit
theorem findL_F (l:List (Tk×Nat))(c:UInt8):∀(f k:Nat),findL l c f k=findF (l.map Prod.fst) c f k
 | 0,k=>rfl
 | f+1,k=>by rw[findL,findF,lk_fst,findL_F l c f (k+1)]
theorem findF_split (ts:List Tk)(c:UInt8):∀(m r j:Nat),(0<=findF ts c m j->findF ts c (m+r) j=findF ts c m j)/\(findF ts c m j<0->findF ts c (m+r) j=findF ts c r (j+m))
 | 0,r,j=>by
  constructor
  .intro h;simp[findF]at h
  .intro _;simp
 | m+1,r,j=>by
  have ih:=findF_split ts c m r (j+1);rw[show m+1+r=(m+r)+1 by omega,findF,findF];split
  .constructor
   .intro _;rfl
   .intro h;omega
  .constructor
   .exact ih.1
   .intro h;rw[ih.2 h,show j+1+m=j+(m+1) by omega]
theorem find_dup (ts:List Tk)(k:Nat)(hk:k<ts.length):findI ts (tsk ts k).nm<k↔0<=findF ts (tsk ts k).nm k 0:=by
 have hs:=findF_split ts (tsk ts k).nm k (ts.length-k) 0;have hl:=findF_lt ts (tsk ts k).nm k 0;rw[show k+(ts.length-k)=ts.length by omega]at hs;unfold findI;constructor
 .intro h;rcases Int.lt_or_le (findF ts (tsk ts k).nm k 0) 0 with h1|h1
  .rw[hs.2 h1,show ts.length-k=(ts.length-k-1)+1 by omega,findF,show 0+k=k by omega,if_pos rfl]at h;omega
  .exact h1
 .intro h;rw[hs.1 h];omega
theorem timed_pl {t:Tk}{lo hi:Nat}(h:TPl t lo hi)(h0:0<=timedI t):t.q0<(timedI t).toNat/\(timedI t).toNat<hi:=by
 unfold TPl at h;unfold timedI at h0 ⊢;split
 .simp;omega
 .rename_i h1;rw[if_neg h1]at h0;split
  .simp;omega
  .rename_i h2;rw[if_neg h2]at h0;split
   .simp;omega
   .rename_i h3;rw[if_neg h3]at h0;split
    .simp;omega
    .rename_i h4;rw[if_neg h4]at h0;omega
theorem soon_stay {f:Nat×Nat}{e a:Nat}(h1:f.1≠0)(h2:f.2<=a):soon f e a=f:=by
 unfold soon;rw[if_neg];omega
theorem soon_zero (e a:Nat):soon (0,0) e a=(e,a):=by
 unfold soon;rw[if_pos (.inl rfl)]
def pT (l:List (Tk×Nat)):Nat->Option (Nat×Nat)
 | 0=>none
 | k+1=>match pT l k with
  | some x=>some x
  | none=>tE l k
def pP (l:List (Tk×Nat)) (ps:List Pr):Nat->Option (Nat×Nat)
 | 0=>pT l l.length
 | k+1=>match pP l ps k with
  | some x=>some x
  | none=>pE l (psk ps k)
theorem ckT_pT (l:List (Tk×Nat)):∀(f k:Nat),(match pT l k with|some x=>some x|none=>ckT l f k)=pT l (k+f)
 | 0,k=>by
  cases h:pT l k with
  | some x=>simp[h]
  | none=>simp[h,ckT]
 | f+1,k=>by
  have ih:=ckT_pT l f (k+1);rw[show k+(f+1)=k+1+f by omega,←ih,pT]
  cases h:pT l k with
  | some x=>simp
  | none=>
   simp only[ckT]
   cases tE l k<;>rfl
theorem ckP_pP (l:List (Tk×Nat))(ps:List Pr):∀(f k:Nat),(match pP l ps k with|some x=>some x|none=>ckP l ps f k)=pP l ps (k+f)
 | 0,k=>by
  cases h:pP l ps k with
  | some x=>simp[h]
  | none=>simp[h,ckP]
 | f+1,k=>by
  have ih:=ckP_pP l ps f (k+1);rw[show k+(f+1)=k+1+f by omega,←ih,pP]
  cases h:pP l ps k with
  | some x=>simp
  | none=>
   simp only[ckP]
   cases pE l (psk ps k)<;>rfl
theorem checkR_eq (l:List (Tk×Nat))(ps:List Pr):checkR l ps=match pP l ps ps.length with
  | some x=>some x
  | none=>if cycI (l.map Prod.fst)=0 then some (4,0) else none:=by
 have h1:=ckT_pT l l.length 0;have h2:=ckP_pP l ps ps.length 0;simp only[Nat.zero_add,pT,pP]at h1 h2;unfold checkR;rw[←h2,←h1]
 cases ckT l l.length 0 with
 | some x=>simp
 | none=>
  simp only
  cases ckP l ps ps.length 0 with
  | some x=>simp
  | none=>simp
def Same (f:Nat×Nat) (o:Option (Nat×Nat)) (b:Nat):Prop:=
 match o with
 | some x=>f=x/\x.1≠0/\x.2<b
 | none=>f=(0,0)
theorem same_mono {f:Nat×Nat}{o:Option (Nat×Nat)}{b b':Nat}(h:Same f o b)(hb:b<=b'):Same f o b':=by
 unfold Same at h ⊢
 cases o with
 | some x=>exact⟨h.1,h.2.1,by have:=h.2.2;omega⟩
 | none=>exact h
theorem mT_same {l:List (Tk×Nat)}{B:Nat->Nat}(hB:TB2 B (l.map Prod.fst)):∀k,k<=l.length->Same (mT (l.map Prod.fst) k) (pT l k) (B k)
 | 0,_=>rfl
 | k+1,hk=>by
  have ih:=mT_same hB k (by omega);have hpl:=hB k (by rw[List.length_map];omega);have hq:(tsk (l.map Prod.fst) k).q0<B (k+1)/\B k<=(tsk (l.map Prod.fst) k).q0:=by unfold TPl at hpl;omega
  have htm:=timed_pl hpl;have hd:=find_dup (l.map Prod.fst) k (by rw[List.length_map];omega);rw[mT,pT]
  cases h:pT l k with
  | some x=>
   rw[h]at ih;obtain⟨e1,e2,e3⟩:=ih;rw[e1];have hs1:stepT1 (l.map Prod.fst) k x=x:=by
    unfold stepT1;split
    .exact soon_stay e2 (by omega)
    .rfl
   have hs:stepT (l.map Prod.fst) k x=x:=by
    unfold stepT;rw[hs1];split
    .rename_i h0;have:=htm h0;exact soon_stay e2 (by omega)
    .rfl
   rw[hs];exact⟨rfl,e2,by omega⟩
  | none=>
   rw[h]at ih;have e1:mT (l.map Prod.fst) k=(0,0):=ih;rw[e1];simp only;unfold tE stepT stepT1;rw[lk_fst,findL_F];by_cases h1:0<=findF (l.map Prod.fst) (tsk (l.map Prod.fst) k).nm k 0
   .rw[if_pos h1,if_pos (hd.2 h1),soon_zero];split
    .rename_i h0;have:=htm h0;rw[soon_stay (by simp) (by simp;omega)];exact⟨rfl,by simp,hq.1⟩
    .exact⟨rfl,by simp,hq.1⟩
   .rw[if_neg h1,if_neg (fun h=>h1 (hd.1 h))];split
    .rename_i h0;have:=htm h0;rw[soon_zero];exact⟨rfl,by simp,this.2⟩
    .rfl
theorem mP_same {l:List (Tk×Nat)}{ps:List Pr}{b:Nat}{B:Nat->Nat}(h0:Same (mT (l.map Prod.fst) l.length) (pT l l.length) b)(hb:b<=B 0)(hB:PB2 B ps):∀k,k<=ps.length->Same (mP (l.map Prod.fst) ps k) (pP l ps k) (B k)
 | 0,_=>by
  rw[mP,pP,List.length_map];exact same_mono h0 hb
 | k+1,hk=>by
  have ih:=mP_same h0 hb hB k (by omega);have hpl:=hB k (by omega);rw[mP,pP];generalize psk ps k=p at *;have hq:B k<=p.q0/\p.q0<p.q1/\p.q1<B (k+1):=hpl
  cases h:pP l ps k with
  | some x=>
   rw[h]at ih;obtain⟨e1,e2,e3⟩:=ih;rw[e1];have hs1:stepP1 (l.map Prod.fst) p x=x:=by
    unfold stepP1;split
    .exact soon_stay e2 (by omega)
    .rfl
   have hs2:stepP2 (l.map Prod.fst) p x=x:=by
    unfold stepP2;rw[hs1];split
    .exact soon_stay e2 (by omega)
    .rfl
   have hs:stepP (l.map Prod.fst) p x=x:=by
    unfold stepP;rw[hs2];split
    .exact soon_stay e2 (by omega)
    .rfl
   rw[hs];exact⟨rfl,e2,by omega⟩
  | none=>
   rw[h]at ih;have e1:mP (l.map Prod.fst) ps k=(0,0):=ih;rw[e1];simp only;have ef:∀c,findL l c l.length 0=findI (l.map Prod.fst) c:=fun c=>by
    rw[findL_F];unfold findI;rw[List.length_map]
   unfold pE stepP stepP2 stepP1 badPair;simp only[ef,lk_fst];by_cases ha:findI (l.map Prod.fst) p.a<0
   .have ha':¬0<=findI (l.map Prod.fst) p.a:=by omega
    simp only[if_pos ha,ha',decide_false,Bool.false_and,Bool.false_eq_true,if_false,soon_zero];have e:soon (3,p.q0) 3 p.q1=(3,p.q0):=soon_stay (by simp) (by simp;omega);rw[e];have e2:(if findI (l.map Prod.fst) p.b<0 then ((3,p.q0):Nat×Nat) else (3,p.q0))=(3,p.q0):=by split<;>rfl
    rw[e2];exact⟨rfl,by simp,by simp;omega⟩
   .have ha':0<=findI (l.map Prod.fst) p.a:=by omega
    simp only[if_neg ha];by_cases hb':findI (l.map Prod.fst) p.b<0
    .have hb'':¬0<=findI (l.map Prod.fst) p.b:=by omega
     simp only[if_pos hb',hb'',decide_false,Bool.and_false,Bool.false_and,Bool.false_eq_true,if_false,soon_zero];exact⟨rfl,by simp,hq.2.2⟩
    .have hb'':0<=findI (l.map Prod.fst) p.b:=by omega
     simp only[if_neg hb',ha',hb'',decide_true,Bool.true_and];by_cases he:findI (l.map Prod.fst) p.a=findI (l.map Prod.fst) p.b
     .simp only[if_pos he,he,decide_true,Bool.true_or,if_true,soon_zero];exact⟨rfl,by simp,hq.2.2⟩
     .simp only[if_neg he,he,decide_false,Bool.false_or];by_cases hp:p.ap=false/\(tsk (l.map Prod.fst) (findI (l.map Prod.fst) p.a).toNat).P≠(tsk (l.map Prod.fst) (findI (l.map Prod.fst) p.b).toNat).P
      .rw[if_pos hp,if_pos (by simp[hp.1,hp.2]),soon_zero];exact⟨rfl,by simp,hq.2.2⟩
      .rw[if_neg hp,if_neg (by
        intro h;simp at h;exact hp h)]
       rfl
theorem flat_fst (l:List (Tk×Nat)):(l.map Prod.fst).flatMap tLine=l.flatMap tLine1:=by
 rw[List.flatMap_map];rfl
theorem meant_same {l:List UInt8}{ts:List (Tk×Nat)}{ps:List Pr}(h:pSet (zT l)=.ok (ts.map Prod.fst,ps)):∃b,Same (meantI (ts.map Prod.fst) ps) (pP ts ps ps.length) b:=by
 obtain⟨B,B',h1,h2,h3⟩:=pSet_pl h;rw[List.length_map]at h3;exact⟨_,mP_same (mT_same h1 ts.length (Nat.le_refl _)) h3 h2 ps.length (Nat.le_refl _)⟩
theorem knownR_some {l:List UInt8}{ts:List (Tk×Nat)}{ps:List Pr}{f:Nat×Nat}(hl:l.length<=400)(h:pSet (zT l)=.ok (ts.map Prod.fst,ps))(hc:checkR ts ps=some f):knownR l=.error f:=by
 obtain⟨b,hs⟩:=meant_same h;rw[checkR_eq]at hc;unfold knownR;rw[if_neg (by omega),h];simp only
 cases hp:pP ts ps ps.length with
 | some x=>
  rw[hp]at hs hc;obtain⟨e1,e2,_⟩:=hs;simp only[Option.some.injEq]at hc;rw[e1,if_pos e2,hc]
 | none=>
  rw[hp]at hs hc;have e1:meantI (ts.map Prod.fst) ps=(0,0):=hs;rw[e1,if_neg (by simp)];simp only at hc;split at hc
  .rename_i h0;rw[if_pos h0];simp only[Option.some.injEq]at hc;rw[hc]
  .simp at hc
theorem knownR_none {l:List UInt8}{ts:List (Tk×Nat)}{ps:List Pr}(hl:l.length<=400)(h:pSet (zT l)=.ok (ts.map Prod.fst,ps))(hc:checkR ts ps=none):knownR l=.ok (ts.map Prod.fst,ps):=by
 obtain⟨b,hs⟩:=meant_same h;rw[checkR_eq]at hc;unfold knownR;rw[if_neg (by omega),h];simp only
 cases hp:pP ts ps ps.length with
 | some x=>rw[hp]at hc;simp at hc
 | none=>
  rw[hp]at hs hc;have e1:meantI (ts.map Prod.fst) ps=(0,0):=hs;rw[e1,if_neg (by simp)];simp only at hc;split at hc
  .simp at hc
  .rename_i h0;rw[if_neg h0]
theorem prog_err {s:ByteArray}{f:Nat×Nat}(h:progE s f):printR s.data.toList=([],f.1,f.2):=by
 have hsz:s.data.toList.length=s.size:=Array.length_toList;have hk:knownR s.data.toList=.error f:=by
  rcases h with⟨h1,rfl⟩|⟨h1,j,h2,rfl⟩|⟨h1,l,ps,h2,_,h3⟩
  .unfold knownR;rw[if_pos (by omega)]
  .unfold knownR;rw[if_neg (by omega),h2]
  .exact knownR_some (by omega) h2 h3
 unfold printR;rw[hk]
theorem prog_ok {s:ByteArray}{R:List UInt8}(h:progOk s R):printR s.data.toList=(R,0,0):=by
 have hsz:s.data.toList.length=s.size:=Array.length_toList;obtain⟨h1,l,ps,h2,_,h3,rfl⟩:=h;unfold printR;rw[knownR_none (by omega) h2 h3];simp only;rw[flat_fst]
theorem print_any (s:ByteArray)(w:World)(hm:s.size<=9223372036854775807):
  Calls Tryz.prog 57 #[.string s] w fun e w'=>e=.returned (.tuple #[.string (bs (printR s.data.toList).1),.int .i64 (printR s.data.toList).2.1,.int .i64 (printR s.data.toList).2.2])/\Below w.heap.size w w':=by
 refine(print_out s w hm).mono ?_;rintro e w' ⟨hb,⟨f,hf,rfl⟩|⟨R,hR,rfl⟩⟩
 .rw[prog_err hf];exact⟨rfl,hb⟩
 .rw[prog_ok hR];exact⟨rfl,hb⟩
theorem plays_print (s:ByteArray)(A B C:Int)(L:Value)(w:World)(hm:s.size<=9223372036854775807):
  Calls Tryz.prog 29 #[.agg #[.int .i64 1,.int .i64 A,.int .i64 B,.int .i64 C,.string s,L]] w fun e w'=>e=.returned (.bool true)/\Below w.heap.size w w':=by
 have hX:=zW w #[.int .i64 1,.int .i64 A,.int .i64 B,.int .i64 C,.string s,L] 27;have hB:=hide (zN w (.cells #[.int .i64 1,.int .i64 A,.int .i64 B,.int .i64 C,.string s,L] 27));go_enter Tryz.func29,Tryz.ntmps29;go_wp2_with fail;refine(print_any s _ hm).mono ?_;rintro e w1 ⟨rfl,hb1⟩;have hX1:=zK hX hb1;have HB1:=hide (hB.out.trans (hb1.mono (by simp)));have hs1:=HB1.out.size;have HX1:=hide hX1;have x1:=zC hX1;clear hb1 hX1 hX hB;go_wp2_with fail;refine(rPrint_any s _ hm).mono ?_;rintro e w2 ⟨rfl,hb2⟩;have HB2:=hide (HB1.out.trans (hb2.mono hs1));have x2:=zC (zK HX1.out hb2);clear hb2 HX1 HB1 hs1 x1;generalize printR s.data.toList=R at *;have e1:((bs R.1).toList==(bs R.1).toList)=true:=by simp
 have e2:((R.2.1:Int)==R.2.1)=true:=by simp
 have e3:((R.2.2:Int)==R.2.2)=true:=by simp
 go_wp2;go_ret;exact⟨rfl,HB2.out⟩
theorem plays_writes (s:ByteArray)(A B C:Int)(L:Value)(w:World)(hm:s.size<=9223372036854775807)(ht:T10 w):
  Calls Tryz.prog 29 #[.agg #[.int .i64 2,.int .i64 A,.int .i64 B,.int .i64 C,.string s,L]] w fun e w'=>e=.returned (.bool true)/\Below w.heap.size w w':=by
 have hB:=hide (zN w (.cells #[.int .i64 2,.int .i64 A,.int .i64 B,.int .i64 C,.string s,L] 27));have Ht:=hide (ht.below hB.out);clear ht;go_enter Tryz.func29,Tryz.ntmps29;go_wp2_with fail;refine(writes_one s _ hm Ht.out).mono ?_;rintro e w1 ⟨rfl,hb1⟩;have HB1:=hide (hB.out.trans (hb1.mono (by simp)));clear hb1 hB Ht;go_wp2;go_ret;exact⟨rfl,HB1.out⟩
theorem plays_reads (s:ByteArray)(A B C:Int)(L:Value)(w:World)(hm:s.size<=9223372036854775807)(ht:T10 w):
  Calls Tryz.prog 29 #[.agg #[.int .i64 3,.int .i64 A,.int .i64 B,.int .i64 C,.string s,L]] w fun e w'=>e=.returned (.bool true)/\Below w.heap.size w w':=by
 have hB:=hide (zN w (.cells #[.int .i64 3,.int .i64 A,.int .i64 B,.int .i64 C,.string s,L] 27));have Ht:=hide (ht.below hB.out);clear ht;go_enter Tryz.func29,Tryz.ntmps29;go_wp2_with fail;refine(reads_one s _ hm Ht.out).mono ?_;rintro e w1 ⟨rfl,hb1⟩;have HB1:=hide (hB.out.trans (hb1.mono (by simp)));clear hb1 hB Ht;go_wp2;go_ret;exact⟨rfl,HB1.out⟩
end
def gd (L:List Nat) (i:Nat):Nat:=L.getD i 0
theorem gd_get {L:List Nat}{i:Nat}(h:i<L.length):gd L i=L[i]:=by simp[gd,List.getD_eq_getElem?_getD,h]
theorem gd_mem {L:List Nat}{i:Nat}(h:i<L.length):gd L i∈L:=by rw[gd_get h];exact List.getElem_mem _
theorem mem_gd {L:List Nat}{x:Nat}(h:x∈L):∃i,i<L.length/\gd L i=x:=by
 obtain⟨i,hi,e⟩:=List.getElem_of_mem h;exact⟨i,hi,by rw[gd_get hi,e]⟩
theorem gd_take {L:List Nat}{i n:Nat}(h:i<n):gd (L.take n) i=gd L i:=by
 simp[gd,List.getD_eq_getElem?_getD,List.getElem?_take,h]
theorem gd_append {L:List Nat}{x i:Nat}(h:i<L.length):gd (L++[x]) i=gd L i:=by
 simp[gd,List.getD_eq_getElem?_getD,List.getElem?_append_left h]
def swp (L:List Nat) (i j:Nat):List Nat:=(L.set i (gd L j)).set j (gd L i)
theorem swp_len (L:List Nat)(i j:Nat):(swp L i j).length=L.length:=by simp[swp]
theorem swp_perm {L:List Nat}{i j:Nat}(hi:i<L.length)(hj:j<L.length):(swp L i j).Perm L:=by
 unfold swp;rw[gd_get hi,gd_get hj];exact List.set_set_perm hi hj
theorem gd_swp {L:List Nat}{i j:Nat}(hi:i<L.length)(hj:j<L.length)(k:Nat):gd (swp L i j) k=if k=j then gd L i else if k=i then gd L j else gd L k:=by
 unfold swp;unfold gd;simp only[List.getD_eq_getElem?_getD,List.getElem?_set,List.length_set];by_cases h1:j=k
 .subst h1;simp[hj]
 .by_cases h2:i=k
  .subst h2;have h3:¬i=j:=fun e=>h1 e.symm;simp[hi,h1,h3]
  .have h3:¬k=j:=fun e=>h1 e.symm;have h4:¬k=i:=fun e=>h2 e.symm;simp[h1,h2,h3,h4]
def Hp (key:Nat->Nat) (L:List Nat) (n:Nat):Prop:=∀i,0<i->i<n->key (gd L ((i-1)/2))<=key (gd L i)
theorem Hp.least {key:Nat->Nat}{L:List Nat}{n:Nat}(h:Hp key L n):∀i,i<n->key (gd L 0)<=key (gd L i):=by
 intro i
 induction i using Nat.strongRecOn with
 | _ i ih=>
  intro hi;by_cases h0:i=0
  .subst h0;exact Nat.le_refl _
  .exact Nat.le_trans (ih ((i-1)/2) (by omega) (by omega)) (h i (by omega) hi)
def upP (key:Nat->Nat) (L:List Nat) (j:Nat):List Nat:=
 if h:0<j then
  if key (gd L j)<key (gd L ((j-1)/2)) then upP key (swp L ((j-1)/2) j) ((j-1)/2) else L
 else L
termination_by j
decreasing_by omega
theorem upP_zero (key:Nat->Nat)(L:List Nat):upP key L 0=L:=by rw[upP,dif_neg (by omega)]
theorem upP_stop {key:Nat->Nat}{L:List Nat}{j:Nat}(h:¬key (gd L j)<key (gd L ((j-1)/2))):upP key L j=L:=by
 rw[upP];split<;>rfl
theorem upP_go {key:Nat->Nat}{L:List Nat}{j:Nat}(h0:0<j)(h:key (gd L j)<key (gd L ((j-1)/2))):upP key L j=upP key (swp L ((j-1)/2) j) ((j-1)/2):=by
 rw[upP,dif_pos h0,if_pos h]
theorem upP_perm (key:Nat->Nat)(j:Nat):∀(L:List Nat),j<L.length->(upP key L j).Perm L:=by
 induction j using Nat.strongRecOn with
 | _ j ih=>
  intro L hj;by_cases h0:0<j
  .by_cases h:key (gd L j)<key (gd L ((j-1)/2))
   .rw[upP_go h0 h];exact(ih ((j-1)/2) (by omega) _ (by rw[swp_len];omega)).trans (swp_perm (by omega) hj)
   .rw[upP_stop h]
  .rw[show j=0 by omega,upP_zero]
theorem upP_heap (key:Nat->Nat)(n j:Nat):∀(L:List Nat),L.length=n->j<n->(∀i,0<i->i<n->i≠j->key (gd L ((i-1)/2))<=key (gd L i))->(∀c,0<c->c<n->(c-1)/2=j->0<j->key (gd L ((j-1)/2))<=key (gd L c))->Hp key (upP key L j) n:=by
 induction j using Nat.strongRecOn with
 | _ j ih=>
  intro L hL hj h1 h2;by_cases h0:0<j
  .by_cases h:key (gd L j)<key (gd L ((j-1)/2))
   .rw[upP_go h0 h];have hp:(j-1)/2<j:=by omega
    generalize hq:(j-1)/2=q at *;have g:=fun k=>gd_swp (L:=L) (i:=q) (j:=j) (by omega) (by omega) k;refine ih q hp _ (by rw[swp_len];exact hL) (by omega) ?_ ?_
    .intro i hi0 hin hiq;rw[g,g];by_cases e1:i=j
     .subst e1;rw[hq,if_neg (by omega),if_pos rfl,if_pos rfl];omega
     .rw[if_neg e1,if_neg hiq];by_cases e2:(i-1)/2=j
      .rw[if_pos e2];exact h2 i hi0 hin e2 h0
      .rw[if_neg e2];by_cases e3:(i-1)/2=q
       .rw[if_pos e3];have:=h1 i hi0 hin e1;rw[e3]at this;omega
       .rw[if_neg e3];exact h1 i hi0 hin e1
    .intro c hc0 hcn hcq hq0;rw[g,g];rw[if_neg (show (q-1)/2≠j by omega),if_neg (show (q-1)/2≠q by omega)];have hqq:=h1 q hq0 (by omega) (by omega);by_cases e1:c=j
     .rw[if_pos e1];exact hqq
     .rw[if_neg e1,if_neg (show c≠q by omega)];have:=h1 c hc0 hcn e1;rw[hcq]at this;omega
   .rw[upP_stop h];intro i hi0 hin;by_cases e:i=j
    .subst e;omega
    .exact h1 i hi0 hin e
  .have e:j=0:=by omega
   rw[e,upP_zero];intro i hi0 hin;exact h1 i hi0 hin (by omega)
theorem up_push {key:Nat->Nat}{L:List Nat}(h:Hp key L L.length)(x:Nat):Hp key (upP key (L++[x]) L.length) (L.length+1)/\(upP key (L++[x]) L.length).Perm (L++[x]):=by
 refine⟨upP_heap key (L.length+1) L.length (L++[x]) (by simp) (by omega) ?_ ?_,upP_perm key _ _ (by simp)⟩
 .intro i hi0 hin hne;rw[gd_append (by omega),gd_append (by omega)];exact h i hi0 (by omega)
 .intro c hc0 hcn hc hL;omega
def kid (key:Nat->Nat) (L:List Nat) (i n:Nat):Nat:=if 2*i+2<n/\key (gd L (2*i+2))<key (gd L (2*i+1)) then 2*i+2 else 2*i+1
theorem kid_cases (key:Nat->Nat)(L:List Nat)(i n:Nat):kid key L i n=2*i+1\/kid key L i n=2*i+2:=by
 unfold kid;split<;>simp
theorem kid_lt {key:Nat->Nat}{L:List Nat}{i n:Nat}(h:2*i+1<n):kid key L i n<n:=by
 unfold kid;split<;>omega
theorem kid_least {key:Nat->Nat}{L:List Nat}{i n:Nat}(c:Nat)(hc:c<n)(hp:c=2*i+1\/c=2*i+2):key (gd L (kid key L i n))<=key (gd L c):=by
 unfold kid;split
 .rcases hp with rfl|rfl<;>omega
 .rename_i hno;rcases hp with rfl|rfl
  .omega
  .omega
def dnP (key:Nat->Nat) (L:List Nat) (i n:Nat):List Nat:=
 if h:2*i+1<n then
  if key (gd L (kid key L i n))<key (gd L i) then dnP key (swp L i (kid key L i n)) (kid key L i n) n else L
 else L
termination_by n-i
decreasing_by
 have:=kid_lt (key:=key) (L:=L) h
 rcases kid_cases key L i n with e|e<;>omega
theorem dnP_end {key:Nat->Nat}{L:List Nat}{i n:Nat}(h:¬2*i+1<n):dnP key L i n=L:=by rw[dnP,dif_neg h]
theorem dnP_stop {key:Nat->Nat}{L:List Nat}{i n:Nat}(h:¬key (gd L (kid key L i n))<key (gd L i)):dnP key L i n=L:=by
 rw[dnP];split<;>rfl
theorem dnP_go {key:Nat->Nat}{L:List Nat}{i n:Nat}(h0:2*i+1<n)(h:key (gd L (kid key L i n))<key (gd L i)):dnP key L i n=dnP key (swp L i (kid key L i n)) (kid key L i n) n:=by
 rw[dnP,dif_pos h0,if_pos h]
theorem dnP_len (key:Nat->Nat)(n:Nat)(d:Nat):∀(i:Nat) (L:List Nat),n-i<=d->(dnP key L i n).length=L.length:=by
 induction d with
 | zero=>
  intro i L h;rw[dnP_end (by omega)]
 | succ d ih=>
  intro i L h;by_cases h0:2*i+1<n
  .by_cases h1:key (gd L (kid key L i n))<key (gd L i)
   .rw[dnP_go h0 h1,ih _ _ (by rcases kid_cases key L i n with e|e<;>omega),swp_len]
   .rw[dnP_stop h1]
  .rw[dnP_end h0]
theorem dnP_perm (key:Nat->Nat)(n:Nat)(d:Nat):∀(i:Nat) (L:List Nat),n-i<=d->n<=L.length->(dnP key L i n).Perm L/\∀k,n<=k->gd (dnP key L i n) k=gd L k:=by
 induction d with
 | zero=>
  intro i L h hn;rw[dnP_end (by omega)];exact⟨List.Perm.refl _,fun _ _=>rfl⟩
 | succ d ih=>
  intro i L h hn;by_cases h0:2*i+1<n
  .by_cases h1:key (gd L (kid key L i n))<key (gd L i)
   .have hk:=kid_lt (key:=key) (L:=L) h0;obtain⟨a,b⟩:=ih (kid key L i n) (swp L i (kid key L i n)) (by rcases kid_cases key L i n with e|e<;>omega) (by rw[swp_len];exact hn);rw[dnP_go h0 h1];refine⟨a.trans (swp_perm (by omega) (by omega)),fun k hk2=>?_⟩;rw[b k hk2,gd_swp (by omega) (by omega),if_neg (by omega),if_neg (by omega)]
   .rw[dnP_stop h1];exact⟨List.Perm.refl _,fun _ _=>rfl⟩
  .rw[dnP_end h0];exact⟨List.Perm.refl _,fun _ _=>rfl⟩
theorem dnP_heap (key:Nat->Nat)(n:Nat)(d:Nat):∀(i:Nat) (L:List Nat),n-i<=d->n<=L.length->(∀c,0<c->c<n->(c-1)/2≠i->key (gd L ((c-1)/2))<=key (gd L c))->(∀c,0<c->c<n->(c-1)/2=i->0<i->key (gd L ((i-1)/2))<=key (gd L c))->Hp key (dnP key L i n) n:=by
 induction d with
 | zero=>
  intro i L h hn h1 h2;rw[dnP_end (by omega)];intro c hc0 hcn;exact h1 c hc0 hcn (by omega)
 | succ d ih=>
  intro i L h hn h1 h2;by_cases h0:2*i+1<n
  .have hk:=kid_lt (key:=key) (L:=L) h0;have hle:=fun c hc hp=>kid_least (key:=key) (L:=L) (i:=i) (n:=n) c hc hp;have hkc:=kid_cases key L i n;by_cases h3:key (gd L (kid key L i n))<key (gd L i)
   .rw[dnP_go h0 h3];generalize kid key L i n=q at *;have g:=fun k=>gd_swp (L:=L) (i:=i) (j:=q) (by omega) (by omega) k;refine ih q _ (by omega) (by rw[swp_len];exact hn) ?_ ?_
    .intro c hc0 hcn hcq;rw[g,g,if_neg hcq];by_cases e1:c=q
     .rw[if_pos e1,if_pos (by omega)];omega
     .rw[if_neg e1];by_cases e2:(c-1)/2=i
      .rw[if_pos e2,if_neg (by omega)];exact hle c hcn (by omega)
      .rw[if_neg e2];by_cases e3:c=i
       .rw[if_pos e3];have:=h2 q (by omega) hk (by omega) (by omega);rw[e3];exact this
       .rw[if_neg e3];exact h1 c hc0 hcn e2
    .intro c hc0 hcn hcq hq0;rw[g,g,if_neg (show (q-1)/2≠q by omega),if_pos (show (q-1)/2=i by omega),if_neg (show c≠q by omega),if_neg (show c≠i by omega)];have:=h1 c hc0 hcn (by omega);rw[hcq]at this;exact this
   .rw[dnP_stop h3];intro c hc0 hcn;by_cases e:(c-1)/2=i
    .have:=hle c hcn (by omega);rw[e];omega
    .exact h1 c hc0 hcn e
  .rw[dnP_end h0];intro c hc0 hcn;exact h1 c hc0 hcn (by omega)
def popP (key:Nat->Nat) (L:List Nat):List Nat:=(dnP key (swp L 0 (L.length-1)) 0 (L.length-1)).take (L.length-1)
theorem pop_last {key:Nat->Nat}{L:List Nat}(h0:0<L.length):gd (dnP key (swp L 0 (L.length-1)) 0 (L.length-1)) (L.length-1)=gd L 0:=by
 rw[(dnP_perm key (L.length-1) _ 0 (swp L 0 (L.length-1)) (Nat.le_refl _) (by rw[swp_len];omega)).2 _ (Nat.le_refl _),gd_swp (by omega) (by omega),if_pos rfl]
theorem pop_ok {key:Nat->Nat}{L:List Nat}(h:Hp key L L.length)(h0:0<L.length):(∀x∈L,key (gd L 0)<=key x)/\L.Perm (gd L 0::popP key L)/\Hp key (popP key L) (popP key L).length/\(popP key L).length=L.length-1:=by
 have hp:=dnP_perm key (L.length-1) _ 0 (swp L 0 (L.length-1)) (Nat.le_refl _) (by rw[swp_len];omega);have hl:(dnP key (swp L 0 (L.length-1)) 0 (L.length-1)).length=L.length:=by rw[dnP_len key _ _ 0 _ (Nat.le_refl _),swp_len]
 have hlen:(popP key L).length=L.length-1:=by unfold popP;rw[List.length_take,hl];omega
 have hpl:=pop_last (key:=key) h0;refine⟨?_,?_,?_,hlen⟩
 .intro x hx;obtain⟨i,hi,e⟩:=mem_gd hx;rw[←e];exact h.least i hi
 .have e:(dnP key (swp L 0 (L.length-1)) 0 (L.length-1))=popP key L++[gd L 0]:=by
   rw[←hpl];unfold popP;generalize dnP key (swp L 0 (L.length-1)) 0 (L.length-1)=M at *;rw[gd_get (by omega)];have:M=M.take (L.length-1+1):=by rw[List.take_of_length_le (by omega)]
   conv=>lhs;rw[this,List.take_succ_eq_append_getElem (by omega)]
  have h1:L.Perm (popP key L++[gd L 0]):=by
   rw[←e];exact(hp.1.trans (swp_perm (by omega) (by omega))).symm
  exact h1.trans (List.perm_append_comm)
 .rw[hlen];have hh:=dnP_heap key (L.length-1) _ 0 (swp L 0 (L.length-1)) (Nat.le_refl _) (by rw[swp_len];omega) (by
   intro c hc0 hcn hci;rw[gd_swp (by omega) (by omega),gd_swp (by omega) (by omega),if_neg (by omega),if_neg hci,if_neg (by omega),if_neg (by omega)];exact h c hc0 (by omega)) (by intro c _ _ _ h;omega)
  intro i hi0 hin;unfold popP;rw[gd_take (by omega),gd_take hin];exact hh i hi0 hin
theorem hp_nil (key:Nat->Nat):Hp key [] 0:=fun i _ h=>by omega
structure Jb where
 ltr:UInt8
 num:Nat
 tsk:Nat
 rel:Nat
 dl:Nat
 cost:Nat
def jk (js:List Jb) (k:Nat):Jb:=js.getD k ⟨0,0,0,0,0,0⟩
theorem jk_get {js:List Jb}{k:Nat}(h:k<js.length):jk js k=js[k]:=by simp[jk,List.getD_eq_getElem?_getD,h]
def jobsT (cyc i:Nat) (t:Tk):List Jb:=(List.range (cyc/t.P)).map fun k=>⟨t.nm,k,i,k*t.P+t.O,k*t.P+t.O+t.D,t.C⟩
def zJ (cyc:Nat):Nat->List Tk->List Jb
 | _,[]=>[]
 | i,t::r=>jobsT cyc i t++zJ cyc (i+1) r
theorem jobsL_snoc (cyc:Nat):∀(l:List Tk) (i:Nat) (t:Tk),zJ cyc i (l++[t])=zJ cyc i l++jobsT cyc (i+l.length) t
 | [],i,t=>by simp[zJ]
 | x::r,i,t=>by
  simp only[List.cons_append,zJ,jobsL_snoc cyc r (i+1) t,List.append_assoc,List.length_cons];rw[show i+1+r.length=i+(r.length+1) by omega]
def keyJ (js:List Jb) (k:Nat):Nat:=(jk js k).dl*1000+(jk js k).tsk
def updL (left:Nat->Nat) (k v:Nat):Nat->Nat:=fun i=>if i=k then v else left i
def doneN (js:List Jb) (left:Nat->Nat) (c:UInt8) (n:Nat):Bool:=(List.range js.length).all fun i=>!((jk js i).ltr==c&&(jk js i).num==n)||left i==0
def busyN (js:List Jb) (left:Nat->Nat) (c:UInt8):Bool:=(List.range js.length).any fun i=>(jk js i).ltr==c&&(decide (0<left i)&&decide (left i<(jk js i).cost))
def holdsN (js:List Jb) (left:Nat->Nat) (k:Nat) (p:Pr):Bool:=
 if p.ap=false then (jk js k).ltr==p.b&&!doneN js left p.a (jk js k).num
 else if (jk js k).ltr=p.a then busyN js left p.b
 else if (jk js k).ltr=p.b then busyN js left p.a else false
def mayJ (js:List Jb) (ps:List Pr) (left:Nat->Nat) (e k:Nat):Bool:=decide (e<=(jk js k).dl)&&!(ps.any (holdsN js left k))
def leastB (key:Nat->Nat):List Nat->Option Nat
 | []=>none
 | x::r=>match leastB key r with
  | none=>some x
  | some y=>if key x<=key y then some x else some y
theorem leastB_none {key:Nat->Nat}:∀ {l:List Nat},leastB key l=none->l=[]
 | [],_=>rfl
 | x::r,h=>by
  rw[leastB]at h
  cases hr:leastB key r with
  | none=>rw[hr]at h;simp at h
  | some y=>
   rw[hr]at h;simp only at h;split at h<;>simp at h
theorem leastB_some {key:Nat->Nat}:∀ {l:List Nat} {k:Nat},leastB key l=some k->k∈l/\∀x∈l,key k<=key x
 | [],k,h=>by simp[leastB]at h
 | x::r,k,h=>by
  rw[leastB]at h
  cases hr:leastB key r with
  | none=>
   rw[hr]at h;have:=leastB_none hr;simp at h;subst this h;simp
  | some y=>
   obtain⟨h1,h2⟩:=leastB_some hr;rw[hr]at h;simp only at h;split at h
   .rename_i hle;simp at h;subst h;refine⟨by simp,fun z hz=>?_⟩;rcases List.mem_cons.1 hz with rfl|hz
    .exact Nat.le_refl _
    .exact Nat.le_trans hle (h2 z hz)
   .rename_i hle;simp at h;subst h;refine⟨by simp[h1],fun z hz=>?_⟩;rcases List.mem_cons.1 hz with rfl|hz
    .omega
    .exact h2 z hz
def rdyJ (js:List Jb) (left:Nat->Nat) (s k:Nat):Bool:=decide ((jk js k).rel<=s)&&decide (0<left k)
def pickJ (js:List Jb) (ps:List Pr) (left:Nat->Nat) (s e:Nat):Option Nat:=leastB (keyJ js) ((List.range js.length).filter fun k=>rdyJ js left s k&&mayJ js ps left e k)
def fillJ (js:List Jb) (ps:List Pr) (s e:Nat):Nat->Nat->(Nat->Nat)->List (Nat×Nat)×(Nat->Nat)
 | 0,_,left=>([],left)
 | f+1,a,left=>
  if a<e then
   match pickJ js ps left s e with
   | none=>([],left)
   | some k=>let r:=fillJ js ps s e f (a+min (left k) (e-a)) (updL left k (left k-min (left k) (e-a)));((k,min (left k) (e-a))::r.1,r.2)
  else ([],left)
def planJ (js:List Jb) (ps:List Pr) (fr:Nat):Nat->Nat->(Nat->Nat)->List (List (Nat×Nat))×(Nat->Nat)
 | 0,_,left=>([],left)
 | n+1,s,left=>let r:=fillJ js ps s (s+fr) fr s left;let q:=planJ js ps fr n (s+fr) r.2;(r.1::q.1,q.2)
def costJ (js:List Jb):Nat->Nat:=fun k=>(jk js k).cost
def allJ (js:List Jb) (left:Nat->Nat):Bool:=(List.range js.length).all fun k=>left k==0
def runJ (js:List Jb) (ps:List Pr) (cyc fr:Nat):List (List (Nat×Nat))×(Nat->Nat):=planJ js ps fr (cyc/fr) 0 (costJ js)
def goesJ (js:List Jb) (ps:List Pr) (cyc fr:Nat):Bool:=allJ js (runJ js ps cyc fr).2
def wideJ (js:List Jb) (ps:List Pr) (cyc:Nat):Nat->Nat
 | 0=>0
 | f+1=>if cyc%(f+1)=0/\goesJ js ps cyc (f+1)=true then f+1 else wideJ js ps cyc f
end Go.Proofs.YtbdffcjganlblaaGreatDoor
