import Derived.Test.YtbdffcjganlblaaGreatDoorAHeAtoHeC
import Derived.Maps.Keyed
import Derived.Maps.OwnOps
import Derived.DeepKeys4
import Derived.Test.YtbdffcjganlblaaGreatDoorAEqvBtoPlA
import Derived.Test.YtbdffcjganlblaaGreatDoorATabBtoRefQ
import Derived.Test.YtbdffcjganlblaaGreatDoorAProgKtoTbH
set_option linter.unusedVariables false
set_option linter.unusedSimpArgs false
set_option maxRecDepth 100000
set_option maxHeartbeats 16000000
namespace Go.Proofs.YtbdffcjganlblaaGreatDoor
section
open Go.RowKit Go.Maps
open Go.ChangeMaps (setBlock heap_setBlock_same heap_setBlock_other)
theorem strLaw:Keyed Tryz.prog 9:=string_keyed Tryz.underlying9
def ltV (c:UInt8):Value:=.string (bs [c])
theorem ltV_inj {a b:UInt8}(h:ltV a=ltV b):a=b:=by
 unfold ltV at h;injection h with h;have:=bs_inj.1 h;simpa using this
theorem ltV_of (c:UInt8):∃kl,keyOf Tryz.prog 9 (ltV c)=some kl:=⟨_,WideMaps.keyOf_string_mk Tryz.underlying9 (by rw[bs_size];simp[maxLen])⟩
def SMap (w:World) (M:Nat) (es:List (UInt8×Value)):Prop:=
 ∃arr clock,w.heap[M]? =some (.map arr clock)/\arr.toList.map (fun e=>(e.key,e.val))=es.map (fun x=>(ltV x.1,x.2))/\es.length<=1000
theorem SMap.keep {w w':World}{M:Nat}{es:List (UInt8×Value)}(h:SMap w M es)(hb:w'.heap[M]? =w.heap[M]?):SMap w' M es:=by
 obtain⟨arr,clock,h1,h2⟩:=h;exact⟨arr,clock,by rw[hb];exact h1,h2⟩
theorem SMap.made (w:World):SMap (w.alloc (.map #[] 0)) w.heap.size []:=⟨#[],0,(MapKept.heap_alloc w _).1,rfl,by simp⟩
theorem SMap.lt {w:World}{M:Nat}{es:List (UInt8×Value)}(h:SMap w M es):M<w.heap.size:=by
 obtain⟨arr,clock,h1,_⟩:=h;exact(Array.getElem?_eq_some_iff.1 h1).1
theorem SMap.noCells {w:World}{M:Nat}{es:List (UInt8×Value)}(h:SMap w M es)(c:Array Value)(ty:TypeId)(fr:Nat×Nat):w.heap[M]? ≠ some (.cells c ty fr):=by
 obtain⟨arr,clock,h1,_⟩:=h;rw[h1];simp
theorem smap_keys {arr:Array MapEntry}{es:List (UInt8×Value)}(h:arr.toList.map (fun e=>(e.key,e.val))=es.map (fun x=>(ltV x.1,x.2))):∀e∈arr.toList,∃l,keyOf Tryz.prog 9 e.key=some l:=by
 intro e he;have:(e.key,e.val)∈arr.toList.map (fun e=>(e.key,e.val)):=List.mem_map.2 ⟨e,he,rfl⟩;rw[h]at this;obtain⟨x,hx,ex⟩:=List.mem_map.1 this;simp only[Prod.mk.injEq]at ex;rw[←ex.1];exact ltV_of x.1
theorem zeroJobs (w:World):(zeroValue 218).run Tryz.prog w=.ok (.slice none 0 0) w:=by kernel_rfl
theorem SMap.look {w:World}{M:Nat}{es:List (UInt8×Value)}(h:SMap w M es)(k:UInt8):
  ((∀x∈es,x.1≠k)/\(Instr.lookup 217 (.map (some M)) (ltV k) false).run Tryz.prog w=.ok (.slice none 0 0) w)\/
  ∃(j:Nat) (x:UInt8×Value),es[j]? =some x/\x.1=k/\(Instr.lookup 217 (.map (some M)) (ltV k) false).run Tryz.prog w=.ok x.2 w:=by
 obtain⟨arr,clock,hb,he,hl⟩:=h;obtain⟨kl,hkl⟩:=ltV_of k;rcases strLaw.find w hkl arr.toList (smap_keys he) with⟨h1,h2⟩|⟨j,e0,h1,h2,h3⟩
 .left;refine⟨fun x hx ex=>?_,?_⟩
  .have:(ltV x.1,x.2)∈es.map (fun x=>(ltV x.1,x.2)):=List.mem_map.2 ⟨x,hx,rfl⟩;rw[←he]at this;obtain⟨e,hm,ee⟩:=List.mem_map.1 this;simp only[Prod.mk.injEq]at ee;exact h2 e hm (by rw[ee.1,ex])
  .simp[Instr.lookup,run_underlying Tryz.underlying217,MapKept.run_getObj_map hb,strLaw.check w _ hkl,h1,zeroJobs w,Result.andThen]
 .right;have e1:(arr.toList.map (fun e=>(e.key,e.val)))[j]? =some (e0.key,e0.val):=by rw[List.getElem?_map,h2];rfl
  rw[he,List.getElem?_map]at e1
  cases hx:es[j]? with
  | none=>rw[hx]at e1;simp at e1
  | some x=>
   rw[hx]at e1;simp only[Option.map_some,Option.some.injEq,Prod.mk.injEq]at e1;refine⟨j,x,hx,ltV_inj (e1.1.trans h3),?_⟩;simp[Instr.lookup,run_underlying Tryz.underlying217,MapKept.run_getObj_map hb,strLaw.check w _ hkl,h1,Result.andThen];exact e1.2.symm
theorem SMap.store {w:World}{M:Nat}{es:List (UInt8×Value)}(h:SMap w M es)(k:UInt8)(hn:∀x∈es,x.1≠k)(hl:es.length+1<=1000)(v:Value):
  ∃w',(Instr.mapUpdate 217 (.map (some M)) (ltV k) v).run Tryz.prog w=.ok () w'/\SMap w' M (es++[(k,v)])/\w.grownBy w' (some M):=by
 obtain⟨arr,clock,hb,he,_⟩:=h;obtain⟨kl,hkl⟩:=ltV_of k;rcases strLaw.find w hkl arr.toList (smap_keys he) with⟨h1,h2⟩|⟨j,e0,h1,h2,h3⟩
 .refine⟨setBlock w M (.map (arr.push ⟨ltV k,v,clock⟩) (clock+1)),?_,⟨_,_,heap_setBlock_same hb _,?_,by simp;omega⟩,⟨rfl,rfl,rfl,by simp[setBlock],fun i _ hi=>heap_setBlock_other hb _ (fun e=>hi (by rw[e]))⟩⟩
  .simp[Instr.mapUpdate,run_underlying Tryz.underlying217,MapKept.run_getObj_map hb,strLaw.check w false hkl,h1,MapKept.run_setObj_map _ hb,Result.andThen,setBlock]
  .rw[Array.toList_push,List.map_append,he,List.map_append];rfl
 .exfalso;have e1:(arr.toList.map (fun e=>(e.key,e.val)))[j]? =some (e0.key,e0.val):=by rw[List.getElem?_map,h2];rfl
  rw[he,List.getElem?_map]at e1
  cases hx:es[j]? with
  | none=>rw[hx]at e1;simp at e1
  | some x=>
   rw[hx]at e1;simp only[Option.map_some,Option.some.injEq,Prod.mk.injEq]at e1;exact hn x (List.mem_of_getElem? hx) (ltV_inj (e1.1.trans h3))
structure MapAt (js:List Jb) (bl:Nat->Nat) (M:Nat) (es:List (UInt8×Value)) (w:World):Prop where
 m:SMap w M es
 one:∀x∈es,∀y∈es,x.1=y.1->x=y
 each:∀x∈es,∃T:List Nat,RowJ w 0 x.2 bl T/\T.length<=1000/\(∀k,k∈T↔k<js.length/\(jk js k).ltr=x.1)/\∀i,i<T.length->(jk js (gd T i)).num=i
theorem MapAt.same {js:List Jb}{bl:Nat->Nat}{M:Nat}{es:List (UInt8×Value)}{w w':World}(h:MapAt js bl M es w)(e:w'.heap=w.heap):MapAt js bl M es w':=
 ⟨h.m.keep (by rw[e]),h.one,fun x hx=>by
  obtain⟨T,h1,h2⟩:=h.each x hx;exact⟨T,⟨h1.1,by rw[e];exact h1.2⟩,h2⟩⟩
theorem MapAt.keep {js:List Jb}{bl:Nat->Nat}{M:Nat}{es:List (UInt8×Value)}{w w':World}{X:Nat->Prop}(h:MapAt js bl M es w)(hf:Frm X w w')(hM:¬X M)(hx:∀x∈es,∀b,x.2.ownBlock=some b->¬X b):MapAt js bl M es w':=
 ⟨h.m.keep (hf.block M h.m.lt hM),h.one,fun x hxe=>by
  obtain⟨T,h1,h2⟩:=h.each x hxe;refine⟨T,⟨h1.1,?_⟩,h2⟩;rcases h1.2 with h3|⟨g,cap,cur,h3,h4,h5,h6⟩
  .exact .inl h3
  .refine .inr ⟨g,cap,cur,h3,h4,?_,h6⟩;exact hf.blk h5 (hx x hxe g (by rw[h3];rfl))⟩
theorem MapAt.look {js:List Jb}{bl:Nat->Nat}{M:Nat}{es:List (UInt8×Value)}{w:World}(h:MapAt js bl M es w){x:UInt8×Value}(hx:x∈es):∀W:World,W.heap=w.heap->(Instr.lookup 217 (.map (some M)) (.string (bs [x.1])) false).run Tryz.prog W=.ok x.2 W:=fun W hW=>by
 rcases(h.same hW).m.look x.1 with⟨h1,_⟩|⟨j',x',hj',hx',hlk'⟩
 .exact absurd rfl (h1 x hx)
 .have:=h.one x' (List.mem_of_getElem? hj') x hx hx';subst this;exact hlk'
theorem RowJ.cells {w:World}{base:Nat}{v:Value}{bl:Nat->Nat}{L:List Nat}(h:RowJ w base v bl L):∃a cap,v=.slice a L.length cap/\∀i,i<L.length->∃g,a=some ⟨g,0,none⟩/\w.cell? ⟨g,i,none⟩=some (.pointer (some ⟨bl (gd L i),0,none⟩)):=by
 by_cases h0:0<L.length
 .obtain⟨g,cap,cur,hv,_,hg,_,_,_,hc⟩:=h.form h0;exact⟨_,cap,hv,fun i hi=>⟨g,rfl,by rw[zC hg];exact hc i hi⟩⟩
 .obtain⟨a,cap,hv,_⟩:=h.len;exact⟨a,cap,hv,fun i hi=>by omega⟩
theorem underWay_any (j:Jb)(l b:Nat)(w:World)(h:w.heap[b]? =some (.cells (jbV j l) 225 (0,0))):
  Calls Tryz.prog 211 #[.pointer (some ⟨b,0,none⟩)] w fun e w'=>e=.returned (.bool (decide (0<l)&&decide (l<j.cost)))/\w'.heap=w.heap/\Frm (fun _=>False) w w':=by
 have h6:w.cell? ⟨b,6,none⟩=some (.int .i64 l):=by rw[zC h];rfl
 have h5:w.cell? ⟨b,5,none⟩=some (.int .i64 j.cost):=by rw[zC h];rfl
 clear h;by_cases h0:0<l
 .have h0':(0:Int)<l:=by omega
  have h0d:decide ((0:Int)<l)=true:=decide_eq_true h0';rw[decide_eq_true h0,Bool.true_and];go_enter Tryz.func211,Tryz.ntmps211;go_wp2_with fail
  go_quiet (fail)
  go_wp2_with fail;go_ret;exact⟨rfl,rfl,Frm.sames rfl rfl rfl rfl⟩
 .have h0':¬(0:Int)<l:=by omega
  have h0d:decide ((0:Int)<l)=false:=decide_eq_false h0';rw[decide_eq_false h0,Bool.false_and];go_enter Tryz.func211,Tryz.ntmps211;go_wp2_with fail
  go_quiet (fail)
  go_wp2_with fail;go_ret;exact⟨rfl,rfl,Frm.sames rfl rfl rfl rfl⟩
end
def outJ (js:List Jb) (f:List (Nat×Nat)):List Sl:=f.map fun x=>⟨(jk js x.1).ltr,(jk js x.1).num,x.2⟩
def tabJ (js:List Jb) (ps:List Pr) (cyc fr:Nat):Tb:=⟨cyc,fr,(runJ js ps cyc fr).1.map (outJ js)⟩
def bsum:List (Nat×Nat)->Nat
 | []=>0
 | x::r=>x.2+bsum r
def gvn (k:Nat):List (Nat×Nat)->Nat
 | []=>0
 | x::r=>(if x.1=k then x.2 else 0)+gvn k r
theorem gvn_pos {k:Nat}:∀ {f:List (Nat×Nat)},0<gvn k f->∃x∈f,x.1=k
 | [],h=>by simp[gvn]at h
 | x::r,h=>by
  by_cases e:x.1=k
  .exact⟨x,by simp,e⟩
  .rw[gvn,if_neg e,Nat.zero_add]at h;obtain⟨y,hy,ey⟩:=gvn_pos h;exact⟨y,by simp[hy],ey⟩
structure FrOk (js:List Jb) (s e F:Nat) (f:List (Nat×Nat)):Prop where
 each:∀x∈f,x.1<js.length/\(jk js x.1).rel<=s/\e<=(jk js x.1).dl/\1<=x.2
 sum:bsum f<=F
 one:(f.map Prod.fst).Nodup
theorem pick_some {js:List Jb}{ps:List Pr}{left:Nat->Nat}{s e k:Nat}(h:pickJ js ps left s e=some k):k<js.length/\(jk js k).rel<=s/\0<left k/\mayJ js ps left e k=true/\e<=(jk js k).dl/\∀j,j<js.length->(jk js j).rel<=s->0<left j->mayJ js ps left e j=true->keyJ js k<=keyJ js j:=by
 obtain⟨h1,h2⟩:=leastB_some h;simp only[List.mem_filter,List.mem_range,rdyJ,Bool.and_eq_true,decide_eq_true_eq]at h1 h2;have h3:=h1.2.2;unfold mayJ at h3;simp only[Bool.and_eq_true,decide_eq_true_eq]at h3;exact⟨h1.1,h1.2.1.1,h1.2.1.2,h1.2.2,h3.1,fun j a b c d=>h2 j ⟨a,⟨b,c⟩,d⟩⟩
theorem pick_none {js:List Jb}{ps:List Pr}{left:Nat->Nat}{s e:Nat}(h:pickJ js ps left s e=none):∀j,j<js.length->(jk js j).rel<=s->0<left j->mayJ js ps left e j=false:=by
 have h1:=leastB_none h;intro j a b c;have h2:j ∉ (List.range js.length).filter fun k=>rdyJ js left s k&&mayJ js ps left e k:=by rw[h1];simp
 simp only[List.mem_filter,List.mem_range,rdyJ,Bool.and_eq_true,decide_eq_true_eq]at h2
 cases hm:mayJ js ps left e j with
 | false=>rfl
 | true=>exact absurd ⟨a,⟨b,c⟩,hm⟩ h2
theorem fill_ok (js:List Jb)(ps:List Pr)(s e:Nat):∀(f a:Nat) (left:Nat->Nat),
  FrOk js s e (e-a) (fillJ js ps s e f a left).1/\(∀k,(fillJ js ps s e f a left).2 k+gvn k (fillJ js ps s e f a left).1=left k)/\∀x∈(fillJ js ps s e f a left).1,0<left x.1
 | 0,a,left=>by
  rw[fillJ];exact⟨⟨fun x h=>by simp at h,by simp[bsum],by simp⟩,fun k=>by simp[gvn],fun x h=>by simp at h⟩
 | f+1,a,left=>by
  rw[fillJ];by_cases ha:a<e
  .rw[if_pos ha]
   cases hp:pickJ js ps left s e with
   | none=>exact⟨⟨fun x h=>by simp at h,by simp[bsum],by simp⟩,fun k=>by simp[gvn],fun x h=>by simp at h⟩
   | some k=>
    obtain⟨p1,p2,p3,p4,p5,p6⟩:=pick_some hp;simp only;generalize hb:min (left k) (e-a)=b;have hb1:1<=b:=by omega
    have hb2:b<=left k:=by omega
    have hb3:b<=e-a:=by omega
    obtain⟨⟨i1,i2,i3⟩,i4,i5⟩:=fill_ok js ps s e f (a+b) (updL left k (left k-b));generalize hr:fillJ js ps s e f (a+b) (updL left k (left k-b))=r at *;have hnk:∀x∈r.1,x.1≠k:=by
     intro x hx ex;have h5:=i5 x hx;rw[ex]at h5;unfold updL at h5;rw[if_pos rfl]at h5;have hfull:a+b=e:=by omega
     have h6:r.1=[]:=by
      rw[←hr,hfull]
      cases f with
      | zero=>rfl
      | succ f=>rw[fillJ,if_neg (by omega)]
     rw[h6]at hx;simp at hx
    refine⟨⟨?_,?_,?_⟩,?_,?_⟩
    .intro x hx;rcases List.mem_cons.1 hx with rfl|hx
     .exact⟨p1,p2,p5,hb1⟩
     .exact i1 x hx
    .rw[bsum];omega
    .rw[List.map_cons,List.nodup_cons];refine⟨fun hm=>?_,i3⟩;obtain⟨x,hx,ex⟩:=List.mem_map.1 hm;exact hnk x hx ex
    .intro j;have h7:=i4 j;rw[gvn];unfold updL at h7;by_cases ej:k=j
     .subst ej;rw[if_pos rfl]at h7 ⊢;omega
     .rw[if_neg ej];rw[if_neg (fun h=>ej h.symm)]at h7;omega
    .intro x hx;rcases List.mem_cons.1 hx with rfl|hx
     .exact p3
     .have h8:=i5 x hx;unfold updL at h8;rw[if_neg (hnk x hx)]at h8;exact h8
  .rw[if_neg ha];exact⟨⟨fun x h=>by simp at h,by simp[bsum],by simp⟩,fun k=>by simp[gvn],fun x h=>by simp at h⟩
def SchOk (js:List Jb) (fr:Nat):Nat->List (List (Nat×Nat))->Prop
 | _,[]=>True
 | s,f::r=>FrOk js s (s+fr) fr f/\SchOk js fr (s+fr) r
def gvF (k:Nat):List (List (Nat×Nat))->Nat
 | []=>0
 | f::r=>gvn k f+gvF k r
theorem plan_ok (js:List Jb)(ps:List Pr)(fr:Nat):∀(n s:Nat) (left:Nat->Nat),SchOk js fr s (planJ js ps fr n s left).1/\(∀k,(planJ js ps fr n s left).2 k+gvF k (planJ js ps fr n s left).1=left k)/\(planJ js ps fr n s left).1.length=n
 | 0,s,left=>⟨trivial,fun k=>by simp[planJ,gvF],rfl⟩
 | n+1,s,left=>by
  rw[planJ];obtain⟨a1,a2,a3⟩:=fill_ok js ps s (s+fr) fr s left;generalize fillJ js ps s (s+fr) fr s left=r at *;obtain⟨b1,b2,b3⟩:=plan_ok js ps fr n (s+fr) r.2;simp only;generalize planJ js ps fr n (s+fr) r.2=q at *;refine⟨⟨?_,b1⟩,fun k=>?_,by simp[b3]⟩
  .rw[show s+fr-s=fr by omega]at a1;exact a1
  .have h1:=a2 k;have h2:=b2 k;rw[gvF];omega
theorem sch_at {js:List Jb}{fr:Nat}:∀ {fs:List (List (Nat×Nat))} {s:Nat},SchOk js fr s fs->∀i (h:i<fs.length),FrOk js (s+i*fr) (s+i*fr+fr) fr fs[i]
 | f::r,s,h,0,_=>by simpa using h.1
 | f::r,s,h,i+1,hi=>by
  have:=sch_at h.2 i (by simpa using hi);rw[show s+fr+i*fr=s+(i+1)*fr by rw[Nat.add_mul];omega]at this;simpa using this
theorem gvF_pos {k:Nat}:∀ {fs:List (List (Nat×Nat))},0<gvF k fs->∃i,∃h:i<fs.length,∃x∈fs[i],x.1=k
 | [],h=>by simp[gvF]at h
 | f::r,h=>by
  rw[gvF]at h;by_cases h0:0<gvn k f
  .obtain⟨x,hx,ex⟩:=gvn_pos h0;exact⟨0,by simp,x,by simpa using hx,ex⟩
  .obtain⟨i,hi,x,hx,ex⟩:=gvF_pos (fs:=r) (k:=k) (by omega);exact⟨i+1,by simp;omega,x,by simpa using hx,ex⟩
structure JsOk (js:List Jb) (cyc:Nat):Prop where
 apart:∀i j,i<js.length->j<js.length->(jk js i).ltr=(jk js j).ltr->(jk js i).num<(jk js j).num->(jk js i).dl<=(jk js j).rel
 one:∀i j,i<js.length->j<js.length->(jk js i).ltr=(jk js j).ltr->(jk js i).num=(jk js j).num->i=j
 prev:∀i,i<js.length->0<(jk js i).num->∃j,j<js.length/\(jk js j).ltr=(jk js i).ltr/\(jk js j).num+1=(jk js i).num
 cost:∀i,i<js.length->1<=(jk js i).cost
 tsk:∀i j,i<js.length->j<js.length->((jk js i).tsk=(jk js j).tsk↔(jk js i).ltr=(jk js j).ltr)
 low:∀i,i<js.length->(jk js i).tsk<1000
 win:∀i,i<js.length->(jk js i).rel+(jk js i).cost<=(jk js i).dl
 cyc:∀i,i<js.length->(jk js i).dl<=cyc
theorem JsOk.key {js:List Jb}{cyc:Nat}(h:JsOk js cyc){i j:Nat}(hi:i<js.length)(hj:j<js.length)(e:keyJ js i=keyJ js j):i=j:=by
 unfold keyJ at e;have h1:=h.low i hi;have h2:=h.low j hj;have e1:(jk js i).tsk=(jk js j).tsk:=by omega
 have e2:(jk js i).dl=(jk js j).dl:=by omega
 have e3:=(h.tsk i j hi hj).1 e1;rcases Nat.lt_trichotomy (jk js i).num (jk js j).num with h3|h3|h3
 .have:=h.apart i j hi hj e3 h3;have:=h.win j hj;have:=h.cost j hj;omega
 .exact h.one i j hi hj e3 h3
 .have:=h.apart j i hj hi e3.symm h3;have:=h.win i hi;have:=h.cost i hi;omega
theorem nextJ_most {n:UInt8}{M:Nat}:∀(P:List FSl),(∀y∈P,y.2.nm=n->y.2.job+1<=M)->nextJ P n<=M:=by
 intro P h;unfold nextJ;have:∀(P:List FSl) (m:Nat),m<=M->(∀y∈P,y.2.nm=n->y.2.job+1<=M)->P.foldl (fun m x=>if x.2.nm=n then (if m<x.2.job+1 then x.2.job+1 else m) else m) m<=M:=by
  intro P
  induction P with
  | nil=>intro m hm _;exact hm
  | cons x r ih=>
   intro m hm h;rw[List.foldl_cons];refine ih _ ?_ (fun y hy=>h y (by simp[hy]));split
   .rename_i e;have:=h x (by simp) e;split<;>omega
   .exact hm
 exact this P 0 (Nat.zero_le _) h
theorem nextJ_least {n:UInt8}{P:List FSl}{y:FSl}(hy:y∈P)(hn:y.2.nm=n):y.2.job+1<=nextJ P n:=by
 unfold nextJ;have mono:∀(P:List FSl) (m:Nat),m<=P.foldl (fun m x=>if x.2.nm=n then (if m<x.2.job+1 then x.2.job+1 else m) else m) m:=by
  intro P
  induction P with
  | nil=>intro m;exact Nat.le_refl _
  | cons x r ih=>
   intro m;rw[List.foldl_cons];refine Nat.le_trans ?_ (ih _);split
   .split<;>omega
   .exact Nat.le_refl _
 have:∀(P:List FSl) (m:Nat),y∈P->y.2.job+1<=P.foldl (fun m x=>if x.2.nm=n then (if m<x.2.job+1 then x.2.job+1 else m) else m) m:=by
  intro P
  induction P with
  | nil=>intro m h;simp at h
  | cons x r ih=>
   intro m h;rw[List.foldl_cons];rcases List.mem_cons.1 h with rfl|h
   .refine Nat.le_trans ?_ (mono r _);rw[if_pos hn];split<;>omega
   .exact ih _ h
 exact this P 0 hy
theorem budS_out (js:List Jb):∀f:List (Nat×Nat),budS (outJ js f)=bsum f
 | []=>rfl
 | x::r=>by
  have:=budS_out js r;unfold outJ at this ⊢;rw[List.map_cons,budS,bsum,this]
theorem bsum_app:∀(a b:List (Nat×Nat)),bsum (a++b)=bsum a+bsum b
 | [],b=>by simp[bsum]
 | x::r,b=>by rw[List.cons_append,bsum,bsum,bsum_app r b];omega
theorem budP_out {js:List Jb}{s e F:Nat}{f:List (Nat×Nat)}(h:FrOk js s e F f):BudP F (outJ js f):=by
 intro k hk;have hk2:k<f.length:=by simpa [outJ] using hk
 have e1:(outJ js f).take k=outJ js (f.take k):=by simp[outJ,List.map_take]
 have e2:(outJ js f)[k].bud=f[k].2:=by simp[outJ]
 rw[e1,budS_out,e2];refine⟨(h.each f[k] (List.getElem_mem _)).2.2.2,?_⟩;have hs:=h.sum;have h3:f=f.take k++(f[k]::f.drop (k+1)):=by rw[←List.drop_eq_getElem_cons hk2,List.take_append_drop]
 have h4:bsum f=bsum (f.take k)+(f[k].2+bsum (f.drop (k+1))):=by
  have h5:=congrArg bsum h3;rw[bsum_app,bsum]at h5;exact h5
 omega
theorem flat_of (js:List Jb):∀(fs:List (List (Nat×Nat))) (j:Nat) (x:FSl),x∈zX j (fs.map (outJ js))↔∃i,∃h:i<fs.length,∃y∈fs[i],x=(j+i,⟨(jk js y.1).ltr,(jk js y.1).num,y.2⟩)
 | [],j,x=>by simp[zX]
 | f::r,j,x=>by
  rw[List.map_cons,zX,List.mem_append,flat_of js r (j+1) x];constructor
  .rintro (h|⟨i,hi,y,hy,rfl⟩)
   .obtain⟨z,hz,rfl⟩:=List.mem_map.1 h;obtain⟨y,hy,rfl⟩:=List.mem_map.1 hz;exact⟨0,by simp,y,by simpa using hy,rfl⟩
   .exact⟨i+1,by simp;omega,y,by simpa using hy,by rw[show j+1+i=j+(i+1) by omega]⟩
  .rintro ⟨i,hi,y,hy,rfl⟩
   cases i with
   | zero=>
    left;refine List.mem_map.2 ⟨⟨(jk js y.1).ltr,(jk js y.1).num,y.2⟩,List.mem_map.2 ⟨y,by simpa using hy,rfl⟩,rfl⟩
   | succ i=>
    right;exact⟨i,by simpa using hi,y,by simpa using hy,by rw[show j+1+i=j+(i+1) by omega]⟩
def tagF (x:FSl):Nat×UInt8×Nat:=(x.1,x.2.nm,x.2.job)
theorem flat_nodup {js:List Jb}{cyc fr:Nat}(hj:JsOk js cyc):∀(fs:List (List (Nat×Nat))) (s j:Nat),SchOk js fr s fs->((zX j (fs.map (outJ js))).map tagF).Nodup
 | [],s,j,_=>by simp[zX]
 | f::r,s,j,h=>by
  rw[List.map_cons,zX,List.map_append,List.nodup_append];refine⟨?_,flat_nodup hj r (s+fr) (j+1) h.2,?_⟩
  .have h1:=h.1.one;have h2:=h.1.each;unfold outJ;rw[List.map_map,List.map_map];clear h
   induction f with
   | nil=>simp
   | cons x t ih=>
    rw[List.map_cons,List.nodup_cons]at h1 ⊢;refine⟨fun hm=>?_,ih h1.2 (fun y hy=>h2 y (by simp[hy]))⟩;obtain⟨y,hy,ey⟩:=List.mem_map.1 hm;simp[tagF]at ey;have:=hj.one y.1 x.1 (h2 y (by simp[hy])).1 (h2 x (by simp)).1 ey.1 ey.2;exact h1.1 (List.mem_map.2 ⟨y,hy,this⟩)
  .intro a ha b hb e;obtain⟨x,hx,rfl⟩:=List.mem_map.1 ha;obtain⟨z,hz,rfl⟩:=List.mem_map.1 hx;obtain⟨y,hy,rfl⟩:=List.mem_map.1 hb;obtain⟨hy1,_,_⟩:=flatF_mem _ _ _ hy;simp[tagF]at e;omega
theorem jobs_ok {js:List Jb}{cyc fr:Nat}(hj:JsOk js cyc)(hfr:1<=fr){fs:List (List (Nat×Nat))}(h:SchOk js fr 0 fs)(hd:∀k,k<js.length->0<gvF k fs):JobsR (zX 0 (fs.map (outJ js))):=by
 have hr:=flatF_rises (fs.map (outJ js)) 0;have hn:=flat_nodup hj fs 0 0 h;have hof:=flat_of js fs 0;generalize zX 0 (fs.map (outJ js))=L at *;intro q hq;obtain⟨i,hi,y,hy,ex⟩:=(hof L[q]).1 (List.getElem_mem _);rw[Nat.zero_add]at ex;have hy1:=(sch_at h i hi).each y hy;rw[Nat.zero_add]at hy1;refine⟨?_,?_⟩
 .rintro ⟨z,hz,z1,z2,z3⟩;obtain⟨q',hq',ez⟩:=List.getElem_of_mem hz;have hq2:q'<q:=by simp at hq';omega
  rw[List.getElem_take]at ez;refine absurd ?_ ((List.pairwise_iff_getElem.1 hn) q' q (by simp;omega) (by simp;omega) hq2);simp only[List.getElem_map,tagF];rw[ez,z1,z2,z3]
 .have hup:nextJ (L.take q) L[q].2.nm<=L[q].2.job+1:=by
   refine nextJ_most _ (fun z hz hzn=>?_);obtain⟨q',hq',ez⟩:=List.getElem_of_mem hz;have hq2:q'<q:=by simp at hq';omega
   rw[List.getElem_take]at ez;obtain⟨i',hi',y',hy',ez'⟩:=(hof L[q']).1 (List.getElem_mem _);rw[Nat.zero_add]at ez';have hy2:=(sch_at h i' hi').each y' hy';rw[Nat.zero_add]at hy2;have hii:=hr q' q (by omega) hq (by omega);rw[ez',ex]at hii;rw[←ez,ez']at hzn;rw[ex]at hzn;rw[←ez,ez',ex];simp only at hzn hii ⊢;rcases Nat.lt_or_ge (jk js y.1).num (jk js y'.1).num with h5|h5
   .have h6:=hj.apart y.1 y'.1 hy1.1 hy2.1 hzn.symm h5;have h7:i'*fr<=i*fr:=Nat.mul_le_mul_right _ hii;omega
   .omega
  have hlo:L[q].2.job<=nextJ (L.take q) L[q].2.nm:=by
   by_cases h0:0<(jk js y.1).num
   .obtain⟨k,hk1,hk2,hk3⟩:=hj.prev y.1 hy1.1 h0;obtain⟨i',hi',y',hy',ey'⟩:=gvF_pos (hd k hk1);have hy2:=(sch_at h i' hi').each y' hy';rw[Nat.zero_add,ey']at hy2;have h6:=hj.apart k y.1 hk1 hy1.1 hk2 (by omega);have hlt:i'<i:=by
     rcases Nat.lt_or_ge i' i with h8|h8
     .exact h8
     .have h7:i*fr<=i'*fr:=Nat.mul_le_mul_right _ h8;omega
    have hm:=(hof (0+i',⟨(jk js y'.1).ltr,(jk js y'.1).num,y'.2⟩)).2 ⟨i',hi',y',hy',rfl⟩;rw[Nat.zero_add]at hm;obtain⟨q',hq',ez⟩:=List.getElem_of_mem hm;have hq2:q'<q:=by
     rcases Nat.lt_or_ge q' q with h8|h8
     .exact h8
     .rcases Nat.eq_or_lt_of_le h8 with h9|h9
      .subst h9;rw[ez]at ex;simp at ex;omega
      .have hii:=hr q q' hq hq' (by omega);rw[ez,ex]at hii;simp only at hii;omega
    have hz:L[q']∈L.take q:=by
     rw[List.mem_iff_getElem];exact⟨q',by simp;omega,by rw[List.getElem_take]⟩
    have h9:=nextJ_least (n:=L[q].2.nm) hz (by rw[ez,ex,ey'];exact hk2);rw[ez,ey']at h9;rw[ex]at h9 ⊢;simp only at h9 ⊢;omega
   .rw[ex];simp only;omega
  omega
theorem plan_sound {js:List Jb}{ps:List Pr}{cyc fr:Nat}(hj:JsOk js cyc)(h1:1<=cyc)(h2:cyc<=60)(hfr:1<=fr)(hdv:cyc%fr=0)(hg:goesJ js ps cyc fr=true):Sound (tabJ js ps cyc fr):=by
 unfold goesJ at hg;unfold tabJ;obtain⟨a1,a2,a3⟩:=plan_ok js ps fr (cyc/fr) 0 (costJ js);unfold runJ at *;generalize planJ js ps fr (cyc/fr) 0 (costJ js)=r at *;have hdone:∀k,k<js.length->r.2 k=0:=fun k hk=>by
  unfold allJ at hg;rw[List.all_eq_true]at hg;have:=hg k (by simpa using hk);simpa using this
 refine⟨h1,h2,?_,?_,?_⟩
 .show fr*(r.1.map (outJ js)).length=cyc;rw[List.length_map,a3];exact Nat.mul_div_cancel' (Nat.dvd_of_mod_eq_zero hdv)
 .intro f hf;obtain⟨g,hg2,rfl⟩:=List.mem_map.1 hf;obtain⟨i,hi,rfl⟩:=List.getElem_of_mem hg2;exact budP_out (sch_at a1 i hi)
 .show JobsP (zX 0 (r.1.map (outJ js)));refine(jobs_same (flatF_rises _ 0)).1 (jobs_ok hj hfr a1 (fun k hk=>?_));have h5:=a2 k;have h6:=hdone k hk;have h7:=hj.cost k hk;unfold costJ at h5;omega
structure TsOk (ts:List Tk) (cyc:Nat):Prop where
 name:(ts.map Tk.nm).Nodup
 len:ts.length<=6
 c1:1<=cyc
 c2:cyc<=60
 each:∀t∈ts,1<=t.P/\cyc%t.P=0/\1<=t.C/\t.C<=t.D/\t.O+t.D<=t.P
def jobA (i:Nat) (t:Tk) (k:Nat):Jb:=⟨t.nm,k,i,k*t.P+t.O,k*t.P+t.O+t.D,t.C⟩
theorem jobsL_mem (cyc:Nat):∀(ts:List Tk) (i0:Nat) (x:Jb),x∈zJ cyc i0 ts↔∃i,∃h:i<ts.length,∃n,n<cyc/ts[i].P/\x=jobA (i0+i) ts[i] n
 | [],i0,x=>by simp[zJ]
 | t::r,i0,x=>by
  rw[zJ,List.mem_append,jobsL_mem cyc r (i0+1) x];constructor
  .rintro (h|⟨i,hi,n,hn,rfl⟩)
   .obtain⟨n,hn,rfl⟩:=List.mem_map.1 h;exact⟨0,by simp,n,by simpa using hn,rfl⟩
   .exact⟨i+1,by simp;omega,n,by simpa using hn,by simp[show i0+1+i=i0+(i+1) by omega]⟩
  .rintro ⟨i,hi,n,hn,rfl⟩
   cases i with
   | zero=>
    left;exact List.mem_map.2 ⟨n,by simpa using hn,rfl⟩
   | succ i=>
    right;exact⟨i,by simpa using hi,n,by simpa using hn,by simp[show i0+1+i=i0+(i+1) by omega]⟩
theorem names_inj {ts:List Tk}(h:(ts.map Tk.nm).Nodup){i j:Nat}(hi:i<ts.length)(hj:j<ts.length)(e:ts[i].nm=ts[j].nm):i=j:=by
 rcases Nat.lt_trichotomy i j with h1|h1|h1
 .exact absurd (by rw[List.getElem_map,List.getElem_map];exact e) ((List.pairwise_iff_getElem.1 h) i j (by simpa using hi) (by simpa using hj) h1)
 .exact h1
 .exact absurd (by rw[List.getElem_map,List.getElem_map];exact e.symm) ((List.pairwise_iff_getElem.1 h) j i (by simpa using hj) (by simpa using hi) h1)
theorem jobsL_tags (cyc:Nat):∀(ts:List Tk) (i0:Nat),(ts.map Tk.nm).Nodup->((zJ cyc i0 ts).map fun x=>(x.ltr,x.num)).Nodup
 | [],i0,_=>by simp[zJ]
 | t::r,i0,h=>by
  rw[List.map_cons,List.nodup_cons]at h;rw[zJ,List.map_append,List.nodup_append];refine⟨?_,jobsL_tags cyc r (i0+1) h.2,?_⟩
  .unfold jobsT;rw[List.map_map];rw[List.Nodup,List.pairwise_map];exact List.nodup_range.imp (fun hne e=>hne (by simpa using e))
  .intro a ha b hb e;obtain⟨x,hx,rfl⟩:=List.mem_map.1 ha;obtain⟨y,hy,rfl⟩:=List.mem_map.1 hb;obtain⟨n,_,rfl⟩:=List.mem_map.1 hx;obtain⟨i,hi,m,_,rfl⟩:=(jobsL_mem cyc r (i0+1) y).1 hy;simp[jobA]at e;exact h.1 (by rw[e.1];exact List.mem_map.2 ⟨r[i],List.getElem_mem _,rfl⟩)
theorem num_win {n P O D cyc:Nat}(h:n<cyc/P)(hm:cyc%P=0)(hP:1<=P)(h2:O+D<=P):n*P+O+D<=cyc:=by
 have h3:(n+1)*P<=cyc/P*P:=Nat.mul_le_mul_right _ h;have h4:=Nat.div_mul_cancel (Nat.dvd_of_mod_eq_zero hm);rw[Nat.add_mul]at h3;omega
theorem jobs_of {ts:List Tk}{cyc:Nat}(h:TsOk ts cyc):JsOk (zJ cyc 0 ts) cyc:=by
 have hm:∀i,i<(zJ cyc 0 ts).length->∃q,∃hq:q<ts.length,∃n,n<cyc/ts[q].P/\jk (zJ cyc 0 ts) i=jobA q ts[q] n:=fun i hi=>by
  have h1:jk (zJ cyc 0 ts) i∈zJ cyc 0 ts:=by rw[jk_get hi];exact List.getElem_mem _
  obtain⟨q,hq,n,hn,e⟩:=(jobsL_mem cyc ts 0 _).1 h1;exact⟨q,hq,n,hn,by rw[e,Nat.zero_add]⟩
 have ht:=jobsL_tags cyc ts 0 h.name;have hin:=fun x=>jobsL_mem cyc ts 0 x;generalize zJ cyc 0 ts=js at *;have hw:∀i,i<js.length->(jk js i).rel+(jk js i).cost<=(jk js i).dl/\(jk js i).dl<=cyc/\1<=(jk js i).cost:=fun i hi=>by
  obtain⟨q,hq,n,hn,e⟩:=hm i hi;obtain⟨t1,t2,t3,t4,t5⟩:=h.each ts[q] (List.getElem_mem _);have:=num_win hn t2 t1 t5;rw[e];simp only[jobA];omega
 refine⟨?_,?_,?_,fun i hi=>(hw i hi).2.2,?_,?_,fun i hi=>(hw i hi).1,fun i hi=>(hw i hi).2.1⟩
 .intro i j hi hj hl hn;obtain⟨q,hq,n,hnn,e⟩:=hm i hi;obtain⟨q',hq',n',hnn',e'⟩:=hm j hj;rw[e,e']at hl hn ⊢;simp only[jobA]at hl hn ⊢;have:=names_inj h.name hq hq' hl;subst this;obtain⟨t1,t2,t3,t4,t5⟩:=h.each ts[q] (List.getElem_mem _);have h3:(n+1)*ts[q].P<=n'*ts[q].P:=Nat.mul_le_mul_right _ hn;rw[Nat.add_mul]at h3;omega
 .intro i j hi hj hl hn;have key:∀i j (hi:i<js.length) (hj:j<js.length),i<j->¬((jk js i).ltr=(jk js j).ltr/\(jk js i).num=(jk js j).num):=fun i j hi hj hij hh=>by
   refine absurd ?_ ((List.pairwise_iff_getElem.1 ht) i j (by simpa using hi) (by simpa using hj) hij);simp only[List.getElem_map];rw[←jk_get hi,←jk_get hj,hh.1,hh.2]
  rcases Nat.lt_trichotomy i j with h1|h1|h1
  .exact absurd ⟨hl,hn⟩ (key i j hi hj h1)
  .exact h1
  .exact absurd ⟨hl.symm,hn.symm⟩ (key j i hj hi h1)
 .intro i hi hn;obtain⟨q,hq,n,hnn,e⟩:=hm i hi;rw[e]at hn ⊢;simp only[jobA]at hn ⊢;have hx:=(hin (jobA q ts[q] (n-1))).2 ⟨q,hq,n-1,by omega,by rw[Nat.zero_add]⟩;obtain⟨j,hj,ej⟩:=List.getElem_of_mem hx;refine⟨j,hj,?_⟩;rw[jk_get hj,ej];simp only[jobA];refine⟨trivial,by omega⟩
 .intro i j hi hj;obtain⟨q,hq,n,hnn,e⟩:=hm i hi;obtain⟨q',hq',n',hnn',e'⟩:=hm j hj;rw[e,e'];simp only[jobA];constructor
  .intro h1;subst h1;rfl
  .exact names_inj h.name hq hq'
 .intro i hi;obtain⟨q,hq,n,hnn,e⟩:=hm i hi;rw[e];simp only[jobA];have:=h.len;omega
theorem jobsT_len (cyc i:Nat)(t:Tk):(jobsT cyc i t).length=cyc/t.P:=by simp[jobsT]
theorem jobsL_len {cyc:Nat}(hc:cyc<=60):∀(ts:List Tk) (i:Nat),(zJ cyc i ts).length<=60*ts.length
 | [],i=>by simp[zJ]
 | t::r,i=>by
  have ih:=jobsL_len hc r (i+1);have h1:cyc/t.P<=cyc:=Nat.div_le_self _ _;rw[zJ,List.length_append,jobsT_len,List.length_cons];omega
theorem jobs_few {ts:List Tk}{cyc:Nat}(h:TsOk ts cyc):(zJ cyc 0 ts).length<=360:=by
 have h1:=jobsL_len h.c2 ts 0;have h2:=h.len;omega
section
open Go.RowKit
theorem busy_iff {js:List Jb}{left:Nat->Nat}{c:UInt8}:busyN js left c=true↔∃k,k<js.length/\(jk js k).ltr=c/\0<left k/\left k<(jk js k).cost:=by
 unfold busyN;rw[List.any_eq_true];constructor
 .rintro ⟨k,h1,h2⟩;simp at h1 h2;exact⟨k,h1,h2.1,h2.2.1,h2.2.2⟩
 .rintro ⟨k,h1,h2,h3,h4⟩;exact⟨k,by simpa using h1,by simp[h2,h3,h4]⟩
theorem busy_of {js:List Jb}{left:Nat->Nat}{c:UInt8}{T:List Nat}(hT:∀k,k∈T↔k<js.length/\(jk js k).ltr=c):busyN js left c=true↔∃i,i<T.length/\0<left (gd T i)/\left (gd T i)<(jk js (gd T i)).cost:=by
 rw[busy_iff];constructor
 .rintro ⟨k,h1,h2,h3,h4⟩;obtain⟨i,hi,e⟩:=mem_gd ((hT k).2 ⟨h1,h2⟩);exact⟨i,hi,by rw[e];exact h3,by rw[e];exact h4⟩
 .rintro ⟨i,hi,h3,h4⟩;obtain⟨h1,h2⟩:=(hT _).1 (gd_mem hi);exact⟨_,h1,h2,h3,h4⟩
structure PlR (js:List Jb) (bl left:Nat->Nat) (P M:Nat) (es:List (UInt8×Value)) (c0 c2 v:Value) (w:World):Prop where
 blk:w.heap[P]? =some (.cells #[c0,.map (some M),c2,v] 221 (0,0))
 jobs:JobsAt js bl left w
 map:MapAt js bl M es w
theorem PlR.same {js:List Jb}{bl left:Nat->Nat}{P M:Nat}{es:List (UInt8×Value)}{c0 c2 v:Value}{w w':World}(h:PlR js bl left P M es c0 c2 v w)(e:w'.heap=w.heap):PlR js bl left P M es c0 c2 v w':=
 ⟨by rw[e];exact h.blk,h.jobs.same e,h.map.same e⟩
structure Idle (w w':World):Prop where
 h:w'.heap=w.heap
 f:Frm (fun _=>False) w w'
theorem Idle.refl (w:World):Idle w w:=⟨rfl,Frm.refl _ _⟩
theorem Idle.trans {a b c:World}(h:Idle a b)(k:Idle b c):Idle a c:=⟨k.h.trans h.h,h.f.trans k.f⟩
theorem busy_any (js:List Jb)(bl left:Nat->Nat)(P M:Nat)(es:List (UInt8×Value))(c0 c2 v:Value)(w:World)(h:PlR js bl left P M es c0 c2 v w)(c:UInt8)(hc:∃x∈es,x.1=c):
  Calls Tryz.prog 209 #[.pointer (some ⟨P,0,none⟩),.string (bs [c])] w fun e w'=>e=.returned (.bool (busyN js left c))/\Idle w w':=by
 have c1:w.cell? ⟨P,1,none⟩=some (.map (some M)):=by rw[zC h.blk];rfl
 rcases h.map.m.look c with⟨h1,_⟩|⟨j,x,hj,hx,hlk⟩
 .obtain⟨x,hx,e⟩:=hc;exact absurd e (h1 x hx)
 .obtain⟨T,hR,hT1,hT2,hT3⟩:=h.map.each x (List.mem_of_getElem? hj);rw[hx]at hT2;obtain⟨a,cap,hv,hcell⟩:=hR.cells;rw[hv]at hlk;unfold ltV at hlk;have HJ:=hide h.jobs;have HB:=hide (busy_of (left:=left) hT2);have HT:=hide hT2;have HC:=hide hcell;clear h hT2 hT3 hR hv hx hj hc hcell;generalize busyN js left c=bb at *;go_enter Tryz.func209,Tryz.ntmps209;go_wp2_with fail;clear hlk c1
  go_loopw [14] (fun iv wr=>∃i:Nat,i<=T.length/\iv=.int .i64 i/\Idle w wr/\∀q,q<i->¬(0<left (gd T q)/\left (gd T q)<(jk js (gd T q)).cost)) (fun iv _=>T.length-(intOf iv).toNat)
  case atStart=>exact⟨0,by omega,rfl,Idle.refl _,fun q h=>by omega⟩
  case round=>
   obtain⟨i,hi,rfl,hid,hno⟩:=hrel;have HI:=hide hid;have HN:=hide hno;clear hid hno;by_cases hlt:i<T.length
   .have hlt':(i:Int)<T.length:=by omega
    obtain⟨g,rfl,hg⟩:=HC.out i hlt;have hg':wr.cell? ⟨g,i,none⟩=some (.pointer (some ⟨bl (gd T i),0,none⟩)):=by rw[←hg];simp only[World.cell?,HI.out.h]
    have hk:=(HT.out _).1 (gd_mem hlt);have CU:=hide (underWay_any (jk js (gd T i)) (left (gd T i)) (bl (gd T i)) wr (by rw[HI.out.h];exact HJ.out _ hk.1));clear hg hk;by_cases hu:0<left (gd T i)/\left (gd T i)<(jk js (gd T i)).cost
    .rw[decide_eq_true hu.1,decide_eq_true hu.2,Bool.true_and]at CU;have hb:bb=true:=HB.out.2 ⟨i,hlt,hu⟩;subst hb;clear hu HB HN;go_wp2_with (go_at_call 211;refine CU.out.mono ?_;rintro e w1 ⟨rfl,hh1,hf1⟩;have HI1:=hide (HI.out.trans ⟨hh1,hf1⟩);clear hh1 hf1);go_ret;exact⟨rfl,HI1.out⟩
    .have hdn:(decide (0<left (gd T i))&&decide (left (gd T i)<(jk js (gd T i)).cost))=false:=by
      rw[←Bool.not_eq_true,Bool.and_eq_true,decide_eq_true_eq,decide_eq_true_eq];exact hu
     rw[hdn]at CU;have HN2:Hid (∀q,q<i+1->¬(0<left (gd T q)/\left (gd T q)<(jk js (gd T q)).cost)):=fun q hq=>by
      rcases Nat.lt_or_ge q i with h5|h5
      .exact HN.out q h5
      .have:q=i:=by omega
       subst this;exact hu
     clear hu hdn HN;go_wp2_with (go_at_call 211;refine CU.out.mono ?_;rintro e w1 ⟨rfl,hh1,hf1⟩;have HI1:=hide (HI.out.trans ⟨hh1,hf1⟩);clear hh1 hf1);go_roundw
     case rel=>exact⟨i+1,by omega,by go_num,HI1.out,HN2.out⟩
     case measure=>simp[intOf];omega
   .have hlt':¬(i:Int)<T.length:=by omega
    have hb:bb=false:=by
     cases hbb:bb with
     | false=>rfl
     | true=>
      obtain⟨q,hq,h5⟩:=HB.out.1 hbb;exact absurd h5 (HN.out q (by omega))
    subst hb;clear HN HB;go_wp2_with fail;go_ret;exact⟨rfl,HI.out⟩
theorem PlR.keep {js:List Jb}{bl left:Nat->Nat}{P M:Nat}{es:List (UInt8×Value)}{c0 c2 v:Value}{w w':World}(h:PlR js bl left P M es c0 c2 v w)(hf:Frm (fun _=>False) w w'):PlR js bl left P M es c0 c2 v w':=
 ⟨hf.blk h.blk (fun x=>x),h.jobs.keep hf (fun _ _ x=>x),h.map.keep hf (fun x=>x) (fun _ _ _ _ x=>x)⟩
theorem done_of {js:List Jb}{cyc:Nat}(hj:JsOk js cyc){left:Nat->Nat}{c:UInt8}{n i:Nat}(hi:i<js.length)(h1:(jk js i).ltr=c)(h2:(jk js i).num=n):doneN js left c n=decide (left i=0):=by
 unfold doneN;rw[Bool.eq_iff_iff,List.all_eq_true,decide_eq_true_eq];constructor
 .intro h;have:=h i (by simpa using hi);simpa [h1,h2] using this
 .intro h k hk;by_cases e:(jk js k).ltr=c/\(jk js k).num=n
  .have:=hj.one k i (by simpa using hk) hi (by rw[e.1,h1]) (by rw[e.2,h2]);subst this;simp[h]
  .simp;left;exact Decidable.not_and_iff_or_not.1 e
theorem ppA_cells {w:World}{X:Nat}{p:Pr}{ty:TypeId}(h:w.heap[X]? =some (.cells (ppA p) ty (0,0))):
  w.cell? ⟨X,0,none⟩=some (.string (bs (pW p)))/\w.cell? ⟨X,1,none⟩=some (.string (bs [p.a]))/\w.cell? ⟨X,2,none⟩=some (.int .i64 p.q0)/\w.cell? ⟨X,3,none⟩=some (.string (bs [p.b]))/\w.cell? ⟨X,4,none⟩=some (.int .i64 p.q1):=by
 simp only[zC h];exact⟨rfl,rfl,rfl,rfl,rfl⟩
theorem ltr_eq (a c:UInt8):((bs [a]).toList==(bs [c]).toList)=decide (a=c):=bs_one_eq a c
theorem holdsUp_any (js:List Jb)(cyc:Nat)(hjs:JsOk js cyc)(bl left:Nat->Nat)(P M:Nat)(es:List (UInt8×Value))(c0 c2 v:Value)(w:World)(h:PlR js bl left P M es c0 c2 v w)(p:Pr)(hpa:∃x∈es,x.1=p.a)(hpb:∃x∈es,x.1=p.b)(k:Nat)(hk:k<js.length)(hbf:p.ap=false->(jk js k).ltr=p.b->∃i,i<js.length/\(jk js i).ltr=p.a/\(jk js i).num=(jk js k).num):
  Calls Tryz.prog 204 #[.pointer (some ⟨P,0,none⟩),.agg #[.string (bs (pW p)),.string (bs [p.a]),.int .i64 p.q0,.string (bs [p.b]),.int .i64 p.q1],.pointer (some ⟨bl k,0,none⟩)] w fun e w'=>e=.returned (.bool (holdsN js left k p))/\Frm (fun _=>False) w w':=by
 have hX0:=ppA_cells (zW w (ppA p) 175);have F0:=hide ((Frm.refl (fun _=>False) w).alloc (.cells (ppA p) 175));have H0:=hide (h.keep F0.out);unfold ppA at hX0 F0 H0;have hW:((bs (pW p)).toList==[98,101,102,111,114,101])=!p.ap:=by
  rw[ByteArray.toList_eq,bs_data];unfold pW
  cases p.ap<;>rfl
 have Hbf:=hide hbf;have Hpa:=hide hpa;have Hpb:=hide hpb;have Hjs:=hide hjs;clear h hbf hpa hpb hjs;have HD:Hid (holdsN js left k p=if p.ap=false then (jk js k).ltr==p.b&&!doneN js left p.a (jk js k).num else if (jk js k).ltr=p.a then busyN js left p.b else if (jk js k).ltr=p.b then busyN js left p.a else false):=rfl;go_enter Tryz.func204,Tryz.ntmps204;go_wp2_with fail;generalize w.alloc (.cells #[.string (bs (pW p)),.string (bs [p.a]),.int .i64 p.q0,.string (bs [p.b]),.int .i64 p.q1] 175)=wr at *;obtain⟨y0,y1,y2,y3,y4⟩:=hX0;generalize w.heap.size=X at *;have jb0:=H0.out.jobs k hk;have j0:wr.cell? ⟨bl k,0,none⟩=some (.string (bs [(jk js k).ltr])):=by rw[zC jb0];rfl
 have j1:wr.cell? ⟨bl k,1,none⟩=some (.int .i64 (jk js k).num):=by rw[zC jb0];rfl
 clear jb0;have p1:wr.cell? ⟨P,1,none⟩=some (.map (some M)):=by rw[zC H0.out.blk];rfl
 cases hap:p.ap with
 | false=>
  rw[hap,if_pos rfl]at HD;rw[hap]at hW;by_cases hb:(jk js k).ltr=p.b
  .obtain⟨i,hi1,hi2,hi3⟩:=Hbf.out hap hb;have hdn:=done_of Hjs.out (left:=left) hi1 hi2 hi3;rw[hdn,hb,beq_self_eq_true,Bool.true_and]at HD;have hs:((bs [(jk js k).ltr]).toList==(bs [p.b]).toList)=true:=by rw[ltr_eq,decide_eq_true hb]
   .obtain⟨x,hxm,hx⟩:=Hpa.out;obtain⟨T,hR,hT1,hT2,hT3⟩:=H0.out.map.each x hxm;rw[hx]at hT2;obtain⟨q,hq,eq⟩:=mem_gd ((hT2 i).2 ⟨hi1,hi2⟩);have eqn:=hT3 q hq;rw[eq,hi3]at eqn;obtain⟨a,cap,hv,hcell⟩:=hR.cells;obtain⟨g,rfl,hg⟩:=hcell q hq;have Hlk:Hid (∀W:World,W.heap=wr.heap->(Instr.lookup 217 (.map (some M)) (.string (bs [p.a])) false).run Tryz.prog W=.ok (.slice (some ⟨g,0,none⟩) T.length cap) W):=fun W hW=>by
     have:=H0.out.map.look hxm W hW;rw[hx,hv]at this;exact this
    rw[eq,←eqn]at hg;have hqi:((jk js k).num:Int)<T.length:=by omega
    have CD:Hid (∀W:World,W.heap=wr.heap->Calls Tryz.prog 176 #[.pointer (some ⟨bl i,0,none⟩)] W fun e w'=>e=.returned (.bool (decide (left i=0)))/\w'=W):=fun W e=>isDone_any (jk js i) (left i) (bl i) W (by rw[e];exact H0.out.jobs i hi1);clear hR hT1 hT2 hT3 hcell hxm hx eq eqn hdn hq hv hb hi2 hi3 hap Hbf Hpa Hpb Hjs;generalize T.length=tl at *;generalize (jk js k).num=nm at *;generalize decide (left i=0)=dd at *
    go_quiet (fail)
    have hlk:∀n,(Instr.lookup 217 (.map (some M)) (.string (bs [p.a])) false).run Tryz.prog ((wr.drewN nq).drewN n)=.ok (.slice (some ⟨g,0,none⟩) tl cap) ((wr.drewN nq).drewN n):=fun n=>Hlk.out _ rfl;have hlk2:∀n,(Instr.lookup 217 (.map (some M)) (.string (bs [p.a])) false).run Tryz.prog (wr.drewN n)=.ok (.slice (some ⟨g,0,none⟩) tl cap) (wr.drewN n):=fun n=>Hlk.out _ rfl;have CDQ:Hid (∀x,Calls Tryz.prog 176 #[.pointer (some ⟨bl i,0,none⟩)] (wr.drewN (nq+x)) fun e w'=>e=.returned (.bool dd)/\∃n,w'=wr.drewN (nq+n)):=fun x=>(CD.out (wr.drewN (nq+x)) rfl).mono (fun e w' h=>⟨h.1,x,h.2⟩);clear Hlk CD;go_wp2_with fail
    go_quiet (first|(go_at_call 176;exact CDQ.out _))
    go_wp2_with fail;go_ret;exact⟨by rw[HD.out];rfl,F0.out.trans (Frm.sames rfl rfl rfl rfl)⟩
  .have hs:((bs [(jk js k).ltr]).toList==(bs [p.b]).toList)=false:=by rw[ltr_eq,decide_eq_false hb]
   rw[beq_eq_false_iff_ne.2 hb,Bool.false_and]at HD;clear hb hap Hbf Hpa Hpb Hjs
   go_quiet (fail)
   go_wp2_with fail
   go_quiet (fail)
   go_wp2_with fail;go_ret;exact⟨by rw[HD.out];rfl,F0.out.trans (Frm.sames rfl rfl rfl rfl)⟩
 | true=>
  rw[hap,if_neg (by simp)]at HD;rw[hap]at hW;by_cases ha:(jk js k).ltr=p.a
  .have hs:((bs [(jk js k).ltr]).toList==(bs [p.a]).toList)=true:=by rw[ltr_eq,decide_eq_true ha]
   rw[if_pos ha]at HD;have CB:Hid (∀W:World,W.heap=wr.heap->Calls Tryz.prog 209 #[.pointer (some ⟨P,0,none⟩),.string (bs [p.b])] W fun e w'=>e=.returned (.bool (busyN js left p.b))/\Idle W w'):=fun W e=>busy_any js bl left P M es c0 c2 v W (H0.out.same e) p.b Hpb.out;clear ha hap Hbf Hpa Hpb Hjs
   go_quiet (fail)
   go_wp2_with (go_at_call 209;refine(CB.out (wr.drewN nq) rfl).mono ?_;rintro e w1 ⟨rfl,hid⟩;have F1:=hide ((F0.out.trans (Frm.sames (b:=wr.drewN nq) rfl rfl rfl rfl)).trans hid.f);clear hid);go_ret;exact⟨by rw[HD.out];rfl,F1.out⟩
  .have hs:((bs [(jk js k).ltr]).toList==(bs [p.a]).toList)=false:=by rw[ltr_eq,decide_eq_false ha]
   rw[if_neg ha]at HD;by_cases hb:(jk js k).ltr=p.b
   .have hs2:((bs [(jk js k).ltr]).toList==(bs [p.b]).toList)=true:=by rw[ltr_eq,decide_eq_true hb]
    rw[if_pos hb]at HD;have CB:Hid (∀W:World,W.heap=wr.heap->Calls Tryz.prog 209 #[.pointer (some ⟨P,0,none⟩),.string (bs [p.a])] W fun e w'=>e=.returned (.bool (busyN js left p.a))/\Idle W w'):=fun W e=>busy_any js bl left P M es c0 c2 v W (H0.out.same e) p.a Hpa.out;clear ha hb hap Hbf Hpa Hpb Hjs
    go_quiet (fail)
    go_wp2_with (go_at_call 209;refine(CB.out (wr.drewN nq) rfl).mono ?_;rintro e w1 ⟨rfl,hid⟩;have F1:=hide ((F0.out.trans (Frm.sames (b:=wr.drewN nq) rfl rfl rfl rfl)).trans hid.f);clear hid);go_ret;exact⟨by rw[HD.out];rfl,F1.out⟩
   .have hs2:((bs [(jk js k).ltr]).toList==(bs [p.b]).toList)=false:=by rw[ltr_eq,decide_eq_false hb]
    rw[if_neg hb]at HD;clear ha hb hap Hbf Hpa Hpb Hjs
    go_quiet (fail)
    go_wp2_with fail;go_ret;exact⟨by rw[HD.out];rfl,F0.out.trans (Frm.sames rfl rfl rfl rfl)⟩
end
end Go.Proofs.YtbdffcjganlblaaGreatDoor
