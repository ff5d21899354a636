import Derived.Test.YtbdffcjganlblaaGreatDoorAProgDtoProgE
import Derived.Deep.RegionLaw
import Derived.RegionDies
import Derived.Test.YtbdffcjganlblaaGreatDoorARefRtoProgA
import Derived.Deep.RegionWith
import Derived.Deep.DeepCutAuto
set_option linter.unusedVariables false
set_option linter.unusedSimpArgs false
set_option maxRecDepth 100000
set_option maxHeartbeats 16000000
namespace Go.Proofs.YtbdffcjganlblaaGreatDoor
section
open Go.RowKit
theorem step_append_own {P:Program}{ops:Array Oper}{o:Oper}{a:Act}{w:World}{K:Act->World->Prop}{Q:Exit->Act->World->Prop}{E:Prop}
  (hg:o.guard=none) (s x:Operand) (t:TypeId) (hop:o.op=Op.call { callee:=Callee.builtin Builtin.append,args:=#[s,x],argTypes:=#[t,t] })
  (base:Nat) (e:TypeId) (i:TypeInfo) (z:Value) (size bytes:Nat) (h1:P.underlying t=some (.slice e)) (h2:P.info? e=some i) (h3:i.zero=some z) (h4:i.size=size) (h5:i.bytes=bytes) (h6:z.cells.size=size) (h7:0<size)
  (v:Value) (n:Nat) (xs:List Value) (hs:a.eval s=v) (hown:w.ownsRow base e size v n xs)
  (ad:Addr) (m c:Nat) (news:List Value) (hx:a.eval x=.slice (some ad) m c) (hn:news.length=m*size) (hc:∀j u,news[j]? =some u->w.cell? (ad.add j)=some u) (h1c:∀u∈news,u.oneCell'=true)
  (b1:n+m<=maxLen) (b2:(n+m)*bytes<=140737488355328) (hb:base<=w.heap.size)
  (hK:∀v' w',w'.ownsRow base e size v' (n+m) (xs++news)->w.grownBy w' v.ownBlock->K (a.put o.dst v') w'):
  if Region.wanted o (yielded ops a.tmps)=true then Oper.wp P o a w K Q else E:=by
 have hw:Region.wanted o (yielded ops a.tmps)=true:=by simp[Region.wanted,hg]
 rw[if_pos hw];obtain⟨v',w',hrun,r1,r2,_⟩:=run_append_own (P:=P) w base t o.type e i z size bytes h1 h2 h3 h4 h5 h6 h7 v n xs hown ad m c news hn hc h1c b1 b2 hb;unfold Oper.wp;simp[execOp,hop,resolve,invoke,builtin,hs,hx,hrun,Result.andThen];exact hK v' w' r1 r2
section
variable {w:World} {b:Nat} {s:ByteArray} {i:Nat}
def Bad {α:Type} (T:List PT) (R:Except Nat (α×Nat)) (j:Nat):Prop:=R=.error j\/((∃a,R=.ok (a,j))/\(tk T j).k=120)
def Good {α:Type} (T:List PT) (R:Except Nat (α×Nat)) (a:α) (j:Nat):Prop:=R=.ok (a,j)/\(tk T j).k≠120
theorem bad_or_good {α:Type}(T:List PT)(R:Except Nat (α×Nat)):(∃j,Bad T R j)\/(∃a j,Good T R a j):=by
 cases R with
 | error j=>exact .inl ⟨j,.inl rfl⟩
 | ok x=>
  obtain⟨a,j⟩:=x;by_cases h:(tk T j).k=120
  .exact .inl ⟨j,.inr ⟨⟨a,rfl⟩,h⟩⟩
  .exact .inr ⟨a,j,rfl,h⟩
theorem bad_one {α:Type}{T:List PT}{R:Except Nat (α×Nat)}{j k:Nat}(h:Bad T R j)(h':Bad T R k):k=j:=by
 rcases h with h|⟨⟨a,h⟩,_⟩<;>rcases h' with h' | ⟨⟨a',h'⟩,_⟩<;>rw[h]at h'
 .injection h' with h';exact h'.symm
 .cases h'
 .cases h'
 .injection h' with h';injection h' with _ h';exact h'.symm
theorem good_not_bad {α:Type}{T:List PT}{R:Except Nat (α×Nat)}{a:α}{j k:Nat}(h:Good T R a j)(h':Bad T R k):False:=by
 obtain⟨h,hk⟩:=h;rcases h' with h' | ⟨⟨a',h'⟩,h2⟩<;>rw[h]at h'
 .cases h'
 .injection h' with h';injection h' with _ h';subst h';exact hk h2
theorem gout_bad {α:Type}{er:Nat}{R:Except Nat (α×Nat)}{V:α->Value->Prop}{en:Ending}{w':World}(h:GOut er s b w R V en w'){j:Nat}(hb:Bad (zT s.data.toList) R j):en=pan er (tk (zT s.data.toList) j).at_/\w.grownBy w' (some b):=by
 obtain⟨hg,⟨k,he,hk⟩|⟨a,k,v,hR,hrs,he,hV⟩⟩:=h
 .have:=bad_one hb hk;subst this;exact⟨he,hg⟩
 .exact(good_not_bad ⟨hR,hrs.hk⟩ hb).elim
theorem gout_good {α:Type}{er:Nat}{R:Except Nat (α×Nat)}{V:α->Value->Prop}{en:Ending}{w':World}(h:GOut er s b w R V en w'){a:α}{j:Nat}(hb:Good (zT s.data.toList) R a j):∃v,en=.returned v/\V a v/\RS er w' b s j/\w.grownBy w' (some b):=by
 obtain⟨hg,⟨k,he,hk⟩|⟨a',k,v,hR,hrs,he,hV⟩⟩:=h
 .exact(good_not_bad hb hk).elim
 .obtain⟨h1,h2⟩:=hb;rw[h1]at hR;injection hR with hR;injection hR with e1 e2;subst e1 e2;exact⟨v,he,hV,hrs,hg⟩
theorem takeTask_bad (h:RS 2 w b s i){j:Nat}(hb:Bad (zT s.data.toList) (pTaskR (zT s.data.toList) i) j):
  Calls Tryz.prog 120 #[.pointer (some ⟨b,0,none⟩)] w fun en w'=>en=pan 2 (tk (zT s.data.toList) j).at_/\w.grownBy w' (some b):=
 (takeTask_any h).mono fun _ _ h'=>gout_bad h' hb
theorem takeTask_good (h:RS 2 w b s i){t:Tk}{j:Nat}(hb:Good (zT s.data.toList) (pTaskR (zT s.data.toList) i) t j):
  Calls Tryz.prog 120 #[.pointer (some ⟨b,0,none⟩)] w fun en w'=>∃z,en=.returned (ptRaw [t.nm] t.q0 t.P t.q1 t.O z t.C t.q3 t.D t.q4)/\(z=t.q2\/t.O=0)/\RS 2 w' b s j/\w.grownBy w' (some b):=
 (takeTask_any h).mono fun _ _ h'=>by
  obtain⟨v,he,⟨z,hv,hz⟩,hrs,hg⟩:=gout_good h' hb;exact⟨z,by rw[he,hv],hz,hrs,hg⟩
theorem takePair_bad (h:RS 2 w b s i)(hw:(sees (tk (zT s.data.toList) i) wBefore||sees (tk (zT s.data.toList) i) wApart)=true){j:Nat}(hb:Bad (zT s.data.toList) (pPairR (zT s.data.toList) i) j):
  Calls Tryz.prog 123 #[.pointer (some ⟨b,0,none⟩)] w fun en w'=>en=pan 2 (tk (zT s.data.toList) j).at_/\w.grownBy w' (some b):=
 (takePair_any h hw).mono fun _ _ h'=>gout_bad h' hb
theorem takePair_good (h:RS 2 w b s i)(hw:(sees (tk (zT s.data.toList) i) wBefore||sees (tk (zT s.data.toList) i) wApart)=true){p:Pr}{j:Nat}(hb:Good (zT s.data.toList) (pPairR (zT s.data.toList) i) p j):
  Calls Tryz.prog 123 #[.pointer (some ⟨b,0,none⟩)] w fun en w'=>en=.returned (ppRaw (if p.ap then [97,112,97,114,116] else [98,101,102,111,114,101]) [p.a] p.q0 [p.b] p.q1)/\RS 2 w' b s j/\w.grownBy w' (some b):=
 (takePair_any h hw).mono fun _ _ h'=>by
  obtain⟨v,he,hV,hrs,hg⟩:=gout_good h' hb;exact⟨by rw[he];exact congrArg _ hV,hrs,hg⟩
end
def TaskP (T:List PT) (i:Nat) (ts:List Tk):Prop:=
 1<=ts.length/\ts.length<=6/\
 pFirst T=if decide (ts.length<6)&&sees (tk T i) wTask then (match pTasks (6-ts.length) T (i+1) with
   | .error e=>.error e
   | .ok (ts',k)=>.ok (ts++ts',k)) else .ok (ts,i)
theorem pTasks_step (f:Nat)(T:List PT)(i:Nat){t:Tk}{j:Nat}(h:pTask T i=.ok (t,j)):pTasks (f+1) T i=if decide (0<f)&&sees (tk T j) wTask then (match pTasks f T (j+1) with
   | .error e=>.error e
   | .ok (ts,k)=>.ok (t::ts,k)) else .ok ([t],j):=by rw[pTasks,h];rfl
theorem pTasks_err (f:Nat)(T:List PT)(i:Nat){j:Nat}(h:pTask T i=.error j):pTasks (f+1) T i=.error j:=by rw[pTasks,h]
theorem taskP_first {T:List PT}{t:Tk}{j:Nat}(h:pTaskR T 0=.ok (t,j)):TaskP T j [t]:=by
 unfold pTaskR at h;split at h
 .rename_i hs;refine⟨by simp,by simp,?_⟩;unfold pFirst;rw[if_pos hs,pTasks_step 5 T 1 h];rfl
 .simp at h
theorem first_bad {T:List PT}{j:Nat}(h:Bad T (pTaskR T 0) j):∃k,pSet T=.error k/\(tk T k).at_=(tk T j).at_:=by
 refine⟨j,?_,rfl⟩;rcases h with h|⟨⟨t,h⟩,hk⟩
 .unfold pTaskR at h;unfold pSet pFirst;split at h
  .rename_i hs;rw[if_pos hs,pTasks_err 5 T 1 h]
  .rename_i hs;injection h with h;subst h;rw[if_neg hs]
 .have hP:=(taskP_first h).2.2;obtain⟨x1,x2,x3,x4,x5⟩:=x_no hk;rw[x1]at hP;simp at hP;unfold pSet;rw[hP];simp only[pPairs,x1];simp[x5]
theorem pFirst_end {T:List PT}{ts:List Tk}{i:Nat}(h:pFirst T=.ok (ts,i))(hk:(tk T i).k=120):pSet T=.error i:=by
 obtain⟨x1,x2,x3,x4,x5⟩:=x_no hk;unfold pSet;rw[h];simp only[pPairs,x1];simp[x5]
theorem taskP_more {T:List PT}{i:Nat}{ts:List Tk}(h:TaskP T i ts)(hn:ts.length<6)(hs:sees (tk T i) wTask=true):
  (∀t j,pTaskR T i=.ok (t,j)->TaskP T j (ts++[t]))/\(∀j,Bad T (pTaskR T i) j->pSet T=.error j):=by
 obtain⟨h1,h6,hP⟩:=h;have hR:pTaskR T i=pTask T (i+1):=by unfold pTaskR;rw[if_pos hs]
 obtain⟨f,hf⟩:∃f,6-ts.length=f+1:=⟨5-ts.length,by omega⟩;rw[hs,hf]at hP;simp only[hn,decide_true,Bool.true_and,if_true]at hP;have good:∀t j,pTaskR T i=.ok (t,j)->TaskP T j (ts++[t]):=by
  intro t j hj;rw[hR]at hj;rw[pTasks_step f T (i+1) hj]at hP;refine⟨by simp,by simp;omega,?_⟩;rw[hP];have hd:decide (0<f)=decide ((ts++[t]).length<6):=by simp;omega
  rw[hd]
  cases hc:(decide ((ts++[t]).length<6)&&sees (tk T j) wTask)
  .simp
  .simp only[if_true];rw[show 6-(ts++[t]).length=f by simp;omega];generalize pTasks f T (j+1)=R
   cases R<;>simp
 refine⟨good,?_⟩;intro j hb;rcases hb with hb|⟨⟨t,hb⟩,hk⟩
 .rw[hR]at hb;rw[pTasks_err f T (i+1) hb]at hP;unfold pSet;rw[hP]
 .have h2:=(good t j hb).2.2;obtain⟨x1,x2,x3,x4,x5⟩:=x_no hk;rw[x1]at h2;simp at h2;exact pFirst_end h2 hk
theorem taskP_done {T:List PT}{i:Nat}{ts:List Tk}(h:TaskP T i ts)(hn:(decide (ts.length<6)&&sees (tk T i) wTask)=false):pFirst T=.ok (ts,i):=by
 rw[h.2.2,hn];simp
def PairP (T:List PT) (i:Nat) (ts:List Tk) (ps:List Pr):Prop:=
 ps.length<=6/\∃j0,pFirst T=.ok (ts,j0)/\pPairs 6 T j0=match pPairs (6-ps.length) T i with
   | .error e=>.error e
   | .ok (ps',k)=>.ok (ps++ps',k)
theorem pairP_start {T:List PT}{i:Nat}{ts:List Tk}(h:pFirst T=.ok (ts,i)):PairP T i ts []:=by
 refine⟨by simp,i,h,?_⟩;simp only[List.length_nil,Nat.sub_zero];generalize pPairs 6 T i=R
 cases R<;>simp
theorem pairP_done {T:List PT}{i:Nat}{ts:List Tk}{ps:List Pr}(h:PairP T i ts ps)(hn:((sees (tk T i) wBefore||sees (tk T i) wApart)&&decide (ps.length<6))=false):
  ((tk T i).k=101->pSet T=.ok (ts,ps))/\((tk T i).k≠101->pSet T=.error i):=by
 obtain⟨h6,j0,hF,hP⟩:=h;have hq:pPairs (6-ps.length) T i=.ok ([],i):=by
  cases hc:6-ps.length with
  | zero=>rfl
  | succ f=>
   have hlt:ps.length<6:=by omega
   simp only[hlt,decide_true,Bool.and_true]at hn;rw[pPairs,hn];rfl
 rw[hq]at hP;simp only[List.append_nil]at hP;unfold pSet;rw[hF];simp only[hP];constructor
 .intro hk;simp[hk]
 .intro hk;simp[hk]
theorem pairP_more {T:List PT}{i:Nat}{ts:List Tk}{ps:List Pr}(h:PairP T i ts ps)(hn:ps.length<6)(hs:(sees (tk T i) wBefore||sees (tk T i) wApart)=true):
  (∀p j,pPairR T i=.ok (p,j)->PairP T j ts (ps++[p]))/\(∀j,Bad T (pPairR T i) j->pSet T=.error j):=by
 obtain⟨h6,j0,hF,hP⟩:=h;obtain⟨f,hf⟩:∃f,6-ps.length=f+1:=⟨5-ps.length,by omega⟩;rw[hf]at hP;have hp:pPairs (f+1) T i=match pPairR T i with
   | .error e=>.error e
   | .ok (p,j)=>
    match pPairs f T j with
    | .error e=>.error e
    | .ok (ps,k)=>.ok (p::ps,k):=by rw[pPairs,if_pos hs];rfl
 rw[hp]at hP;have good:∀p j,pPairR T i=.ok (p,j)->PairP T j ts (ps++[p]):=by
  intro p j hj;rw[hj]at hP;refine⟨by simp;omega,j0,hF,?_⟩;rw[hP];simp only;rw[show 6-(ps++[p]).length=f by simp;omega];generalize pPairs f T j=R
  cases R<;>simp
 refine⟨good,?_⟩;intro j hb;rcases hb with hb|⟨⟨p,hb⟩,hk⟩
 .rw[hb]at hP;unfold pSet;rw[hF];simp only[hP]
 .obtain⟨x1,x2,x3,x4,x5⟩:=x_no hk;exact(pairP_done (good p j hb) (by rw[x1,x1];rfl)).2 (by omega)
def ptC (x:Tk×Nat):List Value:=[.string (bs [x.1.nm]),.int .i64 x.1.q0,.int .i64 x.1.P,.int .i64 x.1.q1,.int .i64 x.1.O,.int .i64 x.2,.int .i64 x.1.C,.int .i64 x.1.q3,.int .i64 x.1.D,.int .i64 x.1.q4]
def ppC (p:Pr):List Value:=[.string (bs (if p.ap then [97,112,97,114,116] else [98,101,102,111,114,101])),.string (bs [p.a]),.int .i64 p.q0,.string (bs [p.b]),.int .i64 p.q1]
def ptRow (l:List (Tk×Nat)):List Value:=l.flatMap ptC
def ppRow (l:List Pr):List Value:=l.flatMap ppC
def ZOk (l:List (Tk×Nat)):Prop:=∀x∈l,x.2=x.1.q2\/x.1.O=0
structure QW (w wk:World) (b X:Nat) (s:ByteArray) (i:Nat) (tv:Value) (n:Nat) (xs:List Value) (pv:Value) (m:Nat) (ys:List Value):Prop where
 rs:RS 2 wk b s i
 hx:wk.heap[X]? =some (.cells #[tv,pv] 84 (0,0))
 hy:wk.heap[w.heap.size]? =some (.cells #[.slice none 0 0,.slice none 0 0] 84 (0,0))
 ot:wk.ownsRow (b+1) 172 10 tv n xs
 op:wk.ownsRow (b+1) 175 5 pv m ys
 g:w.grownBy wk none
 h1:w.heap.size<b
 h2:b<X
 h3:X<wk.heap.size
 h4:tv.ownBlock≠some X
 h5:pv.ownBlock≠some X
 h6:∀k,tv.ownBlock=some k->pv.ownBlock≠some k
section
variable {w wk:World} {b X:Nat} {s:ByteArray} {i:Nat} {tv:Value} {n:Nat} {xs:List Value} {pv:Value} {m:Nat} {ys:List Value}
theorem QW.call (h:QW w wk b X s i tv n xs pv m ys){w':World}{i':Nat}(p:RS 2 w' b s i')(g:wk.grownBy w' (some b)):QW w w' b X s i' tv n xs pv m ys:=by
 have h1:=h.h1;have h2:=h.h2;have h3:=h.h3;refine⟨p,?_,?_,h.ot.kept g (.inr (own_ge h.ot (by omega))),h.op.kept g (.inr (own_ge h.op (by omega))),grownBy_new h.g g (by omega),h1,h2,by have:=g.size;omega,h.h4,h.h5,h.h6⟩
 .rw[g.block _ h3 (by simp;omega)];exact h.hx
 .rw[g.block _ (by omega) (by simp;omega)];exact h.hy
theorem QW.drew (h:QW w wk b X s i tv n xs pv m ys):QW w wk.drew b X s i tv n xs pv m ys:=h.call (h.rs.keep rfl) ⟨rfl,rfl,rfl,Nat.le_refl _,fun _ _ _=>rfl⟩
theorem QW.cells (h:QW w wk b X s i tv n xs pv m ys):wk.cell? ⟨X,0,none⟩=some tv/\wk.cell? ⟨X,1,none⟩=some pv/\(∀o,wk.frozen? ⟨X,o,none⟩=false)/\(∀o,wk.cell? ⟨w.heap.size,o,none⟩=#[Value.slice none 0 0,.slice none 0 0][o]?)/\(∀o,wk.frozen? ⟨w.heap.size,o,none⟩=false):=
 ⟨by rw[zC h.hx];rfl,by rw[zC h.hx];rfl,zF h.hx,zC h.hy,zF h.hy⟩
theorem QW.grow (h:QW w wk b X s i tv n xs pv m ys){o1:Obj}{w2:World}{r:Option Nat}(hg:(wk.alloc o1).grownBy w2 r)(hr:r=tv.ownBlock\/r=pv.ownBlock):
  RS 2 w2 b s i/\w2.heap[X]? =some (.cells #[tv,pv] 84 (0,0))/\w2.heap[w.heap.size]? =some (.cells #[.slice none 0 0,.slice none 0 0] 84 (0,0))/\w.grownBy w2 none/\X<w2.heap.size:=by
 have h1:=h.h1;have h2:=h.h2;have h3:=h.h3;have hsz:=hg.size;simp only[World.size_alloc]at hsz;have hlow:∀k,k<b+1->r≠some k:=by
  intro k hk;rcases hr with rfl|rfl
  .exact own_ge h.ot hk
  .exact own_ge h.op hk
 have hX:r≠some X:=by
  rcases hr with rfl|rfl
  .exact h.h4
  .exact h.h5
 refine⟨?_,?_,?_,?_,by omega⟩
 .exact h.rs.keep (by rw[hg.block _ (by simp;omega) (fun e=>hlow b (by omega) e.symm),Below.heap_alloc _ _ _ (by omega)])
 .rw[hg.block _ (by simp;omega) (fun e=>hX e.symm),Below.heap_alloc _ _ _ h3];exact h.hx
 .rw[hg.block _ (by simp;omega) (fun e=>hlow _ (by omega) e.symm),Below.heap_alloc _ _ _ (by omega)];exact h.hy
 .have ha:=grownBy_alloc' h.g o1;refine⟨hg.os.trans ha.os,hg.tape.trans ha.tape,hg.output.trans ha.output,Nat.le_trans ha.size hg.size,fun k hk hne=>?_⟩;rw[hg.block k (by simp;omega) (fun e=>hlow k (by omega) e.symm)];exact ha.block k hk hne
theorem own_type {w:World}{base:Nat}{e:TypeId}{size:Nat}{v:Value}{n:Nat}{xs:List Value}(h:w.ownsRow base e size v n xs){X:Nat}{c:Array Value}{ty:TypeId}{f:Nat×Nat}(hx:w.heap[X]? =some (.cells c ty f))(hne:e≠ty):v.ownBlock≠some X:=by
 rcases h.2 with⟨rfl,_⟩|⟨g,cap,cur,rfl,_,hc,_⟩
 .simp[Value.ownBlock]
 .intro he;simp[Value.ownBlock]at he;subst he;rw[hx]at hc;injection hc with hc;injection hc with _ h2;exact hne h2.symm
theorem own_apart {w:World}{base base':Nat}{e e':TypeId}{size size':Nat}{v v':Value}{n n':Nat}{xs xs':List Value}(h:w.ownsRow base e size v n xs)(h':w.ownsRow base' e' size' v' n' xs')(hne:e'≠e):∀k,v.ownBlock=some k->v'.ownBlock≠some k:=by
 intro k hk;rcases h.2 with⟨rfl,_⟩|⟨g,cap,cur,rfl,_,hc,_⟩
 .simp[Value.ownBlock]at hk
 .simp[Value.ownBlock]at hk;subst hk;exact own_type h' hc hne
theorem QW.pushT (h:QW w wk b X s i tv n xs pv m ys){o1:Obj}{w2:World}{v':Value}{news:List Value}(hg:(wk.alloc o1).grownBy w2 tv.ownBlock)(hown:w2.ownsRow (b+1) 172 10 v' (n+1) (xs++news)):
  QW w (w2.setCell ⟨X,0,none⟩ v') b X s i v' (n+1) (xs++news) pv m ys:=by
 obtain⟨g1,g2,g3,g4,g5⟩:=h.grow hg (.inl rfl);have h1:=h.h1;have h2:=h.h2;have hop:w2.ownsRow (b+1) 175 5 pv m ys:=by
  refine(h.op.alloc o1).kept hg ?_
  cases hq:pv.ownBlock with
  | none=>exact .inl rfl
  | some k=>exact .inr (fun e=>h.h6 k e.symm (by rw[hq]))
 have hset:w2.grownBy (w2.setCell ⟨X,0,none⟩ v') (some X):=zE (zI _ _) _ _;have hvX:=own_type hown g2 (by decide);have hpX:=own_type hop g2 (by decide);refine⟨g1.set (by omega) _ _,?_,?_,hown.kept hset (.inr hvX),hop.kept hset (.inr hpX),zG g4 (by omega) _ _,h1,h2,by rw[zH];exact g5,hvX,hpX,own_apart hown hop (by decide)⟩
 .rw[zS g2];rfl
 .rw[Below.heap_setCell _ _ _ _ (by show w.heap.size≠X;omega)];exact g3
theorem QW.pushP (h:QW w wk b X s i tv n xs pv m ys){o1:Obj}{w2:World}{v':Value}{news:List Value}(hg:(wk.alloc o1).grownBy w2 pv.ownBlock)(hown:w2.ownsRow (b+1) 175 5 v' (m+1) (ys++news)):
  QW w (w2.setCell ⟨X,1,none⟩ v') b X s i tv n xs v' (m+1) (ys++news):=by
 obtain⟨g1,g2,g3,g4,g5⟩:=h.grow hg (.inr rfl);have h1:=h.h1;have h2:=h.h2;have hot:w2.ownsRow (b+1) 172 10 tv n xs:=by
  refine(h.ot.alloc o1).kept hg ?_
  cases hq:tv.ownBlock with
  | none=>exact .inl rfl
  | some k=>exact .inr (fun e=>h.h6 k hq e.symm)
 have hset:w2.grownBy (w2.setCell ⟨X,1,none⟩ v') (some X):=zE (zI _ _) _ _;have hvX:=own_type hown g2 (by decide);have htX:=own_type hot g2 (by decide);refine⟨g1.set (by omega) _ _,?_,?_,hot.kept hset (.inr htX),hown.kept hset (.inr hvX),zG g4 (by omega) _ _,h1,h2,by rw[zH];exact g5,htX,hvX,own_apart hot hown (by decide)⟩
 .rw[zS g2];rfl
 .rw[Below.heap_setCell _ _ _ _ (by show w.heap.size≠X;omega)];exact g3
end
theorem rjobs_nil (c f:Nat)(a:Option Addr)(cap:Nat)(w:World):
  Calls Tryz.prog 81 #[.agg #[.int .i64 c,.int .i64 f,.slice a 0 cap]] w (BoolPost (JobsR []) w):=by
 have H0:=hide (TBx.start w c f (.slice a 0 cap));have hT:Hid (JobsR []):=fun k h=>by simp at h
 go_enter Tryz.func81,Tryz.ntmps81;go_wp2_with fail
 go_loopw [3] (fun i wr=>i=.int .i64 0/\TBx w wr c f (.slice a 0 cap)) (fun i _=>0)
 case atStart=>exact⟨rfl,H0.out⟩
 case round=>
  clear H0;obtain⟨rfl,hT0⟩:=hrel;obtain⟨x0,x1,x2⟩:=hT0.cells;have HT:=hide hT0;clear hT0;go_wp2;go_ret;exact boolPost_yes rfl hT.out HT.out.b
theorem rsound_nil (c f:Nat)(a:Option Addr)(cap:Nat)(w:World)(hc:c<=60):
  Calls Tryz.prog 45 #[.agg #[.int .i64 c,.int .i64 f,.slice a 0 cap]] w (BoolPost (BudR f [] []/\JobsR []) w):=by
 have H0:=hide (UB.start w c f (.slice a 0 cap) []);have hmk:=make_ints c (by omega);have hB0:Hid (BudR f [] []):=fun k h=>by simp at h
 go_enter Tryz.func45,Tryz.ntmps45;go_wp2_with fail;clear hmk
 go_loopw [4] (fun i wr=>i=.int .i64 0/\TBx w wr c f (.slice a 0 cap)) (fun i _=>0)
 case atStart=>exact⟨rfl,H0.out.t⟩
 case round=>
  clear H0;obtain⟨rfl,hT0⟩:=hrel;obtain⟨x0,x1,x2⟩:=hT0.cells;have HT:=hide hT0;clear hT0;go_wp2_with fail;refine(rjobs_nil c f a cap wr).mono ?_;rintro e w1 ⟨b,rfl,hbj,hbb⟩;have Hbj:=hide hbj;have Hbb:=hide (HT.out.b.trans (hbb.mono HT.out.b.size));clear hbj hbb;go_wp2;go_ret;exact⟨b,rfl,by rw[Hbj.out];simp[hB0.out],Hbb.out⟩
def InvL (base Lb:Nat) (e:TypeId) (size:Nat) (z:Value) (w:World) (v:Value) (n:Nat) (xs:List Value):Prop:=
 w.ownsRow (Lb+1) e size v n xs\/(w.ownsRow base e size v n xs/\v.ownBlock≠some Lb/\∃u rest,xs=u::rest/\u≠z)
theorem InvL.own {base Lb:Nat}{e:TypeId}{size:Nat}{z:Value}{w:World}{v:Value}{n:Nat}{xs:List Value}(h:InvL base Lb e size z w v n xs)(hb:base<=Lb+1):w.ownsRow base e size v n xs:=by
 rcases h with h|h
 .exact own_weak h hb
 .exact h.1
theorem InvL.apart {base Lb:Nat}{e:TypeId}{size:Nat}{z:Value}{w:World}{v:Value}{n:Nat}{xs:List Value}(h:InvL base Lb e size z w v n xs):v.ownBlock≠some Lb:=by
 rcases h with h|h
 .exact own_ge h (Nat.lt_succ_self _)
 .exact h.2.1
theorem InvL.kept {base Lb:Nat}{e:TypeId}{size:Nat}{z:Value}{w w':World}{v:Value}{n:Nat}{xs:List Value}(h:InvL base Lb e size z w v n xs){row:Option Nat}(g:w.grownBy w' row)(hr:v.ownBlock=none\/v.ownBlock≠row):InvL base Lb e size z w' v n xs:=by
 rcases h with h|⟨h,h2,h3⟩
 .exact .inl (h.kept g hr)
 .exact .inr ⟨h.kept g hr,h2,h3⟩
theorem step_append_two {P:Program}{ops:Array Oper}{o:Oper}{a:Act}{w:World}{K:Act->World->Prop}{Q:Exit->Act->World->Prop}{E:Prop}
  (hg:o.guard=none) (s x:Operand) (t:TypeId) (hop:o.op=Op.call { callee:=Callee.builtin Builtin.append,args:=#[s,x],argTypes:=#[t,t] })
  (base Lb:Nat) (z0:Value) (e:TypeId) (i:TypeInfo) (z:Value) (size bytes:Nat) (h1:P.underlying t=some (.slice e)) (h2:P.info? e=some i) (h3:i.zero=some z) (h4:i.size=size) (h5:i.bytes=bytes) (h6:z.cells.size=size) (h7:0<size)
  (v:Value) (n:Nat) (xs:List Value) (hs:a.eval s=v) (hown:InvL base Lb e size z0 w v n xs)
  (ad:Addr) (m c:Nat) (news:List Value) (hx:a.eval x=.slice (some ad) m c) (hn:news.length=m*size) (hc:∀j u,news[j]? =some u->w.cell? (ad.add j)=some u) (h1c:∀u∈news,u.oneCell'=true)
  (b1:n+m<=maxLen) (b2:(n+m)*bytes<=140737488355328) (hb:base<=w.heap.size) (hL:Lb<w.heap.size) (hz:w.cell? ⟨Lb,0,none⟩=some z0)
  (hK:∀v' w',InvL base Lb e size z0 w' v' (n+m) (xs++news)->w.grownBy w' v.ownBlock->K (a.put o.dst v') w'):
  if Region.wanted o (yielded ops a.tmps)=true then Oper.wp P o a w K Q else E:=by
 rcases hown with hown|⟨hown,hne,u,rest,rfl,hu⟩
 .exact step_append_own hg s x t hop (Lb+1) e i z size bytes h1 h2 h3 h4 h5 h6 h7 v n xs hs hown ad m c news hx hn hc h1c b1 b2 (by omega) (fun v' w' h h'=>hK v' w' (.inl h) h')
 .refine step_append_own hg s x t hop base e i z size bytes h1 h2 h3 h4 h5 h6 h7 v n (u::rest) hs hown ad m c news hx hn hc h1c b1 b2 hb ?_;intro v' w' h h';refine hK v' w' (.inr ⟨h,?_,u,rest++news,rfl,hu⟩) h';intro hv;have e0:w'.cell? ⟨Lb,0,none⟩=some z0:=h'.cell (a:=⟨Lb,0,none⟩) hz (fun e=>hne e.symm);rcases h.2 with⟨rfl,_⟩|⟨g,cap,cur,rfl,_⟩
  .simp[Value.ownBlock]at hv
  .simp[Value.ownBlock]at hv;subst hv;have:=h.cellAt 0 (by have:=h.1;simp at this;omega);rw[this]at e0;simp at e0;exact hu e0
theorem rText_nil (c f:Nat)(a:Option Addr)(cap:Nat)(w:World)(hc:c<=60)(hf:f<=60)(hf1:1<=f):
  Calls Tryz.prog 46 #[.agg #[.int .i64 c,.int .i64 f,.slice a 0 cap]] w fun e w'=>e=.returned (.string (bs (hdTxt c f++framesX [] (c/f))))/\Below w.heap.size w w':=by
 have H0:=hide (TBx.start w c f (.slice a 0 cap));obtain⟨x0,x1,x2⟩:=H0.out.cells;have hq:c/f<=60:=Nat.le_trans (Nat.div_le_self c f) hc;have Hlen:=hide (framesX_len (l:=[]) (fun k h=>by simp at h) (by simp));have hd1:=dB_size c;have hd2:=dB_size f;have hf0:((f:Int)==0)=false:=by simp;omega
 have hf0':¬(f:Int)=0:=by omega
 obtain⟨X1,a1,z1,e1⟩:=add_named2 ⟨#[99,121,99,108,101,32]⟩ (dB c) (by rw[show (ByteArray.size ⟨#[99,121,99,108,101,32]⟩)=6 from rfl];omega);rw[show (ByteArray.size ⟨#[99,121,99,108,101,32]⟩)=6 from rfl]at z1;obtain⟨X2,a2,z2,e2⟩:=add_named2 X1 ⟨#[32,102,114,97,109,101,32]⟩ (by rw[show (ByteArray.size ⟨#[32,102,114,97,109,101,32]⟩)=7 from rfl];omega);rw[show (ByteArray.size ⟨#[32,102,114,97,109,101,32]⟩)=7 from rfl]at z2;obtain⟨X3,a3,z3,e3⟩:=add_named2 X2 (dB f) (by omega);obtain⟨X4,a4,z4,e4⟩:=add_named2 X3 ⟨#[59,10]⟩ (by rw[show (ByteArray.size ⟨#[59,10]⟩)=2 from rfl];omega);rw[show (ByteArray.size ⟨#[59,10]⟩)=2 from rfl]at z4;have E4:Hid (X4=bs (hdTxt c f++framesX [] 0)):=by
  unfold Hid;rw[←bs_list X4,e4,e3,e2,e1];simp[hdTxt,framesX,dL]
 have hhd:=hdTxt_len c f;clear z1 z2 z3 z4 e1 e2 e3 e4;go_enter Tryz.func46,Tryz.ntmps46;go_wp2_with fail
 go_cut [3] (fun x wc=>x=.string X4/\TBx w wc c f (.slice a 0 cap))
 case first=>
  go_region_with ((go_at_call 82;(first|refine(rdec_any c _ (by omega)).mono ?_|refine(rdec_any f _ (by omega)).mono ?_);rintro e w' ⟨rfl,rfl⟩))
  all_goals
   go_wp2
   go_meet
   case rel=>exact⟨rfl,H0.out.drewN 1⟩
 case rest=>
  clear H0 a1 a2 a3 a4 x0 x1 x2 hd1 hd2;obtain⟨rfl,hT⟩:=hcut;have HT:=hide hT;clear hT;go_wp2_with fail
  go_loopw [3,4] (fun x j wr=>∃k:Nat,k<=c/f/\j=.int .i64 k/\x=.string (bs (hdTxt c f++framesX [] k))/\TBx w wr c f (.slice a 0 cap)) (fun _ j _=>100-(intOf j).toNat)
  case atStart=>exact⟨0,Nat.zero_le _,rfl,by rw[E4.out],HT.out⟩
  case round=>
   clear HT E4;obtain⟨k,hk,rfl,rfl,hT⟩:=hrel;obtain⟨x0,x1,x2⟩:=hT.cells;have HT:=hide hT;clear hT;have hdiv:(c:Int)/(f:Int)=((c/f:Nat):Int):=by simp
   by_cases hlt:k<c/f
   .have hlt':decide ((k:Int)<(c:Int)/(f:Int))=true:=by rw[hdiv];simp;omega
    have hk60:k<60:=by omega
    have hbase:(hdTxt c f++framesX [] k).length<=1000000:=by
     have h1:=Hlen.out k;simp only[List.length_append];omega
    have hE:Hid (hdTxt c f++framesX [] k++[59,10]=hdTxt c f++framesX [] (k+1)):=by
     unfold Hid;rw[framesX_succ];simp[selJ,frX]
    clear hdiv;generalize hdTxt c f++framesX [] k=L at *;obtain⟨X1,a1,z1,e1⟩:=add_named2 (bs L) ⟨#[59,10]⟩ (by rw[bs_size,show (ByteArray.size ⟨#[59,10]⟩)=2 from rfl];omega);have EX:Hid (X1=bs (hdTxt c f++framesX [] (k+1))):=by
     unfold Hid;rw[←hE.out,←bs_list X1,e1,bs_data]
    clear z1 e1 hE;go_wp2_with fail;clear x0 x1 x2 hlt'
    go_loopw [3,5,6] (fun x fst i wr=>i=.int .i64 0/\x=.string (bs L)/\TBx w wr c f (.slice a 0 cap)) (fun _ _ i _=>0)
    case atStart=>exact⟨rfl,rfl,HT.out⟩
    case round=>
     clear HT;obtain⟨rfl,rfl,hT⟩:=hrel;obtain⟨x0,x1,x2⟩:=hT.cells;have HT:=hide hT;clear hT;go_wp2;go_roundw
     case rel=>exact⟨k+1,by omega,by go_num,by rw[EX.out],HT.out⟩
     case measure=>simp[intOf];omega
   .have hlt':decide ((k:Int)<(c:Int)/(f:Int))=false:=by rw[hdiv];simp;omega
    have hke:k=c/f:=by omega
    have HK:=hide hke;clear hke hdiv;go_wp2;go_ret;exact⟨by rw[←HK.out];rfl,HT.out.b⟩
def tbZ:Array Value:=#[.int .i64 0,.int .i64 0,.slice none 0 0]
structure RW (w wk:World) (B r cap:Nat) (T:List PT) (i:Nat) (bad:Bool):Prop where
 ps:PS wk B r cap T i bad
 hy:wk.heap[w.heap.size]? =some (.cells tbZ 39 (0,0))
 g:w.grownBy wk none
 h1:w.heap.size<r
 h2:r<B
theorem RW.call {w wk:World}{B r cap:Nat}{T:List PT}{i:Nat}{bad:Bool}(h:RW w wk B r cap T i bad){w':World}{i':Nat}{bad':Bool}(p:PS w' B r cap T i' bad')(g:wk.grownBy w' (some B)):RW w w' B r cap T i' bad':=by
 have h1:=h.h1;have h2:=h.h2;exact⟨p,by rw[g.block _ (zL h.hy) (by simp;omega)];exact h.hy,grownBy_new h.g g (by omega),h1,h2⟩
structure RX (w wk:World) (B r cap:Nat) (T:List PT) (i:Nat) (bad:Bool) (X c f:Nat) (sv:Value):Prop where
 rw_:RW w wk B r cap T i bad
 hx:wk.heap[X]? =some (.cells #[.int .i64 c,.int .i64 f,sv] 39 (0,0))
 h3:B<X
section
variable {w wk:World} {B r cap:Nat} {T:List PT} {i:Nat} {bad:Bool} {X c f:Nat} {sv:Value}
theorem RX.call (h:RX w wk B r cap T i bad X c f sv){w':World}{i':Nat}{bad':Bool}(p:PS w' B r cap T i' bad')(g:wk.grownBy w' (some B)):RX w w' B r cap T i' bad' X c f sv:=by
 have h3:=h.h3;exact⟨h.rw_.call p g,by rw[g.block _ (zL h.hx) (by simp;omega)];exact h.hx,h3⟩
theorem RX.cells (h:RX w wk B r cap T i bad X c f sv):wk.cell? ⟨X,0,none⟩=some (.int .i64 c)/\wk.cell? ⟨X,1,none⟩=some (.int .i64 f)/\wk.cell? ⟨X,2,none⟩=some sv/\(∀o,wk.frozen? ⟨X,o,none⟩=false)/\(∀o,wk.cell? ⟨w.heap.size,o,none⟩=tbZ[o]?)/\(∀o,wk.frozen? ⟨w.heap.size,o,none⟩=false):=
 ⟨by rw[zC h.hx];rfl,by rw[zC h.hx];rfl,by rw[zC h.hx];rfl,zF h.hx,zC h.rw_.hy,zF h.rw_.hy⟩
theorem RX.start (h:RW w wk B r cap T i bad)(c f:Nat):RX w (wk.alloc (.cells #[.int .i64 c,.int .i64 f,.slice none 0 0] 39)) B r cap T i bad wk.heap.size c f (.slice none 0 0):=by
 refine⟨⟨h.ps.alloc _,by rw[Below.heap_alloc _ _ _ (zL h.hy)];exact h.hy,grownBy_alloc' h.g _,h.h1,h.h2⟩,zW _ _ _,h.ps.ltb⟩
theorem RowF.keep {w w':World}{g:Nat}{l:List FSl}(h:RowF w g l)(hb:w'.heap[g]? =w.heap[g]?):RowF w' g l:=by
 intro k hk;have e:∀o,w'.cell? ⟨g,o,none⟩=w.cell? ⟨g,o,none⟩:=fun o=>World.cell?_of_block (a:=⟨g,o,none⟩) hb;rw[e,e,e,e];exact h k hk
theorem RX.push (h:RX w wk B r cap T i bad X c f sv){Lb:Nat}{z:Value}{n m:Nat}{xs ys:List Value}{l:List FSl}{o1:Obj}{w2:World}{v':Value}
  (hi:InvL (B+1) Lb 44 4 z wk sv n xs) (hL:B<Lb) (hl:Lb<wk.heap.size) (hne:Lb≠X) (hrow:RowF wk Lb l)
  (hg:(wk.alloc o1).drew.grownBy w2 sv.ownBlock) (hi2:InvL (B+1) Lb 44 4 z w2 v' m ys):
  RX w (w2.setCell ⟨X,2,none⟩ v') B r cap T i bad X c f v'/\InvL (B+1) Lb 44 4 z (w2.setCell ⟨X,2,none⟩ v') v' m ys/\RowF (w2.setCell ⟨X,2,none⟩ v') Lb l/\Lb<(w2.setCell ⟨X,2,none⟩ v').heap.size:=by
 have h1:=h.rw_.h1;have h2:=h.rw_.h2;have h3:=h.h3;have hX:=zL h.hx;have how:=hi.own (by omega);have hg':(wk.alloc o1).grownBy w2 sv.ownBlock:=⟨hg.os,hg.tape,hg.output,hg.size,hg.block⟩;have hsz:=hg'.size;simp only[World.size_alloc]at hsz;have hblk:∀k,k<wk.heap.size->sv.ownBlock≠some k->w2.heap[k]? =wk.heap[k]? := by
  intro k hk hne;rw[hg'.block k (by simp;omega) (fun e=>hne e.symm),Below.heap_alloc _ _ _ hk]
 have hlow:∀k,k<B+1->sv.ownBlock≠some k:=fun k hk=>own_ge how hk;have hX2:w2.heap[X]? =some (.cells #[.int .i64 c,.int .i64 f,sv] 39 (0,0)):=by
  rw[hblk X hX (own_type how h.hx (by decide))];exact h.hx
 have hv'X:=own_type (hi2.own (by omega)) hX2 (by decide);have hset:w2.grownBy (w2.setCell ⟨X,2,none⟩ v') (some X):=zE (zI _ _) _ _;refine⟨⟨⟨?_,?_,?_,h1,h2⟩,?_,h3⟩,hi2.kept hset (.inr hv'X),?_,by rw[zH];omega⟩
 .refine(h.rw_.ps.kept (hblk B (by omega) (hlow B (by omega))) (hblk r (by omega) (hlow r (by omega))) (by omega)).setOther (by omega) (by omega) 2 v'
 .rw[Below.heap_setCell _ _ _ _ (by show w.heap.size≠X;omega),hblk _ (zL h.rw_.hy) (hlow _ (by omega))];exact h.rw_.hy
 .have hgw:w.grownBy w2 none:=by
   have ha:=grownBy_alloc' h.rw_.g o1;refine⟨hg'.os.trans ha.os,hg'.tape.trans ha.tape,hg'.output.trans ha.output,Nat.le_trans ha.size hg'.size,fun k hk hne=>?_⟩;rw[hg'.block k (by have:=ha.size;omega) (fun e=>hlow k (by omega) e.symm)];exact ha.block k hk hne
  exact zG hgw (by omega) _ _
 .rw[zS hX2];rfl
 .refine hrow.keep ?_;rw[Below.heap_setCell _ _ _ _ (by show Lb≠X;exact hne),hblk Lb hl hi.apart]
end
def TabOk (l:List UInt8) (t:Tb):Prop:=l.length<=800/\pTab (zT l)=some t/\Sound t/\tbTxt t=l
def ReadPost (s:ByteArray) (w:World) (e:Ending) (w':World):Prop:=
 Below w.heap.size w w'/\((∃t sv,TabOk s.data.toList t/\e=.returned (.tuple #[.agg #[.int .i64 t.cyc,.int .i64 t.fr,sv],.bool true])/\w'.ownsRow w.heap.size 44 4 sv (zX 0 t.fs).length (flRow (zX 0 t.fs)))\/((¬∃t,TabOk s.data.toList t)/\∃(c f:Nat) (a:Option Addr) (n k:Nat),e=.returned (.tuple #[.agg #[.int .i64 c,.int .i64 f,.slice a n k],.bool false])))
theorem hd_chain {T:List PT}{i1 h i2 i3 f i4 i5:Nat}{b1 b2 b3 b4 b5:Bool}(h1:GoesR (sees (tk T 0) wCycle) false 0 i1 b1)(h2:NumR T i1 b1 h i2 b2)(h3:GoesR (sees (tk T i2) wFrame) b2 i2 i3 b3)(h4:NumR T i3 b3 f i4 b4)(h5:GoesR ((tk T i4).k==59) b4 i4 i5 b5):
  (b5=true/\hdOk T=false)\/(b5=false/\hdOk T=true/\i5=5/\h=(tk T 1).N/\f=(tk T 3).N):=by
 unfold hdOk
 cases e1:sees (tk T 0) wCycle
 .rw[e1]at h1;obtain⟨rfl,rfl⟩:=goes_no h1;obtain⟨_,rfl,rfl⟩:=num_bad h2;obtain⟨rfl,rfl⟩:=goes_bad h3;obtain⟨_,rfl,rfl⟩:=num_bad h4;obtain⟨rfl,rfl⟩:=goes_bad h5;simp
 .rw[e1]at h1;obtain⟨rfl,rfl⟩:=goes_yes h1;simp only[Nat.zero_add]at *
  cases e2:((tk T 1).k==110)
  .obtain⟨rfl,rfl⟩:=num_no h2 e2;obtain⟨rfl,rfl⟩:=goes_bad h3;obtain⟨_,rfl,rfl⟩:=num_bad h4;obtain⟨rfl,rfl⟩:=goes_bad h5;simp
  .obtain⟨rfl,rfl,rfl⟩:=num_yes h2 e2;simp only[Nat.reduceAdd]at *
   cases e3:sees (tk T 2) wFrame
   .rw[e3]at h3;obtain⟨rfl,rfl⟩:=goes_no h3;obtain⟨_,rfl,rfl⟩:=num_bad h4;obtain⟨rfl,rfl⟩:=goes_bad h5;simp
   .rw[e3]at h3;obtain⟨rfl,rfl⟩:=goes_yes h3;simp only[Nat.reduceAdd]at *
    cases e4:((tk T 3).k==110)
    .obtain⟨rfl,rfl⟩:=num_no h4 e4;obtain⟨rfl,rfl⟩:=goes_bad h5;simp
    .obtain⟨rfl,rfl,rfl⟩:=num_yes h4 e4;simp only[Nat.reduceAdd]at *
     cases e5:((tk T 4).k==59)
     .rw[e5]at h5;obtain⟨rfl,rfl⟩:=goes_no h5;simp
     .rw[e5]at h5;obtain⟨rfl,rfl⟩:=goes_yes h5;simp
theorem pTab_hd {T:List PT}(h:hdOk T=false):pTab T=none:=by unfold pTab;rw[h];rfl
theorem tab_no_hd {l:List UInt8}(h:hdOk (zT l)=false):¬∃t,TabOk l t:=by
 rintro ⟨t,_,h1,_⟩;rw[pTab_hd h]at h1;simp at h1
theorem tab_head {l:List UInt8}{t:Tb}(h:TabOk l t):1<=(tk (zT l) 1).N/\(tk (zT l) 1).N<=60/\1<=(tk (zT l) 3).N/\(tk (zT l) 1).N%(tk (zT l) 3).N=0/\t.fs.length=(tk (zT l) 1).N/(tk (zT l) 3).N/\∃j,pN t.fs.length (zT l) 5=some (t.fs,j)/\j<(zT l).length/\(tk (zT l) j).k=101:=by
 obtain⟨_,h1,hS,_⟩:=h;obtain⟨_,e1,e2,_,j,h3,h4,h5⟩:=pTab_pN h1;obtain⟨f1,f2,f3,f4,f5⟩:=hS.frames;have c1:=hS.c1;have c2:=hS.c2;have c3:=hS.c3;rw[←e1,←e2];refine⟨c1,c2,f1,?_,?_,j,h3,h4,h5⟩
 .rw[←c3];exact Nat.mul_mod_right _ _
 .rw[←c3,Nat.mul_div_cancel_left _ (by omega)]
def FrR (T:List PT) (j i:Nat) (bad:Bool) (L:List FSl):Prop:=
 (bad=false/\∃fs,pN j T 5=some (fs,i)/\L=zX 0 fs)\/(bad=true/\pN j T 5=none)
theorem frR_step {T:List PT}{j i i':Nat}{bad':Bool}{L:List FSl}{l:List Sl}(h:FrR T j i false L)(hs:(bad'=true/\pFrame T i=none)\/(bad'=false/\pFrame T i=some (l,i'))):FrR T (j+1) i' bad' (L++l.map (fun s=>(j,s))):=by
 rcases h with⟨_,fs,h1,rfl⟩|⟨h1,_⟩
 .rcases hs with⟨rfl,h2⟩|⟨rfl,h2⟩
  .refine .inr ⟨rfl,?_⟩;rw[pN,h1];simp only;rw[h2]
  .refine .inl ⟨rfl,fs++[l],?_,?_⟩
   .rw[pN,h1];simp only;rw[h2]
   .rw[flatF_snoc,(pN_frames h1).1,Nat.zero_add]
 .simp at h1
theorem pN_none {T:List PT}{i:Nat}:∀ {n m:Nat},n<=m->pN n T i=none->pN m T i=none
 | n,0,h,h1=>by
  have:n=0:=by omega
  subst this;exact h1
 | n,m+1,h,h1=>by
  rcases Nat.lt_or_ge n (m+1) with h2|h2
  .rw[pN,pN_none (by omega) h1]
  .have:n=m+1:=by omega
   subst this;exact h1
theorem flRow_map (j:Nat)(l:List Sl):flRow (l.map (fun s=>(j,s)))=slRowR j l:=by
 unfold flRow slRowR;rw[List.flatMap_map];rfl
theorem flRow_app (a b:List FSl):flRow (a++b)=flRow a++flRow b:=by unfold flRow;rw[List.flatMap_append]
theorem pMore_small {l:List UInt8}:∀(n:Nat) (i:Nat),(zT l).length-i<=n->∀f j,pMore (zT l) i=some (f,j)->∀s∈f,s.job<=9999/\s.bud<=9999:=by
 intro n
 induction n with
 | zero=>
  intro i hn f j h;rw[pMore,dif_neg (by omega)]at h;simp at h
 | succ n ih=>
  intro i hn f j h;rw[pMore_eq]at h;have hs1:(slAt (zT l) i).job<=9999/\(slAt (zT l) i).bud<=9999:=⟨tk_N l _,tk_N l _⟩;split at h
  .rename_i hs;have hlt:=slOk_lt hs;split at h
   .cases hm:pMore (zT l) (i+5) with
    | none=>rw[hm]at h;simp at h
    | some x=>
     obtain⟨l',k⟩:=x;rw[hm]at h;simp at h;obtain⟨rfl,rfl⟩:=h;intro s hsm;rcases List.mem_cons.1 hsm with rfl|hsm
     .exact hs1
     .exact ih (i+5) (by omega) l' k hm s hsm
   .split at h
    .simp at h;obtain⟨rfl,rfl⟩:=h;intro s hsm;simp at hsm;subst hsm;exact hs1
    .simp at h
  .simp at h
theorem pFrame_small {l:List UInt8}{i:Nat}{f:List Sl}{j:Nat}(h:pFrame (zT l) i=some (f,j)):∀s∈f,s.job<=9999/\s.bud<=9999:=by
 unfold pFrame at h;split at h
 .simp at h;obtain⟨rfl,rfl⟩:=h;simp
 .exact pMore_small _ i (Nat.le_refl _) f j h
theorem pN_small {l:List UInt8}{i:Nat}:∀ {n:Nat} {fs:List (List Sl)} {j:Nat},pN n (zT l) i=some (fs,j)->∀f∈fs,∀s∈f,s.job<=9999/\s.bud<=9999
 | 0,fs,j,h=>by
  simp[pN]at h;obtain⟨rfl,rfl⟩:=h;simp
 | n+1,fs,j,h=>by
  rw[pN]at h
  cases h1:pN n (zT l) i with
  | none=>rw[h1]at h;simp at h
  | some x=>
   obtain⟨gs,k⟩:=x;rw[h1]at h;simp only at h
   cases h2:pFrame (zT l) k with
   | none=>rw[h2]at h;simp at h
   | some y=>
    obtain⟨f,k'⟩:=y;rw[h2]at h;simp at h;obtain⟨rfl,rfl⟩:=h;intro g hg;rcases List.mem_append.1 hg with hg|hg
    .exact pN_small h1 g hg
    .simp at hg;subst hg;exact pFrame_small h2
theorem sel_flat:∀(fs:List (List Sl)) (j k:Nat),(hk:k<fs.length)->selJ (j+k) (zX j fs)=fs[k]
 | [],j,k,hk=>by simp at hk
 | f::r,j,k,hk=>by
  have e:selJ (j+k) (zX j (f::r))=selJ (j+k) (f.map (fun s=>(j,s)))++selJ (j+k) (zX (j+1) r):=by
   simp[selJ,zX]
  rw[e]
  cases k with
  | zero=>
   have h1:selJ (j+0) (f.map (fun s=>(j,s)))=f:=by
    simp[selJ,List.filter_map,Function.comp_def]
   have h2:selJ (j+0) (zX (j+1) r)=[]:=by
    unfold selJ;rw[List.filter_eq_nil_iff.2]
    .rfl
    .intro x hx;have:=(flatF_mem r (j+1) x hx).1;simp;omega
   rw[h1,h2];simp
  | succ k=>
   have h1:selJ (j+(k+1)) (f.map (fun s=>(j,s)))=[]:=by
    simp[selJ,List.filter_map,Function.comp_def]
   rw[h1,List.nil_append,show j+(k+1)=j+1+k by omega,sel_flat r (j+1) k (by simpa using hk)];simp
theorem framesX_flat (fs:List (List Sl)):framesX (zX 0 fs) fs.length=fs.flatMap (fun f=>frX f++[59,10]):=by
 unfold framesX;have h:∀n,n<=fs.length->(List.range n).flatMap (fun j=>frX (selJ j (zX 0 fs))++[59,10])=(fs.take n).flatMap (fun f=>frX f++[59,10]):=by
  intro n
  induction n with
  | zero=>simp
  | succ n ih=>
   intro hn;have:=sel_flat fs 0 n (by omega);rw[Nat.zero_add]at this;rw[List.range_succ,List.flatMap_append,ih (by omega),List.take_succ_eq_append_getElem (by omega),List.flatMap_append];simp[this]
 rw[h fs.length (Nat.le_refl _),List.take_length]
theorem slX_txt {s:Sl}(h1:s.job<100)(h2:s.bud<100):slX s=slTxt s:=by
 unfold slX slTxt dL;rw[dX_small h1,dX_small h2]
theorem frX_txt:∀(f:List Sl),(∀s∈f,s.job<100/\s.bud<100)->frX f=frTxt f
 | [],_=>rfl
 | [s],h=>slX_txt (h s (by simp)).1 (h s (by simp)).2
 | s::x::r,h=>by
  have ih:=frX_txt (x::r) (fun z hz=>h z (List.mem_cons_of_mem _ hz));simp only[frX,frTxt]at ih ⊢;rw[slX_txt (h s (by simp)).1 (h s (by simp)).2,ih]
theorem tab_text {t:Tb}(h:Sound t):hdTxt t.cyc t.fr++framesX (zX 0 t.fs) (t.cyc/t.fr)=tbTxt t:=by
 have hq:t.cyc/t.fr=t.fs.length:=by
  rw[←h.c3,Nat.mul_div_cancel_left _ (by have:=h.frames;omega)]
 rw[hq,framesX_flat];unfold tbTxt;congr 1;have hs:=h.small;have:∀(fs:List (List Sl)),(∀f∈fs,∀s∈f,s.job<60/\1<=s.bud/\s.bud<=60)->fs.flatMap (fun f=>frX f++[59,10])=fs.flatMap (fun f=>frTxt f++[59,10]):=by
  intro fs
  induction fs with
  | nil=>intro _;rfl
  | cons f r ih=>
   intro hf;simp only[List.flatMap_cons];rw[ih (fun g hg=>hf g (List.mem_cons_of_mem _ hg)),frX_txt f (fun s hs=>by have:=hf f (by simp) s hs;omega)]
 exact this t.fs (fun f hf=>(hs f hf).2)
theorem sound_of {t:Tb}(h1:1<=t.cyc)(h2:t.cyc<=60)(h3:t.fr*t.fs.length=t.cyc):(BudR t.fr [] (zX 0 t.fs)/\JobsR (zX 0 t.fs))↔Sound t:=by
 rw[budR_flat t.fr t.fs 0 [] (fun i _=>rfl),jobs_same (flatF_rises t.fs 0)];exact⟨fun h=>⟨h1,h2,h3,h.1,h.2⟩,fun h=>⟨h.bud,h.jobs⟩⟩
end
end Go.Proofs.YtbdffcjganlblaaGreatDoor
