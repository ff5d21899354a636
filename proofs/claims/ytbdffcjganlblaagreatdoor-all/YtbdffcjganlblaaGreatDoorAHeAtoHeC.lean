import Derived.Test.YtbdffcjganlblaaGreatDoorAEqvBtoPlA
import Derived.Test.YtbdffcjganlblaaGreatDoorARefBtoRefE
import Derived.Maps.AppendAt
import Derived.BigQuiet
import Derived.Deep.RegionHeldLaw
import Derived.Test.YtbdffcjganlblaaGreatDoorARefFtoRefH
import Derived.Deep.RegionLaw
import Derived.OwnWalk
set_option linter.unusedVariables false
set_option linter.unusedSimpArgs false
set_option maxRecDepth 100000
set_option maxHeartbeats 16000000
namespace Go.Proofs.YtbdffcjganlblaaGreatDoor
section
open Go.RowKit
structure Frm (X:Nat->Prop) (w w':World):Prop where
 os:w'.os=w.os
 tape:w'.tape=w.tape
 output:w'.output=w.output
 size:w.heap.size<=w'.heap.size
 block:∀k,k<w.heap.size->¬X k->w'.heap[k]? =w.heap[k]?
theorem Frm.refl (X:Nat->Prop)(w:World):Frm X w w:=⟨rfl,rfl,rfl,Nat.le_refl _,fun _ _ _=>rfl⟩
theorem Frm.trans {X:Nat->Prop}{a b c:World}(h:Frm X a b)(k:Frm X b c):Frm X a c:=
 ⟨k.os.trans h.os,k.tape.trans h.tape,k.output.trans h.output,Nat.le_trans h.size k.size,fun i hi hx=>(k.block i (Nat.lt_of_lt_of_le hi h.size) hx).trans (h.block i hi hx)⟩
theorem Frm.wide {X Y:Nat->Prop}{a b:World}(h:Frm X a b)(hxy:∀k,k<a.heap.size->X k->Y k):Frm Y a b:=⟨h.os,h.tape,h.output,h.size,fun i hi hy=>h.block i hi (fun hx=>hy (hxy i hi hx))⟩
theorem Frm.drew {X:Nat->Prop}{a b:World}(h:Frm X a b):Frm X a b.drew:=⟨h.os,h.tape,h.output,h.size,h.block⟩
theorem Frm.sames {X:Nat->Prop}{a b:World}(h1:b.os=a.os)(h2:b.tape=a.tape)(h3:b.output=a.output)(h4:b.heap=a.heap):Frm X a b:=⟨h1,h2,h3,by rw[h4];exact Nat.le_refl _,fun k _ _=>by rw[h4]⟩
theorem Frm.alloc {X:Nat->Prop}{a b:World}(h:Frm X a b)(o:Obj):Frm X a (b.alloc o):=
 ⟨h.os,h.tape,h.output,Nat.le_trans h.size (by simp),fun i hi hx=>(Below.heap_alloc b o i (Nat.lt_of_lt_of_le hi h.size)).trans (h.block i hi hx)⟩
theorem Frm.setCell {X:Nat->Prop}{a b:World}(h:Frm X a b){p:Addr}(hp:X p.block)(u:Value):Frm X a (b.setCell p u):=
 ⟨h.os,h.tape,h.output,by simpa [World.setCell] using h.size,fun i hi hx=>(Below.heap_setCell b p u i (fun e=>hx (e▸hp))).trans (h.block i hi hx)⟩
theorem Frm.grown {X:Nat->Prop}{a b c:World}{row:Option Nat}(h:Frm X a b)(hg:b.grownBy c row)(hr:∀k,row=some k->k<a.heap.size->X k):Frm X a c:=
 ⟨hg.os.trans h.os,hg.tape.trans h.tape,hg.output.trans h.output,Nat.le_trans h.size hg.size,fun i hi hx=>(hg.block i (Nat.lt_of_lt_of_le hi h.size) (fun e=>hx (hr i e.symm hi))).trans (h.block i hi hx)⟩
theorem Frm.blk {X:Nat->Prop}{a b:World}(h:Frm X a b){i:Nat}{o:Obj}(hb:a.heap[i]? =some o)(hx:¬X i):b.heap[i]? =some o:=(h.block i (zL hb) hx).trans hb
theorem Frm.below {X:Nat->Prop}{a b:World}(h:Frm X a b){B:Nat}(hB:B<=a.heap.size)(hx:∀k,k<B->¬X k):Below B a b:=⟨h.os,h.tape,h.output,h.size,fun k hk=>h.block k (by omega) (hx k hk)⟩
theorem Below.frm {B:Nat}{a b:World}(h:Below B a b):Frm (fun k=>B<=k) a b:=⟨h.os,h.tape,h.output,h.size,fun k _ hx=>h.block k (by omega)⟩
def jbV (j:Jb) (l:Nat):Array Value:=#[.string (bs [j.ltr]),.int .i64 j.num,.int .i64 j.tsk,.int .i64 j.rel,.int .i64 j.dl,.int .i64 j.cost,.int .i64 l]
def JobsAt (js:List Jb) (bl:Nat->Nat) (left:Nat->Nat) (w:World):Prop:=∀k,k<js.length->w.heap[bl k]? =some (.cells (jbV (jk js k) (left k)) 225 (0,0))
theorem JobsAt.keep {js:List Jb}{bl left:Nat->Nat}{X:Nat->Prop}{w w':World}(h:JobsAt js bl left w)(hf:Frm X w w')(hx:∀k,k<js.length->¬X (bl k)):JobsAt js bl left w':=fun k hk=>hf.blk (h k hk) (hx k hk)
def ptV (bl:Nat->Nat) (L:List Nat):List Value:=L.map fun k=>.pointer (some ⟨bl k,0,none⟩)
abbrev RowJ (w:World) (base:Nat) (v:Value) (bl:Nat->Nat) (L:List Nat):Prop:=w.ownsRow base 226 1 v L.length (ptV bl L)
theorem RowJ.form {w:World}{base:Nat}{v:Value}{bl:Nat->Nat}{L:List Nat}(h:RowJ w base v bl L)(h0:0<L.length):∃g cap cur,v=.slice (some ⟨g,0,none⟩) L.length cap/\base<=g/\w.heap[g]? =some (.cells cur 226 (0,0))/\L.length<=cap/\cap<=maxLen/\cur.size=cap/\∀i,i<L.length->cur[i]? =some (.pointer (some ⟨bl (gd L i),0,none⟩)):=by
 rcases h.2 with⟨_,h1⟩|⟨g,cap,cur,h1,h2,h3,h4,h5,h6,h7⟩
 .omega
 .refine⟨g,cap,cur,h1,h2,h3,h4,h5,by omega,fun i hi=>?_⟩;have h8:(cur.toList.take (L.length*1))[i]? =(ptV bl L)[i]? := by rw[h7]
  rw[List.getElem?_take,if_pos (by omega)]at h8;rw[Array.getElem?_toList]at h8;rw[h8,ptV,List.getElem?_map,List.getElem?_eq_getElem hi,gd_get hi];rfl
theorem RowJ.len {w:World}{base:Nat}{v:Value}{bl:Nat->Nat}{L:List Nat}(h:RowJ w base v bl L):∃a cap,v=.slice a L.length cap/\L.length<=cap/\cap<=maxLen:=by
 rcases h.2 with⟨h0,h1⟩|⟨g,cap,cur,h1,h2,h3,h4,h5,h6,h7⟩
 .exact⟨none,0,by rw[h1];exact h0,by omega,by simp[maxLen]⟩
 .exact⟨_,cap,h1,h4,h5⟩
theorem keyJ_lt {js:List Jb}{i j:Nat}(hi:(jk js i).tsk<1000)(hj:(jk js j).tsk<1000):keyJ js i<keyJ js j↔(jk js i).dl<(jk js j).dl\/((jk js i).dl=(jk js j).dl/\(jk js i).tsk<(jk js j).tsk):=by
 unfold keyJ;omega
theorem hlen_any (a:Option Addr)(n cap:Nat)(w:World):
  Calls Tryz.prog 193 #[.slice a n cap] w fun e w'=>e=.returned (.int .i64 n)/\w'=w:=by
 go_enter Tryz.func193,Tryz.ntmps193;go_wp2;go_ret;exact⟨rfl,rfl⟩
theorem isDone_any (j:Jb)(l b:Nat)(w:World)(h:w.heap[b]? =some (.cells (jbV j l) 225 (0,0))):
  Calls Tryz.prog 176 #[.pointer (some ⟨b,0,none⟩)] w fun e w'=>e=.returned (.bool (decide (l=0)))/\w'=w:=by
 have h6:w.cell? ⟨b,6,none⟩=some (.int .i64 l):=by rw[zC h];rfl
 clear h;go_enter Tryz.func176,Tryz.ntmps176;go_wp2;go_ret;refine⟨?_,rfl⟩;have e:((l:Int)==0)=decide (l=0):=by
  by_cases h0:l=0
  .simp[h0]
  .rw[decide_eq_false h0,beq_eq_false_iff_ne];omega
 rw[e];rfl
theorem hless_any (js:List Jb)(bl left:Nat->Nat)(L:List Nat)(base:Nat)(v:Value)(w:World)(hv:RowJ w base v bl L)(hj:JobsAt js bl left w)(hL:∀x∈L,x<js.length)(ht:∀k,k<js.length->(jk js k).tsk<1000)(i j:Nat)(hi:i<L.length)(hjl:j<L.length):
  Calls Tryz.prog 231 #[v,.int .i64 i,.int .i64 j] w fun e w'=>e=.returned (.bool (decide (keyJ js (gd L i)<keyJ js (gd L j))))/\w'.heap=w.heap/\Frm (fun _=>False) w w':=by
 obtain⟨g,cap,cur,rfl,hb,hg,hc1,hc2,hc3,hcell⟩:=hv.form (by omega);have ci:w.cell? ⟨g,i,none⟩=some (.pointer (some ⟨bl (gd L i),0,none⟩)):=by rw[zC hg];exact hcell i hi
 have cj:w.cell? ⟨g,j,none⟩=some (.pointer (some ⟨bl (gd L j),0,none⟩)):=by rw[zC hg];exact hcell j hjl
 have ki:=hL _ (gd_mem hi);have kj:=hL _ (gd_mem hjl);have bi:=hj _ ki;have bj:=hj _ kj;have ti:=ht _ ki;have tj:=ht _ kj;have ai4:w.cell? ⟨bl (gd L i),4,none⟩=some (.int .i64 (jk js (gd L i)).dl):=by rw[zC bi];rfl
 have aj4:w.cell? ⟨bl (gd L j),4,none⟩=some (.int .i64 (jk js (gd L j)).dl):=by rw[zC bj];rfl
 have ai2:w.cell? ⟨bl (gd L i),2,none⟩=some (.int .i64 (jk js (gd L i)).tsk):=by rw[zC bi];rfl
 have aj2:w.cell? ⟨bl (gd L j),2,none⟩=some (.int .i64 (jk js (gd L j)).tsk):=by rw[zC bj];rfl
 have hkey:Hid (decide (keyJ js (gd L i)<keyJ js (gd L j))=decide ((jk js (gd L i)).dl<(jk js (gd L j)).dl\/((jk js (gd L i)).dl=(jk js (gd L j)).dl/\(jk js (gd L i)).tsk<(jk js (gd L j)).tsk))):=decide_eq_decide.2 (keyJ_lt ti tj);rw[hkey.out];clear hkey bi bj hj hg hcell hv hL ht ki kj;generalize bl (gd L i)=bi at *;generalize bl (gd L j)=bj at *;generalize jk js (gd L i)=x at *;generalize jk js (gd L j)=y at *;have hil:(i:Int)<L.length:=by omega
 have hjl':(j:Int)<L.length:=by omega
 generalize L.length=n at *;by_cases hd:x.dl=y.dl
 .have hd':((x.dl:Int) != y.dl)=false:=by simp[hd]
  have hz:Hid (decide (x.dl<y.dl\/x.dl=y.dl/\x.tsk<y.tsk)=decide (x.tsk<y.tsk)):=decide_eq_decide.2 (by omega);rw[hz.out];clear hz hd;go_enter Tryz.func231,Tryz.ntmps231;go_wp2_with fail
  go_quiet (fail)
  go_wp2_with fail
  go_quiet (fail)
  go_wp2_with fail;go_ret;exact⟨rfl,rfl,Frm.sames rfl rfl rfl rfl⟩
 .have hd':((x.dl:Int) != y.dl)=true:=by simp;omega
  have hz:Hid (decide (x.dl<y.dl\/x.dl=y.dl/\x.tsk<y.tsk)=decide (x.dl<y.dl)):=decide_eq_decide.2 (by omega);rw[hz.out];clear hz hd;go_enter Tryz.func231,Tryz.ntmps231;go_wp2_with fail
  go_quiet (fail)
  go_wp2_with fail
  go_quiet (fail)
  go_wp2_with fail;go_ret;exact⟨rfl,rfl,Frm.sames rfl rfl rfl rfl⟩
theorem RowJ.set {w:World}{base g cap:Nat}{bl:Nat->Nat}{L:List Nat}(h:RowJ w base (.slice (some ⟨g,0,none⟩) L.length cap) bl L){i:Nat}(hi:i<L.length)(k:Nat):RowJ (w.setCell ⟨g,i,none⟩ (.pointer (some ⟨bl k,0,none⟩))) base (.slice (some ⟨g,0,none⟩) L.length cap) bl (L.set i k):=by
 rcases h.2 with⟨h0,_⟩|⟨g',cap',cur,h1,h2,h3,h4,h5,h6,h7⟩
 .simp at h0
 .injection h1 with e1 e2 e3;injection e1 with e1;injection e1 with e1;subst e1 e3;refine⟨by simp[ptV],.inr ⟨g,cap,cur.setIfInBounds i (.pointer (some ⟨bl k,0,none⟩)),by simp,h2,zS h3 i _,by simpa using h4,h5,by simpa using h6,?_⟩⟩;rw[Array.toList_setIfInBounds,List.length_set,List.take_set,h7];simp[ptV,List.map_set]
theorem RowJ.drew {w:World}{base:Nat}{v:Value}{bl:Nat->Nat}{L:List Nat}(h:RowJ w base v bl L):RowJ w.drew base v bl L:=h
theorem hswap_any (bl:Nat->Nat)(L:List Nat)(base:Nat)(v:Value)(w:World)(hv:RowJ w base v bl L)(i j:Nat)(hi:i<L.length)(hjl:j<L.length):
  Calls Tryz.prog 232 #[v,.int .i64 i,.int .i64 j] w fun e w'=>e=.returned (.tuple #[])/\RowJ w' base v bl (swp L i j)/\Frm (fun k=>v.ownBlock=some k) w w':=by
 obtain⟨g,cap,cur,rfl,hb,hg,hc1,hc2,hc3,hcell⟩:=hv.form (by omega);have ci:w.cell? ⟨g,i,none⟩=some (.pointer (some ⟨bl (gd L i),0,none⟩)):=by rw[zC hg];exact hcell i hi
 have cj:w.cell? ⟨g,j,none⟩=some (.pointer (some ⟨bl (gd L j),0,none⟩)):=by rw[zC hg];exact hcell j hjl
 have fz:=zF hg;have H1:Hid (RowJ ((w.setCell ⟨g,i,none⟩ (.pointer (some ⟨bl (gd L j),0,none⟩))).setCell ⟨g,j,none⟩ (.pointer (some ⟨bl (gd L i),0,none⟩))) base (.slice (some ⟨g,0,none⟩) L.length cap) bl (swp L i j)):=by
  have h1:=hv.set hi (gd L j);have h2:=RowJ.set (L:=L.set i (gd L j)) (by simpa using h1) (i:=j) (by simpa using hjl) (gd L i);unfold Hid swp;simpa using h2
 have H2:Hid (Frm (fun k=>(Value.slice (some ⟨g,0,none⟩) L.length cap).ownBlock=some k) w ((w.setCell ⟨g,i,none⟩ (.pointer (some ⟨bl (gd L j),0,none⟩))).setCell ⟨g,j,none⟩ (.pointer (some ⟨bl (gd L i),0,none⟩)))):=((Frm.refl _ w).setCell (p:=⟨g,i,none⟩) (by simp[Value.ownBlock]) _).setCell (p:=⟨g,j,none⟩) (by simp[Value.ownBlock]) _;obtain⟨X,hX⟩:∃X,(w.setCell ⟨g,i,none⟩ (.pointer (some ⟨bl (gd L j),0,none⟩))).cell? ⟨g,j,none⟩=some X:=by
  rw[zC (zS hg i _)];exact⟨_,Array.getElem?_eq_getElem (by simp;omega)⟩
 have fz2:=zF (zS hg i (.pointer (some ⟨bl (gd L j),0,none⟩)));clear hg hcell hv;generalize bl (gd L i)=bi at *;generalize bl (gd L j)=bj at *;have hil:(i:Int)<L.length:=by omega
 have hjl':(j:Int)<L.length:=by omega
 generalize L.length=n at *;go_enter Tryz.func232,Tryz.ntmps232;go_wp2_with fail
 go_region
 all_goals
  go_wp2
  go_end0
  exact⟨rfl,H1.out.drew,H2.out.drew⟩
theorem load_heap (a:Addr)(v:Value)(w:World)(h:w.cell? a=some v):(loadVar 219 a).run Tryz.prog w=.ok v w:=by
 simp[loadVar,isAgg,run_underlying Tryz.underlying219,h]
theorem wrap_ok (t:TypeId)(a:Addr)(nm:String)(w:World):(Builtin.ssaWrapNilChk_ #[t] t #[.pointer (some a),strVal "",strVal nm]).run Tryz.prog w=.ok (.pointer (some a)) w:=rfl
theorem meth_val {nm:String}{f:Nat}(h1:((Tryz.prog.info? 228).bind fun i=>(i.methods.find? (fun x=>x.name==nm)).map fun m=>(m.path.toList.length,m.func))=some (0,some (f,false)))(a:Addr)(v:Value)(w:World)(n:Nat)(h:w.cell? a=some v):(method (n+1) 228 (.pointer (some a)) nm).run Tryz.prog w=.ok (f,v) w:=by
 cases hi:Tryz.prog.info? 228 with
 | none=>rw[hi]at h1;simp at h1
 | some i=>
  rw[hi]at h1
  cases hm:i.methods.find? (fun x=>x.name==nm) with
  | none=>simp[hm]at h1
  | some m=>
   simp only[Option.bind_some,hm,Option.map_some,Option.some.injEq,Prod.mk.injEq]at h1;have hp:m.path=#[]:=by
    have:=h1.1;simpa using this
   have hl:=load_heap a v w h;simp[method,typeInfo,hi,hm,hp,h1.2,follow,receiverAt,run_underlying Tryz.underlying228,Place.get,wrap_ok,asAddr,hl]
theorem meth_len (a:Addr)(v:Value)(w:World)(n:Nat)(h:w.cell? a=some v):(method (n+1) 228 (.pointer (some a)) "Len").run Tryz.prog w=.ok (193,v) w:=meth_val (by kernel_rfl) a v w n h
theorem meth_less (a:Addr)(v:Value)(w:World)(n:Nat)(h:w.cell? a=some v):(method (n+1) 228 (.pointer (some a)) "Less").run Tryz.prog w=.ok (231,v) w:=meth_val (by kernel_rfl) a v w n h
theorem meth_swap (a:Addr)(v:Value)(w:World)(n:Nat)(h:w.cell? a=some v):(method (n+1) 228 (.pointer (some a)) "Swap").run Tryz.prog w=.ok (232,v) w:=meth_val (by kernel_rfl) a v w n h
theorem meth_push (a:Addr)(w:World)(n:Nat):(method (n+1) 228 (.pointer (some a)) "Push").run Tryz.prog w=.ok (234,.pointer (some a)) w:=by kernel_rfl
theorem meth_pop (a:Addr)(w:World)(n:Nat):(method (n+1) 228 (.pointer (some a)) "Pop").run Tryz.prog w=.ok (233,.pointer (some a)) w:=by kernel_rfl
structure HpW (P:Nat) (c0 c1 c2 v:Value) (base:Nat) (bl:Nat->Nat) (L:List Nat) (w:World):Prop where
 blk:w.heap[P]? =some (.cells #[c0,c1,c2,v] 221 (0,0))
 own:RowJ w base v bl L
section
variable {P:Nat} {c0 c1 c2 v:Value} {base:Nat} {bl:Nat->Nat} {L:List Nat} {w:World}
theorem HpW.cell (h:HpW P c0 c1 c2 v base bl L w):w.cell? ⟨P,3,none⟩=some v:=by rw[zC h.blk];rfl
theorem HpW.ne (h:HpW P c0 c1 c2 v base bl L w):v.ownBlock≠some P:=by
 intro e;rcases h.own.2 with⟨rfl,_⟩|⟨g,cap,cur,rfl,_,hg,_⟩
 .simp[Value.ownBlock]at e
 .simp[Value.ownBlock]at e;subst e;rw[h.blk]at hg;simp at hg
theorem own_not_job {js:List Jb}{left:Nat->Nat}(ho:RowJ w base v bl L)(hj:JobsAt js bl left w){k:Nat}(hk:k<js.length):v.ownBlock≠some (bl k):=by
 intro e;have:=hj k hk;rcases ho.2 with⟨rfl,_⟩|⟨g,cap,cur,rfl,_,hg,_⟩
 .simp[Value.ownBlock]at e
 .simp[Value.ownBlock]at e;subst e;rw[this]at hg;simp at hg
theorem HpW.not_job {js:List Jb}{left:Nat->Nat}(h:HpW P c0 c1 c2 v base bl L w)(hj:JobsAt js bl left w){k:Nat}(hk:k<js.length):bl k≠P:=by
 intro e;have:=hj k hk;rw[e,h.blk]at this;simp at this
theorem HpW.same {w':World}(h:HpW P c0 c1 c2 v base bl L w)(e:w'.heap=w.heap):HpW P c0 c1 c2 v base bl L w':=⟨by rw[e];exact h.blk,⟨h.own.1,by rw[e];exact h.own.2⟩⟩
theorem JobsAt.same {js:List Jb}{left:Nat->Nat}{w':World}(h:JobsAt js bl left w)(e:w'.heap=w.heap):JobsAt js bl left w':=fun k hk=>by rw[e];exact h k hk
theorem HpW.swap {w':World}{L':List Nat}(h:HpW P c0 c1 c2 v base bl L w)(ho:RowJ w' base v bl L')(hf:Frm (fun k=>v.ownBlock=some k) w w'):HpW P c0 c1 c2 v base bl L' w':=⟨hf.blk h.blk h.ne,ho⟩
end
abbrev hpI (P:Nat):Value:=.iface 228 (.pointer (some ⟨P,3,none⟩))
theorem up_any (js:List Jb)(left:Nat->Nat)(P:Nat)(c0 c1 c2 v:Value)(base:Nat)(bl:Nat->Nat)(L:List Nat)(w:World)(h:HpW P c0 c1 c2 v base bl L w)(hj:JobsAt js bl left w)(hL:∀x∈L,x<js.length)(ht:∀k,k<js.length->(jk js k).tsk<1000)(hn:L.length<=1000000)(j:Nat)(hjl:j<L.length):
  Calls Tryz.prog 192 #[hpI P,.int .i64 j] w fun e w'=>e=.returned (.tuple #[])/\HpW P c0 c1 c2 v base bl (upP (keyJ js) L j) w'/\Frm (fun k=>v.ownBlock=some k) w w':=by
 have H:=hide h;have HJ:=hide hj;have HL:=hide hL;have HT:=hide ht;clear h hj hL ht;go_enter Tryz.func192,Tryz.ntmps192;go_wp2_with fail
 go_loopw [1] (fun jv wr=>∃(j':Nat) (L':List Nat),jv=.int .i64 j'/\j'<L.length/\HpW P c0 c1 c2 v base bl L' wr/\L'.Perm L/\upP (keyJ js) L' j'=upP (keyJ js) L j/\Frm (fun k=>v.ownBlock=some k) w wr) (fun jv _=>(intOf jv).toNat)
 case atStart=>exact⟨j,L,rfl,hjl,H.out,List.Perm.refl _,rfl,Frm.refl _ _⟩
 case round=>
  obtain⟨j',L',rfl,hj',h',hp,he,hf⟩:=hrel;have hl':=hp.length_eq;have HJ':=hide (HJ.out.keep hf (fun k hk=>own_not_job H.out.own HJ.out hk));have c3:=h'.cell;have H':=hide h';have Hp:=hide hp;have He:=hide he;have Hf:=hide hf;clear h' hp he hf;have mL:∀n,(method (n+1) 228 (.pointer (some ⟨P,3,none⟩)) "Less").run Tryz.prog wr=.ok (231,v) wr:=fun n=>meth_less _ v wr n c3;by_cases h0:j'=0
  .subst h0;go_wp2_with fail
   go_end0
   have e:=He.out;rw[upP_zero]at e;exact⟨rfl,by rw[←e];exact H'.out,Hf.out⟩
  .have hq:((j':Int)-1).tdiv 2=((j'-1)/2:Nat):=by
    rw[show ((j':Int)-1)=((j'-1:Nat):Int) by omega];rfl
   have hqj:(((j'-1)/2:Nat):Int)≠j':=by omega
   have hq1:(j'-1)/2<L'.length:=by omega
   have hne:((((j'-1)/2:Nat):Int)==(j':Int))=false:=by rw[beq_eq_false_iff_ne];exact hqj
   generalize hQ:(j'-1)/2=q at *;have HQ:=hide hQ;clear hQ;have CL:=hide (hless_any js bl left L' base v wr H'.out.own HJ'.out (fun x hx=>HL.out x (Hp.out.mem_iff.1 hx)) HT.out j' q (by omega) hq1);by_cases hk:keyJ js (gd L' j')<keyJ js (gd L' q)
   .have He2:Hid (upP (keyJ js) (swp L' q j') q=upP (keyJ js) L j):=by
     have e:=upP_go (key:=keyJ js) (L:=L') (j:=j') (by omega) (by rw[HQ.out];exact hk);rw[HQ.out]at e;exact e.symm.trans He.out
    rw[decide_eq_true hk]at CL;go_wp2_with (go_at_call 231;refine CL.out.mono ?_;rintro e w1 ⟨rfl,hh1,hf1⟩;have H1:=hide (H'.out.same hh1);have HF1:=hide (Hf.out.trans (hf1.wide (fun k _ hx=>hx.elim)));clear hh1 hf1;have mS:∀n,(method (n+1) 228 (.pointer (some ⟨P,3,none⟩)) "Swap").run Tryz.prog w1=.ok (232,v) w1:=fun n=>meth_swap _ v w1 n H1.out.cell);refine(hswap_any bl L' base v w1 H1.out.own q j' hq1 (by omega)).mono ?_;rintro e w2 ⟨rfl,ho2,hf2⟩;have H2:=hide (H1.out.swap ho2 hf2);have HF2:=hide (HF1.out.trans hf2);clear ho2 hf2 H1 HF1;go_wp2_with fail;go_roundw
    case rel=>exact⟨q,swp L' q j',by go_num,by omega,H2.out,(swp_perm hq1 (by omega)).trans Hp.out,He2.out,HF2.out⟩
    case measure=>
     have e:=HQ.out;simp[intOf];omega
   .have He2:Hid (L'=upP (keyJ js) L j):=by
     have e:=upP_stop (key:=keyJ js) (L:=L') (j:=j') (by rw[HQ.out];exact hk);exact e.symm.trans He.out
    rw[decide_eq_false hk]at CL;go_wp2_with (go_at_call 231;refine CL.out.mono ?_;rintro e w1 ⟨rfl,hh1,hf1⟩;have H1:=hide (H'.out.same hh1);have HF1:=hide (Hf.out.trans (hf1.wide (fun k _ hx=>hx.elim)));clear hh1 hf1)
    go_end0
    exact⟨rfl,by rw[←He2.out];exact H1.out,HF1.out⟩
theorem down_any (js:List Jb)(left:Nat->Nat)(P:Nat)(c0 c1 c2 v:Value)(base:Nat)(bl:Nat->Nat)(L:List Nat)(w:World)(h:HpW P c0 c1 c2 v base bl L w)(hj:JobsAt js bl left w)(hL:∀x∈L,x<js.length)(ht:∀k,k<js.length->(jk js k).tsk<1000)(hn:L.length<=1000000)(n:Nat)(hnl:n<L.length):
  Calls Tryz.prog 203 #[hpI P,.int .i64 0,.int .i64 n] w fun e w'=>(∃b,e=.returned (.bool b))/\HpW P c0 c1 c2 v base bl (dnP (keyJ js) L 0 n) w'/\Frm (fun k=>v.ownBlock=some k) w w':=by
 have H:=hide h;have HJ:=hide hj;have HL:=hide hL;have HT:=hide ht;clear h hj hL ht;go_enter Tryz.func203,Tryz.ntmps203;go_wp2_with fail
 go_loopw [7] (fun iv wr=>∃(i:Nat) (L':List Nat),iv=.int .i64 i/\i<=n/\HpW P c0 c1 c2 v base bl L' wr/\L'.Perm L/\dnP (keyJ js) L' i n=dnP (keyJ js) L 0 n/\Frm (fun k=>v.ownBlock=some k) w wr) (fun iv _=>n-(intOf iv).toNat)
 case atStart=>exact⟨0,L,rfl,by omega,H.out,List.Perm.refl _,rfl,Frm.refl _ _⟩
 case round=>
  obtain⟨i,L',rfl,hi,h',hp,he,hf⟩:=hrel;have hl':=hp.length_eq;have HJ':=hide (HJ.out.keep hf (fun k hk=>own_not_job H.out.own HJ.out hk));have c3:=h'.cell;have H':=hide h';have Hp:=hide hp;have He:=hide he;have Hf:=hide hf;clear h' hp he hf;have HL':Hid (∀x∈L',x<js.length):=fun x hx=>HL.out x (Hp.out.mem_iff.1 hx);have mL:∀n,(method (n+1) 228 (.pointer (some ⟨P,3,none⟩)) "Less").run Tryz.prog wr=.ok (231,v) wr:=fun n=>meth_less _ v wr n c3;have hi6:(i:Int)<=1000000:=by omega
  have hn6:n<L'.length:=by omega
  by_cases h1:2*i+1<n
  .have h1':¬(n:Int)<=2*(i:Int)+1:=by omega
   have h1'':¬(2*(i:Int)+1<0):=by omega
   have hkl:=kid_lt (key:=keyJ js) (L:=L') h1;have hkc:=kid_cases (keyJ js) L' i n;have HK0:Hid (kid (keyJ js) L' i n=if 2*i+2<n/\keyJ js (gd L' (2*i+2))<keyJ js (gd L' (2*i+1)) then 2*i+2 else 2*i+1):=rfl;have e1:2*(i:Int)+1=((2*i+1:Nat):Int):=by omega
   have e2:2*(i:Int)+1+1=((2*i+2:Nat):Int):=by omega
   have HS:Hid (¬keyJ js (gd L' (kid (keyJ js) L' i n))<keyJ js (gd L' i)->L'=dnP (keyJ js) L 0 n):=fun hno=>(dnP_stop hno).symm.trans He.out;have HG:Hid (keyJ js (gd L' (kid (keyJ js) L' i n))<keyJ js (gd L' i)->dnP (keyJ js) (swp L' i (kid (keyJ js) L' i n)) (kid (keyJ js) L' i n) n=dnP (keyJ js) L 0 n):=fun hy=>(dnP_go h1 hy).symm.trans He.out;generalize kid (keyJ js) L' i n=K at *;have CL2:Hid (∀KI:Int,KI=K->∀w1:World,w1.heap=wr.heap->Calls Tryz.prog 231 #[v,.int .i64 KI,.int .i64 i] w1 fun e w'=>e=.returned (.bool (decide (keyJ js (gd L' K)<keyJ js (gd L' i))))/\w'.heap=w1.heap/\Frm (fun _=>False) w1 w'):=fun KI eK w1 e1=>by
    subst eK;exact hless_any js bl left L' base v w1 (H'.out.same e1).own (HJ'.out.same e1) HL'.out HT.out K i (by omega) (by omega)
   have CSW:Hid (∀KI:Int,KI=K->∀w1:World,RowJ w1 base v bl L'->Calls Tryz.prog 232 #[v,.int .i64 i,.int .i64 KI] w1 fun e w'=>e=.returned (.tuple #[])/\RowJ w' base v bl (swp L' i K)/\Frm (fun k=>v.ownBlock=some k) w1 w'):=fun KI eK w1 e1=>by
    subst eK;exact hswap_any bl L' base v w1 e1 i K (by omega) (by omega)
   by_cases h2:2*i+2<n
   .have h2':2*(i:Int)+1+1<n:=by omega
    have CL:=hide (hless_any js bl left L' base v wr H'.out.own HJ'.out HL'.out HT.out (2*i+2) (2*i+1) (by omega) (by omega));rw[←e1,←e2]at CL;clear e1 e2;by_cases hk:keyJ js (gd L' (2*i+2))<keyJ js (gd L' (2*i+1))
    .have hK:K=2*i+2:=by rw[HK0.out,if_pos ⟨h2,hk⟩]
     rw[decide_eq_true hk]at CL;have hKa:(K:Int)<=2*(i:Int)+2:=by omega
     have hKb:2*(i:Int)+2<=(K:Int):=by omega
     clear hk HK0 hK hkc hl' h1;go_wp2_with fail;refine CL.out.mono ?_;rintro e w1 ⟨rfl,hh1,hf1⟩;have H1:=hide (H'.out.same hh1);have HF1:=hide (Hf.out.trans (hf1.wide (fun k _ hx=>hx.elim)));have Hh1:=hide hh1;have mL1:∀n,(method (n+1) 228 (.pointer (some ⟨P,3,none⟩)) "Less").run Tryz.prog w1=.ok (231,v) w1:=fun n=>meth_less _ v w1 n H1.out.cell;clear hh1 hf1 CL;go_wp2_with fail;refine(CL2.out _ (by omega) _ Hh1.out).mono ?_;rintro e w2 ⟨rfl,hh2,hf2⟩;have H2:=hide (H1.out.same hh2);have HF2:=hide (HF1.out.trans (hf2.wide (fun k _ hx=>hx.elim)));have mS:∀n,(method (n+1) 228 (.pointer (some ⟨P,3,none⟩)) "Swap").run Tryz.prog w2=.ok (232,v) w2:=fun n=>meth_swap _ v w2 n H2.out.cell;clear hh2 hf2 H1 HF1;by_cases hk2:keyJ js (gd L' K)<keyJ js (gd L' i)
     .rw[decide_eq_true hk2];have hg2:=hide (HG.out hk2);clear hk2 HS HG CL2;go_wp2_with fail;refine(CSW.out _ (by omega) _ H2.out.own).mono ?_;rintro e w3 ⟨rfl,ho3,hf3⟩;have H3:=hide (H2.out.swap ho3 hf3);have HF3:=hide (HF2.out.trans hf3);clear ho3 hf3 H2 HF2 CSW;go_wp2_with fail;go_roundw
      case rel=>exact⟨K,swp L' i K,by simp;omega,by omega,H3.out,(swp_perm (by omega) (by omega)).trans Hp.out,hg2.out,HF3.out⟩
      case measure=>simp[intOf];omega
     .rw[decide_eq_false hk2];have hg2:=hide (HS.out hk2);clear hk2 HS HG CL2 CSW;go_wp2_with fail;go_ret;exact⟨⟨_,rfl⟩,by rw[←hg2.out];exact H2.out,HF2.out⟩
    .have hK:K=2*i+1:=by rw[HK0.out,if_neg (fun x=>hk x.2)]
     rw[decide_eq_false hk]at CL;have hKa:(K:Int)<=2*(i:Int)+1:=by omega
     have hKb:2*(i:Int)+1<=(K:Int):=by omega
     clear hk HK0 hK hkc hl' h1;go_wp2_with fail;refine CL.out.mono ?_;rintro e w1 ⟨rfl,hh1,hf1⟩;have H1:=hide (H'.out.same hh1);have HF1:=hide (Hf.out.trans (hf1.wide (fun k _ hx=>hx.elim)));have Hh1:=hide hh1;have mL1:∀n,(method (n+1) 228 (.pointer (some ⟨P,3,none⟩)) "Less").run Tryz.prog w1=.ok (231,v) w1:=fun n=>meth_less _ v w1 n H1.out.cell;clear hh1 hf1 CL;go_wp2_with fail;refine(CL2.out _ (by omega) _ Hh1.out).mono ?_;rintro e w2 ⟨rfl,hh2,hf2⟩;have H2:=hide (H1.out.same hh2);have HF2:=hide (HF1.out.trans (hf2.wide (fun k _ hx=>hx.elim)));have mS:∀n,(method (n+1) 228 (.pointer (some ⟨P,3,none⟩)) "Swap").run Tryz.prog w2=.ok (232,v) w2:=fun n=>meth_swap _ v w2 n H2.out.cell;clear hh2 hf2 H1 HF1;by_cases hk2:keyJ js (gd L' K)<keyJ js (gd L' i)
     .rw[decide_eq_true hk2];have hg2:=hide (HG.out hk2);clear hk2 HS HG CL2;go_wp2_with fail;refine(CSW.out _ (by omega) _ H2.out.own).mono ?_;rintro e w3 ⟨rfl,ho3,hf3⟩;have H3:=hide (H2.out.swap ho3 hf3);have HF3:=hide (HF2.out.trans hf3);clear ho3 hf3 H2 HF2 CSW;go_wp2_with fail;go_roundw
      case rel=>exact⟨K,swp L' i K,by simp;omega,by omega,H3.out,(swp_perm (by omega) (by omega)).trans Hp.out,hg2.out,HF3.out⟩
      case measure=>simp[intOf];omega
     .rw[decide_eq_false hk2];have hg2:=hide (HS.out hk2);clear hk2 HS HG CL2 CSW;go_wp2_with fail;go_ret;exact⟨⟨_,rfl⟩,by rw[←hg2.out];exact H2.out,HF2.out⟩
   .have h2':¬2*(i:Int)+1+1<n:=by omega
    clear e1 e2
    .have hK:K=2*i+1:=by rw[HK0.out,if_neg (fun x=>h2 x.1)]
     have hKa:(K:Int)<=2*(i:Int)+1:=by omega
     have hKb:2*(i:Int)+1<=(K:Int):=by omega
     have H1:=H';have HF1:=Hf;clear HK0 hK hkc hl' h1;go_wp2_with fail;refine(CL2.out _ (by omega) _ rfl).mono ?_;rintro e w2 ⟨rfl,hh2,hf2⟩;have H2:=hide (H1.out.same hh2);have HF2:=hide (HF1.out.trans (hf2.wide (fun k _ hx=>hx.elim)));have mS:∀n,(method (n+1) 228 (.pointer (some ⟨P,3,none⟩)) "Swap").run Tryz.prog w2=.ok (232,v) w2:=fun n=>meth_swap _ v w2 n H2.out.cell;clear hh2 hf2 H1 HF1;by_cases hk2:keyJ js (gd L' K)<keyJ js (gd L' i)
     .rw[decide_eq_true hk2];have hg2:=hide (HG.out hk2);clear hk2 HS HG CL2;go_wp2_with fail;refine(CSW.out _ (by omega) _ H2.out.own).mono ?_;rintro e w3 ⟨rfl,ho3,hf3⟩;have H3:=hide (H2.out.swap ho3 hf3);have HF3:=hide (HF2.out.trans hf3);clear ho3 hf3 H2 HF2 CSW;go_wp2_with fail;go_roundw
      case rel=>exact⟨K,swp L' i K,by simp;omega,by omega,H3.out,(swp_perm (by omega) (by omega)).trans Hp.out,hg2.out,HF3.out⟩
      case measure=>simp[intOf];omega
     .rw[decide_eq_false hk2];have hg2:=hide (HS.out hk2);clear hk2 HS HG CL2 CSW;go_wp2_with fail;go_ret;exact⟨⟨_,rfl⟩,by rw[←hg2.out];exact H2.out,HF2.out⟩
  .have h1':(n:Int)<=2*(i:Int)+1:=by omega
   have hg2:Hid (L'=dnP (keyJ js) L 0 n):=(dnP_end h1).symm.trans He.out;go_wp2_with fail;go_ret;exact⟨⟨_,rfl⟩,by rw[←hg2.out];exact H'.out,Hf.out⟩
theorem Tryz.infoJP:(Tryz.prog.info? 226).map (fun i=>(i.zero,i.size,i.bytes))=some (some (.pointer none),1,8):=by kernel_rfl
theorem step_append_at {P:Program}{ops:Array Oper}{o:Oper}{a:Act}{w:World}{K:Act->World->Prop}{Q:Exit->Act->World->Prop}{E:Prop}
  (hg:o.guard=none) (s x:Operand) (t:TypeId) (hop:o.op=Op.call { callee:=Callee.builtin Builtin.append,args:=#[s,x],argTypes:=#[t,t] })
  (base:Nat) (e:TypeId) (i:TypeInfo) (z:Value) (size bytes:Nat) (h1:P.underlying t=some (.slice e)) (h2:P.info? e=some i) (h3:i.zero=some z) (h4:i.size=size) (h5:i.bytes=bytes) (h6:z.cells.size=size) (h7:0<size)
  (v:Value) (n:Nat) (xs:List Value) (hs:a.eval s=v) (hown:w.ownsRow base e size v n xs)
  (ad:Addr) (m c:Nat) (news:List Value) (hx:a.eval x=.slice (some ad) m c) (hn:news.length=m*size) (hc:∀j u,news[j]? =some u->w.cell? (ad.add j)=some u) (h1c:∀u∈news,u.oneCell'=true)
  (b1:n+m<=maxLen) (b2:(n+m)*bytes<=140737488355328) (hb:base<=w.heap.size)
  (hK:∀v' w',w'.ownsRow base e size v' (n+m) (xs++news)->w.grownBy w' v.ownBlock->(v'.ownBlock=v.ownBlock\/v'.ownBlock=some w.heap.size)->K (a.put o.dst v') w'):
  if Region.wanted o (yielded ops a.tmps)=true then Oper.wp P o a w K Q else E:=by
 have hw:Region.wanted o (yielded ops a.tmps)=true:=by simp[Region.wanted,hg]
 rw[if_pos hw];obtain⟨v',w',hrun,r1,r2,_,r3⟩:=run_append_own_at (P:=P) w base t o.type e i z size bytes h1 h2 h3 h4 h5 h6 h7 v n xs hown ad m c news hn hc h1c b1 b2 hb;unfold Oper.wp;simp[execOp,hop,resolve,invoke,builtin,hs,hx,hrun,Result.andThen];exact hK v' w' r1 r2 r3
structure Stp (P:Nat) (v v':Value) (w w':World):Prop where
 f:Frm (fun i=>i=P\/v.ownBlock=some i) w w'
 at_:v'.ownBlock=v.ownBlock\/∃b,v'.ownBlock=some b/\w.heap.size<=b
theorem Stp.trans {P:Nat}{v v1 v2:Value}{w w1 w2:World}(h:Stp P v v1 w w1)(k:Stp P v1 v2 w1 w2):Stp P v v2 w w2:=by
 refine⟨⟨k.f.os.trans h.f.os,k.f.tape.trans h.f.tape,k.f.output.trans h.f.output,Nat.le_trans h.f.size k.f.size,fun i hi hx=>?_⟩,?_⟩
 .refine(k.f.block i (Nat.lt_of_lt_of_le hi h.f.size) (fun hx1=>?_)).trans (h.f.block i hi hx);rcases hx1 with e|e
  .exact hx (.inl e)
  .rcases h.at_ with e2|⟨b,e2,hb⟩
   .exact hx (.inr (e2▸e))
   .rw[e2]at e;injection e with e;omega
 .rcases k.at_ with e|⟨b,e,hb⟩
  .rw[e];exact h.at_
  .exact .inr ⟨b,e,Nat.le_trans h.f.size hb⟩
theorem Stp.own {P:Nat}{v:Value}{w w':World}(h:Frm (fun k=>v.ownBlock=some k) w w'):Stp P v v w w':=⟨h.wide (fun k _ hx=>.inr hx),.inl rfl⟩
theorem Stp.jobs {P:Nat}{c0 c1 c2 v v':Value}{base:Nat}{bl:Nat->Nat}{L:List Nat}{w w':World}{js:List Jb}{left:Nat->Nat}(h:Stp P v v' w w')(hh:HpW P c0 c1 c2 v base bl L w)(hj:JobsAt js bl left w):JobsAt js bl left w':=
 hj.keep h.f (fun k hk hx=>by
  rcases hx with e|e
  .exact hh.not_job hj hk e
  .exact own_not_job hh.own hj hk e)
theorem HpW.grow {P:Nat}{c0 c1 c2 v:Value}{base:Nat}{bl:Nat->Nat}{L:List Nat}{w w1:World}{o:Obj}(h:HpW P c0 c1 c2 v base bl L w)(hg:(w.alloc o).grownBy w1 v.ownBlock):w1.heap[P]? =some (.cells #[c0,c1,c2,v] 221 (0,0)):=by
 have hl:=zL h.blk;rw[hg.block P (by simp;omega) (fun e=>h.ne e.symm),Below.heap_alloc w o P hl];exact h.blk
theorem HpW.push {P:Nat}{c0 c1 c2 v v':Value}{base:Nat}{bl:Nat->Nat}{L:List Nat}{w w1:World}{o:Obj}{k:Nat}(h:HpW P c0 c1 c2 v base bl L w)(hg:(w.alloc o).grownBy w1 v.ownBlock)(ho:w1.ownsRow base 226 1 v' (L.length+1) (ptV bl L++[.pointer (some ⟨bl k,0,none⟩)]))(hat:v'.ownBlock=v.ownBlock\/v'.ownBlock=some (w.alloc o).heap.size):
  HpW P c0 c1 c2 v' base bl (L++[k]) (w1.setCell ⟨P,3,none⟩ v')/\Stp P v v' w (w1.setCell ⟨P,3,none⟩ v'):=by
 have hb1:=h.grow hg;have hl:=zL h.blk;have hne:v'.ownBlock≠some P:=by
  rcases hat with e|e
  .rw[e];exact h.ne
  .rw[e];simp;omega
 refine⟨⟨zS hb1 3 v',?_⟩,⟨⟨hg.os,hg.tape,hg.output,?_,fun i hi hx=>?_⟩,?_⟩⟩
 .have h2:w1.ownsRow base 226 1 v' (L++[k]).length (ptV bl (L++[k])):=by
   rw[show (L++[k]).length=L.length+1 by simp,show ptV bl (L++[k])=ptV bl L++[.pointer (some ⟨bl k,0,none⟩)] by simp[ptV]];exact ho
  refine h2.kept (row:=some P) ⟨rfl,rfl,rfl,by simp[World.setCell],fun i _ hi=>Below.heap_setCell _ _ _ _ (fun e=>hi (by simp[e]))⟩ (Or.inr hne)
 .have:=hg.size;simp[World.setCell]at this ⊢;omega
 .rw[Below.heap_setCell _ _ _ _ (fun e=>hx (.inl e)),hg.block i (by simp;omega) (fun e=>hx (.inr e.symm)),Below.heap_alloc w o i hi]
 .rcases hat with e|e
  .exact .inl e
  .exact .inr ⟨_,e,by simp⟩
theorem assert_job (a:Option Addr)(w:World):(Instr.typeAssert (.iface 226 (.pointer a)) 20 226 false).run Tryz.prog w=.ok (.pointer a) w:=by kernel_rfl
theorem hpush_any (P:Nat)(c0 c1 c2 v:Value)(base:Nat)(bl:Nat->Nat)(L:List Nat)(w:World)(h:HpW P c0 c1 c2 v base bl L w)(hb:base<=w.heap.size)(hn:L.length<=1000000)(k:Nat):
  Calls Tryz.prog 234 #[.pointer (some ⟨P,3,none⟩),.iface 226 (.pointer (some ⟨bl k,0,none⟩))] w fun e w'=>e=.returned (.tuple #[])/\∃v',HpW P c0 c1 c2 v' base bl (L++[k]) w'/\Stp P v v' w w':=by
 obtain⟨i0,hi,hz0,hz1,hz2⟩:=info_parts Tryz.infoJP;have c3:=h.cell;have fz:=zF h.blk 3;have H:=hide h;have Ho:Hid (w.drew.ownsRow base 226 1 v L.length (ptV bl L)):=h.own;obtain⟨a,cap,hv,_,_⟩:=h.own.len;subst hv;have HP:Hid (∀(o:Obj) (w1:World) (v':Value),(w.drew.alloc o).grownBy w1 (Value.slice a L.length cap).ownBlock->w1.ownsRow base 226 1 v' (L.length+1) (ptV bl L++[.pointer (some ⟨bl k,0,none⟩)])->(v'.ownBlock=(Value.slice a L.length cap).ownBlock\/v'.ownBlock=some (w.drew.alloc o).heap.size)->HpW P c0 c1 c2 v' base bl (L++[k]) (w1.setCell ⟨P,3,none⟩ v')/\Stp P (Value.slice a L.length cap) v' w (w1.setCell ⟨P,3,none⟩ v')/\w1.cell? ⟨P,3,none⟩=some (.slice a L.length cap)/\w1.frozen? ⟨P,3,none⟩=false):=fun o w1 v' hg ho hat=>by
  have h1:=(h.same (w':=w.drew) rfl).push hg ho hat;have h2:=(h.same (w':=w.drew) rfl).grow hg;exact⟨h1.1,⟨⟨h1.2.f.os,h1.2.f.tape,h1.2.f.output,h1.2.f.size,h1.2.f.block⟩,h1.2.at_⟩,by rw[zC h2];rfl,zF h2 3⟩
 clear h;have hta:=assert_job (some ⟨bl k,0,none⟩);have c3a:(w.alloc (.cells #[.pointer (some ⟨bl k,0,none⟩)] 226)).cell? ⟨P,3,none⟩=some (.slice a L.length cap):=by rw[World.cell?_alloc_past _ _ _ (zL H.out.blk)];exact c3
 generalize L.length=n at *;generalize ptV bl L=xs at *;go_enter Tryz.func234,Tryz.ntmps234;go_wp2_with fail
 go_region_law (refine step_append_at rfl (.tmp 7) (.tmp 10) 219 rfl base 226 i0 _ 1 8 Tryz.underlying219 hi hz0 hz1 hz2 rfl (by decide) _ _ _ rfl (Ho.out.alloc _) ⟨w.heap.size,0,none⟩ 1 1 [.pointer (some ⟨bl k,0,none⟩)] rfl rfl (cells_new w.drew #[_] _ _ rfl) (by simp[Value.oneCell']) (by unfold maxLen;omega) (by omega) (by simp;omega) ?_;intro v' w1 hown1 hgr1 hat1;obtain⟨g',cap',hv',_,_⟩:=own_form hown1 (by omega);subst hv';obtain⟨p1,p2,p3,p4⟩:=HP.out _ w1 _ hgr1 hown1 hat1;have P1:=hide p1;have P2:=hide p2;clear p1 p2 hown1 hgr1 hat1)
 all_goals
  go_wp2
  go_end0
  exact⟨rfl,_,P1.out,P2.out⟩
theorem push_any (js:List Jb)(left:Nat->Nat)(P:Nat)(c0 c1 c2 v:Value)(base:Nat)(bl:Nat->Nat)(L:List Nat)(w:World)(h:HpW P c0 c1 c2 v base bl L w)(hj:JobsAt js bl left w)(hL:∀x∈L,x<js.length)(ht:∀k,k<js.length->(jk js k).tsk<1000)(hn:L.length<=10000)(hb:base<=w.heap.size)(k:Nat)(hk:k<js.length)(hh:Hp (keyJ js) L L.length):
  Calls Tryz.prog 174 #[hpI P,.iface 226 (.pointer (some ⟨bl k,0,none⟩))] w fun e w'=>e=.returned (.tuple #[])/\∃v' L',HpW P c0 c1 c2 v' base bl L' w'/\Stp P v v' w w'/\L'.Perm (L++[k])/\Hp (keyJ js) L' L'.length:=by
 have H:=hide h;have HJ:=hide hj;have HL:Hid (∀x∈L++[k],x<js.length):=fun x hx=>by
  rcases List.mem_append.1 hx with hx|hx
  .exact hL x hx
  .simp at hx;subst hx;exact hk
 have HT:=hide ht;obtain⟨u1,u2⟩:=up_push hh k;have U1:=hide u1;have U2:=hide u2;have mP:∀W n,(method (n+1) 228 (.pointer (some ⟨P,3,none⟩)) "Push").run Tryz.prog W=.ok (234,.pointer (some ⟨P,3,none⟩)) W:=fun W n=>meth_push _ W n;clear h hj hL ht hh u1 u2;go_enter Tryz.func174,Tryz.ntmps174;go_wp2_with fail;refine(hpush_any P c0 c1 c2 v base bl L w H.out hb (by omega) k).mono ?_;rintro e w1 ⟨rfl,v1,h1,s1⟩;obtain⟨a,cap,hv,_,_⟩:=h1.own.len;have e1:(L++[k]).length=L.length+1:=by simp
 rw[e1]at hv;subst hv;have HJ1:=hide (s1.jobs H.out HJ.out);have c3:=h1.cell;have mN:∀n,(method (n+1) 228 (.pointer (some ⟨P,3,none⟩)) "Len").run Tryz.prog w1=.ok (193,.slice a (L.length+1) cap) w1:=fun n=>meth_len _ _ w1 n c3;have H1:=hide h1;have S1:=hide s1;have CU:=hide (up_any js left P c0 c1 c2 _ base bl (L++[k]) w1 h1 HJ1.out HL.out HT.out (by simp;omega) L.length (by simp));clear h1 s1 e1 H;go_wp2_with fail;refine(hlen_any a (L.length+1) cap w1).mono ?_;rintro e w' ⟨rfl,hw'⟩;replace hw':=hw'.symm;subst hw';go_wp2_with fail;refine CU.out.mono ?_;rintro e w2 ⟨rfl,h2,f2⟩;have H2:=hide h2;have S2:=hide (S1.out.trans (Stp.own f2));clear h2 f2 CU;go_wp2_with fail
 go_end0
 exact⟨rfl,_,_,H2.out,S2.out,U2.out,by rw[U2.out.length_eq,List.length_append];exact U1.out⟩
theorem RowJ.less {w:World}{base g cap:Nat}{bl:Nat->Nat}{L:List Nat}{n m:Nat}(h:RowJ w base (.slice (some ⟨g,0,none⟩) n cap) bl L)(hm:m<=L.length):RowJ w base (.slice (some ⟨g,0,none⟩) m cap) bl (L.take m):=by
 rcases h.2 with⟨h0,_⟩|⟨g',cap',cur,h1,h2,h3,h4,h5,h6,h7⟩
 .simp at h0
 .injection h1 with e1 e2 e3;injection e1 with e1;injection e1 with e1;subst e1 e3;have hl:(L.take m).length=m:=by rw[List.length_take];omega
  refine⟨by simp[ptV],.inr ⟨g,cap,cur,by rw[hl],h2,h3,by rw[hl];omega,h5,h6,?_⟩⟩;rw[hl];have h8:=congrArg (List.take m) h7;rw[List.take_take,show min m (L.length*1)=m*1 by omega]at h8;rw[h8,ptV,ptV,List.map_take]
theorem hpop_any (P:Nat)(c0 c1 c2 v:Value)(base:Nat)(bl:Nat->Nat)(L:List Nat)(w:World)(h:HpW P c0 c1 c2 v base bl L w)(h0:0<L.length)(hn:L.length<=1000000):
  Calls Tryz.prog 233 #[.pointer (some ⟨P,3,none⟩)] w fun e w'=>e=.returned (.iface 226 (.pointer (some ⟨bl (gd L (L.length-1)),0,none⟩)))/\∃v',HpW P c0 c1 c2 v' base bl (L.take (L.length-1)) w'/\Stp P v v' w w'/\v'.ownBlock=v.ownBlock:=by
 obtain⟨g,cap,cur,hv,hb,hg,hc1,hc2,hc3,hcell⟩:=h.own.form h0;subst hv;have c3:=h.cell;have fz:=zF h.blk 3;have cl:w.cell? ⟨g,L.length-1,none⟩=some (.pointer (some ⟨bl (gd L (L.length-1)),0,none⟩)):=by rw[zC hg];exact hcell _ (by omega)
 have hln:(L.length:Int)-1=((L.length-1:Nat):Int):=by omega
 have hne:=h.ne;have HF:Hid (HpW P c0 c1 c2 (.slice (some ⟨g,0,none⟩) (L.length-1) cap) base bl (L.take (L.length-1)) (w.setCell ⟨P,3,none⟩ (.slice (some ⟨g,0,none⟩) (L.length-1) cap))):=by
  refine⟨zS h.blk 3 _,?_⟩;refine(h.own.less (m:=L.length-1) (by omega)).kept (row:=some P) ⟨rfl,rfl,rfl,by simp[World.setCell],fun i _ hi=>Below.heap_setCell _ _ _ _ (fun e=>hi (by simp[e]))⟩ (Or.inr hne)
 have HS:Hid (Stp P (.slice (some ⟨g,0,none⟩) L.length cap) (.slice (some ⟨g,0,none⟩) (L.length-1) cap) w (w.setCell ⟨P,3,none⟩ (.slice (some ⟨g,0,none⟩) (L.length-1) cap))):=⟨(Frm.refl _ w).setCell (p:=⟨P,3,none⟩) (.inl rfl) _,.inl rfl⟩;have hm1:L.length-1<=1000000:=by omega
 have hm2:((L.length-1:Nat):Int)<(L.length:Int):=by omega
 have hm3:((L.length-1:Nat):Int)<=(cap:Int):=by omega
 have Hln:=hide hln;clear h hg hcell hne hln hc3;generalize bl (gd L (L.length-1))=bk at *;generalize L.take (L.length-1)=L1 at *;generalize L.length=n at *;have hc4:n-1<=cap:=by omega
 go_enter Tryz.func233,Tryz.ntmps233;go_wp2_with fail;go_ret;exact⟨rfl,_,HF.out,HS.out,rfl⟩
theorem pop_any (js:List Jb)(left:Nat->Nat)(P:Nat)(c0 c1 c2 v:Value)(base:Nat)(bl:Nat->Nat)(L:List Nat)(w:World)(h:HpW P c0 c1 c2 v base bl L w)(hj:JobsAt js bl left w)(hL:∀x∈L,x<js.length)(ht:∀k,k<js.length->(jk js k).tsk<1000)(hn:L.length<=10000)(h0:0<L.length):
  Calls Tryz.prog 194 #[hpI P] w fun e w'=>e=.returned (.iface 226 (.pointer (some ⟨bl (gd L 0),0,none⟩)))/\∃v',HpW P c0 c1 c2 v' base bl (popP (keyJ js) L) w'/\Stp P v v' w w'/\v'.ownBlock=v.ownBlock:=by
 obtain⟨g,cap,cur,hv,_⟩:=h.own.form h0;subst hv;have H:=hide h;have HJ:=hide hj;have HT:=hide ht;have hl1:(swp L 0 (L.length-1)).length=L.length:=swp_len _ _ _;have HL1:Hid (∀x∈swp L 0 (L.length-1),x<js.length):=fun x hx=>hL x ((swp_perm (by omega) (by omega)).mem_iff.1 hx);have hl2:(dnP (keyJ js) (swp L 0 (L.length-1)) 0 (L.length-1)).length=L.length:=by rw[dnP_len (keyJ js) _ _ 0 _ (Nat.le_refl _),hl1]
 have hpl:=pop_last (key:=keyJ js) h0;have mN:∀n,(method (n+1) 228 (.pointer (some ⟨P,3,none⟩)) "Len").run Tryz.prog w=.ok (193,.slice (some ⟨g,0,none⟩) L.length cap) w:=fun n=>meth_len _ _ w n h.cell;have mS:∀n,(method (n+1) 228 (.pointer (some ⟨P,3,none⟩)) "Swap").run Tryz.prog w=.ok (232,.slice (some ⟨g,0,none⟩) L.length cap) w:=fun n=>meth_swap _ _ w n h.cell;have mP:∀W n,(method (n+1) 228 (.pointer (some ⟨P,3,none⟩)) "Pop").run Tryz.prog W=.ok (233,.pointer (some ⟨P,3,none⟩)) W:=fun W n=>meth_pop _ W n;have CS:Hid (∀KI:Int,KI=((L.length-1:Nat):Int)->Calls Tryz.prog 232 #[.slice (some ⟨g,0,none⟩) L.length cap,.int .i64 0,.int .i64 KI] w fun e w'=>e=.returned (.tuple #[])/\HpW P c0 c1 c2 (.slice (some ⟨g,0,none⟩) L.length cap) base bl (swp L 0 (L.length-1)) w'/\Stp P (.slice (some ⟨g,0,none⟩) L.length cap) (.slice (some ⟨g,0,none⟩) L.length cap) w w'):=fun KI eK=>by
  subst eK;refine(hswap_any bl L base _ w H.out.own 0 (L.length-1) h0 (by omega)).mono ?_;rintro e w' ⟨he,ho,hf⟩;exact⟨he,H.out.swap ho hf,Stp.own hf⟩
 have CD:Hid (∀KI:Int,KI=((L.length-1:Nat):Int)->∀w1,HpW P c0 c1 c2 (.slice (some ⟨g,0,none⟩) L.length cap) base bl (swp L 0 (L.length-1)) w1->JobsAt js bl left w1->Calls Tryz.prog 203 #[hpI P,.int .i64 0,.int .i64 KI] w1 fun e w'=>(∃b,e=.returned (.bool b))/\HpW P c0 c1 c2 (.slice (some ⟨g,0,none⟩) L.length cap) base bl (dnP (keyJ js) (swp L 0 (L.length-1)) 0 (L.length-1)) w'/\Stp P (.slice (some ⟨g,0,none⟩) L.length cap) (.slice (some ⟨g,0,none⟩) L.length cap) w1 w'):=fun KI eK w1 h1 j1=>by
  subst eK;refine(down_any js left P c0 c1 c2 _ base bl _ w1 h1 j1 HL1.out HT.out (by omega) (L.length-1) (by omega)).mono ?_;rintro e w' ⟨he,hh,hf⟩;exact⟨he,hh,Stp.own hf⟩
 have CP:Hid (∀w1,HpW P c0 c1 c2 (.slice (some ⟨g,0,none⟩) L.length cap) base bl (dnP (keyJ js) (swp L 0 (L.length-1)) 0 (L.length-1)) w1->Calls Tryz.prog 233 #[.pointer (some ⟨P,3,none⟩)] w1 fun e w'=>e=.returned (.iface 226 (.pointer (some ⟨bl (gd L 0),0,none⟩)))/\∃v',HpW P c0 c1 c2 v' base bl (popP (keyJ js) L) w'/\Stp P (.slice (some ⟨g,0,none⟩) L.length cap) v' w1 w'/\v'.ownBlock=(Value.slice (some ⟨g,0,none⟩) L.length cap).ownBlock):=fun w1 h1=>by
  have:=hpop_any P c0 c1 c2 _ base bl _ w1 h1 (by omega) (by omega);rw[hl2,hpl]at this;exact this
 clear h hj hL ht hl1 hl2 hpl HL1;go_enter Tryz.func194,Tryz.ntmps194;go_wp2_with fail;refine(hlen_any _ L.length cap w).mono ?_;rintro e w' ⟨rfl,hw'⟩;replace hw':=hw'.symm;subst hw';go_wp2_with fail;refine(CS.out _ (by omega)).mono ?_;rintro e w1 ⟨rfl,h1,s1⟩;have HJ1:=hide (s1.jobs H.out HJ.out);have H1:=hide h1;have S1:=hide s1;clear h1 s1 CS mS mN;go_wp2_with fail;refine(CD.out _ (by omega) _ H1.out HJ1.out).mono ?_;rintro e w2 ⟨⟨b,rfl⟩,h2,s2⟩;have H2:=hide h2;have S2:=hide (S1.out.trans s2);clear h2 s2 CD S1 H1;go_wp2_with fail;refine(CP.out _ H2.out).mono ?_;rintro e w3 ⟨rfl,v',h3,s3,o3⟩;have H3:=hide h3;have S3:=hide (S2.out.trans s3);have O3:=hide o3;clear h3 s3 o3 CP S2 H2;go_wp2_with fail;go_ret;exact⟨rfl,v',H3.out,S3.out,O3.out⟩
end
end Go.Proofs.YtbdffcjganlblaaGreatDoor
