import Derived.Test.YtbdffcjganlblaaGreatDoorAPnDtoPnE
import Derived.Test.YtbdffcjganlblaaGreatDoorAHeAtoHeC
set_option linter.unusedVariables false
set_option linter.unusedSimpArgs false
set_option maxRecDepth 100000
set_option maxHeartbeats 16000000
namespace Go.Proofs.YtbdffcjganlblaaGreatDoor
section
open Go.RowKit
theorem allDone_any (P:Nat)(c0 c1:Value)(a b:Option Addr)(n m ca cb:Nat)(w:World)(h:w.heap[P]? =some (.cells #[c0,c1,.slice a n ca,.slice b m cb] 221 (0,0))):
  Calls Tryz.prog 157 #[.pointer (some ⟨P,0,none⟩)] w fun e w'=>e=.returned (.bool (decide (n=0)&&decide (m=0)))/\w'=w:=by
 have h2:w.cell? ⟨P,2,none⟩=some (.slice a n ca):=by rw[zC h];rfl
 have h3:w.cell? ⟨P,3,none⟩=some (.slice b m cb):=by rw[zC h];rfl
 clear h;have e1:∀q:Nat,((q:Int)==0)=decide (q=0):=fun q=>by
  by_cases h0:q=0
  .simp[h0]
  .rw[decide_eq_false h0,beq_eq_false_iff_ne];omega
 by_cases hn:n=0
 .have hn':((n:Int)==0)=true:=by rw[e1,decide_eq_true hn]
  rw[decide_eq_true hn,Bool.true_and,←e1];clear hn e1;go_enter Tryz.func157,Tryz.ntmps157;go_wp2_with fail;go_ret;exact⟨rfl,rfl⟩
 .have hn':((n:Int)==0)=false:=by rw[e1,decide_eq_false hn]
  rw[decide_eq_false hn,Bool.false_and];clear hn e1;go_enter Tryz.func157,Tryz.ntmps157;go_wp2_with fail;go_ret;exact⟨rfl,rfl⟩
theorem div_wrap (u f:Nat)(hu:u<=100000):wrap64 ((u:Int)/f)=((u/f:Nat):Int):=by
 rw[←Int.natCast_ediv];have:=Nat.div_le_self u f;generalize u/f=q at *;exact w64 _ (by omega)
theorem ptV_range (bt:Nat->Nat)(i X:Nat):ptV (fun q=>if q=i then X else bt q) (List.range (i+1))=ptV bt (List.range i)++[.pointer (some ⟨X,0,none⟩)]:=by
 unfold ptV;rw[List.range_succ,List.map_append];congr 1
 .apply List.map_congr_left;intro q hq;have:q<i:=by simpa using hq
  show Value.pointer (some ⟨if q=i then X else bt q,0,none⟩)=_;rw[if_neg (by omega)]
 .simp
structure JiW (x:Tk×Nat) (pl:Nat) (w wr:World) (v:Value) (bt:Nat->Nat) (n:Nat):Prop where
 row:RowJ wr w.heap.size v bt (List.range n)
 job:∀i,i<n->wr.heap[bt i]? =some (.cells (jbV (jobA pl x.1 i) x.1.C) 225 (0,0))/\w.heap.size<bt i
 inj:∀i j,i<n->j<n->bt i=bt j->i=j
 b:Below w.heap.size w wr
 t:wr.heap[w.heap.size]? =some (.cells (ptA x) 172 (0,0))
theorem JiW.push {x:Tk×Nat}{pl:Nat}{w wr w4:World}{v v4:Value}{bt:Nat->Nat}{i:Nat}{c:Array Value}{o2:Obj}(h:JiW x pl w wr v bt i)(hc:c=jbV (jobA pl x.1 i) x.1.C)(hg:((wr.alloc (.cells c 225)).alloc o2).grownBy w4 v.ownBlock)(ho:w4.ownsRow w.heap.size 226 1 v4 (i+1) (ptV bt (List.range i)++[.pointer (some ⟨wr.heap.size,0,none⟩)])):JiW x pl w w4 v4 (fun q=>if q=i then wr.heap.size else bt q) (i+1):=by
 subst hc;have hsz:=h.b.size;have hlt:∀q,q<i->bt q<wr.heap.size:=fun q hq=>zL (h.job q hq).1;have hown:∀(k:Nat) (c:Array Value) (ty:TypeId) (fr:Nat×Nat),wr.heap[k]? =some (.cells c ty fr)->ty≠226->v.ownBlock≠some k:=fun k c ty fr hk hty e=>by
  obtain⟨_,c',fr',e'⟩:=own_typed h.row e;rw[hk]at e';simp at e';exact hty e'.2.1
 have hold:∀(k:Nat) (o:Obj),wr.heap[k]? =some o->v.ownBlock≠some k->w4.heap[k]? =some o:=fun k o hk hne=>by
  have hl:=zL hk;rw[hg.block k (by simp;omega) (fun e=>hne e.symm),Below.heap_alloc _ _ _ (by simp;omega),Below.heap_alloc _ _ _ hl];exact hk
 have hnew:w4.heap[wr.heap.size]? =some (.cells (jbV (jobA pl x.1 i) x.1.C) 225 (0,0)):=by
  rw[hg.block wr.heap.size (by simp;omega) (fun e=>by
   have:=(h.row.lt wr.heap.size e.symm).2;omega),Below.heap_alloc _ _ _ (by simp)]
  exact zW _ _ _
 refine⟨?_,fun q hq=>?_,fun p q hp hq e=>?_,?_,hold _ _ h.t (hown _ _ _ _ h.t (by decide))⟩
 .unfold RowJ;rw[List.length_range,ptV_range];exact ho
 .by_cases e:q=i
  .simp only[if_pos e];rw[e];exact⟨hnew,by have:=zL h.t;omega⟩
  .simp only[if_neg e];have hj:=h.job q (by omega);exact⟨hold _ _ hj.1 (hown _ _ _ _ hj.1 (by decide)),hj.2⟩
 .by_cases e1:p=i
  .by_cases e2:q=i
   .omega
   .simp only[if_pos e1,if_neg e2]at e;have:=hlt q (by omega);omega
  .by_cases e2:q=i
   .simp only[if_neg e1,if_pos e2]at e;have:=hlt p (by omega);omega
   .simp only[if_neg e1,if_neg e2]at e;exact h.inj p q (by omega) (by omega) e
 .refine((h.b.alloc hsz _).alloc (by simp;omega) _).grown hg (by simp;omega) (fun k hk=>(h.row.lt k hk).1)
def JiOut (x:Tk×Nat) (pl cyc:Nat) (w:World) (en:Ending) (w':World):Prop:=∃v bt,en=.returned v/\JiW x pl w w' v bt (cyc/x.1.P)
theorem jobsIn_any (x:Tk×Nat)(cyc pl:Nat)(w:World)(hP:1<=x.1.P)(hP2:x.1.P<=60)(hO:x.1.O<=60)(hC:x.1.C<=60)(hD:x.1.D<=60)(hcy:cyc<=60)(hpl:pl<=100):
  Calls Tryz.prog 172 #[.agg #[.string (bs [x.1.nm]),.int .i64 x.1.q0,.int .i64 x.1.P,.int .i64 x.1.q1,.int .i64 x.1.O,.int .i64 x.2,.int .i64 x.1.C,.int .i64 x.1.q3,.int .i64 x.1.D,.int .i64 x.1.q4],.int .i64 cyc,.int .i64 pl] w (JiOut x pl cyc w):=by
 obtain⟨i0,hi0,hz0,hz1,hz2⟩:=info_parts Tryz.infoJP;have hX0:=zW w (ptA x) 172;have J0:Hid (JiW x pl w (w.alloc (.cells (ptA x) 172)) (.slice none 0 0) (fun _=>0) 0):=⟨World.ownsRow_nil _ _ _ _,fun i h=>by omega,fun i j h=>by omega,zN _ _,hX0⟩;unfold ptA at J0 hX0;have hdiv:=hide (div_wrap cyc x.1.P (by omega));have hdl:cyc/x.1.P<=60:=Nat.le_trans (Nat.div_le_self _ _) hcy;have hne:¬(x.1.P:Int)=0:=by omega
 obtain⟨x0,x1,x2,x3,x4,x5,x6,x7,x8,x9⟩:=ptA_cells (x:=x) (by unfold ptA;exact hX0);clear hX0;go_enter Tryz.func172,Tryz.ntmps172;go_wp2_with fail;rw[hdiv.out];clear x0 x1 x2 x3 x4 x5 x6 x7 x8 x9;have HQ:Hid (∀i,i<cyc/x.1.P->i*x.1.P+x.1.P<=cyc):=fun i hi=>by
  have h1:(i+1)*x.1.P<=cyc/x.1.P*x.1.P:=Nat.mul_le_mul_right _ hi;have h2:=Nat.div_mul_le_self cyc x.1.P;rw[Nat.add_mul,Nat.one_mul]at h1;omega
 generalize hN:cyc/x.1.P=N at *;have HN:=hide hN;clear hN hdiv
 go_loopw [7,15] (fun jv iv wr=>∃(i:Nat) (bt:Nat->Nat),i<=N/\iv=.int .i64 i/\JiW x pl w wr jv bt i) (fun _ iv _=>N-(intOf iv).toNat)
 case atStart=>exact⟨0,_,by omega,rfl,J0.out⟩
 case round=>
  obtain⟨i,bt,hi,rfl,hW⟩:=hrel;obtain⟨x0,x1,x2,x3,x4,x5,x6,x7,x8,x9⟩:=ptA_cells (x:=x) hW.t;obtain⟨va,vc,hv,_,_⟩:=hW.row.len;rw[List.length_range]at hv;subst hv;have hbz:=hW.b.size;have HW:=hide hW;have ow:=hW.row;clear hW;by_cases hlt:i<N
  .have hlt':(i:Int)<N:=by omega
   obtain⟨m,hM⟩:∃m,m=i*x.1.P:=⟨_,rfl⟩;have hm:=HQ.out i hlt;rw[←hM]at hm;have hmm:m<=60:=Nat.le_trans (Nat.le_trans (Nat.le_add_right m x.1.P) hm) hcy;have e0:wrap64 ((i:Int)*(x.1.P:Int))=(m:Int):=by rw[←Int.natCast_mul,←hM];exact w64 _ (by omega)
   have e1:wrap64 (wrap64 ((i:Int)*(x.1.P:Int))+(x.1.O:Int))=((m+x.1.O:Nat):Int):=by
    rw[e0,←Int.natCast_add];clear e0;exact w64 _ (by omega)
   have e2:wrap64 (wrap64 (wrap64 ((i:Int)*(x.1.P:Int))+(x.1.O:Int))+(x.1.D:Int))=((m+x.1.O+x.1.D:Nat):Int):=by
    rw[e1,←Int.natCast_add];clear e0 e1;exact w64 _ (by omega)
   have E1:=hide e1;have E2:=hide e2;have HMm:=hide hM;clear hM e0 e1 e2;go_wp2_with (at_builtin;refine Go.wpList_append_own_at _ rfl _ _ 218 rfl w.heap.size 226 i0 _ 1 8 Tryz.underlying218 hi0 hz0 hz1 hz2 rfl (by decide) _ _ _ rfl ((ow.alloc _).alloc _) ⟨wr.heap.size+1,0,none⟩ 1 1 [.pointer (some ⟨wr.heap.size,0,none⟩)] rfl rfl ?c1 ?c2 ?c3 ?c4 ?c5 ?_)
   case c1=>exact cells_new (wr.alloc _) #[_] _ _ (by simp)
   case c2=>simp[Value.oneCell']
   case c3=>rw[List.length_range];unfold maxLen;omega
   case c4=>rw[List.length_range];omega
   case c5=>simp;omega
   intro v4 w4 hown4 hgr4 _ hloc4;have HJ4:=hide (HW.out.push (by rw[E2.out,E1.out,HMm.out];rfl) hgr4 hown4);clear hown4 hgr4 hloc4 HW E1 E2 ow x0 x1 x2 x3 x4 x5 x6 x7 x8 x9;go_wp2_with fail;go_roundw
   case rel=>exact⟨i+1,_,by omega,by go_num,HJ4.out⟩
   case measure=>simp[intOf];omega
  .have hlt':¬(i:Int)<N:=by omega
   have e:i=N:=by omega
   subst e;go_wp2_with fail;go_ret;exact⟨_,bt,rfl,by rw[HN.out];exact HW.out⟩
def cmpI (a b:Int):Int:=if a<b then -1 else if b<a then 1 else 0
theorem cmpI_lt (a b:Int):cmpI a b<0↔a<b:=by
 unfold cmpI;split
 .simp;omega
 .split
  .constructor
   .intro h;omega
   .intro h;omega
  .constructor
   .intro h;omega
   .intro h;omega
theorem isNaN_any (a:Int)(w:World):
  Calls Tryz.prog 202 #[.int .i64 a] w fun e w'=>e=.returned (.bool false)/\w'=w:=by
 have h:(a != a)=false:=by simp
 go_enter Tryz.func202,Tryz.ntmps202;go_wp2_with fail;go_ret;exact⟨rfl,rfl⟩
theorem compare_any (a b:Int)(w:World):
  Calls Tryz.prog 191 #[.int .i64 a,.int .i64 b] w fun e w'=>e=.returned (.int .i64 (cmpI a b))/\w'=w:=by
 have hc:Hid (cmpI a b=if a<b then -1 else if b<a then 1 else 0):=rfl;rcases(show a<b\/(¬a<b/\b<a)\/(¬a<b/\¬b<a) by omega) with h1|⟨h1,h2⟩|⟨h1,h2⟩
 .rw[if_pos h1]at hc;go_enter Tryz.func191,Tryz.ntmps191;go_wp2_with (go_at_call 202;refine(isNaN_any _ _).mono ?_;rintro e w' ⟨rfl,hw'⟩;replace hw':=hw'.symm;subst hw');go_ret;exact⟨by rw[hc.out];rfl,rfl⟩
 .rw[if_neg h1,if_pos h2]at hc;go_enter Tryz.func191,Tryz.ntmps191;go_wp2_with (go_at_call 202;refine(isNaN_any _ _).mono ?_;rintro e w' ⟨rfl,hw'⟩;replace hw':=hw'.symm;subst hw');go_ret;exact⟨by rw[hc.out];rfl,rfl⟩
 .rw[if_neg h1,if_neg h2]at hc;go_enter Tryz.func191,Tryz.ntmps191;go_wp2_with (go_at_call 202;refine(isNaN_any _ _).mono ?_;rintro e w' ⟨rfl,hw'⟩;replace hw':=hw'.symm;subst hw');go_ret;exact⟨by rw[hc.out];rfl,rfl⟩
def relK (js:List Jb) (k:Nat):Nat:=(jk js k).rel
theorem relCmp_any (js:List Jb)(bl left:Nat->Nat)(w:World)(h:JobsAt js bl left w)(i j:Nat)(hi:i<js.length)(hj:j<js.length):
  Calls Tryz.prog 190 #[.pointer (some ⟨bl i,0,none⟩),.pointer (some ⟨bl j,0,none⟩)] w fun e w'=>e=.returned (.int .i64 (cmpI (relK js i) (relK js j)))/\∃n,w'=w.drewN n:=by
 have a3:w.cell? ⟨bl i,3,none⟩=some (.int .i64 (relK js i)):=by rw[zC (h i hi)];rfl
 have b3:w.cell? ⟨bl j,3,none⟩=some (.int .i64 (relK js j)):=by rw[zC (h j hj)];rfl
 have CQ:Hid (∀x,Calls Tryz.prog 191 #[.int .i64 (relK js i),.int .i64 (relK js j)] (w.drewN x) fun e w'=>e=.returned (.int .i64 (cmpI (relK js i) (relK js j)))/\∃n,w'=w.drewN n):=fun x=>(compare_any _ _ _).mono (fun e w' h=>⟨h.1,x,h.2⟩);clear h;go_enter Tryz.func190,Tryz.ntmps190;go_wp2_with fail
 go_quiet (first|(go_at_call 191;exact CQ.out _))
 go_wp2_with fail;go_ret;exact⟨rfl,nq,rfl⟩
abbrev cmpF:Value:=.func (.func 190) #[] #[]
theorem insSort_any (js:List Jb)(bl left:Nat->Nat)(L:List Nat)(base:Nat)(v:Value)(w:World)(hv:RowJ w base v bl L)(hj:JobsAt js bl left w)(hL:∀x∈L,x<js.length)(a b:Nat)(hab:a<=b)(hb:b<=L.length)(hn:L.length<=100000):
  Calls Tryz.prog 207 #[v,.int .i64 a,.int .i64 b,cmpF] w fun e w'=>e=.returned (.tuple #[])/\RowJ w' base v bl (insS (relK js) L a (a+1) b)/\Frm (fun k=>v.ownBlock=some k) w w':=by
 obtain⟨va,vcap,hvf,_,_⟩:=hv.len;subst hvf;have HV:=hide hv;have HJ:=hide hj;have HL:=hide hL;clear hv hj hL;go_enter Tryz.func207,Tryz.ntmps207;go_wp2_with fail
 go_loopw [8] (fun iv wr=>∃(i:Nat) (L1:List Nat),iv=.int .i64 i/\a<i/\i<=b+1/\RowJ wr base (.slice va L.length vcap) bl L1/\L1.Perm L/\insS (relK js) L1 a i b=insS (relK js) L a (a+1) b/\Frm (fun k=>(Value.slice va L.length vcap).ownBlock=some k) w wr) (fun iv _=>b+1-(intOf iv).toNat)
 case atStart=>exact⟨a+1,L,by go_num,by omega,by omega,HV.out,List.Perm.refl _,rfl,Frm.refl _ _⟩
 case round=>
  obtain⟨i,L1,rfl,hai,hib,hr1,hp1,he1,hf1⟩:=hrel;have hl1:=hp1.length_eq;have HR1:=hide hr1;have HP1:=hide hp1;have HE1:=hide he1;have HF1:=hide hf1;clear hr1 hp1 he1 hf1;by_cases hlt:i<b
  .have hlt':(i:Int)<b:=by omega
   have HE2:=hide ((insS_go (key:=relK js) (L:=L1) (a:=a) hlt).symm.trans HE1.out);clear HE1;go_wp2_with fail
   go_loopw [9] (fun jv wr=>∃(j:Nat) (L2:List Nat),jv=.int .i64 j/\a<=j/\j<=i/\RowJ wr base (.slice va L.length vcap) bl L2/\L2.Perm L/\insI (relK js) L2 a j=insI (relK js) L1 a i/\Frm (fun k=>(Value.slice va L.length vcap).ownBlock=some k) w wr) (fun jv _=>(intOf jv).toNat)
   case atStart=>exact⟨i,L1,rfl,by omega,Nat.le_refl _,HR1.out,HP1.out,rfl,HF1.out⟩
   case round=>
    obtain⟨j,L2,rfl,haj,hji,hr2,hp2,he2,hf2⟩:=hrel;have hl2:=hp2.length_eq;have HJ2:=hide (HJ.out.keep hf2 (fun k hk=>own_not_job HV.out HJ.out hk));have HL2:Hid (∀x∈L2,x<js.length):=fun x hx=>HL.out x (hp2.mem_iff.1 hx);obtain⟨g,cap,cur,hvv,_,hg,hc1,_,_,hcell⟩:=hr2.form (by omega);injection hvv with e1 e2 e3;subst e1;subst e3;clear e2;have HP2:=hide hp2;have HE3:=hide he2;have HF2:=hide hf2;by_cases haj2:a<j
    .have haj':(a:Int)<j:=by omega
     have hjL:(j:Int)<L.length:=by omega
     have hj1L:(j:Int)-1<L.length:=by omega
     have hj10:0<=(j:Int)-1:=by omega
     have cj:wr.cell? ⟨g,j,none⟩=some (.pointer (some ⟨bl (gd L2 j),0,none⟩)):=by rw[zC hg];exact hcell j (by omega)
     have cj1:wr.cell? ⟨g,j-1,none⟩=some (.pointer (some ⟨bl (gd L2 (j-1)),0,none⟩)):=by rw[zC hg];exact hcell (j-1) (by omega)
     have fz:=zF hg;have kj:=HL2.out _ (gd_mem (L:=L2) (i:=j) (by omega));have kj1:=HL2.out _ (gd_mem (L:=L2) (i:=j-1) (by omega));have CQ:Hid (∀x,Calls Tryz.prog 190 #[.pointer (some ⟨bl (gd L2 j),0,none⟩),.pointer (some ⟨bl (gd L2 (j-1)),0,none⟩)] (wr.drewN x) fun e w'=>e=.returned (.int .i64 (cmpI (relK js (gd L2 j)) (relK js (gd L2 (j-1)))))/\∃n,w'=wr.drewN n):=fun x=>(relCmp_any js bl left (wr.drewN x) (HJ2.out.same rfl) _ _ kj kj1).mono (fun e w' h=>⟨h.1,by
      obtain⟨n,hn⟩:=h.2;exact⟨x+n,by rw[hn];exact World.drewN_drewN _ _ _⟩⟩)
     have hcmp:=cmpI_lt (relK js (gd L2 j)) (relK js (gd L2 (j-1)));have HSw:Hid (RowJ ((wr.setCell ⟨g,j,none⟩ (.pointer (some ⟨bl (gd L2 (j-1)),0,none⟩))).setCell ⟨g,j-1,none⟩ (.pointer (some ⟨bl (gd L2 j),0,none⟩))) base (.slice (some ⟨g,0,none⟩) L.length vcap) bl (swp L2 j (j-1))):=by
      have hle:L.length=L2.length:=hl2.symm;rw[hle]at hr2 ⊢;have h1:=hr2.set (i:=j) (by omega) (gd L2 (j-1));have h2:=RowJ.set (L:=L2.set j (gd L2 (j-1))) (by simpa using h1) (i:=j-1) (by simp;omega) (gd L2 j);unfold Hid swp;simpa using h2
     have HFs:Hid (Frm (fun k=>(Value.slice (some ⟨g,0,none⟩) L.length vcap).ownBlock=some k) wr ((wr.setCell ⟨g,j,none⟩ (.pointer (some ⟨bl (gd L2 (j-1)),0,none⟩))).setCell ⟨g,j-1,none⟩ (.pointer (some ⟨bl (gd L2 j),0,none⟩)))):=((Frm.refl _ wr).setCell (p:=⟨g,j,none⟩) (by simp[Value.ownBlock]) _).setCell (p:=⟨g,j-1,none⟩) (by simp[Value.ownBlock]) _;have hX:(wr.setCell ⟨g,j,none⟩ (.pointer (some ⟨bl (gd L2 (j-1)),0,none⟩))).cell? ⟨g,j-1,none⟩=some (.pointer (some ⟨bl (gd L2 (j-1)),0,none⟩)):=by
      rw[zC (zS hg j _),Array.getElem?_setIfInBounds,if_neg (by omega)];exact hcell (j-1) (by omega)
     have fz2:=zF (zS hg j (.pointer (some ⟨bl (gd L2 (j-1)),0,none⟩)));by_cases hk:relK js (gd L2 j)<relK js (gd L2 (j-1))
     .have hcd:decide (cmpI (relK js (gd L2 j)) (relK js (gd L2 (j-1)))<0)=true:=decide_eq_true (hcmp.2 (by omega));have HE4:Hid (insI (relK js) (swp L2 j (j-1)) a (j-1)=insI (relK js) L1 a i):=(insI_go haj2 hk).symm.trans HE3.out;clear hk hcmp hr2 hp2 he2 hf2 hg hcell HE3;generalize bl (gd L2 j)=bj at *;generalize bl (gd L2 (j-1))=bj1 at *;generalize cmpI (relK js (gd L2 j)) (relK js (gd L2 (j-1)))=cc at *;go_wp2_with fail
      go_quiet (first|(go_at_call 190;exact CQ.out _))
      go_wp2_with fail
      go_region
      all_goals
       go_wp2_with fail;go_roundw
       case rel=>exact⟨j-1,swp L2 j (j-1),by go_num,by omega,by omega,HSw.out,(swp_perm (by omega) (by omega)).trans HP2.out,HE4.out,HF2.out.trans ⟨HFs.out.os,HFs.out.tape,HFs.out.output,HFs.out.size,HFs.out.block⟩⟩
       case measure=>simp[intOf];omega
     .have hcd:decide (cmpI (relK js (gd L2 j)) (relK js (gd L2 (j-1)))<0)=false:=decide_eq_false (fun h=>hk (by have:=hcmp.1 h;omega));have HE4:Hid (L2=insI (relK js) L1 a i):=(insI_stop hk).symm.trans HE3.out;have HR2:=hide hr2;clear hk hcmp hr2 hp2 he2 hf2 hg hcell HE3 HSw HFs hX fz2;generalize bl (gd L2 j)=bj at *;generalize bl (gd L2 (j-1))=bj1 at *;generalize cmpI (relK js (gd L2 j)) (relK js (gd L2 (j-1)))=cc at *;go_wp2_with fail
      go_quiet (first|(go_at_call 190;exact CQ.out _))
      go_wp2_with fail;go_roundw
      case rel=>exact⟨i+1,L2,by go_num,by omega,by omega,HR2.out,HP2.out,by rw[HE4.out];exact HE2.out,HF2.out.trans (Frm.sames rfl rfl rfl rfl)⟩
      case measure=>simp[intOf];omega
    .have haj':¬(a:Int)<j:=by omega
     have hajd:decide ((a:Int)<j)=false:=decide_eq_false haj';have HE4:Hid (L2=insI (relK js) L1 a i):=(insI_end haj2).symm.trans HE3.out;have HR2:=hide hr2;clear hr2 hp2 he2 hf2 hg hcell HE3;go_wp2_with fail
     go_quiet (fail)
     go_wp2_with fail;go_roundw
     case rel=>exact⟨i+1,L2,by go_num,by omega,by omega,HR2.out,HP2.out,by rw[HE4.out];exact HE2.out,HF2.out.trans (Frm.sames rfl rfl rfl rfl)⟩
     case measure=>simp[intOf];omega
  .have hlt':¬(i:Int)<b:=by omega
   have HE2:Hid (L1=insS (relK js) L a (a+1) b):=(insS_end hlt).symm.trans HE1.out;go_wp2_with fail
   go_end0
   exact⟨rfl,by rw[←HE2.out];exact HR1.out,HF1.out⟩
end
def swrP (L:List Nat) (a b:Nat):Nat->List Nat
 | 0=>L
 | n+1=>swp (swrP L a b n) (a+n) (b+n)
theorem swrP_len (L:List Nat)(a b:Nat):∀n,(swrP L a b n).length=L.length
 | 0=>rfl
 | n+1=>by rw[swrP,swp_len,swrP_len L a b n]
theorem swrP_gd (L:List Nat)(a b:Nat):∀n,a+n<=b->b+n<=L.length->∀q,gd (swrP L a b n) q=if a<=q/\q<a+n then gd L (q-a+b) else if b<=q/\q<b+n then gd L (q-b+a) else gd L q
 | 0,_,_,q=>by
  rw[swrP,if_neg (by omega),if_neg (by omega)]
 | n+1,h1,h2,q=>by
  have ih:=swrP_gd L a b n (by omega) (by omega);rw[swrP,gd_swp (by rw[swrP_len];omega) (by rw[swrP_len];omega),ih,ih,ih];by_cases e1:q=b+n
  .subst e1;rw[if_pos rfl,if_neg (by omega),if_neg (by omega),if_neg (by omega),if_pos (by omega)];congr 1;omega
  .rw[if_neg e1];by_cases e2:q=a+n
   .subst e2;rw[if_pos rfl,if_neg (by omega),if_neg (by omega),if_pos (by omega)];congr 1;omega
   .rw[if_neg e2];by_cases e3:a<=q/\q<a+n
    .rw[if_pos e3,if_pos (by omega)]
    .rw[if_neg e3,if_neg (show ¬(a<=q/\q<a+(n+1)) by omega)];by_cases e4:b<=q/\q<b+n
     .rw[if_pos e4,if_pos (by omega)]
     .rw[if_neg e4,if_neg (by omega)]
theorem swrP_mov (L:List Nat)(a b lo hi:Nat):∀n,lo<=a->lo<=b->a+n<=hi->b+n<=hi->hi<=L.length->Mov L (swrP L a b n) lo hi
 | 0,_,_,_,_,_=>Mov.refl _ _ _
 | n+1,h1,h2,h3,h4,h5=>(swrP_mov L a b lo hi n h1 h2 (by omega) (by omega) h5).trans (Mov.swp (by omega) (by omega) (by omega) (by omega) (by rw[swrP_len];exact h5))
def tgt (L:List Nat) (a m b q:Nat):Nat:=if a<=q/\q<a+(b-m) then gd L (q-a+m) else if a+(b-m)<=q/\q<b then gd L (q-(b-m)) else gd L q
theorem tgt_left {L:List Nat}{m i j:Nat}(hij:j<i)(hj:0<j)(him:i<=m)(hb:m+j<=L.length)(q:Nat):tgt (swrP L (m-i) m j) (m-(i-j)) m (m+j) q=tgt L (m-i) m (m+j) q:=by
 have g:=swrP_gd L (m-i) m j (by omega) (by omega);unfold tgt;rw[show m+j-m=j by omega];by_cases e1:m-(i-j)<=q/\q<m-(i-j)+j
 .rw[if_pos e1,g,if_neg (by omega),if_pos (by omega),if_neg (by omega),if_pos (by omega)];congr 1;omega
 .rw[if_neg e1];by_cases e2:m-(i-j)+j<=q/\q<m+j
  .rw[if_pos e2,g,if_neg (by omega),if_neg (by omega),if_neg (by omega),if_pos (by omega)]
  .rw[if_neg e2,g];by_cases e3:m-i<=q/\q<m-i+j
   .rw[if_pos e3,if_pos e3]
   .rw[if_neg e3,if_neg e3,if_neg (by omega),if_neg (by omega)]
theorem tgt_right {L:List Nat}{m i j:Nat}(hij:i<j)(hi:0<i)(him:i<=m)(hb:m+j<=L.length)(q:Nat):tgt (swrP L (m-i) (m+j-i) i) (m-i) m (m+(j-i)) q=tgt L (m-i) m (m+j) q:=by
 have g:=swrP_gd L (m-i) (m+j-i) i (by omega) (by omega);unfold tgt;rw[show m+j-m=j by omega,show m+(j-i)-m=j-i by omega];by_cases e1:m-i<=q/\q<m-i+(j-i)
 .rw[if_pos e1,g,if_neg (by omega),if_neg (by omega),if_pos (by omega)]
 .rw[if_neg e1];by_cases e2:m-i+(j-i)<=q/\q<m+(j-i)
  .rw[if_pos e2,g,if_pos (by omega),if_pos (by omega)];congr 1;omega
  .rw[if_neg e2,g];by_cases e3:m+j-i<=q/\q<m+j-i+i
   .rw[if_neg (by omega),if_pos e3,if_neg (by omega),if_pos (by omega)];congr 1;omega
   .rw[if_neg (by omega),if_neg e3,if_neg (by omega),if_neg (by omega)]
theorem tgt_both {L:List Nat}{m i:Nat}(him:i<=m)(hb:m+i<=L.length)(q:Nat):gd (swrP L (m-i) m i) q=tgt L (m-i) m (m+i) q:=by
 rw[swrP_gd L (m-i) m i (by omega) (by omega)];unfold tgt;rw[show m+i-m=i by omega];by_cases e1:m-i<=q/\q<m-i+i
 .rw[if_pos e1,if_pos e1]
 .rw[if_neg e1,if_neg e1];by_cases e2:m<=q/\q<m+i
  .rw[if_pos e2,if_pos (by omega)];congr 1;omega
  .rw[if_neg e2,if_neg (by omega)]
def upM (L:List Nat) (k:Nat):Nat->List Nat
 | 0=>L
 | n+1=>swp (upM L k n) (k+n) (k+n+1)
theorem upM_len (L:List Nat)(k:Nat):∀n,(upM L k n).length=L.length
 | 0=>rfl
 | n+1=>by rw[upM,swp_len,upM_len L k n]
theorem upM_gd (L:List Nat)(k:Nat):∀n,k+n<L.length->∀q,gd (upM L k n) q=if k<=q/\q<k+n then gd L (q+1) else if q=k+n then gd L k else gd L q
 | 0,_,q=>by
  rw[upM,if_neg (by omega)];split
  .rename_i h;rw[h];rfl
  .rfl
 | n+1,h,q=>by
  have ih:=upM_gd L k n (by omega);rw[upM,gd_swp (by rw[upM_len];omega) (by rw[upM_len];omega),ih,ih,ih];by_cases e1:q=k+n+1
  .subst e1;rw[if_pos rfl,if_neg (by omega),if_pos rfl,if_neg (by omega),if_pos (by omega)]
  .rw[if_neg e1];by_cases e2:q=k+n
   .subst e2;rw[if_pos rfl,if_neg (by omega),if_neg (by omega),if_pos (by omega)]
   .rw[if_neg e2];by_cases e3:k<=q/\q<k+n
    .rw[if_pos e3,if_pos (by omega)]
    .rw[if_neg e3,if_neg e2,if_neg (by omega),if_neg (by omega)]
theorem upM_mov (L:List Nat)(k lo hi:Nat):∀n,lo<=k->k+n<hi->hi<=L.length->Mov L (upM L k n) lo hi
 | 0,_,_,_=>Mov.refl _ _ _
 | n+1,h1,h2,h3=>(upM_mov L k lo hi n h1 (by omega) h3).trans (Mov.swp (by omega) (by omega) (by omega) (by omega) (by rw[upM_len];exact h3))
def dnM (L:List Nat) (k:Nat):Nat->List Nat
 | 0=>L
 | n+1=>swp (dnM L k n) (k-n) (k-n-1)
theorem dnM_len (L:List Nat)(k:Nat):∀n,(dnM L k n).length=L.length
 | 0=>rfl
 | n+1=>by rw[dnM,swp_len,dnM_len L k n]
theorem dnM_gd (L:List Nat)(k:Nat)(hk:k<L.length):∀n,n<=k->∀q,gd (dnM L k n) q=if q=k-n then gd L k else if k-n<q/\q<=k then gd L (q-1) else gd L q
 | 0,_,q=>by
  rw[dnM];split
  .rename_i h;rw[h];rfl
  .rw[if_neg (by omega)]
 | n+1,h,q=>by
  have ih:=dnM_gd L k hk n (by omega);rw[dnM,gd_swp (by rw[dnM_len];omega) (by rw[dnM_len];omega),ih,ih,ih];by_cases e1:q=k-n-1
  .subst e1;rw[if_pos rfl,if_pos rfl,if_pos (by omega)]
  .rw[if_neg e1];by_cases e2:q=k-n
   .subst e2;rw[if_pos rfl,if_neg (by omega),if_neg (by omega),if_neg (by omega),if_pos (by omega)]
   .rw[if_neg e2,if_neg e2];by_cases e3:k-n<q/\q<=k
    .rw[if_pos e3,if_neg (by omega),if_pos (by omega)]
    .rw[if_neg e3,if_neg (by omega),if_neg (by omega)]
theorem dnM_mov (L:List Nat)(k lo hi:Nat):∀n,lo+n<=k->k<hi->hi<=L.length->Mov L (dnM L k n) lo hi
 | 0,_,_,_=>Mov.refl _ _ _
 | n+1,h1,h2,h3=>(dnM_mov L k lo hi n (by omega) h2 h3).trans (Mov.swp (by omega) (by omega) (by omega) (by omega) (by rw[dnM_len];exact h3))
theorem merge_first {key:Nat->Nat}{L:List Nat}{a b i:Nat}(h:Srt key L (a+1) b)(hb:b<=L.length)(h1:a+1<=i)(h2:i<=b)(hlo:∀q,a+1<=q->q<i->key (gd L q)<key (gd L a))(hhi:∀q,i<=q->q<b->¬key (gd L q)<key (gd L a)):Srt key (upM L a (i-1-a)) a b:=by
 have g:=upM_gd L a (i-1-a) (by omega);intro q h3 h4;rw[g,g];by_cases e1:q+1<i-1
 .rw[if_pos (by omega),if_pos (by omega)];exact h (q+1) (by omega) (by omega)
 .by_cases e2:q+1=i-1
  .rw[if_pos (by omega),if_neg (by omega),if_pos (by omega)];exact Nat.le_of_lt (hlo (q+1) (by omega) (by omega))
  .rw[if_neg (by omega),if_neg (show ¬(a<=q+1/\q+1<a+(i-1-a)) by omega)];by_cases e3:q=i-1
   .rw[if_pos (by omega),if_neg (by omega)];have:=hhi (q+1) (by omega) h4;omega
   .rw[if_neg (by omega),if_neg (by omega)];exact h q (by omega) h4
theorem merge_last {key:Nat->Nat}{L:List Nat}{a m i:Nat}(h:Srt key L a m)(hb:m<L.length)(h1:a<=i)(h2:i<=m)(hlo:∀q,a<=q->q<i->¬key (gd L m)<key (gd L q))(hhi:∀q,i<=q->q<m->key (gd L m)<key (gd L q)):Srt key (dnM L m (m-i)) a (m+1):=by
 have g:=dnM_gd L m hb (m-i) (by omega);intro q h3 h4;rw[g,g];by_cases e1:q+1<i
 .rw[if_neg (by omega),if_neg (by omega),if_neg (by omega),if_neg (by omega)];exact h q h3 (by omega)
 .by_cases e2:q+1=i
  .rw[if_neg (by omega),if_neg (by omega),if_pos (by omega)];have:=hlo q h3 (by omega);omega
  .by_cases e3:q=i
   .rw[if_pos (by omega),if_neg (by omega),if_pos (by omega)];have:=hhi q (by omega) (by omega);rw[Nat.add_sub_cancel];omega
   .rw[if_neg (by omega),if_pos (by omega),if_neg (by omega),if_pos (by omega),Nat.add_sub_cancel];have:=h (q-1) (by omega) (by omega);rw[show q-1+1=q by omega]at this;exact this
structure Halves (key:Nat->Nat) (L:List Nat) (a s mid e b:Nat):Prop where
 s1:Srt key L a s
 s2:Srt key L s mid
 s3:Srt key L mid e
 s4:Srt key L e b
 cross:∀i j,a<=i->i<mid->mid<=j->j<b->key (gd L i)<=key (gd L j)
theorem halves {key:Nat->Nat}{L L1:List Nat}{a m b mid s e lo hi:Nat}(h1:Srt key L a m)(h2:Srt key L m b)(ham:a<=m)(hmb:m<=b)(hb:b<=L.length)
  (he:e=mid+m-s) (hs:s<=m) (has:a<=s) (hsm:s<=mid) (heb:e<=b) (hlo:(lo=a\/lo+b=mid+m)) (hhi:hi=m\/hi=mid) (hl:lo<=s) (hh:s<=hi)
  (hlt:∀q,lo<=q->q<s->¬key (gd L (mid+m-1-q))<key (gd L q)) (hge:∀q,s<=q->q<hi->key (gd L (mid+m-1-q))<key (gd L q))
  (hg:∀q,gd L1 q=tgt L s m e q):Halves key L1 a s mid e b:=by
 have hem:e-m=mid-s:=by omega
 have g1:∀q,q<s->gd L1 q=gd L q:=fun q hq=>by rw[hg];unfold tgt;rw[if_neg (by omega),if_neg (by omega)]
 have g2:∀q,s<=q->q<mid->gd L1 q=gd L (q-s+m):=fun q h3 h4=>by rw[hg];unfold tgt;rw[if_pos (by omega)]
 have g3:∀q,mid<=q->q<e->gd L1 q=gd L (q-(e-m)):=fun q h3 h4=>by rw[hg];unfold tgt;rw[if_neg (by omega),if_pos (by omega)]
 have g4:∀q,e<=q->gd L1 q=gd L q:=fun q h3=>by
  rw[hg];unfold tgt;by_cases h5:m<=e
  .rw[if_neg (by omega),if_neg (by omega)]
  .omega
 refine⟨?_,?_,?_,?_,?_⟩
 .exact fun i h3 h4=>by rw[g1 i (by omega),g1 (i+1) h4];exact h1 i h3 (by omega)
 .exact fun i h3 h4=>by
   rw[g2 i h3 (by omega),g2 (i+1) (by omega) h4,show i+1-s+m=i-s+m+1 by omega];exact h2 _ (by omega) (by omega)
 .exact fun i h3 h4=>by
   rw[g3 i h3 (by omega),g3 (i+1) (by omega) h4,show i+1-(e-m)=i-(e-m)+1 by omega];exact h1 _ (by omega) (by omega)
 .exact fun i h3 h4=>by rw[g4 i h3,g4 (i+1) (by omega)];exact h2 i (by omega) h4
 .intro i j hi1 hi2 hj1 hj2;by_cases hiS:i<s
  .rw[g1 i hiS];by_cases hjE:j<e
   .rw[g3 j hj1 hjE];exact h1.le hi1 _ (by omega) (by omega)
   .rw[g4 j (by omega)];have hls:lo<=s-1:=by
     rcases hlo with h|h
     .omega
     .omega
    have h5:=hlt (s-1) hls (by omega);rw[show mid+m-1-(s-1)=e by omega]at h5;have h6:=h1.le hi1 (s-1) (by omega) (by omega);have h7:=h2.le (i:=e) (by omega) j (by omega) hj2;omega
  .rw[g2 i (by omega) hi2];by_cases hjE:j<e
   .rw[g3 j hj1 hjE];have hsh:s<hi:=by
     rcases hhi with h|h
     .omega
     .omega
    have h5:=hge s (Nat.le_refl _) hsh;rw[show mid+m-1-s=e-1 by omega]at h5;have h6:=h2.le (i:=i-s+m) (by omega) (e-1) (by omega) (by omega);have h7:=h1.le has (j-(e-m)) (by omega) (by omega);omega
   .rw[g4 j (by omega)];exact h2.le (by omega) _ (by omega) hj2
theorem merged {key:Nat->Nat}{L2 L3:List Nat}{a mid b:Nat}(h1:Srt key L3 a mid)(h2:Srt key L3 mid b)(hc:∀i j,a<=i->i<mid->mid<=j->j<b->key (gd L3 i)<=key (gd L3 j)):Srt key L3 a b:=fun i h3 h4=>by
 by_cases h5:i+1<mid
 .exact h1 i h3 h5
 .by_cases h6:i+1=mid
  .exact hc i (i+1) h3 (by omega) (by omega) h4
  .exact h2 i (by omega) h4
theorem cross_mov {key:Nat->Nat}{L L':List Nat}{a mid b:Nat}(ham:a<=mid)(hmb:mid<=b)(hb:b<=L.length)(h:Mov L L' a mid\/Mov L L' mid b)(hc:∀i j,a<=i->i<mid->mid<=j->j<b->key (gd L i)<=key (gd L j)):∀i j,a<=i->i<mid->mid<=j->j<b->key (gd L' i)<=key (gd L' j):=by
 intro i j h1 h2 h3 h4;rcases h with h|h
 .obtain⟨i',a1,a2,a3⟩:=h.each ham (by omega) h1 h2;rw[a3,h.out j (by omega)];exact hc i' j a1 a2 h3 h4
 .obtain⟨j',a1,a2,a3⟩:=h.each hmb hb h3 h4;rw[a3,h.out i (by omega)];exact hc i j' h1 h2 a1 a2
section
open Go.RowKit
theorem swapRange_any (bl:Nat->Nat)(L:List Nat)(base:Nat)(v:Value)(w:World)(hv:RowJ w base v bl L)(a b n:Nat)(hab:a+n<=b)(hb:b+n<=L.length)(hn:L.length<=100000):
  Calls Tryz.prog 212 #[v,.int .i64 a,.int .i64 b,.int .i64 n,cmpF] w fun e w'=>e=.returned (.tuple #[])/\RowJ w' base v bl (swrP L a b n)/\Frm (fun k=>v.ownBlock=some k) w w':=by
 obtain⟨va,vcap,hvf,_,_⟩:=hv.len;subst hvf;have HV:=hide hv;clear hv;go_enter Tryz.func212,Tryz.ntmps212;go_wp2_with fail
 go_loopw [10] (fun iv wr=>∃i:Nat,i<=n/\iv=.int .i64 i/\RowJ wr base (.slice va L.length vcap) bl (swrP L a b i)/\Frm (fun k=>(Value.slice va L.length vcap).ownBlock=some k) w wr) (fun iv _=>n-(intOf iv).toNat)
 case atStart=>exact⟨0,by omega,rfl,HV.out,Frm.refl _ _⟩
 case round=>
  obtain⟨i,hi,rfl,hr,hf⟩:=hrel;by_cases hlt:i<n
  .have hlt':(i:Int)<n:=by omega
   have hl2:=swrP_len L a b i;obtain⟨g,cap,cur,hvv,_,hg,hc1,_,_,hcell⟩:=hr.form (by omega);injection hvv with e1 e2 e3;subst e1;subst e3;clear e2;have ca:wr.cell? ⟨g,a+i,none⟩=some (.pointer (some ⟨bl (gd (swrP L a b i) (a+i)),0,none⟩)):=by rw[zC hg];exact hcell _ (by omega)
   have cb:wr.cell? ⟨g,b+i,none⟩=some (.pointer (some ⟨bl (gd (swrP L a b i) (b+i)),0,none⟩)):=by rw[zC hg];exact hcell _ (by omega)
   have fz:=zF hg;have hX:(wr.setCell ⟨g,a+i,none⟩ (.pointer (some ⟨bl (gd (swrP L a b i) (b+i)),0,none⟩))).cell? ⟨g,b+i,none⟩=some (.pointer (some ⟨bl (gd (swrP L a b i) (b+i)),0,none⟩)):=by
    rw[zC (zS hg _ _),Array.getElem?_setIfInBounds,if_neg (by omega)];exact hcell _ (by omega)
   have fz2:=zF (zS hg (a+i) (.pointer (some ⟨bl (gd (swrP L a b i) (b+i)),0,none⟩)));have HS:Hid (RowJ ((wr.setCell ⟨g,a+i,none⟩ (.pointer (some ⟨bl (gd (swrP L a b i) (b+i)),0,none⟩))).setCell ⟨g,b+i,none⟩ (.pointer (some ⟨bl (gd (swrP L a b i) (a+i)),0,none⟩))) base (.slice (some ⟨g,0,none⟩) L.length vcap) bl (swrP L a b (i+1))):=by
    unfold Hid;rw[swrP];generalize swrP L a b i=L2 at *;have hle:L.length=L2.length:=hl2.symm;rw[hle]at hr ⊢;have h1:=hr.set (i:=a+i) (by omega) (gd L2 (b+i));have h2:=RowJ.set (L:=L2.set (a+i) (gd L2 (b+i))) (by simpa using h1) (i:=b+i) (by simp;omega) (gd L2 (a+i));unfold swp;simpa using h2
   have HF:Hid (Frm (fun k=>(Value.slice (some ⟨g,0,none⟩) L.length vcap).ownBlock=some k) w ((wr.setCell ⟨g,a+i,none⟩ (.pointer (some ⟨bl (gd (swrP L a b i) (b+i)),0,none⟩))).setCell ⟨g,b+i,none⟩ (.pointer (some ⟨bl (gd (swrP L a b i) (a+i)),0,none⟩)))):=(hf.setCell (p:=⟨g,a+i,none⟩) (by simp[Value.ownBlock]) _).setCell (p:=⟨g,b+i,none⟩) (by simp[Value.ownBlock]) _;have ha1:(a:Int)+i<L.length:=by omega
   have hb1:(b:Int)+i<L.length:=by omega
   clear hg hcell hr hf hl2;generalize bl (gd (swrP L a b i) (a+i))=pa at *;generalize bl (gd (swrP L a b i) (b+i))=pb at *;go_wp2_with fail
   go_region
   all_goals
    go_wp2_with fail;go_roundw
    case rel=>exact⟨i+1,by omega,by go_num,HS.out,⟨HF.out.os,HF.out.tape,HF.out.output,HF.out.size,HF.out.block⟩⟩
    case measure=>simp[intOf];omega
  .have hlt':¬(i:Int)<n:=by omega
   have e:i=n:=by omega
   subst e;have HR:=hide hr;have HF:=hide hf;clear hr hf;go_wp2_with fail
   go_end0
   exact⟨rfl,HR.out,HF.out⟩
structure RotOut (bl:Nat->Nat) (L:List Nat) (base:Nat) (v:Value) (a m b:Nat) (L':List Nat) (w w':World):Prop where
 row:RowJ w' base v bl L'
 gd:∀q,gd L' q=tgt L a m b q
 mov:Mov L L' a b
 f:Frm (fun k=>v.ownBlock=some k) w w'
theorem rotate_any (bl:Nat->Nat)(L:List Nat)(base:Nat)(v:Value)(w:World)(hv:RowJ w base v bl L)(a m b:Nat)(ham:a<m)(hmb:m<b)(hb:b<=L.length)(hn:L.length<=100000):
  Calls Tryz.prog 210 #[v,.int .i64 a,.int .i64 m,.int .i64 b,cmpF] w fun e w'=>e=.returned (.tuple #[])/\∃L',RotOut bl L base v a m b L' w w':=by
 have HV:=hide hv;clear hv;go_enter Tryz.func210,Tryz.ntmps210;go_wp2_with fail
 go_loopw [10,11] (fun iv jv wr=>∃(i j:Nat) (L1:List Nat),iv=.int .i64 i/\jv=.int .i64 j/\0<i/\0<j/\a+i<=m/\m+j<=b/\RowJ wr base v bl L1/\(∀q,tgt L1 (m-i) m (m+j) q=tgt L a m b q)/\Mov L L1 a b/\Frm (fun k=>v.ownBlock=some k) w wr) (fun iv jv _=>(intOf iv).toNat+(intOf jv).toNat)
 case atStart=>exact⟨m-a,b-m,L,by simp;omega,by simp;omega,by omega,by omega,by omega,by omega,HV.out,(fun q=>by rw[show m-(m-a)=a by omega,show m+(b-m)=b by omega]),Mov.refl _ _ _,Frm.refl _ _⟩
 case round=>
  obtain⟨i,j,L1,rfl,rfl,hi0,hj0,hia,hjb,hr,hg,hm,hf⟩:=hrel;have hl1:=hm.len;have HR:=hide hr;have HG:=hide hg;have HM:=hide hm;have HF:=hide hf;clear hr hg hm hf;have CS:Hid (∀(x y n:Nat) (X Y N:Int),X=x->Y=y->N=n->x+n<=y->y+n<=L1.length->Calls Tryz.prog 212 #[v,.int .i64 X,.int .i64 Y,.int .i64 N,cmpF] wr fun e w'=>e=.returned (.tuple #[])/\RowJ w' base v bl (swrP L1 x y n)/\Frm (fun k=>v.ownBlock=some k) wr w'):=fun x y n X Y N e1 e2 e3 h1 h2=>by
   subst e1 e2 e3;exact swapRange_any bl L1 base v wr HR.out x y n h1 h2 (by omega)
  rcases(show i=j\/j<i\/i<j by omega) with hij|hij|hij
  .subst hij;have hne:((i:Int) != (i:Int))=false:=by simp
   go_wp2_with fail;refine(CS.out (m-i) m i _ _ _ (by omega) rfl rfl (by omega) (by omega)).mono ?_;rintro e w1 ⟨rfl,hr1,hf1⟩;have HOut:Hid (RotOut bl L base v a m b (swrP L1 (m-i) m i) w w1):=⟨hr1,fun q=>by rw[tgt_both (by omega) (by omega)];exact HG.out q,HM.out.trans (swrP_mov L1 (m-i) m a b i (by omega) (by omega) (by omega) (by omega) (by omega)),HF.out.trans hf1⟩;clear hr1 hf1 CS;go_wp2_with fail
   go_end0
   exact⟨rfl,_,HOut.out⟩
  .have hne:((i:Int) != (j:Int))=true:=by simp;omega
   have hgt:(j:Int)<i:=by omega
   go_wp2_with fail;refine(CS.out (m-i) m j _ _ _ (by omega) rfl rfl (by omega) (by omega)).mono ?_;rintro e w1 ⟨rfl,hr1,hf1⟩;have HR1:=hide hr1;have HG1:Hid (∀q,tgt (swrP L1 (m-i) m j) (m-(i-j)) m (m+j) q=tgt L a m b q):=fun q=>by rw[tgt_left hij hj0 (by omega) (by omega)];exact HG.out q
   have HM1:=hide (HM.out.trans (swrP_mov L1 (m-i) m a b j (by omega) (by omega) (by omega) (by omega) (by omega)));have HF1:=hide (HF.out.trans hf1);clear hr1 hf1 CS HR HG HM HF;go_wp2_with fail;go_roundw
   case rel=>exact⟨i-j,j,_,by go_num,rfl,by omega,hj0,by omega,hjb,HR1.out,HG1.out,HM1.out,HF1.out⟩
   case measure=>simp[intOf];omega
  .have hne:((i:Int) != (j:Int))=true:=by simp;omega
   have hgt:¬(j:Int)<i:=by omega
   go_wp2_with fail;refine(CS.out (m-i) (m+j-i) i _ _ _ (by omega) (by omega) rfl (by omega) (by omega)).mono ?_;rintro e w1 ⟨rfl,hr1,hf1⟩;have HR1:=hide hr1;have HG1:Hid (∀q,tgt (swrP L1 (m-i) (m+j-i) i) (m-i) m (m+(j-i)) q=tgt L a m b q):=fun q=>by rw[tgt_right hij hi0 (by omega) (by omega)];exact HG.out q
   have HM1:=hide (HM.out.trans (swrP_mov L1 (m-i) (m+j-i) a b i (by omega) (by omega) (by omega) (by omega) (by omega)));have HF1:=hide (HF.out.trans hf1);clear hr1 hf1 CS HR HG HM HF;go_wp2_with fail;go_roundw
   case rel=>exact⟨i,j-i,_,rfl,by go_num,hi0,by omega,hia,by omega,HR1.out,HG1.out,HM1.out,HF1.out⟩
   case measure=>simp[intOf];omega
end
end Go.Proofs.YtbdffcjganlblaaGreatDoor
