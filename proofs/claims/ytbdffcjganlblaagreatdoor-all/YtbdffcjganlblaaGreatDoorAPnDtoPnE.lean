import Derived.Test.YtbdffcjganlblaaGreatDoorAPnBtoPnC
import Derived.Test.YtbdffcjganlblaaGreatDoorATbAtoTbD
import Derived.Test.YtbdffcjganlblaaGreatDoorAEqvBtoPlA
set_option linter.unusedVariables false
set_option linter.unusedSimpArgs false
set_option maxRecDepth 100000
set_option maxHeartbeats 16000000
namespace Go.Proofs.YtbdffcjganlblaaGreatDoor
section
open Go.RowKit
theorem letter_at (c:UInt8)(w:World):(Instr.index 9 (.string (bs [c])) (.int .i64 0)).run Tryz.prog w=.ok (.int .u8 c.toNat) w:=by
 simp[Instr.index,run_underlying Tryz.underlying9,go_sem,bs];rfl
structure FrJ (base P:Nat) (js:List Jb) (bl:Nat->Nat) (w w':World):Prop where
 os:w'.os=w.os
 tape:w'.tape=w.tape
 output:w'.output=w.output
 size:w.heap.size<=w'.heap.size
 block:∀i,i<w.heap.size->i≠P->(∀k,k<js.length->i≠bl k)->(base<=i->∀c fr,w.heap[i]? ≠ some (.cells c 226 fr))->w'.heap[i]? =w.heap[i]?
theorem FrJ.refl (base P:Nat)(js:List Jb)(bl:Nat->Nat)(w:World):FrJ base P js bl w w:=⟨rfl,rfl,rfl,Nat.le_refl _,fun _ _ _ _ _=>rfl⟩
theorem FrJ.trans {base P:Nat}{js:List Jb}{bl:Nat->Nat}{a b c:World}(h:FrJ base P js bl a b)(k:FrJ base P js bl b c):FrJ base P js bl a c:=
 ⟨k.os.trans h.os,k.tape.trans h.tape,k.output.trans h.output,Nat.le_trans h.size k.size,fun i hi hP hj hx=>by
  have e:=h.block i hi hP hj hx;rw[k.block i (Nat.lt_of_lt_of_le hi h.size) hP hj (fun hb c fr=>by rw[e];exact hx hb c fr),e]⟩
theorem FrB.frJ {base P:Nat}{w w':World}(h:FrB base P w w')(js:List Jb)(bl:Nat->Nat):FrJ base P js bl w w':=⟨h.os,h.tape,h.output,h.size,fun i hi hP _ hx=>h.block i hi hP hx⟩
section
variable {js:List Jb} {cyc:Nat} {ps:List Pr} {bl left:Nat->Nat} {P M:Nat} {es:List (UInt8×Value)} {pa:Option Addr} {pc:Nat} {c2:Value} {base:Nat} {v:Value} {L:List Nat} {w:World}
theorem PlS.setLeft (h:PlS js cyc ps bl left P M es pa pc c2 base v L w){k:Nat}(hk:k<js.length)(b:Nat):PlS js cyc ps bl (updL left k b) P M es pa pc c2 base v L (w.setCell ⟨bl k,6,none⟩ (.int .i64 b)):=by
 have hf:Frm (fun i=>i=bl k) w (w.setCell ⟨bl k,6,none⟩ (.int .i64 b)):=(Frm.refl (fun i=>i=bl k) w).setCell (p:=⟨bl k,6,none⟩) rfl _;have hjk:=h.low.j k hk;refine⟨⟨hf.blk h.hp.blk (fun e=>hjk.2 e.symm),h.hp.own.frm hf (fun g hg e=>?_)⟩,?_,h.map.keep hf (fun e=>?_) (fun x hx g hg e=>?_),h.prs.keep hf (fun gp hg e=>(h.low.g gp hg).2.2 k hk e),h.heap,h.low,by simpa [World.setCell] using h.bas,h.mem,h.jok,h.pok,h.pl⟩
 .have:=(h.hp.own.lt g hg).1;omega
 .intro i hi;by_cases e:i=k
  .subst e;rw[zS (h.jobs i hk)];unfold updL;rw[if_pos rfl];rfl
  .unfold updL;rw[if_neg e];exact hf.blk (h.jobs i hi) (fun e2=>e (h.low.inj i k hi hk e2))
 .have h1:=h.jobs k hk;rw[←e]at h1;exact h.map.m.noCells _ _ _ h1
 .obtain⟨T,h1,_⟩:=h.map.each x hx;exact own_not_job h1 h.jobs hk (e▸hg)
structure RdyL (js:List Jb) (left:Nat->Nat) (s:Nat) (L:List Nat):Prop where
 nod:L.Nodup
 iff:∀k,k∈L↔k<js.length/\(jk js k).rel<=s/\0<left k
theorem RdyL.pick (hj:JsOk js cyc){s e:Nat}{o:Option Nat}{L':List Nat}(hs:RdyL js left s L)(hp:L.Perm (o.toList++L'))(h1:o=none->∀x∈L,mayJ js ps left e x=false)(h2:∀k,o=some k->mayJ js ps left e k=true/\∀x∈L,mayJ js ps left e x=true->keyJ js k<=keyJ js x):pickJ js ps left s e=o:=by
 cases hpk:pickJ js ps left s e with
 | none=>
  cases o with
  | none=>rfl
  | some k=>
   have hk:k∈L:=hp.mem_iff.2 (by simp);obtain⟨a1,a2,a3⟩:=(hs.iff k).1 hk;have:=pick_none hpk k a1 a2 a3;rw[(h2 k rfl).1]at this;simp at this
 | some i=>
  obtain⟨p1,p2,p3,p4,p5,p6⟩:=pick_some hpk;have hi:i∈L:=(hs.iff i).2 ⟨p1,p2,p3⟩
  cases o with
  | none=>
   have:=h1 rfl i hi;rw[p4]at this;simp at this
  | some k=>
   have hk:k∈L:=hp.mem_iff.2 (by simp);obtain⟨a1,a2,a3⟩:=(hs.iff k).1 hk;obtain⟨m1,m2⟩:=h2 k rfl;have e1:=p6 k a1 a2 a3 m1;have e2:=m2 i hi p4;rw[hj.key p1 a1 (by omega)]
theorem RdyL.gave {s k b:Nat}{L' L2:List Nat}(h:RdyL js left s L)(hp:L.Perm (k::L2))(hL:(left k-b=0/\L'=L2)\/(0<left k-b/\L'.Perm (L2++[k]))):RdyL js (updL left k (left k-b)) s L':=by
 have hn2:=hp.nodup_iff.1 h.nod;rw[List.nodup_cons]at hn2;have hm:∀x,x∈L2↔(x<js.length/\(jk js x).rel<=s/\0<left x)/\x≠k:=fun x=>by
  rw[←h.iff x,hp.mem_iff];constructor
  .intro hx;exact⟨by simp[hx],fun e=>hn2.1 (e▸hx)⟩
  .rintro ⟨hx,hne⟩;simp at hx;rcases hx with e|e
   .exact absurd e hne
   .exact e
 have hk:k<js.length/\(jk js k).rel<=s/\0<left k:=(h.iff k).1 (hp.mem_iff.2 (by simp));have hu:∀x,x≠k->updL left k (left k-b) x=left x:=fun x hx=>by unfold updL;rw[if_neg hx]
 have huk:updL left k (left k-b) k=left k-b:=by unfold updL;rw[if_pos rfl]
 rcases hL with⟨h0,rfl⟩|⟨h0,hp2⟩
 .refine⟨hn2.2,fun x=>?_⟩;rw[hm x];by_cases e:x=k
  .subst e;rw[huk];constructor
   .intro h5;exact absurd rfl h5.2
   .intro h5;omega
  .rw[hu x e];exact⟨fun h5=>h5.1,fun h5=>⟨h5,e⟩⟩
 .refine⟨hp2.nodup_iff.2 ?_,fun x=>?_⟩
  .rw[List.nodup_append];refine⟨hn2.2,by simp,?_⟩;intro a ha c hc e;simp at hc;exact hn2.1 (by rw[←hc,←e];exact ha)
  .rw[hp2.mem_iff,List.mem_append,hm x];by_cases e:x=k
   .subst e;rw[huk];simp[hk,h0]
   .rw[hu x e];simp[e]
theorem sl_frB {B n:Nat}{ov:Value}{xs:List Value}{w':World}(h:w.ownsRow B 106 3 ov n xs)(hf:FrB base P w w')(hP:P<B):w'.ownsRow B 106 3 ov n xs:=by
 refine⟨h.1,?_⟩;rcases h.2 with h3|⟨g,cap,cur,h3,h4,h5,h6⟩
 .exact .inl h3
 .refine .inr ⟨g,cap,cur,h3,h4,?_,h6⟩;rw[hf.block g (zL h5) (by omega) (fun _ c fr e=>by rw[h5]at e;simp at e)];exact h5
end
theorem sl_not_own {w:World}{base B n:Nat}{v ov:Value}{bl:Nat->Nat}{L:List Nat}{xs:List Value}(h:RowJ w base v bl L)(ho:w.ownsRow B 106 3 ov n xs){b:Nat}(hb:ov.ownBlock=some b):v.ownBlock≠some b:=by
 intro hv;obtain⟨_,c,fr,e⟩:=own_typed h hv;rcases ho.2 with⟨rfl,_⟩|⟨g,cap,cur,rfl,_,h5,_⟩
 .simp[Value.ownBlock]at hb
 .simp[Value.ownBlock]at hb;subst hb;rw[h5]at e;simp at e
theorem FrJ.next {base P:Nat}{js:List Jb}{bl:Nat->Nat}{X:Nat->Prop}{w w1 w2:World}(h:FrJ base P js bl w w1)(k:Frm X w1 w2)(hx:∀i,i<w.heap.size->X i->∃j,j<js.length/\i=bl j):FrJ base P js bl w w2:=
 ⟨k.os.trans h.os,k.tape.trans h.tape,k.output.trans h.output,Nat.le_trans h.size k.size,fun i hi hP hj ht=>by
  rw[k.block i (Nat.lt_of_lt_of_le hi h.size) (fun hX=>by
   obtain⟨q,hq,e⟩:=hx i hi hX;exact hj q hq e),h.block i hi hP hj ht]⟩
theorem sl_frm {w w':World}{B n:Nat}{ov:Value}{xs:List Value}{X:Nat->Prop}(h:w.ownsRow B 106 3 ov n xs)(hf:Frm X w w')(hx:∀k,B<=k->¬X k):w'.ownsRow B 106 3 ov n xs:=by
 refine⟨h.1,?_⟩;rcases h.2 with h3|⟨g,cap,cur,h3,h4,h5,h6⟩
 .exact .inl h3
 .exact .inr ⟨g,cap,cur,h3,h4,hf.blk h5 (hx g h4),h6⟩
theorem out_snoc (js:List Jb)(out:List (Nat×Nat))(k b:Nat):slPs (outJ js (out++[(k,b)]))=slPs (outJ js out)++slP ⟨(jk js k).ltr,(jk js k).num,b⟩:=by
 simp[slPs,outJ,List.flatMap_append]
def FillOut (js:List Jb) (cyc:Nat) (ps:List Pr) (bl left:Nat->Nat) (P M:Nat) (es:List (UInt8×Value)) (pa:Option Addr) (pc:Nat) (c2:Value) (base s e:Nat) (w:World) (en:Ending) (w':World):Prop:=
 ∃L' v' ov,en=.returned ov/\PlS js cyc ps bl (fillJ js ps s e (e-s) s left).2 P M es pa pc c2 base v' L' w'/\RdyL js (fillJ js ps s e (e-s) s left).2 s L'/\w'.ownsRow w.heap.size 106 3 ov (fillJ js ps s e (e-s) s left).1.length (slPs (outJ js (fillJ js ps s e (e-s) s left).1))/\FrJ base P js bl w w'
theorem fill_go {js:List Jb}{ps:List Pr}{s e f a k:Nat}{left:Nat->Nat}(ha:a<e)(hp:pickJ js ps left s e=some k):fillJ js ps s e (f+1) a left=((k,min (left k) (e-a))::(fillJ js ps s e f (a+min (left k) (e-a)) (updL left k (left k-min (left k) (e-a)))).1,(fillJ js ps s e f (a+min (left k) (e-a)) (updL left k (left k-min (left k) (e-a)))).2):=by
 rw[fillJ,if_pos ha,hp]
theorem fill_no {js:List Jb}{ps:List Pr}{s e f a:Nat}{left:Nat->Nat}(ha:a<e)(hp:pickJ js ps left s e=none):fillJ js ps s e (f+1) a left=([],left):=by
 rw[fillJ,if_pos ha,hp]
theorem fill_end {js:List Jb}{ps:List Pr}{s e f a:Nat}{left:Nat->Nat}(ha:¬a<e):fillJ js ps s e f a left=([],left):=by
 cases f with
 | zero=>rfl
 | succ f=>rw[fillJ,if_neg ha]
structure FillW (js:List Jb) (cyc:Nat) (ps:List Pr) (bl left:Nat->Nat) (P M:Nat) (es:List (UInt8×Value)) (pa:Option Addr) (pc:Nat) (c2:Value) (base s e:Nat) (w:World) (a f:Nat) (left':Nat->Nat) (L':List Nat) (v' ov:Value) (out:List (Nat×Nat)) (wr:World):Prop where
 pl:PlS js cyc ps bl left' P M es pa pc c2 base v' L' wr
 ow:wr.ownsRow w.heap.size 106 3 ov out.length (slPs (outJ js out))
 rdy:RdyL js left' s L'
 eq1:(fillJ js ps s e (e-s) s left).1=out++(fillJ js ps s e f a left').1
 eq2:(fillJ js ps s e (e-s) s left).2=(fillJ js ps s e f a left').2
 fr:FrJ base P js bl w wr
 len:out.length+s<=a
 fu:e-a<=f
theorem nodup_le:∀(n:Nat) (L:List Nat),L.Nodup->(∀x∈L,x<n)->L.length<=n
 | 0,L,_,h=>by
  cases L with
  | nil=>simp
  | cons x r=>exact absurd (h x (by simp)) (by omega)
 | n+1,L,hn,h=>by
  have h1:=nodup_le n (L.erase n) (hn.erase n) (fun x hx=>by
   rw[hn.mem_erase_iff]at hx;have:=h x hx.2;omega)
  rw[List.length_erase]at h1;split at h1<;>omega
theorem rdy_len {js:List Jb}{left:Nat->Nat}{s:Nat}{L:List Nat}(h:RdyL js left s L):L.length<=js.length:=nodup_le _ _ h.nod (fun x hx=>((h.iff x).1 hx).1)
theorem fill_any (js:List Jb)(cyc:Nat)(ps:List Pr)(bl left:Nat->Nat)(P M:Nat)(es:List (UInt8×Value))(pa:Option Addr)(pc:Nat)(c2:Value)(base:Nat)(v:Value)(L:List Nat)(w:World)(s e:Nat)(h:PlS js cyc ps bl left P M es pa pc c2 base v L w)(hr:RdyL js left s L)(hn:js.length<=1000)(he:e<=1000)(hse:s<=e)(hsm:∀k,k<js.length->(jk js k).cost<=1000)(hlf:∀k,k<js.length->left k<=1000):
  Calls Tryz.prog 156 #[.pointer (some ⟨P,0,none⟩),.int .i64 s,.int .i64 e] w (FillOut js cyc ps bl left P M es pa pc c2 base s e w):=by
 obtain⟨i0,hi0,hz0,hz1,hz2⟩:=info_parts Tryz.infoPSl;have H:=hide h;have HR:=hide hr;have HS:=hide hsm;clear h hr hsm;go_enter Tryz.func156,Tryz.ntmps156;go_wp2_with fail
 go_loopw [1,7] (fun av ov wr=>∃(a f:Nat) (left':Nat->Nat) (L':List Nat) (v':Value) (out:List (Nat×Nat)),av=.int .i64 a/\a<=e/\(∀k,k<js.length->left' k<=1000)/\FillW js cyc ps bl left P M es pa pc c2 base s e w a f left' L' v' ov out wr) (fun av _ _=>e-(intOf av).toNat)
 case atStart=>exact⟨s,e-s,left,L,v,[],rfl,hse,hlf,⟨H.out,World.ownsRow_nil _ _ _ _,HR.out,rfl,rfl,FrJ.refl _ _ _ _ _,by simp,Nat.le_refl _⟩⟩
 case round=>
  obtain⟨a,f,left',L',v',out,rfl,hae,hlf',hW⟩:=hrel;have HLF:=hide hlf';have hln:=rdy_len hW.rdy;obtain⟨oa,oc,rfl⟩:=own_slice hW.ow;have HW:=hide hW;have hol:=hW.len;have hfu:=hW.fu;clear hW hlf';by_cases hlt:a<e
  .have hlt':(a:Int)<e:=by omega
   obtain⟨f',rfl⟩:∃f',f=f'+1:=⟨f-1,by omega⟩;have CT:=hide (takeNext_any js cyc ps bl left' P M es pa pc c2 base v' L' wr HW.out.pl (by omega) e);go_wp2_with fail;refine CT.out.mono ?_;rintro en w1 ⟨o,L1,v1,rfl,h1,hf1,hp1,hno,hyes⟩;have hpk:=RdyL.pick HW.out.pl.jok HW.out.rdy hp1 hno hyes;have hPB:P<w.heap.size:=Nat.lt_of_lt_of_le H.out.low.p H.out.bas;have hO1:=sl_frB HW.out.ow hf1 hPB;have HF1:=hide (HW.out.fr.trans (hf1.frJ js bl));have H1:=hide h1;have HO1:=hide hO1;clear CT h1 hf1 hno hyes hO1
   cases o with
   | none=>
    have e1:=HW.out.eq1;have e2:=HW.out.eq2;rw[fill_no hlt hpk]at e1 e2;simp only[List.append_nil]at e1;have HR1:Hid (RdyL js left' s L1):=⟨(hp1.nodup_iff.1 HW.out.rdy.nod),fun k=>by rw[←HW.out.rdy.iff k,hp1.mem_iff];rfl⟩;have E1:=hide e1;have E2:=hide e2;clear e1 e2 hpk hp1 HW;unfold ptrO;go_wp2_with fail;go_ret;exact⟨L1,v1,_,rfl,by rw[E2.out];exact H1.out,by rw[E2.out];exact HR1.out,by rw[E1.out];exact HO1.out,HF1.out⟩
   | some k=>
    have hkL:k∈L':=hp1.mem_iff.2 (by simp);obtain⟨hk1,hk2,hk3⟩:=(HW.out.rdy.iff k).1 hkL;have hk4:=HLF.out k hk1;have e1:=HW.out.eq1;have e2:=HW.out.eq2;rw[fill_go hlt hpk]at e1 e2;have Hp1:Hid (L'.Perm (k::L1)):=hp1;have HRy:=hide HW.out.rdy;clear HW hpk hp1 hkL;have jb:=H1.out.jobs k hk1;have j0:w1.cell? ⟨bl k,0,none⟩=some (.string (bs [(jk js k).ltr])):=by rw[zC jb];rfl
    have j1:w1.cell? ⟨bl k,1,none⟩=some (.int .i64 (jk js k).num):=by rw[zC jb];rfl
    have j6:w1.cell? ⟨bl k,6,none⟩=some (.int .i64 (left' k)):=by rw[zC jb];rfl
    have hlet:=letter_at (jk js k).ltr;have hmin:min (left' k:Int) ((e:Int)-a)=((min (left' k) (e-a):Nat):Int):=by omega
    generalize hb:min (left' k) (e-a)=b at *;have hb1:1<=b:=by omega
    have hb2:b<=left' k:=by omega
    have hb3:a+b<=e:=by omega
    clear jb hb;have E1:=hide e1;have E2:=hide e2;clear e1 e2;have hsub:((left' k:Int)-b)=((left' k-b:Nat):Int):=by omega
    have hBs:w.heap.size<=w1.heap.size:=HF1.out.size;have HOd:Hid (w1.drew.ownsRow w.heap.size 106 3 (.slice oa out.length oc) out.length (slPs (outJ js out))):=HO1.out;have HA:Hid (∀(o:Obj) (w2:World) (ov':Value),(w1.drew.alloc o).grownBy w2 (Value.slice oa out.length oc).ownBlock->w2.ownsRow w.heap.size 106 3 ov' (out.length+1) (slPs (outJ js out)++slP ⟨(jk js k).ltr,(jk js k).num,b⟩)->
      w2.ownsRow w.heap.size 106 3 ov' (out++[(k,b)]).length (slPs (outJ js (out++[(k,b)])))/\PlS js cyc ps bl left' P M es pa pc c2 base v1 L1 w2/\FrJ base P js bl w w2):=fun o w2 ov' hg ho=>by
     have hfr:Frm (fun q=>(Value.slice oa out.length oc).ownBlock=some q) w1 w2:=(((Frm.refl _ w1).drew).alloc o).grown hg (fun q hq _=>hq);have hbl:∀q,(Value.slice oa out.length oc).ownBlock=some q->w.heap.size<=q:=fun q hq=>(HO1.out.lt q hq).1;have hbas:base<=w.heap.size:=H.out.bas;refine⟨?_,H1.out.quiet hfr (fun q hq=>⟨Nat.le_trans hbas (hbl q hq),sl_not_own H1.out.hp.own HO1.out hq⟩),HF1.out.next hfr (fun i hi hX=>absurd (hbl i hX) (by omega))⟩;rw[out_snoc,List.length_append];exact ho
    clear HO1;unfold ptrO;go_wp2_with fail;clear hmin
    go_region_law (refine step_append_own rfl (.tmp 26) (.tmp 38) 104 rfl w.heap.size 106 i0 _ 3 24 Tryz.underlying104 hi0 hz0 hz1 hz2 rfl (by decide) _ _ _ rfl (HOd.out.alloc _) ⟨w1.heap.size,0,none⟩ 1 1 (slP ⟨(jk js k).ltr,(jk js k).num,b⟩) rfl rfl (cells_new w1.drew #[_,_,_] _ _ rfl) (by simp[slP,Value.oneCell']) (by unfold maxLen;omega) (by omega) (by simp;omega) ?_;intro ov' w2 hown2 hgr2;obtain⟨g',cap',hv',_,_⟩:=own_form hown2 (by omega);subst hv';obtain⟨p1,p2,p3⟩:=HA.out _ w2 _ hgr2 hown2;have P1:=hide p1;have P2:=hide p2;have P3:=hide p3;clear p1 p2 p3 hown2 hgr2)
    all_goals
     clear HA j0 j1 j6;have jb2:=P2.out.jobs k hk1;have j62:w2.cell? ⟨bl k,6,none⟩=some (.int .i64 (left' k)):=by rw[zC jb2];rfl
     have j6f:=zF jb2 6;have H3:Hid (PlS js cyc ps bl (updL left' k (left' k-b)) P M es pa pc c2 base v1 L1 (w2.setCell ⟨bl k,6,none⟩ (.int .i64 ((left' k-b:Nat):Int)))):=by
      exact P2.out.setLeft hk1 (left' k-b)
     have HF3:Hid (FrJ base P js bl w (w2.setCell ⟨bl k,6,none⟩ (.int .i64 ((left' k-b:Nat):Int)))):=P3.out.next ((Frm.refl (fun i=>i=bl k) w2).setCell (p:=⟨bl k,6,none⟩) rfl _) (fun i _ hX=>⟨k,hk1,hX⟩);have hbk:=(P2.out.low.j k hk1).1;have hbas:base<=w.heap.size:=H.out.bas;have HO3:Hid ((w2.setCell ⟨bl k,6,none⟩ (.int .i64 ((left' k-b:Nat):Int))).ownsRow w.heap.size 106 3 (.slice (some ⟨g',0,none⟩) (out.length+1) cap') (out++[(k,b)]).length (slPs (outJ js (out++[(k,b)])))):=sl_frm P1.out ((Frm.refl (fun i=>i=bl k) w2).setCell (p:=⟨bl k,6,none⟩) rfl _) (fun q hq e=>by omega);have CD:Hid (Calls Tryz.prog 176 #[.pointer (some ⟨bl k,0,none⟩)] (w2.setCell ⟨bl k,6,none⟩ (.int .i64 ((left' k-b:Nat):Int))) fun en w'=>en=.returned (.bool (decide (left' k-b=0)))/\w'=(w2.setCell ⟨bl k,6,none⟩ (.int .i64 ((left' k-b:Nat):Int)))):=isDone_any (jk js k) (left' k-b) (bl k) _ (by
      have h7:=H3.out.jobs k hk1;unfold updL at h7;rw[if_pos rfl]at h7;exact h7)
     clear P1 P2 P3 jb2;go_wp2_with fail;refine CD.out.mono ?_;rintro en w' ⟨rfl,hw'⟩;replace hw':=hw'.symm;subst hw';clear CD j62 j6f hsub;generalize w2.setCell ⟨bl k,6,none⟩ (.int .i64 ((left' k-b:Nat):Int))=w3 at *;have HLF3:Hid (∀q,q<js.length->updL left' k (left' k-b) q<=1000):=fun q hq=>by
      unfold updL;split
      .omega
      .exact HLF.out q hq
     have E1':Hid ((fillJ js ps s e (e-s) s left).1=(out++[(k,b)])++(fillJ js ps s e f' (a+b) (updL left' k (left' k-b))).1):=by
      unfold Hid;rw[E1.out,List.append_assoc];rfl
     by_cases hz:left' k-b=0
     .rw[decide_eq_true hz];have HR3:Hid (RdyL js (updL left' k (left' k-b)) s L1):=HRy.out.gave Hp1.out (.inl ⟨hz,rfl⟩);clear hz;go_wp2_with fail;go_roundw
      case rel=>exact⟨a+b,f',_,L1,v1,out++[(k,b)],by go_num,hb3,HLF3.out,⟨H3.out,by rw[show (out++[(k,b)]).length=out.length+1 by simp]at HO3 ⊢;exact HO3.out,HR3.out,E1'.out,E2.out,HF3.out,by rw[List.length_append];simp;omega,by omega⟩⟩
      case measure=>simp[intOf];omega
     .rw[decide_eq_false hz];have CP:=hide (push_any js _ P _ _ c2 v1 base bl L1 w3 H3.out.hp H3.out.jobs H3.out.mem H3.out.jok.low (by
       have:=Hp1.out.length_eq;rw[List.length_cons]at this;omega) H3.out.bas k hk1 H3.out.heap)
      go_wp2_with fail;refine CP.out.mono ?_;rintro en w4 ⟨rfl,v4,L4,hh4,s4,hp4,hhp4⟩;have hf4:=s4.frB H3.out.hp.own;have H4:=hide (H3.out.next hf4.frm hh4 hhp4 (fun y hy=>by
       have:=hp4.mem_iff.1 hy;simp at this;rcases this with h5|h5
       .exact H3.out.mem y h5
       .rw[h5];exact hk1))
      have HF4:=hide (HF3.out.trans (hf4.frJ js bl));have hPB2:P<w.heap.size:=hPB;have HO4:=hide (sl_frB HO3.out hf4 hPB2);have HR4:Hid (RdyL js (updL left' k (left' k-b)) s L4):=HRy.out.gave Hp1.out (.inr ⟨by omega,hp4⟩);clear hh4 s4 hp4 hhp4 hf4 CP H3 HF3 HO3 hz;go_wp2_with fail;go_roundw
      case rel=>exact⟨a+b,f',_,L4,v4,out++[(k,b)],by go_num,hb3,HLF3.out,⟨H4.out,by rw[show (out++[(k,b)]).length=out.length+1 by simp]at HO4 ⊢;exact HO4.out,HR4.out,E1'.out,E2.out,HF4.out,by rw[List.length_append];simp;omega,by omega⟩⟩
      case measure=>simp[intOf];omega
  .have hlt':¬(a:Int)<e:=by omega
   have e1:=HW.out.eq1;have e2:=HW.out.eq2;rw[fill_end hlt]at e1 e2;simp only[List.append_nil]at e1;have E1:=hide e1;have E2:=hide e2;clear e1 e2;go_wp2_with fail;go_ret;exact⟨L',v',_,rfl,by rw[E2.out];exact HW.out.pl,by rw[E2.out];exact HW.out.rdy,by rw[E1.out];exact HW.out.ow,HW.out.fr⟩
end
def Srt (key:Nat->Nat) (L:List Nat) (a b:Nat):Prop:=∀i,a<=i->i+1<b->key (gd L i)<=key (gd L (i+1))
theorem Srt.le {key:Nat->Nat}{L:List Nat}{a b:Nat}(h:Srt key L a b){i:Nat}(hi:a<=i):∀j,i<=j->j<b->key (gd L i)<=key (gd L j):=by
 intro j
 induction j with
 | zero=>
  intro h1 _;rw[show i=0 by omega];exact Nat.le_refl _
 | succ j ih=>
  intro h1 h2;by_cases e:i=j+1
  .rw[e];exact Nat.le_refl _
  .exact Nat.le_trans (ih (by omega) (by omega)) (h j (by omega) h2)
theorem Srt.same {key:Nat->Nat}{L L':List Nat}{a b:Nat}(h:Srt key L a b)(e:∀i,a<=i->i<b->gd L' i=gd L i):Srt key L' a b:=fun i h1 h2=>by
 rw[e i h1 (by omega),e (i+1) (by omega) h2];exact h i h1 h2
theorem srt_one (key:Nat->Nat)(L:List Nat){a b:Nat}(h:b<=a+1):Srt key L a b:=fun i h1 h2=>by omega
structure Mov (L L':List Nat) (a b:Nat):Prop where
 perm:L'.Perm L
 out:∀i,(i<a\/b<=i)->gd L' i=gd L i
theorem Mov.len {L L':List Nat}{a b:Nat}(h:Mov L L' a b):L'.length=L.length:=h.perm.length_eq
theorem Mov.refl (L:List Nat)(a b:Nat):Mov L L a b:=⟨List.Perm.refl _,fun _ _=>rfl⟩
theorem Mov.trans {L L' L'':List Nat}{a b:Nat}(h:Mov L L' a b)(k:Mov L' L'' a b):Mov L L'' a b:=⟨k.perm.trans h.perm,fun i hi=>(k.out i hi).trans (h.out i hi)⟩
theorem Mov.wide {L L':List Nat}{a b a' b':Nat}(h:Mov L L' a b)(ha:a'<=a)(hb:b<=b'):Mov L L' a' b':=⟨h.perm,fun i hi=>h.out i (by omega)⟩
theorem Mov.swp {L:List Nat}{a b i j:Nat}(h1:a<=i)(h2:i<b)(h3:a<=j)(h4:j<b)(hb:b<=L.length):Mov L (swp L i j) a b:=
 ⟨swp_perm (by omega) (by omega),fun k hk=>by rw[gd_swp (by omega) (by omega),if_neg (by omega),if_neg (by omega)]⟩
theorem take_drop_gd {L:List Nat}{a b:Nat}(hb:b<=L.length)(x:Nat):x∈(L.take b).drop a↔∃i,a<=i/\i<b/\gd L i=x:=by
 constructor
 .intro h;obtain⟨i,hi,e⟩:=List.getElem_of_mem h;simp at hi e;exact⟨a+i,by omega,by omega,by rw[gd_get (by omega)];exact e⟩
 .rintro ⟨i,h1,h2,e⟩;rw[gd_get (by omega)]at e;rw[List.mem_iff_getElem];refine⟨i-a,by simp;omega,?_⟩;simp;rw[←e];congr 1;omega
theorem Mov.parts {L L':List Nat}{a b:Nat}(h:Mov L L' a b)(hab:a<=b)(hb:b<=L.length):((L'.take b).drop a).Perm ((L.take b).drop a):=by
 have hl:=h.len;have e1:L'.take a=L.take a:=by
  apply List.ext_getElem (by simp;omega);intro i h1 h2;simp at h1 h2 ⊢;have:=h.out i (by omega);rw[gd_get (by omega),gd_get (by omega)]at this;exact this
 have e2:L'.drop b=L.drop b:=by
  apply List.ext_getElem (by simp;omega);intro i h1 h2;simp at h1 h2 ⊢;have:=h.out (b+i) (by omega);rw[gd_get (by omega),gd_get (by omega)]at this;exact this
 have s1:∀M:List Nat,b<=M.length->M=M.take a++((M.take b).drop a++M.drop b):=fun M hM=>by
  rw[←List.append_assoc];have:M.take a++(M.take b).drop a=M.take b:=by
   have:=List.take_append_drop a (M.take b);rw[List.take_take,Nat.min_eq_left hab]at this;exact this
  rw[this,List.take_append_drop]
 have hp:=h.perm;rw[s1 L hb,s1 L' (by omega),e1,e2]at hp;exact(List.perm_append_right_iff _).1 ((List.perm_append_left_iff _).1 hp)
theorem Mov.each {L L':List Nat}{a b:Nat}(h:Mov L L' a b)(hab:a<=b)(hb:b<=L.length){i:Nat}(h1:a<=i)(h2:i<b):∃j,a<=j/\j<b/\gd L' i=gd L j:=by
 have hm:gd L' i∈(L'.take b).drop a:=(take_drop_gd (by rw[h.len];exact hb) _).2 ⟨i,h1,h2,rfl⟩;obtain⟨j,a1,a2,a3⟩:=(take_drop_gd hb _).1 ((h.parts hab hb).mem_iff.1 hm);exact⟨j,a1,a2,a3.symm⟩
def insI (key:Nat->Nat) (L:List Nat) (a j:Nat):List Nat:=
 if h:a<j then if key (gd L j)<key (gd L (j-1)) then insI key (swp L j (j-1)) a (j-1) else L else L
termination_by j
decreasing_by omega
theorem insI_end {key:Nat->Nat}{L:List Nat}{a j:Nat}(h:¬a<j):insI key L a j=L:=by rw[insI,dif_neg h]
theorem insI_stop {key:Nat->Nat}{L:List Nat}{a j:Nat}(h:¬key (gd L j)<key (gd L (j-1))):insI key L a j=L:=by
 rw[insI];split<;>rfl
theorem insI_go {key:Nat->Nat}{L:List Nat}{a j:Nat}(h0:a<j)(h:key (gd L j)<key (gd L (j-1))):insI key L a j=insI key (swp L j (j-1)) a (j-1):=by rw[insI,dif_pos h0,if_pos h]
theorem insI_ok (key:Nat->Nat)(a b:Nat):∀(j:Nat) (L:List Nat),a<=j->j<b->b<=L.length->(∀i,a<=i->i+1<b->i+1≠j->key (gd L i)<=key (gd L (i+1)))->(∀i,a<=i->i+1=j->j+1<b->key (gd L i)<=key (gd L (j+1)))->
  Srt key (insI key L a j) a b/\Mov L (insI key L a j) a b:=by
 intro j
 induction j with
 | zero=>
  intro L h1 h2 h3 h4 h5;rw[insI_end (by omega)];exact⟨fun i hi hb=>h4 i hi hb (by omega),Mov.refl _ _ _⟩
 | succ j ih=>
  intro L h1 h2 h3 h4 h5;by_cases h0:a<j+1
  .by_cases hk:key (gd L (j+1))<key (gd L j)
   .rw[insI_go h0 (by simpa using hk)];simp only[Nat.add_sub_cancel];have g:=fun k=>gd_swp (L:=L) (i:=j+1) (j:=j) (by omega) (by omega) k;obtain⟨a1,a2⟩:=ih (swp L (j+1) j) (by omega) (by omega) (by rw[swp_len];exact h3) (by
     intro i hi hib hne;rw[g,g];by_cases e1:i=j
     .subst e1;rw[if_pos rfl,if_neg (by omega),if_pos rfl];omega
     .rw[if_neg e1,if_neg (show i+1≠j by omega)];by_cases e2:i=j+1
      .subst e2;rw[if_pos rfl,if_neg (by omega)];exact h5 j (by omega) rfl (by omega)
      .rw[if_neg e2,if_neg (by omega)];exact h4 i hi hib (by omega)) (by
     intro i hi hij hjb;rw[g,g,if_neg (by omega),if_neg (by omega),if_neg (by omega),if_pos rfl];have:=h4 i hi (by omega) (by omega);rw[hij]at this;exact this)
    exact⟨a1,(Mov.swp (by omega) h2 (by omega) (by omega) h3).trans a2⟩
   .rw[insI_stop (by simpa using hk)];refine⟨fun i hi hb=>?_,Mov.refl _ _ _⟩;by_cases e:i=j
    .subst e;omega
    .exact h4 i hi hb (by omega)
  .rw[insI_end h0];exact⟨fun i hi hb=>h4 i hi hb (by omega),Mov.refl _ _ _⟩
def insS (key:Nat->Nat) (L:List Nat) (a i b:Nat):List Nat:=if h:i<b then insS key (insI key L a i) a (i+1) b else L
termination_by b-i
theorem insS_go {key:Nat->Nat}{L:List Nat}{a i b:Nat}(h:i<b):insS key L a i b=insS key (insI key L a i) a (i+1) b:=by rw[insS,dif_pos h]
theorem insS_end {key:Nat->Nat}{L:List Nat}{a i b:Nat}(h:¬i<b):insS key L a i b=L:=by rw[insS,dif_neg h]
theorem insS_ok (key:Nat->Nat)(a b:Nat):∀(d i:Nat) (L:List Nat),b-i<=d->a<i->i<=b->b<=L.length->Srt key L a i->Srt key (insS key L a i b) a b/\Mov L (insS key L a i b) a b:=by
 intro d
 induction d with
 | zero=>
  intro i L hd h1 h2 h3 h4;rw[insS_end (by omega)];have:i=b:=by omega
  subst this;exact⟨h4,Mov.refl _ _ _⟩
 | succ d ih=>
  intro i L hd h1 h2 h3 h4;by_cases h0:i<b
  .rw[insS_go h0];obtain⟨a1,a2⟩:=insI_ok key a (i+1) i L (by omega) (by omega) (by omega) (fun q hq hqb hne=>h4 q hq (by omega)) (fun q _ _ h=>by omega);obtain⟨b1,b2⟩:=ih (i+1) _ (by omega) (by omega) (by omega) (by rw[a2.len];exact h3) a1;exact⟨b1,(a2.wide (Nat.le_refl _) (by omega)).trans b2⟩
  .rw[insS_end h0];have:i=b:=by omega
   subst this;exact⟨h4,Mov.refl _ _ _⟩
theorem insS_all (key:Nat->Nat){a b:Nat}(L:List Nat)(hab:a<=b)(hb:b<=L.length):Srt key (insS key L a (a+1) b) a b/\Mov L (insS key L a (a+1) b) a b:=by
 by_cases h:a<b
 .exact insS_ok key a b _ (a+1) L (Nat.le_refl _) (by omega) (by omega) hb (srt_one key L (by omega))
 .rw[insS_end (by omega)];exact⟨srt_one key L (by omega),Mov.refl _ _ _⟩
section
open Go.RowKit
def ComAt (lo base P:Nat) (js:List Jb) (bl:Nat->Nat) (c2:Value) (Cm:List Nat) (w:World):Prop:=
 ∃a cap,c2=.slice a Cm.length cap/\Cm.length<=cap/\cap<=maxLen/\(0<Cm.length->∃C o,a=some ⟨C,o,none⟩/\lo<=C/\C<base/\C≠P/\C<w.heap.size/\(∀k,k<js.length->C≠bl k)/\∀i,i<Cm.length->w.cell? ⟨C,o+i,none⟩=some (.pointer (some ⟨bl (gd Cm i),0,none⟩)))
theorem ComAt.keep {lo base P:Nat}{js:List Jb}{bl:Nat->Nat}{c2:Value}{Cm:List Nat}{w w':World}{X:Nat->Prop}(h:ComAt lo base P js bl c2 Cm w)(hf:Frm X w w')(hx:∀i,lo<=i->i<base->i≠P->(∀k,k<js.length->i≠bl k)->¬X i):ComAt lo base P js bl c2 Cm w':=by
 obtain⟨a,cap,h1,h2,h2',h3⟩:=h;refine⟨a,cap,h1,h2,h2',fun h0=>?_⟩;obtain⟨C,o,e,h4',h4,h5,h6,h7,h8⟩:=h3 h0;refine⟨C,o,e,h4',h4,h5,Nat.lt_of_lt_of_le h6 hf.size,h7,fun i hi=>?_⟩;rw[←h8 i hi];exact World.cell?_of_block (hf.block C h6 (hx C h4' h4 h5 h7))
theorem FrJ.frm {base P:Nat}{js:List Jb}{bl:Nat->Nat}{w w':World}(h:FrJ base P js bl w w'):Frm (fun i=>i=P\/base<=i\/∃k,k<js.length/\i=bl k) w w':=
 ⟨h.os,h.tape,h.output,h.size,fun i hi hX=>h.block i hi (fun e=>hX (.inl e)) (fun k hk e=>hX (.inr (.inr ⟨k,hk,e⟩))) (fun hb=>absurd (.inr (.inl hb)) hX)⟩
theorem ComAt.frJ {lo base P:Nat}{js:List Jb}{bl:Nat->Nat}{c2:Value}{Cm:List Nat}{w w':World}(h:ComAt lo base P js bl c2 Cm w)(hf:FrJ base P js bl w w'):ComAt lo base P js bl c2 Cm w':=
 h.keep hf.frm (fun i _ hi hP hj hX=>by
  rcases hX with e|e|⟨k,hk,e⟩
  .exact hP e
  .omega
  .exact hj k hk e)
section
variable {js:List Jb} {cyc:Nat} {ps:List Pr} {bl left:Nat->Nat} {P M:Nat} {es:List (UInt8×Value)} {pa:Option Addr} {pc:Nat} {c2:Value} {base:Nat} {v:Value} {L:List Nat} {w:World}
theorem PlS.setCom (h:PlS js cyc ps bl left P M es pa pc c2 base v L w)(c2':Value):PlS js cyc ps bl left P M es pa pc c2' base v L (w.setCell ⟨P,2,none⟩ c2'):=by
 have hf:Frm (fun i=>i=P) w (w.setCell ⟨P,2,none⟩ c2'):=(Frm.refl (fun i=>i=P) w).setCell (p:=⟨P,2,none⟩) rfl _;refine⟨⟨zS h.hp.blk 2 c2',h.hp.own.frm hf (fun g hg e=>?_)⟩,h.jobs.keep hf (fun k hk e=>(h.low.j k hk).2 e),h.map.keep hf (fun e=>h.low.m.2 e) (fun x hx g hg e=>(h.low.e x hx g hg).2 e),h.prs.keep hf (fun gp hg e=>(h.low.g gp hg).2.1 e),h.heap,h.low,by simpa [World.setCell] using h.bas,h.mem,h.jok,h.pok,h.pl⟩;exact h.hp.ne (e▸hg)
end
def RelOut (lo:Nat) (js:List Jb) (cyc:Nat) (ps:List Pr) (bl left:Nat->Nat) (P M:Nat) (es:List (UInt8×Value)) (pa:Option Addr) (pc:Nat) (base:Nat) (L Cm:List Nat) (t:Nat) (w:World) (en:Ending) (w':World):Prop:=
 en=.returned (.tuple #[])/\∃i c2' v' L',PlS js cyc ps bl left P M es pa pc c2' base v' L' w'/\ComAt lo base P js bl c2' (Cm.drop i) w'/\L'.Perm (L++Cm.take i)/\(∀x∈Cm.take i,(jk js x).rel<=t)/\(∀x∈Cm.drop i,t<(jk js x).rel)/\FrB base P w w'
theorem release_any (lo:Nat)(js:List Jb)(cyc:Nat)(ps:List Pr)(bl left:Nat->Nat)(P M:Nat)(es:List (UInt8×Value))(pa:Option Addr)(pc:Nat)(c2:Value)(base:Nat)(v:Value)(L Cm:List Nat)(w:World)(t:Nat)(h:PlS js cyc ps bl left P M es pa pc c2 base v L w)(hc:ComAt lo base P js bl c2 Cm w)(hcm:∀x∈Cm,x<js.length)(hsr:Srt (fun k=>(jk js k).rel) Cm 0 Cm.length)(hn:L.length+Cm.length<=1000)(hsm:∀k,k<js.length->(jk js k).rel<=1000):
  Calls Tryz.prog 155 #[.pointer (some ⟨P,0,none⟩),.int .i64 t] w (RelOut lo js cyc ps bl left P M es pa pc base L Cm t w):=by
 have H:=hide h;have HC:=hide hc;have HM:=hide hcm;have HSr:=hide hsr;have HSm:=hide hsm;clear h hc hcm hsr hsm;go_enter Tryz.func155,Tryz.ntmps155;go_wp2_with fail
 go_loopw [] (fun wr=>∃(i:Nat) (c2' v':Value) (L':List Nat),i<=Cm.length/\PlS js cyc ps bl left P M es pa pc c2' base v' L' wr/\ComAt lo base P js bl c2' (Cm.drop i) wr/\L'.Perm (L++Cm.take i)/\(∀x∈Cm.take i,(jk js x).rel<=t)/\FrB base P w wr) (fun wr=>lenOf (wr.cell? ⟨P,2,none⟩))
 case atStart=>exact⟨0,c2,v,L,by omega,H.out,HC.out,by simp,(fun x hx=>by simp at hx),FrB.refl _ _ _⟩
 case round=>
  obtain⟨i,c2',v',L',hi,h1,hc1,hp1,hr1,hf1⟩:=hrel;have hdl:(Cm.drop i).length=Cm.length-i:=List.length_drop;have hl1:L'.length<=1000:=by
   have:=hp1.length_eq;rw[List.length_append,List.length_take]at this;omega
  obtain⟨ca,ccap,rfl,hcc,hcc',hcell⟩:=hc1;rw[hdl]at hcell hcc;rw[hdl]at h1;have c2c:wr.cell? ⟨P,2,none⟩=some (.slice ca (Cm.length-i) ccap):=by rw[zC h1.hp.blk];rfl
  have c2f:=zF h1.hp.blk 2;have HL2:Hid (lenOf (wr.cell? ⟨P,2,none⟩)=Cm.length-i):=by unfold Hid;rw[c2c];rfl
  by_cases hlt:i<Cm.length
  .have hpos0:0<Cm.length-i:=Nat.sub_pos_of_lt hlt;obtain⟨C,o,rfl,hC0,hC1,hC2,hC3,hC4,hC5⟩:=hcell hpos0;have hxi:gd (Cm.drop i) 0=gd Cm i:=by simp[gd,List.getD_eq_getElem?_getD]
   have cc0:=hC5 0 hpos0;rw[hxi,Nat.add_zero]at cc0;have hxm:gd Cm i<js.length:=HM.out _ (gd_mem hlt);have hx3:wr.cell? ⟨bl (gd Cm i),3,none⟩=some (.int .i64 (jk js (gd Cm i)).rel):=by rw[zC (h1.jobs _ hxm)];rfl
   have hpos:(0:Int)<((Cm.length-i:Nat):Int):=Int.ofNat_lt.2 hpos0;have H1:=hide h1;have Hp1:=hide hp1;have Hr1:=hide hr1;have Hf1:=hide hf1;have HC5:=hide hC5;have HC4:=hide hC4;clear h1 hp1 hr1 hf1 hC5 hC4 hcell;by_cases hrel:(jk js (gd Cm i)).rel<=t
   .have hrel':((jk js (gd Cm i)).rel:Int)<=t:=by omega
    have CP:=hide (fun (W:World) (hW:W.heap=wr.heap)=>push_any js left P _ _ _ v' base bl L' W (H1.out.hp.same hW) (H1.out.jobs.same hW) H1.out.mem H1.out.jok.low (by omega) (by rw[hW];exact H1.out.bas) (gd Cm i) hxm H1.out.heap);have Htk:Hid (Cm.take (i+1)=Cm.take i++[gd Cm i]):=by
     unfold Hid;rw[List.take_succ_eq_append_getElem hlt,gd_get hlt]
    have Hrx:=hide hrel;have HC5d:Hid (∀q,q<Cm.length-(i+1)->gd (Cm.drop (i+1)) q=gd (Cm.drop i) (q+1)):=fun q _=>by
     simp only[gd,List.getD_eq_getElem?_getD,List.getElem?_drop];rw[show i+1+q=i+(q+1) by omega]
    clear hrel;generalize gd Cm i=x at *;generalize hN:Cm.length-i=n at *;have HN:=hide hN;clear hN hdl;go_wp2_with fail
    go_region_with (go_at_call 174;refine(CP.out wr.drew rfl).mono ?_;rintro en w2 ⟨rfl,v2,L2,hh2,s2,hp2,hhp2⟩)
    all_goals
     have s3:Stp P v' v2 wr w2:=⟨⟨s2.f.os,s2.f.tape,s2.f.output,s2.f.size,s2.f.block⟩,s2.at_⟩;have hf2:=s3.frB H1.out.hp.own;have H2:=hide (H1.out.next hf2.frm hh2 hhp2 (fun y hy=>by
      have:=hp2.mem_iff.1 hy;simp at this;rcases this with h5|h5
      .exact H1.out.mem y h5
      .rw[h5];exact hxm))
     have HF2:=hide (Hf1.out.trans hf2);have HCc:Hid (∀q,w2.cell? ⟨C,q,none⟩=wr.cell? ⟨C,q,none⟩):=fun q=>World.cell?_of_block (hf2.frm.block C hC3 (fun hX=>by omega));have hsz2:wr.heap.size<=w2.heap.size:=hf2.size;have Hp2:=hide hp2;have d2:w2.cell? ⟨P,2,none⟩=some (.slice (some ⟨C,o,none⟩) n ccap):=by rw[zC hh2.blk];rfl
     have d2f:=zF hh2.blk 2;have hn1:1<=n:=by omega
     clear s2 s3 hh2 hp2 hhp2 hf2 CP cc0 c2c c2f hx3 hrel' hpos;go_wp2_with fail;have hN:=HN.out;generalize hA:(if ccap=1 then some ({ block:=C,off:=o }:Addr) else some { block:=C,off:=o+1 })=ad;have hfS:Frm (fun i=>i=P) w2 (w2.setCell ⟨P,2,none⟩ (.slice ad (n-1) (ccap-1))):=(Frm.refl (fun i=>i=P) w2).setCell (p:=⟨P,2,none⟩) rfl _;refine⟨⟨i+1,.slice ad (n-1) (ccap-1),v2,L2,by omega,H2.out.setCom _,?_,?_,?_,HF2.out.trans (FrB.of hfS (fun k hk=>.inl hk))⟩,?_⟩
     .refine⟨ad,ccap-1,by rw[List.length_drop,show Cm.length-(i+1)=n-1 by omega],by rw[List.length_drop];omega,by omega,fun h0=>?_⟩;rw[List.length_drop]at h0;refine⟨C,o+1,?_,hC0,hC1,hC2,by have:=hfS.size;omega,HC4.out,fun q hq=>?_⟩
      .rw[←hA,if_neg (by omega)]
      .rw[List.length_drop]at hq;rw[World.cell?_of_block (w:=w2) (Below.heap_setCell _ _ _ _ hC2),HCc.out,HC5d.out q hq,←HC5.out (q+1) (by omega),show o+1+q=o+(q+1) by omega]
     .rw[Htk.out,←List.append_assoc];exact Hp2.out.trans (List.Perm.append_right _ Hp1.out)
     .intro y hy;rw[Htk.out]at hy;rcases List.mem_append.1 hy with hy|hy
      .exact Hr1.out y hy
      .simp at hy;rw[hy];exact Hrx.out
     .rw[HL2.out,zC (zS H2.out.hp.blk 2 _)];show n-1<n;omega
   .have hrel':¬((jk js (gd Cm i)).rel:Int)<=t:=by omega
    have HAll:Hid (∀x∈Cm.drop i,t<(jk js x).rel):=fun x hx=>by
     obtain⟨q,hq,e⟩:=mem_gd hx;rw[hdl]at hq;have e2:gd Cm (i+q)=x:=by
      rw[←e];simp[gd,List.getD_eq_getElem?_getD]
     have:=HSr.out.le (i:=i) (by omega) (i+q) (by omega) (by omega);simp only[e2]at this;omega
    clear hrel;generalize gd Cm i=x at *;generalize hN:Cm.length-i=n at *;have HN:=hide hN;clear hN hdl;go_wp2_with fail
    go_end0
    refine⟨rfl,i,_,v',L',H1.out,?_,Hp1.out,Hr1.out,HAll.out,Hf1.out⟩;have hN:=HN.out;exact⟨_,ccap,by rw[List.length_drop,hN],by rw[List.length_drop,hN];omega,hcc',fun _=>⟨C,o,rfl,hC0,hC1,hC2,hC3,HC4.out,fun q hq=>HC5.out q (by rw[List.length_drop,hN]at hq;exact hq)⟩⟩
  .have hz:Cm.length-i=0:=by omega
   rw[hz]at h1 c2c hcell;have HAll:Hid (∀x∈Cm.drop i,t<(jk js x).rel):=fun x hx=>by
    have:Cm.drop i=[]:=List.drop_eq_nil_of_le (by omega);rw[this]at hx;simp at hx
   have H1:=hide h1;have Hp1:=hide hp1;have Hr1:=hide hr1;have Hf1:=hide hf1;have Hz:=hide hz;clear h1 hp1 hr1 hf1 hcell hdl hz;go_wp2_with fail
   go_end0
   exact⟨rfl,i,_,v',L',H1.out,⟨ca,ccap,by rw[List.length_drop,Hz.out],by rw[List.length_drop,Hz.out];omega,hcc',fun h0=>by rw[List.length_drop,Hz.out]at h0;omega⟩,Hp1.out,Hr1.out,HAll.out,Hf1.out⟩
end
end Go.Proofs.YtbdffcjganlblaaGreatDoor
