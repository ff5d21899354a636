import Derived.Test.YtbdffcjganlblaaGreatDoorAMpStoPnA
set_option linter.unusedVariables false
set_option linter.unusedSimpArgs false
set_option maxRecDepth 100000
set_option maxHeartbeats 16000000
namespace Go.Proofs.YtbdffcjganlblaaGreatDoor
section
open Go.RowKit
structure PsOk (js:List Jb) (es:List (UInt8×Value)) (ps:List Pr):Prop where
 a:∀p∈ps,∃x∈es,x.1=p.a
 b:∀p∈ps,∃x∈es,x.1=p.b
 bef:∀p∈ps,p.ap=false->∀k,k<js.length->(jk js k).ltr=p.b->∃i,i<js.length/\(jk js i).ltr=p.a/\(jk js i).num=(jk js k).num
theorem psk_mem {ps:List Pr}{i:Nat}(h:i<ps.length):psk ps i∈ps:=by
 unfold psk;rw[List.getD_eq_getElem?_getD,List.getElem?_eq_getElem h];exact List.getElem_mem _
theorem mem_psk {ps:List Pr}{p:Pr}(h:p∈ps):∃i,i<ps.length/\psk ps i=p:=by
 obtain⟨i,hi,e⟩:=List.getElem_of_mem h;refine⟨i,hi,?_⟩;unfold psk;rw[List.getD_eq_getElem?_getD,List.getElem?_eq_getElem hi,←e];rfl
def PairsAt (w:World) (pa:Option Addr) (ps:List Pr):Prop:=0<ps.length->∃gp,pa=some ⟨gp,0,none⟩/\gp<w.heap.size/\RowPP w gp ps
theorem PairsAt.keep {w w':World}{pa:Option Addr}{ps:List Pr}{X:Nat->Prop}(h:PairsAt w pa ps)(hf:Frm X w w')(hx:∀gp,pa=some ⟨gp,0,none⟩->¬X gp):PairsAt w' pa ps:=fun h0=>by
 obtain⟨gp,e,h1,h2⟩:=h h0;exact⟨gp,e,Nat.lt_of_lt_of_le h1 hf.size,h2.keep (hf.block gp h1 (hx gp e))⟩
theorem mayRun_any (js:List Jb)(cyc:Nat)(hjs:JsOk js cyc)(bl left:Nat->Nat)(P M:Nat)(es:List (UInt8×Value))(ps:List Pr)(hps:PsOk js es ps)(pa:Option Addr)(pc:Nat)(c2 v:Value)(w:World)(h:PlR js bl left P M es (.slice pa ps.length pc) c2 v w)(hpp:PairsAt w pa ps)(hpl:ps.length<=6)(k:Nat)(hk:k<js.length)(e:Nat):
  Calls Tryz.prog 195 #[.pointer (some ⟨P,0,none⟩),.pointer (some ⟨bl k,0,none⟩),.int .i64 e] w fun en w'=>en=.returned (.bool (mayJ js ps left e k))/\Frm (fun _=>False) w w':=by
 have jb0:=h.jobs k hk;have j4:w.cell? ⟨bl k,4,none⟩=some (.int .i64 (jk js k).dl):=by rw[zC jb0];rfl
 have p0:w.cell? ⟨P,0,none⟩=some (.slice pa ps.length pc):=by rw[zC h.blk];rfl
 have HM:Hid (mayJ js ps left e k=(decide (e<=(jk js k).dl)&&!(ps.any (holdsN js left k)))):=rfl;have H:=hide h;have Hpp:=hide hpp;have Hps:=hide hps;have Hjs:=hide hjs;clear jb0 h hpp hps hjs;by_cases hd:e<=(jk js k).dl
 .rw[decide_eq_true hd,Bool.true_and]at HM;have hd':¬((jk js k).dl:Int)<e:=by omega
  clear hd;go_enter Tryz.func195,Tryz.ntmps195;go_wp2_with fail;clear j4 p0 hd'
  go_loopw [20] (fun iv wr=>∃i:Nat,i<=ps.length/\iv=.int .i64 i/\Frm (fun _=>False) w wr/\∀q,q<i->holdsN js left k (psk ps q)=false) (fun iv _=>ps.length-(intOf iv).toNat)
  case atStart=>exact⟨0,by omega,rfl,Frm.refl _ _,fun q h=>by omega⟩
  case round=>
   obtain⟨i,hi,rfl,hf,hno⟩:=hrel;have HF:=hide hf;have HN:=hide hno;clear hf hno;by_cases hlt:i<ps.length
   .have hlt':(i:Int)<ps.length:=by omega
    obtain⟨gp,rfl,hg1,hg2⟩:=Hpp.out (by omega);obtain⟨r0,r1,r2,r3,r4⟩:=(hg2.keep (HF.out.block gp hg1 (fun x=>x))) i hlt;have hpm:=psk_mem hlt;generalize hP:psk ps i=p at *;have HPi:=hide hP;clear hP;have HBx:=hide (HF.out.alloc (.cells #[.string (bs (pW p)),.string (bs [p.a]),.int .i64 p.q0,.string (bs [p.b]),.int .i64 p.q1] 175));have CH:=hide (holdsUp_any js cyc Hjs.out bl left P M es _ c2 v _ (H.out.keep HBx.out) p (Hps.out.a p hpm) (Hps.out.b p hpm) k hk (fun a b=>Hps.out.bef p hpm a k hk b));have hwd:(if p.ap then ([97,112,97,114,116]:List UInt8) else [98,101,102,111,114,101])=pW p:=rfl;rw[hwd]at r0;clear hg1 hg2 hpm hwd;go_wp2_with fail;refine CH.out.mono ?_;rintro en w1 ⟨rfl,hf1⟩;have HF1:=hide (HBx.out.trans hf1);clear hf1 CH HBx r0 r1 r2 r3 r4
    cases hh:holdsN js left k p with
    | true=>
     have hres:Hid (mayJ js ps left e k=false):=by
      unfold Hid;rw[HM.out];have:ps.any (holdsN js left k)=true:=List.any_eq_true.2 ⟨p,by rw[←HPi.out];exact psk_mem hlt,hh⟩;rw[this];rfl
     clear hh HM HN;go_wp2_with fail;go_ret;exact⟨by rw[hres.out];rfl,HF1.out⟩
    | false=>
     have HN2:Hid (∀q,q<i+1->holdsN js left k (psk ps q)=false):=fun q hq=>by
      rcases Nat.lt_or_ge q i with h5|h5
      .exact HN.out q h5
      .have:q=i:=by omega
       subst this;rw[HPi.out];exact hh
     clear hh HN;go_wp2_with fail;go_roundw
     case rel=>exact⟨i+1,by omega,by go_num,HF1.out,HN2.out⟩
     case measure=>simp[intOf];omega
   .have hlt':¬(i:Int)<ps.length:=by omega
    have hres:Hid (mayJ js ps left e k=true):=by
     unfold Hid;rw[HM.out];have:ps.any (holdsN js left k)=false:=by
      rw[←Bool.not_eq_true,List.any_eq_true];rintro ⟨p,hp,h5⟩;obtain⟨q,hq,rfl⟩:=mem_psk hp;rw[HN.out q (by omega)]at h5;simp at h5
     rw[this];rfl
    clear HN HM;go_wp2_with fail;go_ret;exact⟨by rw[hres.out];rfl,HF.out⟩
 .rw[decide_eq_false hd,Bool.false_and]at HM;have hd':((jk js k).dl:Int)<e:=by omega
  clear hd;go_enter Tryz.func195,Tryz.ntmps195;go_wp2_with fail;go_ret;exact⟨by rw[HM.out];rfl,Frm.refl _ _⟩
structure Low (base P M:Nat) (es:List (UInt8×Value)) (js:List Jb) (bl:Nat->Nat) (pa:Option Addr):Prop where
 p:P<base
 m:M<base/\M≠P
 e:∀x∈es,∀b,x.2.ownBlock=some b->b<base/\b≠P
 j:∀k,k<js.length->bl k<base/\bl k≠P
 g:∀gp,pa=some ⟨gp,0,none⟩->gp<base/\gp≠P/\∀k,k<js.length->gp≠bl k
 inj:∀i k,i<js.length->k<js.length->bl i=bl k->i=k
structure FrB (base P:Nat) (w w':World):Prop where
 os:w'.os=w.os
 tape:w'.tape=w.tape
 output:w'.output=w.output
 size:w.heap.size<=w'.heap.size
 block:∀i,i<w.heap.size->i≠P->(base<=i->∀c fr,w.heap[i]? ≠ some (.cells c 226 fr))->w'.heap[i]? =w.heap[i]?
theorem FrB.refl (base P:Nat)(w:World):FrB base P w w:=⟨rfl,rfl,rfl,Nat.le_refl _,fun _ _ _ _=>rfl⟩
theorem FrB.trans {base P:Nat}{a b c:World}(h:FrB base P a b)(k:FrB base P b c):FrB base P a c:=
 ⟨k.os.trans h.os,k.tape.trans h.tape,k.output.trans h.output,Nat.le_trans h.size k.size,fun i hi hP hx=>by
  have e:=h.block i hi hP hx;rw[k.block i (Nat.lt_of_lt_of_le hi h.size) hP (fun hb c fr=>by rw[e];exact hx hb c fr),e]⟩
theorem FrB.of {base P:Nat}{X:Nat->Prop}{w w':World}(h:Frm X w w')(hx:∀k,X k->k=P\/(base<=k/\∃c fr,w.heap[k]? =some (.cells c 226 fr))):FrB base P w w':=
 ⟨h.os,h.tape,h.output,h.size,fun i hi hP ht=>h.block i hi (fun hX=>by
  rcases hx i hX with e|⟨e1,c,fr,e2⟩
  .exact hP e
  .exact ht e1 c fr e2)⟩
theorem FrB.frm {base P:Nat}{w w':World}(h:FrB base P w w'):Frm (fun i=>i=P\/base<=i) w w':=
 ⟨h.os,h.tape,h.output,h.size,fun i hi hX=>h.block i hi (fun e=>hX (.inl e)) (fun hb=>absurd (.inr hb) hX)⟩
theorem own_typed {w:World}{base:Nat}{u:Value}{bl:Nat->Nat}{T:List Nat}(h:RowJ w base u bl T){b:Nat}(hb:u.ownBlock=some b):base<=b/\∃c fr,w.heap[b]? =some (.cells c 226 fr):=by
 rcases h.2 with⟨rfl,_⟩|⟨g,cap,cur,rfl,h4,h5,h6⟩
 .simp[Value.ownBlock]at hb
 .simp[Value.ownBlock]at hb;subst hb;exact⟨h4,_,_,h5⟩
structure PlS (js:List Jb) (cyc:Nat) (ps:List Pr) (bl left:Nat->Nat) (P M:Nat) (es:List (UInt8×Value)) (pa:Option Addr) (pc:Nat) (c2:Value) (base:Nat) (v:Value) (L:List Nat) (w:World):Prop where
 hp:HpW P (.slice pa ps.length pc) (.map (some M)) c2 v base bl L w
 jobs:JobsAt js bl left w
 map:MapAt js bl M es w
 prs:PairsAt w pa ps
 heap:Hp (keyJ js) L L.length
 low:Low base P M es js bl pa
 bas:base<=w.heap.size
 mem:∀x∈L,x<js.length
 jok:JsOk js cyc
 pok:PsOk js es ps
 pl:ps.length<=6
theorem Stp.frB {P:Nat}{v v':Value}{base:Nat}{bl:Nat->Nat}{L:List Nat}{w w':World}(h:Stp P v v' w w')(ho:RowJ w base v bl L):FrB base P w w':=
 FrB.of h.f (fun k hx=>by
  rcases hx with e|e
  .exact .inl e
  .exact .inr (own_typed ho e))
section
variable {js:List Jb} {cyc:Nat} {ps:List Pr} {bl left:Nat->Nat} {P M:Nat} {es:List (UInt8×Value)} {pa:Option Addr} {pc:Nat} {c2:Value} {base:Nat} {v:Value} {L:List Nat} {w:World}
theorem PlS.next (h:PlS js cyc ps bl left P M es pa pc c2 base v L w){w':World}{v':Value}{L':List Nat}(hf:Frm (fun i=>i=P\/base<=i) w w')(hh:HpW P (.slice pa ps.length pc) (.map (some M)) c2 v' base bl L' w')(hp':Hp (keyJ js) L' L'.length)(hm':∀x∈L',x<js.length):PlS js cyc ps bl left P M es pa pc c2 base v' L' w':=
 ⟨hh,h.jobs.keep hf (fun k hk hx=>by have:=h.low.j k hk;omega),h.map.keep hf (fun hx=>by have:=h.low.m;omega) (fun x hx b hb hX=>by have:=h.low.e x hx b hb;omega),h.prs.keep hf (fun gp hg hX=>by have:=(h.low.g gp hg).1;have:=(h.low.g gp hg).2.1;omega),hp',h.low,Nat.le_trans h.bas hf.size,hm',h.jok,h.pok,h.pl⟩
theorem PlS.r (h:PlS js cyc ps bl left P M es pa pc c2 base v L w):PlR js bl left P M es (.slice pa ps.length pc) c2 v w:=⟨h.hp.blk,h.jobs,h.map⟩
theorem RowJ.frm {X:Nat->Prop}{b0:Nat}{u:Value}{T:List Nat}{w':World}(h:RowJ w b0 u bl T)(hf:Frm X w w')(hx:∀b,u.ownBlock=some b->¬X b):RowJ w' b0 u bl T:=by
 refine⟨h.1,?_⟩;rcases h.2 with h3|⟨g,cap,cur,h3,h4,h5,h6⟩
 .exact .inl h3
 .exact .inr ⟨g,cap,cur,h3,h4,hf.blk h5 (hx g (by rw[h3];rfl)),h6⟩
theorem PlS.quiet (h:PlS js cyc ps bl left P M es pa pc c2 base v L w){X:Nat->Prop}{w':World}(hf:Frm X w w')(hx:∀b,X b->base<=b/\v.ownBlock≠some b):PlS js cyc ps bl left P M es pa pc c2 base v L w':=by
 refine h.next (hf.wide (fun k _ hk=>.inr (hx k hk).1)) ⟨hf.blk h.hp.blk (fun hP=>by have:=(hx P hP).1;have:=h.low.p;omega),h.hp.own.frm hf (fun b hb hX=>(hx b hX).2 hb)⟩ h.heap h.mem
end
def ptrO (bl:Nat->Nat) (o:Option Nat):Value:=match o with
 | none=>.pointer none
 | some k=>.pointer (some ⟨bl k,0,none⟩)
def TNOut (js:List Jb) (cyc:Nat) (ps:List Pr) (bl left:Nat->Nat) (P M:Nat) (es:List (UInt8×Value)) (pa:Option Addr) (pc:Nat) (c2:Value) (base:Nat) (L:List Nat) (e:Nat) (w:World) (en:Ending) (w':World):Prop:=
 ∃o L' v',en=.returned (ptrO bl o)/\PlS js cyc ps bl left P M es pa pc c2 base v' L' w'/\FrB base P w w'/\L.Perm (o.toList++L')/\(o=none->∀x∈L,mayJ js ps left e x=false)/\∀k,o=some k->mayJ js ps left e k=true/\∀x∈L,mayJ js ps left e x=true->keyJ js k<=keyJ js x
theorem takeNext_any (js:List Jb)(cyc:Nat)(ps:List Pr)(bl left:Nat->Nat)(P M:Nat)(es:List (UInt8×Value))(pa:Option Addr)(pc:Nat)(c2:Value)(base:Nat)(v:Value)(L:List Nat)(w:World)(h:PlS js cyc ps bl left P M es pa pc c2 base v L w)(hn:L.length<=1000)(e:Nat):
  Calls Tryz.prog 175 #[.pointer (some ⟨P,0,none⟩),.int .i64 e] w (TNOut js cyc ps bl left P M es pa pc c2 base L e w):=by
 obtain⟨i0,hi,hz0,hz1,hz2⟩:=info_parts Tryz.infoJP;have H:=hide h;clear h;go_enter Tryz.func175,Tryz.ntmps175;go_wp2_with fail
 go_loopw [5,6] (fun nx wt wr=>∃(o:Option Nat) (Wt L1:List Nat) (v1:Value),nx=ptrO bl o/\PlS js cyc ps bl left P M es pa pc c2 base v1 L1 wr/\RowJ wr base wt bl Wt/\(∀b,wt.ownBlock=some b->v1.ownBlock≠some b)/\L.Perm (o.toList++(Wt++L1))/\(∀x∈Wt,mayJ js ps left e x=false)/\(∀k,o=some k->mayJ js ps left e k=true/\∀x∈L1,keyJ js k<=keyJ js x)/\FrB base P w wr) (fun _ _ wr=>lenOf (wr.cell? ⟨P,3,none⟩))
 case atStart=>exact⟨none,[],L,v,rfl,H.out,World.ownsRow_nil _ _ _ _,(fun b hb=>by simp[Value.ownBlock]at hb),List.Perm.refl _,(fun x hx=>by simp at hx),(fun k hk=>by simp at hk),FrB.refl _ _ _⟩
 case round=>
  obtain⟨o,Wt,L1,v1,rfl,h1,hw1,hap,hperm,hmw,hmo,hf⟩:=hrel;have hlen:o.toList.length+(Wt.length+L1.length)=L.length:=by
   have:=hperm.length_eq;rw[List.length_append,List.length_append]at this;exact this.symm
  obtain⟨va,vcap,hv1,_,_⟩:=h1.hp.own.len;subst hv1;obtain⟨wa,wcap,hwt,_,_⟩:=hw1.len;subst hwt;have c3:=h1.hp.cell;have HL3:Hid (lenOf (wr.cell? ⟨P,3,none⟩)=L1.length):=by unfold Hid;rw[c3];rfl
  by_cases hgo:o=none/\0<L1.length
  .obtain⟨rfl,h0⟩:=hgo;have h0':(0:Int)<L1.length:=by omega
   unfold ptrO;have CP:=hide (pop_any js left P _ _ c2 _ base bl L1 wr h1.hp h1.jobs h1.mem h1.jok.low (by omega) h0);have POK:=hide (pop_ok h1.heap h0);have H1:=hide h1;have HW1:=hide hw1;have Hap:=hide hap;have Hpm:=hide hperm;have Hmw:=hide hmw;have Hf:=hide hf;clear h1 hw1 hap hperm hmw hmo hf;have hta:=assert_job (some ⟨bl (gd L1 0),0,none⟩);go_wp2_with fail;refine(hlen_any va L1.length vcap wr).mono ?_;rintro en w' ⟨rfl,hw'⟩;replace hw':=hw'.symm;subst hw';go_wp2_with fail;refine CP.out.mono ?_;rintro en w2 ⟨rfl,v2,hh2,s2,o2⟩;obtain⟨q1,q2,q3,q4⟩:=POK.out;have hx0:gd L1 0<js.length:=H1.out.mem _ (gd_mem h0);have hf2:=s2.frB H1.out.hp.own;have H2:=hide (H1.out.next hf2.frm hh2 q3 (fun x hx=>H1.out.mem x (q2.mem_iff.2 (by simp[hx]))));have HF2:=hide (Hf.out.trans hf2);have HW2:=hide (HW1.out.frm s2.f (fun b hb hX=>by
    rcases hX with e1|e1
    .have h5:=(HW1.out.lt b hb).1;have:=H1.out.low.p;omega
    .exact Hap.out b hb e1))
   have Hap2:Hid (∀b,(Value.slice wa Wt.length wcap).ownBlock=some b->v2.ownBlock≠some b):=fun b hb=>by
    rw[o2];exact Hap.out b hb
   have Hpm2:Hid (L.Perm (gd L1 0::(Wt++popP (keyJ js) L1))):=by
    refine Hpm.out.trans ?_;show (Wt++L1).Perm _;refine(List.Perm.append_left Wt q2).trans ?_;exact List.perm_middle
   have Hle:Hid (∀x∈popP (keyJ js) L1,keyJ js (gd L1 0)<=keyJ js x):=fun x hx=>q1 x (q2.mem_iff.2 (by simp[hx]));have Hln2:Hid ((popP (keyJ js) L1).length+1=L1.length):=by
    unfold Hid;omega
   have CM:=hide (mayRun_any js cyc H2.out.jok bl left P M es ps H2.out.pok pa pc c2 v2 w2 H2.out.r H2.out.prs H2.out.pl (gd L1 0) hx0 e);clear hh2 s2 o2 q1 q2 q3 q4 hf2 CP POK H1 HW1 Hap Hpm Hf c3;generalize popP (keyJ js) L1=L2 at *;generalize gd L1 0=x at *;go_wp2_with fail;refine CM.out.mono ?_;rintro en w3 ⟨rfl,hf3⟩;have H3:=hide (H2.out.quiet hf3 (fun b hb=>hb.elim));have HF3:=hide (HF2.out.trans (FrB.of hf3 (fun k hx=>hx.elim)));have HW3:=hide (HW2.out.frm hf3 (fun b _ hx=>hx));clear hf3 CM H2 HF2 HW2;obtain⟨va3,vcap3,hv3,_,_⟩:=H3.out.hp.own.len;subst hv3;have HL4:Hid (∀W:World,HpW P (.slice pa ps.length pc) (.map (some M)) c2 (.slice va3 L2.length vcap3) base bl L2 W->lenOf (W.cell? ⟨P,3,none⟩)=L2.length):=fun W hW=>by rw[hW.cell];rfl
   cases hm:mayJ js ps left e x with
   | true=>
    have Hm:=hide hm;clear hm;go_wp2_with fail;go_roundw
    case rel=>exact⟨some x,Wt,L2,_,rfl,H3.out,HW3.out,Hap2.out,Hpm2.out,Hmw.out,(fun k hk=>by injection hk with hk;subst hk;exact⟨Hm.out,Hle.out⟩),HF3.out⟩
    case measure=>rw[HL3.out,HL4.out _ H3.out.hp];have:=Hln2.out;omega
   | false=>
    have Hm:=hide hm;have hbs:=H3.out.bas;have ow:=HW3.out;clear hm;go_wp2_with (at_builtin;refine Go.wpList_append_own_at _ rfl _ _ 218 rfl base 226 i0 _ 1 8 Tryz.underlying218 hi hz0 hz1 hz2 rfl (by decide) _ _ _ rfl (ow.alloc _) ⟨w3.heap.size,0,none⟩ 1 1 [.pointer (some ⟨bl x,0,none⟩)] rfl rfl ?c1 ?c2 ?c3 ?c4 ?c5 ?_)
    case c1=>exact cells_new w3 #[_] _ _ rfl
    case c2=>simp[Value.oneCell']
    case c3=>unfold maxLen;omega
    case c4=>omega
    case c5=>simp;omega
    intro v4 w4 hown4 hgr4 _ hloc4;have hf4:Frm (fun b=>(Value.slice wa Wt.length wcap).ownBlock=some b) w3 w4:=((Frm.refl _ w3).alloc _).grown hgr4 (fun k hk _=>hk);have H4:=hide (H3.out.quiet hf4 (fun b hb=>⟨(HW3.out.lt b hb).1,Hap2.out b hb⟩));have HF4:=hide (HF3.out.trans (FrB.of hf4 (fun k hx=>.inr (own_typed HW3.out hx))));have HW4:Hid (RowJ w4 base v4 bl (Wt++[x])):=by
     unfold Hid RowJ;rw[List.length_append,show ptV bl (Wt++[x])=ptV bl Wt++[.pointer (some ⟨bl x,0,none⟩)] by simp[ptV]];exact hown4
    have Hap4:Hid (∀b,v4.ownBlock=some b->(Value.slice va3 L2.length vcap3).ownBlock≠some b):=fun b hb hvb=>by
     rcases hloc4 with e4|e4
     .exact Hap2.out b (e4▸hb) hvb
     .rw[e4]at hb;injection hb with hb;have h5:=(H3.out.hp.own.lt b hvb).2;have h6:w3.heap.size<=b:=by
       rw[←hb]
       first|exact Nat.le_refl _|exact Nat.le_succ _|simp
      omega
    have Hpm4:Hid (L.Perm ((none:Option Nat).toList++((Wt++[x])++L2))):=by
     refine Hpm2.out.trans ?_;show List.Perm _ ([]++((Wt++[x])++L2));rw[List.nil_append,List.append_assoc];exact List.perm_middle.symm
    have Hmw4:Hid (∀y∈Wt++[x],mayJ js ps left e y=false):=fun y hy=>by
     rcases List.mem_append.1 hy with hy|hy
     .exact Hmw.out y hy
     .simp at hy;subst hy;exact Hm.out
    clear hf4 hown4 hgr4 hloc4 H3 HF3 HW3 Hap2 Hpm2 ow;go_wp2_with fail;go_roundw
    case rel=>exact⟨none,Wt++[x],L2,_,rfl,H4.out,HW4.out,Hap4.out,Hpm4.out,Hmw4.out,(fun k hk=>by simp at hk),HF4.out⟩
    case measure=>rw[HL3.out,HL4.out _ H4.out.hp];have:=Hln2.out;omega
  .have HRes:Hid ((o=none->∀x∈L,mayJ js ps left e x=false)/\∀k,o=some k->mayJ js ps left e k=true/\∀x∈L,mayJ js ps left e x=true->keyJ js k<=keyJ js x):=by
    refine⟨fun ho x hx=>?_,fun k hk=>⟨(hmo k hk).1,fun x hx hm=>?_⟩⟩
    .subst ho;have h0:L1=[]:=List.length_eq_zero_iff.1 (by
      have:¬0<L1.length:=fun h=>hgo ⟨rfl,h⟩;omega)
     subst h0;have:=hperm.mem_iff.1 hx;simp at this;exact hmw x this
    .subst hk;have:=hperm.mem_iff.1 hx;simp at this;rcases this with rfl|hx2|hx2
     .exact Nat.le_refl _
     .rw[hmw x hx2]at hm;simp at hm
     .exact(hmo k rfl).2 x hx2
   have H1:=hide h1;have HW1:=hide hw1;have Hap:=hide hap;have Hpm:=hide hperm;have Hf:=hide hf;have hcase:(∃k,o=some k)\/(o=none/\L1.length=0):=by
    cases o with
    | some k=>exact .inl ⟨k,rfl⟩
    | none=>
     right;refine⟨rfl,?_⟩;have:¬0<L1.length:=fun h=>hgo ⟨rfl,h⟩;omega
   clear h1 hw1 hap hperm hmw hmo hf hgo;have Hcell:=hide HW1.out.cells;have hpt:∃pv:Option Addr,ptrO bl o=.pointer pv/\(pv.isSome=true\/(pv=none/\L1.length=0)):=by
    rcases hcase with⟨k0,rfl⟩|⟨rfl,hz⟩
    .exact⟨_,rfl,.inl rfl⟩
    .exact⟨_,rfl,.inr ⟨rfl,hz⟩⟩
   clear hcase;obtain⟨pv,hpv,hpc⟩:=hpt;rw[hpv];have Hpv:=hide hpv;clear hpv;rcases hpc with hpc|⟨rfl,hz⟩
   .obtain⟨ad,rfl⟩:=Option.isSome_iff_exists.1 hpc;clear hpc;go_wp2_with fail
    go_loopw [37] (fun iv wr2=>∃(i:Nat) (L2:List Nat) (v2:Value),i<=Wt.length/\iv=.int .i64 i/\PlS js cyc ps bl left P M es pa pc c2 base v2 L2 wr2/\RowJ wr2 base (.slice wa Wt.length wcap) bl Wt/\(∀b,(Value.slice wa Wt.length wcap).ownBlock=some b->v2.ownBlock≠some b)/\L2.Perm (L1++Wt.take i)/\FrB base P w wr2) (fun iv _=>Wt.length-(intOf iv).toNat)
    case atStart=>exact⟨0,L1,_,by omega,rfl,H1.out,HW1.out,Hap.out,by simp,Hf.out⟩
    case round=>
     obtain⟨i,L2,v2,hi2,rfl,h2,hw2,hap2,hp2,hf2⟩:=hrel;have hl2:=hp2.length_eq;rw[List.length_append,List.length_take]at hl2;by_cases hlt:i<Wt.length
     .have hlt':(i:Int)<Wt.length:=by omega
      obtain⟨g2,cap2,cur2,hv2,_,hg2,_,_,_,hcl⟩:=hw2.form (by omega);injection hv2 with e1 e2 e3;subst e1;subst e3;clear e2;have cw:wr.cell? ⟨g2,i,none⟩=some (.pointer (some ⟨bl (gd Wt i),0,none⟩)):=by rw[zC hg2];exact hcl i hlt
      have hxm:gd Wt i<js.length:=by
       have h6:gd Wt i∈L:=Hpm.out.mem_iff.2 (by simp[gd_mem hlt]);exact H.out.mem _ h6
      have CP:=hide (push_any js left P _ _ c2 v2 base bl L2 wr h2.hp h2.jobs h2.mem h2.jok.low (by omega) h2.bas (gd Wt i) hxm h2.heap);have Htk:Hid (Wt.take (i+1)=Wt.take i++[gd Wt i]):=by
       unfold Hid;rw[List.take_succ_eq_append_getElem hlt,gd_get hlt]
      have H2:=hide h2;have HW2:=hide hw2;have Hap2:=hide hap2;have Hp2:=hide hp2;have Hf2:=hide hf2;clear h2 hw2 hap2 hp2 hf2 hl2 hg2 hcl;generalize gd Wt i=x at *;go_wp2_with fail;refine CP.out.mono ?_;rintro en w3 ⟨rfl,v3,L3,hh3,s3,hp3,hhp3⟩;have hf3:=s3.frB H2.out.hp.own;have H3:=hide (H2.out.next hf3.frm hh3 hhp3 (fun y hy=>by
       have:=hp3.mem_iff.1 hy;simp at this;rcases this with h5|h5
       .exact H2.out.mem y h5
       .rw[h5];exact hxm))
      have HF3:=hide (Hf2.out.trans hf3);have HW3:=hide (HW2.out.frm s3.f (fun b hb hX=>by
       rcases hX with e1|e1
       .have h5:=(HW2.out.lt b hb).1;have:=H2.out.low.p;omega
       .exact Hap2.out b hb e1))
      have Hap3:Hid (∀b,(Value.slice (some ⟨g2,0,none⟩) Wt.length wcap).ownBlock=some b->v3.ownBlock≠some b):=fun b hb hvb=>by
       rcases s3.at_ with e4|⟨b',e4,hb'⟩
       .exact Hap2.out b hb (e4▸hvb)
       .rw[e4]at hvb;injection hvb with hvb;have:=(HW2.out.lt b hb).2;omega
      have Hp3:Hid (L3.Perm (L1++Wt.take (i+1))):=by
       unfold Hid;rw[Htk.out,←List.append_assoc];exact hp3.trans (List.Perm.append_right _ Hp2.out)
      clear hh3 s3 hp3 hhp3 hf3 H2 HW2 Hap2 Hp2 Hf2 CP cw;go_wp2_with fail;go_roundw
      case rel=>exact⟨i+1,L3,v3,by omega,by go_num,H3.out,HW3.out,Hap3.out,Hp3.out,HF3.out⟩
      case measure=>simp[intOf];omega
     .have hlt':¬(i:Int)<Wt.length:=by omega
      have HFin:Hid (L.Perm (o.toList++L2)):=by
       have h5:Wt.take i=Wt:=List.take_of_length_le (by omega);rw[h5]at hp2;exact Hpm.out.trans (List.Perm.append_left _ (List.perm_append_comm.trans hp2.symm))
      have H2:=hide h2;have Hf2:=hide hf2;clear h2 hw2 hap2 hp2 hf2 hl2;go_wp2_with fail;go_ret;exact⟨o,L2,v2,by rw[Hpv.out];rfl,H2.out,Hf2.out,HFin.out,HRes.out.1,HRes.out.2⟩
   .have hz':¬(0:Int)<L1.length:=by omega
    have Hz:=hide hz;clear hz;go_wp2_with fail;refine(hlen_any va L1.length vcap wr).mono ?_;rintro en w' ⟨rfl,hw'⟩;replace hw':=hw'.symm;subst hw';go_wp2_with fail;have hdz:decide (0<L1.length)=false:=decide_eq_false (by have:=Hz.out;omega);simp only[hdz];clear hz' hdz
    go_loopw [37] (fun iv wr2=>∃(i:Nat) (L2:List Nat) (v2:Value),i<=Wt.length/\iv=.int .i64 i/\PlS js cyc ps bl left P M es pa pc c2 base v2 L2 wr2/\RowJ wr2 base (.slice wa Wt.length wcap) bl Wt/\(∀b,(Value.slice wa Wt.length wcap).ownBlock=some b->v2.ownBlock≠some b)/\L2.Perm (L1++Wt.take i)/\FrB base P w wr2) (fun iv _=>Wt.length-(intOf iv).toNat)
    case atStart=>exact⟨0,L1,_,by omega,rfl,H1.out,HW1.out,Hap.out,by simp,Hf.out⟩
    case round=>
     obtain⟨i,L2,v2,hi2,rfl,h2,hw2,hap2,hp2,hf2⟩:=hrel;have hl2:=hp2.length_eq;rw[List.length_append,List.length_take]at hl2;by_cases hlt:i<Wt.length
     .have hlt':(i:Int)<Wt.length:=by omega
      obtain⟨g2,cap2,cur2,hv2,_,hg2,_,_,_,hcl⟩:=hw2.form (by omega);injection hv2 with e1 e2 e3;subst e1;subst e3;clear e2;have cw:wr.cell? ⟨g2,i,none⟩=some (.pointer (some ⟨bl (gd Wt i),0,none⟩)):=by rw[zC hg2];exact hcl i hlt
      have hxm:gd Wt i<js.length:=by
       have h6:gd Wt i∈L:=Hpm.out.mem_iff.2 (by simp[gd_mem hlt]);exact H.out.mem _ h6
      have CP:=hide (push_any js left P _ _ c2 v2 base bl L2 wr h2.hp h2.jobs h2.mem h2.jok.low (by omega) h2.bas (gd Wt i) hxm h2.heap);have Htk:Hid (Wt.take (i+1)=Wt.take i++[gd Wt i]):=by
       unfold Hid;rw[List.take_succ_eq_append_getElem hlt,gd_get hlt]
      have H2:=hide h2;have HW2:=hide hw2;have Hap2:=hide hap2;have Hp2:=hide hp2;have Hf2:=hide hf2;clear h2 hw2 hap2 hp2 hf2 hl2 hg2 hcl;generalize gd Wt i=x at *;go_wp2_with fail;refine CP.out.mono ?_;rintro en w3 ⟨rfl,v3,L3,hh3,s3,hp3,hhp3⟩;have hf3:=s3.frB H2.out.hp.own;have H3:=hide (H2.out.next hf3.frm hh3 hhp3 (fun y hy=>by
       have:=hp3.mem_iff.1 hy;simp at this;rcases this with h5|h5
       .exact H2.out.mem y h5
       .rw[h5];exact hxm))
      have HF3:=hide (Hf2.out.trans hf3);have HW3:=hide (HW2.out.frm s3.f (fun b hb hX=>by
       rcases hX with e1|e1
       .have h5:=(HW2.out.lt b hb).1;have:=H2.out.low.p;omega
       .exact Hap2.out b hb e1))
      have Hap3:Hid (∀b,(Value.slice (some ⟨g2,0,none⟩) Wt.length wcap).ownBlock=some b->v3.ownBlock≠some b):=fun b hb hvb=>by
       rcases s3.at_ with e4|⟨b',e4,hb'⟩
       .exact Hap2.out b hb (e4▸hvb)
       .rw[e4]at hvb;injection hvb with hvb;have:=(HW2.out.lt b hb).2;omega
      have Hp3:Hid (L3.Perm (L1++Wt.take (i+1))):=by
       unfold Hid;rw[Htk.out,←List.append_assoc];exact hp3.trans (List.Perm.append_right _ Hp2.out)
      clear hh3 s3 hp3 hhp3 hf3 H2 HW2 Hap2 Hp2 Hf2 CP cw;go_wp2_with fail;go_roundw
      case rel=>exact⟨i+1,L3,v3,by omega,by go_num,H3.out,HW3.out,Hap3.out,Hp3.out,HF3.out⟩
      case measure=>simp[intOf];omega
     .have hlt':¬(i:Int)<Wt.length:=by omega
      have HFin:Hid (L.Perm (o.toList++L2)):=by
       have h5:Wt.take i=Wt:=List.take_of_length_le (by omega);rw[h5]at hp2;exact Hpm.out.trans (List.Perm.append_left _ (List.perm_append_comm.trans hp2.symm))
      have H2:=hide h2;have Hf2:=hide hf2;clear h2 hw2 hap2 hp2 hf2 hl2;go_wp2_with fail;go_ret;exact⟨o,L2,v2,by rw[Hpv.out];rfl,H2.out,Hf2.out,HFin.out,HRes.out.1,HRes.out.2⟩
end
end Go.Proofs.YtbdffcjganlblaaGreatDoor
