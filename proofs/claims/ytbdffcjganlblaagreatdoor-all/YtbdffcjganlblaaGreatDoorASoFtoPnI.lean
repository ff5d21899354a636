import Derived.Test.YtbdffcjganlblaaGreatDoorASoDtoSoB
import Derived.Test.YtbdffcjganlblaaGreatDoorAPnFtoSoC
import Derived.Test.YtbdffcjganlblaaGreatDoorAProgItoRnA
set_option linter.unusedVariables false
set_option linter.unusedSimpArgs false
set_option maxRecDepth 100000
set_option maxHeartbeats 16000000
namespace Go.Proofs.YtbdffcjganlblaaGreatDoor
section
open Go.RowKit
def SrtB (key:Nat->Nat) (L:List Nat) (bs lo hi:Nat):Prop:=∀i,lo<=i->i+1<hi->(i+1)%bs≠0->key (gd L i)<=key (gd L (i+1))
theorem mod_in {a bs x:Nat}(h:a%bs=0)(h1:a<x)(h2:x<a+bs):x%bs≠0:=by
 obtain⟨d,rfl⟩:∃d,x=a+d:=⟨x-a,by omega⟩;rw[Nat.add_mod,h,Nat.zero_add,Nat.mod_mod,Nat.mod_eq_of_lt (by omega)];omega
section
variable {key:Nat->Nat} {L L':List Nat} {bs a b n:Nat}
theorem SrtB.block {lo hi:Nat}(h:SrtB key L bs lo hi)(ha:a%bs=0)(hlo:lo<=a)(hb:b<=hi)(hab:b<=a+bs):Srt key L a b:=fun i h1 h2=>h i (by omega) (by omega) (mod_in ha (by omega) (by omega))
theorem SrtB.more (h:SrtB key L bs 0 a)(ha:a%bs=0)(hs:Srt key L a b):SrtB key L bs 0 b:=fun i h1 h2 h3=>by
 rcases Nat.lt_trichotomy (i+1) a with h4|h4|h4
 .exact h i h1 h4 h3
 .rw[h4]at h3;exact absurd ha h3
 .exact hs i (by omega) h2
theorem SrtB.same {lo hi:Nat}(h:SrtB key L bs lo hi)(e:∀i,lo<=i->i<hi->gd L' i=gd L i):SrtB key L' bs lo hi:=fun i h1 h2 h3=>by
 rw[e i h1 (by omega),e (i+1) (by omega) h2];exact h i h1 h2 h3
theorem SrtB.sub {lo hi lo' hi':Nat}(h:SrtB key L bs lo hi)(h1:lo<=lo')(h2:hi'<=hi):SrtB key L bs lo' hi':=fun i a1 a2 a3=>h i (by omega) (by omega) a3
end
structure BlkW (js:List Jb) (bl left:Nat->Nat) (L:List Nat) (base:Nat) (v:Value) (b1 b2 a:Nat) (w:World) (L':List Nat) (wr:World):Prop where
 row:RowJ wr base v bl L'
 mov:Mov L L' 0 L.length
 s1:SrtB (relK js) L' b2 0 a
 s2:SrtB (relK js) L' b1 a L.length
 f:Frm (fun k=>v.ownBlock=some k) w wr
section
variable {js:List Jb} {bl left:Nat->Nat} {L:List Nat} {base:Nat} {v:Value} {b1 b2 a b:Nat} {w:World} {L':List Nat} {wr:World}
theorem BlkW.step (h:BlkW js bl left L base v b1 b2 a w L' wr)(ha:a%b2=0)(hab:a<=b)(hb:b<=L.length){L2:List Nat}{w2:World}(ho:MrgOut js bl L' base v a b L2 wr w2):BlkW js bl left L base v b1 b2 b w L2 w2:=by
 have hl:=h.mov.len;refine⟨ho.row,h.mov.trans (ho.mov.wide (Nat.zero_le _) hb),?_,?_,h.f.trans ho.f⟩
 .exact(h.s1.same (fun i _ h2=>ho.mov.out i (.inl h2))).more ha ho.srt
 .exact(h.s2.sub hab (Nat.le_refl _)).same (fun i h1 _=>ho.mov.out i (.inr h1))
theorem BlkW.jobs (h:BlkW js bl left L base v b1 b2 a w L' wr)(hj:JobsAt js bl left w)(hv:RowJ w base v bl L):JobsAt js bl left wr:=
 hj.keep h.f (fun k hk e=>by
  obtain⟨_,c,fr,e'⟩:=row_typed hv e;rw[hj k hk]at e';simp at e')
theorem BlkW.mem (h:BlkW js bl left L base v b1 b2 a w L' wr)(hL:∀x∈L,x<js.length):∀x∈L',x<js.length:=fun x hx=>hL x (h.mov.perm.mem_iff.1 hx)
end
theorem stable_any (js:List Jb)(bl left:Nat->Nat)(L:List Nat)(base:Nat)(v:Value)(w:World)(hv:RowJ w base v bl L)(hj:JobsAt js bl left w)(hL:∀x∈L,x<js.length)(hn:L.length<=100000):
  Calls Tryz.prog 201 #[v,.int .i64 L.length,cmpF] w fun e w'=>e=.returned (.tuple #[])/\(∃L',Sorted js L L'/\RowJ w' base v bl L')/\Frm (fun k=>v.ownBlock=some k) w w':=by
 have CI:Hid (∀(b1 b2 a b:Nat) (L':List Nat) (wr:World) (A B:Int),BlkW js bl left L base v b1 b2 a w L' wr->A=a->B=b->a%b2=0->a<=b->b<=L.length->Calls Tryz.prog 207 #[v,.int .i64 A,.int .i64 B,cmpF] wr fun e w'=>e=.returned (.tuple #[])/\∃L2,BlkW js bl left L base v b1 b2 b w L2 w'):=fun b1 b2 a b L' wr A B h e1 e2 ha hab hb=>by
  subst e1 e2;have hl:=h.mov.len;refine(insSort_any js bl left L' base v wr h.row (h.jobs hj hv) (h.mem hL) a b hab (by omega) (by omega)).mono ?_;rintro e w' ⟨rfl,ho,hf⟩;obtain⟨s1,s2⟩:=insS_all (relK js) L' hab (by omega);exact⟨rfl,_,h.step ha hab hb ⟨ho,s1,s2,hf⟩⟩
 have CM:Hid (∀(b1 b2 a m b:Nat) (L':List Nat) (wr:World) (A M B:Int),BlkW js bl left L base v b1 b2 a w L' wr->A=a->M=m->B=b->a%b2=0->a%b1=0->m=a+b1->m<b->0<b1->b<=m+b1->b<=L.length->Calls Tryz.prog symF #[v,.int .i64 A,.int .i64 M,.int .i64 B,cmpF] wr fun e w'=>e=.returned (.tuple #[])/\∃L2,BlkW js bl left L base v b1 b2 b w L2 w'):=fun b1 b2 a m b L' wr A M B h e1 e2 e3 ha ha1 hm hmb h0 hb1 hb=>by
  subst e1 e2 e3;have hl:=h.mov.len;refine(sym_any js bl left base v (b-a) L' a m b wr h.row (h.jobs hj hv) (h.mem hL) (by omega) hmb (by omega) (by omega) (h.s2.block ha1 (Nat.le_refl _) (by omega) (by omega)) (h.s2.block (by rw[hm,Nat.add_mod_right];exact ha1) (by omega) hb hb1) (Nat.le_refl _)).mono ?_;rintro e w' ⟨rfl,L2,ho⟩;exact⟨rfl,L2,h.step ha (by omega) hb ho⟩
 have H0:Hid (BlkW js bl left L base v 1 20 0 w L w):=⟨hv,Mov.refl _ _ _,fun i h1 h2=>by omega,fun i h1 h2 h3=>absurd (Nat.mod_one _) h3,Frm.refl _ _⟩;clear hv hj hL;go_enter Tryz.func201,Tryz.ntmps201;go_wp2_with fail
 go_loopw [7,8] (fun av bv wr=>∃(a:Nat) (L':List Nat),av=.int .i64 a/\bv=.int .i64 (a+20:Nat)/\a%20=0/\a<=L.length/\BlkW js bl left L base v 1 20 a w L' wr) (fun av _ _=>L.length-(intOf av).toNat)
 case atStart=>exact⟨0,L,rfl,rfl,rfl,Nat.zero_le _,H0.out⟩
 case round=>
  clear H0;obtain⟨a,L',rfl,rfl,ha,hal,hB⟩:=hrel;have HB:=hide hB;clear hB;by_cases hlt:a+20<=L.length
  .have hlt':((a+20:Nat):Int)<=L.length:=by omega
   have HA:=hide ha;clear ha;go_wp2_with fail;refine(CI.out 1 20 a (a+20) L' wr _ _ HB.out rfl rfl HA.out (by omega) hlt).mono ?_;rintro e w1 ⟨rfl,L2,hB2⟩;have HB2:=hide hB2;clear hB2 HB;go_wp2_with fail;go_roundw
   case rel=>exact⟨a+20,L2,rfl,by go_num,by have:=HA.out;omega,hlt,HB2.out⟩
   case measure=>simp[intOf];omega
  .have hlt':¬((a+20:Nat):Int)<=L.length:=by omega
   have HA:=hide ha;clear ha;go_wp2_with fail;refine(CI.out 1 20 a L.length L' wr _ _ HB.out rfl rfl HA.out hal (Nat.le_refl _)).mono ?_;rintro e w1 ⟨rfl,L2,hB2⟩;have HB2:=hide hB2;clear hB2 HB HA CI;go_wp2_with fail
   go_loopw [6] (fun sv wr=>∃(bs:Nat) (L':List Nat),sv=.int .i64 bs/\0<bs/\bs<=200000/\RowJ wr base v bl L'/\Mov L L' 0 L.length/\SrtB (relK js) L' bs 0 L.length/\Frm (fun k=>v.ownBlock=some k) w wr) (fun sv _=>L.length-(intOf sv).toNat)
   case atStart=>exact⟨20,L2,rfl,by omega,by omega,HB2.out.row,HB2.out.mov,HB2.out.s1,HB2.out.f⟩
   case round=>
    clear HB2;obtain⟨bs,L',rfl,hb0,hb2,hr,hm,hs,hf⟩:=hrel;by_cases hlt2:bs<L.length
    .have hlt2':(bs:Int)<L.length:=by omega
     have H1:Hid (BlkW js bl left L base v bs (2*bs) 0 w L' wr):=⟨hr,hm,fun i h1 h2=>by omega,hs,hf⟩;clear hr hm hs hf;go_wp2_with fail
     go_loopw [7,8] (fun av bv wr=>∃(a:Nat) (L':List Nat),av=.int .i64 a/\bv=.int .i64 (a+2*bs:Nat)/\a%(2*bs)=0/\a<=L.length/\BlkW js bl left L base v bs (2*bs) a w L' wr) (fun av _ _=>L.length-(intOf av).toNat)
     case atStart=>exact⟨0,L',rfl,by go_num,Nat.zero_mod _,Nat.zero_le _,H1.out⟩
     case round=>
      clear H1;obtain⟨a,L',rfl,rfl,ha,hal,hB⟩:=hrel;have HB:=hide hB;have HA:=hide ha;have HA1:Hid (a%bs=0):=by
       unfold Hid;have h1:=Nat.dvd_of_mod_eq_zero ha;exact Nat.mod_eq_zero_of_dvd (Nat.dvd_trans (Nat.dvd_mul_left bs 2) h1)
      clear hB ha;by_cases hlt3:a+2*bs<=L.length
      .have hlt3':((a+2*bs:Nat):Int)<=L.length:=by omega
       go_wp2_with fail;refine(CM.out bs (2*bs) a (a+bs) (a+2*bs) L' wr _ _ _ HB.out rfl (by go_num) rfl HA.out HA1.out rfl (by omega) hb0 (by omega) hlt3).mono ?_;rintro e w1 ⟨rfl,L2,hB2⟩;have HB2:=hide hB2;clear hB2 HB;go_wp2_with fail;go_roundw
       case rel=>exact⟨a+2*bs,L2,rfl,by go_num,by have:=HA.out;rw[Nat.add_mod_right];exact this,hlt3,HB2.out⟩
       case measure=>simp[intOf];omega
      .have hlt3':¬((a+2*bs:Nat):Int)<=L.length:=by omega
       by_cases hlt4:a+bs<L.length
       .have hlt4':(a:Int)+bs<L.length:=by omega
        go_wp2_with fail;refine(CM.out bs (2*bs) a (a+bs) L.length L' wr _ _ _ HB.out rfl (by go_num) rfl HA.out HA1.out rfl hlt4 hb0 (by omega) (Nat.le_refl _)).mono ?_;rintro e w1 ⟨rfl,L2,hB2⟩;have HB2:=hide hB2;clear hB2 HB;go_wp2_with fail;go_roundw
        case rel=>exact⟨2*bs,L2,by go_num,by omega,by omega,HB2.out.row,HB2.out.mov,HB2.out.s1,HB2.out.f⟩
        case measure=>simp[intOf];omega
       .have hlt4':¬(a:Int)+bs<L.length:=by omega
        have HS:Hid (SrtB (relK js) L' (2*bs) 0 L.length):=HB.out.s1.more HA.out (HB.out.s2.block HA1.out (Nat.le_refl _) (Nat.le_refl _) (by omega));go_wp2_with fail;go_roundw
        case rel=>exact⟨2*bs,L',by go_num,by omega,by omega,HB.out.row,HB.out.mov,HS.out,HB.out.f⟩
        case measure=>simp[intOf];omega
    .have hlt2':¬(bs:Int)<L.length:=by omega
     have HS:Hid (Sorted js L L'):=⟨hm.perm,by rw[hm.len];exact hs.block (Nat.zero_mod _) (Nat.le_refl _) (Nat.le_refl _) (by omega)⟩;have HR:=hide hr;have HF:=hide hf;clear hr hm hs hf;go_wp2_with fail
     go_end0
     exact⟨rfl,⟨L',HS.out,HR.out⟩,HF.out⟩
theorem sort_any (js:List Jb)(bl left:Nat->Nat)(L:List Nat)(base:Nat)(v:Value)(w:World)(hv:RowJ w base v bl L)(hj:JobsAt js bl left w)(hL:∀x∈L,x<js.length)(hn:L.length<=100000):
  Calls Tryz.prog 173 #[v] w fun e w'=>e=.returned (.tuple #[])/\(∃L',Sorted js L L'/\RowJ w' base v bl L')/\Frm (fun k=>v.ownBlock=some k) w w':=by
 have CS:=hide (stable_any js bl left L base v w hv hj hL hn);obtain⟨va,vcap,hvf,_,_⟩:=hv.len;subst hvf;clear hv hj hL;have CF:Hid (Calls Tryz.prog 189 #[.slice va L.length vcap,cmpF] w fun e w'=>e=.returned (.tuple #[])/\(∃L',Sorted js L L'/\RowJ w' base (.slice va L.length vcap) bl L')/\Frm (fun k=>(Value.slice va L.length vcap).ownBlock=some k) w w'):=by
  go_enter Tryz.func189,Tryz.ntmps189;go_wp2_with fail;refine CS.out.mono ?_;rintro e w1 ⟨rfl,ho,hf⟩;have HO:=hide ho;have HF:=hide hf;clear ho hf CS;go_wp2_with fail
  go_end0
  exact⟨rfl,HO.out,HF.out⟩
 go_enter Tryz.func173,Tryz.ntmps173;go_wp2_with fail;refine CF.out.mono ?_;rintro e w1 ⟨rfl,ho,hf⟩;have HO:=hide ho;have HF:=hide hf;clear ho hf CF;go_wp2_with fail
 go_end0
 exact⟨rfl,HO.out,HF.out⟩
theorem cyc_any (l:List (Tk×Nat))(g cap:Nat)(pa:Option Addr)(pm pc:Nat)(w:World)(hg:g<w.heap.size)(hr:RowPT w g l)(hn:l.length<=6)(hP:∀k,k<l.length->1<=(lk l k).1.P/\(lk l k).1.P<=60)(hnz:cycI (l.map Prod.fst)≠0):
  Calls Tryz.prog 128 #[.agg #[.slice (some ⟨g,0,none⟩) l.length cap,.slice pa pm pc]] w fun e w'=>e=.returned (.int .i64 (cycI (l.map Prod.fst)))/\Below w.heap.size w w':=by
 have Hnz:=hide hnz;have Hb:=hide (zN w (.cells #[.slice (some ⟨g,0,none⟩) l.length cap,.slice pa pm pc] 84));have Hr:=hide hr;have HP:=hide hP;have Hc:Hid (cycI (l.map Prod.fst)=cycF (l.map Prod.fst) (l.map Prod.fst).length 0 1):=rfl;have hml:Hid ((l.map Prod.fst).length=l.length):=by simp[Hid]
 clear hr hP hnz;go_enter Tryz.func128,Tryz.ntmps128;go_wp2
 go_loopw [3,9] (fun x i wr=>∃(k h:Nat),k<=l.length/\i=.int .i64 k/\x=.int .i64 h/\1<=h/\h<=60/\Below w.heap.size w wr/\Hid (cycI (l.map Prod.fst)=cycF (l.map Prod.fst) (l.length-k) k h)) (fun _ i _=>l.length-(intOf i).toNat)
 case atStart=>exact⟨0,1,by omega,rfl,rfl,by omega,by omega,Hb.out,by unfold Hid;rw[Hc.out,hml.out];rfl⟩
 case round=>
  clear Hb Hc hml;obtain⟨k,h,hk,rfl,rfl,hh1,hh2,hbw,hf⟩:=hrel;have Hb:=hide hbw;have hsz:=hbw.size;clear hbw;by_cases hlt:k<l.length
  .obtain⟨r0,r1,r2,r3,r4,r5,r6,r7,r8,r9⟩:=Hr.out.below Hb.out hg k hlt;have hgw:g<wr.heap.size:=by omega
   obtain⟨hP1,hP2⟩:=HP.out k hlt;have hfs:cycF (l.map Prod.fst) (l.length-k) k h=if 60<h/Nat.gcd h (lk l k).1.P*(lk l k).1.P then 0 else cycF (l.map Prod.fst) (l.length-(k+1)) (k+1) (h/Nat.gcd h (lk l k).1.P*(lk l k).1.P):=by
    rw[lk_fst,show l.length-k=(l.length-(k+1))+1 by omega,cycF]
   have hpos:=lcm_pos h (lk l k).1.P hh1 hP1;have Hfs:=hide hfs;clear hfs;generalize lk l k=x at *;go_wp2_with fail;refine(lcm_any h x.1.P _ hh1 hh2 hP2).mono ?_;rintro e w1 ⟨rfl,hb1⟩;have Hb1:=hide (Hb.out.trans (((zN wr _).trans (hb1.mono (by simp))).mono (by omega)));clear hb1;generalize h/Nat.gcd h x.1.P*x.1.P=L at *;by_cases h60:60<L
   .have h60':(60:Int)<L:=by omega
    go_wp2;go_ret;exfalso;apply Hnz.out;rw[hf.out,Hfs.out,if_pos h60]
   .have h60':¬(60:Int)<L:=by omega
    go_wp2;go_roundw
    case rel=>exact⟨k+1,L,by omega,by go_num,rfl,by omega,by omega,Hb1.out,by unfold Hid;rw[hf.out,Hfs.out,if_neg h60]⟩
    case measure=>simp[intOf];omega
  .go_wp2;go_ret;refine⟨?_,Hb.out⟩;rw[hf.out,show l.length-k=0 by omega,cycF];rfl
theorem jk_left {a b:List Jb}{k:Nat}(h:k<a.length):jk (a++b) k=jk a k:=by
 unfold jk;rw[List.getD_eq_getElem?_getD,List.getD_eq_getElem?_getD,List.getElem?_append_left h]
theorem jk_right {a b:List Jb}{k:Nat}(h:a.length<=k):jk (a++b) k=jk b (k-a.length):=by
 unfold jk;rw[List.getD_eq_getElem?_getD,List.getD_eq_getElem?_getD,List.getElem?_append_right h]
theorem jk_jobsT {cyc i:Nat}{t:Tk}{q:Nat}(h:q<cyc/t.P):jk (jobsT cyc i t) q=jobA i t q:=by
 unfold jk jobsT;rw[List.getD_eq_getElem?_getD,List.getElem?_map,List.getElem?_eq_getElem (by simpa using h)];simp[jobA]
def blJ (bl bt:Nat->Nat) (n:Nat):Nat->Nat:=fun k=>if k<n then bl k else bt (k-n)
theorem blJ_left {bl bt:Nat->Nat}{n k:Nat}(h:k<n):blJ bl bt n k=bl k:=if_pos h
theorem blJ_right {bl bt:Nat->Nat}{n k:Nat}(h:n<=k):blJ bl bt n k=bt (k-n):=if_neg (by omega)
theorem ptV_same {bl bl':Nat->Nat}{L:List Nat}(h:∀x∈L,bl' x=bl x):ptV bl' L=ptV bl L:=by
 unfold ptV;apply List.map_congr_left;intro x hx;rw[h x hx]
theorem ptV_shift {bl bt:Nat->Nat}{n m:Nat}:ptV (blJ bl bt n) ((List.range m).map (n + ·))=ptV bt (List.range m):=by
 unfold ptV;rw[List.map_map];apply List.map_congr_left;intro q hq;show Value.pointer (some ⟨blJ bl bt n (n+q),0,none⟩)=_;rw[blJ_right (by omega),Nat.add_sub_cancel_left]
theorem range_add (n m:Nat):List.range (n+m)=List.range n++(List.range m).map (n + ·):=List.range_add ..
theorem RowJ.reb {w:World}{b0:Nat}{v:Value}{bl bl':Nat->Nat}{L:List Nat}(h:RowJ w b0 v bl L)(he:∀x∈L,bl' x=bl x):RowJ w b0 v bl' L:=by
 unfold RowJ;rw[ptV_same he];exact h
theorem RowJ.weak {w:World}{b0 b1:Nat}{v:Value}{bl:Nat->Nat}{L:List Nat}(h:RowJ w b0 v bl L)(hb:b1<=b0):RowJ w b1 v bl L:=by
 refine⟨h.1,?_⟩;rcases h.2 with h3|⟨g,cap,cur,h3,h4,h5⟩
 .exact .inl h3
 .exact .inr ⟨g,cap,cur,h3,by omega,h5⟩
structure NpW (l:List (Tk×Nat)) (cyc g cap:Nat) (pa:Option Addr) (pn pc:Nat) (w:World) (i:Nat) (js:List Jb) (bl:Nat->Nat) (es:List (UInt8×Value)) (c2:Value) (wr:World):Prop where
 is:js=zJ cyc 0 ((l.map Prod.fst).take i)
 set:wr.heap[w.heap.size]? =some (.cells #[.slice (some ⟨g,0,none⟩) l.length cap,.slice pa pn pc] 84 (0,0))
 pln:wr.heap[w.heap.size+2]? =some (.cells #[.slice pa pn pc,.map (some (w.heap.size+1)),c2,.slice none 0 0] 221 (0,0))
 jobs:JobsAt js bl (costJ js) wr
 map:MapAt js bl (w.heap.size+1) es wr
 com:RowJ wr w.heap.size c2 bl (List.range js.length)
 keys:es.map Prod.fst=(l.take i).map (·.1.nm)
 apart:∀x∈es,∀b,x.2.ownBlock=some b->w.heap.size<=b/\c2.ownBlock≠some b
 low:∀k,k<js.length->w.heap.size<bl k
 inj:∀p q,p<js.length->q<js.length->bl p=bl q->p=q
 b:Below w.heap.size w wr
theorem NpW.keep {l:List (Tk×Nat)}{cyc g cap:Nat}{pa:Option Addr}{pn pc:Nat}{w:World}{i:Nat}{js:List Jb}{bl:Nat->Nat}{es:List (UInt8×Value)}{c2:Value}{wr w':World}(h:NpW l cyc g cap pa pn pc w i js bl es c2 wr)(hb:Below wr.heap.size wr w'):NpW l cyc g cap pa pn pc w i js bl es c2 w':=by
 have hf:Frm (fun k=>wr.heap.size<=k) wr w':=Below.frm hb;have hown:∀b,c2.ownBlock=some b->b<wr.heap.size:=fun b hb=>(h.com.lt b hb).2;refine⟨h.is,zK h.set hb,zK h.pln hb,h.jobs.keep hf (fun k hk hX=>by have:=zL (h.jobs k hk);omega),h.map.keep hf (fun hX=>by have:=h.map.m.lt;omega) (fun x hx b hbx hX=>?_),h.com.frm hf (fun b hbx hX=>by have:=hown b hbx;omega),h.keys,h.apart,h.low,h.inj,h.b.trans (hb.mono h.b.size)⟩;obtain⟨T,h1,_⟩:=h.map.each x hx;have:=(h1.lt b hbx).2;omega
theorem take_snoc {l:List (Tk×Nat)}{i:Nat}(h:i<l.length):(l.map Prod.fst).take (i+1)=(l.map Prod.fst).take i++[(lk l i).1]/\(l.take (i+1)).map (·.1.nm)=(l.take i).map (·.1.nm)++[(lk l i).1.nm]:=by
 have e:lk l i=l[i]:=by unfold lk;rw[List.getD_eq_getElem?_getD,List.getElem?_eq_getElem h];rfl
 rw[e];refine⟨?_,?_⟩
 .rw[List.take_succ_eq_append_getElem (by simpa using h),List.getElem_map]
 .rw[List.take_succ_eq_append_getElem h,List.map_append];rfl
theorem NpW.push {l:List (Tk×Nat)}{cyc g cap:Nat}{pa:Option Addr}{pn pc:Nat}{w:World}{i:Nat}{js:List Jb}{bl bt:Nat->Nat}{es:List (UInt8×Value)}{c2 c2' v:Value}{w2 w3 w4 w5:World}{x:Tk×Nat}(h:NpW l cyc g cap pa pn pc w i js bl es c2 w3)(h0:NpW l cyc g cap pa pn pc w i js bl es c2 w2)(hi:i<l.length)(hx:lk l i=x)
  (hJ:JiW x i w2 w3 v bt (cyc/x.1.P)) (hm:SMap w4 (w.heap.size+1) (es++[(x.1.nm,v)])) (hg4:w3.grownBy w4 (some (w.heap.size+1)))
  (ho5:w5.ownsRow w.heap.size 226 1 c2' (js.length+cyc/x.1.P) (ptV bl (List.range js.length)++ptV bt (List.range (cyc/x.1.P)))) (hg5:w4.grownBy w5 c2.ownBlock) (hloc:c2'.ownBlock=c2.ownBlock\/c2'.ownBlock=some w4.heap.size)
  (hnm:x.1.nm ∉ es.map Prod.fst) (hcy:cyc/x.1.P<=60) (hltr:∀k,k<js.length->(jk js k).ltr∈es.map Prod.fst):
  NpW l cyc g cap pa pn pc w (i+1) (js++jobsT cyc i x.1) (blJ bl bt js.length) (es++[(x.1.nm,v)]) c2' (w5.setCell ⟨w.heap.size+2,2,none⟩ c2'):=by
 obtain⟨t1,t2⟩:=take_snoc hi;rw[hx]at t1 t2;have his:js++jobsT cyc i x.1=zJ cyc 0 ((l.map Prod.fst).take (i+1)):=by
  rw[t1,jobsL_snoc,Nat.zero_add,List.length_take,List.length_map,Nat.min_eq_left (by omega),←h.is]
 have hjl:(js++jobsT cyc i x.1).length=js.length+cyc/x.1.P:=by rw[List.length_append,jobsT_len]
 have hF:Frm (fun k=>k=w.heap.size+1\/c2.ownBlock=some k\/k=w.heap.size+2) w3 (w5.setCell ⟨w.heap.size+2,2,none⟩ c2'):=
  ((Frm.refl _ w3).grown hg4 (fun k hk _=>by injection hk with hk;exact .inl hk.symm) |>.grown hg5 (fun k hk _=>.inr (.inl hk))).setCell (p:=⟨w.heap.size+2,2,none⟩) (.inr (.inr rfl)) _
 have hM3:=h.map.m;have hMne:c2.ownBlock≠some (w.heap.size+1):=fun e=>by
  obtain⟨_,c,fr,e'⟩:=own_typed h.com e;exact hM3.noCells _ _ _ e'
 have hPne:c2.ownBlock≠some (w.heap.size+2):=fun e=>by
  obtain⟨_,c,fr,e'⟩:=own_typed h.com e;rw[h.pln]at e';simp at e'
 have hSne:c2.ownBlock≠some w.heap.size:=fun e=>by
  obtain⟨_,c,fr,e'⟩:=own_typed h.com e;rw[h.set]at e';simp at e'
 have hP5:w5.heap[w.heap.size+2]? =some (.cells #[.slice pa pn pc,.map (some (w.heap.size+1)),c2,.slice none 0 0] 221 (0,0)):=by
  rw[hg5.block _ (Nat.lt_of_lt_of_le (zL h.pln) hg4.size) (fun e=>hPne e.symm),hg4.block _ (zL h.pln) (by simp)];exact h.pln
 have hsz45:=hg5.size;have hsz34:=hg4.size;have hvlt:∀b,v.ownBlock=some b->w2.heap.size<=b:=fun b hb=>(hJ.row.lt b hb).1;have hc2lt:∀b,c2.ownBlock=some b->b<w2.heap.size:=fun b hb=>(h0.com.lt b hb).2;have hPlt:=zL h0.pln;have hjlt:∀k,k<js.length->bl k<w2.heap.size:=fun k hk=>zL (h0.jobs k hk);have hbtlt:∀q,q<cyc/x.1.P->w2.heap.size<bt q:=fun q hq=>(hJ.job q hq).2;have hnj:∀k,k<js.length->¬(bl k=w.heap.size+1\/c2.ownBlock=some (bl k)\/bl k=w.heap.size+2):=fun k hk hX=>by
  rcases hX with e|e|e
  .have:=h.jobs k hk;rw[e]at this;exact hM3.noCells _ _ _ this
  .exact own_not_job h.com h.jobs hk e
  .have:=h.jobs k hk;rw[e,h.pln]at this;simp at this
 have hjk1:∀k,k<js.length->jk (js++jobsT cyc i x.1) k=jk js k:=fun k hk=>jk_left hk;have hjk2:∀q,q<cyc/x.1.P->jk (js++jobsT cyc i x.1) (js.length+q)=jobA i x.1 q:=fun q hq=>by rw[jk_right (by omega),Nat.add_sub_cancel_left,jk_jobsT hq]
 generalize js++jobsT cyc i x.1=js' at *;have hPc:c2'.ownBlock≠some (w.heap.size+2):=fun e=>by
  rcases hloc with e1|e1
  .exact hPne (e1▸e)
  .rw[e1]at e;injection e with e;have:=zL h.pln;omega
 have hwsz:=h.b.size;have hw2z:=h0.b.size;have hvlt3:∀b,v.ownBlock=some b->b<w3.heap.size:=fun b hb=>(hJ.row.lt b hb).2;have hnv:∀b,v.ownBlock=some b->¬(b=w.heap.size+1\/c2.ownBlock=some b\/b=w.heap.size+2):=fun b hb hX=>by
  have h5:=hvlt b hb;rcases hX with e|e|e
  .omega
  .have:=hc2lt b e;omega
  .omega
 have hbl1:∀k,k<js.length->blJ bl bt js.length k=bl k:=fun k hk=>blJ_left hk;have hsplit:∀k,k<js'.length->k<js.length\/∃q,q<cyc/x.1.P/\k=js.length+q:=fun k hk=>by
  by_cases h5:k<js.length
  .exact .inl h5
  .exact .inr ⟨k-js.length,by omega,by omega⟩
 refine⟨his,hF.blk h.set (fun hX=>?_),zS hP5 2 c2',?_,⟨?_,?_,?_⟩,?_,?_,?_,?_,?_,?_⟩
 .rcases hX with e|e|e
  .omega
  .exact hSne e
  .omega
 .intro k hk;unfold costJ;rcases hsplit k hk with h5|⟨q,hq,rfl⟩
  .rw[hbl1 k h5,hjk1 k h5];exact hF.blk (h.jobs k h5) (hnj k h5)
  .rw[hjk2 q hq,blJ_right (by omega),Nat.add_sub_cancel_left];refine hF.blk (hJ.job q hq).1 (fun hX=>?_);have h6:=hbtlt q hq;rcases hX with e|e|e
   .omega
   .have:=hc2lt _ e;omega
   .omega
 .refine hm.keep ?_;rw[Below.heap_setCell _ _ _ _ (by show w.heap.size+1≠w.heap.size+2;omega),hg5.block _ hm.lt (fun e=>hMne e.symm)]
 .intro y hy z hz e;rcases List.mem_append.1 hy with hy|hy
  .rcases List.mem_append.1 hz with hz|hz
   .exact h.map.one y hy z hz e
   .simp at hz;subst hz;exact absurd (List.mem_map.2 ⟨y,hy,e⟩) hnm
  .simp at hy;subst hy;rcases List.mem_append.1 hz with hz|hz
   .exact absurd (List.mem_map.2 ⟨z,hz,e.symm⟩) hnm
   .simp at hz;exact hz.symm
 .intro y hy;rcases List.mem_append.1 hy with hy|hy
  .obtain⟨T,r1,r2,r3,r4⟩:=h.map.each y hy;refine⟨T,RowJ.reb (r1.frm hF (fun b hb hX=>?_)) (fun k hk=>hbl1 k ((r3 k).1 hk).1),r2,fun k=>?_,fun q hq=>?_⟩
   .rcases hX with e|e|e
    .obtain⟨_,c,fr,e'⟩:=own_typed r1 hb;rw[e]at e';exact hM3.noCells _ _ _ e'
    .exact(h.apart y hy b hb).2 e
    .obtain⟨_,c,fr,e'⟩:=own_typed r1 hb;rw[e,h.pln]at e';simp at e'
   .rw[r3 k];constructor
    .rintro ⟨a1,a2⟩;exact⟨Nat.lt_of_lt_of_le a1 (by rw[hjl];exact Nat.le_add_right _ _),by rw[hjk1 k a1];exact a2⟩
    .rintro ⟨a1,a2⟩;rcases hsplit k a1 with h5|⟨q,hq,rfl⟩
     .exact⟨h5,by rw[hjk1 k h5]at a2;exact a2⟩
     .rw[hjk2 q hq]at a2;exact absurd (List.mem_map.2 ⟨y,hy,a2.symm⟩) hnm
   .have h5:=((r3 _).1 (gd_mem hq)).1;rw[hjk1 _ h5];exact r4 q hq
  .simp at hy;subst hy;have hT:((List.range (cyc/x.1.P)).map (js.length + ·)).length=cyc/x.1.P:=by simp
   refine⟨(List.range (cyc/x.1.P)).map (js.length + ·),?_,by omega,fun k=>?_,fun q hq=>?_⟩
   .have r1:RowJ (w5.setCell ⟨w.heap.size+2,2,none⟩ c2') 0 v bt (List.range (cyc/x.1.P)):=(hJ.row.frm hF hnv).weak (Nat.zero_le _);unfold RowJ at r1 ⊢;rw[hT,ptV_shift];rw[List.length_range]at r1;exact r1
   .rw[List.mem_map];constructor
    .rintro ⟨q,hq,rfl⟩;have hq':q<cyc/x.1.P:=by simpa using hq
     exact⟨by omega,by rw[hjk2 q hq'];rfl⟩
    .rintro ⟨a1,a2⟩;rcases hsplit k a1 with h5|⟨q,hq,rfl⟩
     .rw[hjk1 k h5]at a2;have a3:(jk js k).ltr=x.1.nm:=a2;exact absurd (a3▸hltr k h5) hnm
     .exact⟨q,by simpa using hq,rfl⟩
   .rw[hT]at hq;have e:gd ((List.range (cyc/x.1.P)).map (js.length + ·)) q=js.length+q:=by
     rw[gd_get (by rw[hT];exact hq)];simp
    rw[e,hjk2 q hq];rfl
 .have h6:w5.ownsRow w.heap.size 226 1 c2' (List.range js'.length).length (ptV (blJ bl bt js.length) (List.range js'.length)):=by
   rw[List.length_range,hjl,range_add,show ptV (blJ bl bt js.length) (List.range js.length++(List.range (cyc/x.1.P)).map (js.length + ·))=ptV (blJ bl bt js.length) (List.range js.length)++ptV (blJ bl bt js.length) ((List.range (cyc/x.1.P)).map (js.length + ·)) by simp[ptV],ptV_shift,ptV_same (bl:=bl) (fun k hk=>hbl1 k (by simpa using hk))];exact ho5
  exact h6.kept (row:=some (w.heap.size+2)) ⟨rfl,rfl,rfl,by simp[World.setCell],fun q _ hq=>Below.heap_setCell _ _ _ _ (fun e=>hq (by simp[e]))⟩ (Or.inr hPc)
 .rw[List.map_append,h.keys,t2];rfl
 .intro y hy b hb;rcases List.mem_append.1 hy with hy|hy
  .obtain⟨a1,a2⟩:=h.apart y hy b hb;refine⟨a1,fun e=>?_⟩;rcases hloc with e1|e1
   .exact a2 (e1▸e)
   .rw[e1]at e;injection e with e;obtain⟨T,r1,_⟩:=h.map.each y hy;have:=(r1.lt b hb).2;omega
  .simp at hy;subst hy;have a1:=hvlt b hb;have a2:=hvlt3 b hb;refine⟨by omega,fun e=>?_⟩;rcases hloc with e1|e1
   .have:=hc2lt b (e1▸e);omega
   .rw[e1]at e;injection e with e;omega
 .intro k hk;rcases hsplit k hk with h5|⟨q,hq,rfl⟩
  .rw[hbl1 k h5];exact h.low k h5
  .rw[blJ_right (by omega),Nat.add_sub_cancel_left];have:=hbtlt q hq;omega
 .intro p q hp hq e;rcases hsplit p hp with h5|⟨p',hp',rfl⟩
  .rcases hsplit q hq with h6|⟨q',hq',rfl⟩
   .rw[hbl1 p h5,hbl1 q h6]at e;exact h.inj p q h5 h6 e
   .rw[hbl1 p h5,blJ_right (by omega),Nat.add_sub_cancel_left]at e;have:=hjlt p h5;have:=hbtlt q' hq';omega
  .rcases hsplit q hq with h6|⟨q',hq',rfl⟩
   .rw[hbl1 q h6,blJ_right (by omega),Nat.add_sub_cancel_left]at e;have:=hjlt q h6;have:=hbtlt p' hp';omega
   .rw[blJ_right (by omega),blJ_right (by omega),Nat.add_sub_cancel_left,Nat.add_sub_cancel_left]at e;rw[hJ.inj p' q' hp' hq' e]
 .refine h.b.trans (hF.below hwsz (fun k hk hX=>?_));rcases hX with e|e|e
  .omega
  .have:=(h.com.lt k e).1;omega
  .omega
theorem NpW.start (l:List (Tk×Nat))(cyc g cap:Nat)(pa:Option Addr)(pn pc:Nat)(w:World):NpW l cyc g cap pa pn pc w 0 [] (fun _=>0) [] (.slice none 0 0) (((w.alloc (.cells #[.slice (some ⟨g,0,none⟩) l.length cap,.slice pa pn pc] 84)).alloc (.map #[] 0)).alloc (.cells #[.slice pa pn pc,.map (some (w.heap.size+1)),.slice none 0 0,.slice none 0 0] 221)):=by
 have hm:=SMap.made (w.alloc (.cells #[.slice (some ⟨g,0,none⟩) l.length cap,.slice pa pn pc] 84));have e1:(w.alloc (.cells #[.slice (some ⟨g,0,none⟩) l.length cap,.slice pa pn pc] 84)).heap.size=w.heap.size+1:=by simp
 rw[e1]at hm;refine⟨by simp[zJ],?_,?_,fun k hk=>by simp at hk,⟨hm.keep (Below.heap_alloc _ _ _ (by simp)),(fun x hx=>by simp at hx),(fun x hx=>by simp at hx)⟩,World.ownsRow_nil _ _ _ _,by simp,(fun x hx=>by simp at hx),(fun k hk=>by simp at hk),(fun p q hp=>by simp at hp),?_⟩
 .rw[Below.heap_alloc _ _ _ (by simp;omega),Below.heap_alloc _ _ _ (by simp)];exact zW _ _ _
 .have:=zW ((w.alloc (.cells #[.slice (some ⟨g,0,none⟩) l.length cap,.slice pa pn pc] 84)).alloc (.map #[] 0)) #[.slice pa pn pc,.map (some (w.heap.size+1)),.slice none 0 0,.slice none 0 0] 221;simpa using this
 .exact(((Below.refl _ w).alloc (Nat.le_refl _) _).alloc (by simp) _).alloc (by simp;omega) _
theorem NpW.ltr {l:List (Tk×Nat)}{cyc g cap:Nat}{pa:Option Addr}{pn pc:Nat}{w:World}{i:Nat}{js:List Jb}{bl:Nat->Nat}{es:List (UInt8×Value)}{c2:Value}{wr:World}(h:NpW l cyc g cap pa pn pc w i js bl es c2 wr):∀k,k<js.length->(jk js k).ltr∈es.map Prod.fst:=fun k hk=>by
 have hm:jk js k∈zJ cyc 0 ((l.map Prod.fst).take i):=by rw[←h.is,jk_get hk];exact List.getElem_mem _
 obtain⟨q,hq,n,hn,e⟩:=(jobsL_mem _ _ _ _).1 hm;rw[e,h.keys,List.map_take];have h2:((l.map Prod.fst).take i)[q].nm∈((l.map Prod.fst).take i).map Tk.nm:=List.mem_map.2 ⟨_,List.getElem_mem _,rfl⟩;rw[List.map_take,List.map_map]at h2;exact h2
structure NpF (l:List (Tk×Nat)) (cyc:Nat) (pa:Option Addr) (pn pc:Nat) (w:World) (js:List Jb) (bl:Nat->Nat) (es:List (UInt8×Value)) (c2:Value) (Cm:List Nat) (wr:World):Prop where
 is:js=zJ cyc 0 (l.map Prod.fst)
 pln:wr.heap[w.heap.size+2]? =some (.cells #[.slice pa pn pc,.map (some (w.heap.size+1)),c2,.slice none 0 0] 221 (0,0))
 jobs:JobsAt js bl (costJ js) wr
 map:MapAt js bl (w.heap.size+1) es wr
 com:RowJ wr w.heap.size c2 bl Cm
 srt:Sorted js (List.range js.length) Cm
 keys:es.map Prod.fst=l.map (·.1.nm)
 apart:∀x∈es,∀b,x.2.ownBlock=some b->w.heap.size<=b
 low:∀k,k<js.length->w.heap.size<bl k
 inj:∀p q,p<js.length->q<js.length->bl p=bl q->p=q
 b:Below w.heap.size w wr
def NpOut (l:List (Tk×Nat)) (cyc:Nat) (pa:Option Addr) (pn pc:Nat) (w:World) (en:Ending) (w':World):Prop:=
 en=.returned (.pointer (some ⟨w.heap.size+2,0,none⟩))/\∃js bl es c2 Cm,NpF l cyc pa pn pc w js bl es c2 Cm w'
theorem newPlan_any (l:List (Tk×Nat))(cyc g cap:Nat)(pa:Option Addr)(pn pc:Nat)(w:World)(hg:g<w.heap.size)(hr:RowPT w g l)(hn:l.length<=6)(hts:TsOk (l.map Prod.fst) cyc)(hcy:cycI (l.map Prod.fst)=cyc):
  Calls Tryz.prog 154 #[.agg #[.slice (some ⟨g,0,none⟩) l.length cap,.slice pa pn pc]] w (NpOut l cyc pa pn pc w):=by
 obtain⟨i0,hi0,hz0,hz1,hz2⟩:=info_parts Tryz.infoJP;have HN0:=hide (NpW.start l cyc g cap pa pn pc w);have hmk:∀W:World,(Instr.makeMap 217 none).run Tryz.prog W=.ok (.map (some W.heap.size)) (W.alloc (.map #[] 0)):=fun W=>by simp[Instr.makeMap,run_underlying Tryz.underlying217]
 have HR:=hide hr;have HT:=hide hts;have HC:=hide hcy;have HW:=hide (jobs_few hts);clear hr hts hcy;go_enter Tryz.func154,Tryz.ntmps154;go_wp2_with fail
 go_loopw [15] (fun iv wr=>∃(i:Nat) (js:List Jb) (bl:Nat->Nat) (es:List (UInt8×Value)) (c2:Value),i<=l.length/\iv=.int .i64 i/\NpW l cyc g cap pa pn pc w i js bl es c2 wr) (fun iv _=>l.length-(intOf iv).toNat)
 case atStart=>exact⟨0,_,_,_,_,by omega,rfl,HN0.out⟩
 case round=>
  obtain⟨i,js,bl,es,c2,hi,rfl,hW⟩:=hrel;by_cases hlt:i<l.length
  .have hlt':(i:Int)<l.length:=by omega
   have hgw:g<wr.heap.size:=Nat.lt_of_lt_of_le hg hW.b.size;obtain⟨r0,r1,r2,r3,r4,r5,r6,r7,r8,r9⟩:=(HR.out.keep (hW.b.block g hg)) i hlt;have HW1:=hide hW;clear hW;generalize hx:lk l i=x at *;have HX:=hide hx;clear hx;have hxm:x.1∈l.map Prod.fst:=by
    rw[←HX.out];unfold lk;rw[List.getD_eq_getElem?_getD,List.getElem?_eq_getElem hlt];exact List.mem_map.2 ⟨_,List.getElem_mem _,rfl⟩
   have hte:=HT.out.each x.1 hxm;have hc1:=HT.out.c1;have hc2:=HT.out.c2;have hP60:x.1.P<=cyc:=Nat.le_of_dvd (by omega) (Nat.dvd_of_mod_eq_zero hte.2.1);have HA:=hide (HW1.out.keep (zN wr (.cells (ptA x) 172)));have hX0:(wr.alloc (.cells (ptA x) 172)).heap[wr.heap.size]? =some (.cells (ptA x) 172 (0,0)):=zW _ _ _;have HS:Hid (∀W:World,W.heap[wr.heap.size]? =some (.cells (ptA x) 172 (0,0))->W.heap[w.heap.size]? =some (.cells #[.slice (some ⟨g,0,none⟩) l.length cap,.slice pa pn pc] 84 (0,0))->(fun w'=>(w'.cell? ⟨wr.heap.size,0,none⟩=some (.string (bs [x.1.nm]))/\w'.cell? ⟨wr.heap.size,1,none⟩=some (.int .i64 x.1.q0)/\w'.cell? ⟨wr.heap.size,2,none⟩=some (.int .i64 x.1.P)/\w'.cell? ⟨wr.heap.size,3,none⟩=some (.int .i64 x.1.q1)/\w'.cell? ⟨wr.heap.size,4,none⟩=some (.int .i64 x.1.O)/\w'.cell? ⟨wr.heap.size,5,none⟩=some (.int .i64 x.2)/\w'.cell? ⟨wr.heap.size,6,none⟩=some (.int .i64 x.1.C)/\w'.cell? ⟨wr.heap.size,7,none⟩=some (.int .i64 x.1.q3)/\w'.cell? ⟨wr.heap.size,8,none⟩=some (.int .i64 x.1.D)/\w'.cell? ⟨wr.heap.size,9,none⟩=some (.int .i64 x.1.q4))/\w'.cell? ⟨w.heap.size,0,none⟩=some (.slice (some ⟨g,0,none⟩) l.length cap)/\w'.cell? ⟨w.heap.size,1,none⟩=some (.slice pa pn pc)) W):=fun W h1 h2=>⟨ptA_cells h1,by rw[zC h2];rfl,by rw[zC h2];rfl⟩;have h0c:=hide (HS.out ((wr.alloc (.cells (ptA x) 172)).drew) hX0 HA.out.set);have hgA:g<(wr.alloc (.cells (ptA x) 172)).heap.size:=by simp;omega
   have HRA:=hide ((HR.out.keep (HA.out.b.block g hg)));have CC:=hide (cyc_any l g cap pa pn pc ((wr.alloc (.cells (ptA x) 172)).drew) hgA HRA.out hn (fun k hk=>by
    have hm:(lk l k).1∈l.map Prod.fst:=by
     unfold lk;rw[List.getD_eq_getElem?_getD,List.getElem?_eq_getElem hk];exact List.mem_map.2 ⟨_,List.getElem_mem _,rfl⟩
    have h5:=HT.out.each _ hm;have h6:(lk l k).1.P<=cyc:=Nat.le_of_dvd (by omega) (Nat.dvd_of_mod_eq_zero h5.2.1);omega) (by rw[HC.out];omega))
   rw[HC.out]at CC;have CJ:Hid (∀W,Calls Tryz.prog 172 #[.agg #[.string (bs [x.1.nm]),.int .i64 x.1.q0,.int .i64 x.1.P,.int .i64 x.1.q1,.int .i64 x.1.O,.int .i64 x.2,.int .i64 x.1.C,.int .i64 x.1.q3,.int .i64 x.1.D,.int .i64 x.1.q4],.int .i64 cyc,.int .i64 i] W (JiOut x i cyc W)):=fun W=>jobsIn_any x cyc i W hte.1 (by omega) (by omega) (by omega) (by omega) hc2 (by omega);unfold ptA at HA hX0 HS h0c hgA HRA CC;go_wp2_with fail;clear r0 r1 r2 r3 r4 r5 r6 r7 r8 r9
   go_region_held_law (fun w'=>(w'.cell? ⟨wr.heap.size,0,none⟩=some (.string (bs [x.1.nm]))/\w'.cell? ⟨wr.heap.size,1,none⟩=some (.int .i64 x.1.q0)/\w'.cell? ⟨wr.heap.size,2,none⟩=some (.int .i64 x.1.P)/\w'.cell? ⟨wr.heap.size,3,none⟩=some (.int .i64 x.1.q1)/\w'.cell? ⟨wr.heap.size,4,none⟩=some (.int .i64 x.1.O)/\w'.cell? ⟨wr.heap.size,5,none⟩=some (.int .i64 x.2)/\w'.cell? ⟨wr.heap.size,6,none⟩=some (.int .i64 x.1.C)/\w'.cell? ⟨wr.heap.size,7,none⟩=some (.int .i64 x.1.q3)/\w'.cell? ⟨wr.heap.size,8,none⟩=some (.int .i64 x.1.D)/\w'.cell? ⟨wr.heap.size,9,none⟩=some (.int .i64 x.1.q4))/\w'.cell? ⟨w.heap.size,0,none⟩=some (.slice (some ⟨g,0,none⟩) l.length cap)/\w'.cell? ⟨w.heap.size,1,none⟩=some (.slice pa pn pc)) (first|exact h0c.out|exact h8c|exact h9c)
    (first|(go_at_call 128;refine CC.out.mono ?_;rintro en w8 ⟨rfl,hb8⟩;have h8c:=HS.out w8 (zK hX0 ⟨hb8.os,hb8.tape,hb8.output,hb8.size,hb8.block⟩) (zK HA.out.set ⟨hb8.os,hb8.tape,hb8.output,hb8.size,hb8.block⟩))|(go_at_call 172;refine(CJ.out _).mono ?_;rintro en w9 ⟨v9,bt,rfl,hJ9⟩;have h9c:=HS.out w9 (zK (zK hX0 ⟨hb8.os,hb8.tape,hb8.output,hb8.size,hb8.block⟩) hJ9.b) (zK (zK HA.out.set ⟨hb8.os,hb8.tape,hb8.output,hb8.size,hb8.block⟩) hJ9.b)))
   all_goals
    have N8:=HA.out.keep (⟨hb8.os,hb8.tape,hb8.output,hb8.size,hb8.block⟩:Below (wr.alloc (.cells #[.string (bs [x.1.nm]),.int .i64 x.1.q0,.int .i64 x.1.P,.int .i64 x.1.q1,.int .i64 x.1.O,.int .i64 x.2,.int .i64 x.1.C,.int .i64 x.1.q3,.int .i64 x.1.D,.int .i64 x.1.q4] 172)).heap.size (wr.alloc (.cells #[.string (bs [x.1.nm]),.int .i64 x.1.q0,.int .i64 x.1.P,.int .i64 x.1.q1,.int .i64 x.1.O,.int .i64 x.2,.int .i64 x.1.C,.int .i64 x.1.q3,.int .i64 x.1.D,.int .i64 x.1.q4] 172)) w8);have N9:=N8.keep hJ9.b;have hel:es.length=i:=by
     have:=congrArg List.length N9.keys;rw[List.length_map,List.length_map,List.length_take]at this;omega
    have hnm:x.1.nm ∉ es.map Prod.fst:=by
     rw[N9.keys];intro hin;obtain⟨q,hq,e⟩:=List.getElem_of_mem hin;have hq2:q<i:=by simp at hq;omega
     have hl0:lk l i=l[i]:=by unfold lk;rw[List.getD_eq_getElem?_getD,List.getElem?_eq_getElem hlt];rfl
     have h6:=names_inj HT.out.name (i:=q) (j:=i) (by simp;omega) (by simpa using hlt) (by
      simp at e;rw[←HX.out,hl0]at e;simpa using e)
     omega
    have hm1:0<cyc/x.1.P:=Nat.div_pos hP60 hte.1;have hm60:cyc/x.1.P<=60:=Nat.le_trans (Nat.div_le_self _ _) hc2;obtain⟨w10,hrun,hm10,hg10⟩:=SMap.store (w:=w9.drew) (N9.map.m.keep (w':=w9.drew) rfl) x.1.nm (fun y hy e=>hnm (List.mem_map.2 ⟨y,hy,e⟩)) (by omega) v9;unfold ltV at hrun;have hg10':w9.grownBy w10 (some (w.heap.size+1)):=⟨hg10.os,hg10.tape,hg10.output,hg10.size,hg10.block⟩;obtain⟨ca,ccap,hc2v,_,_⟩:=N9.com.len;rw[List.length_range]at hc2v;have hc2e:=hc2v;subst hc2v;obtain⟨g9,cap9,cur9,hv9,_,hg9,_,_,_,hcl9⟩:=hJ9.row.form (by rw[List.length_range];exact hm1);rw[List.length_range]at hv9 hcl9;subst hv9;have p1:w9.cell? ⟨w.heap.size+1+1,1,none⟩=some (.map (some (w.heap.size+1))):=by rw[zC N9.pln];rfl
    have l0:=h9c.1.1;have hpl10:w10.heap[w.heap.size+2]? =some (.cells #[.slice pa pn pc,.map (some (w.heap.size+1)),.slice ca js.length ccap,.slice none 0 0] 221 (0,0)):=by
     rw[hg10'.block _ (zL N9.pln) (by simp)];exact N9.pln
    have p2:w10.cell? ⟨w.heap.size+1+1,2,none⟩=some (.slice ca js.length ccap):=by rw[zC hpl10];rfl
    have p2f:w10.frozen? ⟨w.heap.size+1+1,2,none⟩=false:=zF hpl10 2;have hMne:(Value.slice ca js.length ccap).ownBlock≠some (w.heap.size+1):=fun e=>by
     obtain⟨_,c,fr,e'⟩:=own_typed N9.com e;exact N9.map.m.noCells _ _ _ e'
    have hPne:(Value.slice ca js.length ccap).ownBlock≠some (w.heap.size+1+1):=fun e=>by
     obtain⟨_,c,fr,e'⟩:=own_typed N9.com e;rw[show w.heap.size+1+1=w.heap.size+2 from rfl,N9.pln]at e';simp at e'
    have hM8:=N8.map.m.lt;have com10:w10.ownsRow w.heap.size 226 1 (.slice ca js.length ccap) js.length (ptV bl (List.range js.length)):=by
     have:=N9.com.kept hg10' (Or.inr hMne);rw[List.length_range]at this;exact this
    have hg9l:=(hJ9.row.lt g9 rfl).1;have hcl10:∀q u,(ptV bt (List.range (cyc/x.1.P)))[q]? =some u->w10.cell? ((⟨g9,0,none⟩:Addr).add q)=some u:=fun q u hq=>by
     have hql:q<cyc/x.1.P:=by
      have:=(List.getElem?_eq_some_iff.1 hq).1;simpa [ptV] using this
     have e9:((⟨g9,0,none⟩:Addr).add q)=⟨g9,q,none⟩:=by simp[Addr.add];intro h;exact h.symm
     rw[e9,World.cell?_of_block (w:=w9) (hg10'.block g9 (zL hg9) (by simp;omega)),zC hg9,hcl9 q hql,←hq];simp[ptV,gd,hql]
    have hjl20:js.length+cyc/x.1.P<=1000:=by
     have h1:js.length<=(zJ cyc 0 (l.map Prod.fst)).length:=by
      rw[N9.is]
      conv=>rhs;rw[←List.take_append_drop i (l.map Prod.fst)]
      have:∀(a b:List Tk) (k:Nat),(zJ cyc k a).length<=(zJ cyc k (a++b)).length:=by
       intro a
       induction a with
       | nil=>intro b k;simp[zJ]
       | cons t r ih=>
        intro b k;simp only[List.cons_append,zJ,List.length_append];have:=ih b (k+1);omega
      exact this _ _ 0
     have:=HW.out;omega
    have HPush:=hide (fun (w11:World) (c2':Value) (ho:w11.ownsRow w.heap.size 226 1 c2' (js.length+cyc/x.1.P) (ptV bl (List.range js.length)++ptV bt (List.range (cyc/x.1.P)))) (hg11:w10.grownBy w11 (Value.slice ca js.length ccap).ownBlock) (hloc:c2'.ownBlock=(Value.slice ca js.length ccap).ownBlock\/c2'.ownBlock=some w10.heap.size)=>NpW.push N9 N8 hlt HX.out hJ9 (hm10) hg10' ho hg11 hloc hnm hm60 N9.ltr);have hsz10:w.heap.size<=w10.heap.size:=Nat.le_trans N9.b.size hg10'.size;clear h9c h8c hb8 hJ9 N8 N9 hm10 hg10 hg10' hpl10 hg9 hcl9 hMne hel hnm HA HS h0c CC CJ hX0 hc2e;go_wp2_with fail
    go_region
    all_goals
     clear hrun p1 l0 hmk;generalize hMM:cyc/x.1.P=mm at *;clear hMM;go_wp2_with (at_builtin;refine Go.wpList_append_own_at _ rfl _ _ 218 rfl w.heap.size 226 i0 _ 1 8 Tryz.underlying218 hi0 hz0 hz1 hz2 rfl (by decide) _ _ _ rfl com10 ⟨g9,0,none⟩ mm cap9 (ptV bt (List.range mm)) rfl ?c1 ?c2 ?c3 ?c4 ?c5 ?c6 ?_)
     case c1=>simp[ptV]
     case c2=>exact hcl10
     case c3=>
      intro u hu;obtain⟨q,_,rfl⟩:=List.mem_map.1 hu;rfl
     case c4=>unfold maxLen;omega
     case c5=>omega
     case c6=>exact hsz10
     intro v11 w11 hown11 hgr11 _ hloc11;obtain⟨g11,cap11,hv11,_,_⟩:=own_form hown11 (by omega);subst hv11;have HN:=hide (HPush.out w11 _ hown11 hgr11 hloc11);have hPlt:w.heap.size+2<w10.heap.size:=World.block_lt_of_cell? w10 ⟨w.heap.size+1+1,2,none⟩ p2;have q2:w11.cell? ⟨w.heap.size+1+1,2,none⟩=some (.slice ca js.length ccap):=by rw[World.cell?_of_block (w:=w10) (hgr11.block _ hPlt (fun e=>hPne e.symm))];exact p2
     have q2f:w11.frozen? ⟨w.heap.size+1+1,2,none⟩=false:=by rw[World.frozen?_of_block (w:=w10) (hgr11.block _ hPlt (fun e=>hPne e.symm))];exact p2f
     clear hown11 hgr11 hloc11 HPush p2 p2f com10 hcl10;go_wp2_with fail;go_roundw
     case rel=>exact⟨i+1,_,_,_,_,by omega,by go_num,HN.out⟩
     case measure=>simp[intOf];omega
  .have hlt':¬(i:Int)<l.length:=by omega
   have hil:i=l.length:=by omega
   have his:=hW.is;rw[hil,List.take_of_length_le (by simp)]at his;have hkeys:=hW.keys;rw[hil,List.take_length]at hkeys;have hjl:js.length<=360:=by rw[his];exact HW.out
   have CS:=hide (sort_any js bl (costJ js) (List.range js.length) w.heap.size c2 wr hW.com hW.jobs (fun x hx=>by simpa using hx) (by rw[List.length_range];omega));have p2:wr.cell? ⟨w.heap.size+1+1,2,none⟩=some c2:=by rw[zC hW.pln];rfl
   obtain⟨ca,ccap,hc2v,_,_⟩:=hW.com.len;rw[List.length_range]at hc2v;subst hc2v;have HW1:=hide hW;have His:=hide his;have Hkeys:=hide hkeys;clear hW his hkeys hil hmk;go_wp2_with fail;refine CS.out.mono ?_;rintro en w1 ⟨rfl,⟨Cm,hS,hR1⟩,hf1⟩;have h0:=HW1.out;have hMne:(Value.slice ca js.length ccap).ownBlock≠some (w.heap.size+1):=fun e=>by
    obtain⟨_,c,fr,e'⟩:=own_typed h0.com e;exact h0.map.m.noCells _ _ _ e'
   have hPne:(Value.slice ca js.length ccap).ownBlock≠some (w.heap.size+2):=fun e=>by
    obtain⟨_,c,fr,e'⟩:=own_typed h0.com e;rw[h0.pln]at e';simp at e'
   have HF:Hid (NpF l cyc pa pn pc w js bl es (.slice ca js.length ccap) Cm w1):=
    ⟨His.out,hf1.blk h0.pln hPne,h0.jobs.keep hf1 (fun k hk e=>own_not_job h0.com h0.jobs hk e),h0.map.keep hf1 hMne (fun x hx b hb e=>(h0.apart x hx b hb).2 e),hR1,hS,Hkeys.out,(fun x hx b hb=>(h0.apart x hx b hb).1),h0.low,h0.inj,h0.b.trans (hf1.below h0.b.size (fun k hk e=>by have:=(h0.com.lt k e).1;omega))⟩
   clear hS hR1 hf1 h0 HW1 CS p2 hMne hPne;go_wp2_with fail;go_ret;exact⟨rfl,js,bl,es,_,Cm,HF.out⟩
end
end Go.Proofs.YtbdffcjganlblaaGreatDoor
