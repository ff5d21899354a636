import Derived.Test.YtbdffcjganlblaaGreatDoorAPnJtoPnL
import Derived.Test.YtbdffcjganlblaaGreatDoorAEqvBtoPlA
import Derived.Test.YtbdffcjganlblaaGreatDoorARnMtoRefA
import Derived.Test.YtbdffcjganlblaaGreatDoorAMpStoPnA
set_option linter.unusedVariables false
set_option linter.unusedSimpArgs false
set_option maxRecDepth 100000
set_option maxHeartbeats 16000000
namespace Go.Proofs.YtbdffcjganlblaaGreatDoor
section
open Go.RowKit
def whyJ (js:List Jb) (cyc:Nat):Nat:=if goesJ js [] cyc 1=true then 7 else 6
theorem SetAt.bare {l:List (Tk×Nat)}{cyc g:Nat}{pa:Option Addr}{ps:List Pr}{w:World}(h:SetAt l cyc g pa ps w):SetAt l cyc g none [] w:=
 ⟨h.hg,h.hr,h.hn,h.hts,h.hcy,⟨fun p hp=>by simp at hp,fun p hp=>by simp at hp,fun p hp=>by simp at hp,by simp⟩,fun h0=>by simp at h0,fun gp e=>by simp at e⟩
def WhyOut (l:List (Tk×Nat)) (cyc:Nat) (w:World) (en:Ending) (w':World):Prop:=en=.returned (.int .i64 (whyJ (zJ cyc 0 (l.map Prod.fst)) cyc))/\Below w.heap.size w w'
theorem whyNone_any (l:List (Tk×Nat))(cyc g cap:Nat)(pa:Option Addr)(pc:Nat)(ps:List Pr)(w:World)(h:SetAt l cyc g pa ps w):
  Calls Tryz.prog 86 #[.agg #[.slice (some ⟨g,0,none⟩) l.length cap,.slice pa ps.length pc]] w (WhyOut l cyc w):=by
 have HS:=zW w #[.slice (some ⟨g,0,none⟩) l.length cap,.slice pa ps.length pc] 84;have HW:=hide (zN w (.cells #[.slice (some ⟨g,0,none⟩) l.length cap,.slice pa ps.length pc] 84));have s0:=zC HS;have CP:=hide ((h.bare.keep HW.out).plan cap 0 1 (Nat.le_refl _) (Nat.mod_one _));have hwh:Hid (whyJ (zJ cyc 0 (l.map Prod.fst)) cyc=if goesJ (zJ cyc 0 (l.map Prod.fst)) [] cyc 1=true then 7 else 6):=rfl;clear h;go_enter Tryz.func86,Tryz.ntmps86;go_wp2_with fail;refine CP.out.mono ?_;rintro en w2 ⟨fv,Pf',a',c',rfl,rfl,hF,hfs,hb2⟩;have HB:=hide (HW.out.trans (hb2.mono HW.out.size));clear hF hfs hb2 HW HS s0 CP;generalize goesJ (zJ cyc 0 (l.map Prod.fst)) [] cyc 1=gg at *;have HBa:Hid (∀o:Obj,Below w.heap.size w (w2.alloc o)):=fun o=>HB.out.alloc HB.out.size o
 cases gg with
 | true=>
  go_wp2_with fail;go_ret;exact⟨ret_int (by rw[hwh.out];rfl),HBa.out _⟩
 | false=>
  go_wp2_with fail;go_ret;exact⟨ret_int (by rw[hwh.out];rfl),HBa.out _⟩
def CompOut (l:List (Tk×Nat)) (cyc:Nat) (ps:List Pr) (w:World) (en:Ending) (w':World):Prop:=
 Below w.heap.size w w'/\((wideJ (zJ cyc 0 (l.map Prod.fst)) ps cyc cyc=0/\en=pan (whyJ (zJ cyc 0 (l.map Prod.fst)) cyc) 0)\/
  (0<wideJ (zJ cyc 0 (l.map Prod.fst)) ps cyc cyc/\∃(Pf:List (Value×List Sl)) (a:Option Addr) (c:Nat),en=.returned (.agg #[.int .i64 cyc,.int .i64 (wideJ (zJ cyc 0 (l.map Prod.fst)) ps cyc cyc),.slice a Pf.length c])/\FrM w' w.heap.size (.slice a Pf.length c) Pf/\Pf.map Prod.snd=(tabJ (zJ cyc 0 (l.map Prod.fst)) ps cyc (wideJ (zJ cyc 0 (l.map Prod.fst)) ps cyc cyc)).fs))
theorem compile_any (l:List (Tk×Nat))(cyc g cap:Nat)(pa:Option Addr)(pc:Nat)(ps:List Pr)(w:World)(h:SetAt l cyc g pa ps w):
  Calls Tryz.prog 51 #[.agg #[.slice (some ⟨g,0,none⟩) l.length cap,.slice pa ps.length pc]] w (CompOut l cyc ps w):=by
 have HS:Hid (((w.alloc (.cells #[.slice (some ⟨g,0,none⟩) l.length cap,.slice pa ps.length pc] 84)).alloc (.cells #[.int .i64 0,.int .i64 0,.slice none 0 0] 61)).heap[w.heap.size]? =some (.cells #[.slice (some ⟨g,0,none⟩) l.length cap,.slice pa ps.length pc] 84 (0,0))):=by
  unfold Hid;rw[Below.heap_alloc _ _ _ (by simp)];exact zW _ _ _
 have HT:Hid (((w.alloc (.cells #[.slice (some ⟨g,0,none⟩) l.length cap,.slice pa ps.length pc] 84)).alloc (.cells #[.int .i64 0,.int .i64 0,.slice none 0 0] 61)).heap[w.heap.size+1]? =some (.cells #[.int .i64 0,.int .i64 0,.slice none 0 0] 61 (0,0))):=by
  have:=zW (w.alloc (.cells #[.slice (some ⟨g,0,none⟩) l.length cap,.slice pa ps.length pc] 84)) #[.int .i64 0,.int .i64 0,.slice none 0 0] 61;unfold Hid;simpa using this
 have HW:=hide (((Below.refl _ w).alloc (Nat.le_refl _) (.cells #[.slice (some ⟨g,0,none⟩) l.length cap,.slice pa ps.length pc] 84)).alloc (by simp) (.cells #[.int .i64 0,.int .i64 0,.slice none 0 0] 61));have H:=hide h;have s0:=zC HS.out;clear h;go_enter Tryz.func51,Tryz.ntmps51;go_wp2_with fail;generalize (w.alloc (.cells #[.slice (some ⟨g,0,none⟩) l.length cap,.slice pa ps.length pc] 84)).alloc (.cells #[.int .i64 0,.int .i64 0,.slice none 0 0] 61)=wz at *;refine(planWidest_any l cyc g cap pa pc ps wz (H.out.keep HW.out)).mono ?_;rintro en w1 ⟨c0,f0,Pf,a,n,c,rfl,hb1,hok⟩;have hb2:Below wz.heap.size wz (w1.alloc (.cells #[.int .i64 c0,.int .i64 f0,.slice a n c] 61)):=hb1.alloc hb1.size _;have HS2:=hide (zK HS.out hb2);have HT2:=hide (zK HT.out hb2);have HB2:=hide (HW.out.trans (hb2.mono HW.out.size));have HX2:=hide (zW w1 #[.int .i64 c0,.int .i64 f0,.slice a n c] 61);have HH2:=hide (H.out.keep HB2.out);have hzw:w.heap.size+1<wz.heap.size:=zL HT.out;have hw1:wz.heap.size<=w1.heap.size:=hb1.size;have HOk:Hid (0<wideJ (zJ cyc 0 (l.map Prod.fst)) ps cyc cyc->c0=cyc/\f0=wideJ (zJ cyc 0 (l.map Prod.fst)) ps cyc cyc/\n=Pf.length/\FrM (w1.alloc (.cells #[.int .i64 c0,.int .i64 f0,.slice a n c] 61)) wz.heap.size (.slice a Pf.length c) Pf/\Pf.map Prod.snd=(tabJ (zJ cyc 0 (l.map Prod.fst)) ps cyc f0).fs):=fun h0=>by
  obtain⟨k1,k2,k3,k4,k5⟩:=hok h0;exact⟨k1,k2,k3,k4.below (zN _ _),k5⟩
 clear hb1 hb2 hok HS HT HW H s0;by_cases hw:0<wideJ (zJ cyc 0 (l.map Prod.fst)) ps cyc cyc
 .have hd:decide (0<wideJ (zJ cyc 0 (l.map Prod.fst)) ps cyc cyc)=true:=by simpa using hw
  rw[hd];have Hw:=hide hw;clear hd hw;go_upto_region 4 with fail;generalize w1.alloc (.cells #[.int .i64 c0,.int .i64 f0,.slice a n c] 61)=w2 at *;generalize w1.heap.size=X at *;have x0:w2.cell? ⟨X,0,none⟩=some (.int .i64 c0):=by rw[zC HX2.out];rfl
  have x1:w2.cell? ⟨X,1,none⟩=some (.int .i64 f0):=by rw[zC HX2.out];rfl
  have x2:w2.cell? ⟨X,2,none⟩=some (.slice a n c):=by rw[zC HX2.out];rfl
  have t0:=zC HT2.out;have tf:=zF HT2.out;have HRes:Hid (∀W:World,W=((w2.setCell ⟨w.heap.size+1,0,none⟩ (.int .i64 c0)).setCell ⟨w.heap.size+1,1,none⟩ (.int .i64 f0)).setCell ⟨w.heap.size+1,2,none⟩ (.slice a n c)->(∀o,W.cell? ⟨w.heap.size+1,o,none⟩=#[Value.int .i64 c0,.int .i64 f0,.slice a n c][o]?)/\CompOut l cyc ps w (.returned (.agg #[.int .i64 c0,.int .i64 f0,.slice a n c])) W):=by
   rintro W rfl;obtain⟨k1,k2,k3,k4,k5⟩:=HOk.out Hw.out;refine⟨fun o=>zC (by rw[zS (zS (zS HT2.out 0 _) 1 _) 2 _];rfl) o,((HB2.out.setCell (p:=⟨w.heap.size+1,0,none⟩) (by show w.heap.size<=w.heap.size+1;omega) _).setCell (p:=⟨w.heap.size+1,1,none⟩) (by show w.heap.size<=w.heap.size+1;omega) _).setCell (p:=⟨w.heap.size+1,2,none⟩) (by show w.heap.size<=w.heap.size+1;omega) _,.inr ⟨Hw.out,Pf,a,c,by rw[k1,←k2,k3],(((k4.setLow hzw 0 _).setLow hzw 1 _).setLow hzw 2 _).weak (by omega),by rw[←k2];exact k5⟩⟩
  clear HX2 HT2 HS2 HB2 HH2 HOk Hw;go_wp2_with fail
  all_goals
   obtain⟨y0,y1⟩:=HRes.out _ rfl;generalize ((w2.setCell ⟨w.heap.size+1,0,none⟩ (.int .i64 c0)).setCell ⟨w.heap.size+1,1,none⟩ (.int .i64 f0)).setCell ⟨w.heap.size+1,2,none⟩ (.slice a n c)=W at *;exact bodyPost_ret (by simp[results,Tryz.results51,go_sem,y0]) rfl y1
 .have hd:decide (0<wideJ (zJ cyc 0 (l.map Prod.fst)) ps cyc cyc)=false:=by simpa using hw
  rw[hd];have Hw:Hid (wideJ (zJ cyc 0 (l.map Prod.fst)) ps cyc cyc=0):=by unfold Hid;omega
  have s0:(w1.alloc (.cells #[.int .i64 c0,.int .i64 f0,.slice a n c] 61)).cell? ⟨w.heap.size,0,none⟩=some (.slice (some ⟨g,0,none⟩) l.length cap):=by rw[zC HS2.out];rfl
  have s1:(w1.alloc (.cells #[.int .i64 c0,.int .i64 f0,.slice a n c] 61)).cell? ⟨w.heap.size,1,none⟩=some (.slice pa ps.length pc):=by rw[zC HS2.out];rfl
  clear hd hw;go_upto_region 3 with fail;generalize w1.alloc (.cells #[.int .i64 c0,.int .i64 f0,.slice a n c] 61)=w2 at *;generalize w1.heap.size=X at *;go_wp2_with fail;refine(whyNone_any l cyc g cap pa pc ps w2 HH2.out).mono ?_;rintro en w3 ⟨rfl,hb3⟩;have HB3:=hide (HB2.out.trans (hb3.mono HB2.out.size));clear hb3 s0 s1;go_wp2_with fail;refine(refuse_any _ 0 _ rfl _).mono ?_;rintro e w' ⟨rfl,rfl⟩;exact⟨rfl,HB3.out,.inl ⟨Hw.out,rfl⟩⟩
end
theorem findF_spec (ts:List Tk)(c:UInt8):∀(f k:Nat),(0<=findF ts c f k->∃i:Nat,findF ts c f k=i/\k<=i/\i<k+f/\(tsk ts i).nm=c)/\(findF ts c f k<0->∀i,k<=i->i<k+f->(tsk ts i).nm≠c)
 | 0,k=>⟨fun h=>by simp[findF]at h,fun _ i h1 h2=>by omega⟩
 | f+1,k=>by
  have ih:=findF_spec ts c f (k+1);rw[findF];by_cases h:(tsk ts k).nm=c
  .rw[if_pos h];exact⟨fun _=>⟨k,rfl,Nat.le_refl _,by omega,h⟩,fun h2=>by omega⟩
  .rw[if_neg h];refine⟨fun h2=>?_,fun h2 i h3 h4=>?_⟩
   .obtain⟨i,a1,a2,a3,a4⟩:=ih.1 h2;exact⟨i,a1,by omega,by omega,a4⟩
   .by_cases e:i=k
    .rw[e];exact h
    .exact ih.2 h2 i (by omega) (by omega)
theorem tsk_get {ts:List Tk}{k:Nat}(h:k<ts.length):ts[k]=tsk ts k:=by
 unfold tsk;rw[List.getD_eq_getElem?_getD,List.getElem?_eq_getElem h];rfl
theorem lcm_dvd (h P:Nat)(hh:1<=h):h ∣ h/Nat.gcd h P*P/\P ∣ h/Nat.gcd h P*P:=by
 refine⟨?_,Nat.dvd_mul_left _ _⟩;have h1:=Nat.gcd_dvd_left h P;have h2:=Nat.gcd_dvd_right h P;obtain⟨q,hq⟩:=h2;have h3:h/Nat.gcd h P*P=h*q:=by
  have:h/Nat.gcd h P*P=h/Nat.gcd h P*(Nat.gcd h P*q):=by rw[←hq]
  rw[this,←Nat.mul_assoc,Nat.div_mul_cancel h1]
 rw[h3];exact Nat.dvd_mul_right _ _
theorem cycF_ok (ts:List Tk):∀(f k h:Nat),1<=h->h<=60->(∀i,k<=i->i<k+f->1<=(tsk ts i).P)->cycF ts f k h≠0->1<=cycF ts f k h/\cycF ts f k h<=60/\h ∣ cycF ts f k h/\∀i,k<=i->i<k+f->(tsk ts i).P ∣ cycF ts f k h
 | 0,k,h,h1,h2,_,_=>⟨h1,h2,Nat.dvd_refl _,fun i a b=>by omega⟩
 | f+1,k,h,h1,h2,hP,hne=>by
  rw[cycF]at hne ⊢;by_cases h6:60<h/Nat.gcd h (tsk ts k).P*(tsk ts k).P
  .rw[if_pos h6]at hne;exact absurd rfl hne
  .rw[if_neg h6]at hne ⊢;have hd:=lcm_dvd h (tsk ts k).P h1;obtain⟨a1,a2,a3,a4⟩:=cycF_ok ts f (k+1) _ (lcm_pos h _ h1 (hP k (Nat.le_refl _) (by omega))) (by omega) (fun i b1 b2=>hP i (by omega) (by omega)) hne;refine⟨a1,a2,Nat.dvd_trans hd.1 a3,fun i b1 b2=>?_⟩;by_cases e:i=k
   .rw[e];exact Nat.dvd_trans hd.2 a3
   .exact a4 i (by omega) (by omega)
theorem timed_all {t:Tk}(h:timedI t<0):1<=t.P/\1<=t.C/\t.C<=t.D/\t.O+t.D<=t.P:=by
 unfold timedI at h
 repeat (split at h;omega)
 omega
theorem ckP_none {l:List (Tk×Nat)}{ps:List Pr}:∀(f k:Nat),ckP l ps f k=none->∀j,k<=j->j<k+f->pE l (psk ps j)=none
 | 0,k,_,j,h1,h2=>by omega
 | f+1,k,h,j,h1,h2=>by
  rw[ckP]at h
  cases ht:pE l (psk ps k) with
  | some x=>rw[ht]at h;simp at h
  | none=>
   rw[ht]at h;by_cases e:j=k
   .rw[e];exact ht
   .exact ckP_none f (k+1) h j (by omega) (by omega)
structure PairT (ts:List Tk) (p:Pr) (i j:Nat):Prop where
 fa:findI ts p.a=i
 fb:findI ts p.b=j
 hi:i<ts.length
 hj:j<ts.length
 a:(tsk ts i).nm=p.a
 b:(tsk ts j).nm=p.b
 ne:i≠j
 bef:p.ap=false->(tsk ts i).P=(tsk ts j).P
theorem pE_none {l:List (Tk×Nat)}{p:Pr}(h:pE l p=none):∃i j,PairT (l.map Prod.fst) p i j:=by
 have ef:∀c,findL l c l.length 0=findI (l.map Prod.fst) c:=fun c=>by
  rw[findL_F];unfold findI;rw[List.length_map]
 unfold pE at h;simp only[ef,lk_fst]at h;split at h
 .simp at h
 .split at h
  .simp at h
  .split at h
   .simp at h
   .split at h
    .simp at h
    .rename_i h1 h2 h3 h4;obtain⟨i,a1,a2,a3,a4⟩:=(findF_spec (l.map Prod.fst) p.a (l.map Prod.fst).length 0).1 (by unfold findI at h1;omega);obtain⟨j,b1,b2,b3,b4⟩:=(findF_spec (l.map Prod.fst) p.b (l.map Prod.fst).length 0).1 (by unfold findI at h2;omega);have e1:findI (l.map Prod.fst) p.a=i:=a1;have e2:findI (l.map Prod.fst) p.b=j:=b1;rw[e1,e2]at h3 h4;refine⟨i,j,e1,e2,by omega,by omega,a4,b4,by omega,fun hap=>?_⟩;simp only[Int.toNat_natCast]at h4;exact Classical.byContradiction (fun hne=>h4 ⟨hap,hne⟩)
theorem check_right {l:List (Tk×Nat)}{ps:List Pr}(h:checkR l ps=none)(hn:l.length<=6)(hm:ps.length<=6):TsOk (l.map Prod.fst) (cycI (l.map Prod.fst))/\PrOk l (cycI (l.map Prod.fst)) ps/\∀p∈ps,∃i j,PairT (l.map Prod.fst) p i j:=by
 unfold checkR at h
 cases hc:ckT l l.length 0 with
 | some x=>rw[hc]at h;simp at h
 | none=>
  rw[hc]at h;simp only at h
  cases hp:ckP l ps ps.length 0 with
  | some x=>rw[hp]at h;simp at h
  | none=>
   rw[hp]at h;simp only at h;have hnz:cycI (l.map Prod.fst)≠0:=fun e=>by rw[if_pos e]at h;simp at h
   have hT:=fun k (hk:k<l.length)=>ckT_none l.length 0 hc k (by omega) (by omega);have hlen:(l.map Prod.fst).length=l.length:=List.length_map _;have htm:∀k,k<(l.map Prod.fst).length->timedI (tsk (l.map Prod.fst) k)<0:=fun k hk=>by
    have:=tE_none (hT k (by omega));rw[lk_fst]at this;exact this
   have hge:∀k (hk:k<(l.map Prod.fst).length),(l.map Prod.fst)[k]=tsk (l.map Prod.fst) k:=fun k hk=>tsk_get hk;obtain⟨c1,c2,_,c4⟩:=cycF_ok (l.map Prod.fst) (l.map Prod.fst).length 0 1 (Nat.le_refl _) (by omega) (fun i _ h2=>(timed_all (htm i (by omega))).1) hnz;have hts:TsOk (l.map Prod.fst) (cycI (l.map Prod.fst)):=by
    refine⟨?_,by omega,c1,c2,fun t ht=>?_⟩
    .rw[List.Nodup,List.pairwise_iff_getElem];intro i j hi hj hij e;have hj':j<l.length:=by simpa using hj
     have hi':i<(l.map Prod.fst).length:=by simpa using hi
     have hjm:j<(l.map Prod.fst).length:=by simpa using hj
     have e:((l.map Prod.fst)[i]).nm=((l.map Prod.fst)[j]).nm:=by simpa using e
     rw[hge i hi',hge j hjm]at e;have h5:=hT j hj';unfold tE at h5;rw[lk_fst,findL_F]at h5;split at h5
     .simp at h5
     .rename_i h6;exact(findF_spec (l.map Prod.fst) _ j 0).2 (by omega) i (by omega) (by omega) e
    .obtain⟨k,hk,rfl⟩:=List.getElem_of_mem ht;rw[hge k hk];have h5:=timed_all (htm k hk);exact⟨h5.1,Nat.mod_eq_zero_of_dvd (c4 k (by omega) (by omega)),h5.2.1,h5.2.2.1,h5.2.2.2⟩
   have hpr:∀p∈ps,∃i j,PairT (l.map Prod.fst) p i j:=fun p hpp=>by
    obtain⟨k,hk,rfl⟩:=List.getElem_of_mem hpp;have h5:=ckP_none ps.length 0 hp k (by omega) (by omega);have e:psk ps k=ps[k]:=by simp[psk,List.getD_eq_getElem?_getD,hk]
    rw[e]at h5;exact pE_none h5
   have hin:∀ {k:Nat} {c:UInt8},k<(l.map Prod.fst).length->(tsk (l.map Prod.fst) k).nm=c->c∈l.map (·.1.nm):=fun {k c} hk e=>by
    rw[←e,←hge k hk];have hk':k<l.length:=by simpa using hk
    exact List.mem_map.2 ⟨l[k],List.getElem_mem _,by simp⟩
   refine⟨hts,⟨fun p hpp=>?_,fun p hpp=>?_,fun p hpp hap i j hi hj ea eb=>?_,hm⟩,hpr⟩
   .obtain⟨i,j,P⟩:=hpr p hpp;exact hin P.hi P.a
   .obtain⟨i,j,P⟩:=hpr p hpp;exact hin P.hj P.b
   .obtain⟨i',j',P⟩:=hpr p hpp;have hi':i<(l.map Prod.fst).length:=by simpa using hi
    have hj':j<(l.map Prod.fst).length:=by simpa using hj
    have g1:(l.map Prod.fst)[i]=l[i].1:=by simp
    have g2:(l.map Prod.fst)[j]=l[j].1:=by simp
    have e1:i=i':=names_inj hts.name hi' P.hi (by rw[hge i' P.hi,P.a,g1];exact ea);have e2:j=j':=names_inj hts.name hj' P.hj (by rw[hge j' P.hj,P.b,g2];exact eb);have hb:=P.bef hap;rw[←e1,←e2,←hge i hi',←hge j hj',g1,g2]at hb;exact hb
def cntS (f:Nat->Option Nat) (k s:Nat):Nat->Nat
 | 0=>0
 | m+1=>(if f s=some k then 1 else 0)+cntS f k (s+1) m
def updS (f:Nat->Option Nat) (p:Nat) (v:Option Nat):Nat->Option Nat:=fun u=>if u=p then v else f u
theorem cntS_same {f g:Nat->Option Nat}(k:Nat):∀(m s:Nat),(∀u,s<=u->u<s+m->f u=g u)->cntS f k s m=cntS g k s m
 | 0,_,_=>rfl
 | m+1,s,h=>by
  rw[cntS,cntS,h s (Nat.le_refl _) (by omega),cntS_same k m (s+1) (fun u h1 h2=>h u (by omega) (by omega))]
theorem cntS_upd (f:Nat->Option Nat)(k p:Nat)(v:Option Nat):∀(m s:Nat),s<=p->p<s+m->cntS (updS f p v) k s m+(if f p=some k then 1 else 0)=cntS f k s m+(if v=some k then 1 else 0)
 | 0,s,h1,h2=>by omega
 | m+1,s,h1,h2=>by
  rw[cntS,cntS];by_cases e:s=p
  .subst e;have h3:cntS (updS f s v) k (s+1) m=cntS f k (s+1) m:=cntS_same k m (s+1) (fun u h1 h2=>by unfold updS;rw[if_neg (by omega)]);have h4:updS f s v s=v:=by simp[updS]
   rw[h3,h4];omega
  .have ih:=cntS_upd f k p v m (s+1) (by omega) (by omega);have h4:updS f p v s=f s:=by simp[updS,e]
   rw[h4];omega
theorem cntS_pos {f:Nat->Option Nat}{k:Nat}:∀(m s:Nat),0<cntS f k s m->∃u,s<=u/\u<s+m/\f u=some k
 | 0,s,h=>by simp[cntS]at h
 | m+1,s,h=>by
  rw[cntS]at h;by_cases e:f s=some k
  .exact⟨s,Nat.le_refl _,by omega,e⟩
  .rw[if_neg e]at h;obtain⟨u,h1,h2,h3⟩:=cntS_pos (f:=f) (k:=k) m (s+1) (by omega);exact⟨u,by omega,by omega,h3⟩
def DoneBy (n:Nat) (r d left:Nat->Nat) (s m:Nat):Prop:=
 ∃f:Nat->Option Nat,(∀u k,s<=u->u<s+m->f u=some k->k<n/\r k<=u/\u<d k)/\∀k,k<n->cntS f k s m=left k
def Least (n:Nat) (r d left:Nat->Nat) (s k:Nat):Prop:=k<n/\r k<=s/\0<left k/\∀j,j<n->r j<=s->0<left j->d k<=d j
def lessN (left:Nat->Nat) (k:Nat):Nat->Nat:=fun j=>if j=k then left j-1 else left j
theorem done_pick {n:Nat}{r d left:Nat->Nat}{s m k:Nat}(h:DoneBy n r d left s (m+1))(hk:Least n r d left s k):s<d k/\DoneBy n r d (lessN left k) (s+1) m:=by
 obtain⟨f,hf,hc⟩:=h;obtain⟨hkn,hkr,hkl,hmin⟩:=hk;have hck:=hc k hkn;obtain⟨p,hp1,hp2,hp3⟩:=cntS_pos (f:=f) (k:=k) (m+1) s (by omega);have hpk:=hf p k hp1 hp2 hp3;refine⟨by omega,?_⟩;by_cases e:p=s
 .subst e;refine⟨f,fun u j h1 h2=>hf u j (by omega) (by omega),fun j hj=>?_⟩;have:=hc j hj;rw[cntS,hp3]at this;unfold lessN;by_cases ej:j=k
  .subst ej;rw[if_pos rfl]at this ⊢;omega
  .rw[if_neg (fun x=>ej (by injection x with x;exact x.symm))]at this;rw[if_neg ej];omega
 ·
  by_cases es:f s=some k
  .refine⟨f,fun u j h1 h2=>hf u j (by omega) (by omega),fun j hj=>?_⟩;have:=hc j hj;rw[cntS,es]at this;unfold lessN;by_cases ej:j=k
   .subst ej;rw[if_pos rfl]at this ⊢;omega
   .rw[if_neg (fun x=>ej (by injection x with x;exact x.symm))]at this;rw[if_neg ej];omega
  .refine⟨updS f p (f s),?_,?_⟩
   .intro u j h1 h2 hu;unfold updS at hu;by_cases eu:u=p
    .rw[if_pos eu]at hu;have hj:=hf s j (Nat.le_refl _) (by omega) hu;have hjl:0<left j:=by
      have:=hc j hj.1;rw[cntS,hu,if_pos rfl]at this;omega
     have:=hmin j hj.1 (by omega) hjl;refine⟨hj.1,by omega,by omega⟩
    .rw[if_neg eu]at hu;exact hf u j (by omega) (by omega) hu
   .intro j hj;have h1:=cntS_upd f j p (f s) m (s+1) (by omega) (by omega);have h2:=hc j hj;rw[cntS]at h2;unfold lessN;by_cases ej:j=k
    .subst ej;rw[if_pos hp3,if_neg es]at h1;rw[if_neg es]at h2;rw[if_pos rfl];omega
    .rw[if_neg (by rw[hp3];intro x;injection x with x;exact ej x.symm)]at h1;rw[if_neg ej];omega
theorem done_idle {n:Nat}{r d left:Nat->Nat}{s m:Nat}(h:DoneBy n r d left s (m+1))(hno:∀k,k<n->r k<=s->left k=0):DoneBy n r d left (s+1) m:=by
 obtain⟨f,hf,hc⟩:=h;refine⟨f,fun u j h1 h2=>hf u j (by omega) (by omega),fun j hj=>?_⟩;have h2:=hc j hj;rw[cntS]at h2;by_cases e:f s=some j
 .have hj2:=hf s j (Nat.le_refl _) (by omega) e;have:=hno j hj hj2.2.1;rw[if_pos e]at h2;omega
 .rw[if_neg e]at h2;omega
theorem done_end {n:Nat}{r d left:Nat->Nat}{s:Nat}(h:DoneBy n r d left s 0):∀k,k<n->left k=0:=by
 obtain⟨f,_,hc⟩:=h;intro k hk;rw[←hc k hk];rfl
theorem done_back {n:Nat}{r d left:Nat->Nat}{s m k:Nat}(hk:k<n)(hr:r k<=s)(hd:s<d k)(hl:0<left k)(h:DoneBy n r d (lessN left k) (s+1) m):DoneBy n r d left s (m+1):=by
 obtain⟨f,hf,hc⟩:=h;refine⟨updS f s (some k),?_,?_⟩
 .intro u j h1 h2 hu;unfold updS at hu;by_cases eu:u=s
  .rw[if_pos eu]at hu;injection hu with hu;subst hu;exact⟨hk,by omega,by omega⟩
  .rw[if_neg eu]at hu;exact hf u j (by omega) (by omega) hu
 .intro j hj;have h1:cntS (updS f s (some k)) j (s+1) m=cntS f j (s+1) m:=cntS_same j m (s+1) (fun u h1 h2=>by unfold updS;rw[if_neg (by omega)]);have h2:updS f s (some k) s=some k:=by simp[updS]
  have h3:=hc j hj;rw[cntS,h1,h2,h3];unfold lessN;by_cases ej:j=k
  .subst ej;rw[if_pos rfl,if_pos rfl];omega
  .rw[if_neg (fun x=>ej (by injection x with x;exact x.symm)),if_neg ej];omega
theorem done_wait {n:Nat}{r d left:Nat->Nat}{s m:Nat}(h:DoneBy n r d left (s+1) m):DoneBy n r d left s (m+1):=by
 obtain⟨f,hf,hc⟩:=h;refine⟨updS f s none,?_,?_⟩
 .intro u j h1 h2 hu;unfold updS at hu;by_cases eu:u=s
  .rw[if_pos eu]at hu
   cases hu
  .rw[if_neg eu]at hu;exact hf u j (by omega) (by omega) hu
 .intro j hj;have h1:cntS (updS f s none) j (s+1) m=cntS f j (s+1) m:=cntS_same j m (s+1) (fun u h1 h2=>by unfold updS;rw[if_neg (by omega)]);have h2:updS f s none s=none:=by simp[updS]
  rw[cntS,h1,h2,hc j hj];simp
def sumN (f:Nat->Nat):Nat->Nat
 | 0=>0
 | n+1=>sumN f n+f n
theorem sumN_same {f g:Nat->Nat}:∀n,(∀i,i<n->f i=g i)->sumN f n=sumN g n
 | 0,_=>rfl
 | n+1,h=>by rw[sumN,sumN,sumN_same n (fun i hi=>h i (by omega)),h n (by omega)]
theorem sumN_le {f g:Nat->Nat}:∀n,(∀i,i<n->f i<=g i)->sumN f n<=sumN g n
 | 0,_=>Nat.le_refl _
 | n+1,h=>by
  have h1:=sumN_le n (fun i hi=>h i (by omega));have h2:=h n (by omega);rw[sumN,sumN];omega
theorem sumN_lt {f g:Nat->Nat}{p:Nat}:∀n,p<n->(∀i,i<n->f i<=g i)->f p<g p->sumN f n<sumN g n
 | 0,h,_,_=>by omega
 | n+1,h,hle,hp=>by
  rw[sumN,sumN];by_cases e:p=n
  .subst e;have:=sumN_le p (fun i hi=>hle i (by omega));omega
  .have:=sumN_lt n (by omega) (fun i hi=>hle i (by omega)) hp;have:=hle n (by omega);omega
theorem sumN_zero:∀n,sumN (fun _=>0) n=0
 | 0=>rfl
 | n+1=>by rw[sumN,sumN_zero n]
theorem sumN_add (f g:Nat->Nat):∀n,sumN (fun i=>f i+g i) n=sumN f n+sumN g n
 | 0=>rfl
 | n+1=>by rw[sumN,sumN,sumN,sumN_add f g n];omega
theorem sumN_comm (x:Nat->Nat->Nat)(J:Nat):∀n,sumN (fun j=>sumN (fun k=>x k j) J) n=sumN (fun k=>sumN (fun j=>x k j) n) J
 | 0=>by
  rw[sumN];exact(sumN_zero J).symm
 | n+1=>by
  rw[sumN,sumN_comm x J n,←sumN_add];rfl
def Flows (J n F:Nat) (fit:Nat->Nat->Bool) (cost:Nat->Nat):Prop:=
 ∃x:Nat->Nat->Nat,(∀k j,k<J->j<n->fit k j=false->x k j=0)/\(∀j,j<n->sumN (fun k=>x k j) J<=F)/\∀k,k<J->sumN (fun j=>x k j) n=cost k
theorem flow_stuck {J n F:Nat}{fit:Nat->Nat->Bool}{cost:Nat->Nat}{has:Nat->Nat->Nat}{S:Nat->Bool}{p:Nat}(hp:p<J)
  (h1:∀k j,k<J->j<n->fit k j=false->has k j=0) (h2:∀j,j<n->S j=true->sumN (fun k=>has k j) J=F)
  (h3:∀j,j<n->S j=true->∀k,k<J->0<has k j->∀i,i<n->fit k i=true->S i=true) (h4:∀i,i<n->fit p i=true->S i=true)
  (h5:∀k,k<J->sumN (fun j=>has k j) n<=cost k) (h6:sumN (fun j=>has p j) n<cost p):¬Flows J n F fit cost:=by
 rintro ⟨x,hx1,hx2,hx3⟩;have hA:sumN (fun j=>sumN (fun k=>if S j then x k j else 0) J) n<=sumN (fun j=>sumN (fun k=>if S j then has k j else 0) J) n:=by
  apply sumN_le;intro j hj
  cases hS:S j with
  | true=>
   simp only[if_true];rw[h2 j hj hS];exact hx2 j hj
  | false=>
   simp only[Bool.false_eq_true,if_false];exact Nat.le_refl _
 rw[sumN_comm (fun k j=>if S j then x k j else 0),sumN_comm (fun k j=>if S j then has k j else 0)]at hA;have full:∀k,k<J->(∀i,i<n->fit k i=true->S i=true)->sumN (fun j=>if S j then has k j else 0) n=sumN (fun j=>has k j) n/\sumN (fun j=>if S j then x k j else 0) n=cost k:=by
  intro k hk hS;refine⟨sumN_same n (fun j hj=>?_),?_⟩
  .cases hj2:S j with
   | true=>rfl
   | false=>
    have hf:fit k j=false:=by
     cases hf:fit k j with
     | false=>rfl
     | true=>rw[hS j hj hf]at hj2;cases hj2
    simp only[Bool.false_eq_true,if_false];exact(h1 k j hk hj hf).symm
  .rw[←hx3 k hk];refine sumN_same n (fun j hj=>?_)
   cases hj2:S j with
   | true=>rfl
   | false=>
    have hf:fit k j=false:=by
     cases hf:fit k j with
     | false=>rfl
     | true=>rw[hS j hj hf]at hj2;cases hj2
    simp only[Bool.false_eq_true,if_false];exact(hx1 k j hk hj hf).symm
 have hle:∀k,k<J->sumN (fun j=>if S j then has k j else 0) n<=sumN (fun j=>if S j then x k j else 0) n:=by
  intro k hk;by_cases hr:∃j,j<n/\S j=true/\0<has k j
  .obtain⟨j,hj,hS,hh⟩:=hr;obtain⟨e1,e2⟩:=full k hk (fun i hi hf=>h3 j hj hS k hk hh i hi hf);rw[e1,e2];exact h5 k hk
  .have e0:sumN (fun j=>if S j then has k j else 0) n=0:=by
    refine(sumN_same n (fun j hj=>?_)).trans (sumN_zero n)
    cases hS:S j with
    | false=>rfl
    | true=>
     simp only[if_true];rcases Nat.eq_zero_or_pos (has k j) with h|h
     .exact h
     .exact absurd ⟨j,hj,hS,h⟩ hr
   rw[e0];exact Nat.zero_le _
 have hlt:sumN (fun j=>if S j then has p j else 0) n<sumN (fun j=>if S j then x p j else 0) n:=by
  obtain⟨e1,e2⟩:=full p hp h4;rw[e1,e2];exact h6
 have:=sumN_lt J hp hle hlt;omega
theorem done_same {n:Nat}{r d left left':Nat->Nat}{s m:Nat}(h:DoneBy n r d left s m)(e:∀k,k<n->left k=left' k):DoneBy n r d left' s m:=by
 obtain⟨f,hf,hc⟩:=h;exact⟨f,hf,fun k hk=>by rw[hc k hk,e k hk]⟩
theorem done_waits {n:Nat}{r d left:Nat->Nat}{m:Nat}:∀F s,DoneBy n r d left (s+F) m->DoneBy n r d left s (m+F)
 | 0,s,h=>h
 | F+1,s,h=>by
  have:=done_waits (n:=n) (r:=r) (d:=d) (left:=left) (m:=m) F (s+1) (by rw[show s+1+F=s+(F+1) by omega];exact h);exact done_wait this
theorem sumN_pos {f:Nat->Nat}:∀n,0<sumN f n->∃i,i<n/\0<f i
 | 0,h=>by simp[sumN]at h
 | n+1,h=>by
  rw[sumN]at h;by_cases e:0<f n
  .exact⟨n,by omega,e⟩
  .obtain⟨i,hi,h2⟩:=sumN_pos (f:=f) n (by omega);exact⟨i,by omega,h2⟩
theorem sumN_less {f:Nat->Nat}{k:Nat}(hk:0<f k):∀n,k<n->sumN (lessN f k) n+1=sumN f n
 | 0,h=>by omega
 | n+1,h=>by
  rw[sumN,sumN];by_cases e:n=k
  .subst e;have h1:sumN (lessN f n) n=sumN f n:=sumN_same n (fun i hi=>by unfold lessN;rw[if_neg (by omega)]);have h2:lessN f n n=f n-1:=by simp[lessN]
   rw[h1,h2];omega
  .have ih:=sumN_less hk n (by omega);have h2:lessN f k n=f n:=by simp[lessN,e]
   rw[h2];omega
theorem done_frame {J:Nat}{r d left:Nat->Nat}{m:Nat}:∀(F:Nat) (y:Nat->Nat) (s:Nat),sumN y J<=F->(∀k,k<J->0<y k->r k<=s/\s+F<=d k)->DoneBy J r d left (s+F) m->DoneBy J r d (fun k=>left k+y k) s (m+F)
 | 0,y,s,hy,hw,h=>by
  refine done_same h (fun k hk=>?_);rcases Nat.eq_zero_or_pos (y k) with e|e
  .rw[e];rfl
  .exfalso;have:=sumN_lt (f:=fun _=>0) (g:=y) J hk (fun i _=>Nat.zero_le _) e;rw[sumN_zero]at this;omega
 | F+1,y,s,hy,hw,h=>by
  by_cases h0:0<sumN y J
  .obtain⟨k,hk,hy0⟩:=sumN_pos J h0;have hl:=sumN_less hy0 J hk;have ih:=done_frame (J:=J) (r:=r) (d:=d) (left:=left) (m:=m) F (lessN y k) (s+1) (by omega) (fun j hj hj0=>by
    have hyj:0<y j:=by
     unfold lessN at hj0;split at hj0<;>omega
    have:=hw j hj hyj;omega) (by rw[show s+1+F=s+(F+1) by omega];exact h)
   have hwk:=hw k hk hy0;refine done_back (k:=k) hk hwk.1 (by omega) (by show 0<left k+y k;omega) (done_same ih (fun j hj=>?_));unfold lessN;by_cases e:j=k
   .subst e;rw[if_pos rfl,if_pos rfl];show left j+(y j-1)=left j+y j-1;omega
   .rw[if_neg e,if_neg e]
  .refine done_waits (F+1) s (done_same h (fun k hk=>?_));rcases Nat.eq_zero_or_pos (y k) with e|e
   .rw[e];rfl
   .exfalso;have:=sumN_lt (f:=fun _=>0) (g:=y) J hk (fun i _=>Nat.zero_le _) e;rw[sumN_zero]at this;omega
theorem flows_done {J n F:Nat}{fit:Nat->Nat->Bool}{cost r d:Nat->Nat}(hfit:∀k j,k<J->j<n->fit k j=true->r k<=j*F/\(j+1)*F<=d k)(h:Flows J n F fit cost):DoneBy J r d cost 0 (n*F):=by
 obtain⟨x,h1,h2,h3⟩:=h;have key:∀q,q<=n->DoneBy J r d (fun k=>sumN (fun j=>x k (n-q+j)) q) ((n-q)*F) (q*F):=by
  intro q
  induction q with
  | zero=>
   intro _;rw[Nat.zero_mul];exact⟨fun _=>none,fun u k h4 h5=>by omega,fun k hk=>rfl⟩
  | succ q ih=>
   intro hq;have ih:=ih (by omega);have e1:n-(q+1)+1=n-q:=by omega
   have:=done_frame (J:=J) (r:=r) (d:=d) (left:=fun k=>sumN (fun j=>x k (n-q+j)) q) (m:=q*F) F (fun k=>x k (n-(q+1))) ((n-(q+1))*F) (h2 _ (by omega)) (fun k hk h0=>by
    have hf:fit k (n-(q+1))=true:=by
     cases hf:fit k (n-(q+1)) with
     | true=>rfl
     | false=>rw[h1 k _ hk (by omega) hf]at h0;omega
    have:=hfit k _ hk (by omega) hf;rw[Nat.succ_mul]at this;exact this) (by rw[show (n-(q+1))*F+F=(n-q)*F by rw[←e1,Nat.succ_mul]];exact ih)
   rw[Nat.succ_mul];refine done_same this (fun k hk=>?_);have split:∀(f:Nat->Nat) (q:Nat),sumN f (q+1)=f 0+sumN (fun j=>f (j+1)) q:=by
    intro f q
    induction q with
    | zero=>simp[sumN]
    | succ q ih2=>rw[sumN,ih2,sumN];omega
   rw[split (fun j=>x k (n-(q+1)+j)) q];have e2:sumN (fun j=>x k (n-(q+1)+(j+1))) q=sumN (fun j=>x k (n-q+j)) q:=sumN_same q (fun j hj=>by rw[show n-(q+1)+(j+1)=n-q+j by omega]);rw[e2];show sumN (fun j=>x k (n-q+j)) q+x k (n-(q+1))=x k (n-(q+1))+sumN (fun j=>x k (n-q+j)) q;omega
 have:=key n (Nat.le_refl _);rw[Nat.sub_self,Nat.zero_mul]at this;refine done_same this (fun k hk=>?_);rw[←h3 k hk];exact sumN_same n (fun j hj=>by rw[Nat.zero_add])
def rUp (F x:Nat):Nat:=(x+F-1)/F*F
def dDn (F x:Nat):Nat:=x/F*F
theorem up_iff {F q u x:Nat}(hF:1<=F)(h1:q*F<=u)(h2:u<q*F+F):rUp F x<=u↔x<=q*F:=by
 unfold rUp;have e1:(x+F-1)/F<=q↔x<=q*F:=by
  rw[←Nat.lt_succ_iff,Nat.div_lt_iff_lt_mul (by omega),Nat.succ_mul];omega
 rw[←e1];constructor
 .intro h;apply Nat.le_of_lt_succ;apply Nat.lt_of_mul_lt_mul_right (a:=F);rw[Nat.succ_mul];omega
 .intro h;have:=Nat.mul_le_mul_right F h;omega
theorem dn_iff {F q u x:Nat}(hF:1<=F)(h1:q*F<=u)(h2:u<q*F+F):u<dDn F x↔q*F+F<=x:=by
 unfold dDn;have e1:q+1<=x/F↔q*F+F<=x:=by
  rw[Nat.le_div_iff_mul_le (by omega),Nat.succ_mul]
 rw[←e1];constructor
 .intro h;apply Nat.lt_of_mul_lt_mul_right (a:=F);omega
 .intro h;have:=Nat.mul_le_mul_right F h;rw[Nat.succ_mul]at this;omega
theorem dn_mono {F x y:Nat}(h:x<=y):dDn F x<=dDn F y:=Nat.mul_le_mul_right _ (Nat.div_le_div_right h)
section
variable {js:List Jb} {cyc F:Nat}
def rF (js:List Jb) (F:Nat):Nat->Nat:=fun k=>rUp F (jk js k).rel
def dF (js:List Jb) (F:Nat):Nat->Nat:=fun k=>dDn F (jk js k).dl
theorem may_nil (left:Nat->Nat)(e k:Nat):mayJ js [] left e k=decide (e<=(jk js k).dl):=by simp[mayJ]
theorem pick_least (hj:JsOk js cyc)(hF:1<=F){q a m:Nat}{left:Nat->Nat}(h1:q*F<=a)(h2:a<q*F+F)(h:DoneBy js.length (rF js F) (dF js F) left a (m+1)):
  (∀k,pickJ js [] left (q*F) (q*F+F)=some k->Least js.length (rF js F) (dF js F) left a k)/\(pickJ js [] left (q*F) (q*F+F)=none->∀k,k<js.length->rF js F k<=a->left k=0):=by
 have hup:∀k,rF js F k<=a↔(jk js k).rel<=q*F:=fun k=>up_iff hF h1 h2;have hdn:∀k,a<dF js F k↔q*F+F<=(jk js k).dl:=fun k=>dn_iff hF h1 h2;have hl:∀j,j<js.length->rF js F j<=a->0<left j->∃k,Least js.length (rF js F) (dF js F) left a k:=by
  intro j a1 a2 a3
  cases hb:leastB (dF js F) ((List.range js.length).filter fun k=>decide (rF js F k<=a)&&decide (0<left k)) with
  | none=>
   have h3:=leastB_none hb;have h4:j ∉ (List.range js.length).filter fun k=>decide (rF js F k<=a)&&decide (0<left k):=by rw[h3];simp
   simp only[List.mem_filter,List.mem_range,Bool.and_eq_true,decide_eq_true_eq]at h4;exact absurd ⟨a1,a2,a3⟩ h4
  | some k=>
   obtain⟨h3,h4⟩:=leastB_some hb;simp only[List.mem_filter,List.mem_range,Bool.and_eq_true,decide_eq_true_eq]at h3 h4;exact⟨k,h3.1,h3.2.1,h3.2.2,fun i b1 b2 b3=>h4 i ⟨b1,b2,b3⟩⟩
 have hall:∀j,j<js.length->rF js F j<=a->0<left j->mayJ js [] left (q*F+F) j=true:=by
  intro j a1 a2 a3;obtain⟨k,hk⟩:=hl j a1 a2 a3;have h5:=(done_pick h hk).1;have h6:=hk.2.2.2 j a1 a2 a3;rw[may_nil,decide_eq_true_eq];exact(hdn j).1 (by omega)
 refine⟨fun k hp=>?_,fun hp k a1 a2=>?_⟩
 .obtain⟨p1,p2,p3,p4,p5,p6⟩:=pick_some hp;refine⟨p1,(hup k).2 p2,p3,fun j a1 a2 a3=>?_⟩;have h7:=p6 j a1 ((hup j).1 a2) a3 (hall j a1 a2 a3);unfold keyJ at h7;have:=hj.low k p1;have:=hj.low j a1;exact dn_mono (by omega)
 .rcases Nat.eq_zero_or_pos (left k) with h0|h0
  .exact h0
  .have h8:=pick_none hp k a1 ((hup k).1 a2) h0;rw[hall k a1 a2 h0]at h8;simp at h8
theorem least_same {n:Nat}{r d left left':Nat->Nat}{s s' k:Nat}(h:Least n r d left s k)(hr:∀j,j<n->(r j<=s'↔r j<=s))(hl:∀j,j≠k->left' j=left j)(hk:0<left' k):Least n r d left' s' k:=
 ⟨h.1,(hr k h.1).2 h.2.1,hk,fun j a b c=>by
  by_cases e:j=k
  .rw[e];exact Nat.le_refl _
  .rw[hl j e]at c;exact h.2.2.2 j a ((hr j a).1 b) c⟩
theorem done_units (hF:1<=F){q k:Nat}:∀(b a m:Nat) (left:Nat->Nat),q*F<=a->a+b<=q*F+F->b<=left k->DoneBy js.length (rF js F) (dF js F) left a (m+b)->(0<b->Least js.length (rF js F) (dF js F) left a k)->DoneBy js.length (rF js F) (dF js F) (updL left k (left k-b)) (a+b) m
 | 0,a,m,left,_,_,_,h,_=>done_same h (fun j _=>by unfold updL;split<;>simp_all)
 | b+1,a,m,left,h1,h2,h3,h,hL=>by
  have hk:=hL (by omega);have h4:=(done_pick (m:=m+b) h hk).2;have hup:∀j,j<js.length->(rF js F j<=a+1↔rF js F j<=a)\/b=0:=fun j _=>by
   rcases Nat.eq_zero_or_pos b with h0|h0
   .exact .inr h0
   .left;unfold rF;rw[up_iff hF (q:=q) (by omega) (by omega),up_iff hF (q:=q) (by omega) (by omega)]
  have h5:=done_units hF (q:=q) (k:=k) b (a+1) m (lessN left k) (by omega) (by omega) (by unfold lessN;rw[if_pos rfl];omega) h4 (fun hb=>least_same hk (fun j hj=>by
   rcases hup j hj with h6|h6
   .exact h6
   .omega) (fun j hj=>by unfold lessN;rw[if_neg hj]) (by unfold lessN;rw[if_pos rfl];omega))
  rw[show a+1+b=a+(b+1) by omega]at h5;refine done_same h5 (fun j _=>?_);unfold updL lessN;by_cases e:j=k
  .simp[e];omega
  .simp[e]
theorem done_idles (hF:1<=F){q:Nat}{left:Nat->Nat}:∀(b a m:Nat),q*F<=a->a+b<=q*F+F->DoneBy js.length (rF js F) (dF js F) left a (m+b)->(∀k,k<js.length->(jk js k).rel<=q*F->left k=0)->DoneBy js.length (rF js F) (dF js F) left (a+b) m
 | 0,a,m,_,_,h,_=>h
 | b+1,a,m,h1,h2,h,hn=>by
  have h3:=done_idle (m:=m+b) h (fun k hk hr=>hn k hk ((up_iff hF h1 (by omega)).1 hr));have h4:=done_idles hF (q:=q) b (a+1) m (by omega) (by omega) h3 hn;rw[show a+1+b=a+(b+1) by omega]at h4;exact h4
theorem done_fill (hj:JsOk js cyc)(hF:1<=F){q:Nat}:∀(f a m:Nat) (left:Nat->Nat),q*F<=a->a<=q*F+F->q*F+F-a<=f->DoneBy js.length (rF js F) (dF js F) left a (m+(q*F+F-a))->DoneBy js.length (rF js F) (dF js F) (fillJ js [] (q*F) (q*F+F) f a left).2 (q*F+F) m
 | 0,a,m,left,h1,h2,h3,h=>by
  rw[fillJ];have:a=q*F+F:=by omega
  subst this;rw[Nat.sub_self]at h;exact h
 | f+1,a,m,left,h1,h2,h3,h=>by
  rw[fillJ];by_cases ha:a<q*F+F
  .rw[if_pos ha];obtain⟨d,hd⟩:∃d,q*F+F-a=d+1:=⟨q*F+F-a-1,by omega⟩;have hL:=pick_least hj hF h1 ha (m:=m+d) (by rw[hd]at h;exact h)
   cases hp:pickJ js [] left (q*F) (q*F+F) with
   | none=>
    simp only;have:=done_idles hF (q:=q) (q*F+F-a) a m h1 (by omega) h (fun k hk hr=>hL.2 hp k hk ((up_iff hF h1 ha).2 hr));rw[show a+(q*F+F-a)=q*F+F by omega]at this;exact this
   | some k=>
    simp only;have hk:=hL.1 k hp;generalize hb:min (left k) (q*F+F-a)=b;have hb1:1<=b:=by have:=hk.2.2.1;omega
    have h5:=done_units hF (q:=q) (k:=k) b a (m+(q*F+F-(a+b))) left h1 (by omega) (by omega) (by rw[show m+(q*F+F-(a+b))+b=m+(q*F+F-a) by omega];exact h) (fun _=>hk);exact done_fill hj hF f (a+b) m _ (by omega) (by omega) (by omega) h5
  .rw[if_neg ha];have:a=q*F+F:=by omega
   subst this;rw[Nat.sub_self]at h;exact h
theorem done_plan (hj:JsOk js cyc)(hF:1<=F):∀(n q:Nat) (left:Nat->Nat),DoneBy js.length (rF js F) (dF js F) left (q*F) (n*F)->∀k,k<js.length->(planJ js [] F n (q*F) left).2 k=0
 | 0,q,left,h,k,hk=>by
  rw[Nat.zero_mul]at h;exact done_end h k hk
 | n+1,q,left,h,k,hk=>by
  rw[planJ];simp only;have h1:=done_fill hj hF (q:=q) F (q*F) (n*F) left (Nat.le_refl _) (by omega) (by omega) (by rw[show n*F+(q*F+F-q*F)=(n+1)*F by rw[Nat.succ_mul];omega];exact h);have h2:=done_plan hj hF n (q+1) _ (by rw[Nat.succ_mul];exact h1) k hk;rw[Nat.succ_mul]at h2;exact h2
def fitJ (js:List Jb) (F:Nat):Nat->Nat->Bool:=fun k j=>decide ((jk js k).rel<=j*F)&&decide ((j+1)*F<=(jk js k).dl)
theorem goes_of_flows (hj:JsOk js cyc)(hF:1<=F)(h:Flows js.length (cyc/F) F (fitJ js F) (costJ js)):goesJ js [] cyc F=true:=by
 have h1:=flows_done (r:=rF js F) (d:=dF js F) (fun k j hk hjn hf=>by
  unfold fitJ at hf;simp only[Bool.and_eq_true,decide_eq_true_eq]at hf;refine⟨(up_iff hF (q:=j) (Nat.le_refl _) (by omega)).2 hf.1,?_⟩;rw[Nat.succ_mul]at hf ⊢;have:=(dn_iff (x:=(jk js k).dl) hF (q:=j) (u:=j*F+F-1) (by omega) (by omega)).2 hf.2;show _<=dDn F _;omega) h
 have h2:=done_plan hj hF (cyc/F) 0 (costJ js) (by rw[Nat.zero_mul];exact h1);unfold goesJ allJ runJ;rw[List.all_eq_true];intro k hk;have:=h2 k (by simpa using hk);rw[Nat.zero_mul]at this;simpa using this
end
end Go.Proofs.YtbdffcjganlblaaGreatDoor
