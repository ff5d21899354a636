import Derived.Test.YtbdffcjganlblaaGreatDoorAPnFtoSoC
import Derived.Deep.DeepCutAuto
set_option linter.unusedVariables false
set_option linter.unusedSimpArgs false
set_option maxRecDepth 100000
set_option maxHeartbeats 16000000
namespace Go.Proofs.YtbdffcjganlblaaGreatDoor
section
open Go.RowKit
structure MrgOut (js:List Jb) (bl:Nat->Nat) (L:List Nat) (base:Nat) (v:Value) (a b:Nat) (L':List Nat) (w w':World):Prop where
 row:RowJ w' base v bl L'
 srt:Srt (relK js) L' a b
 mov:Mov L L' a b
 f:Frm (fun k=>v.ownBlock=some k) w w'
theorem symFirst_any (js:List Jb)(bl left:Nat->Nat)(L:List Nat)(base:Nat)(v:Value)(w:World)(hv:RowJ w base v bl L)(hj:JobsAt js bl left w)(hL:∀x∈L,x<js.length)(a b:Nat)(hab:a+1<b)(hb:b<=L.length)(hn:L.length<=100000)(hs:Srt (relK js) L (a+1) b):
  Calls Tryz.prog 208 #[v,.int .i64 a,.int .i64 (a+1:Nat),.int .i64 b,cmpF] w fun e w'=>e=.returned (.tuple #[])/\∃L',MrgOut js bl L base v a b L' w w':=by
 obtain⟨va,vcap,hvf,_,_⟩:=hv.len;subst hvf;have HV:=hide hv;have HJ:=hide hj;have HL:=hide hL;have HS:=hide hs;clear hv hj hL hs;have h1:(((a+1:Nat):Int)-a==1)=true:=by simp;omega
 go_enter Tryz.func208,Tryz.ntmps208;go_wp2_with fail;clear h1
 go_loopw [10,11] (fun iv jv wr=>∃i j:Nat,iv=.int .i64 i/\jv=.int .i64 j/\a+1<=i/\i<=j/\j<=b/\wr.heap=w.heap/\Frm (fun _=>False) w wr/\(∀q,a+1<=q->q<i->relK js (gd L q)<relK js (gd L a))/\(∀q,j<=q->q<b->¬relK js (gd L q)<relK js (gd L a))) (fun iv jv _=>(intOf jv).toNat-(intOf iv).toNat)
 case atStart=>exact⟨a+1,b,by go_num,rfl,by omega,by omega,by omega,rfl,Frm.refl _ _,(fun q h1 h2=>by omega),(fun q h1 h2=>by omega)⟩
 case round=>
  obtain⟨i,j,rfl,rfl,hi1,hij,hjb,hh,hf,hlo,hhi⟩:=hrel;have Hh:=hide hh;have Hf:=hide hf;have Hlo:=hide hlo;have Hhi:=hide hhi;clear hh hf hlo hhi;by_cases hlt:i<j
  .have hlt':(i:Int)<j:=by omega
   obtain⟨h,hh⟩:∃h,h=(i+j)/2:=⟨_,rfl⟩;have eH:((i:Int)+j)/2=(h:Int):=by omega
   have hi2:i<=h:=by omega
   have hj2:h<j:=by omega
   have EH:=hide eH;clear eH hh;obtain⟨g,cap,cur,hvv,_,hg,hc1,_,_,hcell⟩:=HV.out.form (by omega);injection hvv with e1 e2 e3;subst e1;subst e3;clear e2;have ce:∀o,wr.cell? ⟨g,o,none⟩=w.cell? ⟨g,o,none⟩:=fun o=>by simp only[World.cell?,Hh.out]
   have ch:wr.cell? ⟨g,h,none⟩=some (.pointer (some ⟨bl (gd L h),0,none⟩)):=by rw[ce,zC hg];exact hcell h (by omega)
   have ca:wr.cell? ⟨g,a,none⟩=some (.pointer (some ⟨bl (gd L a),0,none⟩)):=by rw[ce,zC hg];exact hcell a (by omega)
   have kh:=HL.out _ (gd_mem (L:=L) (i:=h) (by omega));have ka:=HL.out _ (gd_mem (L:=L) (i:=a) (by omega));have CQ:Hid (∀x,Calls Tryz.prog 190 #[.pointer (some ⟨bl (gd L h),0,none⟩),.pointer (some ⟨bl (gd L a),0,none⟩)] (wr.drewN x) fun e w'=>e=.returned (.int .i64 (cmpI (relK js (gd L h)) (relK js (gd L a))))/\∃n,w'=wr.drewN n):=fun x=>(relCmp_any js bl left (wr.drewN x) (HJ.out.same Hh.out) _ _ kh ka).mono (fun e w' h=>⟨h.1,by
    obtain⟨n,hn⟩:=h.2;exact⟨x+n,by rw[hn];exact World.drewN_drewN _ _ _⟩⟩)
   have hcmp:=cmpI_lt (relK js (gd L h)) (relK js (gd L a));have hh1:(h:Int)<L.length:=by omega
   have ha1:(a:Int)<L.length:=by omega
   by_cases hk:relK js (gd L h)<relK js (gd L a)
   .have hcd:decide (cmpI (relK js (gd L h)) (relK js (gd L a))<0)=true:=decide_eq_true (hcmp.2 (by omega));have Hlo2:Hid (∀q,a+1<=q->q<h+1->relK js (gd L q)<relK js (gd L a)):=fun q h1 h2=>Nat.lt_of_le_of_lt (HS.out.le h1 h (by omega) (by omega)) hk;clear hk hcmp hg hcell ce Hlo;generalize bl (gd L h)=bh at *;generalize bl (gd L a)=ba at *;generalize cmpI (relK js (gd L h)) (relK js (gd L a))=cc at *;go_wp2_with fail;rw[EH.out]
    go_quiet (first|(go_at_call 190;exact CQ.out _))
    go_wp2_with fail;go_roundw
    case rel=>exact⟨h+1,j,by go_num,rfl,by omega,by omega,hjb,Hh.out,Hf.out.trans (Frm.sames rfl rfl rfl rfl),Hlo2.out,Hhi.out⟩
    case measure=>simp[intOf];omega
   .have hcd:decide (cmpI (relK js (gd L h)) (relK js (gd L a))<0)=false:=decide_eq_false (fun h=>hk (by have:=hcmp.1 h;omega));have Hhi2:Hid (∀q,h<=q->q<b->¬relK js (gd L q)<relK js (gd L a)):=fun q h1 h2 h3=>hk (Nat.lt_of_le_of_lt (HS.out.le (i:=h) (by omega) q h1 h2) h3);clear hk hcmp hg hcell ce Hhi;generalize bl (gd L h)=bh at *;generalize bl (gd L a)=ba at *;generalize cmpI (relK js (gd L h)) (relK js (gd L a))=cc at *;go_wp2_with fail;rw[EH.out]
    go_quiet (first|(go_at_call 190;exact CQ.out _))
    go_wp2_with fail;go_roundw
    case rel=>exact⟨i,h,rfl,by go_num,hi1,hi2,by omega,Hh.out,Hf.out.trans (Frm.sames rfl rfl rfl rfl),Hlo.out,Hhi2.out⟩
    case measure=>simp[intOf];omega
  .have hlt':¬(i:Int)<j:=by omega
   have hje:j=i:=by omega
   subst hje;have hR0:RowJ wr base (.slice va L.length vcap) bl L:=⟨HV.out.1,by rw[Hh.out];exact HV.out.2⟩;have HR0:=hide hR0;have HFin:Hid (Srt (relK js) (upM L a (j-1-a)) a b):=merge_first HS.out hb hi1 hjb Hlo.out Hhi.out;clear Hlo Hhi hR0;go_wp2_with fail
   go_loopw [13] (fun kv wr2=>∃t:Nat,kv=.int .i64 (a+t:Nat)/\a+t+1<=j/\RowJ wr2 base (.slice va L.length vcap) bl (upM L a t)/\Frm (fun k=>(Value.slice va L.length vcap).ownBlock=some k) w wr2) (fun kv _=>j-(intOf kv).toNat)
   case atStart=>exact⟨0,rfl,by omega,HR0.out,Hf.out.wide (fun k _ hx=>hx.elim)⟩
   case round=>
    obtain⟨t,rfl,ht,hr,hf⟩:=hrel;by_cases hlt2:a+t+1<j
    .obtain⟨k,hk⟩:∃k,k=a+t:=⟨_,rfl⟩;have hl2:=upM_len L a t;have HS2:Hid (upM L a (t+1)=swp (upM L a t) k (k+1)):=by unfold Hid;rw[hk];rfl
     have Hk:=hide hk;rw[←hk];have hk1:k+1<L.length:=by omega
     have hkj:k+1<j:=by omega
     have hkt:(k:Int)<(j:Int)-1:=by omega
     clear hk;generalize upM L a t=L2 at *;obtain⟨g,cap,cur,hvv,_,hg,hc1,_,_,hcell⟩:=hr.form (by omega);injection hvv with e1 e2 e3;subst e1;subst e3;clear e2;have ca:wr.cell? ⟨g,k,none⟩=some (.pointer (some ⟨bl (gd L2 k),0,none⟩)):=by rw[zC hg];exact hcell _ (by omega)
     have cb:wr.cell? ⟨g,k+1,none⟩=some (.pointer (some ⟨bl (gd L2 (k+1)),0,none⟩)):=by rw[zC hg];exact hcell _ (by omega)
     have fz:=zF hg;have hX:(wr.setCell ⟨g,k,none⟩ (.pointer (some ⟨bl (gd L2 (k+1)),0,none⟩))).cell? ⟨g,k+1,none⟩=some (.pointer (some ⟨bl (gd L2 (k+1)),0,none⟩)):=by
      rw[zC (zS hg _ _),Array.getElem?_setIfInBounds,if_neg (by omega)];exact hcell _ (by omega)
     have fz2:=zF (zS hg k (.pointer (some ⟨bl (gd L2 (k+1)),0,none⟩)));have HS3:Hid (RowJ ((wr.setCell ⟨g,k,none⟩ (.pointer (some ⟨bl (gd L2 (k+1)),0,none⟩))).setCell ⟨g,k+1,none⟩ (.pointer (some ⟨bl (gd L2 k),0,none⟩))) base (.slice (some ⟨g,0,none⟩) L.length vcap) bl (swp L2 k (k+1))):=by
      unfold Hid;have hle:L.length=L2.length:=hl2.symm;rw[hle]at hr ⊢;have h1:=hr.set (i:=k) (by omega) (gd L2 (k+1));have h2:=RowJ.set (L:=L2.set k (gd L2 (k+1))) (by simpa using h1) (i:=k+1) (by simp;omega) (gd L2 k);unfold swp;simpa using h2
     have HF3:Hid (Frm (fun k=>(Value.slice (some ⟨g,0,none⟩) L.length vcap).ownBlock=some k) w ((wr.setCell ⟨g,k,none⟩ (.pointer (some ⟨bl (gd L2 (k+1)),0,none⟩))).setCell ⟨g,k+1,none⟩ (.pointer (some ⟨bl (gd L2 k),0,none⟩)))):=(hf.setCell (p:=⟨g,k,none⟩) (by simp[Value.ownBlock]) _).setCell (p:=⟨g,k+1,none⟩) (by simp[Value.ownBlock]) _;have hb1:(k:Int)+1<L.length:=by omega
     have hb2:(k:Int)<L.length:=by omega
     clear hg hcell hr hf hl2 hlt2 ht;generalize bl (gd L2 k)=pa at *;generalize bl (gd L2 (k+1))=pb at *;go_wp2_with fail
     go_region
     all_goals
      go_wp2_with fail;go_roundw
      case rel=>
       have hk:=Hk.out;exact⟨t+1,by rw[hk];go_num,by omega,by rw[HS2.out];exact HS3.out,⟨HF3.out.os,HF3.out.tape,HF3.out.output,HF3.out.size,HF3.out.block⟩⟩
      case measure=>simp[intOf];omega
    .have hte:t=j-1-a:=by omega
     have hlt3:¬((a+t:Nat):Int)<(j:Int)-1:=by omega
     have HOut:Hid (MrgOut js bl L base (.slice va L.length vcap) a b (upM L a t) w wr):=⟨hr,by rw[hte];exact HFin.out,upM_mov L a a b t (Nat.le_refl _) (by omega) hb,hf⟩;clear hr hf hte;go_wp2_with fail;refine bodyPost_ret (results_none rfl _ _ _) rfl ?_;exact⟨rfl,_,HOut.out⟩
theorem symLast_any (js:List Jb)(bl left:Nat->Nat)(L:List Nat)(base:Nat)(v:Value)(w:World)(hv:RowJ w base v bl L)(hj:JobsAt js bl left w)(hL:∀x∈L,x<js.length)(a m:Nat)(ham:a+1<m)(hb:m+1<=L.length)(hn:L.length<=100000)(hs:Srt (relK js) L a m):
  Calls Tryz.prog 208 #[v,.int .i64 a,.int .i64 m,.int .i64 (m+1:Nat),cmpF] w fun e w'=>e=.returned (.tuple #[])/\∃L',MrgOut js bl L base v a (m+1) L' w w':=by
 obtain⟨va,vcap,hvf,_,_⟩:=hv.len;subst hvf;have HV:=hide hv;have HJ:=hide hj;have HL:=hide hL;have HS:=hide hs;clear hv hj hL hs;have h0:((m:Int)-a==1)=false:=by simp;omega
 have h1:(((m+1:Nat):Int)-m==1)=true:=by simp;omega
 go_enter Tryz.func208,Tryz.ntmps208;go_wp2_with fail;clear h1 h0
 go_loopw [14,15] (fun iv jv wr=>∃i j:Nat,iv=.int .i64 i/\jv=.int .i64 j/\a<=i/\i<=j/\j<=m/\wr.heap=w.heap/\Frm (fun _=>False) w wr/\(∀q,a<=q->q<i->¬relK js (gd L m)<relK js (gd L q))/\(∀q,j<=q->q<m->relK js (gd L m)<relK js (gd L q))) (fun iv jv _=>(intOf jv).toNat-(intOf iv).toNat)
 case atStart=>exact⟨a,m,rfl,rfl,by omega,by omega,by omega,rfl,Frm.refl _ _,(fun q h1 h2=>by omega),(fun q h1 h2=>by omega)⟩
 case round=>
  obtain⟨i,j,rfl,rfl,hi1,hij,hjb,hh,hf,hlo,hhi⟩:=hrel;have Hh:=hide hh;have Hf:=hide hf;have Hlo:=hide hlo;have Hhi:=hide hhi;clear hh hf hlo hhi;by_cases hlt:i<j
  .have hlt':(i:Int)<j:=by omega
   obtain⟨h,hh⟩:∃h,h=(i+j)/2:=⟨_,rfl⟩;have eH:((i:Int)+j)/2=(h:Int):=by omega
   have hi2:i<=h:=by omega
   have hj2:h<j:=by omega
   have EH:=hide eH;clear eH hh;obtain⟨g,cap,cur,hvv,_,hg,hc1,_,_,hcell⟩:=HV.out.form (by omega);injection hvv with e1 e2 e3;subst e1;subst e3;clear e2;have ce:∀o,wr.cell? ⟨g,o,none⟩=w.cell? ⟨g,o,none⟩:=fun o=>by simp only[World.cell?,Hh.out]
   have ch:wr.cell? ⟨g,h,none⟩=some (.pointer (some ⟨bl (gd L h),0,none⟩)):=by rw[ce,zC hg];exact hcell h (by omega)
   have ca:wr.cell? ⟨g,m,none⟩=some (.pointer (some ⟨bl (gd L m),0,none⟩)):=by rw[ce,zC hg];exact hcell m (by omega)
   have kh:=HL.out _ (gd_mem (L:=L) (i:=h) (by omega));have ka:=HL.out _ (gd_mem (L:=L) (i:=m) (by omega));have CQ:Hid (∀x,Calls Tryz.prog 190 #[.pointer (some ⟨bl (gd L m),0,none⟩),.pointer (some ⟨bl (gd L h),0,none⟩)] (wr.drewN x) fun e w'=>e=.returned (.int .i64 (cmpI (relK js (gd L m)) (relK js (gd L h))))/\∃n,w'=wr.drewN n):=fun x=>(relCmp_any js bl left (wr.drewN x) (HJ.out.same Hh.out) _ _ ka kh).mono (fun e w' h=>⟨h.1,by
    obtain⟨n,hn⟩:=h.2;exact⟨x+n,by rw[hn];exact World.drewN_drewN _ _ _⟩⟩)
   have hcmp:=cmpI_lt (relK js (gd L m)) (relK js (gd L h));have hh1:(h:Int)<L.length:=by omega
   have ha1:(m:Int)<L.length:=by omega
   by_cases hk:relK js (gd L m)<relK js (gd L h)
   .have hcd:decide (cmpI (relK js (gd L m)) (relK js (gd L h))<0)=true:=decide_eq_true (hcmp.2 (by omega));have Hhi2:Hid (∀q,h<=q->q<m->relK js (gd L m)<relK js (gd L q)):=fun q h1 h2=>Nat.lt_of_lt_of_le hk (HS.out.le (i:=h) (by omega) q h1 h2);clear hk hcmp hg hcell ce Hhi;generalize bl (gd L h)=bh at *;generalize bl (gd L m)=ba at *;generalize cmpI (relK js (gd L m)) (relK js (gd L h))=cc at *;go_wp2_with fail;rw[EH.out]
    go_quiet (first|(go_at_call 190;exact CQ.out _))
    go_wp2_with fail;go_roundw
    case rel=>exact⟨i,h,rfl,by go_num,hi1,hi2,by omega,Hh.out,Hf.out.trans (Frm.sames rfl rfl rfl rfl),Hlo.out,Hhi2.out⟩
    case measure=>simp[intOf];omega
   .have hcd:decide (cmpI (relK js (gd L m)) (relK js (gd L h))<0)=false:=decide_eq_false (fun h=>hk (by have:=hcmp.1 h;omega));have Hlo2:Hid (∀q,a<=q->q<h+1->¬relK js (gd L m)<relK js (gd L q)):=fun q h1 h2 h3=>hk (Nat.lt_of_lt_of_le h3 (HS.out.le h1 h (by omega) (by omega)));clear hk hcmp hg hcell ce Hlo;generalize bl (gd L h)=bh at *;generalize bl (gd L m)=ba at *;generalize cmpI (relK js (gd L m)) (relK js (gd L h))=cc at *;go_wp2_with fail;rw[EH.out]
    go_quiet (first|(go_at_call 190;exact CQ.out _))
    go_wp2_with fail;go_roundw
    case rel=>exact⟨h+1,j,by go_num,rfl,by omega,by omega,hjb,Hh.out,Hf.out.trans (Frm.sames rfl rfl rfl rfl),Hlo2.out,Hhi.out⟩
    case measure=>simp[intOf];omega
  .have hlt':¬(i:Int)<j:=by omega
   have hje:j=i:=by omega
   subst hje;have hR0:RowJ wr base (.slice va L.length vcap) bl L:=⟨HV.out.1,by rw[Hh.out];exact HV.out.2⟩;have HR0:=hide hR0;have HFin:Hid (Srt (relK js) (dnM L m (m-j)) a (m+1)):=merge_last HS.out (by omega) hi1 hjb Hlo.out Hhi.out;clear Hlo Hhi hR0;go_wp2_with fail
   go_loopw [17] (fun kv wr2=>∃t:Nat,kv=.int .i64 (m-t:Nat)/\t+j<=m/\RowJ wr2 base (.slice va L.length vcap) bl (dnM L m t)/\Frm (fun k=>(Value.slice va L.length vcap).ownBlock=some k) w wr2) (fun kv _=>(intOf kv).toNat)
   case atStart=>exact⟨0,rfl,by omega,HR0.out,Hf.out.wide (fun k _ hx=>hx.elim)⟩
   case round=>
    obtain⟨t,rfl,ht,hr,hf⟩:=hrel;obtain⟨k,hk⟩:∃k,k=m-t:=⟨_,rfl⟩;rw[←hk];by_cases hlt2:j<k
    .have hl2:=dnM_len L m t;have HS2:Hid (dnM L m (t+1)=swp (dnM L m t) k (k-1)):=by unfold Hid;rw[hk];rfl
     have Hk:=hide hk;have hk1:k<L.length:=by omega
     have hkt:(j:Int)<(k:Int):=by omega
     have htm:t+1+j<=m:=by omega
     have hmk:(k-1)=m-(t+1):=by omega
     have Hmk:=hide hmk;clear hk hmk;generalize dnM L m t=L2 at *;obtain⟨g,cap,cur,hvv,_,hg,hc1,_,_,hcell⟩:=hr.form (by omega);injection hvv with e1 e2 e3;subst e1;subst e3;clear e2;have ca:wr.cell? ⟨g,k,none⟩=some (.pointer (some ⟨bl (gd L2 k),0,none⟩)):=by rw[zC hg];exact hcell _ (by omega)
     have cb:wr.cell? ⟨g,k-1,none⟩=some (.pointer (some ⟨bl (gd L2 (k-1)),0,none⟩)):=by rw[zC hg];exact hcell _ (by omega)
     have fz:=zF hg;have hX:(wr.setCell ⟨g,k,none⟩ (.pointer (some ⟨bl (gd L2 (k-1)),0,none⟩))).cell? ⟨g,k-1,none⟩=some (.pointer (some ⟨bl (gd L2 (k-1)),0,none⟩)):=by
      rw[zC (zS hg _ _),Array.getElem?_setIfInBounds,if_neg (by omega)];exact hcell _ (by omega)
     have fz2:=zF (zS hg k (.pointer (some ⟨bl (gd L2 (k-1)),0,none⟩)));have HS3:Hid (RowJ ((wr.setCell ⟨g,k,none⟩ (.pointer (some ⟨bl (gd L2 (k-1)),0,none⟩))).setCell ⟨g,k-1,none⟩ (.pointer (some ⟨bl (gd L2 k),0,none⟩))) base (.slice (some ⟨g,0,none⟩) L.length vcap) bl (swp L2 k (k-1))):=by
      unfold Hid;have hle:L.length=L2.length:=hl2.symm;rw[hle]at hr ⊢;have h1:=hr.set (i:=k) (by omega) (gd L2 (k-1));have h2:=RowJ.set (L:=L2.set k (gd L2 (k-1))) (by simpa using h1) (i:=k-1) (by simp;omega) (gd L2 k);unfold swp;simpa using h2
     have HF3:Hid (Frm (fun k=>(Value.slice (some ⟨g,0,none⟩) L.length vcap).ownBlock=some k) w ((wr.setCell ⟨g,k,none⟩ (.pointer (some ⟨bl (gd L2 (k-1)),0,none⟩))).setCell ⟨g,k-1,none⟩ (.pointer (some ⟨bl (gd L2 k),0,none⟩)))):=(hf.setCell (p:=⟨g,k,none⟩) (by simp[Value.ownBlock]) _).setCell (p:=⟨g,k-1,none⟩) (by simp[Value.ownBlock]) _;have hb1:(k:Int)-1<L.length:=by omega
     have hb0:0<=(k:Int)-1:=by omega
     have hb2:(k:Int)<L.length:=by omega
     clear hg hcell hr hf hl2 ht;generalize bl (gd L2 k)=pa at *;generalize bl (gd L2 (k-1))=pb at *;go_wp2_with fail
     go_region
     all_goals
      go_wp2_with fail;go_roundw
      case rel=>exact⟨t+1,by rw[←Hmk.out];go_num,htm,by rw[HS2.out];exact HS3.out,⟨HF3.out.os,HF3.out.tape,HF3.out.output,HF3.out.size,HF3.out.block⟩⟩
      case measure=>simp[intOf];omega
    .have hte:t=m-j:=by omega
     have hlt3:¬(j:Int)<(k:Int):=by omega
     have HOut:Hid (MrgOut js bl L base (.slice va L.length vcap) a (m+1) (dnM L m t) w wr):=⟨hr,by rw[hte];exact HFin.out,dnM_mov L m a (m+1) t (by omega) (by omega) hb,hf⟩;clear hr hf hte hk;go_wp2_with fail;refine bodyPost_ret (results_none rfl _ _ _) rfl ?_;exact⟨rfl,_,HOut.out⟩
theorem tgt_none {L:List Nat}{s m e:Nat}(h:s=m\/e=m)(hs:s<=m)(q:Nat):gd L q=tgt L s m e q:=by
 unfold tgt;rcases h with rfl|rfl
 .by_cases h1:s<=q/\q<s+(e-s)
  .rw[if_pos h1];congr 1;omega
  .rw[if_neg h1,if_neg (by omega)]
 .rw[Nat.sub_self,if_neg (by omega)];split
  .congr 1
  .rfl
abbrev symF:Nat:=208
def SymP (js:List Jb) (bl left:Nat->Nat) (base:Nat) (v:Value) (N:Nat):Prop:=
 ∀(L:List Nat) (a m b:Nat) (w:World),RowJ w base v bl L->JobsAt js bl left w->(∀x∈L,x<js.length)->a<m->m<b->b<=L.length->L.length<=100000->Srt (relK js) L a m->Srt (relK js) L m b->b-a<=N->
  Calls Tryz.prog symF #[v,.int .i64 a,.int .i64 m,.int .i64 b,cmpF] w fun e w'=>e=.returned (.tuple #[])/\∃L',MrgOut js bl L base v a b L' w w'
theorem row_typed {w:World}{base:Nat}{u:Value}{bl:Nat->Nat}{T:List Nat}(h:RowJ w base u bl T){b:Nat}(hb:u.ownBlock=some b):base<=b/\∃c fr,w.heap[b]? =some (.cells c 226 fr):=by
 rcases h.2 with⟨rfl,_⟩|⟨g,cap,cur,rfl,h4,h5,h6⟩
 .simp[Value.ownBlock]at hb
 .simp[Value.ownBlock]at hb;subst hb;exact⟨h4,_,_,h5⟩
structure StA (js:List Jb) (bl:Nat->Nat) (L:List Nat) (base:Nat) (v:Value) (a r mid e b:Nat) (w:World) (L1:List Nat) (w1:World):Prop where
 row:RowJ w1 base v bl L1
 hv:Halves (relK js) L1 a r mid e b
 mov:Mov L L1 a b
 f:Frm (fun k=>v.ownBlock=some k) w w1
structure StB (js:List Jb) (bl:Nat->Nat) (L:List Nat) (base:Nat) (v:Value) (a mid e b:Nat) (w:World) (L1:List Nat) (w1:World):Prop where
 row:RowJ w1 base v bl L1
 s1:Srt (relK js) L1 a mid
 s2:Srt (relK js) L1 mid e
 s3:Srt (relK js) L1 e b
 cross:∀i j,a<=i->i<mid->mid<=j->j<b->relK js (gd L1 i)<=relK js (gd L1 j)
 mov:Mov L L1 a b
 f:Frm (fun k=>v.ownBlock=some k) w w1
section
variable {js:List Jb} {bl left:Nat->Nat} {L:List Nat} {base:Nat} {v:Value} {a r mid e b:Nat} {w:World} {L1:List Nat} {w1:World}
theorem StA.none (h:StA js bl L base v a r mid e b w L1 w1)(hn:¬(a<r/\r<mid))(har:a<=r)(hrm:r<=mid):StB js bl L base v a mid e b w L1 w1:=by
 refine⟨h.row,?_,h.hv.s3,h.hv.s4,h.hv.cross,h.mov,h.f⟩;rcases(show r=a\/r=mid by omega) with e1|e1
 .rw[←e1];exact h.hv.s2
 .rw[←e1];exact h.hv.s1
theorem StA.some (h:StA js bl L base v a r mid e b w L1 w1)(har:a<=mid)(hmb:mid<=b)(hme:mid<=e)(hb:b<=L.length){L2:List Nat}{w2:World}(ho:MrgOut js bl L1 base v a mid L2 w1 w2):StB js bl L base v a mid e b w L2 w2:=by
 have hl:=h.mov.len;exact⟨ho.row,ho.srt,h.hv.s3.same (fun i h1 _=>ho.mov.out i (.inr h1)),h.hv.s4.same (fun i h1 _=>ho.mov.out i (.inr (by omega))),cross_mov har hmb (by omega) (.inl ho.mov) h.hv.cross,h.mov.trans (ho.mov.wide (Nat.le_refl _) hmb),h.f.trans ho.f⟩
theorem StB.none (h:StB js bl L base v a mid e b w L1 w1)(hn:¬(mid<e/\e<b))(hme:mid<=e)(heb:e<=b):MrgOut js bl L base v a b L1 w w1:=by
 refine⟨h.row,merged (L2:=L1) h.s1 ?_ h.cross,h.mov,h.f⟩;rcases(show e=mid\/e=b by omega) with e1|e1
 .rw[←e1];exact h.s3
 .rw[←e1];exact h.s2
theorem StB.some (h:StB js bl L base v a mid e b w L1 w1)(har:a<=mid)(hmb:mid<=b)(hb:b<=L.length){L2:List Nat}{w2:World}(ho:MrgOut js bl L1 base v mid b L2 w1 w2):MrgOut js bl L base v a b L2 w w2:=by
 have hl:=h.mov.len;exact⟨ho.row,merged (L2:=L2) (h.s1.same (fun i _ h2=>ho.mov.out i (.inl h2))) ho.srt (cross_mov har hmb (by omega) (.inr ho.mov) h.cross),h.mov.trans (ho.mov.wide har (Nat.le_refl _)),h.f.trans ho.f⟩
end
theorem sym_step (js:List Jb)(bl left:Nat->Nat)(base:Nat)(v:Value)(N:Nat)(ih:SymP js bl left base v N):SymP js bl left base v (N+1):=by
 intro L a m b w hv hj hL ham hmb hb hn hs1 hs2 hN;by_cases hA:m=a+1
 .subst hA;exact symFirst_any js bl left L base v w hv hj hL a b (by omega) hb hn hs2
 by_cases hB:b=m+1
 .subst hB;exact symLast_any js bl left L base v w hv hj hL a m (by omega) hb hn hs1
 obtain⟨va,vcap,hvf,_,_⟩:=hv.len;subst hvf;have HV:=hide hv;have HJ:=hide hj;have HL:=hide hL;have H1:=hide hs1;have H2:=hide hs2;have IH:=hide ih;clear hv hj hL hs1 hs2 ih;have h0:((m:Int)-a==1)=false:=by simp;omega
 have h1:((b:Int)-m==1)=false:=by simp;omega
 obtain⟨mid,hmid⟩:∃x,x=(a+b)/2:=⟨_,rfl⟩;have eM:((a:Int)+b)/2=(mid:Int):=by omega
 have hm1:a+2<=mid:=by omega
 have hm2:mid+2<=b:=by omega
 have hm3:2*mid<=a+b:=by omega
 have hm4:a+b<=2*mid+1:=by omega
 have EM:=hide eM;clear eM hmid;go_enter Tryz.func208,Tryz.ntmps208;obtain⟨lo,hi,hlohi⟩:∃lo hi:Nat,(mid<m/\lo=mid+m-b/\hi=mid)\/(¬mid<m/\lo=a/\hi=m):=by
  by_cases h:mid<m
  .exact⟨_,_,.inl ⟨h,rfl,rfl⟩⟩
  .exact⟨_,_,.inr ⟨h,rfl,rfl⟩⟩
 have hlo:lo=a\/lo+b=mid+m:=by omega
 have hhi:hi=m\/hi=mid:=by omega
 have hb1:a<=lo:=by omega
 have hb2:lo<=hi:=by omega
 have hb3:hi<=m:=by omega
 have hb4:hi<=mid:=by omega
 have hb5:mid+m<=b+lo:=by omega
 have HBd:=hide (And.intro hlo hhi);clear hlo hhi;have HLH:=hide hlohi;have hcs:(mid:Int)<m\/¬(mid:Int)<m:=by omega
 clear hlohi;have hpn:mid+m=(mid+m-1)+1:=by omega
 obtain⟨p,hp⟩:∃p,p=mid+m-1:=⟨_,rfl⟩;have eP:((mid:Int)+m-1)=(p:Int):=by omega
 have EP:=hide eP;have hp1:p+1=mid+m:=by omega
 have HP1:=hide hp1;clear hpn eP hp hp1;rcases hcs with hc' | hc'
 all_goals
  go_upto_if 140 with fail;rw[EM.out];go_wp2_with fail;rw[EP.out];clear h0 h1
  go_loopw [20,21] (fun sv rv wr=>∃s r:Nat,sv=.int .i64 s/\rv=.int .i64 r/\lo<=s/\s<=r/\r<=hi/\wr.heap=w.heap/\Frm (fun _=>False) w wr/\(∀q,lo<=q->q<s->¬relK js (gd L (p-q))<relK js (gd L q))/\(∀q,r<=q->q<hi->relK js (gd L (p-q))<relK js (gd L q))) (fun sv rv _=>(intOf rv).toNat-(intOf sv).toNat)
  case atStart=>
   have h9:=HLH.out;exact⟨lo,hi,by simp;omega,by simp;omega,Nat.le_refl _,hb2,Nat.le_refl _,rfl,Frm.refl _ _,(fun q h1 h2=>by omega),(fun q h1 h2=>by omega)⟩
  case round=>
   obtain⟨s,r,rfl,rfl,hs1,hsr,hr1,hh,hf,hlo,hhi⟩:=hrel;have Hh:=hide hh;have Hf:=hide hf;have Hlo:=hide hlo;have Hhi:=hide hhi;clear hh hf hlo hhi;by_cases hlt:s<r
   .have hlt':(s:Int)<r:=by omega
    have hp1:=HP1.out;obtain⟨c,hc⟩:∃c,c=(s+r)/2:=⟨_,rfl⟩;have eC:((s:Int)+r)/2=(c:Int):=by omega
    have hc1:s<=c:=by omega
    have hc2:c<r:=by omega
    have EC:=hide eC;clear eC hc;have hpc1:m<=p-c:=by omega
    have hpc2:p-c<b:=by omega
    obtain⟨g,cap,cur,hvv,_,hg,_,_,_,hcell⟩:=HV.out.form (by omega);injection hvv with e1 e2 e3;subst e1;subst e3;clear e2;have ce:∀o,wr.cell? ⟨g,o,none⟩=w.cell? ⟨g,o,none⟩:=fun o=>by simp only[World.cell?,Hh.out]
    have ch:wr.cell? ⟨g,p-c,none⟩=some (.pointer (some ⟨bl (gd L (p-c)),0,none⟩)):=by rw[ce,zC hg];exact hcell _ (by omega)
    have ca:wr.cell? ⟨g,c,none⟩=some (.pointer (some ⟨bl (gd L c),0,none⟩)):=by rw[ce,zC hg];exact hcell _ (by omega)
    have kh:=HL.out _ (gd_mem (L:=L) (i:=p-c) (by omega));have ka:=HL.out _ (gd_mem (L:=L) (i:=c) (by omega));have CQ:Hid (∀x,Calls Tryz.prog 190 #[.pointer (some ⟨bl (gd L (p-c)),0,none⟩),.pointer (some ⟨bl (gd L c),0,none⟩)] (wr.drewN x) fun e w'=>e=.returned (.int .i64 (cmpI (relK js (gd L (p-c))) (relK js (gd L c))))/\∃n,w'=wr.drewN n):=fun x=>(relCmp_any js bl left (wr.drewN x) (HJ.out.same Hh.out) _ _ kh ka).mono (fun e w' h=>⟨h.1,by
     obtain⟨n,hn⟩:=h.2;exact⟨x+n,by rw[hn];exact World.drewN_drewN _ _ _⟩⟩)
    have hcmp:=cmpI_lt (relK js (gd L (p-c))) (relK js (gd L c));have hx1:(p:Int)-c<L.length:=by omega
    have hx0:0<=(p:Int)-c:=by omega
    have hx2:(c:Int)<L.length:=by omega
    by_cases hk:relK js (gd L (p-c))<relK js (gd L c)
    .have hcd:decide (cmpI (relK js (gd L (p-c))) (relK js (gd L c))<0)=true:=decide_eq_true (hcmp.2 (by omega));have Hhi2:Hid (∀q,c<=q->q<hi->relK js (gd L (p-q))<relK js (gd L q)):=fun q h1 h2=>by
      have g1:=H1.out.le (i:=c) (by omega) q h1 (by omega);have g2:=H2.out.le (i:=p-q) (by omega) (p-c) (by omega) (by omega);omega
     clear hk hcmp hg hcell ce Hhi kh ka;generalize bl (gd L (p-c))=bh at *;generalize bl (gd L c)=ba at *;generalize cmpI (relK js (gd L (p-c))) (relK js (gd L c))=cc at *;go_wp2_with fail;rw[EC.out]
     go_quiet (first|(go_at_call 190;exact CQ.out _))
     go_wp2_with fail;go_roundw
     case rel=>exact⟨s,c,rfl,by go_num,hs1,hc1,by omega,Hh.out,Hf.out.trans (Frm.sames rfl rfl rfl rfl),Hlo.out,Hhi2.out⟩
     case measure=>simp[intOf];omega
    .have hcd:decide (cmpI (relK js (gd L (p-c))) (relK js (gd L c))<0)=false:=decide_eq_false (fun h=>hk (by have:=hcmp.1 h;omega));have Hlo2:Hid (∀q,lo<=q->q<c+1->¬relK js (gd L (p-q))<relK js (gd L q)):=fun q h1 h2=>by
      have g1:=H1.out.le (i:=q) (by omega) c (by omega) (by omega);have g2:=H2.out.le (i:=p-c) (by omega) (p-q) (by omega) (by omega);omega
     clear hk hcmp hg hcell ce Hlo kh ka;generalize bl (gd L (p-c))=bh at *;generalize bl (gd L c)=ba at *;generalize cmpI (relK js (gd L (p-c))) (relK js (gd L c))=cc at *;go_wp2_with fail;rw[EC.out]
     go_quiet (first|(go_at_call 190;exact CQ.out _))
     go_wp2_with fail;go_roundw
     case rel=>exact⟨c+1,r,by go_num,rfl,by omega,by omega,hr1,Hh.out,Hf.out.trans (Frm.sames rfl rfl rfl rfl),Hlo2.out,Hhi.out⟩
     case measure=>simp[intOf];omega
   .have hlt':¬(s:Int)<r:=by omega
    have hse:r=s:=by omega
    subst hse;obtain⟨e,he⟩:∃e,e=mid+m-r:=⟨_,rfl⟩;have hem:m<=e:=by omega
    have heb:e<=b:=by omega
    have hea:mid<=e:=by omega
    have EE:Hid (((mid:Int)+m-r)=(e:Int)):=by unfold Hid;omega
    have HE:=hide he;have hR0:RowJ wr base (.slice va L.length vcap) bl L:=⟨HV.out.1,by rw[Hh.out];exact HV.out.2⟩;have hF0:Frm (fun k=>(Value.slice va L.length vcap).ownBlock=some k) w wr:=Hf.out.wide (fun k _ hx=>hx.elim);have HHv:Hid (∀L1,(∀q,gd L1 q=tgt L r m e q)->Halves (relK js) L1 a r mid e b):=fun L1 hg=>by
     have hp1:=HP1.out;refine halves H1.out H2.out (by omega) (by omega) hb HE.out (by omega) (by omega) (by omega) heb HBd.out.1 HBd.out.2 hs1 hr1 (fun q h1 h2=>?_) (fun q h1 h2=>?_) hg
     .rw[show mid+m-1-q=p-q by omega];exact Hlo.out q h1 h2
     .rw[show mid+m-1-q=p-q by omega];exact Hhi.out q h1 h2
    have CR:Hid (∀E:Int,E=e->r<m->m<e->Calls Tryz.prog 210 #[.slice va L.length vcap,.int .i64 r,.int .i64 m,.int .i64 E,cmpF] wr fun en w'=>en=.returned (.tuple #[])/\∃L',RotOut bl L base (.slice va L.length vcap) r m e L' wr w'):=fun E h1 h2 h3=>by
     subst h1;exact rotate_any bl L base _ wr hR0 r m e h2 h3 (by omega) hn
    have HR0:=hide hR0;have HF0:=hide hF0;clear Hlo Hhi hR0 hF0 he Hh;have hb1x:a<=r:=by omega
    have hrt:(r<m/\m<e)\/(r<m/\¬m<e)\/¬r<m:=by omega
    have hjob:∀ {w1:World},Frm (fun k=>(Value.slice va L.length vcap).ownBlock=some k) w w1->JobsAt js bl left w1:=fun hf=>HJ.out.keep hf (fun k hk e=>by
     obtain⟨_,c,fr,e'⟩:=row_typed HV.out e;rw[HJ.out k hk]at e';simp at e')
    have C1:Hid (∀L1 w1,StA js bl L base (.slice va L.length vcap) a r mid e b w L1 w1->a<r->r<mid->Calls Tryz.prog symF #[.slice va L.length vcap,.int .i64 a,.int .i64 r,.int .i64 mid,cmpF] w1 fun en w'=>en=.returned (.tuple #[])/\∃L2,StB js bl L base (.slice va L.length vcap) a mid e b w L2 w'):=fun L1 w1 h h1 h2=>by
     have hl:=h.mov.len;refine(IH.out L1 a r mid w1 h.row (hjob h.f) (fun x hx=>HL.out x (h.mov.perm.mem_iff.1 hx)) h1 h2 (by omega) (by omega) h.hv.s1 h.hv.s2 (by omega)).mono ?_;rintro en w' ⟨rfl,L2,ho⟩;exact⟨rfl,L2,h.some (by omega) (by omega) hea hb ho⟩
    have C2:Hid (∀L1 w1,StB js bl L base (.slice va L.length vcap) a mid e b w L1 w1->mid<e->e<b->Calls Tryz.prog symF #[.slice va L.length vcap,.int .i64 mid,.int .i64 e,.int .i64 b,cmpF] w1 fun en w'=>en=.returned (.tuple #[])/\∃L2,MrgOut js bl L base (.slice va L.length vcap) a b L2 w w'):=fun L1 w1 h h1 h2=>by
     have hl:=h.mov.len;refine(IH.out L1 mid e b w1 h.row (hjob h.f) (fun x hx=>HL.out x (h.mov.perm.mem_iff.1 hx)) h1 h2 (by omega) (by omega) h.s2 h.s3 (by omega)).mono ?_;rintro en w' ⟨rfl,L2,ho⟩;exact⟨rfl,L2,h.some (by omega) (by omega) hb ho⟩
    have hrm:r<=mid:=by omega
    have D1:Hid (∀L1 w1,StA js bl L base (.slice va L.length vcap) a r mid e b w L1 w1->¬(a<r/\r<mid)->StB js bl L base (.slice va L.length vcap) a mid e b w L1 w1):=fun L1 w1 h hn=>h.none hn hb1x hrm;have D2:Hid (∀L1 w1,StB js bl L base (.slice va L.length vcap) a mid e b w L1 w1->¬(mid<e/\e<b)->MrgOut js bl L base (.slice va L.length vcap) a b L1 w w1):=fun L1 w1 h hn=>h.none hn hea heb;clear hjob IH HV HJ HL H1 H2;go_upto_region 39 with fail;rw[EE.out];rcases hrt with⟨ht1,ht2⟩|⟨ht1,ht2⟩|ht1
    .have c1:(r:Int)<m:=by omega
     have c2:(m:Int)<e:=by omega
     go_wp2_with fail;refine(CR.out _ rfl ht1 ht2).mono ?_;rintro en w1 ⟨rfl,L1,hR⟩;have HA:Hid (StA js bl L base (.slice va L.length vcap) a r mid e b w L1 w1):=⟨hR.row,HHv.out L1 hR.gd,hR.mov.wide hb1x heb,HF0.out.trans hR.f⟩;clear hR CR HR0 HF0 HHv;go_upto_region 41 with fail;rcases(show (a<r/\r<mid)\/(a<r/\¬r<mid)\/¬a<r by omega) with⟨p1,p2⟩|⟨p1,p2⟩|p1
     .have c3:(a:Int)<r:=by omega
      have c4:(r:Int)<mid:=by omega
      go_wp2_with fail;refine(C1.out _ _ HA.out p1 p2).mono ?_;rintro en w2 ⟨rfl,L2,hB⟩;have HB:=hide hB;clear hB HA C1 D1;go_upto_region 43 with fail;rcases(show (mid<e/\e<b)\/(mid<e/\¬e<b)\/¬mid<e by omega) with⟨q1,q2⟩|⟨q1,q2⟩|q1
      .have c5:(mid:Int)<e:=by omega
       have c6:(e:Int)<b:=by omega
       go_wp2_with fail;refine(C2.out _ _ HB.out q1 q2).mono ?_;rintro en w3 ⟨rfl,L3,hO⟩;have HO:=hide hO;clear hO;go_wp2_with fail
       go_end0
       exact⟨rfl,L3,HO.out⟩
      .have c5:(mid:Int)<e:=by omega
       have c6:¬(e:Int)<b:=by omega
       have HO:=hide (D2.out _ _ HB.out (fun h=>q2 h.2));go_wp2_with fail
       go_end0
       exact⟨rfl,_,HO.out⟩
      .have c5:¬(mid:Int)<e:=by omega
       have HO:=hide (D2.out _ _ HB.out (fun h=>q1 h.1));go_wp2_with fail
       go_end0
       exact⟨rfl,_,HO.out⟩
     .have c3:(a:Int)<r:=by omega
      have c4:¬(r:Int)<mid:=by omega
      have HB:=hide (D1.out _ _ HA.out (fun h=>p2 h.2));clear HA C1 D1;go_upto_region 43 with fail;rcases(show (mid<e/\e<b)\/(mid<e/\¬e<b)\/¬mid<e by omega) with⟨q1,q2⟩|⟨q1,q2⟩|q1
      .have c5:(mid:Int)<e:=by omega
       have c6:(e:Int)<b:=by omega
       go_wp2_with fail;refine(C2.out _ _ HB.out q1 q2).mono ?_;rintro en w3 ⟨rfl,L3,hO⟩;have HO:=hide hO;clear hO;go_wp2_with fail
       go_end0
       exact⟨rfl,L3,HO.out⟩
      .have c5:(mid:Int)<e:=by omega
       have c6:¬(e:Int)<b:=by omega
       have HO:=hide (D2.out _ _ HB.out (fun h=>q2 h.2));go_wp2_with fail
       go_end0
       exact⟨rfl,_,HO.out⟩
      .have c5:¬(mid:Int)<e:=by omega
       have HO:=hide (D2.out _ _ HB.out (fun h=>q1 h.1));go_wp2_with fail
       go_end0
       exact⟨rfl,_,HO.out⟩
     .have c3:¬(a:Int)<r:=by omega
      have HB:=hide (D1.out _ _ HA.out (fun h=>p1 h.1));clear HA C1 D1;go_upto_region 43 with fail;rcases(show (mid<e/\e<b)\/(mid<e/\¬e<b)\/¬mid<e by omega) with⟨q1,q2⟩|⟨q1,q2⟩|q1
      .have c5:(mid:Int)<e:=by omega
       have c6:(e:Int)<b:=by omega
       go_wp2_with fail;refine(C2.out _ _ HB.out q1 q2).mono ?_;rintro en w3 ⟨rfl,L3,hO⟩;have HO:=hide hO;clear hO;go_wp2_with fail
       go_end0
       exact⟨rfl,L3,HO.out⟩
      .have c5:(mid:Int)<e:=by omega
       have c6:¬(e:Int)<b:=by omega
       have HO:=hide (D2.out _ _ HB.out (fun h=>q2 h.2));go_wp2_with fail
       go_end0
       exact⟨rfl,_,HO.out⟩
      .have c5:¬(mid:Int)<e:=by omega
       have HO:=hide (D2.out _ _ HB.out (fun h=>q1 h.1));go_wp2_with fail
       go_end0
       exact⟨rfl,_,HO.out⟩
    .have c1:(r:Int)<m:=by omega
     have c2:¬(m:Int)<e:=by omega
     have HA:Hid (StA js bl L base (.slice va L.length vcap) a r mid e b w L wr):=⟨HR0.out,HHv.out L (fun q=>tgt_none (.inr (by omega)) (by omega) q),Mov.refl _ _ _,HF0.out⟩;clear CR HR0 HF0 HHv;go_upto_region 41 with fail;rcases(show (a<r/\r<mid)\/(a<r/\¬r<mid)\/¬a<r by omega) with⟨p1,p2⟩|⟨p1,p2⟩|p1
     .have c3:(a:Int)<r:=by omega
      have c4:(r:Int)<mid:=by omega
      go_wp2_with fail;refine(C1.out _ _ HA.out p1 p2).mono ?_;rintro en w2 ⟨rfl,L2,hB⟩;have HB:=hide hB;clear hB HA C1 D1;go_upto_region 43 with fail;rcases(show (mid<e/\e<b)\/(mid<e/\¬e<b)\/¬mid<e by omega) with⟨q1,q2⟩|⟨q1,q2⟩|q1
      .have c5:(mid:Int)<e:=by omega
       have c6:(e:Int)<b:=by omega
       go_wp2_with fail;refine(C2.out _ _ HB.out q1 q2).mono ?_;rintro en w3 ⟨rfl,L3,hO⟩;have HO:=hide hO;clear hO;go_wp2_with fail
       go_end0
       exact⟨rfl,L3,HO.out⟩
      .have c5:(mid:Int)<e:=by omega
       have c6:¬(e:Int)<b:=by omega
       have HO:=hide (D2.out _ _ HB.out (fun h=>q2 h.2));go_wp2_with fail
       go_end0
       exact⟨rfl,_,HO.out⟩
      .have c5:¬(mid:Int)<e:=by omega
       have HO:=hide (D2.out _ _ HB.out (fun h=>q1 h.1));go_wp2_with fail
       go_end0
       exact⟨rfl,_,HO.out⟩
     .have c3:(a:Int)<r:=by omega
      have c4:¬(r:Int)<mid:=by omega
      have HB:=hide (D1.out _ _ HA.out (fun h=>p2 h.2));clear HA C1 D1;go_upto_region 43 with fail;rcases(show (mid<e/\e<b)\/(mid<e/\¬e<b)\/¬mid<e by omega) with⟨q1,q2⟩|⟨q1,q2⟩|q1
      .have c5:(mid:Int)<e:=by omega
       have c6:(e:Int)<b:=by omega
       go_wp2_with fail;refine(C2.out _ _ HB.out q1 q2).mono ?_;rintro en w3 ⟨rfl,L3,hO⟩;have HO:=hide hO;clear hO;go_wp2_with fail
       go_end0
       exact⟨rfl,L3,HO.out⟩
      .have c5:(mid:Int)<e:=by omega
       have c6:¬(e:Int)<b:=by omega
       have HO:=hide (D2.out _ _ HB.out (fun h=>q2 h.2));go_wp2_with fail
       go_end0
       exact⟨rfl,_,HO.out⟩
      .have c5:¬(mid:Int)<e:=by omega
       have HO:=hide (D2.out _ _ HB.out (fun h=>q1 h.1));go_wp2_with fail
       go_end0
       exact⟨rfl,_,HO.out⟩
     .have c3:¬(a:Int)<r:=by omega
      have HB:=hide (D1.out _ _ HA.out (fun h=>p1 h.1));clear HA C1 D1;go_upto_region 43 with fail;rcases(show (mid<e/\e<b)\/(mid<e/\¬e<b)\/¬mid<e by omega) with⟨q1,q2⟩|⟨q1,q2⟩|q1
      .have c5:(mid:Int)<e:=by omega
       have c6:(e:Int)<b:=by omega
       go_wp2_with fail;refine(C2.out _ _ HB.out q1 q2).mono ?_;rintro en w3 ⟨rfl,L3,hO⟩;have HO:=hide hO;clear hO;go_wp2_with fail
       go_end0
       exact⟨rfl,L3,HO.out⟩
      .have c5:(mid:Int)<e:=by omega
       have c6:¬(e:Int)<b:=by omega
       have HO:=hide (D2.out _ _ HB.out (fun h=>q2 h.2));go_wp2_with fail
       go_end0
       exact⟨rfl,_,HO.out⟩
      .have c5:¬(mid:Int)<e:=by omega
       have HO:=hide (D2.out _ _ HB.out (fun h=>q1 h.1));go_wp2_with fail
       go_end0
       exact⟨rfl,_,HO.out⟩
    .have c1:¬(r:Int)<m:=by omega
     have HA:Hid (StA js bl L base (.slice va L.length vcap) a r mid e b w L wr):=⟨HR0.out,HHv.out L (fun q=>tgt_none (.inl (by omega)) (by omega) q),Mov.refl _ _ _,HF0.out⟩;clear CR HR0 HF0 HHv;go_upto_region 41 with fail;rcases(show (a<r/\r<mid)\/(a<r/\¬r<mid)\/¬a<r by omega) with⟨p1,p2⟩|⟨p1,p2⟩|p1
     .have c3:(a:Int)<r:=by omega
      have c4:(r:Int)<mid:=by omega
      go_wp2_with fail;refine(C1.out _ _ HA.out p1 p2).mono ?_;rintro en w2 ⟨rfl,L2,hB⟩;have HB:=hide hB;clear hB HA C1 D1;go_upto_region 43 with fail;rcases(show (mid<e/\e<b)\/(mid<e/\¬e<b)\/¬mid<e by omega) with⟨q1,q2⟩|⟨q1,q2⟩|q1
      .have c5:(mid:Int)<e:=by omega
       have c6:(e:Int)<b:=by omega
       go_wp2_with fail;refine(C2.out _ _ HB.out q1 q2).mono ?_;rintro en w3 ⟨rfl,L3,hO⟩;have HO:=hide hO;clear hO;go_wp2_with fail
       go_end0
       exact⟨rfl,L3,HO.out⟩
      .have c5:(mid:Int)<e:=by omega
       have c6:¬(e:Int)<b:=by omega
       have HO:=hide (D2.out _ _ HB.out (fun h=>q2 h.2));go_wp2_with fail
       go_end0
       exact⟨rfl,_,HO.out⟩
      .have c5:¬(mid:Int)<e:=by omega
       have HO:=hide (D2.out _ _ HB.out (fun h=>q1 h.1));go_wp2_with fail
       go_end0
       exact⟨rfl,_,HO.out⟩
     .have c3:(a:Int)<r:=by omega
      have c4:¬(r:Int)<mid:=by omega
      have HB:=hide (D1.out _ _ HA.out (fun h=>p2 h.2));clear HA C1 D1;go_upto_region 43 with fail;rcases(show (mid<e/\e<b)\/(mid<e/\¬e<b)\/¬mid<e by omega) with⟨q1,q2⟩|⟨q1,q2⟩|q1
      .have c5:(mid:Int)<e:=by omega
       have c6:(e:Int)<b:=by omega
       go_wp2_with fail;refine(C2.out _ _ HB.out q1 q2).mono ?_;rintro en w3 ⟨rfl,L3,hO⟩;have HO:=hide hO;clear hO;go_wp2_with fail
       go_end0
       exact⟨rfl,L3,HO.out⟩
      .have c5:(mid:Int)<e:=by omega
       have c6:¬(e:Int)<b:=by omega
       have HO:=hide (D2.out _ _ HB.out (fun h=>q2 h.2));go_wp2_with fail
       go_end0
       exact⟨rfl,_,HO.out⟩
      .have c5:¬(mid:Int)<e:=by omega
       have HO:=hide (D2.out _ _ HB.out (fun h=>q1 h.1));go_wp2_with fail
       go_end0
       exact⟨rfl,_,HO.out⟩
     .have c3:¬(a:Int)<r:=by omega
      have HB:=hide (D1.out _ _ HA.out (fun h=>p1 h.1));clear HA C1 D1;go_upto_region 43 with fail;rcases(show (mid<e/\e<b)\/(mid<e/\¬e<b)\/¬mid<e by omega) with⟨q1,q2⟩|⟨q1,q2⟩|q1
      .have c5:(mid:Int)<e:=by omega
       have c6:(e:Int)<b:=by omega
       go_wp2_with fail;refine(C2.out _ _ HB.out q1 q2).mono ?_;rintro en w3 ⟨rfl,L3,hO⟩;have HO:=hide hO;clear hO;go_wp2_with fail
       go_end0
       exact⟨rfl,L3,HO.out⟩
      .have c5:(mid:Int)<e:=by omega
       have c6:¬(e:Int)<b:=by omega
       have HO:=hide (D2.out _ _ HB.out (fun h=>q2 h.2));go_wp2_with fail
       go_end0
       exact⟨rfl,_,HO.out⟩
      .have c5:¬(mid:Int)<e:=by omega
       have HO:=hide (D2.out _ _ HB.out (fun h=>q1 h.1));go_wp2_with fail
       go_end0
       exact⟨rfl,_,HO.out⟩
theorem sym_any (js:List Jb)(bl left:Nat->Nat)(base:Nat)(v:Value):∀N,SymP js bl left base v N
 | 0=>fun L a m b w _ _ _ h1 h2 _ _ _ _ h3=>by omega
 | N+1=>sym_step js bl left base v N (sym_any js bl left base v N)
structure Sorted (js:List Jb) (L L':List Nat):Prop where
 perm:L'.Perm L
 srt:Srt (relK js) L' 0 L'.length
end
end Go.Proofs.YtbdffcjganlblaaGreatDoor
