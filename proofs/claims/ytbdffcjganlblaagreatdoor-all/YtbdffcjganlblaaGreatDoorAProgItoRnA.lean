import Derived.Test.YtbdffcjganlblaaGreatDoorATbJtoProgH
import Derived.Deep.RegionWith
import Derived.Test.YtbdffcjganlblaaGreatDoorALaystoLays
set_option linter.unusedVariables false
set_option linter.unusedSimpArgs false
set_option maxRecDepth 100000
set_option maxHeartbeats 16000000
namespace Go.Proofs.YtbdffcjganlblaaGreatDoor
section
open Go.RowKit
theorem lk_fst (l:List (Tk×Nat))(k:Nat):(lk l k).1=tsk (l.map Prod.fst) k:=by
 unfold lk tsk;rw[List.getD_eq_getElem?_getD,List.getD_eq_getElem?_getD,List.getElem?_map]
 cases l[k]?<;>rfl
theorem cycle_any (l:List (Tk×Nat))(g cap:Nat)(pa:Option Addr)(pm pc:Nat)(w:World)(hg:g<w.heap.size)(hr:RowPT w g l)(hn:l.length<=6)(hP:∀k,k<l.length->1<=(lk l k).1.P/\(lk l k).1.P<=60):
  Calls Tryz.prog 128 #[.agg #[.slice (some ⟨g,0,none⟩) l.length cap,.slice pa pm pc]] w fun e w'=>(∃v:Nat,e=.returned (.int .i64 v)/\(60<v↔cycI (l.map Prod.fst)=0))/\Below w.heap.size w w':=by
 have Hb:=hide (zN w (.cells #[.slice (some ⟨g,0,none⟩) l.length cap,.slice pa pm pc] 84));have Hr:=hide hr;have HP:=hide hP;have Hc:Hid (cycI (l.map Prod.fst)=cycF (l.map Prod.fst) (l.map Prod.fst).length 0 1):=rfl;have hml:Hid ((l.map Prod.fst).length=l.length):=by simp[Hid]
 clear hr hP;go_enter Tryz.func128,Tryz.ntmps128;go_wp2
 go_loopw [3,9] (fun x i wr=>∃(k h:Nat),k<=l.length/\i=.int .i64 k/\x=.int .i64 h/\1<=h/\h<=60/\Below w.heap.size w wr/\Hid (cycI (l.map Prod.fst)=cycF (l.map Prod.fst) (l.length-k) k h)) (fun _ i _=>l.length-(intOf i).toNat)
 case atStart=>exact⟨0,1,by omega,rfl,rfl,by omega,by omega,Hb.out,by unfold Hid;rw[Hc.out,hml.out];rfl⟩
 case round=>
  clear Hb Hc hml;obtain⟨k,h,hk,rfl,rfl,hh1,hh2,hbw,hf⟩:=hrel;have Hb:=hide hbw;have hsz:=hbw.size;clear hbw;by_cases hlt:k<l.length
  .obtain⟨r0,r1,r2,r3,r4,r5,r6,r7,r8,r9⟩:=Hr.out.below Hb.out hg k hlt;have hgw:g<wr.heap.size:=by omega
   obtain⟨hP1,hP2⟩:=HP.out k hlt;have hfs:cycF (l.map Prod.fst) (l.length-k) k h=if 60<h/Nat.gcd h (lk l k).1.P*(lk l k).1.P then 0 else cycF (l.map Prod.fst) (l.length-(k+1)) (k+1) (h/Nat.gcd h (lk l k).1.P*(lk l k).1.P):=by
    rw[lk_fst,show l.length-k=(l.length-(k+1))+1 by omega,cycF]
   have hpos:=lcm_pos h (lk l k).1.P hh1 hP1;have Hfs:=hide hfs;clear hfs;generalize lk l k=x at *;go_wp2_with fail;refine(lcm_any h x.1.P _ hh1 hh2 hP2).mono ?_;rintro e w1 ⟨rfl,hb1⟩;have Hb1:=hide (Hb.out.trans (((zN wr _).trans (hb1.mono (by simp))).mono (by omega)));clear hb1;generalize h/Nat.gcd h x.1.P*x.1.P=L at *;by_cases h60:60<L
   .have h60':(60:Int)<L:=by omega
    go_wp2;go_ret;refine⟨⟨L,rfl,?_⟩,Hb1.out⟩;rw[hf.out,Hfs.out,if_pos h60];exact⟨fun _=>rfl,fun _=>h60⟩
   .have h60':¬(60:Int)<L:=by omega
    go_wp2;go_roundw
    case rel=>exact⟨k+1,L,by omega,by go_num,rfl,by omega,by omega,Hb1.out,by unfold Hid;rw[hf.out,Hfs.out,if_neg h60]⟩
    case measure=>simp[intOf];omega
  .go_wp2;go_ret;refine⟨⟨h,rfl,?_⟩,Hb.out⟩;rw[hf.out,show l.length-k=0 by omega,cycF];omega
def FindOut (l:List (Tk×Nat)) (c:UInt8) (q:Nat) (w:World) (e:Ending) (w':World):Prop:=
 Below w.heap.size w w'/\((findL l c l.length 0<0/\e=pan 3 q)\/(0<=findL l c l.length 0/\e=.returned (.int .i64 (findL l c l.length 0))))
theorem mustFind_any (l:List (Tk×Nat))(g cap:Nat)(pa:Option Addr)(pm pc:Nat)(c:UInt8)(q:Nat)(w:World)(hg:g<w.heap.size)(hr:RowPT w g l)(hn:l.length<=6):
  Calls Tryz.prog 152 #[.agg #[.slice (some ⟨g,0,none⟩) l.length cap,.slice pa pm pc],.agg #[.string (bs [c]),.int .i64 q]] w (FindOut l c q w):=by
 have Hr:=hide hr;clear hr;go_enter Tryz.func152,Tryz.ntmps152;go_wp2_with fail;refine(findTask_any l g l.length cap c q _ (by simp;omega) ((Hr.out.below (zN w _) hg).below (zN _ _) (by simp;omega)) (Nat.le_refl _) hn).mono ?_;rintro e w1 ⟨rfl,hb1⟩;have hB:=hide (((zN w _).alloc (by simp) _).trans (hb1.mono (by simp;omega)));have hX:w1.heap[w.heap.size+1]? =some (.cells #[.string (bs [c]),.int .i64 q] 170 (0,0)):=by
  refine zK ?_ hb1;simpa using zW (w.alloc _) _ _
 have xc:=zC hX;clear hb1 hX;by_cases h0:findL l c l.length 0<0
 .have H0:=hide h0;go_wp2_with fail;refine(refuse_any 3 q _ rfl _).mono ?_;rintro e w' ⟨rfl,rfl⟩;exact⟨rfl,hB.out,.inl ⟨H0.out,rfl⟩⟩
 .have H0:Hid (0<=findL l c l.length 0):=by unfold Hid;omega
  go_wp2;go_ret;exact⟨hB.out,.inr ⟨H0.out,rfl⟩⟩
def pE (l:List (Tk×Nat)) (p:Pr):Option (Nat×Nat):=
 if findL l p.a l.length 0<0 then some (3,p.q0)
 else if findL l p.b l.length 0<0 then some (3,p.q1)
 else if findL l p.a l.length 0=findL l p.b l.length 0 then some (5,p.q1)
 else if p.ap=false/\(lk l (findL l p.a l.length 0).toNat).1.P≠(lk l (findL l p.b l.length 0).toNat).1.P then some (5,p.q1)
 else none
def COut (E:Option (Nat×Nat)) (w:World) (e:Ending) (w':World):Prop:=
 Below w.heap.size w w'/\((∃f,E=some f/\e=pan f.1 f.2)\/(E=none/\e=.returned (.tuple #[])))
theorem findL_lt (l:List (Tk×Nat))(c:UInt8):∀(f k:Nat),findL l c f k<k+f/\-1<=findL l c f k
 | 0,k=>by simp[findL];omega
 | f+1,k=>by
  rw[findL];have:=findL_lt l c f (k+1);split
  .omega
  .omega
def pW (p:Pr):List UInt8:=if p.ap then [97,112,97,114,116] else [98,101,102,111,114,101]
def ppA (p:Pr):Array Value:=#[.string (bs (pW p)),.string (bs [p.a]),.int .i64 p.q0,.string (bs [p.b]),.int .i64 p.q1]
theorem checkPair_any (l:List (Tk×Nat))(g cap:Nat)(pa:Option Addr)(pm pc:Nat)(p:Pr)(w:World)(hg:g<w.heap.size)(hr:RowPT w g l)(hn:l.length<=6):
  Calls Tryz.prog 127 #[.agg #[.slice (some ⟨g,0,none⟩) l.length cap,.slice pa pm pc],.agg #[.string (bs (pW p)),.string (bs [p.a]),.int .i64 p.q0,.string (bs [p.b]),.int .i64 p.q1]] w (COut (pE l p) w):=by
 have Hr:=hide hr;have hE:Hid (pE l p=if findL l p.a l.length 0<0 then some (3,p.q0)
  else if findL l p.b l.length 0<0 then some (3,p.q1)
  else if findL l p.a l.length 0=findL l p.b l.length 0 then some (5,p.q1)
  else if p.ap=false/\(lk l (findL l p.a l.length 0).toNat).1.P≠(lk l (findL l p.b l.length 0).toNat).1.P then some (5,p.q1)
  else none):=rfl
 have hfa:=findL_lt l p.a l.length 0;have hfb:=findL_lt l p.b l.length 0;have hW:((bs (pW p)).toList==[98,101,102,111,114,101])=!p.ap:=by
  rw[ByteArray.toList_eq,bs_data];unfold pW
  cases p.ap<;>rfl
 clear hr;go_enter Tryz.func127,Tryz.ntmps127;go_wp2_with fail;refine(mustFind_any l g cap pa pm pc p.a p.q0 _ (by simp;omega) ((Hr.out.below (zN w _) hg).below (zN _ _) (by simp;omega)) hn).mono ?_;rintro e w1 ⟨hb1,hcase⟩;have hB:=((zN w _).alloc (by simp) _).trans (hb1.mono (by simp;omega));have hX:w1.heap[w.heap.size]? =some (.cells #[.slice (some ⟨g,0,none⟩) l.length cap,.slice pa pm pc] 84 (0,0)):=by
  refine zK ?_ hb1;rw[Below.heap_alloc _ _ _ (by simp)];exact zW _ _ _
 have hY:w1.heap[w.heap.size+1]? =some (.cells (ppA p) 175 (0,0)):=by
  refine zK ?_ hb1;simpa [ppA] using zW (w.alloc _) _ _
 have hR1:=Hr.out.below hB hg;rcases hcase with⟨h1,rfl⟩|⟨h1,rfl⟩
 .exact⟨rfl,hB,.inl ⟨(3,p.q0),by rw[hE.out,if_pos h1],rfl⟩⟩
 have hsz:=hB.size;have xc:=zC hX;have yc:=zC hY;unfold ppA at yc;have HX:=hide hX;have HY:=hide hY;have HB:=hide hB;have HR1:=hide hR1;have H1:=hide h1;clear hb1 hX hY hB hR1 h1;go_wp2_with fail;refine(mustFind_any l g cap pa pm pc p.b p.q1 _ (by omega) HR1.out hn).mono ?_;rintro e w2 ⟨hb2,hcase⟩;have hB2:=HB.out.trans (hb2.mono hsz);have hX2:=zK HX.out hb2;have hY2:=zK HY.out hb2;have hR2:=HR1.out.below hb2 (by omega);rcases hcase with⟨h2,rfl⟩|⟨h2,rfl⟩
 .have h1:=H1.out;exact⟨rfl,hB2,.inl ⟨(3,p.q1),by rw[hE.out,if_neg (by omega),if_pos h2],rfl⟩⟩
 obtain⟨na,hna⟩:=Int.eq_ofNat_of_zero_le H1.out;obtain⟨nb,hnb⟩:=Int.eq_ofNat_of_zero_le h2;rw[hna]at hfa ⊢;rw[hnb]at hfb ⊢;have hE2:Hid (pE l p=if na=nb then some (5,p.q1) else if p.ap=false/\(lk l na).1.P≠(lk l nb).1.P then some (5,p.q1) else none):=by
  unfold Hid;rw[hE.out,hna,hnb,if_neg (by omega),if_neg (by omega)];simp only[Int.toNat_natCast];by_cases h:na=nb
  .rw[if_pos h,if_pos (by omega)]
  .rw[if_neg h,if_neg (by omega)]
 clear xc yc hna hnb h2;have xc:=zC hX2;have yc:=zC hY2;unfold ppA at yc;have ra:=(hR2 na (by omega)).2.2.1;have rb:=(hR2 nb (by omega)).2.2.1;have hna6:na<l.length:=by omega
 have hnb6:nb<l.length:=by omega
 have HB2:=hide hB2;clear hb2 hX2 hY2 hR2 hB2 HX HY HB HR1 H1 hE hfa hfb;have hnot:∀(x:Bool) (w:World),(Op.unary .not (.bool x)).run Tryz.prog w=.ok (.bool (!x)) w:=fun _ _=>rfl;by_cases he:na=nb
 .have he1:((na:Int)==nb)=true:=by simp;omega
  have HE:=hide (show pE l p=some (5,p.q1) by rw[hE2.out,if_pos he]);clear he hE2;go_wp2_with fail;refine(refuse_any 5 p.q1 _ rfl _).mono ?_;rintro e w' ⟨rfl,rfl⟩;exact⟨rfl,HB2.out,.inl ⟨(5,p.q1),HE.out,rfl⟩⟩
 .have he1:((na:Int)==nb)=false:=by simp;omega
  have hE3:Hid (pE l p=if p.ap=false/\(lk l na).1.P≠(lk l nb).1.P then some (5,p.q1) else none):=by unfold Hid;rw[hE2.out,if_neg he]
  clear he hE2
  cases hap:p.ap
  .rw[hap]at hW;simp only[Bool.not_false]at hW;by_cases hP:(lk l na).1.P=(lk l nb).1.P
   .have hP1:(((lk l na).1.P:Int)==(lk l nb).1.P)=true:=by simp;omega
    have HE:=hide (show pE l p=none by rw[hE3.out,if_neg (by intro h;exact h.2 hP)]);clear hP hE3 hap;go_wp2
    go_quiet (fail)
    go_wp2
    go_end0
    exact⟨below_drewN HB2.out _,.inr ⟨HE.out,rfl⟩⟩
   .have hP1:(((lk l na).1.P:Int)==(lk l nb).1.P)=false:=by simp;omega
    have HE:=hide (show pE l p=some (5,p.q1) by rw[hE3.out,if_pos ⟨hap,hP⟩]);clear hP hE3 hap;go_wp2
    go_quiet (fail)
    go_wp2_with fail;refine(refuse_any 5 p.q1 _ rfl _).mono ?_;rintro e w' ⟨rfl,rfl⟩;exact⟨rfl,below_drewN HB2.out _,.inl ⟨(5,p.q1),HE.out,rfl⟩⟩
  .rw[hap]at hW;simp only[Bool.not_true]at hW;have HE:=hide (show pE l p=none by rw[hE3.out,if_neg (by rw[hap];simp)]);clear hE3 hap
   cases hP1:(((lk l na).1.P:Int)==(lk l nb).1.P)
   all_goals
    go_wp2
    go_quiet (fail)
    go_wp2
    go_end0
    exact⟨below_drewN HB2.out _,.inr ⟨HE.out,rfl⟩⟩
def tE (l:List (Tk×Nat)) (k:Nat):Option (Nat×Nat):=
 if 0<=findL l (lk l k).1.nm k 0 then some (3,(lk l k).1.q0) else if 0<=timedI (lk l k).1 then some (4,(timedI (lk l k).1).toNat) else none
def ckT (l:List (Tk×Nat)):Nat->Nat->Option (Nat×Nat)
 | 0,_=>none
 | f+1,k=>match tE l k with
  | some x=>some x
  | none=>ckT l f (k+1)
def ckP (l:List (Tk×Nat)) (ps:List Pr):Nat->Nat->Option (Nat×Nat)
 | 0,_=>none
 | f+1,k=>match pE l (psk ps k) with
  | some x=>some x
  | none=>ckP l ps f (k+1)
def checkR (l:List (Tk×Nat)) (ps:List Pr):Option (Nat×Nat):=
 match ckT l l.length 0 with
 | some x=>some x
 | none=>match ckP l ps ps.length 0 with
  | some x=>some x
  | none=>if cycI (l.map Prod.fst)=0 then some (4,0) else none
theorem ckT_step (l:List (Tk×Nat))(k:Nat)(h:k<l.length):ckT l (l.length-k) k=match tE l k with
  | some x=>some x
  | none=>ckT l (l.length-(k+1)) (k+1):=by
 rw[show l.length-k=(l.length-(k+1))+1 by omega,ckT]
theorem ckP_step (l:List (Tk×Nat))(ps:List Pr)(k:Nat)(h:k<ps.length):ckP l ps (ps.length-k) k=match pE l (psk ps k) with
  | some x=>some x
  | none=>ckP l ps (ps.length-(k+1)) (k+1):=by
 rw[show ps.length-k=(ps.length-(k+1))+1 by omega,ckP]
theorem ckT_none {l:List (Tk×Nat)}:∀(f k:Nat),ckT l f k=none->∀j,k<=j->j<k+f->tE l j=none
 | 0,k,_,j,h1,h2=>by omega
 | f+1,k,h,j,h1,h2=>by
  rw[ckT]at h
  cases ht:tE l k with
  | some x=>rw[ht]at h;simp at h
  | none=>
   rw[ht]at h;by_cases hj:j=k
   .rw[hj];exact ht
   .exact ckT_none f (k+1) h j (by omega) (by omega)
theorem tE_none {l:List (Tk×Nat)}{k:Nat}(h:tE l k=none):timedI (lk l k).1<0:=by
 unfold tE at h;split at h
 .simp at h
 .split at h
  .simp at h
  .omega
theorem checkTimes_v (x:Tk×Nat)(v:Value)(w:World)(hv:v=.agg (ptA x))(hs:x.1.small)(hz:x.2=x.1.q2\/x.1.O=0):
  Calls Tryz.prog 126 #[v] w (TimesOut x.1 w):=by
 subst hv;exact checkTimes_any x w hs hz
theorem check_any (l:List (Tk×Nat))(ps:List Pr)(g cap:Nat)(pa:Option Addr)(pc:Nat)(w:World)(hg:g<w.heap.size)(hr:RowPT w g l)(hcap:l.length<=cap)(hn:l.length<=6)(hsm:∀k,k<l.length->(lk l k).1.small)(hz:ZOk l)
  (hm:ps.length<=6) (hp:0<ps.length->∃gp,pa=some ⟨gp,0,none⟩/\gp<w.heap.size/\RowPP w gp ps) (R:Option (Nat×Nat)) (hRR:checkR l ps=R):
  Calls Tryz.prog 84 #[.agg #[.slice (some ⟨g,0,none⟩) l.length cap,.slice pa ps.length pc]] w (COut R w):=by
 have HRR:=hide hRR;have Hr:=hide hr;have Hsm:=hide hsm;have Hz:=hide hz;have Hp:=hide hp;have hX:=hide (zW w #[.slice (some ⟨g,0,none⟩) l.length cap,.slice pa ps.length pc] 84);have Hb:=hide (zN w (.cells #[.slice (some ⟨g,0,none⟩) l.length cap,.slice pa ps.length pc] 84));clear hr hsm hz hp hRR;go_enter Tryz.func84,Tryz.ntmps84;go_wp2
 go_loopw [9] (fun i wr=>∃k:Nat,k<=l.length/\i=.int .i64 k/\Hid (ckT l l.length 0=ckT l (l.length-k) k)/\wr.heap[w.heap.size]? =some (.cells #[.slice (some ⟨g,0,none⟩) l.length cap,.slice pa ps.length pc] 84 (0,0))/\Below w.heap.size w wr) (fun i _=>l.length-(intOf i).toNat)
 case atStart=>exact⟨0,by omega,rfl,rfl,hX.out,Hb.out⟩
 case round=>
  clear hX Hb;obtain⟨k,hk,rfl,hf,hx,hb⟩:=hrel;have xc:=zC hx;have hxl:=zL hx;have Hx:=hide hx;have Hb:=hide hb;clear hx hb;by_cases hlt:k<l.length
  .have hrow:=hide (Hr.out.below Hb.out hg);obtain⟨r0,r1,r2,r3,r4,r5,r6,r7,r8,r9⟩:=hrow.out k hlt;have hgw:g<wr.heap.size:=by omega
   have hstep:=hide (ckT_step l k hlt);have hxs:=hide (Hsm.out k hlt);have hxz:Hid ((lk l k).2=(lk l k).1.q2\/(lk l k).1.O=0):=Hz.out (lk l k) (by
    unfold lk;rw[List.getD_eq_getElem?_getD,List.getElem?_eq_getElem hlt];exact List.getElem_mem hlt)
   have hte:Hid (tE l k=if 0<=findL l (lk l k).1.nm k 0 then some (3,(lk l k).1.q0) else if 0<=timedI (lk l k).1 then some (4,(timedI (lk l k).1).toNat) else none):=rfl;have hle:(k:Int)<=(cap:Int):=by omega
   have hkc:k<=cap:=by omega
   generalize lk l k=x at *;go_wp2_with fail
   go_region_with ((go_at_call 125;refine(findTask_any l g k cap x.1.nm x.1.q0 _ (by simp;omega) (hrow.out.below (((zN wr _)).drew) hgw) (by omega) hn).mono ?_;rintro e w1 ⟨rfl,hb1⟩))
   all_goals
    have hB1:=((Hb.out.alloc (by omega) (.cells (ptA x) 172)).drew).trans (hb1.mono (by simp;omega));have hx1:w1.heap[w.heap.size]? =some (.cells #[.slice (some ⟨g,0,none⟩) l.length cap,.slice pa ps.length pc] 84 (0,0)):=by
     refine zK ?_ hb1;show (wr.alloc _).heap[w.heap.size]? =_;rw[Below.heap_alloc _ _ _ hxl];exact Hx.out
    have ht1:w1.heap[wr.heap.size]? =some (.cells (ptA x) 172 (0,0)):=by
     refine zK ?_ hb1;exact zW wr _ _
    obtain⟨c0,c1,c2,c3,c4,c5,c6,c7,c8,c9⟩:=ptA_cells ht1;have HB1:=hide hB1;have Hx1:=hide hx1;have hs1:=hB1.size;clear hb1 hB1 hx1 ht1 r0 r1 r2 r3 r4 r5 r6 r7 r8 r9 xc Hx;by_cases hfd:0<=findL l x.1.nm k 0
    .have HE:Hid (R=some (3,x.1.q0)):=by
      unfold Hid;rw[←HRR.out];unfold checkR;rw[hf.out,hstep.out,hte.out,if_pos hfd]
     clear hstep hte;go_wp2_with fail;refine(refuse_any 3 x.1.q0 _ rfl _).mono ?_;rintro e w' ⟨rfl,rfl⟩;exact⟨rfl,HB1.out,.inl ⟨(3,x.1.q0),HE.out,rfl⟩⟩
    .have hte2:Hid (tE l k=if 0<=timedI x.1 then some (4,(timedI x.1).toNat) else none):=by unfold Hid;rw[hte.out,if_neg (by omega)]
     clear hte;go_wp2_with fail;refine(checkTimes_v x _ _ rfl hxs.out hxz.out).mono ?_;rintro e w2 ⟨hb2,hcase⟩;have hB2:=HB1.out.trans (hb2.mono hs1);rcases hcase with⟨h1,rfl⟩|⟨h1,rfl⟩
     .refine⟨rfl,hB2,.inl ⟨(4,(timedI x.1).toNat),?_,rfl⟩⟩;rw[←HRR.out];unfold checkR;rw[hf.out,hstep.out,hte2.out,if_pos h1]
     .have hn2:Hid (ckT l l.length 0=ckT l (l.length-(k+1)) (k+1)):=by
       unfold Hid;rw[hf.out,hstep.out,hte2.out,if_neg (by omega)]
      have hx2:=hide (zK Hx1.out hb2);have HB2:=hide hB2;clear hb2 hB2 h1 c0 c1 c2 c3 c4 c5 c6 c7 c8 c9;go_wp2;go_roundw
      case rel=>exact⟨k+1,by omega,by go_num,hn2.out,hx2.out,HB2.out⟩
      case measure=>simp[intOf];omega
  .have hT:Hid (ckT l l.length 0=none):=by
    unfold Hid;rw[hf.out,show l.length-k=0 by omega];rfl
   have hP:Hid (∀j,j<l.length->1<=(lk l j).1.P/\(lk l j).1.P<=60):=by
    intro j hj;have:=timed_P (tE_none (ckT_none l.length 0 hT.out j (by omega) (by omega)));omega
   have hR2:Hid ((match ckP l ps ps.length 0 with
     | some x=>some x
     | none=>if cycI (l.map Prod.fst)=0 then some (4,0) else none)=R):=by
    unfold Hid;rw[←HRR.out];unfold checkR;rw[hT.out]
   clear HRR hT hf;go_wp2
   go_loopw [32] (fun i wr=>∃k:Nat,k<=ps.length/\i=.int .i64 k/\Hid (ckP l ps ps.length 0=ckP l ps (ps.length-k) k)/\wr.heap[w.heap.size]? =some (.cells #[.slice (some ⟨g,0,none⟩) l.length cap,.slice pa ps.length pc] 84 (0,0))/\Below w.heap.size w wr) (fun i _=>ps.length-(intOf i).toNat)
   case atStart=>exact⟨0,by omega,rfl,rfl,Hx.out,Hb.out⟩
   case round=>
    clear Hx Hb xc hxl;obtain⟨k,hk,rfl,hf,hx,hb⟩:=hrel;have xc:=zC hx;have hxl:=zL hx;have Hx:=hide hx;have Hb:=hide hb;have hs0:=hb.size;clear hx hb;by_cases hlt:k<ps.length
    .obtain⟨gp,rfl,hgp,hRP⟩:=Hp.out (by omega);obtain⟨r0,r1,r2,r3,r4⟩:=hRP.below Hb.out hgp k hlt;have hrow:=hide (Hr.out.below Hb.out hg);have hgw:g<wr.heap.size:=by omega
     have hgpw:gp<wr.heap.size:=by omega
     have hstep:=hide (ckP_step l ps k hlt);clear hRP Hp;generalize psk ps k=p at *;change wr.cell? ⟨gp,k*5,none⟩=some (.string (bs (pW p))) at r0;go_wp2_with fail;refine(checkPair_any l g cap _ _ _ p _ (by simp;omega) (hrow.out.below (zN wr _) hgw) hn).mono ?_;rintro e w1 ⟨hb1,hcase⟩;have hB1:=(Hb.out.alloc (by omega) _).trans (hb1.mono (by simp;omega));rcases hcase with⟨f,hE,rfl⟩|⟨hE,rfl⟩
     .refine⟨rfl,hB1,.inl ⟨f,?_,rfl⟩⟩;rw[←hR2.out,hf.out,hstep.out,hE]
     .have hn2:Hid (ckP l ps ps.length 0=ckP l ps (ps.length-(k+1)) (k+1)):=by
       unfold Hid;rw[hf.out,hstep.out,hE]
      have hx2:Hid (w1.heap[w.heap.size]? =some (.cells #[.slice (some ⟨g,0,none⟩) l.length cap,.slice (some ⟨gp,0,none⟩) ps.length pc] 84 (0,0))):=by
       refine zK ?_ hb1;rw[Below.heap_alloc _ _ _ hxl];exact Hx.out
      have HB1:=hide hB1;clear hb1 hB1 hE r0 r1 r2 r3 r4 xc;go_wp2;go_roundw
      case rel=>exact⟨k+1,by omega,by go_num,hn2.out,hx2.out,HB1.out⟩
      case measure=>simp[intOf];omega
    .have hPn:Hid (R=if cycI (l.map Prod.fst)=0 then some (4,0) else none):=by
      unfold Hid;rw[←hR2.out,hf.out,show ps.length-k=0 by omega];rfl
     clear hR2 hf;go_wp2_with fail;refine(cycle_any l g cap _ _ _ _ (by omega) (Hr.out.below Hb.out hg) hn hP.out).mono ?_;rintro e w1 ⟨⟨v,rfl,hv⟩,hb1⟩;have HB1:=hide (Hb.out.trans (hb1.mono hs0));clear hb1;by_cases h60:60<v
     .have h60':(60:Int)<v:=by omega
      have HE:Hid (R=some (4,0)):=by unfold Hid;rw[hPn.out,if_pos (hv.1 h60)]
      clear hv hPn;go_wp2_with fail;refine(refuse_any 4 0 _ rfl _).mono ?_;rintro e w' ⟨rfl,rfl⟩;exact⟨rfl,HB1.out,.inl ⟨(4,0),HE.out,rfl⟩⟩
     .have h60':¬(60:Int)<v:=by omega
      have HE:Hid (R=none):=by unfold Hid;rw[hPn.out,if_neg (fun h=>h60 (hv.2 h))]
      clear hv hPn;go_wp2
      go_end0
      exact⟨HB1.out,.inr ⟨HE.out,rfl⟩⟩
end
section
open Go.RowKit Go.Shelf
theorem lays166:Lays.n166 Tryz.prog Tryz.lays156_ren:={ Tryz.lays156 with }
theorem lays169:Lays.n169 Tryz.prog Tryz.lays156_ren:={ Tryz.lays156 with }
theorem writeString_any (B b:Nat)(l:List Value)(s:ByteArray)(w:World)(h:Lib.IsBuilder 109 5 B b l w)(hlen:l.length+s.size<=140737488355328)(hBw:B<=w.heap.size):
  Calls Tryz.prog 70 #[.pointer (some ⟨b,0,none⟩),.string s] w fun e w'=>e=.returned (.tuple #[.int .i64 s.size,.nilIface])/\(Lib.BuilderAt 109 5 B b (.pointer (some ⟨b,0,none⟩)) (l++Lib.strCells s) w'/\Below B w w'):=
 Any.Builder_WriteString lays166 Tryz.Builder_Extra_156 B b l s w h hlen hBw
theorem builderString_any (B b:Nat)(l:List UInt8)(w:World)(h:Lib.IsBuilder 109 5 B b (Lib.byteCells l) w)(hBw:B<=w.heap.size):
  Calls Tryz.prog 73 #[.pointer (some ⟨b,0,none⟩)] w fun e w'=>e=.returned (.string ⟨l.toArray⟩)/\Below B w w':=
 Any.Builder_String_any lays169 Tryz.Builder_Extra_156 B b l w h hBw
theorem join_any (bk o c:Nat)(xs:List ByteArray)(sep:ByteArray)(w:World)(hcells:∀(j:Nat) x,xs[j]? =some x->w.cell? ⟨bk,o+j,none⟩=some (.string x))(hbk:bk<w.heap.size)(hN:xs.length<=140737488355328)(hcap:xs.length<=c)(hlen:(Lib.join (xs.map (·.data.toList)) sep.data.toList).length<=140737488355328):
  Calls Tryz.prog 114 #[.slice (some ⟨bk,o,none⟩) xs.length c,.string sep] w fun e w'=>e=.returned (.string ⟨(Lib.join (xs.map (·.data.toList)) sep.data.toList).toArray⟩)/\Below w.heap.size w w':=
 Any.strings_Join Tryz.lays156 Tryz.Builder_Extra_156 bk o c xs sep w hcells hbk hN hcap hlen
end
section
open Go.RowKit
theorem Tryz.sizeBd:(Tryz.prog.info? 109).map (·.size)=some 2:=by kernel_rfl
theorem Tryz.cellsU8:Tryz.prog.cellsOf 5=1:=by kernel_rfl
theorem Tryz.liesRun:liesAt Tryz.prog Tryz.prog.depth 118 (4/Tryz.prog.cellsOf 118) 2 109 1=true:=by kernel_rfl
structure KeepR (R:Nat) (w w':World):Prop where
 size:w.heap.size<=w'.heap.size
 block:∀i,i<w.heap.size->i≠R->(∀c fr,w.heap[i]? ≠ some (.cells c 5 fr))->w'.heap[i]? =w.heap[i]?
theorem KeepR.refl (R:Nat)(w:World):KeepR R w w:=⟨Nat.le_refl _,fun _ _ _ _=>rfl⟩
theorem KeepR.trans {R:Nat}{a b c:World}(h:KeepR R a b)(k:KeepR R b c):KeepR R a c:=
 ⟨Nat.le_trans h.size k.size,fun i hi hR hu=>by
  have e:=h.block i hi hR hu;rw[k.block i (Nat.lt_of_lt_of_le hi h.size) hR (fun c fr=>by rw[e];exact hu c fr),e]⟩
theorem KeepR.set {R:Nat}{a b:World}(h:KeepR R a b)(o:Nat)(v:Value):KeepR R a (b.setCell ⟨R,o,none⟩ v):=
 h.trans ⟨by simp[World.setCell],fun i hi hR _=>Below.heap_setCell _ _ _ _ hR⟩
theorem KeepR.grown {R:Nat}{a b b':World}(h:KeepR R a b){B:Nat}{v:Value}{n:Nat}{xs:List Value}(hown:b.ownsRow B 5 1 v n xs)(hg:b.grownBy b' v.ownBlock):KeepR R a b':=
 h.trans ⟨hg.size,fun i hi hR hu=>hg.block i hi (fun e=>by
  rcases hown.2 with⟨rfl,_⟩|⟨g,cap,cur,rfl,_,hgb,_⟩
  .simp[Value.ownBlock]at e
  .simp only[Value.ownBlock,Option.some.injEq]at e;subst e;exact hu _ _ hgb)⟩
theorem KeepR.alloc {R:Nat}{a b:World}(h:KeepR R a b)(o:Obj):KeepR R a (b.alloc o):=
 h.trans ⟨by simp,fun i hi _ _=>Below.heap_alloc _ _ _ hi⟩
theorem KeepR.blk {R:Nat}{a b:World}(h:KeepR R a b){i:Nat}{c:Array Value}{ty:TypeId}{fr:Nat×Nat}(hb:a.heap[i]? =some (.cells c ty fr))(hR:i≠R)(ht:ty≠5):b.heap[i]? =some (.cells c ty fr):=by
 rw[h.block i (zL hb) hR (fun c' fr' e=>?_)]
 .exact hb
 .rw[hb]at e;simp at e;exact ht e.2.1
def RunAt (B R:Nat) (cs:Value) (bg:Int) (p:Value) (L:List UInt8) (w:World):Prop:=
 B<=R/\∃v,w.heap[R]? =some (.cells #[cs,.int .i64 bg,p,v] 118 (0,0))/\w.ownsRow B 5 1 v L.length (bV L)
def IsRun (B R:Nat) (cs:Value) (bg:Int) (L:List UInt8) (w:World):Prop:=
 RunAt B R cs bg (.pointer none) L w\/RunAt B R cs bg (.pointer (some ⟨R,2,none⟩)) L w
theorem run_ne {w:World}{B R:Nat}{v:Value}{n:Nat}{xs:List Value}{c:Array Value}{fr:Nat×Nat}(hown:w.ownsRow B 5 1 v n xs)(hb:w.heap[R]? =some (.cells c 118 fr)):v.ownBlock≠some R:=Lib.ownBlock_ne hown hb (by decide)
theorem RunAt.set {B R:Nat}{cs p:Value}{bg:Int}{L:List UInt8}{w:World}(h:RunAt B R cs bg p L w)(bg':Int):RunAt B R cs bg' p L (w.setCell ⟨R,1,none⟩ (.int .i64 bg')):=by
 obtain⟨hB,v,hb,hown⟩:=h;refine⟨hB,v,by rw[zS hb];rfl,?_⟩;exact hown.kept (row:=some R) ⟨rfl,rfl,rfl,by simp[World.setCell],fun k _ hk=>Below.heap_setCell _ _ _ _ (fun e=>hk (by simp[e]))⟩ (Or.inr (run_ne hown hb))
theorem RunAt.self {B R:Nat}{cs p:Value}{bg:Int}{L:List UInt8}{w:World}(h:RunAt B R cs bg p L w)(p':Value):RunAt B R cs bg p' L (w.setCell ⟨R,2,none⟩ p'):=by
 obtain⟨hB,v,hb,hown⟩:=h;refine⟨hB,v,by rw[zS hb];rfl,?_⟩;exact hown.kept (row:=some R) ⟨rfl,rfl,rfl,by simp[World.setCell],fun k _ hk=>Below.heap_setCell _ _ _ _ (fun e=>hk (by simp[e]))⟩ (Or.inr (run_ne hown hb))
theorem RunAt.cells {B R:Nat}{cs p:Value}{bg:Int}{L:List UInt8}{w:World}(h:RunAt B R cs bg p L w):w.cell? ⟨R,0,none⟩=some cs/\w.cell? ⟨R,1,none⟩=some (.int .i64 bg)/\w.cell? ⟨R,2,none⟩=some p/\(∀o,w.frozen? ⟨R,o,none⟩=false)/\w.shape? R=some (118,4):=by
 obtain⟨hB,v,hb,hown⟩:=h;refine⟨by rw[zC hb];rfl,by rw[zC hb];rfl,by rw[zC hb];rfl,zF hb,by simp[World.shape?,hb]⟩
theorem copyCheck_used (R:Nat)(w:World)(h0:w.cell? ⟨R,2,none⟩=some (.pointer (some ⟨R,2,none⟩))):
  Calls Tryz.prog 111 #[.pointer (some ⟨R,2,none⟩)] w fun e w'=>e=.returned (.tuple #[])/\w'=w:=by
 obtain⟨j,hj,_⟩:=Option.map_eq_some_iff.1 Tryz.sizeBd;go_enter Tryz.func111,Tryz.ntmps111;go_wp2;rw[Lib.run_neq_ptr_same w _ Tryz.underlying107 hj];go_wp2
 go_end0
 exact⟨rfl,rfl⟩
theorem copyCheck_fresh (R:Nat)(w:World)(h0:w.cell? ⟨R,2,none⟩=some (.pointer none))(hsh:w.shape? R=some (118,4))(hfz:w.frozen? ⟨R,2,none⟩=false):
  Calls Tryz.prog 111 #[.pointer (some ⟨R,2,none⟩)] w fun e w'=>e=.returned (.tuple #[])/\w'=w.setCell ⟨R,2,none⟩ (.pointer (some ⟨R,2,none⟩)):=by
 obtain⟨j,hj,hjs⟩:=Option.map_eq_some_iff.1 Tryz.sizeBd;go_enter Tryz.func111,Tryz.ntmps111;go_wp2;rw[Lib.run_to_unsafe w ⟨R,2,none⟩ Tryz.underlying107 Tryz.underlying195 hj (by rw[hjs];decide) hsh (by show 2<4;decide)];simp only[Result.andThen];rw[Oper.upon_value];go_wp2;rw[run_callFunc_extern Tryz.func147 (by kernel_rfl) (by kernel_rfl) (by kernel_rfl) (e:=Extern.AbiNoEscape.same) (by kernel_rfl)];rw[Lib.run_noEscape];simp only[Result.andThen];rw[Oper.upon_value];go_wp2;rw[Lib.run_from_unsafe w ⟨R,2,none⟩ Tryz.underlying195 Tryz.underlying107 hj hsh Tryz.liesRun];simp only[Result.andThen];rw[Oper.upon_value];go_wp2
 go_end0
 exact⟨rfl,rfl⟩
theorem copyCheck_run (B R:Nat)(cs:Value)(bg:Int)(L:List UInt8)(w:World)(h:IsRun B R cs bg L w):
  Calls Tryz.prog 111 #[.pointer (some ⟨R,2,none⟩)] w fun e w'=>e=.returned (.tuple #[])/\RunAt B R cs bg (.pointer (some ⟨R,2,none⟩)) L w'/\Below B w w'/\KeepR R w w':=by
 rcases h with h|h
 .obtain⟨_,_,c2,cf,cs⟩:=h.cells;refine(copyCheck_fresh R w c2 cs (cf 2)).mono ?_;rintro e w' ⟨rfl,rfl⟩;exact⟨rfl,h.self _,(Below.refl B w).setCell (p:=⟨R,2,none⟩) h.1 _,(KeepR.refl R w).set _ _⟩
 .obtain⟨_,_,c2,cf,cs⟩:=h.cells;refine(copyCheck_used R w c2).mono ?_;rintro e w' ⟨rfl,rfl⟩;exact⟨rfl,h,Below.refl B _,KeepR.refl R _⟩
theorem writeByte_run (B R:Nat)(cs:Value)(bg:Int)(L:List UInt8)(c:UInt8)(w:World)(h:IsRun B R cs bg L w)(hlen:L.length+1<=100000):
  Calls Tryz.prog 115 #[.pointer (some ⟨R,2,none⟩),.int .u8 c.toNat] w fun e w'=>e=.returned .nilIface/\RunAt B R cs bg (.pointer (some ⟨R,2,none⟩)) (L++[c]) w'/\Below B w w'/\KeepR R w w':=by
 obtain⟨i0,hi,hz0,hz1,hz2⟩:=info_parts Tryz.infoU8;have HC:=hide (copyCheck_run B R cs bg L w h);clear h;go_enter Tryz.func115,Tryz.ntmps115;go_wp2_with fail;refine HC.out.mono ?_;rintro e w1 ⟨rfl,h1,hb1,hk1⟩;have HA:=hide h1;have HB:=hide hb1;have HK:=hide hk1;obtain⟨hB,v,hbk,hown⟩:=h1;have c2:w1.cell? ⟨R,2,none⟩=some (.pointer (some ⟨R,2,none⟩)):=by rw[zC hbk];rfl
 have c3:w1.cell? ⟨R,3,none⟩=some v:=by rw[zC hbk];rfl
 have hRw:R<w1.heap.size:=zL hbk;have Hbk:=hide hbk;have Hown:=hide hown;clear HC hb1 hk1 hbk;go_wp2_with (at_builtin;refine wpList_append_own _ rfl _ _ 64 rfl B 5 i0 (.int .u8 0) 1 1 Tryz.underlying64 hi hz0 hz1 hz2 rfl (by decide) _ _ _ rfl (hown.alloc _) ⟨w1.heap.size,0,none⟩ 1 1 [.int .u8 c.toNat] rfl rfl ?c1 ?c2 ?c3 ?c4 ?c5 ?_)
 case c1=>
  intro j u hj
  match j,hj with
  | 0,hj=>simp at hj;subst hj;simp[Addr.add]
 case c2=>intro u hu;simp at hu;subst hu;rfl
 case c3=>unfold maxLen;omega
 case c4=>omega
 case c5=>simp;omega
 intro v' w2 hown' hgrow _;have hb2:w2.heap[R]? =some (.cells #[cs,.int .i64 bg,.pointer (some ⟨R,2,none⟩),v] 118 (0,0)):=by
  rw[hgrow.block R (by simp;omega) (fun e=>run_ne hown Hbk.out e.symm),Below.heap_alloc _ _ _ hRw];exact Hbk.out
 have d2:w2.cell? ⟨R,2,none⟩=some (.pointer (some ⟨R,2,none⟩)):=by rw[zC hb2];rfl
 have d3:w2.cell? ⟨R,3,none⟩=some v:=by rw[zC hb2];rfl
 have f3:w2.frozen? ⟨R,3,none⟩=false:=zF hb2 3;have Hb2:=hide hb2;have HG:=hide hgrow;have HO:=hide hown';obtain⟨g,cap,rfl⟩:∃g cap,v'=.slice (some ⟨g,0,none⟩) (L.length+1) cap:=by
  rcases hown'.2 with⟨_,h0⟩|⟨g,cap,cur,hv,_⟩
  .omega
  .exact⟨g,cap,hv⟩
 clear hgrow hown' hb2 hown;go_wp2;go_ret;refine⟨rfl,⟨hB,.slice (some ⟨g,0,none⟩) (L.length+1) cap,by rw[zS Hb2.out];rfl,?_⟩,?_,?_⟩
 .have:=HO.out;rw[show bV (L++[c])=bV L++[.int .u8 (c.toNat:Int)] by simp[bV],show (L++[c]).length=L.length+1 by simp];exact this.kept (row:=some R) ⟨rfl,rfl,rfl,by simp[World.setCell],fun k _ hk=>Below.heap_setCell _ _ _ _ (fun e=>hk (by simp[e]))⟩ (Or.inr (run_ne this Hb2.out))
 .exact((HB.out.alloc (by have:=HB.out.size;omega) _).grown HG.out (by simp;omega) (fun k hk=>(Hown.out.lt k hk).1)).setCell (p:=⟨R,3,none⟩) hB _
 .exact((HK.out.alloc _).grown (Hown.out.alloc _) HG.out).set _ _
end
end Go.Proofs.YtbdffcjganlblaaGreatDoor
