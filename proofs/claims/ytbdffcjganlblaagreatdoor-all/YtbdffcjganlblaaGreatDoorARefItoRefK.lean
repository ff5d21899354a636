import Derived.Test.YtbdffcjganlblaaGreatDoorARefFtoRefH
set_option linter.unusedVariables false
set_option linter.unusedSimpArgs false
set_option maxRecDepth 100000
set_option maxHeartbeats 16000000
namespace Go.Proofs.YtbdffcjganlblaaGreatDoor
section
open Go.RowKit
theorem own_weak {w:World}{base base':Nat}{e:TypeId}{size:Nat}{v:Value}{n:Nat}{xs:List Value}(h:w.ownsRow base e size v n xs)(hb:base'<=base):w.ownsRow base' e size v n xs:=by
 refine⟨h.1,?_⟩;rcases h.2 with h|⟨g,cap,cur,h1,h2,h3⟩
 .exact .inl h
 .exact .inr ⟨g,cap,cur,h1,by omega,h3⟩
def ParsePost (T:List PT) (w:World) (e:Ending) (w':World):Prop:=
  Below w.heap.size w w'/\
  ((∃j,pSet T=.error j/\e=.returned (.tuple #[.agg #[.slice none 0 0,.slice none 0 0],.int .i64 2,.int .i64 (tk T j).at_]))\/
   (∃ts ps tv pv,pSet T=.ok (ts,ps)/\e=.returned (.tuple #[.agg #[tv,pv],.int .i64 0,.int .i64 0])/\w'.ownsRow w.heap.size 95 10 tv ts.length (tkRow ts)/\w'.ownsRow w.heap.size 133 5 pv ps.length (prRow ps)))
theorem pw_start {w w1:World}{g cap:Nat}{l:List UInt8}(hl:l.length<=400){base:Nat}(hown:w1.ownsRow base 76 4 (.slice (some ⟨g,0,none⟩) (zT l).length cap) (zT l).length (tokRow (zT l)))(hb:w.heap.size<base)(hg1:base<=g)(hg2:g<w1.heap.size)
  (hbel:Below (w.heap.size+1) (w.alloc (.cells #[.slice none 0 0,.slice none 0 0] 53)) w1):
  PW w ((w1.alloc (.cells #[.slice (some ⟨g,0,none⟩) (zT l).length cap,.int .i64 0,.bool false] 71)).alloc (.cells #[.slice none 0 0,.slice none 0 0] 53)) w1.heap.size g cap (zT l) 0 false (.slice none 0 0) 0 [] (.slice none 0 0) 0 [] (w1.heap.size+2):=by
 have hsz:=hbel.size;simp only[World.size_alloc]at hsz;refine⟨ps_start (by omega) hown hg2 _,?_,?_,World.ownsRow_nil _ _ _ _,World.ownsRow_nil _ _ _ _,?_,by omega,hg2,by omega,by simp,.inl ⟨rfl,rfl⟩⟩
 .simpa using zW (w1.alloc (.cells #[.slice (some ⟨g,0,none⟩) (zT l).length cap,.int .i64 0,.bool false] 71)) #[.slice none 0 0,.slice none 0 0] 53
 .rw[Below.heap_alloc _ _ _ (by simp;omega),Below.heap_alloc _ _ _ (by omega),hbel.block _ (by omega)];exact zW _ _ _
 .refine grownBy_alloc' (grownBy_alloc' ?_ _) _;exact⟨hbel.os,hbel.tape,hbel.output,by omega,fun k hk _=>by rw[hbel.block k (by omega),Below.heap_alloc _ _ _ hk]⟩
theorem tasksR_start {T:List PT}{i':Nat}{ok:Bool}(h:ok=(!false&&sees (tk T 0) wTask)/\i'=if ok then 0+1 else 0):TasksR T i' (!ok) ok 0 []:=by
 obtain⟨h1,h2⟩:=h;simp at h1
 cases ok
 .simp at h2;exact .inl ⟨rfl,rfl,by unfold pFirst;rw[←h1,h2];rfl⟩
 .simp at h2;refine .inr ⟨rfl,[],rfl,rfl,.inr ⟨rfl,by omega,?_⟩⟩;unfold pFirst;rw[←h1,h2];simp only[if_true];show pTasks 6 T 1=match pTasks 6 T 1 with | .error e=>.error e | .ok (ts,k)=>.ok ([]++ts,k)
  generalize pTasks 6 T 1=R
  cases R<;>simp
theorem tkRaw_cells (nm P O C D q0 q1 q2 q3 q4:Nat)(t:Tk)(h:tkRaw nm P O C D q0 q1 q2 q3 q4=tkV t):[Value.int .u8 nm,.int .i64 P,.int .i64 O,.int .i64 C,.int .i64 D,.int .i64 q0,.int .i64 q1,.int .i64 q2,.int .i64 q3,.int .i64 q4]=tkCells t:=by
 unfold tkV tkRaw at h;unfold tkCells;injection h with h;have:=congrArg Array.toList h;simpa using this
theorem prRaw_cells (a c:Nat)(ap:Bool)(q0 q1:Nat)(p:Pr)(h:prRaw a c ap q0 q1=prV p):[Value.int .u8 a,.int .u8 c,.bool ap,.int .i64 q0,.int .i64 q1]=prCells p:=by
 unfold prV prRaw at h;unfold prCells;injection h with h;have:=congrArg Array.toList h;simpa using this
theorem own_slice {w:World}{base:Nat}{e:TypeId}{size:Nat}{v:Value}{n:Nat}{xs:List Value}(h:w.ownsRow base e size v n xs):∃a c,v=.slice a n c:=by
 rcases h.2 with⟨rfl,h0⟩|⟨g,cap,cur,rfl,_⟩
 .exact⟨none,0,by rw[h0]⟩
 .exact⟨_,_,rfl⟩
theorem PW.rebase {w wk:World}{B r cap:Nat}{T:List PT}{i:Nat}{bad:Bool}{tv:Value}{n:Nat}{xs:List Value}{base2:Nat}(h:PW w wk B r cap T i bad tv n xs (.slice none 0 0) 0 [] base2):
  PW w wk B r cap T i bad tv n xs (.slice none 0 0) 0 [] wk.heap.size/\(∀k,tv.ownBlock=some k->k<wk.heap.size):=
 ⟨⟨h.ps,h.hx,h.hy,h.ot,World.ownsRow_nil _ _ _ _,h.g,h.h1,h.h2,h.h4,h.h4,.inl ⟨rfl,rfl⟩⟩,fun k hk=>(h.ot.lt k hk).2⟩
theorem own_len {w:World}{base:Nat}{e:TypeId}{size:Nat}{v:Value}{n:Nat}{xs:List Value}(h:w.ownsRow base e size v n xs):lenOf (some v)=n:=by
 rcases h.2 with⟨rfl,h0⟩|⟨g,cap,cur,rfl,_⟩
 .exact h0.symm
 .rfl
theorem task_news {T:List PT}{i i3:Nat}{bad3:Bool}{nm P O C D q0 q1 q2 q3 q4:Nat}
  (h:(bad3=true/\pTask T i=.error i3)\/(bad3=false/\∃t,pTask T i=.ok (t,i3)/\tkRaw nm P O C D q0 q1 q2 q3 q4=tkV t)):
  (bad3=true/\pTask T i=.error i3)\/(bad3=false/\∃t,pTask T i=.ok (t,i3)/\[Value.int .u8 nm,.int .i64 P,.int .i64 O,.int .i64 C,.int .i64 D,.int .i64 q0,.int .i64 q1,.int .i64 q2,.int .i64 q3,.int .i64 q4]=tkCells t):=by
 rcases h with h|⟨h,t,h1,h2⟩
 .exact .inl h
 .exact .inr ⟨h,t,h1,tkRaw_cells _ _ _ _ _ _ _ _ _ _ t h2⟩
theorem pair_news {T:List PT}{i i3:Nat}{bad3 ap:Bool}{a c q0 q1:Nat}
  (h:(bad3=true/\pPair T ap i=.error i3)\/(bad3=false/\∃p,pPair T ap i=.ok (p,i3)/\prRaw a c ap q0 q1=prV p)):
  (bad3=true/\pPair T ap i=.error i3)\/(bad3=false/\∃p,pPair T ap i=.ok (p,i3)/\[Value.int .u8 a,.int .u8 c,.bool ap,.int .i64 q0,.int .i64 q1]=prCells p):=by
 rcases h with h|⟨h,t,h1,h2⟩
 .exact .inl h
 .exact .inr ⟨h,t,h1,prRaw_cells _ _ _ _ _ t h2⟩
theorem rParse_any (s:ByteArray)(w:World)(hs:s.size<=400):
  Calls Tryz.prog 52 #[.string s] w (ParsePost (zT s.data.toList) w):=by
 obtain⟨it,hti,htz0,htz1,htz2⟩:=info_parts Tryz.infoTask;obtain⟨ip,hpi,hpz0,hpz1,hpz2⟩:=info_parts Tryz.infoPair;have hs':¬(400:Int)<s.size:=by omega
 go_enter Tryz.func52,Tryz.ntmps52;go_wp2_with fail;refine(rTokens_any s _ (by omega)).mono ?_;rintro e w1 ⟨v,rfl,hown,hbel⟩;obtain⟨g,cap,rfl,hg1,hg2⟩:=own_form hown (toks_ne _ _ _);have P0:=pw_start (w:=w) (by simpa using hs) hown (by simp) hg1 hg2 (by simpa using hbel);clear hown hg1 hg2 hbel;generalize zT s.data.toList=T at *;go_wp2_with fail;refine(rword_ex P0.ps _).mono ?_;rintro e w2 ⟨i1,ok,rfl,p,gg,hR⟩;have P1:=P0.call p gg;have R1:=tasksR_start hR.out;clear P0 p gg hR;generalize w1.heap.size=B at *;have c2:=P1.ps.c2;have f2:=P1.ps.f2;have hnot:∀(x:Bool) (w:World),(Op.unary .not (.bool x)).run Tryz.prog w=.ok (.bool (!x)) w:=fun _ _=>rfl;have P2:=hide (P1.call (P1.ps.setBad (!ok)) (zE (zI _ _) _ _));clear P1;have R2:=hide R1;clear R1;go_wp2_with fail
 go_loopw [7] (fun m wr=>∃(i n:Nat) (bad more:Bool) (tv:Value) (xs:List Value),m=.bool more/\PW w wr B g cap T i bad tv n xs (.slice none 0 0) 0 [] (B+2)/\TasksR T i bad more n xs/\n<=6) (fun _ wr=>7-lenOf (wr.cell? ⟨B+1,0,none⟩))
 case atStart=>exact⟨i1,0,!ok,ok,_,_,rfl,P2.out,R2.out,by omega⟩
 case round=>
  clear R2 P2 c2 f2;obtain⟨i,n,bad,more,tv,xs,rfl,P,R,hn⟩:=hrel
  cases more
  .obtain⟨Q0,hdis⟩:=P.rebase;have S0:=pairsR_start R;have hb2:Hid (wr.heap.size<=wr.heap.size):=Nat.le_refl _;have Q0:=hide Q0;have S0:=hide S0;have hdis:=hide hdis;clear P R;go_wp2;generalize hbase:wr.heap.size=base2 at Q0 hdis;rw[hbase]at hb2;have hb3:Hid (base2<=wr.heap.size):=by unfold Hid;omega
   clear hbase hb2
   go_loopw [7] (fun mv wk=>∃(i m:Nat) (bad more:Bool) (pv:Value) (ys:List Value),mv=.bool more/\PW w wk B g cap T i bad tv n xs pv m ys base2/\PairsR T i bad more n xs m ys/\base2<=wk.heap.size) (fun mv wk=>2*(7-lenOf (wk.cell? ⟨B+1,1,none⟩))+moreN mv)
   case atStart=>exact⟨i,0,bad,true,_,_,rfl,Q0.out,S0.out,hb3.out⟩
   case round=>
    clear Q0 S0 hb3 hn;obtain⟨i,m,bad,more,pv,ys,rfl,P,R,hb2⟩:=hrel
    cases more
    .have hE:=pairsR_end R;obtain⟨ta,tc,rfl⟩:=own_slice P.ot;obtain⟨pa,pc,rfl⟩:=own_slice P.op;have hh1:=P.h1;have hh2:=P.h2;have hne1:w.heap.size≠B:=by omega
     have hne2:B≠w.heap.size:=by omega
     have hne3:w.heap.size≠g:=by omega
     have hne4:g≠w.heap.size:=by omega
     have c0:=P.ps.c0;have c1:=P.ps.c1;have c2:=P.ps.c2;have hi:=P.ps.hi;have hnT:=P.ps.hn;obtain⟨r0,r1,r2,r3⟩:=P.ps.row i hi;obtain⟨x1,x2,x3,x4,x5⟩:=P.cells;have PP:=hide P;clear P R hb2;rcases hE with⟨rfl,hE⟩|⟨rfl,hk,hE⟩|⟨rfl,hk,ts,ps,hE,hxs,hnn,hys,hmm⟩
     .have HE:=hide hE;clear hE;go_wp2
      go_quiet (fail)
      go_wp2
      go_region
      go_wp2;refine bodyPost_ret (v:=.tuple #[.agg #[.slice none 0 0,.slice none 0 0],.int .i64 2,.int .i64 (tk T i).at_]) (by simp[results,Tryz.results52,go_sem,x4]) rfl ⟨?_,.inl ⟨i,HE.out,rfl⟩⟩;exact below_grown (zG (zG (grownBy_drewN PP.out.g _) (Nat.le_refl _) _ _) (Nat.le_refl _) _ _)
     .have HE:=hide hE;have hk':(((tk T i).k:Int) != 101)=true:=by simp at hk ⊢;omega
      clear hE hk;go_wp2
      go_quiet (fail)
      go_wp2
      go_region
      go_wp2;refine bodyPost_ret (v:=.tuple #[.agg #[.slice none 0 0,.slice none 0 0],.int .i64 2,.int .i64 (tk T i).at_]) (by simp[results,Tryz.results52,go_sem,x4]) rfl ⟨?_,.inl ⟨i,HE.out,rfl⟩⟩;exact below_grown (zG (zG (grownBy_drewN PP.out.g _) (Nat.le_refl _) _ _) (Nat.le_refl _) _ _)
     .have HE:=hide hE;have hk':(((tk T i).k:Int) != 101)=false:=by simp at hk ⊢;omega
      have Hx:=hide hxs;have Hy:=hide hys;have Hn:=hide hnn;have Hm:=hide hmm;clear hE hk hxs hys hnn hmm;go_wp2
      go_quiet (fail)
      go_wp2;refine bodyPost_ret (v:=.tuple #[.agg #[.slice ta n tc,.slice pa m pc],.int .i64 0,.int .i64 0]) (by simp[results,Tryz.results52,go_sem,x4]) rfl ⟨?_,.inr ⟨ts,ps,_,_,HE.out,rfl,?_,?_⟩⟩
      .exact below_grown (zG (zG (grownBy_drewN PP.out.g _) (Nat.le_refl _) _ _) (Nat.le_refl _) _ _)
      .rw[←Hn.out,←Hx.out];have h3:=PP.out.h3;exact own_weak (ownsRow_setCell_below (ownsRow_setCell_below (w:=wr.drewN nq) PP.out.ot (by show w.heap.size<B+2;omega) _) (by show w.heap.size<B+2;omega) _) (by omega)
      .rw[←Hm.out,←Hy.out];have h3:=PP.out.h3;exact own_weak (ownsRow_setCell_below (ownsRow_setCell_below (w:=wr.drewN nq) PP.out.op (by show w.heap.size<base2;omega) _) (by show w.heap.size<base2;omega) _) (by omega)
    .have hm6:=R.1;have RR:=hide R;obtain⟨a0,c0,rfl⟩:=own_slice P.op;have HL:Hid (lenOf (wr.cell? ⟨B+1,1,none⟩)=m):=by
      unfold Hid;rw[P.cells.2.1];rfl
     obtain⟨x1,x2,x3,x4,x5⟩:=P.cells;clear R;by_cases h6:m<6
     .have h6':(m:Int)<6:=by omega
      go_wp2_with fail;refine(rword_ex P.ps _).mono ?_;rintro e w6 ⟨i6,ok6,rfl,p,gg,hw6⟩;have P6:=P.call p gg;have hb6:=Nat.le_trans hb2 gg.size;obtain⟨y1,y2,y3,y4,y5⟩:=P6.cells;clear P p gg x1 x2 x3 x4 x5 hb2
      cases ok6
      .have hi6:i6=i:=by simpa using hw6.out.2
       subst hi6;go_wp2_with fail;refine(rword_ex P6.ps _).mono ?_;rintro e w7 ⟨i7,ok7,rfl,p,gg,hw7⟩;have P7:=P6.call p gg;have hb7:=Nat.le_trans hb6 gg.size;have L7:Hid (lenOf (w7.cell? ⟨B+1,1,none⟩)=m):=by
        unfold Hid;rw[P7.cells.2.1];rfl
       clear P6 p gg y1 y2 y3 y4 y5 hb6
       cases ok7
       .have hi7:i7=i6:=by simpa using hw7.out.2
        subst hi7;have R7:=pairsR_none RR.out (by
         have h1:=hw6.out.1;have h2:=hw7.out.1
         cases bad
         .right;right;simp at h1 h2;exact⟨h1,h2⟩
         .left;rfl)
        have R7:=hide R7;go_wp2;go_roundw
        case rel=>exact⟨i7,m,bad,false,_,_,rfl,P7,R7.out,hb7⟩
        case measure=>rw[L7.out,HL.out];show 2*(7-m)+0<2*(7-m)+1;omega
       .have hbad:bad=false:=by
         have h2:=hw7.out.1
         cases bad
         .rfl
         .simp at h2
        subst hbad;have hi7:i7=i6+1:=by simpa using hw7.out.2
        subst hi7;have hs1:sees (tk T i6) wApart=true:=by
         have h2:=hw7.out.1;simp at h2;exact h2
        have hs2:sees (tk T i6) wBefore=false:=by
         have h2:=hw6.out.1;simp at h2;exact h2
        have Hs1:=hide hs1;have Hs2:=hide hs2;clear hs1 hs2 hw6 hw7;go_wp2_with fail;refine(rpair_any P7.ps _).mono ?_;rintro e w8 ⟨pa,pc,q0,q1,i8,bad8,rfl,p,gg,hR⟩;have P8:=P7.call p gg;have hb8:=Nat.le_trans hb7 gg.size;clear P7 p gg;obtain⟨x1,x2,x3,x4,x5⟩:=P8.cells;have hsz:=P8.h4;have hlt:B+1<w8.heap.size:=by omega
        have hop:=P8.op;have PP:=hide P8;have HN:=hide (pair_news hR);have h3:=P8.h3;clear P8 hR;unfold prRaw;go_wp2_with (at_builtin;refine wpList_append_own _ rfl _ _ 51 rfl base2 133 ip _ 5 24 Tryz.underlying51 hpi hpz0 hpz1 hpz2 rfl (by decide) _ _ _ rfl ((hop.alloc _).alloc _) ⟨w8.heap.size+1,0,none⟩ 1 1 [.int .u8 pa,.int .u8 pc,.bool true,.int .i64 q0,.int .i64 q1] rfl rfl ?c1 ?c2 ?c3 ?c4 ?c5 ?_)
        case c1=>exact cells_new (w8.alloc _) #[_,_,_,_,_] _ _ (by simp)
        case c2=>simp[Value.oneCell']
        case c3=>unfold maxLen;omega
        case c4=>omega
        case c5=>simp;omega
        intro v' w9 hown9 hgr _;obtain⟨g',cap',rfl,hg1,hg2⟩:=own_form hown9 (by omega);have P9:=PP.out.pushP hb8 hdis.out hgr hown9;have y1:w9.cell? ⟨B+1,1,none⟩=some (.slice a0 m c0):=by
         refine hgr.cell ?_ (fun e=>own_ge hop (k:=B+1) (by omega) e.symm);rw[World.cell?_alloc_past _ _ _ (by simp;omega),World.cell?_alloc_past _ _ _ (by omega)];exact x2
        have y2:w9.frozen? ⟨B+1,1,none⟩=false:=by
         have:=P9.cells.2.2.1 1;simpa using this
        have hsz9:=hgr.size;simp only[World.size_alloc]at hsz9;have R9:=pairsR_step RR.out h6 (ap:=true) (by rw[Hs1.out,Hs2.out];rfl) (by rw[Hs2.out];rfl) HN.out;have L9:lenOf ((w9.setCell ⟨B+1,1,none⟩ (.slice (some ⟨g',0,none⟩) (m+1) cap')).cell? ⟨B+1,1,none⟩)=m+1:=by rw[P9.cells.2.1];rfl
        have P9:=hide P9;have R9:=hide R9;have L9:=hide L9;clear hown9 hgr hg1 hg2 x1 x2 x3 x4 x5 hop PP hsz HN;go_wp2;go_roundw
        case rel=>exact⟨i8,m+1,bad8,true,_,_,rfl,P9.out,R9.out,by rw[zH];omega⟩
        case measure=>rw[L9.out,HL.out];omega
      .have hbad:bad=false:=by
        have h2:=hw6.out.1
        cases bad
        .rfl
        .simp at h2
       subst hbad;have hi6:i6=i+1:=by simpa using hw6.out.2
       subst hi6;have hs2:sees (tk T i) wBefore=true:=by
        have h2:=hw6.out.1;simp at h2;exact h2
       have Hs2:=hide hs2;clear hs2 hw6 y1 y2 y3 y4 y5;go_wp2_with fail;refine(rpair_any P6.ps _).mono ?_;rintro e w8 ⟨pa,pc,q0,q1,i8,bad8,rfl,p,gg,hR⟩;have P8:=P6.call p gg;have hb8:=Nat.le_trans hb6 gg.size;clear P6 p gg;obtain⟨x1,x2,x3,x4,x5⟩:=P8.cells;have hsz:=P8.h4;have hlt:B+1<w8.heap.size:=by omega
       have hop:=P8.op;have PP:=hide P8;have HN:=hide (pair_news hR);have h3:=P8.h3;clear P8 hR;unfold prRaw;go_wp2_with (at_builtin;refine wpList_append_own _ rfl _ _ 51 rfl base2 133 ip _ 5 24 Tryz.underlying51 hpi hpz0 hpz1 hpz2 rfl (by decide) _ _ _ rfl ((hop.alloc _).alloc _) ⟨w8.heap.size+1,0,none⟩ 1 1 [.int .u8 pa,.int .u8 pc,.bool false,.int .i64 q0,.int .i64 q1] rfl rfl ?c1 ?c2 ?c3 ?c4 ?c5 ?_)
       case c1=>exact cells_new (w8.alloc _) #[_,_,_,_,_] _ _ (by simp)
       case c2=>simp[Value.oneCell']
       case c3=>unfold maxLen;omega
       case c4=>omega
       case c5=>simp;omega
       intro v' w9 hown9 hgr _;obtain⟨g',cap',rfl,hg1,hg2⟩:=own_form hown9 (by omega);have P9:=PP.out.pushP hb8 hdis.out hgr hown9;have y1:w9.cell? ⟨B+1,1,none⟩=some (.slice a0 m c0):=by
        refine hgr.cell ?_ (fun e=>own_ge hop (k:=B+1) (by omega) e.symm);rw[World.cell?_alloc_past _ _ _ (by simp;omega),World.cell?_alloc_past _ _ _ (by omega)];exact x2
       have y2:w9.frozen? ⟨B+1,1,none⟩=false:=by
        have:=P9.cells.2.2.1 1;simpa using this
       have hsz9:=hgr.size;simp only[World.size_alloc]at hsz9;have R9:=pairsR_step RR.out h6 (ap:=false) (by rw[Hs2.out];rfl) (by rw[Hs2.out];rfl) HN.out;have L9:lenOf ((w9.setCell ⟨B+1,1,none⟩ (.slice (some ⟨g',0,none⟩) (m+1) cap')).cell? ⟨B+1,1,none⟩)=m+1:=by rw[P9.cells.2.1];rfl
       have P9:=hide P9;have R9:=hide R9;have L9:=hide L9;clear hown9 hgr hg1 hg2 x1 x2 x3 x4 x5 hop PP hsz HN;go_wp2;go_roundw
       case rel=>exact⟨i8,m+1,bad8,true,_,_,rfl,P9.out,R9.out,by rw[zH];omega⟩
       case measure=>rw[L9.out,HL.out];omega
     .have h6':¬(m:Int)<6:=by omega
      have R7:=pairsR_none RR.out (.inr (.inl (by omega)));have R7:=hide R7;go_wp2_with fail;refine⟨⟨i,m,bad,false,_,_,rfl,P,R7.out,hb2⟩,?_⟩;show 2*(7-lenOf (wr.cell? ⟨B+1,1,none⟩))+0<2*(7-lenOf (wr.cell? ⟨B+1,1,none⟩))+1;omega
  .have hbad:bad=false:=by
    rcases R with⟨_,h,_⟩|⟨h,_⟩
    .exact absurd h (by simp)
    .exact h
   have hn6:n<6:=by
    rcases R with⟨_,h,_⟩|⟨_,_,_,_,⟨h,_⟩|⟨_,h,_⟩⟩
    .exact absurd h (by simp)
    .exact absurd h (by simp)
    .exact h
   subst hbad;have RR:=hide R;have HL:Hid (lenOf (wr.cell? ⟨B+1,0,none⟩)=n):=by
    unfold Hid;rw[P.cells.1];exact own_len P.ot
   clear R;go_wp2_with fail;refine(rtask_any P.ps).mono ?_;rintro e w3 ⟨nm,tP,tO,tC,tD,q0,q1,q2,q3,q4,i3,bad3,rfl,p,gg,hR⟩;have P3:=P.call p gg;clear P p gg;obtain⟨x1,x2,x3,x4,x5⟩:=P3.cells;have hsz:=P3.h4;have hlt:B+1<w3.heap.size:=by omega
   have hot:=P3.ot;have PP:=hide P3;have HR:=hide hR;clear P3 hR;unfold tkRaw;go_wp2_with (at_builtin;refine wpList_append_own _ rfl _ _ 50 rfl (B+2) 95 it _ 10 80 Tryz.underlying50 hti htz0 htz1 htz2 rfl (by decide) _ _ _ rfl ((hot.alloc _).alloc _) ⟨w3.heap.size+1,0,none⟩ 1 1 [.int .u8 nm,.int .i64 tP,.int .i64 tO,.int .i64 tC,.int .i64 tD,.int .i64 q0,.int .i64 q1,.int .i64 q2,.int .i64 q3,.int .i64 q4] rfl rfl ?c1 ?c2 ?c3 ?c4 ?c5 ?_)
   case c1=>exact cells_new (w3.alloc _) #[_,_,_,_,_,_,_,_,_,_] _ _ (by simp)
   case c2=>simp[Value.oneCell']
   case c3=>unfold maxLen;omega
   case c4=>omega
   case c5=>simp;omega
   intro v' w4 hown4 hgr _;obtain⟨g',cap',rfl,hg1,hg2⟩:=own_form hown4 (by omega);have P4:=PP.out.pushT hgr hown4;have P4ps:=P4.ps;have y1:w4.cell? ⟨B+1,0,none⟩=some tv:=by
    refine hgr.cell ?_ (fun e=>own_ge hot (k:=B+1) (by omega) e.symm);rw[World.cell?_alloc_past _ _ _ (by simp;omega),World.cell?_alloc_past _ _ _ (by omega)];exact x1
   have y2:w4.frozen? ⟨B+1,0,none⟩=false:=by
    have:=P4.cells.2.2.1 0;simpa using this
   have PP4:=hide P4;clear P4 hown4 hgr hg1 hg2 x1 x2 x3 x4 x5 hot PP hsz;have HN:=hide (task_news HR.out);clear HR;by_cases h5:n+1<6
   .have h5':(n:Int)+1<6:=by omega
    go_wp2_with fail;refine(rword_ex PP4.out.ps _).mono ?_;rintro e w5 ⟨i5,ok5,rfl,p,gg,hw5⟩;have P5:=PP4.out.call p gg;have R5:=tasksR_step RR.out HN.out (ok:=ok5) (i2:=i5) (by rw[decide_eq_true h5,Bool.true_and];exact hw5.out);have L5:lenOf (w5.cell? ⟨B+1,0,none⟩)=n+1:=by rw[P5.cells.1];rfl
    have P5:=hide P5;have R5:=hide R5;have L5:=hide L5;clear p gg PP4 P4ps hw5;go_wp2;go_roundw
    case rel=>exact⟨i5,n+1,bad3,ok5,_,_,rfl,P5.out,R5.out,by omega⟩
    case measure=>rw[L5.out,HL.out];omega
   .have h5':¬(n:Int)+1<6:=by omega
    go_wp2_with fail;have R5:=tasksR_step RR.out HN.out (ok:=false) (i2:=i3) (by rw[decide_eq_false h5];simp);refine⟨⟨i3,n+1,bad3,false,_,_,rfl,PP4.out,R5,by omega⟩,?_⟩;rw[HL.out,PP4.out.cells.1];show 7-(n+1)<7-n;omega
def tsk (ts:List Tk) (k:Nat):Tk:=ts.getD k ⟨0,0,0,0,0,0,0,0,0,0⟩
def psk (ps:List Pr) (k:Nat):Pr:=ps.getD k ⟨0,0,false,0,0⟩
def RowT (w:World) (g:Nat) (ts:List Tk):Prop:=∀k,k<ts.length->
 w.cell? ⟨g,k*10,none⟩=some (.int .u8 (tsk ts k).nm.toNat)/\w.cell? ⟨g,k*10+1,none⟩=some (.int .i64 (tsk ts k).P)/\w.cell? ⟨g,k*10+2,none⟩=some (.int .i64 (tsk ts k).O)/\
 w.cell? ⟨g,k*10+3,none⟩=some (.int .i64 (tsk ts k).C)/\w.cell? ⟨g,k*10+4,none⟩=some (.int .i64 (tsk ts k).D)/\w.cell? ⟨g,k*10+5,none⟩=some (.int .i64 (tsk ts k).q0)/\
 w.cell? ⟨g,k*10+6,none⟩=some (.int .i64 (tsk ts k).q1)/\w.cell? ⟨g,k*10+7,none⟩=some (.int .i64 (tsk ts k).q2)/\w.cell? ⟨g,k*10+8,none⟩=some (.int .i64 (tsk ts k).q3)/\w.cell? ⟨g,k*10+9,none⟩=some (.int .i64 (tsk ts k).q4)
def RowP (w:World) (g:Nat) (ps:List Pr):Prop:=∀k,k<ps.length->
 w.cell? ⟨g,k*5,none⟩=some (.int .u8 (psk ps k).a.toNat)/\w.cell? ⟨g,k*5+1,none⟩=some (.int .u8 (psk ps k).b.toNat)/\w.cell? ⟨g,k*5+2,none⟩=some (.bool (psk ps k).ap)/\
 w.cell? ⟨g,k*5+3,none⟩=some (.int .i64 (psk ps k).q0)/\w.cell? ⟨g,k*5+4,none⟩=some (.int .i64 (psk ps k).q1)
theorem tkRow_get (T:List Tk):∀(j:Nat),j<T.length->∀o,o<10->(tkRow T)[j*10+o]? =(tkCells (tsk T j))[o]? := by
 induction T with
 | nil=>intro j h;simp at h
 | cons t r ih=>
  intro j hj o ho;have e:tkRow (t::r)=tkCells t++tkRow r:=rfl;have el:(tkCells t).length=10:=rfl
  cases j with
  | zero=>rw[e,List.getElem?_append_left (by omega)];simp[tsk]
  | succ j=>
   have:=ih j (by simpa using hj) o ho;rw[e,List.getElem?_append_right (by omega),el,show (j+1)*10+o-10=j*10+o by omega,this];simp[tsk]
theorem prRow_get (T:List Pr):∀(j:Nat),j<T.length->∀o,o<5->(prRow T)[j*5+o]? =(prCells (psk T j))[o]? := by
 induction T with
 | nil=>intro j h;simp at h
 | cons t r ih=>
  intro j hj o ho;have e:prRow (t::r)=prCells t++prRow r:=rfl;have el:(prCells t).length=5:=rfl
  cases j with
  | zero=>rw[e,List.getElem?_append_left (by omega)];simp[psk]
  | succ j=>
   have:=ih j (by simpa using hj) o ho;rw[e,List.getElem?_append_right (by omega),el,show (j+1)*5+o-5=j*5+o by omega,this];simp[psk]
theorem rowT_own {w:World}{base g cap:Nat}{ts:List Tk}(h:w.ownsRow base 95 10 (.slice (some ⟨g,0,none⟩) ts.length cap) ts.length (tkRow ts)):RowT w g ts:=by
 intro k hk;have e:∀o,o<10->w.cell? ⟨g,k*10+o,none⟩=(tkCells (tsk ts k))[o]? := fun o ho=>by rw[h.cellAt _ (by omega)];exact tkRow_get ts k hk o ho
 have e0:=e 0 (by omega);simp only[Nat.add_zero]at e0;rw[e0,e 1 (by omega),e 2 (by omega),e 3 (by omega),e 4 (by omega),e 5 (by omega),e 6 (by omega),e 7 (by omega),e 8 (by omega),e 9 (by omega)];exact⟨rfl,rfl,rfl,rfl,rfl,rfl,rfl,rfl,rfl,rfl⟩
theorem rowP_own {w:World}{base g cap:Nat}{ps:List Pr}(h:w.ownsRow base 133 5 (.slice (some ⟨g,0,none⟩) ps.length cap) ps.length (prRow ps)):RowP w g ps:=by
 intro k hk;have e:∀o,o<5->w.cell? ⟨g,k*5+o,none⟩=(prCells (psk ps k))[o]? := fun o ho=>by rw[h.cellAt _ (by omega)];exact prRow_get ps k hk o ho
 have e0:=e 0 (by omega);simp only[Nat.add_zero]at e0;rw[e0,e 1 (by omega),e 2 (by omega),e 3 (by omega),e 4 (by omega)];exact⟨rfl,rfl,rfl,rfl,rfl⟩
theorem RowT.below {w w':World}{g B:Nat}{ts:List Tk}(h:RowT w g ts)(hb:Below B w w')(hg:g<B):RowT w' g ts:=by
 intro k hk;have e:∀o,w'.cell? ⟨g,o,none⟩=w.cell? ⟨g,o,none⟩:=fun o=>hb.cell (p:=⟨g,o,none⟩) hg;rw[e,e,e,e,e,e,e,e,e,e];exact h k hk
theorem RowP.below {w w':World}{g B:Nat}{ps:List Pr}(h:RowP w g ps)(hb:Below B w w')(hg:g<B):RowP w' g ps:=by
 intro k hk;have e:∀o,w'.cell? ⟨g,o,none⟩=w.cell? ⟨g,o,none⟩:=fun o=>hb.cell (p:=⟨g,o,none⟩) hg;rw[e,e,e,e,e];exact h k hk
def findF (ts:List Tk) (c:UInt8):Nat->Nat->Int
 | 0,_=>-1
 | f+1,k=>if (tsk ts k).nm=c then k else findF ts c f (k+1)
def findI (ts:List Tk) (c:UInt8):Int:=findF ts c ts.length 0
theorem u8_eq (a b:UInt8):(((a.toNat:Int))==b.toNat)=decide (a=b):=by
 rw[Bool.eq_iff_iff];simp[UInt8.toNat_inj];constructor
 .intro h;exact UInt8.toNat_inj.1 (by omega)
 .intro h;rw[h]
theorem rfind_any (ts:List Tk)(g cap:Nat)(pv:Value)(pa:Option Addr)(pm pc:Nat)(hpv:pv=.slice pa pm pc)(c:UInt8)(w:World)(hg:g<w.heap.size)(hr:RowT w g ts)(hn:ts.length<=6):
  Calls Tryz.prog 89 #[.agg #[.slice (some ⟨g,0,none⟩) ts.length cap,pv],.int .u8 c.toNat] w fun e w'=>e=.returned (.int .i64 (findI ts c))/\Below w.heap.size w w':=by
 subst hpv;have hbn:Below w.heap.size w (w.alloc (.cells #[.slice (some ⟨g,0,none⟩) ts.length cap,.slice pa pm pc] 53)):=zN _ _;have hr':=hr.below hbn hg;have Hr:=hide hr';have Hb:=hide hbn;clear hr hr' hbn;go_enter Tryz.func89,Tryz.ntmps89;go_wp2
 go_loop [5] (fun i=>∃k:Nat,k<=ts.length/\i=.int .i64 k/\Hid (findI ts c=findF ts c (ts.length-k) k)) (fun i=>ts.length-(intOf i).toNat)
 case atStart=>exact⟨0,by omega,rfl,rfl⟩
 case round=>
  obtain⟨k,hk,rfl,hf⟩:=hrel;by_cases hlt:k<ts.length
  .obtain⟨r0,_⟩:=Hr.out k hlt;have hfs:findF ts c (ts.length-k) k=if (tsk ts k).nm=c then (k:Int) else findF ts c (ts.length-(k+1)) (k+1):=by
    rw[show ts.length-k=(ts.length-(k+1))+1 by omega,findF]
   have Hfs:=hide hfs;clear hfs;by_cases hc:(tsk ts k).nm=c
   .have hb:(((tsk ts k).nm.toNat:Int)==c.toNat)=true:=by rw[u8_eq];simpa using hc
    have Hc:=hide hc;clear hc;go_wp2;go_ret;refine⟨ret_int ?_,Hb.out⟩;rw[hf.out,Hfs.out,if_pos Hc.out]
   .have hb:(((tsk ts k).nm.toNat:Int)==c.toNat)=false:=by rw[u8_eq];simpa using hc
    have Hc:=hide hc;clear hc;go_wp2
    go_round
    case rel=>exact⟨k+1,by omega,by go_num,by unfold Hid;rw[hf.out,Hfs.out,if_neg Hc.out]⟩
    case measure=>simp[intOf];omega
  .go_wp2;go_ret;refine⟨ret_int ?_,Hb.out⟩;rw[hf.out,show ts.length-k=0 by omega,findF]
def Tk.small (t:Tk):Prop:=t.P<=9999/\t.O<=9999/\t.C<=9999/\t.D<=9999
def timedI (t:Tk):Int:=
 if t.P<1\/60<t.P then t.q1
 else if t.P<=t.O then t.q2
 else if t.C<1\/(t.P:Int)-t.O<t.C then t.q3
 else if t.D<t.C\/(t.P:Int)-t.O<t.D then t.q4
 else -1
theorem rtimed_any (t:Tk)(w:World)(hs:t.small):
  Calls Tryz.prog 91 #[tkV t] w fun e w'=>e=.returned (.int .i64 (timedI t))/\Below w.heap.size w w':=by
 obtain⟨nm,P,O,C,D,q0,q1,q2,q3,q4⟩:=t;obtain⟨h1,h2,h3,h4⟩:=hs;unfold tkV tkRaw timedI;simp only at h1 h2 h3 h4 ⊢;by_cases a1:P<1
 .have a1':(P:Int)<1:=by omega
  rw[if_pos (.inl a1)];clear a1;go_enter Tryz.func91,Tryz.ntmps91;go_wp2;go_ret;exact⟨rfl,zN _ _⟩
 have a1':¬(P:Int)<1:=by omega
 by_cases a2:60<P
 .have a2':(60:Int)<P:=by omega
  rw[if_pos (.inr a2)];clear a1 a2;go_enter Tryz.func91,Tryz.ntmps91;go_wp2;go_ret;exact⟨rfl,zN _ _⟩
 have a2':¬(60:Int)<P:=by omega
 rw[if_neg (by omega)];by_cases a3:P<=O
 .have a3':(P:Int)<=O:=by omega
  rw[if_pos a3];clear a1 a2 a3;go_enter Tryz.func91,Tryz.ntmps91;go_wp2;go_ret;exact⟨rfl,zN _ _⟩
 have a3':¬(P:Int)<=O:=by omega
 rw[if_neg a3];by_cases a4:C<1
 .have a4':(C:Int)<1:=by omega
  rw[if_pos (.inl a4)];clear a1 a2 a3 a4;go_enter Tryz.func91,Tryz.ntmps91;go_wp2;go_ret;exact⟨rfl,zN _ _⟩
 have a4':¬(C:Int)<1:=by omega
 by_cases a5:(P:Int)-O<C
 .rw[if_pos (.inr a5)];clear a1 a2 a3 a4;go_enter Tryz.func91,Tryz.ntmps91;go_wp2;go_ret;exact⟨rfl,zN _ _⟩
 rw[if_neg (by omega)];by_cases a6:D<C
 .have a6':(D:Int)<C:=by omega
  rw[if_pos (.inl a6)];clear a1 a2 a3 a4 a6;go_enter Tryz.func91,Tryz.ntmps91;go_wp2;go_ret;exact⟨rfl,zN _ _⟩
 have a6':¬(D:Int)<C:=by omega
 by_cases a7:(P:Int)-O<D
 .rw[if_pos (.inr a7)];clear a1 a2 a3 a4 a6;go_enter Tryz.func91,Tryz.ntmps91;go_wp2;go_ret;exact⟨rfl,zN _ _⟩
 rw[if_neg (by omega)];clear a1 a2 a3 a4 a6;go_enter Tryz.func91,Tryz.ntmps91;go_wp2;go_ret;exact⟨rfl,zN _ _⟩
def soon (f:Nat×Nat) (e at_:Nat):Nat×Nat:=if f.1=0\/at_<f.2 then (e,at_) else f
def faultV (f:Nat×Nat):Value:=.agg #[.int .i64 f.1,.int .i64 f.2]
theorem rsooner_any (f:Nat×Nat)(e at_:Nat)(w:World):
  Calls Tryz.prog 90 #[faultV f,.int .i64 e,.int .i64 at_] w fun e' w'=>e'=.returned (faultV (soon f e at_))/\Below w.heap.size w w':=by
 obtain⟨E,A⟩:=f;unfold faultV soon;simp only;have hend:∀o1 o2:Obj,Below w.heap.size w ((w.alloc o1).alloc o2):=fun o1 o2=>(zN w o1).alloc (by simp) _;have Hend:=hide hend;clear hend;by_cases a1:E=0
 .have a1':((E:Int)==0)=true:=by simp;omega
  rw[if_pos (.inl a1)];clear a1;go_enter Tryz.func90,Tryz.ntmps90;go_wp2;exact bodyPost_ret (v:=.agg #[.int .i64 e,.int .i64 at_]) (by simp[results,Tryz.results90,go_sem]) rfl ⟨rfl,Hend.out _ _⟩
 have a1':((E:Int)==0)=false:=by simp;omega
 by_cases a2:at_<A
 .have a2':(at_:Int)<A:=by omega
  rw[if_pos (.inr a2)];clear a1 a2;go_enter Tryz.func90,Tryz.ntmps90;go_wp2;exact bodyPost_ret (v:=.agg #[.int .i64 e,.int .i64 at_]) (by simp[results,Tryz.results90,go_sem]) rfl ⟨rfl,Hend.out _ _⟩
 have a2':¬(at_:Int)<A:=by omega
 rw[if_neg (by omega)];clear a1 a2;go_enter Tryz.func90,Tryz.ntmps90;go_wp2;exact bodyPost_ret (v:=.agg #[.int .i64 E,.int .i64 A]) (by simp[results,Tryz.results90,go_sem]) rfl ⟨rfl,Hend.out _ _⟩
theorem rgcd_any (a b:Nat)(w:World)(ha:a<=100000)(hb:b<=100000):
  Calls Tryz.prog 92 #[.int .i64 a,.int .i64 b] w fun e w'=>e=.returned (.int .i64 (Nat.gcd a b))/\w'=w:=by
 go_enter Tryz.func92,Tryz.ntmps92;go_wp2
 go_loop [0,1] (fun p q=>∃x y:Nat,x<=100000/\y<=100000/\p=.int .i64 x/\q=.int .i64 y/\Hid (Nat.gcd a b=Nat.gcd x y)) (fun _ q=>(intOf q).toNat)
 case atStart=>exact⟨a,b,ha,hb,rfl,rfl,rfl⟩
 case round=>
  obtain⟨x,y,hx,hy,rfl,rfl,hg⟩:=hrel;by_cases h0:y=0
  .have h0':((y:Int) != 0)=false:=by simp;omega
   have H0:=hide h0;clear h0;go_wp2;go_ret;refine⟨ret_int ?_,rfl⟩;rw[hg.out,H0.out,Nat.gcd_zero_right]
  .have h0':((y:Int) != 0)=true:=by rw[bne_iff_ne];omega
   have h0'':¬(y:Int)=0:=by omega
   have hlt:x%y<y:=Nat.mod_lt _ (by omega);have Hlt:=hide hlt;have Hg:Hid (Nat.gcd x y=Nat.gcd y (x%y)):=by unfold Hid;rw[Nat.gcd_comm x y,Nat.gcd_rec y x,Nat.gcd_comm]
   clear h0 hlt;go_wp2;refine⟨⟨y,x%y,hy,by have:=Hlt.out;omega,rfl,by go_num,by unfold Hid;rw[hg.out,Hg.out]⟩,?_⟩;have:=Hlt.out;simp only[intOf];omega
def cycF (ts:List Tk):Nat->Nat->Nat->Nat
 | 0,_,h=>h
 | f+1,k,h=>if 60<h/Nat.gcd h (tsk ts k).P*(tsk ts k).P then 0 else cycF ts f (k+1) (h/Nat.gcd h (tsk ts k).P*(tsk ts k).P)
def cycI (ts:List Tk):Nat:=cycF ts ts.length 0 1
theorem lcm_pos (h P:Nat)(h1:1<=h)(h2:1<=P):1<=h/Nat.gcd h P*P:=by
 have hg:Nat.gcd h P ∣ h:=Nat.gcd_dvd_left h P;have:1<=h/Nat.gcd h P:=Nat.div_pos (Nat.le_of_dvd (by omega) hg) (Nat.gcd_pos_of_pos_left P (by omega))
 calc 1<=h/Nat.gcd h P:=this
  _<=h/Nat.gcd h P*P:=Nat.le_mul_of_pos_right _ (by omega)
theorem w64 (n:Int)(h:-9223372036854775808<=n/\n<=9223372036854775807):wrap64 n=n:=by unfold wrap64;omega
theorem lcm_wrap (h d P:Nat)(h1:h/d<=60)(h2:P<=60):wrap64 (wrap64 ((h:Int)/(d:Nat))*P)=((h/d*P:Nat):Int):=by
 have e1:(h:Int)/(d:Nat)=((h/d:Nat):Int):=by simp
 rw[e1];generalize h/d=q at *;have hm:q*P<=60*60:=Nat.mul_le_mul h1 h2;have e2:wrap64 (q:Int)=q:=w64 _ (by omega);rw[e2];have e3:((q:Int)*P)=((q*P:Nat):Int):=by simp
 rw[e3];exact w64 _ (by omega)
theorem rCycle_any (ts:List Tk)(g cap:Nat)(pv:Value)(pa:Option Addr)(pm pc:Nat)(hpv:pv=.slice pa pm pc)(w:World)(hg:g<w.heap.size)(hr:RowT w g ts)(hn:ts.length<=6)(hP:∀k,k<ts.length->1<=(tsk ts k).P/\(tsk ts k).P<=60):
  Calls Tryz.prog 54 #[.agg #[.slice (some ⟨g,0,none⟩) ts.length cap,pv]] w fun e w'=>e=.returned (.int .i64 (cycI ts))/\Below w.heap.size w w':=by
 subst hpv;have hbn:Below w.heap.size w (w.alloc (.cells #[.slice (some ⟨g,0,none⟩) ts.length cap,.slice pa pm pc] 53)):=zN _ _;have Hr:=hide hr;have Hb:=hide hbn;have HP:=hide hP;clear hr hbn hP;go_enter Tryz.func54,Tryz.ntmps54;go_wp2
 go_loopw [3,4] (fun x i wr=>∃(k h:Nat),k<=ts.length/\i=.int .i64 k/\x=.int .i64 h/\1<=h/\h<=60/\Below w.heap.size w wr/\wr.cell? ⟨w.heap.size,0,none⟩=some (.slice (some ⟨g,0,none⟩) ts.length cap)/\Hid (cycI ts=cycF ts (ts.length-k) k h)) (fun _ i _=>ts.length-(intOf i).toNat)
 case atStart=>exact⟨0,1,by omega,rfl,rfl,by omega,by omega,Hb.out,by simp[go_sem],rfl⟩
 case round=>
  clear Hb;obtain⟨k,h,hk,rfl,rfl,hh1,hh2,hbw,c0,hf⟩:=hrel;have Hb:=hide hbw;clear hbw;by_cases hlt:k<ts.length
  .have r1:=(Hr.out.below Hb.out hg k hlt).2.1;obtain⟨hP1,hP2⟩:=HP.out k hlt;have hfs:cycF ts (ts.length-k) k h=if 60<h/Nat.gcd h (tsk ts k).P*(tsk ts k).P then 0 else cycF ts (ts.length-(k+1)) (k+1) (h/Nat.gcd h (tsk ts k).P*(tsk ts k).P):=by
    rw[show ts.length-k=(ts.length-(k+1))+1 by omega,cycF]
   have hpos:=lcm_pos h (tsk ts k).P hh1 hP1;have hle:h/Nat.gcd h (tsk ts k).P<=60:=Nat.le_trans (Nat.div_le_self _ _) hh2;have hgp:0<Nat.gcd h (tsk ts k).P:=Nat.gcd_pos_of_pos_left _ (by omega);have hml:h/Nat.gcd h (tsk ts k).P*(tsk ts k).P<=60*60:=Nat.mul_le_mul hle hP2;have Hfs:=hide hfs;clear hfs;generalize (tsk ts k).P=P at *;have hd0:¬((Nat.gcd h P:Nat):Int)=0:=by omega
   obtain⟨L,hL⟩:∃L,L=h/Nat.gcd h P*P:=⟨_,rfl⟩;have hw:wrap64 (wrap64 ((h:Int)/(Nat.gcd h P:Nat))*P)=(L:Int):=by rw[hL];exact lcm_wrap h (Nat.gcd h P) P hle hP2
   rw[←hL]at Hfs hpos hml;have HL:=hide hL;clear hL;go_wp2_with fail
   go_quiet ((go_at_call 92;go_must (exact Calls.quiet_of_same (rgcd_any h P _ (by omega) (by omega)))))
   by_cases h60:60<L
   .have h60':(60:Int)<L:=by omega
    go_wp2;go_ret;refine⟨ret_int ?_,below_drewN Hb.out _⟩;rw[hf.out,Hfs.out,if_pos h60];rfl
   .have h60':¬(60:Int)<L:=by omega
    go_wp2;go_roundw
    case rel=>exact⟨k+1,L,by omega,by go_num,by rw[hw],by omega,by omega,below_drewN Hb.out _,c0,by unfold Hid;rw[hf.out,Hfs.out,if_neg h60]⟩
    case measure=>simp[intOf];omega
  .go_wp2;go_ret;refine⟨ret_int ?_,Hb.out⟩;rw[hf.out,show ts.length-k=0 by omega,cycF]
end
end Go.Proofs.YtbdffcjganlblaaGreatDoor
