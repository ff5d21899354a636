import Derived.Test.YtbdffcjganlblaaGreatDoorAProgItoRnA
import Derived.Deep.DeepCutAuto
import Derived.Test.YtbdffcjganlblaaGreatDoorATbEtoTbF
import Derived.Test.YtbdffcjganlblaaGreatDoorARefXtoRunA
import Derived.Deep.RegionHeldLaw
set_option linter.unusedVariables false
set_option linter.unusedSimpArgs false
set_option maxRecDepth 100000
set_option maxHeartbeats 16000000
namespace Go.Proofs.YtbdffcjganlblaaGreatDoor
section
open Go.RowKit
theorem own_cap {w:World}{base:Nat}{e:TypeId}{size:Nat}{a:Option Addr}{n c:Nat}{xs:List Value}(h:w.ownsRow base e size (.slice a n c) n xs):n<=c:=by
 rcases h.2 with⟨h1,h0⟩|⟨g,cap,cur,h1,_,_,_,h2,_⟩
 .omega
 .injection h1 with _ _ e3;omega
theorem hpp_of {w:World}{base:Nat}{ps:List Pr}{pa:Option Addr}{pc:Nat}(h:w.ownsRow base 175 5 (.slice pa ps.length pc) ps.length (ppRow ps)):
  0<ps.length->∃gp,pa=some ⟨gp,0,none⟩/\gp<w.heap.size/\RowPP w gp ps:=by
 intro hn;obtain⟨g,cap,e,h1,h2⟩:=own_form h hn;injection e with e1 e2 e3;subst e1;exact⟨g,rfl,h2,rowPP_own h⟩
theorem RowPT.keep {w w':World}{g:Nat}{ts:List (Tk×Nat)}(h:RowPT w g ts)(hb:w'.heap[g]? =w.heap[g]?):RowPT w' g ts:=by
 intro k hk;have e:∀o,w'.cell? ⟨g,o,none⟩=w.cell? ⟨g,o,none⟩:=fun o=>by simp only[World.cell?,hb]
 rw[e,e,e,e,e,e,e,e,e,e];exact h k hk
theorem RowPP.keep {w w':World}{g:Nat}{ts:List Pr}(h:RowPP w g ts)(hb:w'.heap[g]? =w.heap[g]?):RowPP w' g ts:=by
 intro k hk;have e:∀o,w'.cell? ⟨g,o,none⟩=w.cell? ⟨g,o,none⟩:=fun o=>by simp only[World.cell?,hb]
 rw[e,e,e,e,e];exact h k hk
def ReadOut (s:ByteArray) (w:World) (en:Ending) (w':World):Prop:=
  Below w.heap.size w w'/\
  ((400<s.size/\en=pan 1 0)\/
   (s.size<=400/\∃j,pSet (zT s.data.toList)=.error j/\en=pan 2 (tk (zT s.data.toList) j).at_)\/
   (s.size<=400/\∃l ps,pSet (zT s.data.toList)=.ok (l.map Prod.fst,ps)/\ZOk l/\
     ((∃f,checkR l ps=some f/\en=pan f.1 f.2)\/
      (checkR l ps=none/\∃g cap pa pc,en=.returned (.agg #[.slice (some ⟨g,0,none⟩) l.length cap,.slice pa ps.length pc])/\l.length<=cap/\g<w'.heap.size/\RowPT w' g l/\(0<ps.length->∃gp,pa=some ⟨gp,0,none⟩/\gp<w'.heap.size/\RowPP w' gp ps)))))
theorem readSet_any (s:ByteArray)(w:World)(hm:s.size<=9223372036854775807):
  Calls Tryz.prog 50 #[.string s] w (ReadOut s w):=by
 have hB0:=hide (zN w (.cells #[.slice none 0 0,.slice none 0 0] 84));have hX0:=hide (zW w #[.slice none 0 0,.slice none 0 0] 84);go_enter Tryz.func50,Tryz.ntmps50;by_cases hl:400<s.size
 .have hl':(400:Int)<s.size:=by omega
  go_wp2_with fail;refine(refuse_any 1 0 _ rfl _).mono ?_;rintro e w' ⟨rfl,rfl⟩;exact⟨rfl,hB0.out,.inl ⟨hl,rfl⟩⟩
 .have hl':¬(400:Int)<s.size:=by omega
  have hs4:s.size<=400:=by omega
  go_wp2_with fail;refine(parseSet_any s _ hs4).mono ?_;rintro e w1 ⟨hb1,hcase⟩;have hB1:=hB0.out.trans (hb1.mono (by simp));have hX1:=zK hX0.out hb1;rcases hcase with⟨j,hj,rfl⟩|⟨l,ps,tv,pv,hj,hz,rfl,ht,hp⟩
  .exact⟨rfl,hB1,.inr (.inl ⟨hs4,j,hj,rfl⟩)⟩
  obtain⟨b1,b2,b3,b4⟩:=pSet_bounds hj;have hn1:1<=l.length:=by simpa using b2
  have hn6:l.length<=6:=by simpa using b3
  obtain⟨g,cap,rfl,hg1,hg2⟩:=own_form ht (by omega);obtain⟨pa,pc,rfl⟩:=own_slice hp;have hcap:=own_cap ht;have hsm:Hid (∀k,k<l.length->(lk l k).1.small):=by
   intro k hk;rw[lk_fst];exact b1 _ (tsk_mem (by simpa using hk))
  have HR:=hide (rowPT_own ht);have HP:=hide (hpp_of hp);have hpne:Hid (pa≠some ⟨w.heap.size,0,none⟩):=by
   intro e;subst e;exact own_ge hp (k:=w.heap.size) (by simp) rfl
  have hgne:w.heap.size≠g:=by simp at hg1;omega
  have HB:=hide hB1;have HX:=hide hX1;have hsz:=hB1.size;have hxl:=zL hX1;have Hj:=hide hj;have Hz:=hide hz;clear hb1 hB1 hX1 ht hp hj hz b1 b2 b3;have x0:=zC HX.out;have xf:=zF HX.out;have hY:=hide (zW w1 #[.slice (some ⟨g,0,none⟩) l.length cap,.slice pa ps.length pc] 84);go_wp2_with fail;refine(check_any l ps g cap pa pc _ (by simp;omega) (HR.out.below (zN w1 _) hg2) hcap hn6 hsm.out Hz.out b4 (by
   intro hn;obtain⟨gp,e1,e2,e3⟩:=HP.out hn;exact⟨gp,e1,by simp;omega,e3.below (zN w1 _) e2⟩) _ rfl).mono ?_
  rintro e w2 ⟨hb2,hcase⟩;have hB2:=(HB.out.alloc hsz _).trans (hb2.mono (by simp;omega));rcases hcase with⟨f,hf,rfl⟩|⟨hf,rfl⟩
  .exact⟨rfl,hB2,.inr (.inr ⟨hs4,l,ps,Hj.out,Hz.out,.inl ⟨f,hf,rfl⟩⟩)⟩
  have hX2:w2.heap[w.heap.size]? =some (.cells #[.slice none 0 0,.slice none 0 0] 84 (0,0)):=by
   refine zK ?_ hb2;rw[Below.heap_alloc _ _ _ hxl];exact HX.out
  have hY2:=zK hY.out hb2;have x2:=zC hX2;have f2:=zF hX2;have y2:=zC hY2;have yl:=zL hY2;have hbn:=zN w1 (.cells #[.slice (some ⟨g,0,none⟩) l.length cap,.slice pa ps.length pc] 84);have hR2:=hide ((HR.out.below hbn hg2).below hb2 (by simp;omega));have hP2:Hid (0<ps.length->∃gp,pa=some ⟨gp,0,none⟩/\gp<w2.heap.size/\gp<w1.heap.size/\RowPP w2 gp ps):=by
   intro hn;obtain⟨gp,e1,e2,e3⟩:=HP.out hn;exact⟨gp,e1,by omega,e2,(e3.below hbn e2).below hb2 (by simp;omega)⟩
  have Hf:=hide hf;have HB2:=hide hB2;have HX2:=hide hX2;have hg3:g<w2.heap.size:=by omega
  clear hb2 hB2 hf hX2 hY2 hbn x0 xf HR HP;go_wp2;have hk:∀(k:Nat),w.heap.size≠k->∀u v,((w2.setCell ⟨w.heap.size,0,none⟩ u).setCell ⟨w.heap.size,1,none⟩ v).heap[k]? =w2.heap[k]? := by
   intro k hne u v;rw[Below.heap_setCell _ _ _ _ (fun e=>hne e.symm),Below.heap_setCell _ _ _ _ (fun e=>hne e.symm)]
  refine bodyPost_ret (v:=.agg #[.slice (some ⟨g,0,none⟩) l.length cap,.slice pa ps.length pc]) (by simp[results,Tryz.results50,go_sem,x2]) rfl ⟨?_,.inr (.inr ⟨hs4,l,ps,Hj.out,Hz.out,.inr ⟨Hf.out,g,cap,pa,pc,rfl,hcap,?_,hR2.out.keep (hk g hgne _ _),?_⟩⟩)⟩
  .exact(HB2.out.setCell (Nat.le_refl _) _).setCell (Nat.le_refl _) _
  .rw[zH,zH];exact hg3
  .intro hn;obtain⟨gp,e1,e2,_,e4⟩:=hP2.out hn;subst e1;refine⟨gp,rfl,by rw[zH,zH];exact e2,e4.keep (hk gp ?_ _ _)⟩;intro e;exact hpne.out (by rw[e])
theorem digits_any (n q:Nat)(w:World)(hn:n<100):
  Calls Tryz.prog 158 #[.agg #[.int .i64 n,.int .i64 q]] w fun e w'=>e=.returned (.string (dB n))/\w'=w.alloc (.cells #[.int .i64 n,.int .i64 q] 145):=by
 go_enter Tryz.func158,Tryz.ntmps158;go_wp2_with fail;refine(itoa_any n _ hn).mono ?_;rintro e w' ⟨rfl,rfl⟩;go_wp2;go_ret;exact⟨rfl,rfl⟩
theorem addr_add (g j:Nat):(⟨g,0+j,none⟩:Addr)=(⟨g,0,none⟩:Addr).add j:=by simp[Addr.add]
def TokOut (xs:List ByteArray) (w:World) (e:Ending) (w':World):Prop:=
 Below w.heap.size w w'/\∃g c,e=.returned (.slice (some ⟨g,0,none⟩) xs.length c)/\g<w'.heap.size/\xs.length<=c/\∀j x,xs[j]? =some x->w'.cell? ⟨g,0+j,none⟩=some (.string x)
theorem line_any (g c:Nat)(xs:List ByteArray)(w:World)(hx:∀j x,xs[j]? =some x->w.cell? ⟨g,0+j,none⟩=some (.string x))(hg:g<w.heap.size)(hN:xs.length<=10)(hc:xs.length<=c)(J:List UInt8)(hJ:Lib.join (xs.map (·.data.toList)) [32]=J)(hl:J.length<=100):
  Calls Tryz.prog 131 #[.slice (some ⟨g,0,none⟩) xs.length c] w fun e w'=>e=.returned (.string (bs (J++[59,10])))/\Below w.heap.size w w':=by
 have hJ':Lib.join (xs.map (·.data.toList)) (ByteArray.mk #[32]).data.toList=J:=hJ;have Hj:=hide (join_any g 0 c xs ⟨#[32]⟩ w hx hg (by omega) hc (by rw[hJ'];omega));rw[hJ']at Hj;clear hJ' hJ hx;obtain⟨X1,a1,z1,e1⟩:=add_named ⟨J.toArray⟩ ⟨#[59,10]⟩ (by simp[ByteArray.size];omega);have hX:Hid (X1=bs (J++[59,10])):=by
  unfold Hid;rw[←bs_list X1,e1]
 clear z1 e1;go_enter Tryz.func131,Tryz.ntmps131;go_wp2_with fail;refine Hj.out.mono ?_;rintro e w' ⟨rfl,hb⟩;have Hb:=hide hb;clear hb Hj;go_wp2;go_ret;exact⟨by rw[hX.out];rfl,Hb.out⟩
theorem pairTokens_any (p:Pr)(w:World):
  Calls Tryz.prog 133 #[.agg #[.string (bs (pW p)),.string (bs [p.a]),.int .i64 p.q0,.string (bs [p.b]),.int .i64 p.q1]] w (TokOut [bs (pW p),bs [p.a],bs [p.b]] w):=by
 go_enter Tryz.func133,Tryz.ntmps133;go_wp2;go_ret;refine⟨((zN w _).alloc (by simp) _),w.heap.size+1,3,?_,by simp,by simp,?_⟩
 .simp
 .intro j x hj;rw[addr_add];refine cells_new (w.alloc _) #[.string (bs (pW p)),.string (bs [p.a]),.string (bs [p.b])] 9 (w.heap.size+1) (by simp) j _ ?_
  match j,hj with
  | 0,hj=>simp at hj;subst hj;rfl
  | 1,hj=>simp at hj;subst hj;rfl
  | 2,hj=>simp at hj;subst hj;rfl
  | j+3,hj=>simp at hj
theorem Tryz.infoStr:(Tryz.prog.info? 9).map (fun i=>(i.zero,i.size,i.bytes))=some (some (.string ⟨#[]⟩),1,16):=by kernel_rfl
def taskToks (t:Tk):List ByteArray:=
 [⟨#[116,97,115,107]⟩,bs [t.nm],⟨#[101,118,101,114,121]⟩,dB t.P]++(if t.O=0 then [] else [⟨#[102,114,111,109]⟩,dB t.O])++[⟨#[116,97,107,101,115]⟩,dB t.C,⟨#[119,105,116,104,105,110]⟩,dB t.D]
def TT (w wc:World) (x:Tk×Nat) (xs:List ByteArray) (v:Value):Prop:=
 wc.ownsRow (w.heap.size+1) 9 1 v xs.length (xs.map Value.string)/\wc.heap[w.heap.size]? =some (.cells (ptA x) 172 (0,0))/\w.grownBy wc none
theorem TT.alloc {w wc:World}{x:Tk×Nat}{xs:List ByteArray}{v:Value}(h:TT w wc x xs v)(o:Obj):TT w (wc.alloc o) x xs v:=
 ⟨h.1.alloc o,by rw[Below.heap_alloc _ _ _ (zL h.2.1)];exact h.2.1,grownBy_alloc' h.2.2 o⟩
theorem TT.drew {w wc:World}{x:Tk×Nat}{xs:List ByteArray}{v:Value}(h:TT w wc x xs v):TT w wc.drew x xs v:=
 ⟨h.1.kept (row:=none) ⟨rfl,rfl,rfl,Nat.le_refl _,fun _ _ _=>rfl⟩ (by cases hv:v.ownBlock<;>simp),h.2.1,grownBy_drew h.2.2⟩
theorem TT.more {w wc w':World}{x:Tk×Nat}{xs ys:List ByteArray}{v v':Value}{m:Nat}{ns:List Value}(h:TT w wc x xs v)(hm:m=ys.length)(hn:ns=ys.map Value.string)(hown:w'.ownsRow (w.heap.size+1) 9 1 v' (xs.length+m) (xs.map Value.string++ns))(hg:wc.grownBy w' v.ownBlock):TT w w' x (xs++ys) v':=by
 subst hm hn;refine⟨by rw[List.length_append,List.map_append];exact hown,?_,?_⟩
 .rw[hg.block _ (zL h.2.1) (own_ge h.1 (Nat.lt_succ_self _)).symm];exact h.2.1
 .refine⟨hg.os.trans h.2.2.os,hg.tape.trans h.2.2.tape,hg.output.trans h.2.2.output,Nat.le_trans h.2.2.size hg.size,fun k hk _=>?_⟩;rw[hg.block k (Nat.lt_of_lt_of_le hk h.2.2.size) (own_ge h.1 (Nat.lt_succ_of_lt hk)).symm];exact h.2.2.block k hk (by simp)
theorem TT.out {w wc:World}{x:Tk×Nat}{xs:List ByteArray}{v:Value}(h:TT w wc x xs v)(hn:0<xs.length):TokOut xs w (.returned v) wc:=by
 obtain⟨g,cap,rfl,h1,h2⟩:=own_form h.1 hn;refine⟨below_grown h.2.2,g,cap,rfl,h2,own_cap h.1,?_⟩;intro j y hj;rw[addr_add];exact h.1.cells rfl j _ (by simp[hj])
theorem digits_v (n q:Nat)(v:Value)(w:World)(hv:v=.agg #[.int .i64 n,.int .i64 q])(hn:n<100):
  Calls Tryz.prog 158 #[v] w fun e w'=>e=.returned (.string (dB n))/\Below w.heap.size w w':=by
 subst hv;refine(digits_any n q w hn).mono ?_;rintro e w' ⟨rfl,rfl⟩;exact⟨rfl,zN _ _⟩
theorem TT.start {w w9:World}{x:Tk×Nat}(a b c d:ByteArray)(hX:w9.heap[w.heap.size]? =some (.cells (ptA x) 172 (0,0)))(hg:w.grownBy w9 none):
  TT w (w9.alloc (.cells #[.string a,.string b,.string c,.string d] 9)) x [a,b,c,d] (.slice (some ⟨w9.heap.size,0,none⟩) 4 4):=
 ⟨World.ownsRow_lit (base:=w.heap.size+1) (size:=1) w9 #[.string a,.string b,.string c,.string d] 4 (zL hX) (by decide) rfl,by rw[Below.heap_alloc _ _ _ (zL hX)];exact hX,grownBy_alloc' hg _⟩
theorem TT.call {w wc w':World}{x:Tk×Nat}{xs:List ByteArray}{v:Value}(h:TT w wc x xs v)(hb:Below wc.heap.size wc w'):TT w w' x xs v:=
 ⟨owns_below h.1 hb,zK h.2.1 hb,zR h.2.2 (grown_below hb)⟩
theorem taskTokens_any (x:Tk×Nat)(w:World)(h1:x.1.P<100)(h2:x.1.O<100)(h3:x.1.C<100)(h4:x.1.D<100):
  Calls Tryz.prog 132 #[.agg (ptA x)] w (TokOut (taskToks x.1) w):=by
 obtain⟨i0,hi,hz0,hz1,hz2⟩:=info_parts Tryz.infoStr;have hxs:∃xs,taskToks x.1=xs:=⟨_,rfl⟩;obtain⟨xs,hxs⟩:=hxs;rw[hxs];have Hxs:=hide hxs;clear hxs;have hT0:=zW w (ptA x) 172;have hG0:=hide (grown_below (zN w (.cells (ptA x) 172)));go_enter Tryz.func132,Tryz.ntmps132;go_wp2_with fail;generalize w.alloc (.cells (ptA x) 172)=w0 at *;obtain⟨c0,c1,c2,c3,c4,c5,c6,c7,c8,c9⟩:=ptA_cells hT0;have HT0:=hide hT0;clear hT0
 go_cut [3] (fun v wc=>TT w wc x [⟨#[116,97,115,107]⟩,bs [x.1.nm],⟨#[101,118,101,114,121]⟩,dB x.1.P] v)
 case first=>
  go_region_with ((go_at_call 158;refine(digits_v x.1.P x.1.q1 _ _ rfl h1).mono ?_;rintro e w9 ⟨rfl,hb9⟩;have HG9:=hide (zR (grownBy_drew hG0.out) (grown_below hb9));have HT9:=hide (zK (w:=w0.drew) HT0.out hb9);obtain⟨y0,_⟩:=ptA_cells HT9.out;clear hb9))
  all_goals
   go_wp2
   go_meet
   case rel=>exact TT.start _ _ _ _ HT9.out HG9.out
 case rest=>
  have H:=hide hcut;obtain⟨g,cap,rfl,hg1,hg2⟩:=own_form hcut.1 (by simp);clear hcut c0 c1 c2 c3 c4 c5 c6 c7 c8 c9 HT0 hG0;obtain⟨c0,c1,c2,c3,c4,c5,c6,c7,c8,c9⟩:=ptA_cells H.out.2.1;by_cases hO:x.1.O=0
  .have hO':((x.1.O:Int) != 0)=false:=by simp[hO]
   have HL:Hid (xs=[⟨#[116,97,115,107]⟩,bs [x.1.nm],⟨#[101,118,101,114,121]⟩,dB x.1.P]++[⟨#[116,97,107,101,115]⟩,dB x.1.C,⟨#[119,105,116,104,105,110]⟩,dB x.1.D]):=by
    unfold Hid;rw[←Hxs.out];unfold taskToks;rw[if_pos hO];rfl
   clear hO Hxs;go_wp2_with fail
   go_region_law (first|(refine step_append_own rfl (.tmp 21) (.tmp 28) 159 rfl (w.heap.size+1) 9 i0 _ 1 16 Tryz.underlying159 hi hz0 hz1 hz2 rfl (by decide) _ _ _ rfl (H9.out.1.alloc _) ⟨w9.heap.size,0,none⟩ 4 4 [.string ⟨#[116,97,107,101,115]⟩,.string (dB x.1.C),.string ⟨#[119,105,116,104,105,110]⟩,.string (dB x.1.D)] rfl rfl (cells_new w9 #[_,_,_,_] _ _ rfl) (by simp[Value.oneCell']) (by simp[maxLen]) (by simp) (by simp;omega) ?_;intro v' w10 hown10 hgr;have H10:=hide ((H9.out.alloc _).more (ys:=[⟨#[116,97,107,101,115]⟩,dB x.1.C,⟨#[119,105,116,104,105,110]⟩,dB x.1.D]) rfl rfl hown10 hgr);clear hown10 hgr)|(go_simp;go_at_call 158;first|(refine(digits_v x.1.C x.1.q3 _ _ rfl h3).mono ?_;rintro e w8 ⟨rfl,hb8⟩;have H8:=hide (H.out.drew.call hb8);obtain⟨y0,y1,y2,y3,y4,y5,y6,y7,y8,y9⟩:=ptA_cells H8.out.2.1;clear hb8)|(refine(digits_v x.1.D x.1.q4 _ _ rfl h4).mono ?_;rintro e w9 ⟨rfl,hb9⟩;have H9:=hide (H8.out.call hb9);have hl9:=zL H9.out.2.1;clear hb9)))
   all_goals
    go_wp2;go_ret;rw[HL.out];exact H10.out.out (by simp)
  .have hO':((x.1.O:Int) != 0)=true:=by simp;omega
   have HL:Hid (xs=([⟨#[116,97,115,107]⟩,bs [x.1.nm],⟨#[101,118,101,114,121]⟩,dB x.1.P]++[⟨#[102,114,111,109]⟩,dB x.1.O])++[⟨#[116,97,107,101,115]⟩,dB x.1.C,⟨#[119,105,116,104,105,110]⟩,dB x.1.D]):=by
    unfold Hid;rw[←Hxs.out];unfold taskToks;rw[if_neg hO]
   clear hO Hxs;go_wp2_with fail;refine(digits_v x.1.O x.2 _ _ rfl h2).mono ?_;rintro e w7 ⟨rfl,hb7⟩;have H7:=hide (H.out.call hb7);have hl7:=zL H7.out.2.1;clear hb7 H c0 c1 c2 c3 c4 c5 c6 c7 c8 c9;go_wp2_with (at_builtin;refine wpList_append_own _ rfl _ _ 159 rfl (w.heap.size+1) 9 i0 _ 1 16 Tryz.underlying159 hi hz0 hz1 hz2 rfl (by decide) _ _ _ rfl (H7.out.1.alloc _) ⟨w7.heap.size,0,none⟩ 2 2 [.string ⟨#[102,114,111,109]⟩,.string (dB x.1.O)] rfl rfl ?c1 ?c2 ?c3 ?c4 ?c5 ?_)
   case c1=>exact cells_new w7 #[_,_] _ _ rfl
   case c2=>simp[Value.oneCell']
   case c3=>simp[maxLen]
   case c4=>simp
   case c5=>simp;omega
   intro v' w6 hown6 hgr _;have H:=hide ((H7.out.alloc _).more (ys:=[⟨#[102,114,111,109]⟩,dB x.1.O]) rfl rfl hown6 hgr);obtain⟨g',cap',rfl,hg1',hg2'⟩:=own_form H.out.1 (by simp);clear hown6 hgr H7 hl7;obtain⟨c0,c1,c2,c3,c4,c5,c6,c7,c8,c9⟩:=ptA_cells H.out.2.1;go_wp2_with fail
   go_region_law (first|(refine step_append_own rfl (.tmp 21) (.tmp 28) 159 rfl (w.heap.size+1) 9 i0 _ 1 16 Tryz.underlying159 hi hz0 hz1 hz2 rfl (by decide) _ _ _ rfl (H9.out.1.alloc _) ⟨w9.heap.size,0,none⟩ 4 4 [.string ⟨#[116,97,107,101,115]⟩,.string (dB x.1.C),.string ⟨#[119,105,116,104,105,110]⟩,.string (dB x.1.D)] rfl rfl (cells_new w9 #[_,_,_,_] _ _ rfl) (by simp[Value.oneCell']) (by simp[maxLen]) (by simp) (by simp;omega) ?_;intro v' w10 hown10 hgr;have H10:=hide ((H9.out.alloc _).more (ys:=[⟨#[116,97,107,101,115]⟩,dB x.1.C,⟨#[119,105,116,104,105,110]⟩,dB x.1.D]) rfl rfl hown10 hgr);clear hown10 hgr)|(go_simp;go_at_call 158;first|(refine(digits_v x.1.C x.1.q3 _ _ rfl h3).mono ?_;rintro e w8 ⟨rfl,hb8⟩;have H8:=hide (H.out.drew.call hb8);obtain⟨y0,y1,y2,y3,y4,y5,y6,y7,y8,y9⟩:=ptA_cells H8.out.2.1;clear hb8)|(refine(digits_v x.1.D x.1.q4 _ _ rfl h4).mono ?_;rintro e w9 ⟨rfl,hb9⟩;have H9:=hide (H8.out.call hb9);have hl9:=zL H9.out.2.1;clear hb9)))
   all_goals
    go_wp2;go_ret;rw[HL.out];exact H10.out.out (by simp)
theorem tLine_join (t:Tk):∃J,Lib.join ((taskToks t).map (·.data.toList)) [32]=J/\J++[59,10]=tLine t/\J.length<=100:=by
 have e:Lib.join ((taskToks t).map (·.data.toList)) [32]++[59,10]=tLine t:=by
  unfold taskToks tLine;by_cases hO:t.O=0
  .rw[if_pos hO,if_neg (by omega)];simp[Lib.join,dL,bs]
  .rw[if_neg hO,if_pos (by omega)];simp[Lib.join,dL,bs]
 refine⟨_,rfl,e,?_⟩;have h:=congrArg List.length e;have h2:=tLine_len t;rw[List.length_append]at h;omega
theorem pLine_join (p:Pr):∃J,Lib.join (([bs (pW p),bs [p.a],bs [p.b]]).map (·.data.toList)) [32]=J/\J++[59,10]=pLine p/\J.length<=10:=by
 refine⟨_,rfl,?_,?_⟩
 .unfold pW pLine
  cases p.ap<;>simp[Lib.join,bs]
 .unfold pW
  cases p.ap<;>simp[Lib.join,bs]
theorem isB_below {w w':World}{T e:TypeId}{B b:Nat}{l:List Value}(h:Lib.IsBuilder T e B b l w)(hb:Below w.heap.size w w'):Lib.IsBuilder T e B b l w':=by
 rcases h with⟨h1,v,h2,h3,h4⟩|⟨h1,v,h2,h3,h4⟩
 .exact .inl ⟨h1,v,zK h2 hb,owns_below h3 hb,h4⟩
 .exact .inr ⟨h1,v,zK h2 hb,owns_below h3 hb,h4⟩
theorem isB_lt {w:World}{T e:TypeId}{B b:Nat}{l:List Value}(h:Lib.IsBuilder T e B b l w):b<w.heap.size:=by
 rcases h with h|h
 .exact h.lt
 .exact h.lt
theorem byteCells_app (a b:List UInt8):Lib.byteCells a++Lib.strCells (bs b)=Lib.byteCells (a++b):=by
 simp[Lib.byteCells,Lib.strCells,bs]
theorem byteCells_len (a:List UInt8):(Lib.byteCells a).length=a.length:=by simp[Lib.byteCells]
theorem taskTokens_v (x:Tk×Nat)(v:Value)(w:World)(hv:v=.agg (ptA x))(h1:x.1.P<100)(h2:x.1.O<100)(h3:x.1.C<100)(h4:x.1.D<100):
  Calls Tryz.prog 132 #[v] w (TokOut (taskToks x.1) w):=by
 subst hv;exact taskTokens_any x w h1 h2 h3 h4
theorem taskToks_len (t:Tk):(taskToks t).length<=10:=by
 unfold taskToks;split<;>simp
theorem flat_lk (F:Tk×Nat->List UInt8)(l:List (Tk×Nat))(k:Nat)(h:k<l.length):(l.take (k+1)).flatMap F=(l.take k).flatMap F++F (lk l k):=
 flat_take F _ l k h
def tLine1 (x:Tk×Nat):List UInt8:=tLine x.1
structure TB (w wr:World) (L:List UInt8) (a b:Value):Prop where
 isb:Lib.IsBuilder 109 5 (w.heap.size+1) (w.heap.size+1) (Lib.byteCells L) wr
 hx:wr.heap[w.heap.size]? =some (.cells #[a,b] 84 (0,0))
 bel:Below w.heap.size w wr
theorem TB.call {w wr w':World}{L:List UInt8}{a b:Value}(h:TB w wr L a b)(hb:Below wr.heap.size wr w'):TB w w' L a b:=
 ⟨isB_below h.isb hb,zK h.hx hb,h.bel.trans (hb.mono h.bel.size)⟩
theorem TB.wrote {w wr w':World}{L M:List UInt8}{a b p:Value}(h:TB w wr L a b)(hp:p=.pointer (some ⟨w.heap.size+1,0,none⟩))(hat:Lib.BuilderAt 109 5 (w.heap.size+1) (w.heap.size+1) p (Lib.byteCells L++Lib.strCells (bs M)) w')(hb:Below (w.heap.size+1) wr w'):TB w w' (L++M) a b:=by
 subst hp;refine⟨.inr ?_,?_,h.bel.trans (hb.mono (by omega))⟩
 .rw[←byteCells_app];exact hat
 .rw[hb.block _ (by omega)];exact h.hx
theorem text_any (l:List (Tk×Nat))(ps:List Pr)(g cap:Nat)(pa:Option Addr)(pc:Nat)(w:World)(hg:g<w.heap.size)(hr:RowPT w g l)(hcap:l.length<=cap)(hn:l.length<=6)(hsm:∀k,k<l.length->(lk l k).1.P<100/\(lk l k).1.O<100/\(lk l k).1.C<100/\(lk l k).1.D<100)
  (hm:ps.length<=6) (hp:0<ps.length->∃gp,pa=some ⟨gp,0,none⟩/\gp<w.heap.size/\RowPP w gp ps) (R:List UInt8) (hR:l.flatMap tLine1++ps.flatMap pLine=R):
  Calls Tryz.prog 94 #[.agg #[.slice (some ⟨g,0,none⟩) l.length cap,.slice pa ps.length pc]] w fun e w'=>e=.returned (.string (bs R))/\Below w.heap.size w w':=by
 have HR:=hide hR;have Hr:=hide hr;have Hp:=hide hp;have Hsm:=hide hsm;have hT0:Hid (TB w ((w.alloc (.cells #[.slice (some ⟨g,0,none⟩) l.length cap,.slice pa ps.length pc] 84)).alloc (.cells #[.pointer none,.slice none 0 0] 109)) [] (.slice (some ⟨g,0,none⟩) l.length cap) (.slice pa ps.length pc)):=by
  refine⟨.inl ⟨Nat.le_refl _,.slice none 0 0,?_,World.ownsRow_nil _ _ _ _,by simp[Value.ownBlock]⟩,?_,(zN w _).alloc (by simp) _⟩
  .simpa using zW (w.alloc (.cells #[.slice (some ⟨g,0,none⟩) l.length cap,.slice pa ps.length pc] 84)) #[.pointer none,.slice none 0 0] 109
  .rw[Below.heap_alloc _ _ _ (by simp)];exact zW _ _ _
 clear hR hr hp hsm;go_enter Tryz.func94,Tryz.ntmps94;go_wp2
 go_loopw [11] (fun i wr=>∃k:Nat,k<=l.length/\i=.int .i64 k/\TB w wr ((l.take k).flatMap tLine1) (.slice (some ⟨g,0,none⟩) l.length cap) (.slice pa ps.length pc)/\((l.take k).flatMap tLine1).length<=60*k) (fun i _=>l.length-(intOf i).toNat)
 case atStart=>exact⟨0,by omega,rfl,hT0.out,by simp⟩
 case round=>
  clear hT0;obtain⟨k,hk,rfl,hT,hlen⟩:=hrel;have x0:=zC hT.hx;have hsz:=hT.bel.size;have hlb:=isB_lt hT.isb;have HT:=hide hT;clear hT;by_cases hlt:k<l.length
  .obtain⟨r0,r1,r2,r3,r4,r5,r6,r7,r8,r9⟩:=Hr.out.below HT.out.bel hg k hlt;obtain⟨b1,b2,b3,b4⟩:=Hsm.out k hlt;have hft:=hide (flat_lk tLine1 l k hlt);have hkc:k<=cap:=by omega
   have hkc':(k:Int)<=(cap:Int):=by omega
   have hgw:g<wr.heap.size:=by omega
   generalize lk l k=x at *;generalize (l.take k).flatMap tLine1=L at *;go_wp2_with fail;refine(taskTokens_v x _ _ rfl b1 b2 b3 b4).mono ?_;rintro e w1 ⟨hb1,g1,c1,rfl,hg1,hc1,hx1⟩;have HT1:=hide ((HT.out.call (zN wr _)).call hb1);have Hx1:=hide hx1;clear hb1 hx1 r0 r1 r2 r3 r4 r5 r6 r7 r8 r9 x0 HT;obtain⟨J,hJ,hJe,hJl⟩:=tLine_join x.1;have HJ:=hide hJ;have HJe:=hide hJe;clear hJ hJe;go_wp2_with fail;refine(line_any g1 c1 (taskToks x.1) _ Hx1.out hg1 (taskToks_len _) hc1 J HJ.out hJl).mono ?_;rintro e w2 ⟨rfl,hb2⟩;rw[show J++[59,10]=tLine1 x from HJe.out];have HT2:=hide (HT1.out.call hb2);have hl2:=isB_lt HT2.out.isb;clear hb2 HT1 Hx1 HJ HJe;have htl:(tLine1 x).length<=60:=tLine_len x.1;go_wp2_with fail;refine(writeString_any _ _ _ _ _ HT2.out.isb (by rw[byteCells_len,bs_size];omega) (by omega)).mono ?_;rintro e w3 ⟨rfl,hat,hb3⟩;have HT3:=hide (HT2.out.wrote rfl hat hb3);clear hat hb3 HT2;go_wp2;go_roundw
   case rel=>exact⟨k+1,by omega,by go_num,by rw[hft.out];exact HT3.out,by rw[hft.out,List.length_append];omega⟩
   case measure=>simp[intOf];omega
  .have hkl:k=l.length:=by omega
   subst hkl;have hL:Hid ((l.take l.length).flatMap tLine1=l.flatMap tLine1):=by unfold Hid;rw[List.take_length]
   have HT':Hid (TB w wr (l.flatMap tLine1) (.slice (some ⟨g,0,none⟩) l.length cap) (.slice pa ps.length pc)):=by
    unfold Hid;rw[←hL.out];exact HT.out
   have hlen':(l.flatMap tLine1).length<=400:=by rw[←hL.out];omega
   clear hL hlen HT;generalize l.flatMap tLine1=L0 at *;go_wp2
   go_loopw [23] (fun i wr=>∃k:Nat,k<=ps.length/\i=.int .i64 k/\TB w wr (L0++(ps.take k).flatMap pLine) (.slice (some ⟨g,0,none⟩) l.length cap) (.slice pa ps.length pc)/\(L0++(ps.take k).flatMap pLine).length<=400+12*k) (fun i _=>ps.length-(intOf i).toNat)
   case atStart=>exact⟨0,by omega,rfl,by simpa using HT'.out,by simp;omega⟩
   case round=>
    clear HT' x0 hsz hlb;obtain⟨k,hk,rfl,hT,hlen⟩:=hrel;have x0:=zC hT.hx;have hsz:=hT.bel.size;have hlb:=isB_lt hT.isb;have HT:=hide hT;clear hT;by_cases hlt:k<ps.length
    .obtain⟨gp,rfl,hgp,hRP⟩:=Hp.out (by omega);obtain⟨r0,r1,r2,r3,r4⟩:=hRP.below HT.out.bel hgp k hlt;have hft:Hid ((ps.take (k+1)).flatMap pLine=(ps.take k).flatMap pLine++pLine (psk ps k)):=flat_take pLine _ ps k hlt;have hgpw:gp<wr.heap.size:=by omega
     clear hRP Hp;generalize psk ps k=p at *;change wr.cell? ⟨gp,k*5,none⟩=some (.string (bs (pW p))) at r0;have hL:Hid (L0++(ps.take (k+1)).flatMap pLine=(L0++(ps.take k).flatMap pLine)++pLine p):=by unfold Hid;rw[hft.out,List.append_assoc]
     generalize L0++(ps.take k).flatMap pLine=L at *;go_wp2_with fail;refine(pairTokens_any p _).mono ?_;rintro e w1 ⟨hb1,g1,c1,rfl,hg1,hc1,hx1⟩;have HT1:=hide ((HT.out.call (zN wr _)).call hb1);have Hx1:=hide hx1;clear hb1 hx1 r0 r1 r2 r3 r4 x0 HT;obtain⟨J,hJ,hJe,hJl⟩:=pLine_join p;have HJ:=hide hJ;have HJe:=hide hJe;clear hJ hJe;go_wp2_with fail;refine(line_any g1 c1 [bs (pW p),bs [p.a],bs [p.b]] _ Hx1.out hg1 (by simp) hc1 J HJ.out (by omega)).mono ?_;rintro e w2 ⟨rfl,hb2⟩;have hpl:(pLine p).length<=12:=by rw[←HJe.out,List.length_append];simp;omega
     rw[HJe.out];have HT2:=hide (HT1.out.call hb2);have hl2:=isB_lt HT2.out.isb;clear hb2 HT1 Hx1 HJ HJe;go_wp2_with fail;refine(writeString_any _ _ _ _ _ HT2.out.isb (by rw[byteCells_len,bs_size];omega) (by omega)).mono ?_;rintro e w3 ⟨rfl,hat,hb3⟩;have HT3:=hide (HT2.out.wrote rfl hat hb3);clear hat hb3 HT2;go_wp2;go_roundw
     case rel=>exact⟨k+1,by omega,by go_num,by rw[hL.out];exact HT3.out,by rw[hL.out,List.length_append];omega⟩
     case measure=>simp[intOf];omega
    .have hkl:k=ps.length:=by omega
     subst hkl;have HT':Hid (TB w wr R (.slice (some ⟨g,0,none⟩) l.length cap) (.slice pa ps.length pc)):=by
      unfold Hid;have:=HT.out;rw[List.take_length,HR.out]at this;exact this
     clear HT;go_wp2_with fail;refine(builderString_any _ _ _ _ HT'.out.isb (by omega)).mono ?_;rintro e w1 ⟨rfl,hb1⟩;have hB:=hide (HT'.out.bel.trans (hb1.mono (by omega)));clear hb1 HT';go_wp2;go_ret;exact⟨rfl,hB.out⟩
end
section
open Go.RowKit Go.Shelf
theorem sliceText_any (s:Sl)(w:World)(h1:s.job<100)(h2:s.bud<100):
  Calls Tryz.prog 113 #[.agg #[.int .u8 s.nm.toNat,.int .i64 s.job,.int .i64 s.bud]] w fun e w'=>e=.returned (.string (bs (slTxt s)))/\Below w.heap.size w w':=by
 have hd1:=dB_size s.job;have hd2:=dB_size s.bud;obtain⟨X2,a2,z2,e2⟩:=add_named2 ⟨#[s.nm]⟩ (dB s.job) (by rw[show (ByteArray.size ⟨#[s.nm]⟩)=1 from rfl];omega);rw[show (ByteArray.size ⟨#[s.nm]⟩)=1 from rfl]at z2;obtain⟨X3,a3,z3,e3⟩:=add_named2 X2 ⟨#[58]⟩ (by rw[show (ByteArray.size ⟨#[58]⟩)=1 from rfl];omega);rw[show (ByteArray.size ⟨#[58]⟩)=1 from rfl]at z3;obtain⟨X4,a4,z4,e4⟩:=add_named2 X3 (dB s.bud) (by omega);have EX:Hid (X4=bs (slTxt s)):=by
  unfold Hid;rw[←bs_list X4,e4,e3,e2];simp[slTxt,dL]
 clear z2 z3 z4 e2 e3 e4;have hX0:=zW w #[.int .u8 s.nm.toNat,.int .i64 s.job,.int .i64 s.bud] 106;have hB0:=hide (zN w (.cells #[.int .u8 s.nm.toNat,.int .i64 s.job,.int .i64 s.bud] 106));have hcv:=bytes1 s.nm;go_enter Tryz.func113,Tryz.ntmps113;go_wp2_with fail;generalize w.alloc (.cells #[.int .u8 s.nm.toNat,.int .i64 s.job,.int .i64 s.bud] 106)=wr at *;have x0:wr.cell? ⟨w.heap.size,0,none⟩=some (.int .u8 s.nm.toNat):=zC hX0 0;have x1:wr.cell? ⟨w.heap.size,1,none⟩=some (.int .i64 s.job):=zC hX0 1;have x2:wr.cell? ⟨w.heap.size,2,none⟩=some (.int .i64 s.bud):=zC hX0 2;have hlt:=zL hX0;clear hX0;have HJ:Hid (∀W,Calls Tryz.prog 71 #[.int .i64 s.job] W fun e w'=>e=.returned (.string (dB s.job))/\w'=W):=fun W=>itoa_any s.job W h1;have HD:Hid (∀W,Calls Tryz.prog 71 #[.int .i64 s.bud] W fun e w'=>e=.returned (.string (dB s.bud))/\w'=W):=fun W=>itoa_any s.bud W h2;have KA:Hid (∀W:World,W.cell? ⟨w.heap.size,0,none⟩=some (.int .u8 s.nm.toNat)/\W.cell? ⟨w.heap.size,1,none⟩=some (.int .i64 s.job)/\W.cell? ⟨w.heap.size,2,none⟩=some (.int .i64 s.bud)->(W.alloc (.cells #[.int .u8 s.nm.toNat] 5)).cell? ⟨w.heap.size,0,none⟩=some (.int .u8 s.nm.toNat)/\(W.alloc (.cells #[.int .u8 s.nm.toNat] 5)).cell? ⟨w.heap.size,1,none⟩=some (.int .i64 s.job)/\(W.alloc (.cells #[.int .u8 s.nm.toNat] 5)).cell? ⟨w.heap.size,2,none⟩=some (.int .i64 s.bud)):=by
  rintro W ⟨q0,q1,q2⟩;have hl:=World.block_lt_of_cell? W ⟨w.heap.size,0,none⟩ q0;rw[World.cell?_alloc_past _ _ _ hl,World.cell?_alloc_past _ _ _ hl,World.cell?_alloc_past _ _ _ hl];exact⟨q0,q1,q2⟩
 clear h1 h2;generalize dB s.job=DJ at *;generalize dB s.bud=DD at *
 go_region_held_law (fun w'=>w'.cell? ⟨w.heap.size,0,none⟩=some (.int .u8 s.nm.toNat)/\w'.cell? ⟨w.heap.size,1,none⟩=some (.int .i64 s.job)/\w'.cell? ⟨w.heap.size,2,none⟩=some (.int .i64 s.bud)) (first|exact⟨x0,x1,x2⟩|exact KA.out wr ⟨x0,x1,x2⟩)
  (first|(go_at_call 71;refine(HJ.out _).mono ?_;rintro e w8 ⟨rfl,rfl⟩)|(go_at_call 71;refine(HD.out _).mono ?_;rintro e w9 ⟨rfl,rfl⟩))
 all_goals
  go_wp2;go_ret;refine⟨by rw[←EX.out];rfl,?_⟩;exact(hB0.out.trans ((zN wr _).drew.mono hB0.out.size))
theorem join_tail (s:Sl):∀(r:List Sl),slTxt s++Lib.joinTail [44] (r.map slTxt)=frTxt (s::r)
 | []=>by simp[Lib.joinTail,frTxt]
 | x::r=>by
  have:=join_tail x r;simp only[frTxt];rw[←this];simp[Lib.joinTail]
theorem fr_join (f:List Sl):Lib.join (f.map slTxt) [44]=frTxt f:=by
 cases f with
 | nil=>rfl
 | cons s r=>
  rw[List.map_cons,Lib.join_cons,join_tail]
theorem frameText_any (f:List Sl)(a:Option Addr)(c:Nat)(w:World)(hr:FrA w a f)(hn:f.length<=100)(hs:∀k,k<f.length->(slk f k).job<100/\(slk f k).bud<100):
  Calls Tryz.prog 72 #[.slice a f.length c] w fun e w'=>e=.returned (.string (bs (frTxt f)))/\Below w.heap.size w w':=by
 obtain⟨i0,hi,hz0,hz1,hz2⟩:=info_parts Tryz.infoStr;have Hr:=hide hr;have Hs:=hide hs;clear hr hs;go_enter Tryz.func72,Tryz.ntmps72;go_wp2_with fail
 go_loopw [3,8] (fun v i wr=>∃k:Nat,k<=f.length/\i=.int .i64 k/\wr.ownsRow w.heap.size 9 1 v k ((f.take k).map (fun s=>Value.string (bs (slTxt s))))/\Below w.heap.size w wr) (fun _ i _=>200-(intOf i).toNat)
 case atStart=>exact⟨0,by omega,rfl,World.ownsRow_nil _ _ _ _,Below.refl _ _⟩
 case round=>
  obtain⟨k,hk,rfl,how,hb⟩:=hrel;obtain⟨va,vc,rfl⟩:=own_slice how;have HB:=hide hb;have How:=hide how;by_cases hlt:k<f.length
  .have hlt':(k:Int)<f.length:=by omega
   obtain⟨g,rfl,hg,hrow⟩:=Hr.out (by omega);obtain⟨r0,r1,r2⟩:=hrow.below hb hg k hlt;obtain⟨hj,hbd⟩:=Hs.out k hlt;have htk:Hid ((f.take (k+1)).map (fun s=>Value.string (bs (slTxt s)))=(f.take k).map (fun s=>Value.string (bs (slTxt s)))++[.string (bs (slTxt (slk f k)))]):=by
    unfold Hid;rw[List.take_succ_eq_append_getElem hlt,List.map_append,slk_eq hlt];rfl
   clear hb how hrow;go_wp2_with fail;refine(sliceText_any (slk f k) _ hj hbd).mono ?_;rintro e w1 ⟨rfl,hb1⟩;have hb2:Below wr.heap.size wr w1:=(zN wr _).trans (hb1.mono (by simp));have how1:=owns_below How.out hb2;have HB1:=hide (HB.out.trans (hb2.mono HB.out.size));have hsz1:=HB1.out.size;clear hb1 hb2 r0 r1 r2;go_wp2_with (at_builtin;refine wpList_append_own _ rfl _ _ 159 rfl w.heap.size 9 i0 _ 1 16 Tryz.underlying159 hi hz0 hz1 hz2 rfl (by decide) _ _ _ rfl (how1.alloc _) ⟨w1.heap.size,0,none⟩ 1 1 [.string (bs (slTxt (slk f k)))] rfl rfl ?c1 ?c2 ?c3 ?c4 ?c5 ?_)
   case c1=>exact cells_new w1 #[_] _ _ rfl
   case c2=>simp[Value.oneCell']
   case c3=>unfold maxLen;omega
   case c4=>omega
   case c5=>simp;omega
   intro v' w2 hown2 hgr _;have hbel:Below w.heap.size w w2:=(HB1.out.alloc HB1.out.size _).grown hgr (by simp;omega) (fun q hq=>(how1.lt _ hq).1);have Hbel:=hide hbel;have Hown2:=hide hown2;clear hown2 hgr hbel how1;go_wp2;go_roundw
   case rel=>exact⟨k+1,by omega,by go_num,by rw[htk.out,List.map_take];exact Hown2.out,Hbel.out⟩
   case measure=>simp[intOf];omega
  .have hlt':¬(k:Int)<f.length:=by omega
   have hke:k=f.length:=by omega
   subst hke;have hj:=fr_join f;have Hj:=hide hj;clear hb how hj;by_cases hf:f.length=0
   .have hfn:f=[]:=List.length_eq_zero_iff.1 hf;subst hfn;simp only[List.length_nil]at *;go_wp2_with fail;refine(show Calls Tryz.prog 114 #[.slice va 0 vc,.string ⟨#[44]⟩] wr fun e w'=>e=.returned (.string ⟨#[]⟩)/\w'=wr from Any.strings_Join_none Tryz.lays156 Tryz.Builder_Extra_156 va vc ⟨#[44]⟩ wr).mono ?_;rintro e w' ⟨rfl,rfl⟩;go_wp2;go_ret;exact⟨rfl,HB.out⟩
   .obtain⟨gb,cap,he,hg1,hg2⟩:=own_form How.out (by omega);injection he with e1 _ e3;subst e1 e3;have hcells:∀(j:Nat) (x:ByteArray),(f.map (fun s=>bs (slTxt s)))[j]? =some x->wr.cell? ⟨gb,0+j,none⟩=some (.string x):=by
     intro j x hx;have hj:j<f.length:=by
      rcases Nat.lt_or_ge j f.length with h|h
      .exact h
      .rw[List.getElem?_eq_none (by simpa using h)]at hx;simp at hx
     rw[Nat.zero_add,How.out.cellAt j (by omega),List.take_length];rw[List.getElem?_map]at hx ⊢
     cases hq:f[j]? with
     | none=>rw[hq]at hx;simp at hx
     | some y=>rw[hq]at hx;simp at hx;simp[hx]
    have hcp:=own_cap How.out;have hm:(f.map (fun s=>bs (slTxt s))).map (·.data.toList)=f.map slTxt:=by simp[Function.comp_def,bs_data]
    have hjn:=join_any gb 0 vc (f.map (fun s=>bs (slTxt s))) ⟨#[44]⟩ wr hcells hg2 (by simp;omega) (by simpa using hcp) (by
     rw[hm];show (Lib.join (f.map slTxt) [44]).length<=_;rw[Hj.out];have:=frTxt_len f;omega)
    rw[hm,List.length_map]at hjn;have hjn2:Calls Tryz.prog 114 #[.slice (some ⟨gb,0,none⟩) f.length vc,.string ⟨#[44]⟩] wr fun e w'=>e=.returned (.string (bs (frTxt f)))/\Below wr.heap.size wr w':=hjn.mono fun e w' h=>⟨by rw[h.1];show Ending.returned (.string ⟨(Lib.join (f.map slTxt) [44]).toArray⟩)=_;rw[Hj.out];rfl,h.2⟩;have Hjn:=hide hjn2;clear hjn hjn2 hcells hm;go_wp2_with fail;refine Hjn.out.mono ?_;rintro e w1 ⟨rfl,hb1⟩;have HB1:=hide (HB.out.trans (hb1.mono HB.out.size));clear hb1;go_wp2;go_ret;exact⟨rfl,HB1.out⟩
structure TG (w wr:World) (L:List UInt8) (tv:Array Value):Prop where
 isb:Lib.IsBuilder 109 5 (w.heap.size+1) (w.heap.size+1) (Lib.byteCells L) wr
 hx:wr.heap[w.heap.size]? =some (.cells tv 61 (0,0))
 bel:Below w.heap.size w wr
theorem TG.call {w wr w':World}{L:List UInt8}{tv:Array Value}(h:TG w wr L tv)(hb:Below wr.heap.size wr w'):TG w w' L tv:=
 ⟨isB_below h.isb hb,zK h.hx hb,h.bel.trans (hb.mono h.bel.size)⟩
theorem TG.wrote {w wr w':World}{L M:List UInt8}{tv:Array Value}{p:Value}(h:TG w wr L tv)(hp:p=.pointer (some ⟨w.heap.size+1,0,none⟩))(hat:Lib.BuilderAt 109 5 (w.heap.size+1) (w.heap.size+1) p (Lib.byteCells L++Lib.strCells (bs M)) w')(hb:Below (w.heap.size+1) wr w'):TG w w' (L++M) tv:=by
 subst hp;refine⟨.inr ?_,?_,h.bel.trans (hb.mono (by omega))⟩
 .rw[←byteCells_app];exact hat
 .rw[hb.block _ (by omega)];exact h.hx
theorem TG.start (w:World)(tv:Array Value):TG w ((w.alloc (.cells tv 61)).alloc (.cells #[.pointer none,.slice none 0 0] 109)) [] tv:=by
 refine⟨.inl ⟨Nat.le_refl _,.slice none 0 0,?_,World.ownsRow_nil _ _ _ _,by simp[Value.ownBlock]⟩,?_,(zN w _).alloc (by simp) _⟩
 .simpa using zW (w.alloc (.cells tv 61)) #[.pointer none,.slice none 0 0] 109
 .rw[Below.heap_alloc _ _ _ (by simp)];exact zW _ _ _
theorem tableText_any (t:Tb)(a:Option Addr)(cc:Nat)(w:World)(hr:FvA w a t.fs)(hS:Sound t):
  Calls Tryz.prog 36 #[.agg #[.int .i64 t.cyc,.int .i64 t.fr,.slice a t.fs.length cc]] w fun e w'=>e=.returned (.string (bs (tbTxt t)))/\Below w.heap.size w w':=by
 obtain⟨hf1,hf2,hn1,hn2,hfl⟩:=hS.frames;have hc2:=hS.c2;have Hsm:=hide hS.small;have Hr:=hide hr;clear hr hS;have H0:=hide (TG.start w #[.int .i64 t.cyc,.int .i64 t.fr,.slice a t.fs.length cc]);have hd1:=dB_size t.cyc;have hd2:=dB_size t.fr;obtain⟨X1,a1,z1,e1⟩:=add_named2 ⟨#[99,121,99,108,101,32]⟩ (dB t.cyc) (by rw[show (ByteArray.size ⟨#[99,121,99,108,101,32]⟩)=6 from rfl];omega);rw[show (ByteArray.size ⟨#[99,121,99,108,101,32]⟩)=6 from rfl]at z1;obtain⟨X2,a2,z2,e2⟩:=add_named2 X1 ⟨#[32,102,114,97,109,101,32]⟩ (by rw[show (ByteArray.size ⟨#[32,102,114,97,109,101,32]⟩)=7 from rfl];omega);rw[show (ByteArray.size ⟨#[32,102,114,97,109,101,32]⟩)=7 from rfl]at z2;obtain⟨X3,a3,z3,e3⟩:=add_named2 X2 (dB t.fr) (by omega);obtain⟨X4,a4,z4,e4⟩:=add_named2 X3 ⟨#[59,10]⟩ (by rw[show (ByteArray.size ⟨#[59,10]⟩)=2 from rfl];omega);rw[show (ByteArray.size ⟨#[59,10]⟩)=2 from rfl]at z4;have E4:Hid (X4=bs (hdTxt t.cyc t.fr)):=by
  unfold Hid;rw[←bs_list X4,e4,e3,e2,e1];simp[hdTxt,dL]
 have hhd:=hdTxt_len t.cyc t.fr;clear z1 z2 z3 z4 e1 e2 e3 e4;have x:=zC H0.out.hx;have HT0:Hid (TG w (((w.alloc (.cells #[.int .i64 t.cyc,.int .i64 t.fr,.slice a t.fs.length cc] 61)).alloc (.cells #[.pointer none,.slice none 0 0] 109)).drew) [] #[.int .i64 t.cyc,.int .i64 t.fr,.slice a t.fs.length cc]):=H0.out.call (below_drewN (Below.refl _ _) 1);have HWS:Hid (∀W,TG w W [] #[.int .i64 t.cyc,.int .i64 t.fr,.slice a t.fs.length cc]->Calls Tryz.prog 70 #[.pointer (some ⟨w.heap.size+1,0,none⟩),.string X4] W fun e w'=>e=.returned (.tuple #[.int .i64 X4.size,.nilIface])/\TG w w' (hdTxt t.cyc t.fr) #[.int .i64 t.cyc,.int .i64 t.fr,.slice a t.fs.length cc]):=by
  intro W hW;have hl:=isB_lt hW.isb;refine(writeString_any _ _ _ X4 _ hW.isb (by rw[byteCells_len,E4.out,bs_size];simp;omega) (by omega)).mono ?_;rintro e w3 ⟨rfl,hat,hb3⟩;rw[E4.out]at hat;exact⟨rfl,by simpa using hW.wrote rfl hat hb3⟩
 have HI1:Hid (∀W,Calls Tryz.prog 71 #[.int .i64 t.cyc] W fun e w'=>e=.returned (.string (dB t.cyc))/\w'=W):=fun W=>itoa_any t.cyc W (by omega);have HI2:Hid (∀W,Calls Tryz.prog 71 #[.int .i64 t.fr] W fun e w'=>e=.returned (.string (dB t.fr))/\w'=W):=fun W=>itoa_any t.fr W (by omega);go_enter Tryz.func36,Tryz.ntmps36;go_wp2_with fail
 go_cut [16] (fun _ wc=>TG w wc (hdTxt t.cyc t.fr) #[.int .i64 t.cyc,.int .i64 t.fr,.slice a t.fs.length cc])
 case first=>
  go_region_with (first|(go_at_call 71;(first|refine(HI1.out _).mono ?_|refine(HI2.out _).mono ?_);rintro e w' ⟨rfl,rfl⟩)|(go_at_call 70;refine(HWS.out _ ?hw).mono ?_;(case hw=>exact HT0.out);rintro e w3 ⟨rfl,hT3⟩))
  all_goals
   have HT3:=hide hT3;clear hT3;go_wp2
   go_meet
   case rel=>exact HT3.out
 case rest=>
  clear H0 HT0 HWS HI1 HI2 a1 a2 a3 a4 x hd1 hd2 E4;have HT:=hide hcut;have x:=zC hcut.hx;clear hcut;go_wp2_with fail;clear x
  go_loopw [20] (fun i wr=>∃k:Nat,k<=t.fs.length/\i=.int .i64 k/\TG w wr (hdTxt t.cyc t.fr++(t.fs.take k).flatMap (fun f=>frTxt f++[59,10])) #[.int .i64 t.cyc,.int .i64 t.fr,.slice a t.fs.length cc]/\(hdTxt t.cyc t.fr++(t.fs.take k).flatMap (fun f=>frTxt f++[59,10])).length<=19+1000*k) (fun i _=>200-(intOf i).toNat)
  case atStart=>exact⟨0,by omega,rfl,by simpa using HT.out,by simp;omega⟩
  case round=>
   clear HT;obtain⟨k,hk,rfl,hT,hlen⟩:=hrel;by_cases hlt:k<t.fs.length
   .have hlt':(k:Int)<t.fs.length:=by omega
    obtain⟨g,rfl,hg,hF⟩:=Hr.out (by omega);obtain⟨fa,fc,hfc0,hfa⟩:=hF k hlt;have hfc:=(hT.bel.cell (p:=⟨g,k,none⟩) hg).trans hfc0;have HFA:=hide (hfa.below hT.bel (Nat.le_refl _));have hm:frk t.fs k∈t.fs:=by rw[←frk_eq hlt];exact List.getElem_mem _
    obtain⟨hfl1,hfl2⟩:=Hsm.out _ hm;have hsmall:Hid (∀q,q<(frk t.fs k).length->(slk (frk t.fs k) q).job<100/\(slk (frk t.fs k) q).bud<100):=by
     intro q hq;have:=hfl2 (slk (frk t.fs k) q) (by rw[←slk_eq hq];exact List.getElem_mem _);omega
    have hft:Hid ((t.fs.take (k+1)).flatMap (fun f=>frTxt f++[59,10])=(t.fs.take k).flatMap (fun f=>frTxt f++[59,10])++(frTxt (frk t.fs k)++[59,10])):=by
     unfold Hid;rw[List.take_succ_eq_append_getElem hlt,List.flatMap_append,frk_eq hlt];simp
    have hfrl:=frTxt_len (frk t.fs k);obtain⟨X5,a5,z5,e5⟩:=add_named2 (bs (frTxt (frk t.fs k))) ⟨#[59,10]⟩ (by rw[bs_size,show (ByteArray.size ⟨#[59,10]⟩)=2 from rfl];omega);have E5:Hid (X5=bs (frTxt (frk t.fs k)++[59,10])):=by
     unfold Hid;rw[←bs_list X5,e5,bs_data]
    have z5':X5.size<=702:=by rw[E5.out,bs_size,List.length_append];simp;omega
    have HT:=hide hT;clear hfc0 hfa hF hm hfl2 hT z5 e5;go_wp2_with fail;refine(frameText_any (frk t.fs k) fa fc _ HFA.out (by omega) hsmall.out).mono ?_;rintro e w1 ⟨rfl,hb1⟩;have HT1:=hide (HT.out.call hb1);have hl1:=isB_lt HT1.out.isb;clear hb1 hfc HT HFA hsmall;generalize hLL:hdTxt t.cyc t.fr++(t.fs.take k).flatMap (fun f=>frTxt f++[59,10])=LL at *;have HLL:=hide hLL;clear hLL;go_wp2_with fail;refine(writeString_any _ _ _ X5 _ HT1.out.isb (by rw[byteCells_len];omega) (by omega)).mono ?_;rintro e w3 ⟨rfl,hat,hb3⟩;rw[E5.out]at hat;have HT3:=hide (HT1.out.wrote rfl hat hb3);clear hat hb3 HT1;go_wp2;go_roundw
    case rel=>
     refine⟨k+1,by omega,by go_num,?_,?_⟩
     .rw[hft.out,←List.append_assoc,HLL.out];exact HT3.out
     .rw[hft.out,←List.append_assoc,HLL.out,List.length_append,List.length_append];simp;omega
    case measure=>simp[intOf];omega
   .have hlt':¬(k:Int)<t.fs.length:=by omega
    have hke:t.fs.take k=t.fs:=List.take_of_length_le (by omega);rw[hke]at hT;have HT:Hid (TG w wr (tbTxt t) #[.int .i64 t.cyc,.int .i64 t.fr,.slice a t.fs.length cc]):=hT;clear hT hlen hke;have hl1:=isB_lt HT.out.isb;go_wp2_with fail;refine(builderString_any _ _ _ _ HT.out.isb (by omega)).mono ?_;rintro e w1 ⟨rfl,hb1⟩;have hB:=hide (HT.out.bel.trans (hb1.mono (by omega)));clear hb1 HT;go_wp2;go_ret;exact⟨rfl,hB.out⟩
end
end Go.Proofs.YtbdffcjganlblaaGreatDoor
