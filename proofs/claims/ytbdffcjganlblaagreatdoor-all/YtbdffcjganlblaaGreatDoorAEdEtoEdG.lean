import Derived.Test.YtbdffcjganlblaaGreatDoorAPnMtoEdD
import Derived.Test.YtbdffcjganlblaaGreatDoorALawRtoEqvA
import Derived.Test.YtbdffcjganlblaaGreatDoorARunFtoLawC
import Derived.Test.YtbdffcjganlblaaGreatDoorAPrBtoPrD
set_option linter.unusedVariables false
set_option linter.unusedSimpArgs false
set_option maxRecDepth 100000
set_option maxHeartbeats 16000000
namespace Go.Proofs.YtbdffcjganlblaaGreatDoor
theorem sumN_one {J k b:Nat}(h:k<J):sumN (fun i=>if k=i then b else 0) J=b:=by
 induction J with
 | zero=>omega
 | succ J ih=>
  rw[sumN];by_cases e:k=J
  .subst e;rw[if_pos rfl,sumN_same (g:=fun _=>0) k (fun i hi=>if_neg (by omega)),sumN_zero];omega
  .rw[if_neg e,ih (by omega)];omega
theorem sum_gvn {J:Nat}:∀(f:List (Nat×Nat)),(∀x∈f,x.1<J)->sumN (fun k=>gvn k f) J=bsum f
 | [],_=>by simp only[gvn,bsum];exact sumN_zero J
 | x::r,h=>by
  simp only[gvn,bsum];rw[sumN_add (fun k=>if x.1=k then x.2 else 0) (fun k=>gvn k r),sumN_one (h x (by simp)),sum_gvn r (fun y hy=>h y (by simp[hy]))]
theorem sumN_shift (f:Nat->Nat):∀n,sumN f (n+1)=f 0+sumN (fun i=>f (i+1)) n
 | 0=>by simp[sumN]
 | n+1=>by rw[sumN,sumN_shift f n,sumN];omega
theorem sum_gvF (k:Nat):∀(fs:List (List (Nat×Nat))),sumN (fun j=>gvn k (fs.getD j [])) fs.length=gvF k fs
 | []=>rfl
 | f::r=>by
  rw[List.length_cons,sumN_shift,gvF,←sum_gvF k r];simp
section
variable {js:List Jb} {cyc F:Nat}
theorem gvn_none {k:Nat}{f:List (Nat×Nat)}(h:∀x∈f,x.1≠k):gvn k f=0:=by
 rcases Nat.eq_zero_or_pos (gvn k f) with h0|h0
 .exact h0
 .obtain⟨x,hx,e⟩:=gvn_pos h0;exact absurd e (h x hx)
theorem flows_of_goes {ps:List Pr}(hdv:cyc%F=0)(h:goesJ js ps cyc F=true):Flows js.length (cyc/F) F (fitJ js F) (costJ js):=by
 unfold goesJ at h;obtain⟨a1,a2,a3⟩:=plan_ok js ps F (cyc/F) 0 (costJ js);unfold runJ at *;generalize planJ js ps F (cyc/F) 0 (costJ js)=r at *;have hdone:∀k,k<js.length->r.2 k=0:=fun k hk=>by
  unfold allJ at h;rw[List.all_eq_true]at h;have:=h k (by simpa using hk);simpa using this
 have hget:∀j,(hj:j<r.1.length)->r.1.getD j []=r.1[j]:=fun j hj=>by simp[List.getD_eq_getElem?_getD,hj]
 refine⟨fun k j=>gvn k (r.1.getD j []),?_,?_,?_⟩
 .intro k j hk hj hf;show gvn k (r.1.getD j [])=0;rw[hget j (by omega)];refine gvn_none (fun x hx e=>?_);have h1:=(sch_at a1 j (by omega)).each x hx;rw[e,Nat.zero_add]at h1;unfold fitJ at hf;rw[show (j+1)*F=j*F+F from Nat.succ_mul _ _,decide_eq_true h1.2.1,decide_eq_true h1.2.2.1]at hf;simp at hf
 .intro j hj;have h1:=sch_at a1 j (by omega);show sumN (fun k=>gvn k (r.1.getD j [])) js.length<=F;rw[hget j (by omega),sum_gvn _ (fun x hx=>(h1.each x hx).1)];exact h1.sum
 .intro k hk;show sumN (fun j=>gvn k (r.1.getD j [])) (cyc/F)=_;rw[←a3,sum_gvF];have h2:=a2 k;have h3:=hdone k hk;omega
theorem goes_one (hj:JsOk js cyc)(hdv:cyc%F=0)(h:Flows js.length (cyc/F) F (fitJ js F) (costJ js)):goesJ js [] cyc 1=true:=by
 have h1:=flows_done (r:=fun k=>(jk js k).rel) (d:=fun k=>(jk js k).dl) (fun k j hk hjn hf=>by
  unfold fitJ at hf;simp only[Bool.and_eq_true,decide_eq_true_eq]at hf;exact hf) h
 rw[Nat.div_mul_cancel (Nat.dvd_of_mod_eq_zero hdv)]at h1;have e1:rF js 1=fun k=>(jk js k).rel:=by funext k;simp[rF,rUp]
 have e2:dF js 1=fun k=>(jk js k).dl:=by funext k;simp[dF,dDn]
 have h2:=done_plan hj (F:=1) (Nat.le_refl _) cyc 0 (costJ js) (by rw[e1,e2,Nat.zero_mul,Nat.mul_one];exact h1);unfold goesJ allJ runJ;rw[List.all_eq_true];intro k hk;have:=h2 k (by simpa using hk);rw[Nat.zero_mul]at this;simpa [Nat.div_one] using this
theorem goes_iff (hj:JsOk js cyc)(hF:1<=F)(hdv:cyc%F=0):goesJ js [] cyc F=true↔Flows js.length (cyc/F) F (fitJ js F) (costJ js):=⟨flows_of_goes hdv,goes_of_flows hj hF⟩
end
theorem wide_zero {js:List Jb}{ps:List Pr}{cyc:Nat}:∀ {f:Nat},wideJ js ps cyc f=0->∀F,1<=F->F<=f->cyc%F=0->goesJ js ps cyc F=false
 | 0,_,F,h1,h2,_=>by omega
 | f+1,h,F,h1,h2,h3=>by
  rw[wideJ]at h;split at h
  .omega
  .rename_i hn;by_cases e:F=f+1
   .subst e
    cases hg:goesJ js ps cyc (f+1) with
    | false=>rfl
    | true=>exact absurd ⟨h3,hg⟩ hn
   .exact wide_zero h F h1 (by omega) h3
theorem wide_pos {js:List Jb}{ps:List Pr}{cyc:Nat}:∀ {f:Nat},0<wideJ js ps cyc f->wideJ js ps cyc f<=f/\cyc%wideJ js ps cyc f=0/\goesJ js ps cyc (wideJ js ps cyc f)=true/\∀F,wideJ js ps cyc f<F->F<=f->cyc%F=0->goesJ js ps cyc F=false
 | 0,h=>by simp[wideJ]at h
 | f+1,h=>by
  rw[wideJ]at h ⊢;split at h
  .rename_i hy;rw[if_pos hy];exact⟨Nat.le_refl _,hy.1,hy.2,fun F h1 h2=>by omega⟩
  .rename_i hn;rw[if_neg hn];obtain⟨a,b,c,d⟩:=wide_pos h;refine⟨by omega,b,c,fun F h1 h2 h3=>?_⟩;by_cases e:F=f+1
   .subst e
    cases hg:goesJ js ps cyc (f+1) with
    | false=>rfl
    | true=>exact absurd ⟨h3,hg⟩ hn
   .exact d F h1 (by omega) h3
section
open Go.RowKit
theorem pTask_name {l:List UInt8}{i:Nat}{t:Tk}{k:Nat}(h:pTask (zT l) i=.ok (t,k)):zB (t.nm.toNat:Int)=true:=by
 have hr:∀ {nm:UInt8} {P O q0 q1 q2 j:Nat},pRest (zT l) nm P O q0 q1 q2 j=.ok (t,k)->t.nm=nm:=fun h=>by
  unfold pRest at h
  repeat (split at h;rotate_left;simp at h)
  injection h with h;injection h with h1 h2;rw[←h1]
 unfold pTask at h;split at h
 .rename_i hn;have hl:=name_letter hn;split at h
  .split at h
   .split at h
    .split at h
     .rw[hr h];exact hl
     .simp at h
    .rw[hr h];exact hl
   .simp at h
  .simp at h
 .simp at h
theorem pTasks_name {l:List UInt8}:∀(f i:Nat) (ts:List Tk) (k:Nat),pTasks f (zT l) i=.ok (ts,k)->∀t∈ts,zB (t.nm.toNat:Int)=true
 | 0,i,ts,k,h=>by simp[pTasks]at h
 | f+1,i,ts,k,h=>by
  rw[pTasks]at h
  cases ht:pTask (zT l) i with
  | error e=>rw[ht]at h;simp at h
  | ok x=>
   obtain⟨t,j⟩:=x;rw[ht]at h;simp only at h;split at h
   .cases hr:pTasks f (zT l) (j+1) with
    | error e=>rw[hr]at h;simp at h
    | ok y=>
     obtain⟨ts',k'⟩:=y;rw[hr]at h;simp at h;obtain⟨rfl,rfl⟩:=h;intro t' ht';rcases List.mem_cons.1 ht' with rfl|h'
     .exact pTask_name ht
     .exact pTasks_name f (j+1) ts' k' hr t' h'
   .simp at h;obtain⟨rfl,rfl⟩:=h;intro t' ht';simp at ht';rw[ht'];exact pTask_name ht
theorem pSet_name {l:List UInt8}{ts:List Tk}{ps:List Pr}(h:pSet (zT l)=.ok (ts,ps)):∀t∈ts,zB (t.nm.toNat:Int)=true:=by
 unfold pSet at h
 cases h1:pFirst (zT l) with
 | error e=>rw[h1]at h;simp at h
 | ok x=>
  obtain⟨ts',j⟩:=x;rw[h1]at h;simp only at h
  cases h2:pPairs 6 (zT l) j with
  | error e=>rw[h2]at h;simp at h
  | ok y=>
   obtain⟨ps',k⟩:=y;rw[h2]at h;simp only at h;split at h
   .simp at h;obtain⟨rfl,rfl⟩:=h;unfold pFirst at h1;split at h1
    .exact pTasks_name _ _ _ _ h1
    .simp at h1
   .simp at h
def ReadOut2 (s:ByteArray) (w:World) (en:Ending) (w':World):Prop:=
  Below w.heap.size w w'/\
  ((400<s.size/\en=pan 1 0)\/
   (s.size<=400/\∃j,pSet (zT s.data.toList)=.error j/\en=pan 2 (tk (zT s.data.toList) j).at_)\/
   (s.size<=400/\∃l ps,pSet (zT s.data.toList)=.ok (l.map Prod.fst,ps)/\ZOk l/\
     ((∃f,checkR l ps=some f/\en=pan f.1 f.2)\/
      (checkR l ps=none/\∃g cap pa pc,en=.returned (.agg #[.slice (some ⟨g,0,none⟩) l.length cap,.slice pa ps.length pc])/\l.length<=cap/\g<w'.heap.size/\RowPT w' g l/\(0<ps.length->∃gp,pa=some ⟨gp,0,none⟩/\gp<w'.heap.size/\RowPP w' gp ps)/\∀gp,pa=some ⟨gp,0,none⟩->gp<w'.heap.size))))
theorem readSet_gp (s:ByteArray)(w:World)(hm:s.size<=9223372036854775807):
  Calls Tryz.prog 50 #[.string s] w (ReadOut2 s w):=by
 have hB0:=hide (zN w (.cells #[.slice none 0 0,.slice none 0 0] 84));have hX0:=hide (zW w #[.slice none 0 0,.slice none 0 0] 84);go_enter Tryz.func50,Tryz.ntmps50;by_cases hl:400<s.size
 .have hl':(400:Int)<s.size:=by omega
  go_wp2_with fail;refine(refuse_any 1 0 _ rfl _).mono ?_;rintro e w' ⟨rfl,rfl⟩;exact⟨rfl,hB0.out,.inl ⟨hl,rfl⟩⟩
 .have hl':¬(400:Int)<s.size:=by omega
  have hs4:s.size<=400:=by omega
  go_wp2_with fail;refine(parseSet_any s _ hs4).mono ?_;rintro e w1 ⟨hb1,hcase⟩;have hB1:=hB0.out.trans (hb1.mono (by simp));have hX1:=zK hX0.out hb1;rcases hcase with⟨j,hj,rfl⟩|⟨l,ps,tv,pv,hj,hz,rfl,ht,hp⟩
  .exact⟨rfl,hB1,.inr (.inl ⟨hs4,j,hj,rfl⟩)⟩
  obtain⟨b1,b2,b3,b4⟩:=pSet_bounds hj;have hn1:1<=l.length:=by simpa using b2
  have hn6:l.length<=6:=by simpa using b3
  obtain⟨g,cap,rfl,hg1,hg2⟩:=own_form ht (by omega);obtain⟨pa,pc,rfl⟩:=own_slice hp;have hcap:=own_cap ht;have hsm:Hid (∀k,k<l.length->(lk l k).1.small):=by
   intro k hk;rw[lk_fst];exact b1 _ (tsk_mem (by simpa using hk))
  have HR:=hide (rowPT_own ht);have HP:=hide (hpp_of hp);have Hgp:Hid (∀gp,pa=some ⟨gp,0,none⟩->gp<w1.heap.size):=fun gp e=>(hp.lt gp (by rw[e];rfl)).2;have hpne:Hid (pa≠some ⟨w.heap.size,0,none⟩):=by
   intro e;subst e;exact own_ge hp (k:=w.heap.size) (by simp) rfl
  have hgne:w.heap.size≠g:=by simp at hg1;omega
  have HB:=hide hB1;have HX:=hide hX1;have hsz:=hB1.size;have hxl:=zL hX1;have Hj:=hide hj;have Hz:=hide hz;clear hb1 hB1 hX1 ht hp hj hz b1 b2 b3;have x0:=zC HX.out;have xf:=zF HX.out;have hY:=hide (zW w1 #[.slice (some ⟨g,0,none⟩) l.length cap,.slice pa ps.length pc] 84);go_wp2_with fail;refine(check_any l ps g cap pa pc _ (by simp;omega) (HR.out.below (zN w1 _) hg2) hcap hn6 hsm.out Hz.out b4 (by
   intro hn;obtain⟨gp,e1,e2,e3⟩:=HP.out hn;exact⟨gp,e1,by simp;omega,e3.below (zN w1 _) e2⟩) _ rfl).mono ?_
  rintro e w2 ⟨hb2,hcase⟩;have hB2:=(HB.out.alloc hsz _).trans (hb2.mono (by simp;omega));rcases hcase with⟨f,hf,rfl⟩|⟨hf,rfl⟩
  .exact⟨rfl,hB2,.inr (.inr ⟨hs4,l,ps,Hj.out,Hz.out,.inl ⟨f,hf,rfl⟩⟩)⟩
  have hX2:w2.heap[w.heap.size]? =some (.cells #[.slice none 0 0,.slice none 0 0] 84 (0,0)):=by
   refine zK ?_ hb2;rw[Below.heap_alloc _ _ _ hxl];exact HX.out
  have hY2:=zK hY.out hb2;have x2:=zC hX2;have f2:=zF hX2;have y2:=zC hY2;have yl:=zL hY2;have hbn:=zN w1 (.cells #[.slice (some ⟨g,0,none⟩) l.length cap,.slice pa ps.length pc] 84);have hR2:=hide ((HR.out.below hbn hg2).below hb2 (by simp;omega));have hP2:Hid (0<ps.length->∃gp,pa=some ⟨gp,0,none⟩/\gp<w2.heap.size/\gp<w1.heap.size/\RowPP w2 gp ps):=by
   intro hn;obtain⟨gp,e1,e2,e3⟩:=HP.out hn;exact⟨gp,e1,by omega,e2,(e3.below hbn e2).below hb2 (by simp;omega)⟩
  have Hf:=hide hf;have HB2:=hide hB2;have HX2:=hide hX2;have hg3:g<w2.heap.size:=by omega
  clear hb2 hB2 hf hX2 hY2 hbn x0 xf HR HP;go_wp2;have hk:∀(k:Nat),w.heap.size≠k->∀u v,((w2.setCell ⟨w.heap.size,0,none⟩ u).setCell ⟨w.heap.size,1,none⟩ v).heap[k]? =w2.heap[k]? := by
   intro k hne u v;rw[Below.heap_setCell _ _ _ _ (fun e=>hne e.symm),Below.heap_setCell _ _ _ _ (fun e=>hne e.symm)]
  refine bodyPost_ret (v:=.agg #[.slice (some ⟨g,0,none⟩) l.length cap,.slice pa ps.length pc]) (by simp[results,Tryz.results50,go_sem,x2]) rfl ⟨?_,.inr (.inr ⟨hs4,l,ps,Hj.out,Hz.out,.inr ⟨Hf.out,g,cap,pa,pc,rfl,hcap,?_,hR2.out.keep (hk g hgne _ _),?_,fun gp e=>by rw[zH,zH];have:=Hgp.out gp e;omega⟩⟩)⟩
  .exact(HB2.out.setCell (Nat.le_refl _) _).setCell (Nat.le_refl _) _
  .rw[zH,zH];exact hg3
  .intro hn;obtain⟨gp,e1,e2,_,e4⟩:=hP2.out hn;subst e1;refine⟨gp,rfl,by rw[zH,zH];exact e2,e4.keep (hk gp ?_ _ _)⟩;intro e;exact hpne.out (by rw[e])
structure SetR (ts:List Tk) (ps:List Pr):Prop where
 tok:TsOk ts (cycI ts)
 prs:∀p∈ps,∃i j,PairT ts p i j
 len:ps.length<=6
 ltr:∀t∈ts,zB (t.nm.toNat:Int)=true
 n1:1<=ts.length
abbrev jsL (ts:List Tk):List Jb:=zJ (cycI ts) 0 ts
abbrev wideL (ts:List Tk) (ps:List Pr):Nat:=wideJ (jsL ts) ps (cycI ts) (cycI ts)
abbrev tabL (ts:List Tk) (ps:List Pr):Tb:=tabJ (jsL ts) ps (cycI ts) (wideL ts ps)
theorem tab_right {ts:List Tk}{ps:List Pr}(h:SetR ts ps)(hw:0<wideL ts ps):ChkOk (tabL ts ps):=by
 obtain⟨w1,w2,w3,w4⟩:=wide_pos hw;refine⟨plan_sound (jobs_of h.tok) h.tok.c1 h.tok.c2 hw w2 w3,fun f hf s hs=>?_⟩;unfold tabJ at hf;obtain⟨f0,hf0,rfl⟩:=List.mem_map.1 hf;obtain⟨x,hx,rfl⟩:=List.mem_map.1 hs;obtain⟨i,hi,e⟩:=List.getElem_of_mem hf0;obtain⟨a1,a2,a3⟩:=plan_ok (jsL ts) ps (wideL ts ps) (cycI ts/wideL ts ps) 0 (costJ (jsL ts));have hlt:x.1<(jsL ts).length:=by
  have h3:=sch_at a1 i hi;rw[←e]at hx;exact(h3.each x hx).1
 show zB ((jk (jsL ts) x.1).ltr.toNat:Int)=true;have hm:jk (jsL ts) x.1∈jsL ts:=by rw[jk_get hlt];exact List.getElem_mem _
 obtain⟨q,hq,n,_,e2⟩:=(jobsL_mem _ _ _ _).1 hm;rw[e2];exact h.ltr _ (List.getElem_mem _)
def compE (l:List UInt8) (f:Nat×Nat):Prop:=knownR l=.error f\/∃ts ps,knownR l=.ok (ts,ps)/\SetR ts ps/\wideL ts ps=0/\f=(whyJ (jsL ts) (cycI ts),0)
def compR (l x:List UInt8):Prop:=∃ts ps,knownR l=.ok (ts,ps)/\SetR ts ps/\0<wideL ts ps/\x=packB (tabL ts ps)
theorem compile1_any (s:ByteArray)(b:Nat)(w:World)(hm:s.size<=9223372036854775807)(hc:w.cell? ⟨b,0,none⟩=some (.string s)):
  Calls Tryz.prog 49 #[.pointer (some ⟨b,0,none⟩)] w (WorkOut (compE s.data.toList) (compR s.data.toList) w):=by
 go_enter Tryz.func49,Tryz.ntmps49;go_wp2_with fail;refine(readSet_gp s _ hm).mono ?_;rintro e w1 ⟨hb1,hcase⟩;have hsz:s.data.toList.length=s.size:=by simp
 rcases hcase with⟨h1,rfl⟩|⟨h1,j,h2,rfl⟩|⟨h1,l,ps,h2,h3,⟨f,h4,rfl⟩|⟨h4,g,cap,pa,pc,rfl,h5,h6,h7,h8,h9⟩⟩
 .refine⟨rfl,hb1,.inl ⟨(1,0),.inl ?_,rfl⟩⟩;unfold knownR;rw[if_pos (by omega)]
 .refine⟨rfl,hb1,.inl ⟨(2,(tk (zT s.data.toList) j).at_),.inl ?_,rfl⟩⟩;unfold knownR;rw[if_neg (by omega),h2]
 .exact⟨rfl,hb1,.inl ⟨f,.inl (knownR_some (by omega) h2 h4),rfl⟩⟩
 .obtain⟨b1,b2,b3,b4⟩:=pSet_bounds h2;have hn6:l.length<=6:=by simpa using b3
  obtain⟨r1,r2,r3⟩:=check_right h4 hn6 b4;have HK:=hide (knownR_none (by omega) h2 h4);have HSR:Hid (SetR (l.map Prod.fst) ps):=⟨r1,r3,b4,pSet_name h2,b2⟩;have hSA:SetAt l (cycI (l.map Prod.fst)) g pa ps w1:=⟨h6,h7,hn6,r1,rfl,r2,h8,h9⟩;have CP:=hide (compile_any l (cycI (l.map Prod.fst)) g cap pa pc ps w1 hSA);have HB:=hide hb1;clear hSA h2 h3 h4 hb1 b1 b2 b3 b4 h5 h6 h7 h8 h9 r1 r2 r3 hn6;go_wp2_with fail;refine CP.out.mono ?_;rintro e w2 ⟨hb2,hcase⟩;have HB2:=hide (HB.out.trans (hb2.mono HB.out.size));clear hb2 CP;rcases hcase with⟨h0,rfl⟩|⟨h0,Pf,a,c,rfl,hF,hfs⟩
  .exact⟨rfl,HB2.out,.inl ⟨_,.inr ⟨_,ps,HK.out,HSR.out,h0,rfl⟩,rfl⟩⟩
  .have hch:=tab_right HSR.out h0;have hpk:=pack_any (tabL (l.map Prod.fst) ps) a c w2 (by have:=fvA_own hF;rw[hfs]at this;exact this) hch.1;have hPf:(tabL (l.map Prod.fst) ps).fs.length=Pf.length:=by rw[←hfs];simp
   rw[hPf]at hpk;have Hpk:=hide hpk;have hR:Hid (compR s.data.toList (packB (tabL (l.map Prod.fst) ps))):=⟨_,ps,HK.out,HSR.out,h0,rfl⟩;clear hpk hch hPf hF hfs;go_wp2_with fail;refine Hpk.out.mono ?_;rintro e w3 ⟨rfl,hb3⟩;have HB3:=hide (HB2.out.trans (hb3.mono HB2.out.size));have hpb:Hid (bs (bodyB (tabL (l.map Prod.fst) ps)++sumL (bodyB (tabL (l.map Prod.fst) ps)))=bs (packB (tabL (l.map Prod.fst) ps))):=rfl;generalize bs (bodyB (tabL (l.map Prod.fst) ps)++sumL (bodyB (tabL (l.map Prod.fst) ps)))=RR at *;clear hb3 Hpk;go_wp2;go_ret;exact⟨HB3.out,.inr ⟨_,hR.out,by rw[←hpb.out];rfl⟩⟩
theorem guard_compile (own:Nat)(ev:Int)(hev:ev=own)(b:Nat)(w:World)(E:Nat×Nat->Prop)(R:List UInt8->Prop)
  (hw:∀W,Below w.heap.size w W->Calls Tryz.prog 49 #[.pointer (some ⟨b,0,none⟩)] W (WorkOut E R W)):
  Calls Tryz.prog 30 #[.int .i64 ev,.func (.func 49) #[] #[.pointer (some ⟨b,0,none⟩)]] w (GOutG E R w):=by
 subst hev;have hmf:∀(fn:Fn) (first cap:Array Value) (w:World),(Instr.makeFunc fn first cap).run Tryz.prog w=.ok (.func fn first cap) w:=fun _ _ _ _=>rfl;have HN:=hide (G3.new w own);have HO:=hide (own_new w own);have HB0:=hide (below_four w (.cells #[.int .i64 own] 28) (.cells #[.string ⟨#[]⟩] 9) (.cells #[.int .i64 0] 28) (.cells #[.int .i64 0] 3));have Hw:=hide hw;clear hw
 go_enter_defers Tryz.func30,Tryz.ntmps30
 go_wp2_with fail;generalize (((w.alloc (.cells #[.int .i64 own] 28)).alloc (.cells #[.string ⟨#[]⟩] 9)).alloc (.cells #[.int .i64 0] 28)).alloc (.cells #[.int .i64 0] 3)=W at *;refine(Hw.out W HB0.out).mono ?_;rintro e w1 ⟨hb1,hcase⟩;have HG1:=hide (HN.out.keep hb1);have HO1:=hide (blk_kept HO.out hb1);have HB1:=hide (HB0.out.trans (hb1.mono HB0.out.size));clear hb1;rcases hcase with⟨f,hf,rfl⟩|⟨x,hR,rfl⟩
 .refine leaves_cons (f:=63) (args:=#[.pointer (some ⟨w.heap.size,0,none⟩),.pointer (some ⟨w.heap.size+1,0,none⟩),.pointer (some ⟨w.heap.size+1+1,0,none⟩),.pointer (some ⟨w.heap.size+1+2,0,none⟩)]) (by simp) (by simp[go_sem]) ?_;refine(catch_panicking w.heap.size own (w.heap.size+1) f.1 f.2 w1 (by rw[zC HO1.out];rfl) HG1.out).mono ?_;rintro e u' w'' ⟨rfl,rfl,hG,hB⟩;have c0:=zC hG.h0;have c1:=zC hG.h1;have c2:=zC hG.h2;simp[Leaves,settle,results,Tryz.results30,go_sem,c0,c1,c2];exact⟨HB1.out.trans (hB.mono (Nat.le_succ _)),.inl ⟨f,hf,rfl⟩⟩
 .have a0:=zC HG1.out.h0;have a1:=zC HG1.out.h1;have a2:=zC HG1.out.h2;have f0:=zF HG1.out.h0;have f1:=zF HG1.out.h1;have f2:=zF HG1.out.h2;have HR:=hide hR;clear hR;go_wp2;refine leaves_cons (f:=63) (args:=#[.pointer (some ⟨w.heap.size,0,none⟩),.pointer (some ⟨w.heap.size+1,0,none⟩),.pointer (some ⟨w.heap.size+1+1,0,none⟩),.pointer (some ⟨w.heap.size+1+2,0,none⟩)]) (by simp) (by simp[go_sem]) ?_;refine(catch_idle _ _ _ _ _).mono ?_;rintro e u' w'' ⟨rfl,rfl,rfl⟩;have hG:G3 (((w1.setCell ⟨w.heap.size+1,0,none⟩ (.string (bs x))).setCell ⟨w.heap.size+1+1,0,none⟩ (.int .i64 0)).setCell ⟨w.heap.size+1+2,0,none⟩ (.int .i64 0)) (w.heap.size+1) (bs x) 0 0:=HG1.out.set (bs x) 0 0;have HB:=((HB1.out.setCell (p:=⟨w.heap.size+1,0,none⟩) (Nat.le_add_right _ _) (.string (bs x))).setCell (p:=⟨w.heap.size+1+1,0,none⟩) (Nat.le_trans (Nat.le_succ _) (Nat.le_succ _)) (.int .i64 0)).setCell (p:=⟨w.heap.size+1+2,0,none⟩) (Nat.le_trans (Nat.le_succ _) (Nat.le_add_right _ _)) (.int .i64 0);generalize ((w1.setCell ⟨w.heap.size+1,0,none⟩ (.string (bs x))).setCell ⟨w.heap.size+1+1,0,none⟩ (.int .i64 0)).setCell ⟨w.heap.size+1+2,0,none⟩ (.int .i64 0)=w2 at *;have c0:=zC hG.h0;have c1:=zC hG.h1;have c2:=zC hG.h2;simp[Leaves,settle,results,Tryz.results30,go_sem,c0,c1,c2];exact⟨HB,.inr ⟨x,HR.out,rfl⟩⟩
theorem compile_out (s:ByteArray)(w:World)(hm:s.size<=9223372036854775807):
  Calls Tryz.prog 26 #[.string s] w (GOutG (compE s.data.toList) (compR s.data.toList) w):=by
 have hmf:∀(fn:Fn) (first cap:Array Value) (w:World),(Instr.makeFunc fn first cap).run Tryz.prog w=.ok (.func fn first cap) w:=fun _ _ _ _=>rfl;have hX:=zC (zW w #[.string s] 9) 0;have HB0:=hide (zN w (.cells #[.string s] 9));go_enter Tryz.func26,Tryz.ntmps26;go_wp2_with fail;refine(guard_compile 2 _ rfl w.heap.size _ (compE s.data.toList) (compR s.data.toList) (fun W hW=>compile1_any s w.heap.size W hm ((hW.cell (p:=⟨w.heap.size,0,none⟩) (by simp)).trans hX))).mono ?_;rintro e w1 ⟨hb1,hcase⟩;have HB:=hide (HB0.out.trans (hb1.mono (by simp)));clear hb1 hX;rcases hcase with⟨f,hf,rfl⟩|⟨R,hR,rfl⟩
 .have Hf:=hide hf;clear hf;go_wp2
  go_ret3
  exact⟨HB.out,.inl ⟨f,Hf.out,rfl⟩⟩
 .have HR:=hide hR;clear hR;go_wp2
  go_ret3
  exact⟨HB.out,.inr ⟨R,HR.out,rfl⟩⟩
end
def freeJ (js:List Jb) (ps:List Pr) (left:Nat->Nat) (k:Nat):Bool:=!(ps.any (holdsN js left k))
def bestJ (js:List Jb) (ps:List Pr) (left:Nat->Nat) (t:Nat):Option Nat:=leastB (keyJ js) ((List.range js.length).filter fun k=>rdyJ js left t k&&freeJ js ps left k)
def greedyJ (js:List Jb) (ps:List Pr):Nat->Nat->(Nat->Nat)->Bool
 | 0,_,left=>allJ js left
 | n+1,t,left=>match bestJ js ps left t with
  | none=>greedyJ js ps n (t+1) left
  | some k=>if (jk js k).dl<=t then false else greedyJ js ps n (t+1) (updL left k (left k-1))
theorem best_some {js:List Jb}{ps:List Pr}{left:Nat->Nat}{t k:Nat}(h:bestJ js ps left t=some k):k<js.length/\(jk js k).rel<=t/\0<left k/\freeJ js ps left k=true/\∀j,j<js.length->(jk js j).rel<=t->0<left j->freeJ js ps left j=true->keyJ js k<=keyJ js j:=by
 obtain⟨h1,h2⟩:=leastB_some h;simp only[List.mem_filter,List.mem_range,rdyJ,Bool.and_eq_true,decide_eq_true_eq]at h1 h2;exact⟨h1.1,h1.2.1.1,h1.2.1.2,h1.2.2,fun j a b c d=>h2 j ⟨a,⟨b,c⟩,d⟩⟩
theorem best_none {js:List Jb}{ps:List Pr}{left:Nat->Nat}{t:Nat}(h:bestJ js ps left t=none):∀j,j<js.length->(jk js j).rel<=t->0<left j->freeJ js ps left j=false:=by
 have h1:=leastB_none h;intro j a b c;have h2:j ∉ (List.range js.length).filter fun k=>rdyJ js left t k&&freeJ js ps left k:=by rw[h1];simp
 simp only[List.mem_filter,List.mem_range,rdyJ,Bool.and_eq_true,decide_eq_true_eq]at h2
 cases hm:freeJ js ps left j with
 | false=>rfl
 | true=>exact absurd ⟨a,⟨b,c⟩,hm⟩ h2
theorem may_free (js:List Jb)(ps:List Pr)(left:Nat->Nat)(e k:Nat):mayJ js ps left e k=(decide (e<=(jk js k).dl)&&freeJ js ps left k):=rfl
theorem fill_unit (js:List Jb)(ps:List Pr)(t:Nat)(left:Nat->Nat):(fillJ js ps t (t+1) 1 t left).2=match pickJ js ps left t (t+1) with
  | none=>left
  | some k=>updL left k (left k-min (left k) 1):=by
 rw[fillJ,if_pos (by omega)]
 cases hp:pickJ js ps left t (t+1) with
 | none=>rfl
 | some k=>
  simp only;rw[show t+1-t=1 by omega];rfl
theorem late_stays {js:List Jb}{ps:List Pr}{n t:Nat}{left:Nat->Nat}{k:Nat}(h:(jk js k).dl<=t):(planJ js ps 1 n t left).2 k=left k:=by
 obtain⟨a1,a2,a3⟩:=plan_ok js ps 1 n t left;have h1:=a2 k;rcases Nat.eq_zero_or_pos (gvF k (planJ js ps 1 n t left).1) with h0|h0
 .omega
 .obtain⟨i,hi,x,hx,e⟩:=gvF_pos h0;have h2:=(sch_at a1 i hi).each x hx;rw[e]at h2;omega
theorem greedy_plan {js:List Jb}{ps:List Pr}{cyc:Nat}(hj:JsOk js cyc):∀(n t:Nat) (left:Nat->Nat),greedyJ js ps n t left=allJ js (planJ js ps 1 n t left).2
 | 0,t,left=>rfl
 | n+1,t,left=>by
  rw[greedyJ];have hpl:(planJ js ps 1 (n+1) t left).2=(planJ js ps 1 n (t+1) (fillJ js ps t (t+1) 1 t left).2).2:=rfl
  cases hb:bestJ js ps left t with
  | none=>
   simp only;have hp:pickJ js ps left t (t+1)=none:=by
    cases hp:pickJ js ps left t (t+1) with
    | none=>rfl
    | some k=>
     obtain⟨p1,p2,p3,p4,p5,p6⟩:=pick_some hp;rw[may_free,best_none hb k p1 p2 p3]at p4;simp at p4
   rw[greedy_plan hj n (t+1) left,hpl,fill_unit,hp]
  | some k=>
   simp only;obtain⟨b1,b2,b3,b4,b5⟩:=best_some hb;by_cases hl:(jk js k).dl<=t
   .rw[if_pos hl];symm;have h2:=late_stays (ps:=ps) (n:=n+1) (left:=left) hl
    cases ha:allJ js (planJ js ps 1 (n+1) t left).2 with
    | false=>rfl
    | true=>
     unfold allJ at ha;rw[List.all_eq_true]at ha;have:=ha k (by simpa using b1);rw[h2]at this;simp at this;omega
   .rw[if_neg hl];have hp:pickJ js ps left t (t+1)=some k:=by
     cases hp:pickJ js ps left t (t+1) with
     | none=>
      have:=pick_none hp k b1 b2 b3;rw[may_free,b4,decide_eq_true (by omega)]at this;simp at this
     | some i=>
      obtain⟨p1,p2,p3,p4,p5,p6⟩:=pick_some hp;have h3:=p6 k b1 b2 b3 (by rw[may_free,b4,decide_eq_true (by omega)];rfl);rw[may_free,Bool.and_eq_true]at p4;have h4:=b5 i p1 p2 p3 p4.2;rw[hj.key p1 b1 (by omega)]
    rw[greedy_plan hj n (t+1) _,hpl,fill_unit,hp];simp only;rw[show min (left k) 1=1 by omega]
theorem greedy_goes {js:List Jb}{ps:List Pr}{cyc:Nat}(hj:JsOk js cyc):greedyJ js ps cyc 0 (costJ js)=goesJ js ps cyc 1:=by
 rw[greedy_plan hj];unfold goesJ runJ;rw[Nat.div_one]
def PickOk (js:List Jb) (ps:List Pr):(Nat->Nat)->List (Nat×Nat)->Prop
 | _,[]=>True
 | left,x::r=>freeJ js ps left x.1=true/\PickOk js ps (updL left x.1 (left x.1-x.2)) r
theorem pickOk_app {js:List Jb}{ps:List Pr}:∀ {a b:List (Nat×Nat)} {left:Nat->Nat},PickOk js ps left a->PickOk js ps (fun k=>left k-gvn k a) b->PickOk js ps left (a++b)
 | [],b,left,_,h=>by simpa [gvn] using h
 | x::r,b,left,h1,h2=>by
  refine⟨h1.1,pickOk_app h1.2 ?_⟩;have:(fun k=>updL left x.1 (left x.1-x.2) k-gvn k r)=fun k=>left k-gvn k (x::r):=by
   funext k;unfold updL;rw[gvn];by_cases e:k=x.1
   .subst e;rw[if_pos rfl,if_pos rfl];omega
   .rw[if_neg e,if_neg (fun h=>e h.symm),Nat.zero_add]
  rw[this];exact h2
theorem fill_pick (js:List Jb)(ps:List Pr)(s e:Nat):∀(f a:Nat) (left:Nat->Nat),PickOk js ps left (fillJ js ps s e f a left).1
 | 0,a,left=>by rw[fillJ];trivial
 | f+1,a,left=>by
  rw[fillJ];by_cases ha:a<e
  .rw[if_pos ha]
   cases hp:pickJ js ps left s e with
   | none=>trivial
   | some k=>
    obtain⟨p1,p2,p3,p4,p5,p6⟩:=pick_some hp;rw[may_free,Bool.and_eq_true]at p4;exact⟨p4.2,fill_pick js ps s e f _ _⟩
  .rw[if_neg ha];trivial
theorem plan_pick (js:List Jb)(ps:List Pr)(fr:Nat):∀(n s:Nat) (left:Nat->Nat),PickOk js ps left (planJ js ps fr n s left).1.flatten
 | 0,s,left=>by rw[planJ];trivial
 | n+1,s,left=>by
  rw[planJ];simp only[List.flatten_cons];refine pickOk_app (fill_pick js ps s (s+fr) fr s left) ?_;have h:=plan_pick js ps fr n (s+fr) (fillJ js ps s (s+fr) fr s left).2;have:(fillJ js ps s (s+fr) fr s left).2=fun k=>left k-gvn k (fillJ js ps s (s+fr) fr s left).1:=by
   funext k;have:=(fill_ok js ps s (s+fr) fr s left).2.1 k;omega
  rw[this]at h;rw[this];exact h
theorem pick_at {js:List Jb}{ps:List Pr}:∀ {P:List (Nat×Nat)} {left:Nat->Nat},PickOk js ps left P->∀q (h:q<P.length),freeJ js ps (fun k=>left k-gvn k (P.take q)) P[q].1=true
 | x::r,left,h,0,_=>by simpa [gvn] using h.1
 | x::r,left,h,q+1,hq=>by
  have ih:=pick_at h.2 q (by simpa using hq);have:(fun k=>updL left x.1 (left x.1-x.2) k-gvn k (r.take q))=fun k=>left k-gvn k ((x::r).take (q+1)):=by
   funext k;unfold updL;rw[List.take_succ_cons,gvn];by_cases e:k=x.1
   .subst e;rw[if_pos rfl,if_pos rfl];omega
   .rw[if_neg e,if_neg (fun h=>e h.symm),Nat.zero_add]
  rw[this]at ih;simpa using ih
theorem gvn_app (k:Nat):∀(a b:List (Nat×Nat)),gvn k (a++b)=gvn k a+gvn k b
 | [],b=>by simp[gvn]
 | x::r,b=>by rw[List.cons_append,gvn,gvn,gvn_app k r b];omega
theorem gvF_flat (k:Nat):∀(fs:List (List (Nat×Nat))),gvF k fs=gvn k fs.flatten
 | []=>rfl
 | f::r=>by rw[gvF,List.flatten_cons,gvn_app,gvF_flat k r]
theorem gvn_ge {k:Nat}{x:Nat×Nat}:∀ {f:List (Nat×Nat)},x∈f->x.1=k->x.2<=gvn k f
 | y::r,h,e=>by
  rw[gvn];rcases List.mem_cons.1 h with rfl|h
  .rw[if_pos e];omega
  .have:=gvn_ge h e;omega
section
variable {js:List Jb} {ps:List Pr} {cyc F:Nat}
structure Flat (js:List Jb) (ps:List Pr) (F:Nat) (P:List (Nat×Nat)) (L:List FSl):Prop where
 len:L.length=P.length
 is:∀q (h:q<P.length),P[q].1<js.length/\(fsk L q).2=⟨(jk js P[q].1).ltr,(jk js P[q].1).num,P[q].2⟩/\(jk js P[q].1).rel<=(fsk L q).1*F/\((fsk L q).1+1)*F<=(jk js P[q].1).dl/\1<=P[q].2
 free:∀q (h:q<P.length),freeJ js ps (fun k=>(jk js k).cost-gvn k (P.take q)) P[q].1=true
 all:∀k,k<js.length->gvn k P=(jk js k).cost
theorem flat_get (js:List Jb):∀(fs:List (List (Nat×Nat))) (j q:Nat) (h:q<fs.flatten.length),∃i,∃hi:i<fs.length,fs.flatten[q]∈fs[i]/\fsk (zX j (fs.map (outJ js))) q=(j+i,⟨(jk js fs.flatten[q].1).ltr,(jk js fs.flatten[q].1).num,fs.flatten[q].2⟩)
 | [],j,q,h=>by simp at h
 | f::r,j,q,h=>by
  by_cases hq:q<f.length
  .refine⟨0,by simp,?_,?_⟩
   .simp only[List.flatten_cons,List.getElem_append_left hq,List.getElem_cons_zero];exact List.getElem_mem _
   .simp only[List.map_cons,zX,List.flatten_cons];unfold fsk;rw[List.getD_eq_getElem?_getD,List.getElem?_append_left (by simpa [outJ] using hq),List.getElem_append_left hq];simp[outJ,hq]
  .have hq2:q-f.length<r.flatten.length:=by rw[List.flatten_cons,List.length_append]at h;omega
   obtain⟨i,hi,h1,h2⟩:=flat_get js r (j+1) (q-f.length) hq2;refine⟨i+1,by simp;omega,?_,?_⟩
   .simp only[List.flatten_cons,List.getElem_append_right (by omega:f.length<=q),List.getElem_cons_succ];exact h1
   .simp only[List.map_cons,zX,List.flatten_cons];unfold fsk at h2 ⊢;rw[List.getD_eq_getElem?_getD,List.getElem?_append_right (by simp[outJ];omega),List.getElem_append_right (by omega)];rw[List.getD_eq_getElem?_getD]at h2;simp only[List.length_map,outJ]at h2 ⊢;rw[h2,show j+1+i=j+(i+1) by omega]
theorem flat_plan (hg:goesJ js ps cyc F=true):Flat js ps F (runJ js ps cyc F).1.flatten (zX 0 (tabJ js ps cyc F).fs):=by
 unfold goesJ at hg;unfold tabJ;obtain⟨a1,a2,a3⟩:=plan_ok js ps F (cyc/F) 0 (costJ js);have a4:=plan_pick js ps F (cyc/F) 0 (costJ js);unfold runJ at *;generalize planJ js ps F (cyc/F) 0 (costJ js)=r at *;have hdone:∀k,k<js.length->r.2 k=0:=fun k hk=>by
  unfold allJ at hg;rw[List.all_eq_true]at hg;have:=hg k (by simpa using hk);simpa using this
 refine⟨?_,?_,?_,?_⟩
 .rw[flatF_len];show (r.1.map (outJ js)).flatten.length=_;simp[List.length_flatten,outJ,Function.comp_def]
 .intro q hq;obtain⟨i,hi,h1,h2⟩:=flat_get js r.1 0 q hq;have h3:=(sch_at a1 i hi).each _ h1;rw[h2];rw[Nat.zero_add]at h3 ⊢;refine⟨h3.1,rfl,h3.2.1,?_,h3.2.2.2⟩;rw[Nat.succ_mul];exact h3.2.2.1
 .intro q hq;exact pick_at a4 q hq
 .intro k hk;rw[←gvF_flat];have h2:=a2 k;have h3:=hdone k hk;unfold costJ at h2;omega
variable {P:List (Nat×Nat)} {L:List FSl}
theorem Flat.of (h:Flat js ps F P L)(hj:JsOk js cyc){k:Nat}(hk:k<js.length){q:Nat}(hq:q<P.length):isOf (fsk L q) (jk js k).ltr (jk js k).num↔P[q].1=k:=by
 obtain⟨h1,h2,_⟩:=h.is q hq;unfold isOf;rw[h2];constructor
 .rintro ⟨a,b⟩;exact hj.one _ _ h1 hk a b
 .intro e;rw[e];exact⟨rfl,rfl⟩
theorem Flat.cost (h:Flat js ps F P L)(hj:JsOk js cyc){k:Nat}(hk:k<js.length):∀q,q<=P.length->(spotTo L (jk js k).ltr (jk js k).num q).cost=gvn k (P.take q)
 | 0,_=>by simp[spotTo,gvn]
 | q+1,hq=>by
  have ih:=h.cost hj hk q (by omega);have ho:=h.of hj hk (q:=q) (by omega);rw[List.take_succ_eq_append_getElem (by omega),gvn_app,gvn,gvn];by_cases e:P[q].1=k
  .rw[spotTo_yes (ho.2 e),if_pos e];show (spotTo L (jk js k).ltr (jk js k).num q).cost+(fsk L q).2.bud=_;rw[ih,(h.is q (by omega)).2.1];show _+P[q].2=_;omega
  .rw[spotTo_no (fun h=>e (ho.1 h)),if_neg e,ih];omega
theorem Flat.spot (h:Flat js ps F P L)(hj:JsOk js cyc){k:Nat}(hk:k<js.length):∃a b:Nat,∃ha:a<P.length,∃hb:b<P.length,(spotL L (jk js k).ltr (jk js k).num)=⟨a,b,(jk js k).cost⟩/\P[a].1=k/\P[b].1=k/\a<=b/\∀q (hq:q<P.length),P[q].1=k->a<=q/\q<=b:=by
 have hl:=h.len;have hc:=h.cost hj hk P.length (Nat.le_refl _);rw[List.take_length,h.all k hk]at hc;have hof:=fun q (hq:q<P.length)=>h.of hj hk hq;have hgk:0<gvn k P:=by rw[h.all k hk];exact hj.cost k hk
 obtain⟨x,hx,ex⟩:=gvn_pos hgk;obtain⟨q0,hq0,e0⟩:=List.getElem_of_mem hx;have hin:=spotTo_in L (jk js k).ltr (jk js k).num L.length;unfold spotL;rw[←hl]at hc;rcases spotTo_fst L (jk js k).ltr (jk js k).num L.length with⟨_,h2⟩|⟨a,h1,h2,h3,h4⟩
 .exact absurd ((hof q0 hq0).2 (by rw[e0];exact ex)) (h2 q0 (by omega))
 .obtain⟨l1,l2⟩:=lst_spec L (jk js k).ltr (jk js k).num L.length;rcases l2 with l2|⟨b,b1,b2,b3⟩
  .omega
  .refine⟨a,b,by omega,by omega,?_,(hof a (by omega)).1 h3,(hof b (by omega)).1 b3,by omega,fun q hq e=>?_⟩
   .cases hs:spotTo L (jk js k).ltr (jk js k).num L.length with
    | mk x y z=>
     rw[hs]at h1 b1 hc;simp only at h1 b1 hc;rw[h1,b1,hc]
   .have hq2:=(hof q hq).2 e;refine⟨?_,?_⟩
    .rcases Nat.lt_or_ge q a with h5|h5
     .exact absurd hq2 (h4 q h5)
     .exact h5
    .have:=l1 q (by omega) hq2;omega
theorem free_pair {left:Nat->Nat}{k:Nat}{p:Pr}(hp:p∈ps)(h:freeJ js ps left k=true):holdsN js left k p=false:=by
 unfold freeJ at h
 cases hh:holdsN js left k p with
 | false=>rfl
 | true=>
  have:ps.any (holdsN js left k)=true:=List.any_eq_true.2 ⟨p,hp,hh⟩;rw[this]at h;simp at h
theorem gvn_split (k:Nat)(P:List (Nat×Nat))(q:Nat):gvn k (P.take q)+gvn k (P.drop q)=gvn k P:=by
 rw[←gvn_app,List.take_append_drop]
theorem Flat.before (h:Flat js ps F P L)(hj:JsOk js cyc){p:Pr}(hp:p∈ps)(hap:p.ap=false){i k:Nat}(hi:i<js.length)(hk:k<js.length)(hil:(jk js i).ltr=p.a)(hkl:(jk js k).ltr=p.b)(hn:(jk js i).num=(jk js k).num):
  ∀q q' (hq:q<P.length) (hq':q'<P.length),P[q].1=k->P[q'].1=i->q'<q:=by
 intro q q' hq hq' e e';have h1:=free_pair hp (h.free q hq);unfold holdsN at h1;rw[if_pos hap,e,hkl]at h1;simp only[beq_self_eq_true,Bool.true_and,Bool.not_eq_false']at h1;unfold doneN at h1;rw[List.all_eq_true]at h1;have h2:=h1 i (by simpa using hi);rw[hil,hn]at h2;simp at h2;have h3:=gvn_split i P q;rw[h.all i hi]at h3;rcases Nat.lt_or_ge q' q with h4|h4
 .exact h4
 .exfalso;have hm:P[q']∈P.drop q:=by
   rw[List.mem_iff_getElem];exact⟨q'-q,by simp;omega,by simp[show q+(q'-q)=q' by omega]⟩
  have h5:=gvn_ge hm e';have h6:=(h.is q' hq').2.2.2.2;omega
theorem Flat.apart (h:Flat js ps F P L)(hj:JsOk js cyc){p:Pr}(hp:p∈ps)(hap:p.ap=true){i k:Nat}(hi:i<js.length)(hk:k<js.length)(hne:p.a≠p.b)(hl:((jk js i).ltr=p.a/\(jk js k).ltr=p.b)\/((jk js i).ltr=p.b/\(jk js k).ltr=p.a)):
  ∀a q b (ha:a<P.length) (hq:q<P.length) (hb:b<P.length),a<q->q<b->P[a].1=i->P[b].1=i->P[q].1≠k:=by
 intro a q b ha hq hb h1 h2 ea eb ek;have hf:=free_pair hp (h.free q hq);have hbusy:busyN js (fun k=>(jk js k).cost-gvn k (P.take q)) (jk js i).ltr=true:=by
  unfold busyN;rw[List.any_eq_true];refine⟨i,by simpa using hi,?_⟩;have h3:=gvn_split i P q;rw[h.all i hi]at h3;have hm1:P[a]∈P.take q:=by
   rw[List.mem_iff_getElem];exact⟨a,by simp;omega,by simp⟩
  have hm2:P[b]∈P.drop q:=by
   rw[List.mem_iff_getElem];exact⟨b-q,by simp;omega,by simp[show q+(b-q)=b by omega]⟩
  have h5:=gvn_ge hm1 ea;have h6:=gvn_ge hm2 eb;have h7:=(h.is a ha).2.2.2.2;have h8:=(h.is b hb).2.2.2.2;simp;omega
 unfold holdsN at hf;rw[if_neg (by rw[hap];simp),ek]at hf;rcases hl with⟨l1,l2⟩|⟨l1,l2⟩
 .rw[l2,if_neg (fun e=>hne e.symm),if_pos rfl,←l1,hbusy]at hf;simp at hf
 .rw[l2,if_pos rfl,←l1,hbusy]at hf;simp at hf
end
end Go.Proofs.YtbdffcjganlblaaGreatDoor
