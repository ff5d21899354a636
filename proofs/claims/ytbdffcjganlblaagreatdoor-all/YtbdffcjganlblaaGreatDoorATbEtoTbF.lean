import Derived.Test.YtbdffcjganlblaaGreatDoorATbAtoTbD
import Derived.Test.YtbdffcjganlblaaGreatDoorATabBtoRefQ
import Derived.Test.YtbdffcjganlblaaGreatDoorAPrBtoPrD
import Derived.Deep.DeepCutAuto
import Derived.Deep.RegionWith
import Derived.RegionDies
set_option linter.unusedVariables false
set_option linter.unusedSimpArgs false
set_option maxRecDepth 100000
set_option maxHeartbeats 16000000
namespace Go.Proofs.YtbdffcjganlblaaGreatDoor
section
open Go.RowKit
def slk (f:List Sl) (k:Nat):Sl:=f.getD k ⟨0,0,0⟩
def frk (fs:List (List Sl)) (j:Nat):List Sl:=fs.getD j []
theorem slk_eq {f:List Sl}{k:Nat}(h:k<f.length):f[k]=slk f k:=by simp[slk,List.getD_eq_getElem?_getD,h]
theorem frk_eq {fs:List (List Sl)}{j:Nat}(h:j<fs.length):fs[j]=frk fs j:=by simp[frk,List.getD_eq_getElem?_getD,h]
def RowS (w:World) (g:Nat) (f:List Sl):Prop:=∀k,k<f.length->
 w.cell? ⟨g,k*3,none⟩=some (.int .u8 (slk f k).nm.toNat)/\w.cell? ⟨g,k*3+1,none⟩=some (.int .i64 (slk f k).job)/\w.cell? ⟨g,k*3+2,none⟩=some (.int .i64 (slk f k).bud)
theorem slPs_get (T:List Sl):∀(j:Nat),j<T.length->∀o,o<3->(slPs T)[j*3+o]? =(slP (slk T j))[o]? := by
 induction T with
 | nil=>intro j h;simp at h
 | cons t r ih=>
  intro j hj o ho;have e:slPs (t::r)=slP t++slPs r:=rfl;have el:(slP t).length=3:=rfl
  cases j with
  | zero=>rw[e,List.getElem?_append_left (by omega)];simp[slk]
  | succ j=>
   have:=ih j (by simpa using hj) o ho;rw[e,List.getElem?_append_right (by omega),el,show (j+1)*3+o-3=j*3+o by omega,this];simp[slk]
theorem rowS_own {w:World}{base g cap:Nat}{l:List Sl}(h:w.ownsRow base 106 3 (.slice (some ⟨g,0,none⟩) l.length cap) l.length (slPs l)):RowS w g l:=by
 intro k hk;have e:∀o,o<3->w.cell? ⟨g,k*3+o,none⟩=(slP (slk l k))[o]? := fun o ho=>by rw[h.cellAt _ (by omega)];exact slPs_get l k hk o ho
 have e0:=e 0 (by omega);simp only[Nat.add_zero]at e0;rw[e0,e 1 (by omega),e 2 (by omega)];exact⟨rfl,rfl,rfl⟩
theorem RowS.below {w w':World}{g B:Nat}{l:List Sl}(h:RowS w g l)(hb:Below B w w')(hg:g<B):RowS w' g l:=by
 intro k hk;have e:∀o,w'.cell? ⟨g,o,none⟩=w.cell? ⟨g,o,none⟩:=fun o=>hb.cell (p:=⟨g,o,none⟩) hg;rw[e,e,e];exact h k hk
def FrA (w:World) (a:Option Addr) (f:List Sl):Prop:=0<f.length->∃g,a=some ⟨g,0,none⟩/\g<w.heap.size/\RowS w g f
theorem FrA.below {w w':World}{a:Option Addr}{f:List Sl}(h:FrA w a f){B:Nat}(hb:Below B w w')(hB:w.heap.size<=B):FrA w' a f:=by
 intro hf;obtain⟨g,h1,h2,h3⟩:=h hf;exact⟨g,h1,Nat.lt_of_lt_of_le h2 hb.size,h3.below hb (by omega)⟩
theorem frA_own {w:World}{base:Nat}{a:Option Addr}{c:Nat}{f:List Sl}(h:w.ownsRow base 106 3 (.slice a f.length c) f.length (slPs f)):FrA w a f:=by
 intro hf;obtain⟨g,cap,he,h1,h2⟩:=own_form h hf;injection he with e1 _ e3;subst e1 e3;exact⟨g,rfl,h2,rowS_own h⟩
def FrsA (w:World) (g:Nat) (fs:List (List Sl)):Prop:=∀j,j<fs.length->∃a c,w.cell? ⟨g,j,none⟩=some (.slice a (frk fs j).length c)/\FrA w a (frk fs j)
theorem FrsA.below {w w':World}{g:Nat}{fs:List (List Sl)}(h:FrsA w g fs)(hg:g<w.heap.size){B:Nat}(hb:Below B w w')(hB:w.heap.size<=B):FrsA w' g fs:=by
 intro j hj;obtain⟨a,c,h1,h2⟩:=h j hj;exact⟨a,c,by rw[hb.cell (p:=⟨g,j,none⟩) (by show g<B;omega)];exact h1,h2.below hb hB⟩
theorem frsA_own {w:World}{base g c:Nat}{P:List (Value×List Sl)}(h:FrM w base (.slice (some ⟨g,0,none⟩) P.length c) P):FrsA w g (P.map Prod.snd):=by
 intro j hj;have hj':j<P.length:=by simpa using hj
 have hm:P[j]∈P:=List.getElem_mem _;have hv:=h.2 _ hm;obtain⟨a,cc,hva⟩:=own_slice hv;have hf:frk (P.map Prod.snd) j=P[j].2:=by rw[←frk_eq hj];simp
 rw[hf];refine⟨a,cc,?_,frA_own (by rw[←hva];exact hv)⟩;rw[h.1.cellAt j (by omega),List.getElem?_map,List.getElem?_eq_getElem hj'];simp[hva]
theorem budP_no {fr:Nat}{f:List Sl}{k:Nat}(hk:k<f.length)(h:¬(1<=(slk f k).bud/\budS (f.take k)+(slk f k).bud<=fr)):¬BudP fr f:=by
 intro hb;have:=hb k hk;rw[slk_eq hk]at this;exact h this
theorem budS_take {f:List Sl}{k:Nat}(hk:k<f.length):budS (f.take (k+1))=budS (f.take k)+(slk f k).bud:=by
 rw[List.take_succ_eq_append_getElem hk,budS_app,slk_eq hk];simp[budS]
def BPto (fr:Nat) (f:List Sl) (k:Nat):Prop:=∀i,i<k->1<=(slk f i).bud/\budS (f.take i)+(slk f i).bud<=fr
theorem bpTo_all {fr:Nat}{f:List Sl}(h:BPto fr f f.length):BudP fr f:=by
 intro k hk;rw[slk_eq hk];exact h k hk
def PassOut (Q:Prop) (w:World) (en:Ending) (w':World):Prop:=Below w.heap.size w w'/\((Q/\en=.returned (.tuple #[]))\/(¬Q/\en=pan 8 0))
theorem checkBudgets_any (f:List Sl)(a:Option Addr)(c:Nat)(most:Nat)(w:World)(hr:FrA w a f)(hn:f.length<=1000)(hm:most<=10000)(hs:∀k,k<f.length->(slk f k).bud<=9999):
  Calls Tryz.prog 105 #[.slice a f.length c,.int .i64 most] w (PassOut (BudP most f) w):=by
 have Hr:=hide hr;have Hs:=hide hs;clear hr hs;go_enter Tryz.func105,Tryz.ntmps105;go_wp2_with fail
 go_loopw [4,9] (fun s i wr=>∃k:Nat,k<=f.length/\i=.int .i64 k/\s=.int .i64 (budS (f.take k):Nat)/\budS (f.take k)<=10000/\Below w.heap.size w wr/\BPto most f k) (fun _ i _=>2000-(intOf i).toNat)
 case atStart=>exact⟨0,by omega,rfl,rfl,by simp[budS],Below.refl _ _,fun i hi=>by omega⟩
 case round=>
  obtain⟨k,hk,rfl,rfl,hsum,hb,hP⟩:=hrel;have HB:=hide hb;have HP:=hide hP;clear hP;by_cases hlt:k<f.length
  .have hlt':(k:Int)<f.length:=by omega
   obtain⟨g,rfl,hg1,hrow⟩:=Hr.out (by omega);obtain⟨r0,r1,r2⟩:=hrow.below hb hg1 k hlt;have hbk:=Hs.out k hlt;have hst:=hide (budS_take hlt);have hws:=hb.size;clear hb hrow;by_cases hq:1<=(slk f k).bud/\budS (f.take k)+(slk f k).bud<=most
   .obtain⟨hq1,hq2⟩:=hq;have hq1':¬((slk f k).bud:Int)<1:=by omega
    have hq2':¬(most:Int)<budS (f.take k)+(slk f k).bud:=by omega
    have hBP:Hid (BPto most f (k+1)):=by
     intro i hi;rcases Nat.lt_or_ge i k with h|h
     .exact HP.out i h
     .have:i=k:=by omega
      subst this;exact⟨hq1,hq2⟩
    generalize budS (f.take k)=B at *;go_wp2;go_roundw
    case rel=>exact⟨k+1,by omega,by go_num,by rw[hst.out];go_num,by rw[hst.out];omega,HB.out.alloc HB.out.size _,hBP.out⟩
    case measure=>simp[intOf];omega
   .have hno:=hide (budP_no hlt hq);have hcs:((slk f k).bud:Int)<1\/(¬((slk f k).bud:Int)<1/\(most:Int)<budS (f.take k)+(slk f k).bud):=by omega
    clear hq;generalize budS (f.take k)=B at *;rcases hcs with h1|⟨h1,h2⟩
    all_goals
     go_wp2_with fail;refine(refuse_any 8 0 _ rfl _).mono ?_;rintro e w' ⟨rfl,rfl⟩;exact⟨rfl,HB.out.alloc HB.out.size _,.inr ⟨hno.out,rfl⟩⟩
  .have hlt':¬(k:Int)<f.length:=by omega
   have hok:Hid (BudP most f):=by
    have:k=f.length:=by omega
    rw[this]at HP;exact bpTo_all HP.out
   go_wp2
   go_end0
   exact⟨HB.out,.inl ⟨hok.out,rfl⟩⟩
def NxC (J o:Nat) (w w':World) (x y:Nat):Prop:=w'.cell? ⟨J,o,none⟩=some (.int .i64 x)/\w'.cell? ⟨J,o+1,none⟩=some (.int .i64 y)/\(∀p,p≠o->p≠o+1->w'.cell? ⟨J,p,none⟩=w.cell? ⟨J,p,none⟩)/\(∀o,w'.frozen? ⟨J,o,none⟩=false)
def NxOut (J o bg job fr lf:Nat) (w:World) (en:Ending) (w':World):Prop:=
 w.grownBy w' (some J)/\((job=bg/\en=.returned (.tuple #[])/\NxC J o w w' (bg+1) fr)\/(job+1=bg/\lf≠fr/\en=.returned (.tuple #[])/\NxC J o w w' bg fr)\/(¬(job=bg\/(job+1=bg/\lf≠fr))/\en=pan 8 0))
theorem checkNext_any (J o bg job fr lf:Nat)(w:World)(c0:w.cell? ⟨J,o,none⟩=some (.int .i64 bg))(c1:w.cell? ⟨J,o+1,none⟩=some (.int .i64 lf))(fz:∀o,w.frozen? ⟨J,o,none⟩=false)(hb:bg<=100000)(hj:job<=100000):
  Calls Tryz.prog 107 #[.pointer (some ⟨J,o,none⟩),.int .i64 job,.int .i64 fr] w (NxOut J o bg job fr lf w):=by
 have Hc0:=hide c0;have Hc1:=hide c1;have Hfz:=hide fz;have f0:=fz o;have f1:=fz (o+1);clear fz;by_cases h1:job=bg
 .have h1':((job:Int)==bg)=true:=by simp[h1]
  have hneg:((-1:Int)==fr)=false:=by rw[beq_eq_false_iff_ne];omega
  have Hfin:Hid (NxOut J o bg job fr lf w (.returned (.tuple #[])) (((w.setCell ⟨J,o,none⟩ (.int .i64 (bg+1))).setCell ⟨J,o+1,none⟩ (.int .i64 (-1))).setCell ⟨J,o+1,none⟩ (.int .i64 fr))):=by
   refine⟨zE (zE (zE (zI _ _) _ _) _ _) _ _,.inl ⟨h1,rfl,?_,?_,?_,?_⟩⟩
   .rw[set_other (by simp),set_other (by simp),set_same Hc0.out];rfl
   .exact set_same (set_same (by rw[set_other (by simp)];exact Hc1.out))
   .intro p hp hp';rw[set_other (by intro e;injection e with _ e2;omega),set_other (by intro e;injection e with _ e2;omega),set_other (by intro e;injection e with _ e2;omega)]
   .intro q;simpa using Hfz.out q
  clear h1;go_enter Tryz.func107,Tryz.ntmps107;go_wp2
  go_end0
  exact Hfin.out
 .have h1':((job:Int)==bg)=false:=by simp;omega
  by_cases h2:job+1=bg
  .have h2':((job:Int)==(bg:Int)-1)=true:=by simp;omega
   by_cases h3:lf=fr
   .have h3':((lf:Int)==fr)=true:=by simp[h3]
    have hno:Hid (¬(job=bg\/(job+1=bg/\lf≠fr))):=by
     rintro (h|⟨_,h⟩)
     .exact h1 h
     .exact h h3
    clear h1 h2 h3;go_enter Tryz.func107,Tryz.ntmps107;go_wp2_with fail;refine(refuse_any 8 0 _ rfl _).mono ?_;rintro e w' ⟨rfl,rfl⟩;exact⟨rfl,zI _ _,.inr (.inr ⟨hno.out,rfl⟩)⟩
   .have h3':((lf:Int)==fr)=false:=by simp;omega
    have Hfin:Hid (NxOut J o bg job fr lf w (.returned (.tuple #[])) (w.setCell ⟨J,o+1,none⟩ (.int .i64 fr))):=by
     refine⟨zE (zI _ _) _ _,.inr (.inl ⟨h2,h3,rfl,?_,?_,?_,?_⟩)⟩
     .rw[set_other (by simp)];exact Hc0.out
     .exact set_same Hc1.out
     .intro p hp hp';rw[set_other (by intro e;injection e with _ e2;omega)]
     .intro q;simpa using Hfz.out q
    clear h1 h2 h3;go_enter Tryz.func107,Tryz.ntmps107;go_wp2
    go_end0
    exact Hfin.out
  .have h2':((job:Int)==(bg:Int)-1)=false:=by simp;omega
   have hno:Hid (¬(job=bg\/(job+1=bg/\lf≠fr))):=by
    rintro (h|⟨h,_⟩)
    .exact h1 h
    .exact h2 h
   clear h1 h2;go_enter Tryz.func107,Tryz.ntmps107;go_wp2_with fail;refine(refuse_any 8 0 _ rfl _).mono ?_;rintro e w' ⟨rfl,rfl⟩;exact⟨rfl,zI _ _,.inr (.inr ⟨hno.out,rfl⟩)⟩
def JC (w:World) (J:Nat) (P:List FSl):Prop:=(∀n:UInt8,zB (n.toNat:Int)=true->w.cell? ⟨J,(n.toNat-97)*2,none⟩=some (.int .i64 (nextJ P n))/\w.cell? ⟨J,(n.toNat-97)*2+1,none⟩=some (.int .i64 (lastF P n)))/\∀o,w.frozen? ⟨J,o,none⟩=false
theorem JC.next {w w':World}{J:Nat}{P:List FSl}{x:FSl}(h:JC w J P)(hl:zB (x.2.nm.toNat:Int)=true){n y:Nat}(hn:n=nextJ (P++[x]) x.2.nm)(hy:y=x.1)(hc:NxC J ((x.2.nm.toNat-97)*2) w w' n y):JC w' J (P++[x]):=by
 obtain⟨c1,c2,c3,c4⟩:=hc;refine⟨?_,c4⟩;intro m hm;rw[lastF_snoc];by_cases he:x.2.nm=m
 .subst he;rw[if_pos rfl,c1,c2,hn,hy];exact⟨rfl,rfl⟩
 .rw[nextJ_snoc,if_neg he,if_neg he];have hne:x.2.nm.toNat≠m.toNat:=fun e=>he (UInt8.toNat_inj.1 e);simp only[zB,Bool.and_eq_true,decide_eq_true_eq]at hl hm;rw[c3 _ (by omega) (by omega),c3 _ (by omega) (by omega)];exact h.1 m (by simp only[zB,Bool.and_eq_true,decide_eq_true_eq];exact hm)
theorem JC.keep {w w':World}{J:Nat}{P:List FSl}(h:JC w J P)(hb:w'.heap[J]? =w.heap[J]?)(hf:∀o,w'.frozen? ⟨J,o,none⟩=w.frozen? ⟨J,o,none⟩):JC w' J P:=by
 refine⟨?_,fun o=>by rw[hf];exact h.2 o⟩;intro n hn;have e:∀o,w'.cell? ⟨J,o,none⟩=w.cell? ⟨J,o,none⟩:=fun o=>World.cell?_of_block (a:=⟨J,o,none⟩) hb;rw[e,e];exact h.1 n hn
def ChkOk (t:Tb):Prop:=Sound t/\∀f∈t.fs,∀s∈f,zB (s.nm.toNat:Int)=true
theorem jobsP_nil:JobsP []:=fun k h=>by simp at h
theorem jobsP_snoc {A:List FSl}{x:FSl}(h:JobsP A)(hx:okP A x):JobsP (A++[x]):=by
 intro k hk;rcases Nat.lt_or_ge k A.length with h1|h1
 .rw[List.getElem_append_left h1,List.take_append_of_le_length (by omega)];exact h k h1
 .have:k=A.length:=by simp at hk;omega
  subst this;rw[List.getElem_append_right (by omega),List.take_left']
  .simpa using hx
  .rfl
theorem jobsP_mid {A R:List FSl}{x:FSl}(h:JobsP (A++x::R)):okP A x:=by
 have:=h A.length (by simp);rw[List.getElem_append_right (by omega),List.take_left']at this
 .simpa using this
 .rfl
theorem flat_split (fs:List (List Sl)):∀(j i:Nat),(hj:j<fs.length)->zX i fs=zX i (fs.take j)++((frk fs j).map (fun s=>(i+j,s))++zX (i+j+1) (fs.drop (j+1))):=by
 induction fs with
 | nil=>intro j i hj;simp at hj
 | cons f r ih=>
  intro j i hj
  cases j with
  | zero=>simp[zX,frk]
  | succ j=>
   have:=ih j (i+1) (by simpa using hj);simp only[zX,List.take_succ_cons,List.drop_succ_cons,this,List.append_assoc];rw[show i+1+j=i+(j+1) by omega];rfl
theorem map_take_next {f:List Sl}{k j:Nat}(h:k<f.length):(f.take (k+1)).map (fun s=>(j,s))=(f.take k).map (fun s=>(j,s))++[(j,slk f k)]:=by
 rw[List.take_succ_eq_append_getElem h,List.map_append,slk_eq h];rfl
theorem chk_no_bud {t:Tb}{j:Nat}(hj:j<t.fs.length)(h:¬BudP t.fr (frk t.fs j)):¬ChkOk t:=by
 intro hc;exact h (hc.1.bud _ (by rw[←frk_eq hj];exact List.getElem_mem _))
theorem chk_no_letter {t:Tb}{j k:Nat}(hj:j<t.fs.length)(hk:k<(frk t.fs j).length)(h:zB ((slk (frk t.fs j) k).nm.toNat:Int)=false):¬ChkOk t:=by
 intro hc;have:=hc.2 (frk t.fs j) (by rw[←frk_eq hj];exact List.getElem_mem _) (slk (frk t.fs j) k) (by rw[←slk_eq hk];exact List.getElem_mem _);rw[this]at h;simp at h
theorem chk_no_job {t:Tb}{j k:Nat}(hj:j<t.fs.length)(hk:k<(frk t.fs j).length)(h:¬okP (zX 0 (t.fs.take j)++((frk t.fs j).take k).map (fun s=>(j,s))) (j,slk (frk t.fs j) k)):¬ChkOk t:=by
 intro hc;have hJ:=hc.1.jobs;rw[flat_split t.fs j 0 hj,Nat.zero_add]at hJ;have e:(frk t.fs j).map (fun s=>(j,s))=((frk t.fs j).take k).map (fun s=>(j,s))++(j,slk (frk t.fs j) k)::((frk t.fs j).drop (k+1)).map (fun s=>(j,s)):=by
  conv=>lhs;rw[←List.take_append_drop k (frk t.fs j)]
  rw[List.map_append,List.drop_eq_getElem_cons hk,slk_eq hk];rfl
 rw[e]at hJ;refine h (jobsP_mid (R:=((frk t.fs j).drop (k+1)).map (fun s=>(j,s))++zX (j+1) (t.fs.drop (j+1))) ?_);simpa using hJ
end
theorem goes_of_sound {t:Tb}(h:Sound t):Goes (zX 0 t.fs) t.cyc t.fr:=by
 obtain⟨f1,f2,n1,n2,hl⟩:=h.frames;have hr:=flatF_rises t.fs 0;have hb:=(budR_flat t.fr t.fs 0 [] (fun i _=>rfl)).2 h.bud;refine⟨?_,?_,?_,?_,f1,h.c1⟩
 .intro i hi;have:=hr i (i+1) (by omega) hi (by omega);rw[fsk_eq (by omega),fsk_eq hi]at this;exact this
 .intro i hi;have:=(hb i hi).1
  rwa [fsk_eq hi]at this
 .intro i hi;have:=(hb i hi).2
  rwa [fsk_eq hi]at this
 .intro i hi;have hm:fsk (zX 0 t.fs) i∈zX 0 t.fs:=by rw[←fsk_eq hi];exact List.getElem_mem _
  obtain⟨_,h2,_⟩:=flatF_mem t.fs 0 _ hm;have h3:=Nat.mul_le_mul_right t.fr (show (fsk (zX 0 t.fs) i).1+1<=t.fs.length by omega);rw[Nat.mul_comm t.fs.length,h.c3]at h3;exact h3
def baseJ (fs:List (List Sl)) (j:Nat):Nat:=(zX 0 (fs.take j)).length
theorem base_zero (fs:List (List Sl)):baseJ fs 0=0:=by simp[baseJ,zX]
theorem base_all (fs:List (List Sl)):baseJ fs fs.length=(zX 0 fs).length:=by simp[baseJ]
theorem base_next {fs:List (List Sl)}{j:Nat}(hj:j<fs.length):baseJ fs (j+1)=baseJ fs j+(frk fs j).length:=by
 unfold baseJ;rw[flatF_len,flatF_len,List.take_succ_eq_append_getElem hj,frk_eq hj];simp
theorem base_le {fs:List (List Sl)}{j:Nat}(hj:j<fs.length):baseJ fs j+(frk fs j).length<=(zX 0 fs).length:=by
 have h1:=flat_split fs j 0 hj;have h2:=congrArg List.length h1;simp only[List.length_append,List.length_map]at h2;unfold baseJ;omega
theorem flat_at {fs:List (List Sl)}{j k:Nat}(hj:j<fs.length)(hk:k<(frk fs j).length):fsk (zX 0 fs) (baseJ fs j+k)=(j,slk (frk fs j) k):=by
 have hlt:baseJ fs j+k<(zX 0 fs).length:=by have:=base_le hj;omega
 have h1:=flat_split fs j 0 hj;rw[←fsk_eq hlt];have e:(zX 0 fs)[baseJ fs j+k]? =some (j,slk (frk fs j) k):=by
  rw[h1];unfold baseJ;rw[List.getElem?_append_right (by omega),Nat.add_sub_cancel_left,List.getElem?_append_left (by simpa using hk),List.getElem?_map,List.getElem?_eq_getElem hk,slk_eq hk];simp
 rw[List.getElem?_eq_getElem hlt]at e;exact Option.some.inj e
theorem used_none {l:List FSl}{j:Nat}(h:∀x∈l,x.1≠j):usedJ l j=0:=by
 induction l with
 | nil=>rfl
 | cons x r ih=>
  have h1:=h x (by simp);have h2:=ih (fun y hy=>h y (by simp[hy]));simp[usedJ,h1,h2]
theorem used_base (fs:List (List Sl))(j:Nat)(hj:j<=fs.length):usedJ ((zX 0 fs).take (baseJ fs j)) j=0:=by
 have e:(zX 0 fs).take (baseJ fs j)=zX 0 (fs.take j):=by
  rcases Nat.lt_or_ge j fs.length with h|h
  .have h1:=flat_split fs j 0 h
   conv=>lhs;rw[h1]
   unfold baseJ;rw[List.take_left]
  .have:j=fs.length:=by omega
   subst this;rw[base_all,List.take_length,List.take_length]
 rw[e];apply used_none;intro x hx;obtain⟨_,h2,_⟩:=flatF_mem (fs.take j) 0 x hx;simp at h2;omega
def atK (fs:List (List Sl)) (fr j k:Nat):Nat:=j*fr+usedJ ((zX 0 fs).take (baseJ fs j+k)) j
theorem atK_zero {fs:List (List Sl)}{fr j:Nat}(hj:j<=fs.length):atK fs fr j 0=j*fr:=by
 unfold atK;rw[Nat.add_zero,used_base fs j hj];rfl
theorem atK_start {fs:List (List Sl)}{fr j k:Nat}(hj:j<fs.length)(hk:k<(frk fs j).length):startI (zX 0 fs) fr (baseJ fs j+k)=atK fs fr j k:=by
 unfold startI atK;rw[flat_at hj hk]
theorem atK_next {fs:List (List Sl)}{fr j k:Nat}(hj:j<fs.length)(hk:k<(frk fs j).length):atK fs fr j (k+1)=atK fs fr j k+(slk (frk fs j) k).bud:=by
 have hlt:baseJ fs j+k<(zX 0 fs).length:=by have:=base_le hj;omega
 unfold atK;rw[←Nat.add_assoc (baseJ fs j) k 1,usedJ_next hlt,flat_at hj hk];simp;omega
theorem job_small {t:Tb}(h:Sound t):∀i,i<(zX 0 t.fs).length->(fsk (zX 0 t.fs) i).2.job<=9999/\(fsk (zX 0 t.fs) i).2.bud<=60/\(fsk (zX 0 t.fs) i).small:=by
 intro i hi;have hm:fsk (zX 0 t.fs) i∈zX 0 t.fs:=by rw[←fsk_eq hi];exact List.getElem_mem _
 obtain⟨_,h2,f,hf,hx⟩:=flatF_mem t.fs 0 _ hm;obtain⟨_,h3⟩:=h.small f hf;obtain⟨a,b,c⟩:=h3 _ hx;obtain⟨_,_,_,n2,_⟩:=h.frames;exact⟨by omega,c,by unfold FSl.small;omega⟩
theorem flat_len {t:Tb}(h:Sound t):(zX 0 t.fs).length<=60:=by
 rw[flatF_len];exact h.frames.2.2.2.2
section
open Go.RowKit
def FvA (w:World) (a:Option Addr) (fs:List (List Sl)):Prop:=0<fs.length->∃g,a=some ⟨g,0,none⟩/\g<w.heap.size/\FrsA w g fs
theorem FvA.below {w w':World}{a:Option Addr}{fs:List (List Sl)}(h:FvA w a fs){B:Nat}(hb:Below B w w')(hB:w.heap.size<=B):FvA w' a fs:=by
 intro hf;obtain⟨g,h1,h2,h3⟩:=h hf;exact⟨g,h1,Nat.lt_of_lt_of_le h2 hb.size,h3.below h2 hb hB⟩
theorem fvA_own {w:World}{base:Nat}{a:Option Addr}{c:Nat}{P:List (Value×List Sl)}(h:FrM w base (.slice a P.length c) P):FvA w a (P.map Prod.snd):=by
 intro hf;obtain⟨g,cap,he,h1,h2⟩:=own_form h.1 (by simpa using hf);injection he with e1 _ e3;subst e1 e3;exact⟨g,rfl,h2,frsA_own h⟩
structure Tb.small (t:Tb):Prop where
 c:t.cyc<=9999
 f:t.fr<=9999
 n:t.fs.length<=1000
 s:∀f∈t.fs,f.length<=1000/\∀s∈f,s.job<=9999/\s.bud<=9999
theorem Tb.small.fr {t:Tb}(h:t.small){j:Nat}(hj:j<t.fs.length):(frk t.fs j).length<=1000/\∀k,k<(frk t.fs j).length->(slk (frk t.fs j) k).job<=9999/\(slk (frk t.fs j) k).bud<=9999:=by
 have hm:frk t.fs j∈t.fs:=by rw[←frk_eq hj];exact List.getElem_mem _
 refine⟨(h.s _ hm).1,fun k hk=>(h.s _ hm).2 _ ?_⟩;rw[←slk_eq hk];exact List.getElem_mem _
theorem checkNext_good (J o bg job fr lf:Nat)(w:World)(c0:w.cell? ⟨J,o,none⟩=some (.int .i64 bg))(c1:w.cell? ⟨J,o+1,none⟩=some (.int .i64 lf))(fz:∀o,w.frozen? ⟨J,o,none⟩=false)(hb:bg<=100000)(hj:job<=100000)(h:job=bg\/(job+1=bg/\lf≠fr)):
  Calls Tryz.prog 107 #[.pointer (some ⟨J,o,none⟩),.int .i64 job,.int .i64 fr] w fun en w'=>en=.returned (.tuple #[])/\w.grownBy w' (some J)/\NxC J o w w' (if bg<job+1 then job+1 else bg) fr:=by
 refine(checkNext_any J o bg job fr lf w c0 c1 fz hb hj).mono ?_;rintro e w' ⟨hg,⟨h1,rfl,h2⟩|⟨h1,_,rfl,h2⟩|⟨h1,_⟩⟩
 .refine⟨rfl,hg,?_⟩;rw[if_pos (by omega),show job+1=bg+1 by omega];exact h2
 .refine⟨rfl,hg,?_⟩;rw[if_neg (by omega)];exact h2
 .exact absurd h h1
theorem checkNext_bad (J o bg job fr lf:Nat)(w:World)(c0:w.cell? ⟨J,o,none⟩=some (.int .i64 bg))(c1:w.cell? ⟨J,o+1,none⟩=some (.int .i64 lf))(fz:∀o,w.frozen? ⟨J,o,none⟩=false)(hb:bg<=100000)(hj:job<=100000)(h:¬(job=bg\/(job+1=bg/\lf≠fr))):
  Calls Tryz.prog 107 #[.pointer (some ⟨J,o,none⟩),.int .i64 job,.int .i64 fr] w fun en w'=>en=pan 8 0/\w.grownBy w' (some J):=by
 refine(checkNext_any J o bg job fr lf w c0 c1 fz hb hj).mono ?_;rintro e w' ⟨hg,⟨h1,_⟩|⟨h1,h2,_⟩|⟨_,rfl⟩⟩
 .exact absurd (.inl h1) h
 .exact absurd (.inr ⟨h1,h2⟩) h
 .exact⟨rfl,hg⟩
structure CW (w wk:World) (tv:Array Value) (P:List FSl):Prop where
 hx:wk.heap[w.heap.size]? =some (.cells tv 61 (0,0))
 jc:JC wk (w.heap.size+1) P
 jl:w.heap.size+1<wk.heap.size
 b:Below w.heap.size w wk
theorem CW.keep {w wk:World}{tv:Array Value}{P:List FSl}(h:CW w wk tv P){w':World}(hb:Below wk.heap.size wk w'):CW w w' tv P:=
 ⟨zK h.hx hb,h.jc.keep (hb.block _ h.jl) (fun o=>World.frozen?_of_block (hb.block _ h.jl)),Nat.lt_of_lt_of_le h.jl hb.size,h.b.trans (hb.mono h.b.size)⟩
theorem CW.next {w wk:World}{tv:Array Value}{P P':List FSl}(h:CW w wk tv P){w':World}(hg:wk.grownBy w' (some (w.heap.size+1)))(hj:JC w' (w.heap.size+1) P'):CW w w' tv P':=by
 refine⟨by rw[hg.block _ (zL h.hx) (by simp)];exact h.hx,hj,Nat.lt_of_lt_of_le h.jl hg.size,?_⟩;have:=grownBy_new (grown_below h.b) hg (by omega);exact below_grown this
theorem CW.start (w:World)(tv:Array Value)(z:Array Value)(hz:z=Array.replicate 52 (.int .i64 0))(ty:TypeId):CW w ((w.alloc (.cells tv 61)).alloc (.cells z ty)) tv []:=by
 have hb:=zW (w.alloc (.cells tv 61)) z ty;simp only[World.size_alloc]at hb;refine⟨by rw[Below.heap_alloc _ _ _ (by simp)];exact zW _ _ _,⟨?_,zF hb⟩,by simp,(zN w _).alloc (by simp) _⟩;intro n hn;simp only[zB,Bool.and_eq_true,decide_eq_true_eq]at hn;rw[zC hb,zC hb,hz];have e:∀i,i<52->(Array.replicate 52 (Value.int .i64 0))[i]? =some (.int .i64 0):=fun i hi=>by simp[hi]
 rw[e _ (by omega),e _ (by omega)];exact⟨rfl,rfl⟩
theorem nextJ_small {P:List FSl}(hs:∀x∈P,x.2.job<=9999)(n:UInt8):nextJ P n<=10000:=by
 have:∀(Q:List FSl),(∀x∈Q,x.2.job<=9999)->∀m,m<=10000->Q.foldl (fun m x=>if x.2.nm=n then (if m<x.2.job+1 then x.2.job+1 else m) else m) m<=10000:=by
  intro Q
  induction Q with
  | nil=>intro _ m hm;exact hm
  | cons x r ih=>
   intro h m hm;have hx:=h x (by simp);simp only[List.foldl_cons];refine ih (fun y hy=>h y (by simp[hy])) _ ?_;split
   .split<;>omega
   .exact hm
 exact this P hs 0 (by omega)
theorem tcheck_any (t:Tb)(a:Option Addr)(cc:Nat)(w:World)(hr:FvA w a t.fs)(hs:t.small):
  Calls Tryz.prog 67 #[.agg #[.int .i64 t.cyc,.int .i64 t.fr,.slice a t.fs.length cc]] w (PassOut (ChkOk t) w):=by
 have hc9:=hs.c;have hf9:=hs.f;have hn9:=hs.n;have Hs:=hide hs;have Hr:=hide hr;clear hr hs;by_cases hh:1<=t.cyc/\t.cyc<=60/\t.fr*t.fs.length=t.cyc
 .obtain⟨h1,h2,h3⟩:=hh;have h1':¬(t.cyc:Int)<1:=by omega
  have h2':¬(60:Int)<t.cyc:=by omega
  have h3':(((t.fr:Int)*(t.fs.length:Int)) != t.cyc)=false:=by
   rw[bne_eq_false_iff_eq,←Int.natCast_mul,h3]
  have hmul:(t.fr:Int)*(t.fs.length:Int)<=100:=by rw[←Int.natCast_mul,h3];omega
  have hmul0:0<=(t.fr:Int)*(t.fs.length:Int):=by rw[←Int.natCast_mul];omega
  have H3:=hide h3;clear h3;go_enter Tryz.func67,Tryz.ntmps67;go_wp2_with fail;have W0:=hide (CW.start w #[.int .i64 t.cyc,.int .i64 t.fr,.slice a t.fs.length cc] #[.int .i64 0,.int .i64 0,.int .i64 0,.int .i64 0,.int .i64 0,.int .i64 0,.int .i64 0,.int .i64 0,.int .i64 0,.int .i64 0,.int .i64 0,.int .i64 0,.int .i64 0,.int .i64 0,.int .i64 0,.int .i64 0,.int .i64 0,.int .i64 0,.int .i64 0,.int .i64 0,.int .i64 0,.int .i64 0,.int .i64 0,.int .i64 0,.int .i64 0,.int .i64 0,.int .i64 0,.int .i64 0,.int .i64 0,.int .i64 0,.int .i64 0,.int .i64 0,.int .i64 0,.int .i64 0,.int .i64 0,.int .i64 0,.int .i64 0,.int .i64 0,.int .i64 0,.int .i64 0,.int .i64 0,.int .i64 0,.int .i64 0,.int .i64 0,.int .i64 0,.int .i64 0,.int .i64 0,.int .i64 0,.int .i64 0,.int .i64 0,.int .i64 0,.int .i64 0] rfl 150)
  go_loopw [30] (fun i wr=>∃j:Nat,j<=t.fs.length/\i=.int .i64 j/\CW w wr #[.int .i64 t.cyc,.int .i64 t.fr,.slice a t.fs.length cc] (zX 0 (t.fs.take j))/\(∀f∈t.fs.take j,BudP t.fr f/\∀s∈f,zB (s.nm.toNat:Int)=true)/\JobsP (zX 0 (t.fs.take j))) (fun i _=>2000-(intOf i).toNat)
  case atStart=>exact⟨0,by omega,rfl,by simpa [zX] using W0.out,by simp,by simpa [zX] using jobsP_nil⟩
  case round=>
   clear W0;obtain⟨j,hj,rfl,hC,hB,hJ⟩:=hrel;by_cases hlt:j<t.fs.length
   .have hlt':(j:Int)<t.fs.length:=by omega
    obtain⟨g,rfl,hg,hF⟩:=Hr.out (by omega);obtain⟨fa,fc,hfc0,hfa⟩:=hF j hlt;have hfc:=(hC.b.cell (p:=⟨g,j,none⟩) hg).trans hfc0;clear hfc0;obtain⟨hfl,hfs⟩:=Hs.out.fr hlt;have x:=zC hC.hx;have Hfs:=hide hfs;have HC:=hide hC;have HB:=hide hB;have HJ:=hide hJ;have HFA:=hide hfa;clear hF hC hB hJ hfa hfs;go_wp2_with fail;refine(checkBudgets_any (frk t.fs j) fa fc t.fr wr (HFA.out.below HC.out.b (Nat.le_refl _)) hfl (by omega) (fun k hk=>(Hfs.out k hk).2)).mono ?_;rintro e w1 ⟨hb1,hcase⟩;have C1:=hide (HC.out.keep hb1);clear x hfc hb1;rcases hcase with⟨hbud,rfl⟩|⟨hbud,rfl⟩
    .have HBud:=hide hbud;clear hbud HC;go_wp2_with fail
     go_loopw [41] (fun i wr=>∃k:Nat,k<=(frk t.fs j).length/\i=.int .i64 k/\CW w wr #[.int .i64 t.cyc,.int .i64 t.fr,.slice (some ⟨g,0,none⟩) t.fs.length cc] (zX 0 (t.fs.take j)++((frk t.fs j).take k).map (fun s=>(j,s)))/\(∀i,i<k->zB ((slk (frk t.fs j) i).nm.toNat:Int)=true)/\JobsP (zX 0 (t.fs.take j)++((frk t.fs j).take k).map (fun s=>(j,s)))) (fun i _=>2000-(intOf i).toNat)
     case atStart=>exact⟨0,by omega,rfl,by simpa using C1.out,fun i hi=>by omega,by simpa using HJ.out⟩
     case round=>
      clear C1;obtain⟨k,hk,rfl,hC,hL,hJk⟩:=hrel;by_cases hkl:k<(frk t.fs j).length
      .have hkl':(k:Int)<(frk t.fs j).length:=by omega
       obtain⟨gf,rfl,hgf,hrow⟩:=HFA.out (by omega);obtain⟨r0,r1,r2⟩:=hrow.below hC.b hgf k hkl;obtain⟨hjob,hbd⟩:=Hfs.out k hkl;have HC:=hide hC;have HL:=hide hL;have HJk:=hide hJk;have hmt:=hide (map_take_next (j:=j) hkl);have hnl:=nextJ_small (P:=zX 0 (t.fs.take j)++((frk t.fs j).take k).map (fun s=>(j,s))) (by
        intro x hx;rcases List.mem_append.1 hx with hx|hx
        .obtain⟨_,_,f,hf,hxf⟩:=flatF_mem _ 0 x hx;exact((Hs.out.s f (List.mem_of_mem_take hf)).2 _ hxf).1
        .obtain⟨s,hs,rfl⟩:=List.mem_map.1 hx;exact((Hs.out.s (frk t.fs j) (by rw[←frk_eq hlt];exact List.getElem_mem _)).2 _ (List.mem_of_mem_take hs)).1) (slk (frk t.fs j) k).nm
       clear hC hL hJk hrow
       cases hlet:zB ((slk (frk t.fs j) k).nm.toNat:Int)
       .have hno:=hide (chk_no_letter hlt hkl hlet);have Hlet:=hide hlet;clear hlet;have HC2:=hide (HC.out.keep (zN wr (.cells #[.int .u8 (slk (frk t.fs j) k).nm.toNat,.int .i64 (slk (frk t.fs j) k).job,.int .i64 (slk (frk t.fs j) k).bud] 106)));go_wp2_with fail;refine(isLetter_any _ _).mono ?_;rintro e w' ⟨rfl,rfl⟩;rw[Hlet.out];go_wp2_with fail;refine(refuse_any 8 0 _ rfl _).mono ?_;rintro e w' ⟨rfl,rfl⟩;exact⟨rfl,HC2.out.b,.inr ⟨hno.out,rfl⟩⟩
       .have Hlet:=hide hlet;have hq:∃q:Nat,(slk (frk t.fs j) k).nm.toNat=97+q/\q<26:=by
         simp only[zB,Bool.and_eq_true,decide_eq_true_eq]at hlet;exact⟨(slk (frk t.fs j) k).nm.toNat-97,by omega,by omega⟩
        obtain⟨q,hq1,hq2⟩:=hq;have hC2:=HC.out.keep (zN wr (.cells #[.int .u8 (97+(q:Int)),.int .i64 (slk (frk t.fs j) k).job,.int .i64 (slk (frk t.fs j) k).bud] 106));obtain⟨j0,j1⟩:=hC2.jc.1 _ hlet;have jf:=hC2.jc.2;rw[hq1,show 97+q-97=q by omega]at j0 j1;have hq97:(((97+q:Nat):Int)-97)=(q:Int):=by omega
        have hq97':((97:Int)+(q:Int)-97)=(q:Int):=by omega
        have HC2:=hide hC2;clear hC2 hlet;have Hq1:=hide hq1;rw[hq1,Int.natCast_add]at r0;clear hq1;go_wp2_with fail;refine(isLetter_any _ _).mono ?_;rintro e w' ⟨rfl,rfl⟩;rw[show zB (97+(q:Int))=true from by have:=Hlet.out;rw[Hq1.out,Int.natCast_add]at this;exact this];have hsub:IntKind.u8.wrap (97+(q:Int)-97)=(q:Int):=by rw[hq97',IntKind.wrap_u8];omega
        have hwq:IntKind.u8.wrap (q:Int)=(q:Int):=by rw[IntKind.wrap_u8];omega
        have hq26:(q:Int)<26:=by omega
        have hq0:(0:Int)<=(q:Int):=by omega
        have hqn:¬(q:Int)<0:=by omega
        have hqd:decide ((q:Int)<26)=true:=by simp;omega
        have J0:=hide j0;have J1:=hide j1;have JF:=hide jf;clear j0 j1 jf;have HCd:=hide (HC2.out.keep (below_drewN (Below.refl _ _) 1));by_cases hok:okP (zX 0 (t.fs.take j)++((frk t.fs j).take k).map (fun s=>(j,s))) (j,slk (frk t.fs j) k)
        .have HJ2:=hide (jobsP_snoc HJk.out hok);have hokk:(slk (frk t.fs j) k).job=nextJ (zX 0 (t.fs.take j)++((frk t.fs j).take k).map (fun s=>(j,s))) (slk (frk t.fs j) k).nm\/((slk (frk t.fs j) k).job+1=nextJ (zX 0 (t.fs.take j)++((frk t.fs j).take k).map (fun s=>(j,s))) (slk (frk t.fs j) k).nm/\lastF (zX 0 (t.fs.take j)++((frk t.fs j).take k).map (fun s=>(j,s))) (slk (frk t.fs j) k).nm≠j):=hok;have Hok:=hide hokk;clear hok hokk;have HnJ:Hid (∀w':World,(wr.alloc (.cells #[.int .u8 (97+(q:Int)),.int .i64 (slk (frk t.fs j) k).job,.int .i64 (slk (frk t.fs j) k).bud] 106)).drew.grownBy w' (some (w.heap.size+1))->NxC (w.heap.size+1) (q*2) (wr.alloc (.cells #[.int .u8 (97+(q:Int)),.int .i64 (slk (frk t.fs j) k).job,.int .i64 (slk (frk t.fs j) k).bud] 106)).drew w' (if nextJ (zX 0 (t.fs.take j)++((frk t.fs j).take k).map (fun s=>(j,s))) (slk (frk t.fs j) k).nm<(slk (frk t.fs j) k).job+1 then (slk (frk t.fs j) k).job+1 else nextJ (zX 0 (t.fs.take j)++((frk t.fs j).take k).map (fun s=>(j,s))) (slk (frk t.fs j) k).nm) j->CW w w' #[.int .i64 t.cyc,.int .i64 t.fr,.slice (some ⟨g,0,none⟩) t.fs.length cc] (zX 0 (t.fs.take j)++((frk t.fs j).take (k+1)).map (fun s=>(j,s)))):=by
          intro w' hg hN;have hCd:=HCd.out;have hjn:=hCd.jc.next (x:=(j,slk (frk t.fs j) k)) Hlet.out (n:=_) (y:=j) (by rw[nextJ_snoc,if_pos rfl]) rfl (by show NxC _ (((slk (frk t.fs j) k).nm.toNat-97)*2) _ _ _ _;rw[Hq1.out,show 97+q-97=q by omega];exact hN);rw[hmt.out,←List.append_assoc];exact hCd.next hg hjn
         have hL2:Hid (∀i,i<k+1->zB ((slk (frk t.fs j) i).nm.toNat:Int)=true):=by
          intro i hi;rcases Nat.lt_or_ge i k with h|h
          .exact HL.out i h
          .have:i=k:=by omega
           subst this;exact Hlet.out
         have HJ3:Hid (JobsP (zX 0 (t.fs.take j)++((frk t.fs j).take (k+1)).map (fun s=>(j,s)))):=by
          unfold Hid;rw[hmt.out,←List.append_assoc];exact HJ2.out
         have HG:=hide (checkNext_good (w.heap.size+1) (q*2) (nextJ (zX 0 (t.fs.take j)++((frk t.fs j).take k).map (fun s=>(j,s))) (slk (frk t.fs j) k).nm) (slk (frk t.fs j) k).job j (lastF (zX 0 (t.fs.take j)++((frk t.fs j).take k).map (fun s=>(j,s))) (slk (frk t.fs j) k).nm) (wr.alloc (.cells #[.int .u8 (97+(q:Int)),.int .i64 (slk (frk t.fs j) k).job,.int .i64 (slk (frk t.fs j) k).bud] 106)).drew J0.out J1.out JF.out (by omega) (by omega) Hok.out);clear HJ2;go_wp2_with fail
         go_region_with (go_at_call 107;refine HG.out.mono ?_;rintro e w9 ⟨rfl,hg9,hn9⟩)
         all_goals
          have C9:=hide (HnJ.out _ hg9 hn9);clear hg9 hn9;go_wp2;go_roundw
          case rel=>exact⟨k+1,by omega,by go_num,C9.out,hL2.out,HJ3.out⟩
          case measure=>simp[intOf];omega
        .have hno:=hide (chk_no_job hlt hkl hok);have Hno2:=hide hok;clear hok;go_wp2_with fail
         go_region_dies
         all_goals
          refine(checkNext_bad (w.heap.size+1) (q*2) (nextJ (zX 0 (t.fs.take j)++((frk t.fs j).take k).map (fun s=>(j,s))) (slk (frk t.fs j) k).nm) (slk (frk t.fs j) k).job j (lastF (zX 0 (t.fs.take j)++((frk t.fs j).take k).map (fun s=>(j,s))) (slk (frk t.fs j) k).nm) (wr.alloc (.cells #[.int .u8 (97+(q:Int)),.int .i64 (slk (frk t.fs j) k).job,.int .i64 (slk (frk t.fs j) k).bud] 106)).drew J0.out J1.out JF.out (by omega) (by omega) Hno2.out).mono ?_;rintro e w' ⟨rfl,hg⟩;exact⟨rfl,below_grown (grownBy_new (grown_below HCd.out.b) hg (by omega)),.inr ⟨hno.out,rfl⟩⟩
      .have hkl':¬(k:Int)<(frk t.fs j).length:=by omega
       have hke:k=(frk t.fs j).length:=by omega
       have hflat:zX 0 (t.fs.take j)++((frk t.fs j).take k).map (fun s=>(j,s))=zX 0 (t.fs.take (j+1)):=by
        rw[hke,List.take_length,List.take_succ_eq_append_getElem hlt,flatF_snoc,frk_eq hlt,List.length_take];rw[show min j t.fs.length=j by omega,Nat.zero_add]
       rw[hflat]at hC hJk;have HC:=hide hC;have HJk:=hide hJk;have hB2:Hid (∀f∈t.fs.take (j+1),BudP t.fr f/\∀s∈f,zB (s.nm.toNat:Int)=true):=by
        intro f hf;rw[List.take_succ_eq_append_getElem hlt]at hf;rcases List.mem_append.1 hf with hf|hf
        .exact HB.out f hf
        .simp at hf;subst hf;rw[frk_eq hlt];refine⟨HBud.out,?_⟩;intro s hs;obtain⟨q,hq,rfl⟩:=List.mem_iff_getElem.1 hs;rw[slk_eq hq];exact hL q (by omega)
       clear hC hJk hL hflat;go_wp2;go_roundw
       case rel=>exact⟨j+1,by omega,by go_num,HC.out,hB2.out,HJk.out⟩
       case measure=>simp[intOf];omega
    .have hno:=hide (chk_no_bud hlt hbud);exact⟨rfl,C1.out.b,.inr ⟨hno.out,rfl⟩⟩
   .have hlt':¬(j:Int)<t.fs.length:=by omega
    have hje:t.fs.take j=t.fs:=List.take_of_length_le (by omega);have hok:Hid (ChkOk t):=by
     rw[hje]at hB hJ;exact⟨⟨h1,h2,H3.out,fun f hf=>(hB f hf).1,hJ⟩,fun f hf=>(hB f hf).2⟩
    have HC:=hide hC;clear hC hB hJ;go_wp2
    go_end0
    exact⟨HC.out.b,.inl ⟨hok.out,rfl⟩⟩
 .have hno:Hid (¬ChkOk t):=fun hc=>hh ⟨hc.1.c1,hc.1.c2,hc.1.c3⟩;have hmul:(t.fr:Int)*(t.fs.length:Int)<=9999*1000:=Int.mul_le_mul (by omega) (by omega) (by omega) (by omega);have hmul0:0<=(t.fr:Int)*(t.fs.length:Int):=Int.mul_nonneg (by omega) (by omega);have hcs:(t.cyc:Int)<1\/(¬(t.cyc:Int)<1/\(60:Int)<t.cyc)\/(¬(t.cyc:Int)<1/\¬(60:Int)<t.cyc/\(((t.fr:Int)*(t.fs.length:Int)) != t.cyc)=true):=by
   by_cases a1:(t.cyc:Int)<1
   .exact .inl a1
   .by_cases a2:(60:Int)<t.cyc
    .exact .inr (.inl ⟨a1,a2⟩)
    .refine .inr (.inr ⟨a1,a2,?_⟩);rw[bne_iff_ne];intro h;rw[←Int.natCast_mul]at h;exact hh ⟨by omega,by omega,by omega⟩
  clear hh;rcases hcs with a1|⟨a1,a2⟩|⟨a1,a2,a3⟩
  all_goals
   go_enter Tryz.func67,Tryz.ntmps67;go_wp2_with fail;refine(refuse_any 8 0 _ rfl _).mono ?_;rintro e w' ⟨rfl,rfl⟩;exact⟨rfl,zN _ _,.inr ⟨hno.out,rfl⟩⟩
end
end Go.Proofs.YtbdffcjganlblaaGreatDoor
