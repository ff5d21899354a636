import Derived.Test.YtbdffcjganlblaaGreatDoorAEdEtoEdG
import Derived.Test.YtbdffcjganlblaaGreatDoorAPnMtoEdD
import Derived.Test.YtbdffcjganlblaaGreatDoorARunFtoLawC
import Derived.Deep.RegionHeldLaw
import Derived.Test.YtbdffcjganlblaaGreatDoorARefLtoRefN
import Derived.Test.YtbdffcjganlblaaGreatDoorAPnFtoSoC
set_option linter.unusedVariables false
set_option linter.unusedSimpArgs false
set_option maxRecDepth 100000
set_option maxHeartbeats 16000000
namespace Go.Proofs.YtbdffcjganlblaaGreatDoor
theorem jobsL_mono (cyc:Nat):∀(ts:List Tk) (i0:Nat),(zJ cyc i0 ts).Pairwise (fun x y=>x.tsk<=y.tsk)/\∀x∈zJ cyc i0 ts,i0<=x.tsk
 | [],i0=>by simp[zJ]
 | t::r,i0=>by
  obtain⟨h1,h2⟩:=jobsL_mono cyc r (i0+1);have h3:∀x∈jobsT cyc i0 t,x.tsk=i0:=fun x hx=>by
   obtain⟨n,_,rfl⟩:=List.mem_map.1 hx;rfl
  rw[zJ];refine⟨List.pairwise_append.2 ⟨?_,h1,fun a ha b hb=>?_⟩,fun x hx=>?_⟩
  .exact List.pairwise_of_forall_mem_list (fun a ha b hb=>by rw[h3 a ha,h3 b hb];exact Nat.le_refl _)
  .rw[h3 a ha];exact Nat.le_trans (Nat.le_succ _) (h2 b hb)
  .rcases List.mem_append.1 hx with h|h
   .rw[h3 x h];exact Nat.le_refl _
   .exact Nat.le_trans (Nat.le_succ _) (h2 x h)
theorem tsk_mono {cyc:Nat}{ts:List Tk}{i j:Nat}(h:i<=j)(hj:j<(zJ cyc 0 ts).length):(jk (zJ cyc 0 ts) i).tsk<=(jk (zJ cyc 0 ts) j).tsk:=by
 by_cases e:i=j
 .rw[e];exact Nat.le_refl _
 .rw[jk_get (show i<(zJ cyc 0 ts).length by omega),jk_get hj];exact(List.pairwise_iff_getElem.1 (jobsL_mono cyc ts 0).1) i j (by omega) hj (by omega)
theorem job_task {cyc:Nat}{ts:List Tk}{k:Nat}(hk:k<(zJ cyc 0 ts).length):(jk (zJ cyc 0 ts) k).tsk<ts.length/\(jk (zJ cyc 0 ts) k).ltr=(tsk ts (jk (zJ cyc 0 ts) k).tsk).nm/\(jk (zJ cyc 0 ts) k).num<cyc/(tsk ts (jk (zJ cyc 0 ts) k).tsk).P/\jk (zJ cyc 0 ts) k=jobA (jk (zJ cyc 0 ts) k).tsk (tsk ts (jk (zJ cyc 0 ts) k).tsk) (jk (zJ cyc 0 ts) k).num:=by
 have hm:jk (zJ cyc 0 ts) k∈zJ cyc 0 ts:=by rw[jk_get hk];exact List.getElem_mem _
 obtain⟨i,hi,n,hn,e⟩:=(jobsL_mem cyc ts 0 _).1 hm;have hg:tsk ts i=ts[i]:=by simp[tsk,List.getD_eq_getElem?_getD,hi]
 rw[e,Nat.zero_add];simp only[jobA];rw[hg];exact⟨hi,rfl,hn,rfl⟩
theorem task_is {cyc:Nat}{ts:List Tk}(h:(ts.map Tk.nm).Nodup){k i:Nat}(hk:k<(zJ cyc 0 ts).length)(hi:i<ts.length):(jk (zJ cyc 0 ts) k).tsk=i↔(jk (zJ cyc 0 ts) k).ltr=(tsk ts i).nm:=by
 obtain⟨h1,h2,_,_⟩:=job_task hk;constructor
 .intro e;rw[h2,e]
 .intro e;rw[h2]at e;refine names_inj h h1 hi ?_;simpa [tsk,List.getD_eq_getElem?_getD,h1,hi] using e
def heldD (js:List Jb) (left:Nat->Nat) (ap:Bool) (a b k n:Nat):Prop:=
 (ap=false/\(jk js k).tsk=b/\(jk js n).tsk=a/\(jk js n).num=(jk js k).num/\0<left n)\/
 (ap=true/\(((jk js k).tsk=a/\(jk js n).tsk=b)\/((jk js k).tsk=b/\(jk js n).tsk=a))/\0<left n/\left n<(jk js n).cost)
instance (js:List Jb) (left:Nat->Nat) (ap:Bool) (a b k n:Nat):Decidable (heldD js left ap a b k n):=by unfold heldD;infer_instance
theorem holds_iff {cyc:Nat}{ts:List Tk}(h:(ts.map Tk.nm).Nodup){p:Pr}{a b:Nat}(P:PairT ts p a b){left:Nat->Nat}{k:Nat}(hk:k<(zJ cyc 0 ts).length):
  holdsN (zJ cyc 0 ts) left k p=true↔∃n,n<(zJ cyc 0 ts).length/\heldD (zJ cyc 0 ts) left p.ap a b k n:=by
 have ta:∀ {q},q<(zJ cyc 0 ts).length->((jk (zJ cyc 0 ts) q).tsk=a↔(jk (zJ cyc 0 ts) q).ltr=p.a):=fun hq=>by rw[task_is h hq P.hi,P.a]
 have tb:∀ {q},q<(zJ cyc 0 ts).length->((jk (zJ cyc 0 ts) q).tsk=b↔(jk (zJ cyc 0 ts) q).ltr=p.b):=fun hq=>by rw[task_is h hq P.hj,P.b]
 have hne:p.a≠p.b:=fun e=>P.ne (names_inj h P.hi P.hj (by
  have h1:=P.a;have h2:=P.b;rw[e,←h2]at h1;simpa [tsk,List.getD_eq_getElem?_getD,P.hi,P.hj] using h1))
 unfold holdsN heldD
 cases hap:p.ap with
 | false=>
  rw[if_pos rfl];simp only[true_and,Bool.false_eq_true,false_and,or_false];rw[Bool.and_eq_true,beq_iff_eq,Bool.not_eq_true'];constructor
  .rintro ⟨h1,h2⟩;unfold doneN at h2;rw[List.all_eq_false]at h2;obtain⟨n,hn,h3⟩:=h2;have hn':n<(zJ cyc 0 ts).length:=by simpa using hn
   simp at h3;exact⟨n,hn',(tb hk).2 h1,(ta hn').2 h3.1.1,h3.1.2,by omega⟩
  .rintro ⟨n,hn,h1,h2,h3,h4⟩;refine⟨(tb hk).1 h1,?_⟩;unfold doneN;rw[List.all_eq_false];refine⟨n,by simpa using hn,?_⟩;simp;exact⟨⟨(ta hn).1 h2,h3⟩,by omega⟩
 | true=>
  rw[if_neg (by simp)];simp only[Bool.true_eq_false,false_and,false_or,true_and];have busy:∀c,busyN (zJ cyc 0 ts) left c=true↔∃n,n<(zJ cyc 0 ts).length/\(jk (zJ cyc 0 ts) n).ltr=c/\0<left n/\left n<(jk (zJ cyc 0 ts) n).cost:=fun c=>by
   unfold busyN;rw[List.any_eq_true];constructor
   .rintro ⟨n,hn,h1⟩;simp at hn h1;exact⟨n,hn,h1.1,h1.2.1,h1.2.2⟩
   .rintro ⟨n,hn,h1,h2,h3⟩;exact⟨n,by simpa using hn,by simp[h1,h2,h3]⟩
  by_cases e1:(jk (zJ cyc 0 ts) k).ltr=p.a
  .rw[if_pos e1,busy];constructor
   .rintro ⟨n,hn,h1,h2,h3⟩;exact⟨n,hn,.inl ⟨(ta hk).2 e1,(tb hn).2 h1⟩,h2,h3⟩
   .rintro ⟨n,hn,h1|h1,h2,h3⟩
    .exact⟨n,hn,(tb hn).1 h1.2,h2,h3⟩
    .exact absurd (e1.symm.trans ((tb hk).1 h1.1)) hne
  .rw[if_neg e1];by_cases e2:(jk (zJ cyc 0 ts) k).ltr=p.b
   .rw[if_pos e2,busy];constructor
    .rintro ⟨n,hn,h1,h2,h3⟩;exact⟨n,hn,.inr ⟨(tb hk).2 e2,(ta hn).2 h1⟩,h2,h3⟩
    .rintro ⟨n,hn,h1|h1,h2,h3⟩
     .exact absurd ((ta hk).1 h1.1) e1
     .exact⟨n,hn,(ta hn).1 h1.2,h2,h3⟩
   .rw[if_neg e2];constructor
    .intro h;simp at h
    .rintro ⟨n,hn,h1|h1,_⟩
     .exact absurd ((ta hk).1 h1.1) e1
     .exact absurd ((tb hk).1 h1.1) e2
def candJ (js:List Jb) (ps:List Pr) (left:Nat->Nat) (t k:Nat):Prop:=0<left k/\(jk js k).rel<=t/\freeJ js ps left k=true
instance (js:List Jb) (ps:List Pr) (left:Nat->Nat) (t k:Nat):Decidable (candJ js ps left t k):=by unfold candJ;infer_instance
def sooB (js:List Jb) (k:Nat):Option Nat->Bool
 | none=>true
 | some b=>decide ((jk js k).dl<(jk js b).dl)
def bestTo (js:List Jb) (ps:List Pr) (left:Nat->Nat) (t:Nat):Nat->Option Nat
 | 0=>none
 | k+1=>if candJ js ps left t k/\sooB js k (bestTo js ps left t k)=true then some k else bestTo js ps left t k
theorem bestTo_spec (js:List Jb)(ps:List Pr)(left:Nat->Nat)(t:Nat):∀k,(bestTo js ps left t k=none->∀i,i<k->¬candJ js ps left t i)/\∀b,bestTo js ps left t k=some b->b<k/\candJ js ps left t b/\∀i,i<k->candJ js ps left t i->(jk js b).dl<(jk js i).dl\/((jk js b).dl=(jk js i).dl/\b<=i)
 | 0=>⟨fun _ i h=>by omega,fun b h=>by simp[bestTo]at h⟩
 | k+1=>by
  obtain⟨ih1,ih2⟩:=bestTo_spec js ps left t k;rw[bestTo];by_cases hc:candJ js ps left t k/\sooB js k (bestTo js ps left t k)=true
  .rw[if_pos hc];refine⟨fun h=>by simp at h,fun b hb=>?_⟩;obtain rfl:k=b:=by simpa using hb
   refine⟨by omega,hc.1,fun i hi hci=>?_⟩;by_cases e:i=k
   .rw[e];exact .inr ⟨rfl,Nat.le_refl _⟩
   .cases hbt:bestTo js ps left t k with
    | none=>exact absurd hci (ih1 hbt i (by omega))
    | some b=>
     obtain⟨_,_,h3⟩:=ih2 b hbt;have h4:=hc.2;rw[hbt]at h4;simp[sooB]at h4;have:=h3 i (by omega) hci;exact .inl (by omega)
  .rw[if_neg hc];refine⟨fun hn i hi hci=>?_,fun b hb=>?_⟩
   .by_cases e:i=k
    .subst e;exact hc ⟨hci,by rw[hn];rfl⟩
    .exact ih1 hn i (by omega) hci
   .obtain⟨h1,h2,h3⟩:=ih2 b hb;refine⟨by omega,h2,fun i hi hci=>?_⟩;by_cases e:i=k
    .subst e;have h4:¬sooB js i (bestTo js ps left t i)=true:=fun h=>hc ⟨hci,h⟩;rw[hb]at h4;simp[sooB]at h4;omega
    .exact h3 i (by omega) hci
theorem best_is {cyc:Nat}{ts:List Tk}(hj:JsOk (zJ cyc 0 ts) cyc)(ps:List Pr)(left:Nat->Nat)(t:Nat):bestTo (zJ cyc 0 ts) ps left t (zJ cyc 0 ts).length=bestJ (zJ cyc 0 ts) ps left t:=by
 obtain⟨h1,h2⟩:=bestTo_spec (zJ cyc 0 ts) ps left t (zJ cyc 0 ts).length
 cases hb:bestJ (zJ cyc 0 ts) ps left t with
 | none=>
  cases hbt:bestTo (zJ cyc 0 ts) ps left t (zJ cyc 0 ts).length with
  | none=>rfl
  | some b=>
   obtain⟨a1,a2,_⟩:=h2 b hbt;have:=best_none hb b a1 a2.2.1 a2.1;rw[a2.2.2]at this;simp at this
 | some c=>
  obtain⟨c1,c2,c3,c4,c5⟩:=best_some hb
  cases hbt:bestTo (zJ cyc 0 ts) ps left t (zJ cyc 0 ts).length with
  | none=>exact absurd ⟨c3,c2,c4⟩ (h1 hbt c c1)
  | some b=>
   obtain⟨a1,a2,a3⟩:=h2 b hbt;have k1:=c5 b a1 a2.2.1 a2.1 a2.2.2;have k2:keyJ (zJ cyc 0 ts) b<=keyJ (zJ cyc 0 ts) c:=by
    unfold keyJ;have lb:=hj.low b a1;have lc:=hj.low c c1;rcases a3 c c1 ⟨c3,c2,c4⟩ with h|⟨h,h'⟩
    .omega
    .have:=tsk_mono (cyc:=cyc) (ts:=ts) h' c1;omega
   rw[hj.key a1 c1 (by omega)]
theorem greedy_step {cyc:Nat}{ts:List Tk}(hj:JsOk (zJ cyc 0 ts) cyc)(ps:List Pr)(left:Nat->Nat)(t n:Nat):greedyJ (zJ cyc 0 ts) ps (n+1) t left=match bestTo (zJ cyc 0 ts) ps left t (zJ cyc 0 ts).length with
  | none=>greedyJ (zJ cyc 0 ts) ps n (t+1) left
  | some k=>if (jk (zJ cyc 0 ts) k).dl<=t then false else greedyJ (zJ cyc 0 ts) ps n (t+1) (updL left k (left k-1)):=by
 rw[best_is hj,greedyJ]
 cases bestJ (zJ cyc 0 ts) ps left t<;>rfl
structure KpT (js:List Jb) (F:Nat) (l:List FSl):Prop where
 spot:∀k,k<js.length->∃a b:Nat,a<l.length/\b<l.length/\spotL l (jk js k).ltr (jk js k).num=⟨a,b,(jk js k).cost⟩/\(jk js k).rel<=(fsk l a).1*F/\((fsk l b).1+1)*F<=(jk js k).dl
 sum:sumN (fun k=>(jk js k).cost) js.length=sumN (fun q=>(fsk l q).2.bud) l.length
theorem bsum_at:∀(P:List (Nat×Nat)) (f:Nat->Nat),(∀q (h:q<P.length),f q=P[q].2)->sumN f P.length=bsum P
 | [],f,_=>rfl
 | x::r,f,h=>by
  rw[List.length_cons,sumN_shift,bsum,bsum_at r (fun i=>f (i+1)) (fun q hq=>by
   have:=h (q+1) (by simp;omega);simpa using this)]
  have:=h 0 (by simp);simp only[List.getElem_cons_zero]at this;rw[this]
theorem Flat.kept {js:List Jb}{ps:List Pr}{cyc F:Nat}{P:List (Nat×Nat)}{L:List FSl}(h:Flat js ps F P L)(hj:JsOk js cyc):KpT js F L:=by
 refine⟨fun k hk=>?_,?_⟩
 .obtain⟨a,b,ha,hb,hs,ea,eb,_,_⟩:=h.spot hj hk;have h1:=h.is a ha;have h2:=h.is b hb;rw[ea]at h1;rw[eb]at h2;exact⟨a,b,by rw[h.len];exact ha,by rw[h.len];exact hb,hs,h1.2.2.1,h2.2.2.2.1⟩
 .rw[sumN_same (g:=fun k=>gvn k P) js.length (fun k hk=>(h.all k hk).symm),sum_gvn P (fun x hx=>by
   obtain⟨q,hq,rfl⟩:=List.getElem_of_mem hx;exact(h.is q hq).1),h.len]
  exact(bsum_at P _ (fun q hq=>by rw[(h.is q hq).2.1])).symm
theorem job_of {cyc:Nat}{ts:List Tk}{i a:Nat}(hi:i<ts.length)(ha:a<cyc/(tsk ts i).P):∃k,k<(zJ cyc 0 ts).length/\(jk (zJ cyc 0 ts) k).ltr=(tsk ts i).nm/\(jk (zJ cyc 0 ts) k).num=a:=by
 have hg:tsk ts i=ts[i]:=by simp[tsk,List.getD_eq_getElem?_getD,hi]
 have hm:jobA (0+i) ts[i] a∈zJ cyc 0 ts:=(jobsL_mem cyc ts 0 _).2 ⟨i,hi,a,by rw[←hg];exact ha,rfl⟩;obtain⟨k,hk,e⟩:=List.getElem_of_mem hm;refine⟨k,hk,?_,?_⟩<;>rw[jk_get hk,e]
 .rw[hg];rfl
 .rfl
section
variable {ts:List Tk} {ps:List Pr} {cyc F:Nat} {P:List (Nat×Nat)} {L:List FSl}
theorem Flat.ord1 (h:Flat (zJ cyc 0 ts) ps F P L)(hts:TsOk ts cyc){p:Pr}(hp:p∈ps){i j:Nat}(ht:PairT ts p i j)(hap:p.ap=false){a:Nat}(ha:a<cyc/(tsk ts i).P):(spotL L p.a a).lst<=(spotL L p.b a).fst:=by
 have hj:=jobs_of hts;obtain⟨x,hx,x1,x2⟩:=job_of ht.hi ha;obtain⟨y,hy,y1,y2⟩:=job_of (cyc:=cyc) ht.hj (a:=a) (by rw[←ht.bef hap];exact ha);obtain⟨a1,b1,ha1,hb1,hs1,ea1,eb1,_,_⟩:=h.spot hj hx;obtain⟨a2,b2,ha2,hb2,hs2,ea2,eb2,_,_⟩:=h.spot hj hy;rw[x1,x2,ht.a]at hs1;rw[y1,y2,ht.b]at hs2;have:=h.before hj hp hap hx hy (by rw[x1,ht.a]) (by rw[y1,ht.b]) (by rw[x2,y2]) a2 b1 ha2 hb1 ea2 eb1;rw[hs1,hs2];show (b1:Int)<=(a2:Int);omega
theorem Flat.ord2 (h:Flat (zJ cyc 0 ts) ps F P L)(hts:TsOk ts cyc){p:Pr}(hp:p∈ps){i j:Nat}(ht:PairT ts p i j)(hap:p.ap=true){a b:Nat}(ha:a<cyc/(tsk ts i).P)(hb:b<cyc/(tsk ts j).P):¬((spotL L p.a a).fst<(spotL L p.b b).lst/\(spotL L p.b b).fst<(spotL L p.a a).lst):=by
 have hj:=jobs_of hts;obtain⟨x,hx,x1,x2⟩:=job_of ht.hi ha;obtain⟨y,hy,y1,y2⟩:=job_of ht.hj hb;obtain⟨a1,b1,ha1,hb1,hs1,ea1,eb1,_,_⟩:=h.spot hj hx;obtain⟨a2,b2,ha2,hb2,hs2,ea2,eb2,_,_⟩:=h.spot hj hy;have hne:p.a≠p.b:=fun e=>ht.ne (names_inj hts.name ht.hi ht.hj (by
  have e2:=ht.a.trans (e.trans ht.b.symm);simpa [tsk,List.getD_eq_getElem?_getD,ht.hi,ht.hj] using e2))
 have hxy:x≠y:=fun e=>hne (by rw[←ht.a,←x1,e,y1,ht.b]);rw[x1,x2,ht.a]at hs1;rw[y1,y2,ht.b]at hs2;rw[hs1,hs2];show ¬((a1:Int)<(b2:Int)/\(a2:Int)<(b1:Int));rintro ⟨q1,q2⟩;have n1:a1≠a2:=fun e=>hxy (by subst e;rw[←ea1,←ea2]);by_cases hlt:a1<a2
 .exact h.apart hj hp hap hx hy hne (.inl ⟨by rw[x1,ht.a],by rw[y1,ht.b]⟩) a1 a2 b1 ha1 ha2 hb1 hlt (by omega) ea1 eb1 ea2
 .exact h.apart hj hp hap hy hx hne (.inr ⟨by rw[y1,ht.b],by rw[x1,ht.a]⟩) a2 a1 b2 ha2 ha1 hb2 (by omega) (by omega) ea2 eb2 ea1
end
section
open Go.RowKit
abbrev flL (ts:List Tk) (ps:List Pr):List FSl:=zX 0 (tabL ts ps).fs
theorem set_jobs {ts:List Tk}{ps:List Pr}(h:SetR ts ps):0<(jsL ts).length:=by
 have h0:0<ts.length:=h.n1;have h1:=h.tok.each _ (tsk_mem h0);have h2:(tsk ts 0).P<=cycI ts:=Nat.le_of_dvd h.tok.c1 (Nat.dvd_of_mod_eq_zero h1.2.1);obtain⟨k,hk,_⟩:=job_of (cyc:=cycI ts) (a:=0) h0 (Nat.div_pos h2 h1.1);exact Nat.lt_of_le_of_lt (Nat.zero_le _) hk
theorem set_flat {ts:List Tk}{ps:List Pr}(h:SetR ts ps)(hw:0<wideL ts ps):Flat (jsL ts) ps (wideL ts ps) (runJ (jsL ts) ps (cycI ts) (wideL ts ps)).1.flatten (flL ts ps):=flat_plan (wide_pos hw).2.2.1
theorem set_some {ts:List Tk}{ps:List Pr}(h:SetR ts ps)(hw:0<wideL ts ps):0<(flL ts ps).length:=by
 obtain⟨a,b,ha,_⟩:=((set_flat h hw).kept (jobs_of h.tok)).spot 0 (set_jobs h);exact Nat.lt_of_le_of_lt (Nat.zero_le _) ha
theorem known_err {l:List UInt8}{f:Nat×Nat}(h:knownR l=.error f):f.1≠0:=by
 unfold knownR at h;split at h
 .cases h;decide
 .split at h
  .cases h;exact Nat.succ_ne_zero 1
  .split at h
   .rename_i h0
    cases h
    exact h0
   .split at h
    .cases h;decide
    .cases h
theorem comp_err {l:List UInt8}{f:Nat×Nat}(h:compE l f):f.1≠0:=by
 rcases h with h|⟨ts,ps,_,_,_,rfl⟩
 .exact known_err h
 .show whyJ _ _≠0;unfold whyJ;split<;>decide
def PldOut (l:List UInt8) (w:World) (e:Ending) (w':World):Prop:=
 Below w.heap.size w w'/\((∃f:Nat×Nat,compE l f/\e=.returned (.tuple #[.agg #[.int .i64 0,.int .i64 0,.slice none 0 0],.int .i64 f.1,.int .i64 f.2,.bool true]))\/
  (∃ts ps gT cT,knownR l=.ok (ts,ps)/\SetR ts ps/\0<wideL ts ps/\e=.returned (.tuple #[.agg #[.int .i64 (cycI ts),.int .i64 (wideL ts ps),.slice (some ⟨gT,0,none⟩) (flL ts ps).length cT],.int .i64 0,.int .i64 0,.bool true])/\RowF w' gT (flL ts ps)/\gT<w'.heap.size/\w.heap.size<=gT))
theorem planned_any (s:ByteArray)(w:World)(hm:s.size<=9223372036854775807)(ht:T10 w):
  Calls Tryz.prog 95 #[.string s] w (PldOut s.data.toList w):=by
 have HB0:=hide (zN w (.cells #[.int .i64 0,.int .i64 0,.slice none 0 0] 39));have HN0:=hide (zW w #[.int .i64 0,.int .i64 0,.slice none 0 0] 39);have Ht:=hide ht;clear ht;go_enter Tryz.func95,Tryz.ntmps95;go_wp2_with fail;generalize w.alloc (.cells #[.int .i64 0,.int .i64 0,.slice none 0 0] 39)=w0 at *;refine(compile_out s w0 hm).mono ?_;rintro e w1 ⟨hb1,hcase⟩;have HB1:=hide (HB0.out.trans (hb1.mono HB0.out.size));have HN1:=hide (zK HN0.out hb1);have HT1:=hide (Ht.out.below HB1.out);clear hb1 HB0 HN0 Ht;rcases hcase with⟨f,hf,rfl⟩|⟨x,⟨ts,ps,hkn,hset,hwd,rfl⟩,rfl⟩
 .have Hf:=hide hf;have hf0:¬(f.1:Int)=0:=by have:=comp_err hf;omega
  have n0:=zC HN1.out;have z0:=zF HN1.out;have hee:((ByteArray.mk #[]).toList==(ByteArray.mk #[]).toList)=true:=by simp
  clear hf;go_wp2_with (go_at_call 15;refine(num_any f.1 _).mono ?_;rintro e w' ⟨rfl,hw'⟩;replace hw':=hw'.symm;subst hw');have h3:=zS (zS (zS HN1.out 0 (.int .i64 0)) 1 (.int .i64 0)) 2 (.slice none 0 0);have HB3:=hide (below_set3 HB1.out (Nat.le_refl _) (.int .i64 0) (.int .i64 0) (.slice none 0 0));have c3:=zC h3;generalize ((w1.setCell ⟨w.heap.size,0,none⟩ (.int .i64 0)).setCell ⟨w.heap.size,1,none⟩ (.int .i64 0)).setCell ⟨w.heap.size,2,none⟩ (.slice none 0 0)=w3 at *;have c30:w3.cell? ⟨w.heap.size,0,none⟩=some (.int .i64 0):=c3 0;have c31:w3.cell? ⟨w.heap.size,1,none⟩=some (.int .i64 0):=c3 1;have c32:w3.cell? ⟨w.heap.size,2,none⟩=some (.slice none 0 0):=c3 2;clear c3 h3 n0 z0;refine bodyPost_ret (v:=.tuple #[.agg #[.int .i64 0,.int .i64 0,.slice none 0 0],.int .i64 f.1,.int .i64 f.2,.bool true]) (by simp[results,Tryz.results95,go_sem,c30,c31,c32]) rfl ?_;exact⟨HB3.out,.inl ⟨f,Hf.out,rfl⟩⟩
 .have hup:UnpOk (packB (tabL ts ps)) (tabL ts ps):=pack_unp (tab_right hset hwd);obtain⟨htab,_⟩:=unp_tab hup;have Hup:=hide hup;have Htab:=hide htab;have HSet:=hide hset;have HKn:=hide hkn;have HWd:=hide hwd;have HSome:=hide (set_some hset hwd);have hl1:(bs (packB (tabL ts ps))).size<=9223372036854775807:=by rw[bs_size];have:=hup.1;omega
  have hl2:(bs (tbTxt (tabL ts ps))).size<=9223372036854775807:=by rw[bs_size];have:=htab.1;omega
  have CR:Hid (∀W,Calls Tryz.prog 17 #[.string (bs (packB (tabL ts ps)))] W fun e w'=>e=.returned (.tuple #[.string (bs (tbTxt (tabL ts ps))),.int .i64 0])/\Below W.heap.size W w'):=fun W=>by
   refine(read_any _ W hl1).mono ?_;rintro e w' ⟨hb,hcase⟩;rw[bs_data]at hcase;rcases hcase with⟨f,⟨_,hno⟩,_⟩|⟨x,⟨t2,h2,rfl⟩,rfl⟩
   .exact absurd ⟨_,Hup.out⟩ hno
   .rw[←unp_one Hup.out h2];exact⟨rfl,hb⟩
  have CT:Hid (∀W,T10 W->Calls Tryz.prog 22 #[.string (bs (tbTxt (tabL ts ps)))] W fun e w'=>∃gT cT,e=.returned (.tuple #[.agg #[.int .i64 (cycI ts),.int .i64 (wideL ts ps),.slice (some ⟨gT,0,none⟩) (flL ts ps).length cT],.bool true])/\RowF w' gT (flL ts ps)/\gT<w'.heap.size/\W.heap.size<=gT/\Below W.heap.size W w'):=fun W hT=>by
   refine(rReadTable_any _ W hl2 hT).mono ?_;rintro e w' ⟨hb,hcase⟩;rw[bs_data]at hcase;rcases hcase with⟨t2,sv,h2,rfl,how⟩|⟨hno,_⟩
   .have:=tab_one Htab.out h2;subst this;obtain⟨gT,cT,rfl,g1,g2⟩:=own_form how HSome.out;exact⟨gT,cT,rfl,rowF_own how,g2,g1,hb⟩
   .exact absurd ⟨_,Htab.out⟩ hno
  clear hup htab hset hkn hwd hl1 hl2 Hup Htab HSome;have hcc:((0:Nat):Int)=0:=rfl;generalize bs (packB (tabL ts ps))=pk at *;generalize bs (tbTxt (tabL ts ps))=tx at *;obtain⟨L,hL⟩:∃L,flL ts ps=L:=⟨_,rfl⟩;rw[hL]at CT;have HLe:=hide hL;clear hL;obtain⟨cy,hcy⟩:∃c,cycI ts=c:=⟨_,rfl⟩;obtain⟨wd,hwd⟩:∃c,wideL ts ps=c:=⟨_,rfl⟩;rw[hcy]at CT;rw[hwd]at CT;have HCy:=hide hcy;have HWe:=hide hwd;clear hcy hwd;go_upto_region 4 with(go_at_call 15;refine(num_any 0 _).mono ?_;rintro e w' ⟨rfl,hw'⟩;replace hw':=hw'.symm;subst hw');go_wp2_with fail;refine(CR.out w1).mono ?_;rintro e w2 ⟨rfl,hb2⟩;have HB2:=hide (HB1.out.trans (hb2.mono HB1.out.size));have HN2:=hide (zK HN1.out hb2);have HT2:=hide (HT1.out.below hb2);clear hb2 HB1 HN1 HT1 CR;go_wp2_with fail;refine(CT.out w2 HT2.out).mono ?_;rintro e w3 ⟨gT,cT,rfl,hrow,hg1,hg2,hb3⟩;have hb4:Below w2.heap.size w2 (w3.alloc (.cells #[.int .i64 cy,.int .i64 wd,.slice (some ⟨gT,0,none⟩) L.length cT] 39)):=hb3.alloc hb3.size _;have HB4:=hide (HB2.out.trans (hb4.mono HB2.out.size));have HN4:=hide (zK HN2.out hb4);have HR4:=hide (hrow.below (zN w3 (.cells #[.int .i64 cy,.int .i64 wd,.slice (some ⟨gT,0,none⟩) L.length cT] 39)) hg1);have hX4:=zW w3 #[.int .i64 cy,.int .i64 wd,.slice (some ⟨gT,0,none⟩) L.length cT] 39;have hg3:w.heap.size<gT:=Nat.lt_of_lt_of_le (zL HN2.out) hg2;have hg4:gT<(w3.alloc (.cells #[.int .i64 cy,.int .i64 wd,.slice (some ⟨gT,0,none⟩) L.length cT] 39)).heap.size:=Nat.lt_of_lt_of_le hg1 (by simp);have hne:w.heap.size≠w3.heap.size:=by have:=zL HN2.out;have:=hb3.size;omega
  have HX4:=hide hX4;clear hX4 hb3 hb4 hrow HN2 HB2 HT2 CT hg1 hg2;go_upto_region 6 with fail;generalize w3.alloc (.cells #[.int .i64 cy,.int .i64 wd,.slice (some ⟨gT,0,none⟩) L.length cT] 39)=w4 at *;generalize w3.heap.size=X at *;have x0:w4.cell? ⟨X,0,none⟩=some (.int .i64 cy):=zC HX4.out 0;have x1:w4.cell? ⟨X,1,none⟩=some (.int .i64 wd):=zC HX4.out 1;have x2:w4.cell? ⟨X,2,none⟩=some (.slice (some ⟨gT,0,none⟩) L.length cT):=zC HX4.out 2;have n0:=zC HN4.out;have z0:=zF HN4.out;have HK:Hid (∀W:World,W.heap[X]? =w4.heap[X]? -> W.cell? ⟨X,0,none⟩=some (.int .i64 cy)/\W.cell? ⟨X,1,none⟩=some (.int .i64 wd)/\W.cell? ⟨X,2,none⟩=some (.slice (some ⟨gT,0,none⟩) L.length cT)):=fun W hW=>by
   have h:=HX4.out;rw[←hW]at h;exact⟨zC h 0,zC h 1,zC h 2⟩
  go_wp2_with fail
  go_region_with (first|(go_at_call 15;refine(num_any 0 _).mono ?_;rintro e w' ⟨rfl,hw'⟩;replace hw':=hw'.symm;subst hw'))
  all_goals
   go_wp2_with fail;have h5:=zS (zS (zS HN4.out 0 (.int .i64 cy)) 1 (.int .i64 wd)) 2 (.slice (some ⟨gT,0,none⟩) L.length cT);have HB5:=hide (below_set3 HB4.out (Nat.le_refl _) (.int .i64 cy) (.int .i64 wd) (.slice (some ⟨gT,0,none⟩) L.length cT));have hg5:(((w4.setCell ⟨w.heap.size,0,none⟩ (.int .i64 cy)).setCell ⟨w.heap.size,1,none⟩ (.int .i64 wd)).setCell ⟨w.heap.size,2,none⟩ (.slice (some ⟨gT,0,none⟩) L.length cT)).heap[gT]? =w4.heap[gT]? := by
    rw[Below.heap_setCell _ _ _ _ (show gT≠w.heap.size by omega),Below.heap_setCell _ _ _ _ (show gT≠w.heap.size by omega),Below.heap_setCell _ _ _ _ (show gT≠w.heap.size by omega)]
   have hs5:w4.heap.size<=(((w4.setCell ⟨w.heap.size,0,none⟩ (.int .i64 cy)).setCell ⟨w.heap.size,1,none⟩ (.int .i64 wd)).setCell ⟨w.heap.size,2,none⟩ (.slice (some ⟨gT,0,none⟩) L.length cT)).heap.size:=by simp[World.setCell]
   generalize ((w4.setCell ⟨w.heap.size,0,none⟩ (.int .i64 cy)).setCell ⟨w.heap.size,1,none⟩ (.int .i64 wd)).setCell ⟨w.heap.size,2,none⟩ (.slice (some ⟨gT,0,none⟩) L.length cT)=w5 at *;have c50:w5.cell? ⟨w.heap.size,0,none⟩=some (.int .i64 cy):=zC h5 0;have c51:w5.cell? ⟨w.heap.size,1,none⟩=some (.int .i64 wd):=zC h5 1;have c52:w5.cell? ⟨w.heap.size,2,none⟩=some (.slice (some ⟨gT,0,none⟩) L.length cT):=zC h5 2;have HR5:Hid (RowF w5.drew gT L):=HR4.out.keep hg5;clear n0 z0 x0 x1 x2 h5 HN4 HX4 HK;refine bodyPost_ret (v:=.tuple #[.agg #[.int .i64 cy,.int .i64 wd,.slice (some ⟨gT,0,none⟩) L.length cT],.int .i64 0,.int .i64 0,.bool true]) (by simp[results,Tryz.results95,go_sem,Act.put,c50,c51,c52]) rfl ?_;refine⟨HB5.out.drew,.inr ⟨ts,ps,gT,cT,HKn.out,HSet.out,HWd.out,?_,?_,?_,?_⟩⟩
   .rw[HCy.out,HWe.out,HLe.out]
   .rw[HLe.out];exact HR5.out
   .show gT<w5.heap.size;omega
   .omega
def jbCells (x:Jb):List Value:=[.int .i64 x.tsk,.int .i64 x.num,.int .i64 x.rel,.int .i64 x.dl,.int .i64 x.cost]
def jbRow (l:List Jb):List Value:=l.flatMap jbCells
theorem jbRow_app (a b:List Jb):jbRow (a++b)=jbRow a++jbRow b:=by simp[jbRow]
theorem jbRow_get (T:List Jb):∀(j:Nat),j<T.length->∀o,o<5->(jbRow T)[j*5+o]? =(jbCells (jk T j))[o]? := by
 induction T with
 | nil=>intro j h;simp at h
 | cons t r ih=>
  intro j hj o ho;have e:jbRow (t::r)=jbCells t++jbRow r:=rfl;have el:(jbCells t).length=5:=rfl
  cases j with
  | zero=>rw[e,List.getElem?_append_left (by omega)];simp[jk]
  | succ j=>
   have:=ih j (by simpa using hj) o ho;rw[e,List.getElem?_append_right (by omega),el,show (j+1)*5+o-5=j*5+o by omega,this];simp[jk]
def RowB (w:World) (g:Nat) (js:List Jb):Prop:=∀k,k<js.length->
 w.cell? ⟨g,k*5,none⟩=some (.int .i64 (jk js k).tsk)/\w.cell? ⟨g,k*5+1,none⟩=some (.int .i64 (jk js k).num)/\w.cell? ⟨g,k*5+2,none⟩=some (.int .i64 (jk js k).rel)/\
 w.cell? ⟨g,k*5+3,none⟩=some (.int .i64 (jk js k).dl)/\w.cell? ⟨g,k*5+4,none⟩=some (.int .i64 (jk js k).cost)
theorem rowB_own {w:World}{base g cap:Nat}{l:List Jb}(h:w.ownsRow base 97 5 (.slice (some ⟨g,0,none⟩) l.length cap) l.length (jbRow l)):RowB w g l:=by
 intro k hk;have e:∀o,o<5->w.cell? ⟨g,k*5+o,none⟩=(jbCells (jk l k))[o]? := fun o ho=>by rw[h.cellAt _ (by omega)];exact jbRow_get l k hk o ho
 have e0:=e 0 (by omega);simp only[Nat.add_zero]at e0;rw[e0,e 1 (by omega),e 2 (by omega),e 3 (by omega),e 4 (by omega)];exact⟨rfl,rfl,rfl,rfl,rfl⟩
theorem RowB.keep {w w':World}{g:Nat}{l:List Jb}(h:RowB w g l)(hb:w'.heap[g]? =w.heap[g]?):RowB w' g l:=by
 intro k hk;have e:∀o,w'.cell? ⟨g,o,none⟩=w.cell? ⟨g,o,none⟩:=fun o=>by simp only[World.cell?,hb]
 rw[e,e,e,e,e];exact h k hk
theorem RowB.below {w w':World}{g B:Nat}{l:List Jb}(h:RowB w g l)(hb:Below B w w')(hg:g<B):RowB w' g l:=h.keep (hb.block g hg)
theorem Tryz.infoJob:(Tryz.prog.info? 97).map (fun i=>(i.zero,i.size,i.bytes))=some (some (.agg #[.int .i64 0,.int .i64 0,.int .i64 0,.int .i64 0,.int .i64 0]),5,40):=by kernel_rfl
theorem jobsT_take (cyc i:Nat)(t:Tk){k:Nat}(h:k<cyc/t.P):(jobsT cyc i t).take (k+1)=(jobsT cyc i t).take k++[⟨t.nm,k,i,k*t.P+t.O,k*t.P+t.O+t.D,t.C⟩]:=by
 rw[List.take_succ_eq_append_getElem (by rw[jobsT_len];exact h)];simp[jobsT]
theorem jobsL_take (cyc:Nat){ts:List Tk}{i:Nat}(h:i<ts.length):zJ cyc 0 (ts.take (i+1))=zJ cyc 0 (ts.take i)++jobsT cyc i (tsk ts i):=by
 rw[List.take_succ_eq_append_getElem h,jobsL_snoc,Nat.zero_add,List.length_take,Nat.min_eq_left (by omega)];simp[tsk,List.getD_eq_getElem?_getD,h]
structure JbW (w wr:World) (tv pv v:Value) (l:List Jb):Prop where
 s:wr.heap[w.heap.size]? =some (.cells #[tv,pv] 53 (0,0))
 ow:wr.ownsRow (w.heap.size+1) 97 5 v l.length (jbRow l)
 b:Below w.heap.size w wr
section
variable {w wr:World} {tv pv v:Value} {l:List Jb}
theorem JbW.keep (h:JbW w wr tv pv v l){w':World}(hb:Below wr.heap.size wr w'):JbW w w' tv pv v l:=
 ⟨zK h.s hb,owns_below h.ow hb,h.b.trans (hb.mono h.b.size)⟩
theorem JbW.push (h:JbW w wr tv pv v l){o:Obj}{w2:World}{v':Value}{x:Jb}(hg:(wr.alloc o).grownBy w2 v.ownBlock)(ho:w2.ownsRow (w.heap.size+1) 97 5 v' (l.length+1) (jbRow l++jbCells x)):JbW w w2 tv pv v' (l++[x]):=by
 have hlt:=zL h.s;refine⟨?_,?_,?_⟩
 .rw[hg.block w.heap.size (by simp;omega) (fun e=>own_ge h.ow (Nat.lt_succ_self _) e.symm),Below.heap_alloc _ _ _ hlt];exact h.s
 .rw[jbRow_app,List.length_append];simpa [jbRow] using ho
 .exact(h.b.alloc h.b.size o).grown hg (by simp;omega) (fun k hk=>by have:=(h.ow.lt k hk).1;omega)
theorem JbW.other (h:JbW w wr tv pv v l){X:Nat}{c:Array Value}{ty:TypeId}{o:Obj}{w2:World}(hX:wr.heap[X]? =some (.cells c ty (0,0)))(hty:ty≠97)(hg:(wr.alloc o).grownBy w2 v.ownBlock):w2.heap[X]? =some (.cells c ty (0,0)):=by
 have hlt:=zL hX;have hne:v.ownBlock≠some X:=fun e=>by
  rcases h.ow.2 with⟨e0,_⟩|⟨g,cap,cur,e0,_,h7,_⟩
  .rw[e0]at e;simp[Value.ownBlock]at e
  .rw[e0]at e;simp[Value.ownBlock]at e;subst e;rw[h7]at hX;simp at hX;exact hty hX.2.symm
 rw[hg.block X (by simp;omega) (fun e=>hne e.symm),Below.heap_alloc _ _ _ hlt];exact hX
end
def JbOut (js:List Jb) (w:World) (en:Ending) (w':World):Prop:=∃a c,en=.returned (.slice a js.length c)/\w'.ownsRow w.heap.size 97 5 (.slice a js.length c) js.length (jbRow js)/\Below w.heap.size w w'
theorem rSetJobs_any (ts:List Tk)(cyc g cap:Nat)(pa:Option Addr)(pm pc:Nat)(w:World)(hg:g<w.heap.size)(hr:RowT w g ts)(hn:ts.length<=6)(hts:TsOk ts cyc)(hcy:cycI ts=cyc):
  Calls Tryz.prog 55 #[.agg #[.slice (some ⟨g,0,none⟩) ts.length cap,.slice pa pm pc]] w (JbOut (zJ cyc 0 ts) w):=by
 obtain⟨i0,hi0,hz0,hz1,hz2⟩:=info_parts Tryz.infoJob;have hc1:=hts.c1;have hc2:=hts.c2;have HE:Hid (∀k,k<ts.length->1<=(tsk ts k).P/\(tsk ts k).P<=60/\cyc%(tsk ts k).P=0/\(tsk ts k).O<=60/\(tsk ts k).D<=60/\(tsk ts k).C<=60):=fun k hk=>by
  have hm:=tsk_mem hk;have h5:=hts.each _ hm;have h6:(tsk ts k).P<=cyc:=Nat.le_of_dvd (by omega) (Nat.dvd_of_mod_eq_zero h5.2.1);refine⟨h5.1,by omega,h5.2.1,?_,?_,?_⟩<;>omega
 have hPk:∀k,k<ts.length->1<=(tsk ts k).P/\(tsk ts k).P<=60:=fun k hk=>⟨(HE.out k hk).1,(HE.out k hk).2.1⟩;have HR:=hide hr;have HC:=hide hcy;have HPk:=hide hPk;have HJL:=hide (fun (l:List Tk)=>jobsL_len hc2 l 0);have J0:Hid (JbW w (w.alloc (.cells #[.slice (some ⟨g,0,none⟩) ts.length cap,.slice pa pm pc] 53)) (.slice (some ⟨g,0,none⟩) ts.length cap) (.slice pa pm pc) (.slice none 0 0) []):=⟨zW _ _ _,World.ownsRow_nil _ _ _ _,zN _ _⟩;have s0:=zC J0.out.s;clear hr hts hcy hPk;go_enter Tryz.func55,Tryz.ntmps55;go_wp2_with fail;generalize w.alloc (.cells #[.slice (some ⟨g,0,none⟩) ts.length cap,.slice pa pm pc] 53)=wz at *;have CC:=hide (rCycle_any ts g cap (.slice pa pm pc) pa pm pc rfl wz (Nat.lt_of_lt_of_le hg J0.out.b.size) (HR.out.below J0.out.b hg) hn HPk.out);rw[HC.out]at CC;refine CC.out.mono ?_;rintro en w1 ⟨rfl,hb1⟩;have J1:=hide (J0.out.keep hb1);clear hb1 CC J0 s0;go_wp2_with fail
 go_loopw [3,5] (fun lv iv wr=>∃i:Nat,i<=ts.length/\iv=.int .i64 i/\JbW w wr (.slice (some ⟨g,0,none⟩) ts.length cap) (.slice pa pm pc) lv (zJ cyc 0 (ts.take i))) (fun _ iv _=>ts.length-(intOf iv).toNat)
 case atStart=>exact⟨0,by omega,rfl,J1.out⟩
 case round=>
  clear J1;obtain⟨i,hi,rfl,hJ⟩:=hrel;have s0:=zC hJ.s;by_cases hlt:i<ts.length
  .have hlt':(i:Int)<ts.length:=by omega
   obtain⟨e1,e2,e3,e4,e5,e6⟩:=HE.out i hlt;obtain⟨r0,r1,r2,r3,r4,r5,r6,r7,r8,r9⟩:=HR.out.below hJ.b hg i hlt;have HJn:=hide (jobsL_take cyc hlt);have HJ0:=hide hJ;have hjl:=HJL.out (ts.take i);rw[List.length_take,Nat.min_eq_left (by omega)]at hjl;clear hJ;generalize zJ cyc 0 (ts.take i)=L0 at *;generalize tsk ts i=t at *;have HX:=hide (zW wr (tkA t) 95);unfold tkA at HX;have HJ1:=hide (HJ0.out.keep (zN wr (.cells (tkA t) 95)));unfold tkA at HJ1;have hHX:=HX.out;go_wp2_with fail;generalize hwx:wr.alloc _=wx at *;clear hwx;have hXlt:wr.heap.size<wx.heap.size:=zL hHX;generalize wr.heap.size=X at *;clear r0 r1 r2 r3 r4 r5 r6 r7 r8 r9 s0 HJ0 hHX;have HQ:Hid (∀k,k<cyc/t.P->k*t.P+t.P<=cyc):=fun k hk=>by
    have h1:(k+1)*t.P<=cyc/t.P*t.P:=Nat.mul_le_mul_right _ hk;have h2:=Nat.div_mul_le_self cyc t.P;rw[Nat.add_mul,Nat.one_mul]at h1;omega
   have HQe:Hid (cyc/t.P*t.P=cyc):=Nat.div_mul_cancel (Nat.dvd_of_mod_eq_zero e3);have hN60:cyc/t.P<=60:=Nat.le_trans (Nat.div_le_self _ _) hc2;have HTk:=hide (fun k (hk:k<cyc/t.P)=>jobsT_take cyc i t hk);have HTl:=hide (jobsT_len cyc i t);clear e3;generalize cyc/t.P=N at *
   go_loopw [3,7] (fun lv kv wq=>∃k:Nat,k<=N/\kv=.int .i64 k/\JbW w wq (.slice (some ⟨g,0,none⟩) ts.length cap) (.slice pa pm pc) lv (L0++(jobsT cyc i t).take k)/\wq.heap[X]? =some (.cells #[.int .u8 t.nm.toNat,.int .i64 t.P,.int .i64 t.O,.int .i64 t.C,.int .i64 t.D,.int .i64 t.q0,.int .i64 t.q1,.int .i64 t.q2,.int .i64 t.q3,.int .i64 t.q4] 95 (0,0))) (fun _ kv _=>N-(intOf kv).toNat)
   case atStart=>exact⟨0,by omega,rfl,by rw[List.take_zero,List.append_nil];exact HJ1.out,HX.out⟩
   case round=>
    clear HJ1 HX;obtain⟨k,hk,rfl,hJ,hX⟩:=hrel;obtain⟨x0,x1,x2,x3,x4,_⟩:=tkA_cells (t:=t) hX;have HX:=hide hX;by_cases hlt2:k<N
    .obtain⟨m,hM⟩:∃m,m=k*t.P:=⟨_,rfl⟩;have hm:=HQ.out k hlt2;rw[←hM]at hm;have e0:wrap64 ((k:Int)*(t.P:Int))=(m:Int):=by rw[←Int.natCast_mul,←hM];exact w64 _ (by omega)
     have hd:decide (wrap64 ((k:Int)*(t.P:Int))<(cyc:Int))=true:=by rw[e0,decide_eq_true_eq];clear e0;omega
     have e1':wrap64 (wrap64 ((k:Int)*(t.P:Int))+(t.O:Int))=((m+t.O:Nat):Int):=by
      rw[e0,←Int.natCast_add];clear e0 hd;exact w64 _ (by omega)
     have e2':wrap64 (wrap64 (wrap64 ((k:Int)*(t.P:Int))+(t.O:Int))+(t.D:Int))=((m+t.O+t.D:Nat):Int):=by
      rw[e1',←Int.natCast_add];clear e0 e1' hd;exact w64 _ (by omega)
     have E1:=hide e1';have E2:=hide e2';have HMm:=hide hM;have hlen:(L0++(jobsT cyc i t).take k).length<=1000:=by
      rw[List.length_append,List.length_take];omega
     have HNx:Hid (L0++(jobsT cyc i t).take (k+1)=(L0++(jobsT cyc i t).take k)++[⟨t.nm,k,i,k*t.P+t.O,k*t.P+t.O+t.D,t.C⟩]):=by
      unfold Hid;rw[HTk.out k hlt2,List.append_assoc]
     generalize L0++(jobsT cyc i t).take k=Lk at *;obtain⟨va,vc,rfl⟩:=own_slice hJ.ow;have ow:=hJ.ow;have hjs:=hJ.b.size;have HJ:=hide hJ;have hJs:w.heap.size+1<=wr.heap.size:=zL hJ.s;clear hM e0 e1' e2' hm hJ hX;go_wp2_with (at_builtin;refine Go.wpList_append_own_at _ rfl _ _ 90 rfl (w.heap.size+1) 97 i0 _ 5 40 Tryz.underlying90 hi0 hz0 hz1 hz2 rfl (by decide) _ _ _ rfl (ow.alloc _) ⟨wr.heap.size,0,none⟩ 1 1 [.int .i64 i,.int .i64 k,.int .i64 (wrap64 (wrap64 ((k:Int)*(t.P:Int))+(t.O:Int))),.int .i64 (wrap64 (wrap64 (wrap64 ((k:Int)*(t.P:Int))+(t.O:Int))+(t.D:Int))),.int .i64 t.C] rfl rfl ?c1 ?c2 ?c3 ?c4 ?c5 ?_)
     case c1=>exact cells_new wr #[_,_,_,_,_] _ _ rfl
     case c2=>simp[Value.oneCell']
     case c3=>unfold maxLen;omega
     case c4=>omega
     case c5=>simp;omega
     intro v4 w4 hown4 hgr4 _ hloc4;have HX4:=hide (HJ.out.other HX.out (by decide) hgr4);have HJ4:Hid (JbW w w4 (.slice (some ⟨g,0,none⟩) ts.length cap) (.slice pa pm pc) v4 (Lk++[⟨t.nm,k,i,k*t.P+t.O,k*t.P+t.O+t.D,t.C⟩])):=by
      refine HJ.out.push hgr4 ?_;rw[E2.out,E1.out,HMm.out]at hown4;exact hown4
     obtain⟨va4,vc4,rfl⟩:=own_slice HJ4.out.ow;clear hown4 hgr4 hloc4 HJ HX E1 E2 ow x0 x1 x2 x3 x4 hd;go_wp2_with fail;go_roundw
     case rel=>exact⟨k+1,by omega,by go_num,by rw[HNx.out];exact HJ4.out,HX4.out⟩
     case measure=>simp[intOf];omega
    .have hkN:k=N:=by omega
     subst hkN;have hd:decide (wrap64 ((k:Int)*(t.P:Int))<(cyc:Int))=false:=by
      rw[←Int.natCast_mul,HQe.out,w64 _ (by omega),decide_eq_false_iff_not];omega
     have HJf:Hid (JbW w wr (.slice (some ⟨g,0,none⟩) ts.length cap) (.slice pa pm pc) u3 (zJ cyc 0 (ts.take (i+1)))):=by
      unfold Hid;rw[HJn.out];rw[List.take_of_length_le (by rw[HTl.out];omega)]at hJ;exact hJ
     clear hJ hX;go_wp2_with fail;go_roundw
     case rel=>exact⟨i+1,by omega,by go_num,HJf.out⟩
     case measure=>simp[intOf];omega
  .have hlt':¬(i:Int)<ts.length:=by omega
   have hie:i=ts.length:=by omega
   subst hie;rw[List.take_length]at hJ;obtain⟨va,vc,rfl⟩:=own_slice hJ.ow;have HJ:=hide hJ;clear hJ;go_wp2_with fail;go_ret;exact⟨va,vc,rfl,own_weak HJ.out.ow (Nat.le_succ _),HJ.out.b⟩
end
end Go.Proofs.YtbdffcjganlblaaGreatDoor
