import Derived.Test.YtbdffcjganlblaaGreatDoorARefOtoRefP
set_option linter.unusedVariables false
set_option linter.unusedSimpArgs false
set_option maxRecDepth 100000
set_option maxHeartbeats 16000000
namespace Go.Proofs.YtbdffcjganlblaaGreatDoor
abbrev FSl:=Nat×Sl
def zX:Nat->List (List Sl)->List FSl
 | _,[]=>[]
 | j,f::r=>f.map (fun s=>(j,s))++zX (j+1) r
def budS:List Sl->Nat
 | []=>0
 | s::r=>s.bud+budS r
theorem budS_app (a b:List Sl):budS (a++b)=budS a+budS b:=by
 induction a with
 | nil=>simp[budS]
 | cons s r ih=>simp[budS,ih];omega
def usedJ:List FSl->Nat->Nat
 | [],_=>0
 | x::r,j=>(if x.1=j then x.2.bud else 0)+usedJ r j
theorem usedJ_app (a b:List FSl)(j:Nat):usedJ (a++b) j=usedJ a j+usedJ b j:=by
 induction a with
 | nil=>simp[usedJ]
 | cons s r ih=>simp[usedJ,ih];omega
def BudR (fr:Nat) (P:List FSl) (l:List FSl):Prop:=∀k (h:k<l.length),1<=l[k].2.bud/\usedJ (P++l.take k) l[k].1+l[k].2.bud<=fr
def BudP (fr:Nat) (f:List Sl):Prop:=∀k (h:k<f.length),1<=f[k].bud/\budS (f.take k)+f[k].bud<=fr
theorem usedJ_map (j:Nat)(f:List Sl):usedJ (f.map (fun s=>(j,s))) j=budS f:=by
 induction f with
 | nil=>rfl
 | cons s r ih=>simp[usedJ,budS,ih]
theorem usedJ_other (j i:Nat)(h:i≠j)(f:List Sl):usedJ (f.map (fun s=>(j,s))) i=0:=by
 induction f with
 | nil=>rfl
 | cons s r ih=>simp[usedJ,ih];omega
theorem budR_app (fr:Nat)(P a b:List FSl):BudR fr P (a++b)↔BudR fr P a/\BudR fr (P++a) b:=by
 constructor
 .intro h;constructor
  .intro k hk;have:=h k (by simp;omega);rw[List.getElem_append_left hk,List.take_append_of_le_length (by omega)]at this;exact this
  .intro k hk;have:=h (a.length+k) (by simp;omega);rw[List.getElem_append_right (by omega)]at this;simp only[Nat.add_sub_cancel_left,List.take_length_add_append]at this;rw[List.append_assoc];exact this
 .rintro ⟨h1,h2⟩ k hk;rcases Nat.lt_or_ge k a.length with h|h
  .rw[List.getElem_append_left h,List.take_append_of_le_length (by omega)];exact h1 k h
  .have:=h2 (k-a.length) (by simp at hk;omega);rw[List.getElem_append_right h];have e:(a++b).take k=a++b.take (k-a.length):=by
    conv=>lhs;rw[show k=a.length+(k-a.length) by omega]
    rw[List.take_length_add_append]
   rw[e,←List.append_assoc];exact this
theorem budR_frame (fr j:Nat)(P:List FSl)(hP:usedJ P j=0)(f:List Sl):BudR fr P (f.map (fun s=>(j,s)))↔BudP fr f:=by
 constructor
 .intro h k hk;have:=h k (by simpa using hk);simp only[List.getElem_map,←List.map_take,usedJ_app,hP,usedJ_map,Nat.zero_add]at this;exact this
 .intro h k hk;have:=h k (by simpa using hk);simp only[List.getElem_map,←List.map_take,usedJ_app,hP,usedJ_map,Nat.zero_add];exact this
theorem budR_flat (fr:Nat):∀(fs:List (List Sl)) (j:Nat) (P:List FSl),(∀i,j<=i->usedJ P i=0)->(BudR fr P (zX j fs)↔∀f∈fs,BudP fr f)
 | [],j,P,_=>by simp[zX,BudR]
 | f::r,j,P,hP=>by
  rw[zX,budR_app,budR_frame fr j P (hP j (Nat.le_refl _)),budR_flat fr r (j+1) (P++f.map (fun s=>(j,s)))]
  .simp
  .intro i hi;rw[usedJ_app,hP i (by omega),usedJ_other j i (by omega)]
def nextJ (P:List FSl) (n:UInt8):Nat:=P.foldl (fun m x=>if x.2.nm=n then (if m<x.2.job+1 then x.2.job+1 else m) else m) 0
def lastF (P:List FSl) (n:UInt8):Nat:=P.foldl (fun m x=>if x.2.nm=n then x.1 else m) 0
def dupJ (P:List FSl) (x:FSl):Prop:=∃y∈P,y.2.nm=x.2.nm/\y.2.job=x.2.job/\y.1=x.1
def okR (P:List FSl) (x:FSl):Prop:=¬dupJ P x/\(x.2.job=nextJ P x.2.nm\/x.2.job+1=nextJ P x.2.nm)
def okP (P:List FSl) (x:FSl):Prop:=x.2.job=nextJ P x.2.nm\/(x.2.job+1=nextJ P x.2.nm/\lastF P x.2.nm≠x.1)
def JobsR (l:List FSl):Prop:=∀k (h:k<l.length),okR (l.take k) l[k]
def JobsP (l:List FSl):Prop:=∀k (h:k<l.length),okP (l.take k) l[k]
theorem nextJ_snoc (P:List FSl)(x:FSl)(n:UInt8):nextJ (P++[x]) n=if x.2.nm=n then (if nextJ P n<x.2.job+1 then x.2.job+1 else nextJ P n) else nextJ P n:=by
 unfold nextJ;rw[List.foldl_append];rfl
theorem lastF_snoc (P:List FSl)(x:FSl)(n:UInt8):lastF (P++[x]) n=if x.2.nm=n then x.1 else lastF P n:=by
 unfold lastF;rw[List.foldl_append];rfl
def JInv (P:List FSl):Prop:=∀n,((∀z∈P,z.2.nm≠n)/\nextJ P n=0)\/((∃y∈P,y.2.nm=n/\y.1=lastF P n/\y.2.job+1=nextJ P n)/\∀z∈P,z.2.nm=n->z.1<=lastF P n/\z.2.job+1<=nextJ P n)
theorem ok_same {P:List FSl}{x:FSl}(h:JInv P)(hm:∀z∈P,z.1<=x.1):okR P x↔okP P x:=by
 unfold okR okP;rcases h x.2.nm with⟨h1,h2⟩|⟨⟨y,hy,hyn,hyf,hyj⟩,h2⟩
 .rw[h2];constructor
  .rintro ⟨_,h3|h3⟩
   .exact .inl h3
   .omega
  .rintro (h3|⟨h3,_⟩)
   .refine⟨?_,.inl h3⟩;rintro ⟨z,hz,hzn,_⟩;exact h1 z hz hzn
   .omega
 .constructor
  .rintro ⟨hd,h3|h3⟩
   .exact .inl h3
   .refine .inr ⟨h3,?_⟩;intro he;exact hd ⟨y,hy,hyn,by omega,by omega⟩
  .rintro (h3|⟨h3,h4⟩)
   .refine⟨?_,.inl h3⟩;rintro ⟨z,hz,hzn,hzj,_⟩;have:=(h2 z hz hzn).2;omega
   .refine⟨?_,.inr h3⟩;rintro ⟨z,hz,hzn,hzj,hzf⟩;have h5:=(h2 z hz hzn).1;have h6:=hm y hy;omega
theorem jinv_snoc {P:List FSl}{x:FSl}(h:JInv P)(hm:∀z∈P,z.1<=x.1)(hk:x.2.job=nextJ P x.2.nm\/x.2.job+1=nextJ P x.2.nm):JInv (P++[x]):=by
 intro n;rw[nextJ_snoc,lastF_snoc];by_cases hn:x.2.nm=n
 .subst hn;right;have hnx:(if nextJ P x.2.nm<x.2.job+1 then x.2.job+1 else nextJ P x.2.nm)=x.2.job+1:=by split<;>omega
  simp only[if_true];rw[hnx];refine⟨⟨x,by simp,rfl,rfl,rfl⟩,?_⟩;intro z hz hzn;rcases List.mem_append.1 hz with hz|hz
  .refine⟨hm z hz,?_⟩;rcases h x.2.nm with⟨h1,_⟩|⟨_,h2⟩
   .exact absurd hzn (h1 z hz)
   .have:=(h2 z hz hzn).2;omega
  .simp at hz;subst hz;omega
 .rw[if_neg hn,if_neg hn];rcases h n with⟨h1,h2⟩|⟨⟨y,hy,h3⟩,h2⟩
  .left;refine⟨?_,h2⟩;intro z hz;rcases List.mem_append.1 hz with hz|hz
   .exact h1 z hz
   .simp at hz;subst hz;exact hn
  .right;refine⟨⟨y,by simp[hy],h3⟩,?_⟩;intro z hz hzn;rcases List.mem_append.1 hz with hz|hz
   .exact h2 z hz hzn
   .simp at hz;subst hz;exact absurd hzn hn
def Rises (l:List FSl):Prop:=∀i j (hi:i<l.length) (hj:j<l.length),i<=j->l[i].1<=l[j].1
theorem take_mem {l:List FSl}{k:Nat}{z:FSl}(h:z∈l.take k):∃i,∃hi:i<l.length,i<k/\l[i]=z:=by
 obtain⟨i,hi,rfl⟩:=List.mem_iff_getElem.1 h;simp at hi;exact⟨i,by omega,by omega,by simp⟩
theorem jinv_take {l:List FSl}(hr:Rises l):∀k,k<=l.length->(∀i (h:i<l.length),i<k->l[i].2.job=nextJ (l.take i) l[i].2.nm\/l[i].2.job+1=nextJ (l.take i) l[i].2.nm)->JInv (l.take k)/\∀n,nextJ (l.take k) n<=k
 | 0,_,_=>by
  simp only[List.take_zero];exact⟨fun n=>.inl ⟨by simp,rfl⟩,fun n=>Nat.le_refl _⟩
 | k+1,hk,h=>by
  obtain⟨h1,h2⟩:=jinv_take hr k (by omega) (fun i hi hik=>h i hi (by omega));rw[List.take_succ_eq_append_getElem (by omega)];have hx:=h k (by omega) (by omega);refine⟨jinv_snoc h1 ?_ hx,?_⟩
  .intro z hz;obtain⟨i,hi,hik,rfl⟩:=take_mem hz;exact hr i k hi (by omega) (by omega)
  .intro n;rw[nextJ_snoc];have:=h2 n;split
   .rename_i hn;subst hn;split<;>omega
   .omega
theorem jobs_same {l:List FSl}(hr:Rises l):JobsR l↔JobsP l:=by
 have key:∀k,k<=l.length->((∀i (h:i<l.length),i<k->okR (l.take i) l[i])↔(∀i (h:i<l.length),i<k->okP (l.take i) l[i])):=by
  intro k
  induction k with
  | zero=>intro _;simp
  | succ k ih=>
   intro hk;have ih:=ih (by omega);have hm:∀z∈l.take k,z.1<=l[k].1:=by
    intro z hz;obtain⟨i,hi,hik,rfl⟩:=take_mem hz;exact hr i k hi (by omega) (by omega)
   constructor
   .intro h i hi hik;have h0:=ih.1 (fun i hi hik=>h i hi (by omega));rcases Nat.lt_or_ge i k with h1|h1
    .exact h0 i hi h1
    .have:i=k:=by omega
     subst this;exact(ok_same (jinv_take hr i (by omega) (fun j hj hjk=>(h j hj (by omega)).2)).1 hm).1 (h i hi (by omega))
   .intro h i hi hik;have h0:=ih.2 (fun i hi hik=>h i hi (by omega));rcases Nat.lt_or_ge i k with h1|h1
    .exact h0 i hi h1
    .have:i=k:=by omega
     subst this;exact(ok_same (jinv_take hr i (by omega) (fun j hj hjk=>(h0 j hj (by omega)).2)).1 hm).2 (h i hi (by omega))
 have:=key l.length (Nat.le_refl _);exact⟨fun h k hk=>this.1 (fun i hi _=>h i hi) k hk hk,fun h k hk=>this.2 (fun i hi _=>h i hi) k hk hk⟩
theorem flatF_mem:∀(fs:List (List Sl)) (j:Nat) (x:FSl),x∈zX j fs->j<=x.1/\x.1<j+fs.length/\∃f∈fs,x.2∈f
 | [],j,x,h=>by simp[zX]at h
 | f::r,j,x,h=>by
  rw[zX]at h;rcases List.mem_append.1 h with h|h
  .simp at h;obtain⟨s,hs,rfl⟩:=h;exact⟨Nat.le_refl _,by simp,f,by simp,hs⟩
  .obtain⟨h1,h2,g,hg,h3⟩:=flatF_mem r (j+1) x h;exact⟨by omega,by simp;omega,g,by simp[hg],h3⟩
theorem flatF_rises:∀(fs:List (List Sl)) (j:Nat),Rises (zX j fs)
 | [],j=>by intro a b ha;simp[zX]at ha
 | f::r,j=>by
  intro a b ha hb hab;have ih:=flatF_rises r (j+1);simp only[zX];rcases Nat.lt_or_ge a f.length with h1|h1
  .rw[List.getElem_append_left (by simpa using h1)];simp only[List.getElem_map];rcases Nat.lt_or_ge b f.length with h2|h2
   .rw[List.getElem_append_left (by simpa using h2)];simp
   .rw[List.getElem_append_right (by simpa using h2)];have:=(flatF_mem r (j+1) _ (List.getElem_mem (l:=zX (j+1) r) (n:=b-(f.map (fun s=>(j,s))).length) (by simp[zX]at hb ⊢;omega))).1;omega
  .rw[List.getElem_append_right (by simpa using h1),List.getElem_append_right (by simp;omega)];exact ih _ _ _ _ (by simp;omega)
theorem flatF_len:∀(fs:List (List Sl)) (j:Nat),(zX j fs).length=fs.flatten.length
 | [],j=>rfl
 | f::r,j=>by simp[zX,flatF_len r (j+1)]
theorem flatF_snd:∀(fs:List (List Sl)) (j:Nat),(zX j fs).map Prod.snd=fs.flatten
 | [],j=>rfl
 | f::r,j=>by simp[zX,flatF_snd r (j+1),Function.comp_def]
theorem flatF_snoc:∀(fs:List (List Sl)) (j:Nat) (f:List Sl),zX j (fs++[f])=zX j fs++f.map (fun s=>(j+fs.length,s))
 | [],j,f=>by simp[zX]
 | g::r,j,f=>by
  simp only[List.cons_append,zX,flatF_snoc r (j+1) f,List.append_assoc,List.length_cons];rw[show j+1+r.length=j+(r.length+1) by omega]
structure Sound (t:Tb):Prop where
 c1:1<=t.cyc
 c2:t.cyc<=60
 c3:t.fr*t.fs.length=t.cyc
 bud:∀f∈t.fs,BudP t.fr f
 jobs:JobsP (zX 0 t.fs)
theorem budP_sum {fr:Nat}{f:List Sl}(h:BudP fr f):f.length<=budS f/\budS f<=fr:=by
 have key:∀k,k<=f.length->k<=budS (f.take k)/\(k=0\/budS (f.take k)<=fr):=by
  intro k
  induction k with
  | zero=>intro _;simp
  | succ k ih=>
   intro hk;have h1:=ih (by omega);have h2:=h k (by omega);rw[List.take_succ_eq_append_getElem (by omega),budS_app];simp only[budS];omega
 have:=key f.length (Nat.le_refl _);rw[List.take_length]at this;refine⟨this.1,?_⟩;rcases this.2 with h0|h0
 .have:f=[]:=List.length_eq_zero_iff.1 h0;subst this;simp[budS]
 .exact h0
theorem flatten_le {n:Nat}:∀(fs:List (List Sl)),(∀f∈fs,f.length<=n)->fs.flatten.length<=n*fs.length
 | [],_=>by simp
 | f::r,h=>by
  have h1:=h f (by simp);have h2:=flatten_le r (fun g hg=>h g (by simp[hg]));simp only[List.flatten_cons,List.length_append,List.length_cons,Nat.mul_add,Nat.mul_one];omega
theorem Sound.frames {t:Tb}(h:Sound t):1<=t.fr/\t.fr<=60/\1<=t.fs.length/\t.fs.length<=60/\t.fs.flatten.length<=60:=by
 have h1:=h.c1;have h2:=h.c2;have h3:=h.c3;have hf:1<=t.fr:=by
  rcases Nat.eq_zero_or_pos t.fr with h0|h0
  .rw[h0]at h3;omega
  .exact h0
 have hn:1<=t.fs.length:=by
  rcases Nat.eq_zero_or_pos t.fs.length with h0|h0
  .rw[h0]at h3;omega
  .exact h0
 have e1:t.fr<=t.fr*t.fs.length:=Nat.le_mul_of_pos_right _ (by omega);have e2:t.fs.length<=t.fr*t.fs.length:=Nat.le_mul_of_pos_left _ (by omega);have e3:=flatten_le (n:=t.fr) t.fs (fun f hf=>by have:=budP_sum (h.bud f hf);omega);omega
theorem Sound.small {t:Tb}(h:Sound t):∀f∈t.fs,f.length<=60/\∀s∈f,s.job<60/\1<=s.bud/\s.bud<=60:=by
 intro f hf;obtain⟨h1,h2,h3,h4,h5⟩:=h.frames;have hb:=h.bud f hf;have hs:=budP_sum hb;refine⟨by omega,?_⟩;intro s hsf;obtain⟨k,hk,rfl⟩:=List.mem_iff_getElem.1 hsf;have hk':=hb k hk;refine⟨?_,by omega,by omega⟩;have hm:f[k]∈(zX 0 t.fs).map Prod.snd:=by
  rw[flatF_snd];exact List.mem_flatten.2 ⟨f,hf,hsf⟩
 obtain⟨x,hx,hxe⟩:=List.mem_map.1 hm;obtain⟨i,hi,rfl⟩:=List.mem_iff_getElem.1 hx;have hj:=(jobs_same (flatF_rises t.fs 0)).2 h.jobs;have hn:=(jinv_take (flatF_rises t.fs 0) i (by omega) (fun j hj' _=>(hj j hj').2)).2 (zX 0 t.fs)[i].2.nm;have hji:=(hj i hi).2;have hl:=flatF_len t.fs 0;rw[←hxe];omega
def slTxt (s:Sl):List UInt8:=[s.nm]++dL s.job++[58]++dL s.bud
def frTxt:List Sl->List UInt8
 | []=>[]
 | [s]=>slTxt s
 | s::r=>slTxt s++[44]++frTxt r
def hdTxt (c f:Nat):List UInt8:=[99,121,99,108,101,32]++dL c++[32,102,114,97,109,101,32]++dL f++[59,10]
def tbTxt (t:Tb):List UInt8:=hdTxt t.cyc t.fr++t.fs.flatMap (fun f=>frTxt f++[59,10])
theorem slTxt_len (s:Sl):(slTxt s).length<=6:=by
 have h1:=dL_len s.job;have h2:=dL_len s.bud;simp[slTxt];omega
theorem frTxt_len:∀(f:List Sl),(frTxt f).length<=7*f.length
 | []=>by simp[frTxt]
 | [s]=>by have:=slTxt_len s;simp[frTxt];omega
 | s::x::r=>by
  have h1:=slTxt_len s;have h2:=frTxt_len (x::r);simp[frTxt]at h2 ⊢;omega
theorem frames_len:∀(fs:List (List Sl)),(fs.flatMap (fun f=>frTxt f++[59,10])).length<=7*fs.flatten.length+2*fs.length
 | []=>by simp
 | f::r=>by
  have h1:=frTxt_len f;have h2:=frames_len r;simp at h2 ⊢;omega
theorem hdTxt_len (c f:Nat):(hdTxt c f).length<=19:=by
 have h1:=dL_len c;have h2:=dL_len f;simp[hdTxt];omega
theorem tbTxt_len {t:Tb}(h:Sound t):(tbTxt t).length<=800:=by
 have h1:=hdTxt_len t.cyc t.fr;have h2:=frames_len t.fs;obtain⟨_,_,_,h3,h4⟩:=h.frames;unfold tbTxt;simp only[List.length_append];omega
section
open Go.RowKit
def fsk (l:List FSl) (k:Nat):FSl:=l.getD k (0,⟨0,0,0⟩)
theorem fsk_eq {l:List FSl}{k:Nat}(h:k<l.length):l[k]=fsk l k:=by simp[fsk,List.getD_eq_getElem?_getD,h]
def flCells (x:FSl):List Value:=slCells x.1 x.2
def flRow (l:List FSl):List Value:=l.flatMap flCells
theorem flRow_get (T:List FSl):∀(j:Nat),j<T.length->∀o,o<4->(flRow T)[j*4+o]? =(flCells (fsk T j))[o]? := by
 induction T with
 | nil=>intro j h;simp at h
 | cons t r ih=>
  intro j hj o ho;have e:flRow (t::r)=flCells t++flRow r:=rfl;have el:(flCells t).length=4:=rfl
  cases j with
  | zero=>rw[e,List.getElem?_append_left (by omega)];simp[fsk]
  | succ j=>
   have:=ih j (by simpa using hj) o ho;rw[e,List.getElem?_append_right (by omega),el,show (j+1)*4+o-4=j*4+o by omega,this];simp[fsk]
def RowF (w:World) (g:Nat) (l:List FSl):Prop:=∀k,k<l.length->
 w.cell? ⟨g,k*4,none⟩=some (.int .i64 (fsk l k).1)/\w.cell? ⟨g,k*4+1,none⟩=some (.int .u8 (fsk l k).2.nm.toNat)/\w.cell? ⟨g,k*4+2,none⟩=some (.int .i64 (fsk l k).2.job)/\w.cell? ⟨g,k*4+3,none⟩=some (.int .i64 (fsk l k).2.bud)
theorem rowF_own {w:World}{base g cap:Nat}{l:List FSl}(h:w.ownsRow base 44 4 (.slice (some ⟨g,0,none⟩) l.length cap) l.length (flRow l)):RowF w g l:=by
 intro k hk;have e:∀o,o<4->w.cell? ⟨g,k*4+o,none⟩=(flCells (fsk l k))[o]? := fun o ho=>by rw[h.cellAt _ (by omega)];exact flRow_get l k hk o ho
 have e0:=e 0 (by omega);simp only[Nat.add_zero]at e0;rw[e0,e 1 (by omega),e 2 (by omega),e 3 (by omega)];exact⟨rfl,rfl,rfl,rfl⟩
theorem RowF.below {w w':World}{g B:Nat}{l:List FSl}(h:RowF w g l)(hb:Below B w w')(hg:g<B):RowF w' g l:=by
 intro k hk;have e:∀o,w'.cell? ⟨g,o,none⟩=w.cell? ⟨g,o,none⟩:=fun o=>hb.cell (p:=⟨g,o,none⟩) hg;rw[e,e,e,e];exact h k hk
structure TBx (w wr:World) (c f:Nat) (sv:Value):Prop where
 h:wr.heap[w.heap.size]? =some (.cells #[.int .i64 c,.int .i64 f,sv] 39 (0,0))
 b:Below w.heap.size w wr
section
variable {w wr:World} {c f:Nat} {sv:Value}
theorem TBx.start (w:World)(c f:Nat)(sv:Value):TBx w (w.alloc (.cells #[.int .i64 c,.int .i64 f,sv] 39)) c f sv:=⟨zW _ _ _,zN _ _⟩
theorem TBx.keep (h:TBx w wr c f sv){w':World}(hb:Below wr.heap.size wr w'):TBx w w' c f sv:=⟨zK h.h hb,h.b.trans (hb.mono h.b.size)⟩
theorem TBx.drewN (h:TBx w wr c f sv)(n:Nat):TBx w (wr.drewN n) c f sv:=h.keep (below_drewN (Below.refl _ _) n)
theorem TBx.alloc (h:TBx w wr c f sv)(o:Obj):TBx w (wr.alloc o) c f sv:=h.keep (zN _ _)
theorem TBx.cells (h:TBx w wr c f sv):wr.cell? ⟨w.heap.size,0,none⟩=some (.int .i64 c)/\wr.cell? ⟨w.heap.size,1,none⟩=some (.int .i64 f)/\wr.cell? ⟨w.heap.size,2,none⟩=some sv:=by
 refine⟨?_,?_,?_⟩<;>(rw[zC h.h];rfl)
end
def BoolPost (Q:Prop) (w:World) (e:Ending) (w':World):Prop:=∃b:Bool,e=.returned (.bool b)/\(b=true↔Q)/\Below w.heap.size w w'
theorem boolPost_no {Q:Prop}{w w':World}{v:Value}(hv:v=.bool false)(h:¬Q)(hb:Below w.heap.size w w'):BoolPost Q w (.returned v) w':=⟨false,by rw[hv],by simp[h],hb⟩
theorem boolPost_yes {Q:Prop}{w w':World}{v:Value}(hv:v=.bool true)(h:Q)(hb:Below w.heap.size w w'):BoolPost Q w (.returned v) w':=⟨true,by rw[hv],by simp[h],hb⟩
def FSl.small (x:FSl):Prop:=x.1<=60/\x.2.job<=9999/\x.2.bud<=9999
theorem dup_snoc (P:List FSl)(y x:FSl):dupJ (P++[y]) x↔dupJ P x\/(y.2.nm=x.2.nm/\y.2.job=x.2.job/\y.1=x.1):=by
 unfold dupJ;simp only[List.mem_append,List.mem_singleton];constructor
 .rintro ⟨z,hz|rfl,h⟩
  .exact .inl ⟨z,hz,h⟩
  .exact .inr h
 .rintro (⟨z,hz,h⟩|h)
  .exact⟨z,.inl hz,h⟩
  .exact⟨y,.inr rfl,h⟩
theorem take_next {l:List FSl}{k:Nat}(h:k<l.length):l.take (k+1)=l.take k++[fsk l k]:=by
 rw[List.take_succ_eq_append_getElem h,fsk_eq h]
theorem nextJ_le {l:List FSl}(hs:∀k,k<l.length->(fsk l k).small)(n:UInt8):∀k,k<=l.length->nextJ (l.take k) n<=10000
 | 0,_=>by simp[nextJ]
 | k+1,h=>by
  have ih:=nextJ_le hs n k (by omega);have hk:=(hs k (by omega)).2.1;rw[take_next (by omega),nextJ_snoc];split
  .split<;>omega
  .exact ih
def JTo (l:List FSl) (k:Nat):Prop:=∀i,i<k->okR (l.take i) (fsk l i)
theorem jTo_all {l:List FSl}:JobsR l↔JTo l l.length:=by
 constructor
 .intro h i hi;have:=h i hi;rw[fsk_eq hi]at this;exact this
 .intro h i hi;rw[fsk_eq hi];exact h i hi
theorem jTo_step {l:List FSl}{k:Nat}(h:JTo l k)(hk:okR (l.take k) (fsk l k)):JTo l (k+1):=by
 intro i hi;rcases Nat.lt_or_ge i k with h1|h1
 .exact h i h1
 .have:i=k:=by omega
  subst this;exact hk
theorem rjobs_any (c f:Nat)(l:List FSl)(g cap:Nat)(w:World)(hg:g<w.heap.size)(hr:RowF w g l)(hn:l.length<=300)(hs:∀k,k<l.length->(fsk l k).small):
  Calls Tryz.prog 81 #[.agg #[.int .i64 c,.int .i64 f,.slice (some ⟨g,0,none⟩) l.length cap]] w (BoolPost (JobsR l) w):=by
 have Hr:=hide hr;have H0:=hide (TBx.start w c f (.slice (some ⟨g,0,none⟩) l.length cap));have Hs:=hide hs;clear hr hs;go_enter Tryz.func81,Tryz.ntmps81;go_wp2_with fail
 go_loopw [3] (fun i wr=>∃k:Nat,k<=l.length/\i=.int .i64 k/\TBx w wr c f (.slice (some ⟨g,0,none⟩) l.length cap)/\JTo l k) (fun i _=>l.length-(intOf i).toNat)
 case atStart=>exact⟨0,by omega,rfl,H0.out,fun i hi=>by omega⟩
 case round=>
  clear H0;obtain⟨k,hk,rfl,hT,hJ⟩:=hrel;obtain⟨x0,x1,x2⟩:=hT.cells;have HT:=hide hT;have HJ:=hide hJ;clear hT hJ;by_cases hlt:k<l.length
  .have hlt':(k:Int)<l.length:=by omega
   go_wp2_with fail;clear x0 x1 x2
   go_loopw [4,5] (fun nx j wr=>∃q:Nat,q<=k/\j=.int .i64 q/\nx=.int .i64 (nextJ (l.take q) (fsk l k).2.nm:Nat)/\TBx w wr c f (.slice (some ⟨g,0,none⟩) l.length cap)/\Hid (¬dupJ (l.take q) (fsk l k))) (fun _ j _=>k-(intOf j).toNat)
   case atStart=>exact⟨0,by omega,rfl,rfl,HT.out,by simp[Hid,dupJ]⟩
   case round=>
    clear HT;obtain⟨q,hq,rfl,rfl,hT,hD⟩:=hrel;obtain⟨x0,x1,x2⟩:=hT.cells;have HT:=hide hT;have hR:=Hr.out.below hT.b hg;obtain⟨k0,k1,k2,k3⟩:=hR k hlt;have hks:=Hs.out k hlt;obtain⟨hk1,hk2,hk3⟩:=hks;have hnl:=nextJ_le Hs.out (fsk l k).2.nm q (by omega);by_cases hqk:q<k
    .have hqk':(q:Int)<k:=by omega
     obtain⟨q0,q1,q2,q3⟩:=hR q (by omega);obtain⟨hq1,hq2,hq3⟩:=Hs.out q (by omega);have htk:=hide (take_next (l:=l) (k:=q) (by omega));clear hT hR;by_cases hnm:(fsk l q).2.nm=(fsk l k).2.nm
     .have hb:(((fsk l q).2.nm.toNat:Int)==(fsk l k).2.nm.toNat)=true:=by rw[u8_eq];simpa using hnm
      have hnx:Hid (nextJ (l.take (q+1)) (fsk l k).2.nm=if nextJ (l.take q) (fsk l k).2.nm<(fsk l q).2.job+1 then (fsk l q).2.job+1 else nextJ (l.take q) (fsk l k).2.nm):=by
       unfold Hid;rw[htk.out,nextJ_snoc,if_pos hnm]
      have hds:Hid (dupJ (l.take (q+1)) (fsk l k)↔(fsk l q).2.job=(fsk l k).2.job/\(fsk l q).1=(fsk l k).1):=by
       unfold Hid;rw[htk.out,dup_snoc];constructor
       .rintro (h|⟨_,h⟩)
        .exact absurd h hD.out
        .exact h
       .intro h;exact .inr ⟨hnm,h⟩
      have Hnm:=hide hnm;clear hnm htk;generalize nextJ (l.take q) (fsk l k).2.nm=nq at *;have hcase:((((fsk l q).2.job:Int)==(fsk l k).2.job)=false)\/((((fsk l q).2.job:Int)==(fsk l k).2.job)=true/\(((fsk l q).1:Int)==(fsk l k).1)=false)\/((((fsk l q).2.job:Int)==(fsk l k).2.job)=true/\(((fsk l q).1:Int)==(fsk l k).1)=true):=by
       cases (((fsk l q).2.job:Int)==(fsk l k).2.job)<;>cases (((fsk l q).1:Int)==(fsk l k).1)<;>simp
      by_cases hgt:nq<(fsk l q).2.job+1
      .have hgt':(nq:Int)<(fsk l q).2.job+1:=by omega
       have hnx2:Hid (nextJ (l.take (q+1)) (fsk l k).2.nm=(fsk l q).2.job+1):=by unfold Hid;rw[hnx.out,if_pos hgt]
       clear hnx hgt;rcases hcase with h1|⟨h1,h2⟩|⟨h1,h2⟩
       .have hnd:Hid (¬dupJ (l.take (q+1)) (fsk l k)):=by unfold Hid;rw[hds.out];simp at h1;omega
        clear hds;go_wp2
        go_quiet (fail)
        go_wp2
        go_quiet (fail)
        go_wp2;go_roundw
        case rel=>exact⟨q+1,by omega,by go_num,by rw[hnx2.out];go_num,HT.out.drewN _,hnd.out⟩
        case measure=>simp[intOf];omega
       .have hnd:Hid (¬dupJ (l.take (q+1)) (fsk l k)):=by unfold Hid;rw[hds.out];simp at h2;omega
        clear hds;go_wp2
        go_quiet (fail)
        go_wp2
        go_quiet (fail)
        go_wp2;go_roundw
        case rel=>exact⟨q+1,by omega,by go_num,by rw[hnx2.out];go_num,HT.out.drewN _,hnd.out⟩
        case measure=>simp[intOf];omega
       .have hno:Hid (¬JobsR l):=by
         unfold Hid;intro hall;have:=(jTo_all.1 hall k hlt).1;refine this ?_;obtain⟨z,hz,hz'⟩:=hds.out.2 ⟨by simp at h1;omega,by simp at h2;omega⟩;exact⟨z,List.mem_of_mem_take (i:=q+1) (by rw[List.take_take];rw[show min (q+1) k=q+1 by omega];exact hz),hz'⟩
        clear hds;go_wp2
        go_quiet (fail)
        go_wp2
        go_quiet (fail)
        go_wp2;go_ret;exact boolPost_no rfl hno.out ((HT.out.drewN _).drewN _).b
      .have hgt':¬(nq:Int)<(fsk l q).2.job+1:=by omega
       have hnx2:Hid (nextJ (l.take (q+1)) (fsk l k).2.nm=nq):=by unfold Hid;rw[hnx.out,if_neg hgt]
       clear hnx hgt;rcases hcase with h1|⟨h1,h2⟩|⟨h1,h2⟩
       .have hnd:Hid (¬dupJ (l.take (q+1)) (fsk l k)):=by unfold Hid;rw[hds.out];simp at h1;omega
        clear hds;go_wp2
        go_quiet (fail)
        go_wp2
        go_quiet (fail)
        go_wp2;go_roundw
        case rel=>exact⟨q+1,by omega,by go_num,by rw[hnx2.out],HT.out.drewN _,hnd.out⟩
        case measure=>simp[intOf];omega
       .have hnd:Hid (¬dupJ (l.take (q+1)) (fsk l k)):=by unfold Hid;rw[hds.out];simp at h2;omega
        clear hds;go_wp2
        go_quiet (fail)
        go_wp2
        go_quiet (fail)
        go_wp2;go_roundw
        case rel=>exact⟨q+1,by omega,by go_num,by rw[hnx2.out],HT.out.drewN _,hnd.out⟩
        case measure=>simp[intOf];omega
       .have hno:Hid (¬JobsR l):=by
         unfold Hid;intro hall;have:=(jTo_all.1 hall k hlt).1;refine this ?_;obtain⟨z,hz,hz'⟩:=hds.out.2 ⟨by simp at h1;omega,by simp at h2;omega⟩;exact⟨z,List.mem_of_mem_take (i:=q+1) (by rw[List.take_take];rw[show min (q+1) k=q+1 by omega];exact hz),hz'⟩
        clear hds;go_wp2
        go_quiet (fail)
        go_wp2
        go_quiet (fail)
        go_wp2;go_ret;exact boolPost_no rfl hno.out ((HT.out.drewN _).drewN _).b
     .have hb:(((fsk l q).2.nm.toNat:Int)==(fsk l k).2.nm.toNat)=false:=by rw[u8_eq];simpa using hnm
      have hnx:Hid (nextJ (l.take (q+1)) (fsk l k).2.nm=nextJ (l.take q) (fsk l k).2.nm):=by
       unfold Hid;rw[htk.out,nextJ_snoc,if_neg hnm]
      have hnd:Hid (¬dupJ (l.take (q+1)) (fsk l k)):=by
       unfold Hid;rw[htk.out,dup_snoc];rintro (h|⟨h,_⟩)
       .exact hD.out h
       .exact hnm h
      clear hnm htk;go_wp2
      go_quiet (fail)
      go_wp2;go_roundw
      case rel=>exact⟨q+1,by omega,by go_num,by rw[hnx.out],HT.out.drewN _,hnd.out⟩
      case measure=>simp[intOf];omega
    .have hqe:q=k:=by omega
     subst hqe;have hqk':¬(q:Int)<q:=by omega
     clear hT hR hqk;generalize hnq:nextJ (l.take q) (fsk l q).2.nm=nq at *;have Hnq:=hide hnq;clear hnq;have hcase:(((fsk l q).2.job:Int) != nq)=false\/((((fsk l q).2.job:Int) != nq)=true/\(((fsk l q).2.job:Int) != (nq:Int)-1)=false)\/((((fsk l q).2.job:Int) != nq)=true/\(((fsk l q).2.job:Int) != (nq:Int)-1)=true):=by
      cases (((fsk l q).2.job:Int) != nq)<;>cases (((fsk l q).2.job:Int) != (nq:Int)-1)<;>simp
     rcases hcase with h1|⟨h1,h2⟩|⟨h1,h2⟩
     .have hok:Hid (JTo l (q+1)):=by
       refine jTo_step HJ.out ⟨hD.out,.inl ?_⟩;rw[Hnq.out];simp at h1;omega
      go_wp2;go_roundw
      case rel=>exact⟨q+1,by omega,by go_num,HT.out,hok.out⟩
      case measure=>simp[intOf];omega
     .have hok:Hid (JTo l (q+1)):=by
       refine jTo_step HJ.out ⟨hD.out,.inr ?_⟩;rw[Hnq.out];simp at h2;omega
      go_wp2;go_roundw
      case rel=>exact⟨q+1,by omega,by go_num,HT.out,hok.out⟩
      case measure=>simp[intOf];omega
     .have hno:Hid (¬JobsR l):=by
       intro hall;have:=(jTo_all.1 hall q hlt).2;rw[Hnq.out]at this;simp at h1 h2;omega
      go_wp2;go_ret;exact boolPost_no rfl hno.out HT.out.b
  .have hlt':¬(k:Int)<l.length:=by omega
   have hke:k=l.length:=by omega
   have hok:Hid (JobsR l):=by
    rw[hke]at HJ;exact jTo_all.2 HJ.out
   go_wp2;go_ret;exact boolPost_yes rfl hok.out HT.out.b
end
end Go.Proofs.YtbdffcjganlblaaGreatDoor
