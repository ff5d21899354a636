import Derived.Test.YtbdffcjganlblaaGreatDoorAPnMtoEdD
import Derived.Test.YtbdffcjganlblaaGreatDoorAGrAtoDsA
import Derived.Test.YtbdffcjganlblaaGreatDoorARefRtoProgA
set_option linter.unusedVariables false
set_option linter.unusedSimpArgs false
set_option maxRecDepth 100000
set_option maxHeartbeats 16000000
namespace Go.Proofs.YtbdffcjganlblaaGreatDoor
structure FS where
 has:Nat->Nat->Nat
 used:Nat->Nat
 seen:Nat->Bool
def setB (s:Nat->Bool) (j:Nat):Nat->Bool:=fun i=>if i=j then true else s i
def addN (f:Nat->Nat) (j:Nat):Nat->Nat:=fun i=>if i=j then f i+1 else f i
def add2 (h:Nat->Nat->Nat) (k j:Nat):Nat->Nat->Nat:=fun a i=>if a=k then addN (h a) j i else h a i
def sub2 (h:Nat->Nat->Nat) (k j:Nat):Nat->Nat->Nat:=fun a i=>if a=k then lessN (h a) j i else h a i
theorem sumN_addN {f:Nat->Nat}{j:Nat}:∀n,j<n->sumN (addN f j) n=sumN f n+1
 | 0,h=>by omega
 | n+1,h=>by
  rw[sumN,sumN];by_cases e:n=j
  .subst e;have h1:sumN (addN f n) n=sumN f n:=sumN_same n (fun i hi=>by unfold addN;rw[if_neg (by omega)]);have h2:addN f n n=f n+1:=by simp[addN]
   rw[h1,h2];omega
  .have ih:=sumN_addN (f:=f) (j:=j) n (by omega);have h2:addN f j n=f n:=by simp[addN,e]
   rw[h2];omega
theorem add2_col (h:Nat->Nat->Nat)(k j i:Nat):(fun a=>add2 h k j a i)=if i=j then addN (fun a=>h a i) k else fun a=>h a i:=by
 by_cases e:i=j
 .rw[if_pos e];funext a;unfold add2 addN;by_cases e2:a=k
  .rw[if_pos e2,if_pos e,if_pos e2]
  .rw[if_neg e2,if_neg e2]
 .rw[if_neg e];funext a;unfold add2 addN;by_cases e2:a=k
  .rw[if_pos e2,if_neg e]
  .rw[if_neg e2]
theorem sub2_col (h:Nat->Nat->Nat)(k j i:Nat):(fun a=>sub2 h k j a i)=if i=j then lessN (fun a=>h a i) k else fun a=>h a i:=by
 by_cases e:i=j
 .rw[if_pos e];funext a;unfold sub2 lessN;by_cases e2:a=k
  .rw[if_pos e2,if_pos e,if_pos e2]
  .rw[if_neg e2,if_neg e2]
 .rw[if_neg e];funext a;unfold sub2 lessN;by_cases e2:a=k
  .rw[if_pos e2,if_neg e]
  .rw[if_neg e2]
def jobL (g:Nat->FS->Bool×FS) (k j:Nat):List Nat->FS->Bool×FS
 | [],s=>(false,s)
 | m::ms,s=>if 0<s.has m j then (match g m s with|(true,t)=>(true,⟨add2 (sub2 t.has m j) k j,t.used,t.seen⟩)|(false,t)=>jobL g k j ms t) else jobL g k j ms s
def frmL (g:Nat->FS->Bool×FS) (J F:Nat) (fit:Nat->Nat->Bool) (k:Nat):List Nat->FS->Bool×FS
 | [],s=>(false,s)
 | j::js,s=>
  if fit k j=true/\s.seen j=false then
   if s.used j<F then (true,⟨add2 s.has k j,addN s.used j,setB s.seen j⟩)
   else (match jobL g k j (List.range J) ⟨s.has,s.used,setB s.seen j⟩ with|(true,t)=>(true,t)|(false,t)=>frmL g J F fit k js t)
  else frmL g J F fit k js s
def giveP (J n F:Nat) (fit:Nat->Nat->Bool):Nat->Nat->FS->Bool×FS
 | 0,_,s=>(false,s)
 | fuel+1,k,s=>frmL (giveP J n F fit fuel) J F fit k (List.range n) s
structure Fair (J n F:Nat) (fit:Nat->Nat->Bool) (s:FS):Prop where
 fits:∀k j,k<J->j<n->fit k j=false->s.has k j=0
 sums:∀j,j<n->sumN (fun k=>s.has k j) J=s.used j
 room:∀j,j<n->s.used j<=F
structure Got (J n F:Nat) (fit:Nat->Nat->Bool) (k:Nat) (s t:FS):Prop where
 fair:Fair J n F fit t
 rows:∀a,a<J->sumN (fun j=>t.has a j) n=sumN (fun j=>s.has a j) n+if a=k then 1 else 0
 kept:∀j,j<n->s.seen j=true->∀a,t.has a j=s.has a j
structure Tried (J n F:Nat) (fit:Nat->Nat->Bool) (s t:FS):Prop where
 has:t.has=s.has
 used:t.used=s.used
 mono:∀j,s.seen j=true->t.seen j=true
 full:∀j,j<n->t.seen j=true->s.seen j=false->s.used j=F
 shut:∀j,j<n->t.seen j=true->s.seen j=false->∀m,m<J->0<s.has m j->∀i,i<n->fit m i=true->t.seen i=true
def unseen (s:FS) (n:Nat):Nat:=sumN (fun j=>if s.seen j then 0 else 1) n
def SpecG (J n F:Nat) (fit:Nat->Nat->Bool) (g:Nat->FS->Bool×FS) (fuel:Nat):Prop:=
 ∀k s,k<J->Fair J n F fit s->unseen s n<fuel->((g k s).1=true->Got J n F fit k s (g k s).2)/\((g k s).1=false->Tried J n F fit s (g k s).2/\∀i,i<n->fit k i=true->(g k s).2.seen i=true)
theorem Tried.refl (J n F:Nat)(fit:Nat->Nat->Bool)(s:FS):Tried J n F fit s s:=⟨rfl,rfl,fun _ h=>h,fun j _ h1 h2=>absurd h1 (by rw[h2];decide),fun j _ h1 h2=>absurd h1 (by rw[h2];decide)⟩
theorem unseen_mono {s t:FS}(h:∀j,s.seen j=true->t.seen j=true)(n:Nat):unseen t n<=unseen s n:=by
 apply sumN_le;intro j _
 cases hs:s.seen j with
 | true=>simp[h j hs]
 | false=>
  simp only[Bool.false_eq_true,if_false];split<;>omega
theorem unseen_set {s:FS}{j n:Nat}(hj:j<n)(hs:s.seen j=false)(h u):unseen ⟨h,u,setB s.seen j⟩ n<unseen s n:=by
 refine sumN_lt n hj (fun i _=>?_) ?_
 .unfold setB;by_cases e:i=j
  .simp[e]
  .simp[e]
 .simp[setB,hs]
theorem fair_seen {J n F:Nat}{fit:Nat->Nat->Bool}{s t:FS}(h:Fair J n F fit s)(h1:t.has=s.has)(h2:t.used=s.used):Fair J n F fit t:=
 ⟨fun k j a b c=>by rw[h1];exact h.fits k j a b c,fun j a=>by rw[h1,h2];exact h.sums j a,fun j a=>by rw[h2];exact h.room j a⟩
theorem Tried.trans {J n F:Nat}{fit:Nat->Nat->Bool}{s t u:FS}(h:Tried J n F fit s t)(k:Tried J n F fit t u):Tried J n F fit s u:=by
 refine⟨k.has.trans h.has,k.used.trans h.used,fun j hj=>k.mono j (h.mono j hj),fun j hj hu hs=>?_,fun j hj hu hs m hm h0 i hi hf=>?_⟩
 .cases ht:t.seen j with
  | true=>exact h.full j hj ht hs
  | false=>
   have:=k.full j hj hu ht;rw[h.used]at this;exact this
 .cases ht:t.seen j with
  | true=>exact k.mono i (h.shut j hj ht hs m hm h0 i hi hf)
  | false=>exact k.shut j hj hu ht m hm (by rw[h.has];exact h0) i hi hf
theorem moved {J n F:Nat}{fit:Nat->Nat->Bool}{s t:FS}{k m j:Nat}(hk:k<J)(hm:m<J)(hj:j<n)(hf:fit k j=true)(hs:s.seen j=true)(h0:0<s.has m j)(G:Got J n F fit m s t):
  Fair J n F fit ⟨add2 (sub2 t.has m j) k j,t.used,t.seen⟩/\(∀a,a<J->sumN (fun i=>add2 (sub2 t.has m j) k j a i) n=sumN (fun i=>s.has a i) n+if a=k then 1 else 0)/\∀i,i<n->s.seen i=true->i≠j->∀a,add2 (sub2 t.has m j) k j a i=s.has a i:=by
 have hmj:0<t.has m j:=by rw[G.kept j hj hs m];exact h0
 refine⟨⟨?_,?_,G.fair.room⟩,?_,?_⟩
 .intro a i ha hi hfa;have h1:=G.fair.fits a i ha hi hfa;show add2 (sub2 t.has m j) k j a i=0;have hsub:sub2 t.has m j a i=0:=by
   unfold sub2 lessN;split
   .split<;>omega
   .exact h1
  unfold add2 addN;by_cases e:a=k
  .rw[if_pos e];by_cases e2:i=j
   .rw[e,e2,hf]at hfa
    cases hfa
   .rw[if_neg e2];exact hsub
  .rw[if_neg e];exact hsub
 .intro i hi;show sumN (fun a=>add2 (sub2 t.has m j) k j a i) J=t.used i;rw[add2_col,←G.fair.sums i hi];by_cases e:i=j
  .subst e;rw[if_pos rfl,sumN_addN J hk,sub2_col,if_pos rfl];exact sumN_less (f:=fun a=>t.has a i) hmj J hm
  .rw[if_neg e,sub2_col,if_neg e]
 .intro a ha;have hr:=G.rows a ha;have hsub:sumN (fun i=>sub2 t.has m j a i) n+(if a=m then 1 else 0)=sumN (fun i=>t.has a i) n:=by
   by_cases e:a=m
   .have e1:(fun i=>sub2 t.has m j a i)=lessN (t.has a) j:=by
     funext i;unfold sub2;rw[if_pos e]
    rw[e1,if_pos e];exact sumN_less (f:=t.has a) (by rw[e];exact hmj) n hj
   .have e1:(fun i=>sub2 t.has m j a i)=fun i=>t.has a i:=by
     funext i;unfold sub2;rw[if_neg e]
    rw[e1,if_neg e];rfl
  by_cases e:a=k
  .have e1:(fun i=>add2 (sub2 t.has m j) k j a i)=addN (fun i=>sub2 t.has m j a i) j:=by
    funext i;unfold add2;rw[if_pos e]
   rw[e1,sumN_addN n hj,if_pos e];omega
  .have e1:(fun i=>add2 (sub2 t.has m j) k j a i)=fun i=>sub2 t.has m j a i:=by
    funext i;unfold add2;rw[if_neg e]
   rw[e1,if_neg e];omega
 .intro i hi hsi hij a;rw[←G.kept i hi hsi a];unfold add2 sub2 addN lessN;by_cases e:a=k<;>by_cases e2:a=m<;>simp[e,e2,hij]
theorem jobL_any {J n F:Nat}{fit:Nat->Nat->Bool}{g:Nat->FS->Bool×FS}{fuel k j:Nat}(hg:SpecG J n F fit g fuel)(hk:k<J)(hj:j<n)(hf:fit k j=true):∀(ms:List Nat) (s:FS),(∀m∈ms,m<J)->Fair J n F fit s->unseen s n<fuel->s.seen j=true->
  ((jobL g k j ms s).1=true->Fair J n F fit (jobL g k j ms s).2/\(∀a,a<J->sumN (fun i=>(jobL g k j ms s).2.has a i) n=sumN (fun i=>s.has a i) n+if a=k then 1 else 0)/\∀i,i<n->s.seen i=true->i≠j->∀a,(jobL g k j ms s).2.has a i=s.has a i)/\
  ((jobL g k j ms s).1=false->Tried J n F fit s (jobL g k j ms s).2/\∀m∈ms,0<s.has m j->∀i,i<n->fit m i=true->(jobL g k j ms s).2.seen i=true)
 | [],s,_,_,_,_=>⟨fun h=>by simp[jobL]at h,fun _=>⟨Tried.refl _ _ _ _ _,fun m hm=>by simp at hm⟩⟩
 | m::ms,s,hms,hF,hu,hs=>by
  have hm:=hms m (by simp);by_cases h0:0<s.has m j
  .have e:jobL g k j (m::ms) s=(match g m s with|(true,t)=>(true,⟨add2 (sub2 t.has m j) k j,t.used,t.seen⟩)|(false,t)=>jobL g k j ms t):=by rw[jobL,if_pos h0]
   obtain⟨g1,g2⟩:=hg m s hm hF hu;rw[e]
   cases hgm:g m s with
   | mk b t=>
    rw[hgm]at g1 g2
    cases b with
    | true=>
     refine⟨fun _=>moved hk hm hj hf hs h0 (g1 rfl),fun h=>?_⟩;simp at h
    | false=>
     obtain⟨T,hfit⟩:=g2 rfl;have ih:=jobL_any hg hk hj hf ms t (fun x hx=>hms x (by simp[hx])) (fair_seen hF T.has T.used) (Nat.lt_of_le_of_lt (unseen_mono T.mono n) hu) (T.mono j hs);refine⟨fun h=>?_,fun h=>?_⟩
     .obtain⟨a1,a2,a3⟩:=ih.1 h;refine⟨a1,fun a ha=>?_,fun i hi hsi hij a=>?_⟩
      .have:=a2 a ha;rw[T.has]at this;exact this
      .have:=a3 i hi (T.mono i hsi) hij a;rw[T.has]at this;exact this
     .obtain⟨a1,a2⟩:=ih.2 h;refine⟨T.trans a1,fun x hx hx0 i hi hfx=>?_⟩;rcases List.mem_cons.1 hx with rfl|hx
      .exact a1.mono i (hfit i hi hfx)
      .exact a2 x hx (by rw[T.has];exact hx0) i hi hfx
  .have e:jobL g k j (m::ms) s=jobL g k j ms s:=by rw[jobL,if_neg h0]
   rw[e];have ih:=jobL_any hg hk hj hf ms s (fun x hx=>hms x (by simp[hx])) hF hu hs;refine⟨ih.1,fun h=>?_⟩;obtain⟨a1,a2⟩:=ih.2 h;refine⟨a1,fun x hx hx0 i hi hfx=>?_⟩;rcases List.mem_cons.1 hx with rfl|hx
   .exact absurd hx0 h0
   .exact a2 x hx hx0 i hi hfx
theorem frmL_any {J n F:Nat}{fit:Nat->Nat->Bool}{g:Nat->FS->Bool×FS}{fuel k:Nat}(hg:SpecG J n F fit g fuel)(hk:k<J):∀(js:List Nat) (s:FS),(∀j∈js,j<n)->Fair J n F fit s->unseen s n<fuel+1->
  ((frmL g J F fit k js s).1=true->Got J n F fit k s (frmL g J F fit k js s).2)/\
  ((frmL g J F fit k js s).1=false->Tried J n F fit s (frmL g J F fit k js s).2/\∀i∈js,fit k i=true->(frmL g J F fit k js s).2.seen i=true)
 | [],s,_,_,_=>⟨fun h=>by simp[frmL]at h,fun _=>⟨Tried.refl _ _ _ _ _,fun i hi=>by simp at hi⟩⟩
 | j::js,s,hjs,hF,hu=>by
  have hj:=hjs j (by simp);by_cases hc:fit k j=true/\s.seen j=false
  .by_cases hr:s.used j<F
   .have e:frmL g J F fit k (j::js) s=(true,⟨add2 s.has k j,addN s.used j,setB s.seen j⟩):=by rw[frmL,if_pos hc,if_pos hr]
    rw[e];refine⟨fun _=>⟨⟨?_,?_,?_⟩,?_,?_⟩,fun h=>by simp at h⟩
    .intro a i ha hi hfa;show add2 s.has k j a i=0;unfold add2 addN;by_cases e1:a=k
     .rw[if_pos e1];by_cases e2:i=j
      .rw[e1,e2,hc.1]at hfa
       cases hfa
      .rw[if_neg e2];exact hF.fits a i ha hi hfa
     .rw[if_neg e1];exact hF.fits a i ha hi hfa
    .intro i hi;show sumN (fun a=>add2 s.has k j a i) J=addN s.used j i;rw[add2_col];unfold addN;by_cases e2:i=j
     .rw[if_pos e2,if_pos e2];have:=sumN_addN (f:=fun a=>s.has a i) J hk;rw[hF.sums i hi]at this;exact this
     .rw[if_neg e2,if_neg e2];exact hF.sums i hi
    .intro i hi;show addN s.used j i<=F;unfold addN;split
     .rename_i e2;rw[e2];omega
     .exact hF.room i hi
    .intro a ha;show sumN (fun i=>add2 s.has k j a i) n=_;by_cases e1:a=k
     .have e2:(fun i=>add2 s.has k j a i)=addN (s.has a) j:=by
       funext i;unfold add2;rw[if_pos e1]
      rw[e2,sumN_addN n hj,if_pos e1]
     .have e2:(fun i=>add2 s.has k j a i)=fun i=>s.has a i:=by
       funext i;unfold add2;rw[if_neg e1]
      rw[e2,if_neg e1];rfl
    .intro i hi hsi a;show add2 s.has k j a i=s.has a i;unfold add2 addN;by_cases e1:a=k
     .rw[if_pos e1,if_neg];intro e2;rw[e2,hc.2]at hsi
      cases hsi
     .rw[if_neg e1]
   .have hful:s.used j=F:=by
     have:=hF.room j hj;omega
    have e:frmL g J F fit k (j::js) s=(match jobL g k j (List.range J) ⟨s.has,s.used,setB s.seen j⟩ with|(true,t)=>(true,t)|(false,t)=>frmL g J F fit k js t):=by rw[frmL,if_pos hc,if_neg hr]
    have hun:=unseen_set (s:=s) (n:=n) hj hc.2 s.has s.used;have J1:=jobL_any hg hk hj hc.1 (List.range J) ⟨s.has,s.used,setB s.seen j⟩ (fun m hm=>List.mem_range.1 hm) (fair_seen hF rfl rfl) (by omega) (by simp[setB]);have hset:∀i,s.seen i=true->setB s.seen j i=true:=fun i hi=>by unfold setB;split<;>first|rfl|exact hi
    rw[e]
    cases hjl:jobL g k j (List.range J) ⟨s.has,s.used,setB s.seen j⟩ with
    | mk b t=>
     rw[hjl]at J1
     cases b with
     | true=>
      refine⟨fun _=>?_,fun h=>by simp at h⟩;obtain⟨a1,a2,a3⟩:=J1.1 rfl;refine⟨a1,a2,fun i hi hsi a=>a3 i hi (hset i hsi) (fun e2=>?_) a⟩;rw[e2,hc.2]at hsi
      cases hsi
     | false=>
      obtain⟨T,hjobs⟩:=J1.2 rfl;have hseenj:t.seen j=true:=T.mono j (by simp[setB]);have T0:Tried J n F fit s t:=by
       refine⟨T.has,T.used,fun i hi=>T.mono i (hset i hi),fun i hi hti hsi=>?_,fun i hi hti hsi m hm h0 q hq hfq=>?_⟩
       .by_cases e2:i=j
        .rw[e2];exact hful
        .exact T.full i hi hti (by simp[setB,e2,hsi])
       .by_cases e2:i=j
        .subst e2;exact hjobs m (List.mem_range.2 hm) h0 q hq hfq
        .exact T.shut i hi hti (by simp[setB,e2,hsi]) m hm h0 q hq hfq
      have ih:=frmL_any hg hk js t (fun x hx=>hjs x (by simp[hx])) (fair_seen hF T0.has T0.used) (Nat.lt_of_le_of_lt (unseen_mono T0.mono n) hu);refine⟨fun h=>?_,fun h=>?_⟩
      .have G:=ih.1 h;refine⟨G.fair,fun a ha=>?_,fun i hi hsi a=>?_⟩
       .have:=G.rows a ha;rw[T0.has]at this;exact this
       .have:=G.kept i hi (T0.mono i hsi) a;rw[T0.has]at this;exact this
      .obtain⟨a1,a2⟩:=ih.2 h;refine⟨T0.trans a1,fun i hi hfi=>?_⟩;rcases List.mem_cons.1 hi with rfl|hi
       .exact a1.mono i hseenj
       .exact a2 i hi hfi
  .have e:frmL g J F fit k (j::js) s=frmL g J F fit k js s:=by rw[frmL,if_neg hc]
   rw[e];have ih:=frmL_any hg hk js s (fun x hx=>hjs x (by simp[hx])) hF hu;refine⟨ih.1,fun h=>?_⟩;obtain⟨a1,a2⟩:=ih.2 h;refine⟨a1,fun i hi hfi=>?_⟩;rcases List.mem_cons.1 hi with rfl|hi
   .apply a1.mono
    cases hs:s.seen i with
    | true=>rfl
    | false=>exact absurd ⟨hfi,hs⟩ hc
   .exact a2 i hi hfi
theorem giveP_any (J n F:Nat)(fit:Nat->Nat->Bool):∀fuel,SpecG J n F fit (giveP J n F fit fuel) fuel
 | 0=>fun k s _ _ h=>by omega
 | fuel+1=>fun k s hk hF hu=>by
  have h:=frmL_any (giveP_any J n F fit fuel) hk (List.range n) s (fun j hj=>List.mem_range.1 hj) hF hu;refine⟨h.1,fun hf=>?_⟩;obtain⟨a1,a2⟩:=h.2 hf;exact⟨a1,fun i hi hfi=>a2 i (List.mem_range.2 hi) hfi⟩
theorem give_no {J n F:Nat}{fit:Nat->Nat->Bool}{cost:Nat->Nat}{s:FS}{k fuel:Nat}(hk:k<J)(hF:Fair J n F fit s)(hs:∀j,s.seen j=false)(hn:n<fuel)(h5:∀a,a<J->sumN (fun j=>s.has a j) n<=cost a)(h6:sumN (fun j=>s.has k j) n<cost k)
  (h:(giveP J n F fit fuel k s).1=false):¬Flows J n F fit cost:=by
 have hun:unseen s n<=n:=by
  have:∀m,unseen s m<=m:=by
   intro m
   induction m with
   | zero=>exact Nat.le_refl _
   | succ m ih=>
    unfold unseen at ih ⊢;rw[sumN];split<;>omega
  exact this n
 obtain⟨T,hfit⟩:=(giveP_any J n F fit fuel k s hk hF (by omega)).2 h;exact flow_stuck (S:=(giveP J n F fit fuel k s).2.seen) hk hF.fits (fun j hj hS=>by rw[hF.sums j hj];exact T.full j hj hS (hs j)) (fun j hj hS m hm h0 i hi hf=>T.shut j hj hS (hs j) m hm h0 i hi hf) hfit h5 h6
section
open Go.RowKit
def RowV (w:World) (g:Nat) (ty:TypeId) (m:Nat) (f:Nat->Value):Prop:=∃c,w.heap[g]? =some (.cells c ty (0,0))/\∀i,i<m->c[i]? =some (f i)
section
variable {w w':World} {g:Nat} {ty:TypeId} {m:Nat} {f:Nat->Value}
theorem RowV.cell (h:RowV w g ty m f){i:Nat}(hi:i<m):w.cell? ⟨g,i,none⟩=some (f i):=by
 obtain⟨c,h1,h2⟩:=h;rw[zC h1];exact h2 i hi
theorem RowV.loose (h:RowV w g ty m f)(o:Nat):w.frozen? ⟨g,o,none⟩=false:=by
 obtain⟨c,h1,h2⟩:=h;exact zF h1 o
theorem RowV.lt (h:RowV w g ty m f):g<w.heap.size:=by
 obtain⟨c,h1,h2⟩:=h;exact zL h1
theorem RowV.keep (h:RowV w g ty m f)(hb:w'.heap[g]? =w.heap[g]?):RowV w' g ty m f:=by
 obtain⟨c,h1,h2⟩:=h;exact⟨c,by rw[hb];exact h1,h2⟩
theorem RowV.congr (h:RowV w g ty m f){f':Nat->Value}(he:∀i,i<m->f' i=f i):RowV w g ty m f':=by
 obtain⟨c,h1,h2⟩:=h;exact⟨c,h1,fun i hi=>by rw[he i hi];exact h2 i hi⟩
theorem RowV.set (h:RowV w g ty m f){i:Nat}(hi:i<m)(v:Value):RowV (w.setCell ⟨g,i,none⟩ v) g ty m (fun q=>if q=i then v else f q):=by
 obtain⟨c,h1,h2⟩:=h;have hs:i<c.size:=by
  have:=h2 i hi;rcases Nat.lt_or_ge i c.size with h3|h3
  .exact h3
  .rw[Array.getElem?_eq_none (by omega)]at this;simp at this
 refine⟨_,zS h1 i v,fun q hq=>?_⟩;rw[Array.getElem?_setIfInBounds];show _=some (if q=i then v else f q);by_cases e:i=q
 .rw[if_pos e,if_pos hs,if_pos e.symm]
 .rw[if_neg e,if_neg (fun h:q=i=>e h.symm)];exact h2 q hq
theorem RowV.other (h:RowV w g ty m f){p:Addr}(hp:g≠p.block)(v:Value):RowV (w.setCell p v) g ty m f:=h.keep (Below.heap_setCell _ _ _ _ hp)
end
structure FlM (js:List Jb) (F n P gL gH gU gS cL cH cU:Nat) (s:FS) (w:World):Prop where
 p:w.heap[P]? =some (.cells #[.slice (some ⟨gL,0,none⟩) js.length cL,.int .i64 F,.int .i64 n,.slice (some ⟨gH,0,none⟩) (js.length*n) cH,.slice (some ⟨gU,0,none⟩) n cU] 206 (0,0))
 l:RowB w gL js
 hl:gL<w.heap.size
 h:RowV w gH 3 (js.length*n) (fun q=>.int .i64 (s.has (q/n) (q%n)))
 u:RowV w gU 3 n (fun j=>.int .i64 (s.used j))
 sn:RowV w gS 4 n (fun j=>.bool (s.seen j))
 d1:P≠gH/\P≠gU/\P≠gS
 d2:gL≠gH/\gL≠gU/\gL≠gS
 d3:gH≠gU/\gH≠gS/\gU≠gS
section
variable {js:List Jb} {F n P gL gH gU gS cL cH cU:Nat} {s:FS} {w w':World}
theorem at_lt {J n k j:Nat}(hk:k<J)(hj:j<n):k*n+j<J*n:=by
 have h1:(k+1)*n<=J*n:=Nat.mul_le_mul_right n hk;rw[Nat.add_mul,Nat.one_mul]at h1;omega
theorem at_div {n k j:Nat}(hj:j<n):(k*n+j)/n=k/\(k*n+j)%n=j:=by
 constructor
 .rw[Nat.mul_comm,Nat.mul_add_div (by omega),Nat.div_eq_of_lt hj,Nat.add_zero]
 .rw[Nat.mul_comm,Nat.mul_add_mod,Nat.mod_eq_of_lt hj]
theorem at_iff {n k j q:Nat}(hj:j<n):q=k*n+j↔q/n=k/\q%n=j:=by
 constructor
 .intro h;rw[h];exact at_div hj
 .rintro ⟨h1,h2⟩;rw[←Nat.div_add_mod q n,h1,h2,Nat.mul_comm]
theorem FlM.same (h:FlM js F n P gL gH gU gS cL cH cU s w)(hh:w'.heap=w.heap):FlM js F n P gL gH gU gS cL cH cU s w':=
 ⟨by rw[hh];exact h.p,h.l.keep (by rw[hh]),by rw[hh];exact h.hl,h.h.keep (by rw[hh]),h.u.keep (by rw[hh]),h.sn.keep (by rw[hh]),h.d1,h.d2,h.d3⟩
theorem FlM.has (h:FlM js F n P gL gH gU gS cL cH cU s w){k j:Nat}(hk:k<js.length)(hj:j<n):w.cell? ⟨gH,k*n+j,none⟩=some (.int .i64 (s.has k j)):=by
 rw[h.h.cell (at_lt hk hj),(at_div hj).1,(at_div hj).2]
theorem FlM.cells (h:FlM js F n P gL gH gU gS cL cH cU s w):w.cell? ⟨P,0,none⟩=some (.slice (some ⟨gL,0,none⟩) js.length cL)/\w.cell? ⟨P,1,none⟩=some (.int .i64 F)/\w.cell? ⟨P,2,none⟩=some (.int .i64 n)/\w.cell? ⟨P,3,none⟩=some (.slice (some ⟨gH,0,none⟩) (js.length*n) cH)/\w.cell? ⟨P,4,none⟩=some (.slice (some ⟨gU,0,none⟩) n cU):=by
 refine⟨?_,?_,?_,?_,?_⟩<;>(rw[zC h.p];rfl)
theorem FlM.setS (h:FlM js F n P gL gH gU gS cL cH cU s w){j:Nat}(hj:j<n):FlM js F n P gL gH gU gS cL cH cU ⟨s.has,s.used,setB s.seen j⟩ (w.setCell ⟨gS,j,none⟩ (.bool true)):=
 ⟨by rw[Below.heap_setCell _ _ _ _ h.d1.2.2];exact h.p,h.l.keep (Below.heap_setCell _ _ _ _ h.d2.2.2),by simpa [World.setCell] using h.hl,h.h.other h.d3.2.1 _,h.u.other h.d3.2.2 _,(h.sn.set hj (.bool true)).congr (fun i hi=>by
  show Value.bool (setB s.seen j i)=_;unfold setB;split<;>rfl),h.d1,h.d2,h.d3⟩
theorem FlM.setU (h:FlM js F n P gL gH gU gS cL cH cU s w){j:Nat}(hj:j<n):FlM js F n P gL gH gU gS cL cH cU ⟨s.has,addN s.used j,s.seen⟩ (w.setCell ⟨gU,j,none⟩ (.int .i64 (s.used j+1))):=
 ⟨by rw[Below.heap_setCell _ _ _ _ h.d1.2.1];exact h.p,h.l.keep (Below.heap_setCell _ _ _ _ h.d2.2.1),by simpa [World.setCell] using h.hl,h.h.other h.d3.1 _,(h.u.set hj (.int .i64 (s.used j+1))).congr (fun i hi=>by
  show Value.int .i64 (addN s.used j i)=_;unfold addN;by_cases e:i=j
  .rw[if_pos e,if_pos e,e];simp
  .rw[if_neg e,if_neg e]),h.sn.other (fun e=>h.d3.2.2 e.symm) _,h.d1,h.d2,h.d3⟩
theorem FlM.setH (h:FlM js F n P gL gH gU gS cL cH cU s w){k j v:Nat}(hk:k<js.length)(hj:j<n){has':Nat->Nat->Nat}(he:∀a i,has' a i=if a=k/\i=j then v else s.has a i):FlM js F n P gL gH gU gS cL cH cU ⟨has',s.used,s.seen⟩ (w.setCell ⟨gH,k*n+j,none⟩ (.int .i64 v)):=
 ⟨by rw[Below.heap_setCell _ _ _ _ h.d1.1];exact h.p,h.l.keep (Below.heap_setCell _ _ _ _ h.d2.1),by simpa [World.setCell] using h.hl,(h.h.set (at_lt hk hj) (.int .i64 v)).congr (fun q hq=>by
  show Value.int .i64 (has' (q/n) (q%n))=_;rw[he];by_cases e:q=k*n+j
  .rw[if_pos e,if_pos ((at_iff hj).1 e)]
  .rw[if_neg e,if_neg (fun h=>e ((at_iff hj).2 h))]),h.u.other (fun e=>h.d3.1 e.symm) _,h.sn.other (fun e=>h.d3.2.1 e.symm) _,h.d1,h.d2,h.d3⟩
end
theorem add2_at (h:Nat->Nat->Nat)(k j a i:Nat):add2 h k j a i=if a=k/\i=j then h k j+1 else h a i:=by
 unfold add2 addN;by_cases e1:a=k
 .by_cases e2:i=j
  .rw[if_pos e1,if_pos e2,if_pos ⟨e1,e2⟩,e1,e2]
  .rw[if_pos e1,if_neg e2,if_neg (fun h=>e2 h.2)]
 .rw[if_neg e1,if_neg (fun h=>e1 h.1)]
theorem sub2_at (h:Nat->Nat->Nat)(k j a i:Nat):sub2 h k j a i=if a=k/\i=j then h k j-1 else h a i:=by
 unfold sub2 lessN;by_cases e1:a=k
 .by_cases e2:i=j
  .rw[if_pos e1,if_pos e2,if_pos ⟨e1,e2⟩,e1,e2]
  .rw[if_pos e1,if_neg e2,if_neg (fun h=>e2 h.2)]
 .rw[if_neg e1,if_neg (fun h=>e1 h.1)]
theorem sumN_ge {f:Nat->Nat}:∀ {n k:Nat},k<n->f k<=sumN f n
 | 0,k,h=>by omega
 | n+1,k,h=>by
  rw[sumN];by_cases e:k=n
  .subst e;omega
  .have:=sumN_ge (f:=f) (n:=n) (k:=k) (by omega);omega
theorem Fair.le {J n F:Nat}{fit:Nat->Nat->Bool}{s:FS}(h:Fair J n F fit s){k j:Nat}(hk:k<J)(hj:j<n):s.has k j<=F:=by
 have h1:=sumN_ge (f:=fun k=>s.has k j) hk;have h2:=h.sums j hj;have h3:=h.room j hj;omega
theorem rfits_any (js:List Jb)(F n P gL gH gU gS cL cH cU:Nat)(s:FS)(w:World)(h:FlM js F n P gL gH gU gS cL cH cU s w)(k j:Nat)(hk:k<js.length)(hj:j<n)(hF:F<=60)(hn:n<=60)(hrel:(jk js k).rel<=1000)(hdl:(jk js k).dl<=1000):
  Calls Tryz.prog 177 #[.pointer (some ⟨P,0,none⟩),.int .i64 k,.int .i64 j] w fun e w'=>e=.returned (.bool (fitJ js F k j))/\∃m,w'=w.drewN m:=by
 obtain⟨c0,c1,c2,c3,c4⟩:=h.cells;obtain⟨r0,r1,r2,r3,r4⟩:=h.l k hk;clear h;have m1:j*F<=60*60:=Nat.mul_le_mul (by omega) hF;have m2:(j+1)*F<=60*60:=Nat.mul_le_mul (by omega) hF;have e1:wrap64 ((j:Int)*(F:Int))=((j*F:Nat):Int):=by rw[←Int.natCast_mul];exact w64 _ (by omega)
 have e2:wrap64 (((j:Int)+1)*(F:Int))=(((j+1)*F:Nat):Int):=by rw[show ((j:Int)+1)=((j+1:Nat):Int) from rfl,←Int.natCast_mul];exact w64 _ (by omega)
 have hf:Hid (fitJ js F k j=(decide ((jk js k).rel<=j*F)&&decide ((j+1)*F<=(jk js k).dl))):=rfl;by_cases a1:(jk js k).rel<=j*F
 .have d1:decide (((jk js k).rel:Int)<=wrap64 ((j:Int)*(F:Int)))=true:=by rw[e1,decide_eq_true_eq];clear e1 e2;omega
  by_cases a2:(j+1)*F<=(jk js k).dl
  .have d2:decide (wrap64 (((j:Int)+1)*(F:Int))<=((jk js k).dl:Int))=true:=by rw[e2,decide_eq_true_eq];clear e1 e2 d1;omega
   have hr:Hid (fitJ js F k j=true):=by unfold Hid;rw[hf.out,decide_eq_true a1,decide_eq_true a2];rfl
   clear e1 e2 m1 m2 a1 a2 hf;rw[hr.out];go_enter Tryz.func177,Tryz.ntmps177;go_wp2_with fail
   go_quiet (fail)
   go_wp2_with fail;go_ret;exact⟨rfl,_,rfl⟩
  .have d2:decide (wrap64 (((j:Int)+1)*(F:Int))<=((jk js k).dl:Int))=false:=by rw[e2,decide_eq_false_iff_not];clear e1 e2 d1;omega
   have hr:Hid (fitJ js F k j=false):=by unfold Hid;rw[hf.out,decide_eq_true a1,decide_eq_false a2];rfl
   clear e1 e2 m1 m2 a1 a2 hf;rw[hr.out];go_enter Tryz.func177,Tryz.ntmps177;go_wp2_with fail
   go_quiet (fail)
   go_wp2_with fail;go_ret;exact⟨rfl,_,rfl⟩
 .have d1:decide (((jk js k).rel:Int)<=wrap64 ((j:Int)*(F:Int)))=false:=by rw[e1,decide_eq_false_iff_not];clear e1 e2;omega
  have hr:Hid (fitJ js F k j=false):=by unfold Hid;rw[hf.out,decide_eq_false a1];rfl
  clear e1 e2 m1 m2 a1 hf;rw[hr.out];go_enter Tryz.func177,Tryz.ntmps177;go_wp2_with fail
  go_quiet (fail)
  go_wp2_with fail;go_ret;exact⟨rfl,_,rfl⟩
def GiveOut (js:List Jb) (F n P gL gH gU gS cL cH cU fuel k:Nat) (s:FS) (w:World) (e:Ending) (w':World):Prop:=∃b s',giveP js.length n F (fitJ js F) fuel k s=(b,s')/\e=.returned (.bool b)/\FlM js F n P gL gH gU gS cL cH cU s' w'/\Frm (fun x=>x=gH\/x=gU\/x=gS) w w'
def GiveS (js:List Jb) (F n P gL gH gU gS cL cH cU cS fuel:Nat):Prop:=
 ∀(k:Nat) (s:FS) (w:World),k<js.length->FlM js F n P gL gH gU gS cL cH cU s w->Fair js.length n F (fitJ js F) s->unseen s n<fuel->
  Calls Tryz.prog 159 #[.pointer (some ⟨P,0,none⟩),.int .i64 k,.slice (some ⟨gS,0,none⟩) n cS] w (GiveOut js F n P gL gH gU gS cL cH cU fuel k s w)
theorem rng_step {j n:Nat}(h:j<n):List.range' j (n-j)=j::List.range' (j+1) (n-(j+1)):=by
 obtain⟨m,hm⟩:∃m,n-j=m+1:=⟨n-j-1,by omega⟩;rw[hm,List.range'_succ,show n-(j+1)=m by omega]
theorem give_step (js:List Jb)(F n P gL gH gU gS cL cH cU cS fuel:Nat)(hF:F<=60)(hn:n<=60)(hJ:js.length<=1000)(hsm:∀k,k<js.length->(jk js k).rel<=1000/\(jk js k).dl<=1000)(ih:GiveS js F n P gL gH gU gS cL cH cU cS fuel):GiveS js F n P gL gH gU gS cL cH cU cS (fuel+1):=by
 intro k s w hk hM hFr hun;have IH:=hide ih;have HM:=hide hM;have HFr:=hide hFr;have HSm:=hide hsm;have hd1:=hM.d1;have hd2:=hM.d2;have hd3:=hM.d3;obtain⟨JN,hJN⟩:∃x,x=js.length*n:=⟨_,rfl⟩;have HJN:=hide hJN;have hJNb:JN<=60000:=by rw[hJN];exact Nat.mul_le_mul hJ hn
 obtain⟨q,hq⟩:∃x,x=k*n:=⟨_,rfl⟩;have HQ:=hide hq;have hqJ:q+n<=JN:=by
  have h1:(k+1)*n<=js.length*n:=Nat.mul_le_mul_right n hk;rw[Nat.add_mul,Nat.one_mul]at h1;omega
 clear ih hM hFr hsm hJN hq;go_enter Tryz.func159,Tryz.ntmps159;go_wp2_with fail
 go_loopw [7] (fun jv wr=>∃(j:Nat) (s1:FS),j<=n/\jv=.int .i64 j/\FlM js F n P gL gH gU gS cL cH cU s1 wr/\Fair js.length n F (fitJ js F) s1/\unseen s1 n<fuel+1/\giveP js.length n F (fitJ js F) (fuel+1) k s=frmL (giveP js.length n F (fitJ js F) fuel) js.length F (fitJ js F) k (List.range' j (n-j)) s1/\Frm (fun x=>x=gH\/x=gU\/x=gS) w wr) (fun jv _=>n-(intOf jv).toNat)
 case atStart=>exact⟨0,s,Nat.zero_le _,rfl,HM.out,HFr.out,hun,by rw[Nat.sub_zero,←List.range_eq_range'];rfl,Frm.refl _ _⟩
 case round=>
  clear HM HFr hun;obtain⟨j,s1,hj,rfl,hM1,hF1,hu1,hg1,hf1⟩:=hrel;obtain⟨c0,c1,c2,c3,c4⟩:=hM1.cells;by_cases hlt:j<n
  .have hlt':(j:Int)<n:=by omega
   rw[rng_step hlt,frmL]at hg1;have CF:=hide (rfits_any js F n P gL gH gU gS cL cH cU s1 wr hM1 k j hk hlt hF hn (HSm.out k hk).1 (HSm.out k hk).2);have HM1:=hide hM1;have HF1:=hide hF1;have HG1:=hide hg1;have Hf1:=hide hf1;clear hM1 hF1 hg1 hf1;go_wp2_with fail;refine CF.out.mono ?_;rintro e w2 ⟨rfl,dn,rfl⟩;have HM2:=hide (HM1.out.same (w':=wr.drewN dn) rfl);have Hf2:Hid (Frm (fun x=>x=gH\/x=gU\/x=gS) w (wr.drewN dn)):=Hf1.out.trans (Frm.sames rfl rfl rfl rfl);clear HM1 Hf1 CF c0 c1 c2 c3 c4;generalize wr.drewN dn=w2 at *;obtain⟨c0,c1,c2,c3,c4⟩:=HM2.out.cells;have c5:=HM2.out.sn.cell hlt;have c5f:=HM2.out.sn.loose
   cases hft:fitJ js F k j with
   | false=>
    have HG2:Hid (giveP js.length n F (fitJ js F) (fuel+1) k s=frmL (giveP js.length n F (fitJ js F) fuel) js.length F (fitJ js F) k (List.range' (j+1) (n-(j+1))) s1):=by
     unfold Hid;rw[HG1.out,if_neg (by rw[hft];simp)]
    clear HG1 hft;go_wp2_with fail;go_roundw
    case rel=>exact⟨j+1,s1,hlt,by go_num,HM2.out,HF1.out,hu1,HG2.out,Hf2.out⟩
    case measure=>simp[intOf];omega
   | true=>
    cases hsn:s1.seen j with
    | true=>
     have HG2:Hid (giveP js.length n F (fitJ js F) (fuel+1) k s=frmL (giveP js.length n F (fitJ js F) fuel) js.length F (fitJ js F) k (List.range' (j+1) (n-(j+1))) s1):=by
      unfold Hid;rw[HG1.out,if_neg (by rw[hsn];simp)]
     rw[hsn]at c5;clear HG1 hft hsn;go_wp2_with fail;go_roundw
     case rel=>exact⟨j+1,s1,hlt,by go_num,HM2.out,HF1.out,hu1,HG2.out,Hf2.out⟩
     case measure=>simp[intOf];omega
    | false=>
     have HG2:=HG1.out;rw[if_pos ⟨hft,hsn⟩]at HG2;have HFt:=hide hft;have HSn:=hide hsn;rw[hsn]at c5;have HM3:=hide (HM2.out.setS hlt);have Hf3:Hid (Frm (fun x=>x=gH\/x=gU\/x=gS) w (w2.setCell ⟨gS,j,none⟩ (.bool true))):=Hf2.out.setCell (p:=⟨gS,j,none⟩) (.inr (.inr rfl)) _;have hFj:=HF1.out.room j hlt;by_cases hus:s1.used j<F
     .have hus':(s1.used j:Int)<F:=by omega
      rw[if_pos hus]at HG2;have HG3:=hide HG2;clear HG2 HG1 HM2 Hf2 hft hsn hus c0 c1 c2 c3 c4;go_upto_region 7 with fail;clear c5 c5f;generalize w2.setCell ⟨gS,j,none⟩ (.bool true)=w3 at *;obtain⟨c0,c1,c2,c3,c4⟩:=HM3.out.cells;have c6:=HM3.out.u.cell hlt
      go_quiet (fail)
      generalize hw4:World.drewN w3 _=w4;have HM4:Hid (FlM js F n P gL gH gU gS cL cH cU ⟨s1.has,s1.used,setB s1.seen j⟩ w4):=by rw[←hw4];exact HM3.out.same rfl
      have Hf4:Hid (Frm (fun x=>x=gH\/x=gU\/x=gS) w w4):=by rw[←hw4];exact Hf3.out.trans (Frm.sames rfl rfl rfl rfl)
      clear hw4 HM3 Hf3 c0 c1 c2 c3 c4 c6;obtain⟨c0,c1,c2,c3,c4⟩:=HM4.out.cells;have c6:=HM4.out.u.cell hlt;have c6f:=HM4.out.u.loose;have HM5:=hide (HM4.out.setU hlt);have Hf5:Hid (Frm (fun x=>x=gH\/x=gU\/x=gS) w (w4.setCell ⟨gU,j,none⟩ (.int .i64 (s1.used j+1)))):=Hf4.out.setCell (p:=⟨gU,j,none⟩) (.inr (.inl rfl)) _;clear HM4 Hf4;go_upto_region 9 with fail;generalize w4.setCell ⟨gU,j,none⟩ _=w5 at *;clear c0 c1 c2 c3 c4 c6 c6f;obtain⟨c0,c1,c2,c3,c4⟩:=HM5.out.cells;have hhas:=HM5.out.has hk hlt;have c7f:=HM5.out.h.loose;have HM6:=hide (HM5.out.setH (v:=s1.has k j+1) hk hlt (fun a i=>add2_at s1.has k j a i));have hhle:=HF1.out.le hk hlt;rw[←HQ.out]at hhas HM6;rw[←HJN.out]at c3;have hkn:(k:Int)*(n:Int)=(q:Int):=by rw[HQ.out,Int.natCast_mul]
      have Hf6:Hid (Frm (fun x=>x=gH\/x=gU\/x=gS) w (w5.setCell ⟨gH,q+j,none⟩ (.int .i64 ((s1.has k j+1:Nat):Int)))):=Hf5.out.setCell (p:=⟨gH,q+j,none⟩) (.inl rfl) _;clear HM5 Hf5
      go_region
      all_goals
       go_wp2_with fail;go_ret;exact⟨true,_,HG3.out,rfl,HM6.out.same rfl,Hf6.out.drew⟩
     .have hus':¬(s1.used j:Int)<F:=by omega
      rw[if_neg hus]at HG2;have HG3:=hide HG2;have HFs:Hid (Fair js.length n F (fitJ js F) ⟨s1.has,s1.used,setB s1.seen j⟩):=fair_seen HF1.out rfl rfl;have hun:unseen ⟨s1.has,s1.used,setB s1.seen j⟩ n<fuel:=by
       have:=unseen_set (s:=s1) (n:=n) hlt hsn s1.has s1.used;omega
      have hdu:=hide (decide_eq_false hus);clear HG2 HG1 HM2 Hf2 hft hsn hus c0 c1 c2 c3 c4;go_upto_region 7 with fail;clear c5 c5f;generalize w2.setCell ⟨gS,j,none⟩ (.bool true)=w3 at *;obtain⟨c0,c1,c2,c3,c4⟩:=HM3.out.cells;have c6:=HM3.out.u.cell hlt
      go_quiet (fail)
      simp only[hdu.out];generalize hw4:World.drewN w3 _=w4;have HM4:Hid (FlM js F n P gL gH gU gS cL cH cU ⟨s1.has,s1.used,setB s1.seen j⟩ w4):=by rw[←hw4];exact HM3.out.same rfl
      have Hf4:Hid (Frm (fun x=>x=gH\/x=gU\/x=gS) w w4):=by rw[←hw4];exact Hf3.out.trans (Frm.sames rfl rfl rfl rfl)
      clear hw4 HM3 Hf3 c0 c1 c2 c3 c4 c6 hdu;have HJ0:Hid (jobL (giveP js.length n F (fitJ js F) fuel) k j (List.range js.length) ⟨s1.has,s1.used,setB s1.seen j⟩=jobL (giveP js.length n F (fitJ js F) fuel) k j (List.range' 0 (js.length-0)) ⟨s1.has,s1.used,setB s1.seen j⟩):=by unfold Hid;rw[Nat.sub_zero,←List.range_eq_range']
      have hs2:Hid ((⟨s1.has,s1.used,setB s1.seen j⟩:FS).seen j=true):=by simp[Hid,setB]
      generalize (⟨s1.has,s1.used,setB s1.seen j⟩:FS)=s2 at *;go_wp2_with fail
      go_loopw [9] (fun mv wr=>∃(m:Nat) (s3:FS),m<=js.length/\mv=.int .i64 m/\FlM js F n P gL gH gU gS cL cH cU s3 wr/\Fair js.length n F (fitJ js F) s3/\unseen s3 n<fuel/\s3.seen j=true/\jobL (giveP js.length n F (fitJ js F) fuel) k j (List.range js.length) s2=jobL (giveP js.length n F (fitJ js F) fuel) k j (List.range' m (js.length-m)) s3/\Frm (fun x=>x=gH\/x=gU\/x=gS) w wr) (fun mv _=>js.length-(intOf mv).toNat)
      case atStart=>exact⟨0,s2,Nat.zero_le _,rfl,HM4.out,HFs.out,hun,hs2.out,HJ0.out,Hf4.out⟩
      case round=>
       clear HM4 HFs hun hs2 HJ0 Hf4;obtain⟨m,s3,hm,rfl,hM3,hF3,hu3,hs3,hg3,hf3⟩:=hrel;obtain⟨c0,c1,c2,c3,c4⟩:=hM3.cells;by_cases hml:m<js.length
       .have hml':(m:Int)<js.length:=by omega
        rw[rng_step hml,jobL]at hg3;obtain⟨r,hr⟩:∃x,x=m*n:=⟨_,rfl⟩;have HR:=hide hr;have hrJ:r+n<=JN:=by
         have h1:(m+1)*n<=js.length*n:=Nat.mul_le_mul_right n hml;rw[Nat.add_mul,Nat.one_mul]at h1;have:=HJN.out;omega
        have hmn:(m:Int)*(n:Int)=(r:Int):=by rw[hr,Int.natCast_mul]
        have hhas:=hM3.has hml hlt;rw[←hr]at hhas;rw[←HJN.out]at c3;have hhle:=hF3.le hml hlt;have HM3:=hide hM3;have HF3:=hide hF3;have HS3:=hide hs3;have Hf3:=hide hf3;clear hM3 hF3 hs3 hf3 hr;by_cases hpos:0<s3.has m j
        .have hpos':(0:Int)<s3.has m j:=by omega
         rw[if_pos hpos]at hg3;have HG4:=hide hg3;clear hg3;go_wp2_with fail
         go_quiet (fail)
         generalize hw4:World.drewN wr _=w4;have HM4:Hid (FlM js F n P gL gH gU gS cL cH cU s3 w4):=by rw[←hw4];exact HM3.out.same rfl
         have Hf4:Hid (Frm (fun x=>x=gH\/x=gU\/x=gS) w w4):=by rw[←hw4];exact Hf3.out.trans (Frm.sames rfl rfl rfl rfl)
         clear hw4 HM3 Hf3 hhas c0 c1 c2 c3 c4;go_wp2_with fail;refine(IH.out m s3 w4 hml HM4.out HF3.out hu3).mono ?_;rintro e w5 ⟨b,s4,hb4,rfl,hM5,hf5⟩;have HM5:=hide hM5;have Hf5:=hide (Hf4.out.trans hf5);have SP:=giveP_any js.length n F (fitJ js F) fuel m s3 hml HF3.out hu3;rw[hb4]at SP;have HG5:=HG4.out;rw[hb4]at HG5;clear HM4 Hf4 hM5 hf5 hb4 HG4
         cases b with
         | false=>
          obtain⟨T,_⟩:=SP.2 rfl;have HG6:Hid (jobL (giveP js.length n F (fitJ js F) fuel) k j (List.range js.length) s2=jobL (giveP js.length n F (fitJ js F) fuel) k j (List.range' (m+1) (js.length-(m+1))) s4):=HG5;have HF4:Hid (Fair js.length n F (fitJ js F) s4):=fair_seen HF3.out T.has T.used;have hu4:unseen s4 n<fuel:=Nat.lt_of_le_of_lt (unseen_mono T.mono n) hu3;have HS4:Hid (s4.seen j=true):=T.mono j HS3.out;clear SP T HG5 HF3 HS3;go_wp2_with fail;go_roundw
          case rel=>exact⟨m+1,s4,hml,by go_num,HM5.out,HF4.out,hu4,HS4.out,HG6.out,Hf5.out⟩
          case measure=>simp[intOf];omega
         | true=>
          have G:=SP.1 rfl;obtain⟨x,hx⟩:∃x,s4.has m j=x+1:=⟨s4.has m j-1,by
           have:=G.kept j hlt HS3.out m;simp only at this;omega⟩
          have HG6:Hid (giveP js.length n F (fitJ js F) (fuel+1) k s=(true,⟨add2 (sub2 s4.has m j) k j,s4.used,s4.seen⟩)):=by
           unfold Hid;rw[HG3.out,HG5]
          have hxle:x+1<=60:=by
           have:=G.fair.le hml hlt;simp only at this;omega
          have hyle:sub2 s4.has m j k j<=60:=by
           have:=G.fair.le hk hlt;simp only at this;rw[sub2_at];split<;>omega
          have HM6:=hide (HM5.out.setH (v:=x) (has':=sub2 s4.has m j) hml hlt (fun a i=>by rw[sub2_at,hx];rfl));have hhas:=HM5.out.has hml hlt;rw[hx]at hhas;obtain⟨c0,c1,c2,c3,c4⟩:=HM5.out.cells;have c7f:=HM5.out.h.loose;rw[←HR.out]at hhas HM6;rw[←HJN.out]at c3;have Hf6:Hid (Frm (fun x=>x=gH\/x=gU\/x=gS) w ((w5.setCell ⟨gH,r+j,none⟩ (.int .i64 x)).drew)):=(Hf5.out.setCell (p:=⟨gH,r+j,none⟩) (.inl rfl) _).drew;have HM7:Hid (FlM js F n P gL gH gU gS cL cH cU ⟨sub2 s4.has m j,s4.used,s4.seen⟩ ((w5.setCell ⟨gH,r+j,none⟩ (.int .i64 x)).drew)):=HM6.out.same rfl;clear SP G HG5 HG3 HM5 Hf5 HM6 HF3 HS3 IH;have Hhx:=hide hx;clear hx;go_upto_region 17 with fail
          go_region
          all_goals
           go_upto_region 18 with fail;generalize (w5.setCell ⟨gH,r+j,none⟩ (.int .i64 x)).drew=w6 at *;clear c0 c1 c2 c3 c4 hhas c7f;obtain⟨c0,c1,c2,c3,c4⟩:=HM7.out.cells;rw[←HJN.out]at c3;have hhas:=HM7.out.has hk hlt;have c7f:=HM7.out.h.loose;have HM8:=hide (HM7.out.setH (v:=sub2 s4.has m j k j+1) hk hlt (fun a i=>add2_at (sub2 s4.has m j) k j a i));rw[←HQ.out]at hhas HM8;have hkn:(k:Int)*(n:Int)=(q:Int):=by rw[HQ.out,Int.natCast_mul]
           have Hf8:Hid (Frm (fun x=>x=gH\/x=gU\/x=gS) w (w6.setCell ⟨gH,q+j,none⟩ (.int .i64 ((sub2 s4.has m j k j+1:Nat):Int)))):=Hf6.out.setCell (p:=⟨gH,q+j,none⟩) (.inl rfl) _;clear HM7 Hf6;simp only at hhas HM8;generalize sub2 s4.has m j k j=y at *
           go_region
           all_goals
            go_wp2_with fail;go_ret;exact⟨true,_,HG6.out,rfl,HM8.out.same rfl,Hf8.out.drew⟩
        .have hpos':¬(0:Int)<s3.has m j:=by omega
         rw[if_neg hpos]at hg3;have HG4:=hide hg3;clear hg3 hpos;go_wp2_with fail
         go_quiet (fail)
         generalize hw4:World.drewN wr _=w4;have HM4:Hid (FlM js F n P gL gH gU gS cL cH cU s3 w4):=by rw[←hw4];exact HM3.out.same rfl
         have Hf4:Hid (Frm (fun x=>x=gH\/x=gU\/x=gS) w w4):=by rw[←hw4];exact Hf3.out.trans (Frm.sames rfl rfl rfl rfl)
         clear hw4 HM3 Hf3 hhas c0 c1 c2 c3 c4;go_wp2_with fail;go_roundw
         case rel=>exact⟨m+1,s3,hml,by go_num,HM4.out,HF3.out,hu3,HS3.out,HG4.out,Hf4.out⟩
         case measure=>simp[intOf];omega
       .have hml':¬(m:Int)<js.length:=by omega
        have hme:m=js.length:=by omega
        rw[hme,Nat.sub_self]at hg3;have HG5:Hid (giveP js.length n F (fitJ js F) (fuel+1) k s=frmL (giveP js.length n F (fitJ js F) fuel) js.length F (fitJ js F) k (List.range' (j+1) (n-(j+1))) s3):=by
         unfold Hid;rw[HG3.out,hg3];rfl
        have HM3:=hide hM3;have HF3:=hide hF3;have Hf3:=hide hf3;clear hM3 hF3 hs3 hf3 hg3 hme;go_wp2_with fail;go_roundw
        case rel=>exact⟨j+1,s3,hlt,by go_num,HM3.out,HF3.out,by omega,HG5.out,Hf3.out⟩
        case measure=>simp[intOf];omega
  .have hlt':¬(j:Int)<n:=by omega
   have hje:j=n:=by omega
   rw[hje,Nat.sub_self]at hg1;have HG1:Hid (giveP js.length n F (fitJ js F) (fuel+1) k s=(false,s1)):=hg1;have HM1:=hide hM1;have Hf1:=hide hf1;clear hM1 hF1 hg1 hf1 hje;go_wp2_with fail;go_ret;exact⟨false,s1,HG1.out,rfl,HM1.out,Hf1.out⟩
theorem rgive_any (js:List Jb)(F n P gL gH gU gS cL cH cU cS:Nat)(hF:F<=60)(hn:n<=60)(hJ:js.length<=1000)(hsm:∀k,k<js.length->(jk js k).rel<=1000/\(jk js k).dl<=1000):∀fuel,GiveS js F n P gL gH gU gS cL cH cU cS fuel
 | 0=>fun k s w _ _ _ h=>by omega
 | fuel+1=>give_step js F n P gL gH gU gS cL cH cU cS fuel hF hn hJ hsm (rgive_any js F n P gL gH gU gS cL cH cU cS hF hn hJ hsm fuel)
end
end Go.Proofs.YtbdffcjganlblaaGreatDoor
