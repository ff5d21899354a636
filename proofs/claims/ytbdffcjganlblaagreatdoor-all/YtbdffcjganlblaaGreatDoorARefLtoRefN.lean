import Derived.Test.YtbdffcjganlblaaGreatDoorARefItoRefK
set_option linter.unusedVariables false
set_option linter.unusedSimpArgs false
set_option maxRecDepth 100000
set_option maxHeartbeats 16000000
namespace Go.Proofs.YtbdffcjganlblaaGreatDoor
section
open Go.RowKit
def stepT1 (ts:List Tk) (k:Nat) (f:Nat×Nat):Nat×Nat:=if findI ts (tsk ts k).nm<k then soon f 3 (tsk ts k).q0 else f
def stepT (ts:List Tk) (k:Nat) (f:Nat×Nat):Nat×Nat:=if 0<=timedI (tsk ts k) then soon (stepT1 ts k f) 4 (timedI (tsk ts k)).toNat else stepT1 ts k f
def mT (ts:List Tk):Nat->Nat×Nat
 | 0=>(0,0)
 | k+1=>stepT ts k (mT ts k)
def stepP1 (ts:List Tk) (p:Pr) (f:Nat×Nat):Nat×Nat:=if findI ts p.a<0 then soon f 3 p.q0 else f
def stepP2 (ts:List Tk) (p:Pr) (f:Nat×Nat):Nat×Nat:=if findI ts p.b<0 then soon (stepP1 ts p f) 3 p.q1 else stepP1 ts p f
def badPair (ts:List Tk) (p:Pr):Bool:=
 decide (0<=findI ts p.a)&&decide (0<=findI ts p.b)&&(decide (findI ts p.a=findI ts p.b)||(!p.ap&&decide ((tsk ts (findI ts p.a).toNat).P≠(tsk ts (findI ts p.b).toNat).P)))
def stepP (ts:List Tk) (p:Pr) (f:Nat×Nat):Nat×Nat:=if badPair ts p then soon (stepP2 ts p f) 5 p.q1 else stepP2 ts p f
def mP (ts:List Tk) (ps:List Pr):Nat->Nat×Nat
 | 0=>mT ts ts.length
 | k+1=>stepP ts (psk ps k) (mP ts ps k)
def meantI (ts:List Tk) (ps:List Pr):Nat×Nat:=mP ts ps ps.length
theorem findF_lt (ts:List Tk)(c:UInt8):∀(f k:Nat),findF ts c f k<k+f/\-1<=findF ts c f k
 | 0,k=>by simp[findF];omega
 | f+1,k=>by
  rw[findF];have:=findF_lt ts c f (k+1);split
  .omega
  .omega
theorem findI_lt (ts:List Tk)(c:UInt8):findI ts c<ts.length/\-1<=findI ts c:=by
 have:=findF_lt ts c ts.length 0;unfold findI;omega
structure MB (w wr:World) (tv pv:Value) (f:Nat×Nat):Prop where
 h0:wr.heap[w.heap.size]? =some (.cells #[tv,pv] 53 (0,0))
 h1:wr.heap[w.heap.size+1]? =some (.cells #[.int .i64 0,.int .i64 0] 88 (0,0))
 h2:wr.heap[w.heap.size+1+1]? =some (.cells #[.int .i64 f.1,.int .i64 f.2] 88 (0,0))
 b:Below w.heap.size w wr
section
variable {w wr:World} {tv pv:Value} {f:Nat×Nat}
theorem MB.keep (h:MB w wr tv pv f){w':World}(hb:Below wr.heap.size wr w'):MB w w' tv pv f:=
 ⟨by rw[hb.block _ (zL h.h0)];exact h.h0,by rw[hb.block _ (zL h.h1)];exact h.h1,by rw[hb.block _ (zL h.h2)];exact h.h2,h.b.trans (hb.mono h.b.size)⟩
theorem MB.alloc (h:MB w wr tv pv f)(o:Obj):MB w (wr.alloc o) tv pv f:=h.keep (zN _ _)
theorem MB.drewN (h:MB w wr tv pv f)(n:Nat):MB w (wr.drewN n) tv pv f:=h.keep (below_drewN (Below.refl _ _) n)
theorem MB.setF (h:MB w wr tv pv f)(f':Nat×Nat):MB w ((wr.setCell ⟨w.heap.size+1+1,0,none⟩ (.int .i64 f'.1)).setCell ⟨w.heap.size+1+1,1,none⟩ (.int .i64 f'.2)) tv pv f':=by
 refine⟨?_,?_,?_,(h.b.setCell (by show w.heap.size<=w.heap.size+1+1;omega) _).setCell (by show w.heap.size<=w.heap.size+1+1;omega) _⟩
 .rw[Below.heap_setCell _ _ _ _ (by show w.heap.size≠w.heap.size+1+1;omega),Below.heap_setCell _ _ _ _ (by show w.heap.size≠w.heap.size+1+1;omega)];exact h.h0
 .rw[Below.heap_setCell _ _ _ _ (by show w.heap.size+1≠w.heap.size+1+1;omega),Below.heap_setCell _ _ _ _ (by show w.heap.size+1≠w.heap.size+1+1;omega)];exact h.h1
 .rw[zS (zS h.h2 0 _) 1 _];rfl
theorem MB.cells (h:MB w wr tv pv f):wr.cell? ⟨w.heap.size,0,none⟩=some tv/\wr.cell? ⟨w.heap.size,1,none⟩=some pv/\wr.cell? ⟨w.heap.size+1+1,0,none⟩=some (.int .i64 f.1)/\wr.cell? ⟨w.heap.size+1+1,1,none⟩=some (.int .i64 f.2)/\
  (∀o,wr.frozen? ⟨w.heap.size+1+1,o,none⟩=false)/\(∀o,wr.cell? ⟨w.heap.size+1,o,none⟩=#[Value.int .i64 0,.int .i64 0][o]?)/\(∀o,wr.frozen? ⟨w.heap.size+1,o,none⟩=false):=
 ⟨by rw[zC h.h0];rfl,by rw[zC h.h0];rfl,by rw[zC h.h2];rfl,by rw[zC h.h2];rfl,zF h.h2,zC h.h1,zF h.h1⟩
theorem MB.start (w:World)(tv pv:Value):MB w (((w.alloc (.cells #[tv,pv] 53)).alloc (.cells #[.int .i64 0,.int .i64 0] 88)).alloc (.cells #[.int .i64 0,.int .i64 0] 88)) tv pv (0,0):=by
 refine⟨?_,?_,?_,((zN w _).alloc (by simp) _).alloc (by simp;omega) _⟩
 .rw[Below.heap_alloc _ _ _ (by simp;omega),Below.heap_alloc _ _ _ (by simp)];exact zW _ _ _
 .rw[Below.heap_alloc _ _ _ (by simp)];simpa using zW (w.alloc (.cells #[tv,pv] 53)) #[.int .i64 0,.int .i64 0] 88
 .simpa using zW ((w.alloc (.cells #[tv,pv] 53)).alloc (.cells #[.int .i64 0,.int .i64 0] 88)) #[.int .i64 0,.int .i64 0] 88
end
theorem rsooner_v (f:Nat×Nat)(e at_:Nat)(fv:Value)(ev:Int)(w:World)(hf:fv=faultV f)(he:ev=e):
  Calls Tryz.prog 90 #[fv,.int .i64 ev,.int .i64 at_] w fun e' w'=>e'=.returned (.agg #[.int .i64 (soon f e at_).1,.int .i64 (soon f e at_).2])/\Below w.heap.size w w':=by
 subst hf he;exact rsooner_any f e at_ w
theorem rtimed_v (t:Tk)(v:Value)(w:World)(hv:v=tkV t)(hs:t.small):
  Calls Tryz.prog 91 #[v] w fun e w'=>e=.returned (.int .i64 (timedI t))/\Below w.heap.size w w':=by
 subst hv;exact rtimed_any t w hs
theorem zK {w w':World}{X:Nat}{o:Obj}(h:w.heap[X]? =some o)(hb:Below w.heap.size w w'):w'.heap[X]? =some o:=by
 rw[hb.block _ (zL h)];exact h
theorem blk_setF {w:World}{X F:Nat}{o:Obj}(h:w.heap[X]? =some o)(hne:X≠F)(i j:Nat)(u v:Value):((w.setCell ⟨F,i,none⟩ u).setCell ⟨F,j,none⟩ v).heap[X]? =some o:=by
 rw[Below.heap_setCell _ _ _ _ hne,Below.heap_setCell _ _ _ _ hne];exact h
def tkA (t:Tk):Array Value:=#[.int .u8 t.nm.toNat,.int .i64 t.P,.int .i64 t.O,.int .i64 t.C,.int .i64 t.D,.int .i64 t.q0,.int .i64 t.q1,.int .i64 t.q2,.int .i64 t.q3,.int .i64 t.q4]
theorem tkA_cells {w:World}{X:Nat}{t:Tk}{ty:TypeId}(h:w.heap[X]? =some (.cells (tkA t) ty (0,0))):
  w.cell? ⟨X,0,none⟩=some (.int .u8 t.nm.toNat)/\w.cell? ⟨X,1,none⟩=some (.int .i64 t.P)/\w.cell? ⟨X,2,none⟩=some (.int .i64 t.O)/\w.cell? ⟨X,3,none⟩=some (.int .i64 t.C)/\w.cell? ⟨X,4,none⟩=some (.int .i64 t.D)/\
  w.cell? ⟨X,5,none⟩=some (.int .i64 t.q0)/\w.cell? ⟨X,6,none⟩=some (.int .i64 t.q1)/\w.cell? ⟨X,7,none⟩=some (.int .i64 t.q2)/\w.cell? ⟨X,8,none⟩=some (.int .i64 t.q3)/\w.cell? ⟨X,9,none⟩=some (.int .i64 t.q4):=by
 simp only[zC h];exact⟨rfl,rfl,rfl,rfl,rfl,rfl,rfl,rfl,rfl,rfl⟩
theorem row_setF {w:World}{g F:Nat}{ts:List Tk}(h:RowT w g ts)(hne:g<F)(i j:Nat)(u v:Value):RowT ((w.setCell ⟨F,i,none⟩ u).setCell ⟨F,j,none⟩ v) g ts:=
 h.below (((Below.refl F w).setCell (Nat.le_refl F) u).setCell (Nat.le_refl F) v) hne
def prA (p:Pr):Array Value:=#[.int .u8 p.a.toNat,.int .u8 p.b.toNat,.bool p.ap,.int .i64 p.q0,.int .i64 p.q1]
theorem prA_cells {w:World}{X:Nat}{p:Pr}{ty:TypeId}(h:w.heap[X]? =some (.cells (prA p) ty (0,0))):
  w.cell? ⟨X,0,none⟩=some (.int .u8 p.a.toNat)/\w.cell? ⟨X,1,none⟩=some (.int .u8 p.b.toNat)/\w.cell? ⟨X,2,none⟩=some (.bool p.ap)/\w.cell? ⟨X,3,none⟩=some (.int .i64 p.q0)/\w.cell? ⟨X,4,none⟩=some (.int .i64 p.q1):=by
 simp only[zC h];exact⟨rfl,rfl,rfl,rfl,rfl⟩
theorem rmeant_any (ts:List Tk)(ps:List Pr)(g cap:Nat)(pa:Option Addr)(pc:Nat)(w:World)(hg:g<w.heap.size)(hr:RowT w g ts)(hn:ts.length<=6)(hsm:∀k,k<ts.length->(tsk ts k).small)
  (hm:ps.length<=6) (hp:0<ps.length->∃gp,pa=some ⟨gp,0,none⟩/\gp<w.heap.size/\RowP w gp ps):
  Calls Tryz.prog 53 #[.agg #[.slice (some ⟨g,0,none⟩) ts.length cap,.slice pa ps.length pc]] w fun e w'=>e=.returned (faultV (meantI ts ps))/\Below w.heap.size w w':=by
 have M0:=hide (MB.start w (.slice (some ⟨g,0,none⟩) ts.length cap) (.slice pa ps.length pc));have Hr:=hide hr;have Hsm:=hide hsm;have Hp:=hide hp;clear hr hsm hp;go_enter Tryz.func53,Tryz.ntmps53;go_wp2
 go_loopw [4] (fun i wr=>∃(k:Nat),k<=ts.length/\i=.int .i64 k/\MB w wr (.slice (some ⟨g,0,none⟩) ts.length cap) (.slice pa ps.length pc) (mT ts k)) (fun i _=>ts.length-(intOf i).toNat)
 case atStart=>exact⟨0,by omega,rfl,M0.out⟩
 case round=>
  clear M0;obtain⟨k,hk,rfl,M⟩:=hrel;by_cases hlt:k<ts.length
  .obtain⟨r0,r1,r2,r3,r4,r5,r6,r7,r8,r9⟩:=Hr.out.below M.b hg k hlt;have hst:Hid (mT ts (k+1)=if 0<=timedI (tsk ts k) then soon (if findI ts (tsk ts k).nm<k then soon (mT ts k) 3 (tsk ts k).q0 else mT ts k) 4 (timedI (tsk ts k)).toNat else if findI ts (tsk ts k).nm<k then soon (mT ts k) 3 (tsk ts k).q0 else mT ts k):=rfl;have hsml:=hide (Hsm.out k hlt);have hrow:=hide (Hr.out.below M.b hg);obtain⟨m0,m1,m2,m3,m4,m5,m6⟩:=M.cells;have MM:=hide M;have hw0:w.heap.size<wr.heap.size:=zL M.h0;have hw1:w.heap.size+1<wr.heap.size:=zL M.h1;have hw2:w.heap.size+1+1<wr.heap.size:=zL M.h2;have hgw:g<wr.heap.size:=by omega
   clear M;generalize tsk ts k=t at *;have hcases:(findI ts t.nm<k\/¬findI ts t.nm<k):=by omega
   go_wp2_with fail;refine(rfind_any ts g cap _ _ _ _ rfl t.nm _ (by simp;omega) (hrow.out.below (zN _ _) hgw) hn).mono ?_;rintro e w1 ⟨rfl,hb1⟩;have M1:=(MM.out.alloc _).keep hb1;have T1:w1.heap[wr.heap.size]? =some (.cells (tkA t) 95 (0,0)):=zK (zW _ _ _) hb1;have R1:=(hrow.out.below (zN _ _) hgw).below hb1 (by simp;omega);clear hb1 MM hrow r0 r1 r2 r3 r4 r5 r6 r7 r8 r9 m0 m1 m2 m3 m4 m5 m6;generalize wr.heap.size=X at *;have hX1:=zL T1;obtain⟨c0,c1,c2,c3,c4,c5,c6,c7,c8,c9⟩:=tkA_cells T1;obtain⟨m0,m1,m2,m3,m4,m5,m6⟩:=M1.cells;have HM:=hide M1;have HT:=hide T1;have HR:=hide R1;clear M1 T1 R1;rcases hcases with ha|ha
   .go_wp2_with fail;refine(rsooner_v (mT ts k) 3 t.q0 _ _ _ rfl rfl).mono ?_;rintro e w2 ⟨rfl,hb2⟩;have M2:=HM.out.keep hb2;have T2:=zK HT.out hb2;have R2:=HR.out.below hb2 (by omega);obtain⟨n0,n1,n2,n3,n4,n5,n6⟩:=M2.cells;obtain⟨d0,d1,d2,d3,d4,d5,d6,d7,d8,d9⟩:=tkA_cells T2;have M2':=M2.setF (soon (mT ts k) 3 t.q0);have T2':=blk_setF T2 (F:=w.heap.size+1+1) (by omega) 0 1 (.int .i64 (soon (mT ts k) 3 t.q0).1) (.int .i64 (soon (mT ts k) 3 t.q0).2);have R2':=row_setF R2 (F:=w.heap.size+1+1) (by omega) 0 1 (.int .i64 (soon (mT ts k) 3 t.q0).1) (.int .i64 (soon (mT ts k) 3 t.q0).2);have hne1:¬w.heap.size+1+1=X:=by omega
    have hne2:¬X=w.heap.size+1+1:=by omega
    have HM2:=hide M2';have HT2:=hide T2';have HR2:=hide R2';clear hb2 M2 T2 R2 M2' T2' R2' HM HT HR c0 c1 c2 c3 c4 c5 c6 c7 c8 c9 m0 m1 m2 m3 m4 m5 m6;go_wp2_with fail;refine(rtimed_v t _ _ rfl hsml.out).mono ?_;rintro e w3 ⟨rfl,hb3⟩;have M3:=HM2.out.keep hb3;have T3:=zK HT2.out hb3;have R3:=HR2.out.below hb3 (by have:=zL HM2.out.h0;omega);clear hb3 d0 d1 d2 d3 d4 d5 d6 d7 d8 d9 n0 n1 n2 n3 n4 n5 n6;obtain⟨m0,m1,m2,m3,m4,m5,m6⟩:=M3.cells;by_cases ht:0<=timedI t
    .have ht':((timedI t).toNat:Int)=timedI t:=Int.toNat_of_nonneg ht;have HM3:=hide M3;have HT3:=hide T3;have HR3:=hide R3;clear M3 T3 R3;have Ht':=hide ht';clear ht';go_wp2_with fail;rw[←Ht'.out];refine(rsooner_v (soon (mT ts k) 3 t.q0) 4 (timedI t).toNat _ _ _ rfl rfl).mono ?_;rintro e w4 ⟨rfl,hb4⟩;have M4:=(HM3.out.keep hb4);have M5:=M4.setF (soon (soon (mT ts k) 3 t.q0) 4 (timedI t).toNat);obtain⟨n0,n1,n2,n3,n4,n5,n6⟩:=M4.cells;have HM5:=hide M5;clear hb4 m0 m1 m2 m3 m4 m5 m6 M4 M5 HM3 HT3 HR3;go_wp2;go_roundw
     case rel=>exact⟨k+1,by omega,by go_num,by rw[hst.out,if_pos (by omega),if_pos (by omega)];exact HM5.out⟩
     case measure=>simp[intOf];omega
    .have HM3:=hide M3;clear M3 T3 R3;go_wp2;go_roundw
     case rel=>exact⟨k+1,by omega,by go_num,by rw[hst.out,if_neg (by omega),if_pos (by omega)];exact HM3.out⟩
     case measure=>simp[intOf];omega
   .skip
    go_wp2_with fail;refine(rtimed_v t _ _ rfl hsml.out).mono ?_;rintro e w3 ⟨rfl,hb3⟩;have M3:=HM.out.keep hb3;have T3:=zK HT.out hb3;have R3:=HR.out.below hb3 (by have:=zL HM.out.h0;omega);clear hb3 c0 c1 c2 c3 c4 c5 c6 c7 c8 c9 m0 m1 m2 m3 m4 m5 m6;obtain⟨m0,m1,m2,m3,m4,m5,m6⟩:=M3.cells;by_cases ht:0<=timedI t
    .have ht':((timedI t).toNat:Int)=timedI t:=Int.toNat_of_nonneg ht;have HM3:=hide M3;have HT3:=hide T3;have HR3:=hide R3;clear M3 T3 R3;have Ht':=hide ht';clear ht';go_wp2_with fail;rw[←Ht'.out];refine(rsooner_v (mT ts k) 4 (timedI t).toNat _ _ _ rfl rfl).mono ?_;rintro e w4 ⟨rfl,hb4⟩;have M4:=(HM3.out.keep hb4);have M5:=M4.setF (soon (mT ts k) 4 (timedI t).toNat);obtain⟨n0,n1,n2,n3,n4,n5,n6⟩:=M4.cells;have HM5:=hide M5;clear hb4 m0 m1 m2 m3 m4 m5 m6 M4 M5 HM3 HT3 HR3;go_wp2;go_roundw
     case rel=>exact⟨k+1,by omega,by go_num,by rw[hst.out,if_pos (by omega),if_neg (by omega)];exact HM5.out⟩
     case measure=>simp[intOf];omega
    .have HM3:=hide M3;clear M3 T3 R3;go_wp2;go_roundw
     case rel=>exact⟨k+1,by omega,by go_num,by rw[hst.out,if_neg (by omega),if_neg (by omega)];exact HM3.out⟩
     case measure=>simp[intOf];omega
  .have hkl:k=ts.length:=by omega
   subst hkl;obtain⟨m0,m1,m2,m3,m4,m5,m6⟩:=M.cells;have HM0:=hide M;clear M hk hlt;go_wp2
   go_loopw [7] (fun i wr=>∃(k:Nat),k<=ps.length/\i=.int .i64 k/\MB w wr (.slice (some ⟨g,0,none⟩) ts.length cap) (.slice pa ps.length pc) (mP ts ps k)) (fun i _=>ps.length-(intOf i).toNat)
   case atStart=>exact⟨0,by omega,rfl,HM0.out⟩
   case round=>
    clear HM0 m0 m1 m2 m3 m4 m5 m6;obtain⟨k,hk,rfl,M⟩:=hrel;by_cases hlt:k<ps.length
    .obtain⟨gp,rfl,hgp,hRP⟩:=Hp.out (by omega);have HRP:=hide hRP;clear hRP Hp;obtain⟨r0,r1,r2,r3,r4⟩:=HRP.out.below M.b hgp k hlt;have hst:Hid (mP ts ps (k+1)=stepP ts (psk ps k) (mP ts ps k)):=rfl;have hrow:=hide (Hr.out.below M.b hg);obtain⟨m0,m1,m2,m3,m4,m5,m6⟩:=M.cells;have MM:=hide M;have hw0:w.heap.size<wr.heap.size:=zL M.h0;have hw1:w.heap.size+1<wr.heap.size:=zL M.h1;have hw2:w.heap.size+1+1<wr.heap.size:=zL M.h2;have hgw:g<wr.heap.size:=by omega
     have hgpw:gp<wr.heap.size:=by omega
     clear M;generalize psk ps k=p at *;have hfa:=findI_lt ts p.a;have hfb:=findI_lt ts p.b;go_wp2_with fail;refine(rfind_any ts g cap _ _ _ _ rfl p.a _ (by simp;omega) (hrow.out.below (zN _ _) hgw) hn).mono ?_;rintro e w1 ⟨rfl,hb1⟩;have M1:=(MM.out.alloc _).keep hb1;have T1:w1.heap[wr.heap.size]? =some (.cells (prA p) 133 (0,0)):=zK (zW _ _ _) hb1;have R1:=(hrow.out.below (zN _ _) hgw).below hb1 (by simp;omega);clear hb1 MM hrow r0 r1 r2 r3 r4 m0 m1 m2 m3 m4 m5 m6;generalize wr.heap.size=X at *;have hX1:=zL T1;obtain⟨c0,c1,c2,c3,c4⟩:=prA_cells T1;obtain⟨m0,m1,m2,m3,m4,m5,m6⟩:=M1.cells;have HM:=hide M1;have HT:=hide T1;have HR:=hide R1;clear M1 T1 R1;go_wp2_with fail;refine(rfind_any ts g cap _ _ _ _ rfl p.b _ (by omega) HR.out hn).mono ?_;rintro e w2 ⟨rfl,hb2⟩;have M2:=HM.out.keep hb2;have T2:=zK HT.out hb2;have R2:=HR.out.below hb2 (by omega);have hX2:X<w2.heap.size:=zL T2;clear hb2 HM HT HR c0 c1 c2 c3 c4 m0 m1 m2 m3 m4 m5 m6 hX1;obtain⟨c0,c1,c2,c3,c4⟩:=prA_cells T2;obtain⟨m0,m1,m2,m3,m4,m5,m6⟩:=M2.cells;have HM:=hide M2;have HT:=hide T2;have HR:=hide R2;clear M2 T2 R2;have hstep:∀f',f'=stepP ts p (mP ts ps k)->mP ts ps (k+1)=f':=fun f' h=>by rw[h];exact hst.out
     unfold stepP stepP2 stepP1 badPair at hstep;have hst:=hide hstep;clear hstep;generalize findI ts p.a=fa at *;generalize findI ts p.b=fb at *;by_cases ha:fa<0
     .have hda:decide (0<=fa)=false:=by simp;omega
      have hne1:¬w.heap.size+1+1=X:=by omega
      have hne2:¬X=w.heap.size+1+1:=by omega
      go_wp2_with fail;refine(rsooner_v (mP ts ps k) 3 p.q0 _ _ _ rfl rfl).mono ?_;rintro e w10 ⟨rfl,hb10⟩;have M10:=HM.out.keep hb10;have T10:=zK HT.out hb10;have R10:=HR.out.below hb10 (by have:=zL HM.out.h0;omega);clear hb10 c0 c1 c2 c3 c4 m0 m1 m2 m3 m4 m5 m6;obtain⟨c0,c1,c2,c3,c4⟩:=prA_cells T10;obtain⟨m0,m1,m2,m3,m4,m5,m6⟩:=M10.cells;have MS10:=hide (M10.setF (soon (mP ts ps k) 3 p.q0));have TS10:=hide (blk_setF T10 (F:=w.heap.size+1+1) (by omega) 0 1 (.int .i64 (soon (mP ts ps k) 3 p.q0).1) (.int .i64 (soon (mP ts ps k) 3 p.q0).2));have RS10:=hide (row_setF R10 (F:=w.heap.size+1+1) (by omega) 0 1 (.int .i64 (soon (mP ts ps k) 3 p.q0).1) (.int .i64 (soon (mP ts ps k) 3 p.q0).2));clear M10 T10 R10;by_cases hb:fb<0
      .go_wp2_with fail;refine(rsooner_v (soon (mP ts ps k) 3 p.q0) 3 p.q1 _ _ _ rfl rfl).mono ?_;rintro e w11 ⟨rfl,hb11⟩;have M11:=MS10.out.keep hb11;have T11:=zK TS10.out hb11;have R11:=RS10.out.below hb11 (by have:=zL MS10.out.h0;omega);clear hb11 c0 c1 c2 c3 c4 m0 m1 m2 m3 m4 m5 m6;obtain⟨c0,c1,c2,c3,c4⟩:=prA_cells T11;obtain⟨m0,m1,m2,m3,m4,m5,m6⟩:=M11.cells;have MS11:=hide (M11.setF (soon (soon (mP ts ps k) 3 p.q0) 3 p.q1));have TS11:=hide (blk_setF T11 (F:=w.heap.size+1+1) (by omega) 0 1 (.int .i64 (soon (soon (mP ts ps k) 3 p.q0) 3 p.q1).1) (.int .i64 (soon (soon (mP ts ps k) 3 p.q0) 3 p.q1).2));have RS11:=hide (row_setF R11 (F:=w.heap.size+1+1) (by omega) 0 1 (.int .i64 (soon (soon (mP ts ps k) 3 p.q0) 3 p.q1).1) (.int .i64 (soon (soon (mP ts ps k) 3 p.q0) 3 p.q1).2));clear M11 T11 R11;go_wp2_with fail
       go_quiet (fail)
       go_wp2;go_roundw
       case rel=>exact⟨k+1,by omega,by go_num,by rw[hst.out (soon (soon (mP ts ps k) 3 p.q0) 3 p.q1) (by simp[show fa<0 by omega,show fb<0 by omega,show ¬0<=fa by omega])];exact MS11.out.drewN _⟩
       case measure=>simp[intOf];omega
      .go_wp2_with fail
       go_quiet (fail)
       go_wp2;go_roundw
       case rel=>exact⟨k+1,by omega,by go_num,by rw[hst.out (soon (mP ts ps k) 3 p.q0) (by simp[show fa<0 by omega,show ¬fb<0 by omega,show ¬0<=fa by omega])];exact MS10.out.drewN _⟩
       case measure=>simp[intOf];omega
     .have hda:decide (0<=fa)=true:=by simp;omega
      have hne1:¬w.heap.size+1+1=X:=by omega
      have hne2:¬X=w.heap.size+1+1:=by omega
      by_cases hb:fb<0
      .have hdb:decide (0<=fb)=false:=by simp;omega
       go_wp2_with fail;refine(rsooner_v (mP ts ps k) 3 p.q1 _ _ _ rfl rfl).mono ?_;rintro e w12 ⟨rfl,hb12⟩;have M12:=HM.out.keep hb12;have T12:=zK HT.out hb12;have R12:=HR.out.below hb12 (by have:=zL HM.out.h0;omega);clear hb12 c0 c1 c2 c3 c4 m0 m1 m2 m3 m4 m5 m6;obtain⟨c0,c1,c2,c3,c4⟩:=prA_cells T12;obtain⟨m0,m1,m2,m3,m4,m5,m6⟩:=M12.cells;have MS12:=hide (M12.setF (soon (mP ts ps k) 3 p.q1));have TS12:=hide (blk_setF T12 (F:=w.heap.size+1+1) (by omega) 0 1 (.int .i64 (soon (mP ts ps k) 3 p.q1).1) (.int .i64 (soon (mP ts ps k) 3 p.q1).2));have RS12:=hide (row_setF R12 (F:=w.heap.size+1+1) (by omega) 0 1 (.int .i64 (soon (mP ts ps k) 3 p.q1).1) (.int .i64 (soon (mP ts ps k) 3 p.q1).2));clear M12 T12 R12;go_wp2_with fail
       go_quiet (fail)
       go_wp2;go_roundw
       case rel=>exact⟨k+1,by omega,by go_num,by rw[hst.out (soon (mP ts ps k) 3 p.q1) (by simp[show ¬fa<0 by omega,show fb<0 by omega,show ¬0<=fb by omega])];exact MS12.out.drewN _⟩
       case measure=>simp[intOf];omega
      .obtain⟨na,rfl⟩:=Int.eq_ofNat_of_zero_le (show 0<=fa by omega);obtain⟨nb,rfl⟩:=Int.eq_ofNat_of_zero_le (show 0<=fb by omega);have hna:na<ts.length:=by omega
       have hnb:nb<ts.length:=by omega
       have ra:=(HR.out na hna).2.1;have rb:=(HR.out nb hnb).2.1;simp only[Int.toNat_natCast]at hst;have ha0:¬(na:Int)<0:=by omega
       have hb0:¬(nb:Int)<0:=by omega
       clear ha hb hda;have hda:decide ((0:Int)<=na)=true:=by simp
       have hdb:decide ((0:Int)<=nb)=true:=by simp
       by_cases he:na=nb
       .have he1:((na:Int)==nb)=true:=by simp;omega
        have he2:(na:Int)=nb:=by omega
        have HE:=hide he2;clear he2 he;go_wp2_with fail
        go_quiet (fail)
        go_wp2_with fail;refine(rsooner_v (mP ts ps k) 5 p.q1 _ _ _ rfl rfl).mono ?_;rintro e w13 ⟨rfl,hb13⟩;have M13:=(HM.out.drewN _).keep hb13;clear hb13 c0 c1 c2 c3 c4 m0 m1 m2 m3 m4 m5 m6;obtain⟨m0,m1,m2,m3,m4,m5,m6⟩:=M13.cells;have MS13:=hide (M13.setF (soon (mP ts ps k) 5 p.q1));clear M13;go_wp2;go_roundw
        case rel=>exact⟨k+1,by omega,by go_num,by rw[hst.out (soon (mP ts ps k) 5 p.q1) (by simp[HE.out,show ¬(nb:Int)<0 by omega])];exact MS13.out⟩
        case measure=>simp[intOf];omega
       .have he1:((na:Int)==nb)=false:=by simp;omega
        have he2:¬(na:Int)=nb:=by omega
        have HE:=hide he;clear he
        cases hap:p.ap
        .by_cases hP:(tsk ts na).P=(tsk ts nb).P
         .have hP1:(((tsk ts na).P:Int) != (tsk ts nb).P)=false:=by simp;omega
          have HP:=hide hP;clear hP;rw[hap]at c2;go_wp2_with fail
          go_quiet (fail)
          go_wp2;go_roundw
          case rel=>exact⟨k+1,by omega,by go_num,by rw[hst.out (mP ts ps k) (by have h1:=HE.out;have h2:=HP.out;simp[h2,hap,show ¬(na:Int)=nb by omega,show ¬(na:Int)<0 by omega,show ¬(nb:Int)<0 by omega])];exact HM.out.drewN _⟩
          case measure=>simp[intOf];omega
         .have hP1:(((tsk ts na).P:Int) != (tsk ts nb).P)=true:=by rw[bne_iff_ne];omega
          have HP:=hide hP;clear hP;rw[hap]at c2;go_wp2_with fail
          go_quiet (fail)
          go_wp2_with fail;refine(rsooner_v (mP ts ps k) 5 p.q1 _ _ _ rfl rfl).mono ?_;rintro e w14 ⟨rfl,hb14⟩;have M14:=(HM.out.drewN _).keep hb14;clear hb14 c0 c1 c2 c3 c4 m0 m1 m2 m3 m4 m5 m6;obtain⟨m0,m1,m2,m3,m4,m5,m6⟩:=M14.cells;have MS14:=hide (M14.setF (soon (mP ts ps k) 5 p.q1));clear M14;go_wp2;go_roundw
          case rel=>exact⟨k+1,by omega,by go_num,by rw[hst.out (soon (mP ts ps k) 5 p.q1) (by have h2:=HP.out;simp[h2,hap,show ¬(na:Int)<0 by omega,show ¬(nb:Int)<0 by omega])];exact MS14.out⟩
          case measure=>simp[intOf];omega
        .rw[hap]at c2;go_wp2_with fail
         go_quiet (fail)
         go_wp2;go_roundw
         case rel=>exact⟨k+1,by omega,by go_num,by rw[hst.out (mP ts ps k) (by have h1:=HE.out;simp[hap,show ¬(na:Int)=nb by omega,show ¬(na:Int)<0 by omega,show ¬(nb:Int)<0 by omega])];exact HM.out.drewN _⟩
         case measure=>simp[intOf];omega
    .have hkl:k=ps.length:=by omega
     subst hkl;obtain⟨m0,m1,m2,m3,m4,m5,m6⟩:=M.cells;have HM:=hide M;clear M;go_wp2;refine bodyPost_ret (v:=faultV (mP ts ps ps.length)) (by simp[results,Tryz.results53,go_sem,m5,faultV]) rfl ⟨rfl,?_⟩;exact(HM.out.b.setCell (by show w.heap.size<=w.heap.size+1;omega) _).setCell (by show w.heap.size<=w.heap.size+1;omega) _
theorem tokAt_N (l:List UInt8)(i:Nat):(tokAt l i).N<=9999:=by
 unfold PT.N;split
 .rename_i hk
  revert hk
  unfold tokAt;split
  .intro hk;simp at hk
  .rename_i c r hd;split
   .rename_i hs;intro hk;simp at hk;simp[signB,hk]at hs
   .split
    .intro hk;simp at hk
    .split
     .rename_i h4;intro _;simp only;have h1:=dval_lt ((c::r).take (lead zD (c::r))) (by
       intro d hd';have:=mem_lead zD (c::r) _ (Nat.le_refl _) d hd';simp[zD]at this;omega)
      have h2:((c::r).take (lead zD (c::r))).length<=4:=by rw[List.length_take];omega
      have h3:10 ^ ((c::r).take (lead zD (c::r))).length<=10 ^ 4:=Nat.pow_le_pow_right (by omega) h2;omega
     .intro hk;simp at hk
 .omega
theorem toks_N:∀(f:Nat) (l:List UInt8) (i:Nat),∀t∈toks f l i,t.N<=9999
 | 0,l,i,t,h=>by simp[toks]at h;rw[h];exact tokAt_N _ _
 | f+1,l,i,t,h=>by
  rw[toks]at h;split at h
  .simp at h;rw[h];exact tokAt_N _ _
  .rcases List.mem_cons.1 h with rfl|h
   .exact tokAt_N _ _
   .exact toks_N f l _ t h
theorem tk_N (l:List UInt8)(j:Nat):(tk (zT l) j).N<=9999:=by
 unfold tk;rw[List.getD_eq_getElem?_getD]
 cases h:(zT l)[j]? with
 | none=>simp[PT.N]
 | some t=>exact toks_N _ _ _ t (List.mem_of_getElem? h)
theorem pRest_small {l:List UInt8}{nm:UInt8}{P O q0 q1 q2 j:Nat}{t:Tk}{k:Nat}(hP:P<=9999)(hO:O<=9999)(h:pRest (zT l) nm P O q0 q1 q2 j=.ok (t,k)):t.small:=by
 unfold pRest at h
 repeat (split at h;rotate_left;simp at h)
 injection h with h;injection h with h1 h2;subst h1;exact⟨hP,hO,tk_N _ _,tk_N _ _⟩
theorem pTask_small {l:List UInt8}{i:Nat}{t:Tk}{k:Nat}(h:pTask (zT l) i=.ok (t,k)):t.small:=by
 unfold pTask at h;split at h
 .split at h
  .split at h
   .split at h
    .split at h
     .exact pRest_small (tk_N _ _) (tk_N _ _) h
     .simp at h
    .exact pRest_small (tk_N _ _) (by omega) h
   .simp at h
  .simp at h
 .simp at h
theorem pTasks_small {l:List UInt8}:∀(f i:Nat) (ts:List Tk) (k:Nat),pTasks f (zT l) i=.ok (ts,k)->(∀t∈ts,t.small)/\1<=ts.length/\ts.length<=f
 | 0,i,ts,k,h=>by simp[pTasks]at h
 | f+1,i,ts,k,h=>by
  rw[pTasks]at h
  cases ht:pTask (zT l) i with
  | error e=>rw[ht]at h;simp at h
  | ok x=>
   obtain⟨t,j⟩:=x;rw[ht]at h;simp only at h;split at h
   .cases hr:pTasks f (zT l) (j+1) with
    | error e=>rw[hr]at h;simp at h
    | ok y=>
     obtain⟨ts',k'⟩:=y;rw[hr]at h;simp at h;obtain⟨rfl,rfl⟩:=h;obtain⟨h1,h2,h3⟩:=pTasks_small f (j+1) ts' k' hr;refine⟨?_,by simp,by simp;omega⟩;intro t' ht';rcases List.mem_cons.1 ht' with rfl|h'
     .exact pTask_small ht
     .exact h1 t' h'
   .simp at h;obtain⟨rfl,rfl⟩:=h;refine⟨?_,by simp,by simp⟩;intro t' ht';simp at ht';rw[ht'];exact pTask_small ht
theorem pPairs_len {T:List PT}:∀(f i:Nat) (ps:List Pr) (k:Nat),pPairs f T i=.ok (ps,k)->ps.length<=f
 | 0,i,ps,k,h=>by simp[pPairs]at h;simp[←h.1]
 | f+1,i,ps,k,h=>by
  rw[pPairs]at h;split at h
  .cases hp:pPair T (!(sees (tk T i) wBefore)) (i+1) with
   | error e=>rw[hp]at h;simp at h
   | ok x=>
    obtain⟨p,j⟩:=x;rw[hp]at h;simp only at h
    cases hr:pPairs f T j with
    | error e=>rw[hr]at h;simp at h
    | ok y=>
     obtain⟨ps',k'⟩:=y;rw[hr]at h;simp at h;obtain⟨rfl,rfl⟩:=h;have:=pPairs_len f j ps' k' hr;simp;omega
  .simp at h;obtain⟨rfl,rfl⟩:=h;simp
theorem pSet_bounds {l:List UInt8}{ts:List Tk}{ps:List Pr}(h:pSet (zT l)=.ok (ts,ps)):(∀t∈ts,t.small)/\1<=ts.length/\ts.length<=6/\ps.length<=6:=by
 unfold pSet at h
 cases h1:pFirst (zT l) with
 | error e=>rw[h1]at h;simp at h
 | ok x=>
  obtain⟨ts',j⟩:=x;rw[h1]at h;simp only at h
  cases h2:pPairs 6 (zT l) j with
  | error e=>rw[h2]at h;simp at h
  | ok y=>
   obtain⟨ps',k⟩:=y;rw[h2]at h;simp only at h;split at h
   .simp at h;obtain⟨rfl,rfl⟩:=h;unfold pFirst at h1;split at h1
    .obtain⟨a,b,c⟩:=pTasks_small _ _ _ _ h1;exact⟨a,b,c,pPairs_len _ _ _ _ h2⟩
    .simp at h1
   .simp at h
theorem tsk_mem {ts:List Tk}{k:Nat}(h:k<ts.length):tsk ts k∈ts:=by
 unfold tsk;rw[List.getD_eq_getElem?_getD,List.getElem?_eq_getElem h];exact List.getElem_mem h
theorem soon_ne {f:Nat×Nat}{e a:Nat}(he:e≠0):(soon f e a).1≠0:=by
 unfold soon;split
 .exact he
 .intro h;simp_all
theorem stepT_zero {ts:List Tk}{k:Nat}{f:Nat×Nat}(h:(stepT ts k f).1=0):f.1=0/\timedI (tsk ts k)<0:=by
 unfold stepT at h;split at h
 .exact absurd h (soon_ne (by decide))
 .refine⟨?_,by omega⟩;unfold stepT1 at h;split at h
  .exact absurd h (soon_ne (by decide))
  .exact h
theorem mT_zero {ts:List Tk}:∀n,(mT ts n).1=0->∀k,k<n->timedI (tsk ts k)<0
 | 0,_,k,hk=>by omega
 | n+1,h,k,hk=>by
  rw[mT]at h;obtain⟨h1,h2⟩:=stepT_zero h;by_cases hkn:k=n
  .subst hkn;exact h2
  .exact mT_zero n h1 k (by omega)
theorem stepP_zero {ts:List Tk}{p:Pr}{f:Nat×Nat}(h:(stepP ts p f).1=0):f.1=0:=by
 unfold stepP at h;split at h
 .exact absurd h (soon_ne (by decide))
 .unfold stepP2 at h;split at h
  .exact absurd h (soon_ne (by decide))
  .unfold stepP1 at h;split at h
   .exact absurd h (soon_ne (by decide))
   .exact h
theorem mP_zero {ts:List Tk}{ps:List Pr}:∀n,(mP ts ps n).1=0->(mT ts ts.length).1=0
 | 0,h=>h
 | n+1,h=>mP_zero n (stepP_zero h)
theorem timed_P {t:Tk}(h:timedI t<0):1<=t.P/\t.P<=60/\t.O<t.P/\1<=t.C/\t.C<=60/\t.D<=60:=by
 unfold timedI at h
 repeat (split at h;omega)
 omega
def knownR (l:List UInt8):Except (Nat×Nat) (List Tk×List Pr):=
 if 400<l.length then .error (1,0)
 else match pSet (zT l) with
  | .error j=>.error (2,(tk (zT l) j).at_)
  | .ok (ts,ps)=>if (meantI ts ps).1≠0 then .error (meantI ts ps) else if cycI ts=0 then .error (4,0) else .ok (ts,ps)
def KnownPost (R:Except (Nat×Nat) (List Tk×List Pr)) (w:World) (e:Ending) (w':World):Prop:=
  Below w.heap.size w w'/\
  ((∃f:Nat×Nat,R=.error f/\e=.returned (.tuple #[.agg #[.slice none 0 0,.slice none 0 0],.int .i64 f.1,.int .i64 f.2]))\/
   (∃ts ps tv pv,R=.ok (ts,ps)/\e=.returned (.tuple #[.agg #[tv,pv],.int .i64 0,.int .i64 0])/\w'.ownsRow w.heap.size 95 10 tv ts.length (tkRow ts)/\w'.ownsRow w.heap.size 133 5 pv ps.length (prRow ps)))
theorem rParse_long (s:ByteArray)(w:World)(hs:400<s.size)(hm:s.size<=9223372036854775807):
  Calls Tryz.prog 52 #[.string s] w fun e w'=>e=.returned (.tuple #[.agg #[.slice none 0 0,.slice none 0 0],.int .i64 1,.int .i64 0])/\Below w.heap.size w w':=by
 have hs':(400:Int)<s.size:=by omega
 go_enter Tryz.func52,Tryz.ntmps52;go_wp2;exact bodyPost_ret (v:=.tuple #[.agg #[.slice none 0 0,.slice none 0 0],.int .i64 1,.int .i64 0]) (by simp[results,Tryz.results52,go_sem]) rfl ⟨rfl,zN _ _⟩
theorem hp_of {w:World}{base:Nat}{ps:List Pr}{pa:Option Addr}{pc:Nat}(h:w.ownsRow base 133 5 (.slice pa ps.length pc) ps.length (prRow ps)):
  0<ps.length->∃gp,pa=some ⟨gp,0,none⟩/\gp<w.heap.size/\RowP w gp ps:=by
 intro hn;obtain⟨g,cap,e,h1,h2⟩:=own_form h hn;injection e with e1 e2 e3;subst e1;exact⟨g,rfl,h2,rowP_own h⟩
theorem rKnown_any (s:ByteArray)(w:World)(hm:s.size<=9223372036854775807):
  Calls Tryz.prog 27 #[.string s] w (KnownPost (knownR s.data.toList) w):=by
 have hl:s.data.toList.length=s.size:=by simp
 by_cases hs:400<s.size
 .have hR:Hid (knownR s.data.toList=.error (1,0)):=by unfold Hid knownR;rw[if_pos (by omega)]
  go_enter Tryz.func27,Tryz.ntmps27;go_wp2_with fail;refine(rParse_long s _ hs hm).mono ?_;rintro e w1 ⟨rfl,hb⟩;have hb':Below w.heap.size w w1:=(zN w _).trans (hb.mono (by simp));have hc:∀o,w1.cell? ⟨w.heap.size,o,none⟩=#[Value.slice none 0 0,.slice none 0 0][o]? := zC (zK (zW w _ _) hb);have hf:∀o,w1.frozen? ⟨w.heap.size,o,none⟩=false:=zF (zK (zW w _ _) hb);have hlt:w.heap.size<w1.heap.size:=zL (zK (zW w _ _) hb);have Hb:=hide hb';clear hb hb';go_wp2;refine bodyPost_ret (v:=.tuple #[.agg #[.slice none 0 0,.slice none 0 0],.int .i64 1,.int .i64 0]) (by simp[results,Tryz.results27,go_sem,hc,hlt]) rfl ⟨?_,.inl ⟨(1,0),hR.out,rfl⟩⟩;exact((Hb.out.setCell (Nat.le_refl _) _).setCell (Nat.le_refl _) _).alloc (by rw[zH,zH];omega) _
 .have hs4:s.size<=400:=by omega
  have hRd:knownR s.data.toList=match pSet (zT s.data.toList) with
    | .error j=>.error (2,(tk (zT s.data.toList) j).at_)
    | .ok (ts,ps)=>if (meantI ts ps).1≠0 then .error (meantI ts ps) else if cycI ts=0 then .error (4,0) else .ok (ts,ps):=by
   unfold knownR;rw[if_neg (by omega)]
  have hbd:=fun ts ps=>pSet_bounds (l:=s.data.toList) (ts:=ts) (ps:=ps);have HR:=hide hRd;have Hbd:=hide hbd;clear hRd hbd hl;go_enter Tryz.func27,Tryz.ntmps27;go_wp2_with fail;refine(rParse_any s _ hs4).mono ?_;rintro e w1 ⟨hb,hcase⟩;have hb':Below w.heap.size w w1:=(zN w _).trans (hb.mono (by simp));have hY:=zK (zW w _ _) hb;have hc:∀o,w1.cell? ⟨w.heap.size,o,none⟩=#[Value.slice none 0 0,.slice none 0 0][o]? := zC hY;have hf:∀o,w1.frozen? ⟨w.heap.size,o,none⟩=false:=zF hY;have hlt:w.heap.size<w1.heap.size:=zL hY;have Hb:=hide hb';have HY:=hide hY;clear hb hb' hY;rcases hcase with⟨j,hj,rfl⟩|⟨ts,ps,tv,pv,hj,rfl,ht,hp⟩
  .have hR:Hid (knownR s.data.toList=.error (2,(tk (zT s.data.toList) j).at_)):=by unfold Hid;rw[HR.out,hj]
   clear hj HR;generalize (tk (zT s.data.toList) j).at_=aa at *;go_wp2;refine bodyPost_ret (v:=.tuple #[.agg #[.slice none 0 0,.slice none 0 0],.int .i64 2,.int .i64 aa]) (by simp[results,Tryz.results27,go_sem,hc,hlt]) rfl ⟨?_,.inl ⟨(2,aa),hR.out,rfl⟩⟩;exact((Hb.out.setCell (Nat.le_refl _) _).setCell (Nat.le_refl _) _).alloc (by rw[zH,zH];omega) _
  .obtain⟨hsm,hn1,hn6,hm6⟩:=Hbd.out ts ps hj;obtain⟨g,cap,rfl,hg1,hg2⟩:=own_form ht (by omega);obtain⟨pa,pc,rfl⟩:=own_slice hp;have hRow:=rowT_own ht;have hPP:=hp_of hp;have hR:Hid (knownR s.data.toList=if (meantI ts ps).1≠0 then .error (meantI ts ps) else if cycI ts=0 then .error (4,0) else .ok (ts,ps)):=by unfold Hid;rw[HR.out,hj]
   have Hsm:Hid (∀k,k<ts.length->(tsk ts k).small):=fun k hk=>hsm _ (tsk_mem hk);have Hrow:=hide hRow;have Hpp:=hide hPP;have Ht:=hide ht;have Hp:=hide hp;clear hj HR Hbd hsm hRow hPP ht hp;simp only[World.size_alloc]at hg1;go_wp2_with fail;refine(rmeant_any ts ps g cap pa pc _ (by simp;omega) (Hrow.out.below (zN _ _) hg2) hn6 Hsm.out hm6 ?_).mono ?_
   .intro hq;obtain⟨gp,e1,e2,e3⟩:=Hpp.out hq;exact⟨gp,e1,by simp;omega,e3.below (zN _ _) e2⟩
   rintro e w2 ⟨rfl,hb2⟩;have hX:=zK (zW w1 _ _) hb2;have hb12:Below w1.heap.size w1 w2:=(zN w1 _).trans (hb2.mono (by simp));have hY2:=zK HY.out hb12;have x0:∀o,w2.cell? ⟨w1.heap.size,o,none⟩=#[Value.slice (some ⟨g,0,none⟩) ts.length cap,.slice pa ps.length pc][o]? := zC hX;have y0:∀o,w2.cell? ⟨w.heap.size,o,none⟩=#[Value.slice none 0 0,.slice none 0 0][o]? := zC hY2;have y1:∀o,w2.frozen? ⟨w.heap.size,o,none⟩=false:=zF hY2;have hl2:w.heap.size<w2.heap.size:=zL hY2;have hl3:w1.heap.size<w2.heap.size:=zL hX;have Hb2:=hide (Hb.out.trans (hb12.mono (by omega)));have Hb12:=hide hb12;have HX2:=hide hX;have HY2:=hide hY2;clear hb2 hX hb12 hY2 hc hf HY;unfold faultV;by_cases hE:(meantI ts ps).1=0
   .have hE':(((meantI ts ps).1:Int) != 0)=false:=by simp;omega
    have hP:Hid (∀k,k<ts.length->1<=(tsk ts k).P/\(tsk ts k).P<=60):=by
     intro k hk;have:=timed_P (mT_zero ts.length (mP_zero ps.length hE) k hk);omega
    have hR2:Hid (knownR s.data.toList=if cycI ts=0 then .error (4,0) else .ok (ts,ps)):=by unfold Hid;rw[hR.out,if_neg (by omega)]
    clear hR hE;generalize meantI ts ps=F at *;go_wp2_with fail;refine(rCycle_any ts g cap _ _ _ _ rfl _ (by simp;omega) ((Hrow.out.below Hb12.out hg2).below (zN _ _) (by omega)) hn6 hP.out).mono ?_;rintro e w3 ⟨rfl,hb3⟩;have hb23:Below w2.heap.size w2 w3:=(zN w2 _).trans (hb3.mono (by simp));have hX3:=zK HX2.out hb23;have hY3:=zK HY2.out hb23;have z0:∀o,w3.cell? ⟨w1.heap.size,o,none⟩=#[Value.slice (some ⟨g,0,none⟩) ts.length cap,.slice pa ps.length pc][o]? := zC hX3;have z1:∀o,w3.cell? ⟨w.heap.size,o,none⟩=#[Value.slice none 0 0,.slice none 0 0][o]? := zC hY3;have z2:∀o,w3.frozen? ⟨w.heap.size,o,none⟩=false:=zF hY3;have Hb3:=hide (Hb2.out.trans (hb23.mono (by omega)));have Ht3:=hide (owns_below (owns_below Ht.out Hb12.out) hb23);have Hp3:=hide (owns_below (owns_below Hp.out Hb12.out) hb23);clear hb3 hb23 hX3 hY3 x0 y0 y1;by_cases hC:cycI ts=0
    .have hC':((cycI ts:Int)==0)=true:=by simp;omega
     have hR3:Hid (knownR s.data.toList=.error (4,0)):=by unfold Hid;rw[hR2.out,if_pos hC]
     clear hC hR2;generalize cycI ts=cc at *;go_wp2;refine bodyPost_ret (v:=.tuple #[.agg #[.slice none 0 0,.slice none 0 0],.int .i64 4,.int .i64 0]) (by simp[results,Tryz.results27,go_sem,z1]) rfl ⟨?_,.inl ⟨(4,0),hR3.out,rfl⟩⟩;exact(Hb3.out.setCell (Nat.le_refl _) _).setCell (Nat.le_refl _) _
    .have hC':((cycI ts:Int)==0)=false:=by simp;omega
     have hR3:Hid (knownR s.data.toList=.ok (ts,ps)):=by unfold Hid;rw[hR2.out,if_neg hC]
     clear hC hR2;generalize cycI ts=cc at *;go_wp2;refine bodyPost_ret (v:=.tuple #[.agg #[.slice (some ⟨g,0,none⟩) ts.length cap,.slice pa ps.length pc],.int .i64 0,.int .i64 0]) (by simp[results,Tryz.results27,go_sem,z1]) rfl ⟨?_,.inr ⟨ts,ps,_,_,hR3.out,rfl,?_,?_⟩⟩
     .exact(Hb3.out.setCell (Nat.le_refl _) _).setCell (Nat.le_refl _) _
     .exact own_weak (ownsRow_setCell_below (ownsRow_setCell_below Ht3.out (by simp) _) (by simp) _) (by simp)
     .exact own_weak (ownsRow_setCell_below (ownsRow_setCell_below Hp3.out (by simp) _) (by simp) _) (by simp)
   .have hE':(((meantI ts ps).1:Int) != 0)=true:=by rw[bne_iff_ne];omega
    have hR2:Hid (knownR s.data.toList=.error (meantI ts ps)):=by unfold Hid;rw[hR.out,if_pos hE]
    clear hR hE;generalize meantI ts ps=F at *;go_wp2
    go_region
    go_wp2;refine bodyPost_ret (v:=.tuple #[.agg #[.slice none 0 0,.slice none 0 0],.int .i64 F.1,.int .i64 F.2]) (by simp[results,Tryz.results27,go_sem,y0,hl2]) rfl ⟨?_,.inl ⟨F,hR2.out,rfl⟩⟩;exact(((Hb2.out.setCell (Nat.le_refl _) _).setCell (Nat.le_refl _) _).alloc (by rw[zH,zH];omega) _).drew
def dlo:ByteArray:=⟨#[48,49,50,51,52,53,54,55,56,57,97,98,99,100,101,102,103,104,105,106,107,108,109,110,111,112,113,114,115,116,117,118,119,120,121,122]⟩
def dhi:ByteArray:=⟨#[48,48,48,49,48,50,48,51,48,52,48,53,48,54,48,55,48,56,48,57,49,48,49,49,49,50,49,51,49,52,49,53,49,54,49,55,49,56,49,57,50,48,50,49,50,50,50,51,50,52,50,53,50,54,50,55,50,56,50,57,51,48,51,49,51,50,51,51,51,52,51,53,51,54,51,55,51,56,51,57,52,48,52,49,52,50,52,51,52,52,52,53,52,54,52,55,52,56,52,57,53,48,53,49,53,50,53,51,53,52,53,53,53,54,53,55,53,56,53,57,54,48,54,49,54,50,54,51,54,52,54,53,54,54,54,55,54,56,54,57,55,48,55,49,55,50,55,51,55,52,55,53,55,54,55,55,55,56,55,57,56,48,56,49,56,50,56,51,56,52,56,53,56,54,56,55,56,56,56,57,57,48,57,49,57,50,57,51,57,52,57,53,57,54,57,55,57,56,57,57]⟩
def dB (n:Nat):ByteArray:=if n<10 then dlo.extract n (n+1) else dhi.extract (n*2) (n*2+2)
theorem dB_size (n:Nat):(dB n).size<=2:=by
 unfold dB;split<;>simp only[ByteArray.size_extract]<;>omega
theorem small_any (n:Nat)(w:World)(hn2:n<100):
  Calls Tryz.prog 166 #[.int .i64 n] w fun e w'=>e=.returned (.string (dB n))/\w'=w:=by
 by_cases hn:n<10
 .have hn':(n:Int)<10:=by omega
  have hd:Hid (dB n=dlo.extract n (n+1)):=by unfold Hid dB;rw[if_pos hn]
  go_enter Tryz.func166,Tryz.ntmps166;go_wp2;go_ret;refine⟨?_,rfl⟩;rw[hd.out];rfl
 .have hn':¬(n:Int)<10:=by omega
  have hd:Hid (dB n=dhi.extract (n*2) (n*2+2)):=by unfold Hid dB;rw[if_neg hn]
  go_enter Tryz.func166,Tryz.ntmps166;go_wp2;go_ret;refine⟨?_,rfl⟩;rw[hd.out];rfl
theorem format_any (n:Nat)(w:World)(hn:n<100):
  Calls Tryz.prog 148 #[.int .i64 n,.int .i64 10] w fun e w'=>e=.returned (.string (dB n))/\w'=w:=by
 have h1:(0:Int)<=n:=by omega
 have h2:(n:Int)<100:=by omega
 go_enter Tryz.func148,Tryz.ntmps148;go_wp2_with (go_at_call 166;refine(small_any n _ hn).mono ?_;rintro e w' ⟨rfl,rfl⟩);go_ret;exact⟨rfl,rfl⟩
theorem iitoa_any (n:Nat)(w:World)(hn:n<100):
  Calls Tryz.prog 112 #[.int .i64 n] w fun e w'=>e=.returned (.string (dB n))/\w'=w:=by
 go_enter Tryz.func112,Tryz.ntmps112;go_wp2_with (go_at_call 148;refine(format_any n _ hn).mono ?_;rintro e w' ⟨rfl,rfl⟩);go_ret;exact⟨rfl,rfl⟩
theorem itoa_any (n:Nat)(w:World)(hn:n<100):
  Calls Tryz.prog 71 #[.int .i64 n] w fun e w'=>e=.returned (.string (dB n))/\w'=w:=by
 go_enter Tryz.func71,Tryz.ntmps71;go_wp2_with (go_at_call 112;refine(iitoa_any n _ hn).mono ?_;rintro e w' ⟨rfl,rfl⟩);go_ret;exact⟨rfl,rfl⟩
theorem rdec_any (n:Nat)(w:World)(hn:n<100):
  Calls Tryz.prog 82 #[.int .i64 n] w fun e w'=>e=.returned (.string (dB n))/\w'=w:=by
 go_enter Tryz.func82,Tryz.ntmps82;go_wp2_with (go_at_call 71;refine(itoa_any n _ hn).mono ?_;rintro e w' ⟨rfl,rfl⟩);go_ret;exact⟨rfl,rfl⟩
end
end Go.Proofs.YtbdffcjganlblaaGreatDoor
