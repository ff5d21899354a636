import Derived.Test.YtbdffcjganlblaaGreatDoorAProgBtoProgC
set_option linter.unusedVariables false
set_option linter.unusedSimpArgs false
set_option maxRecDepth 100000
set_option maxHeartbeats 16000000
namespace Go.Proofs.YtbdffcjganlblaaGreatDoor
section
open Go.RowKit
theorem tok_first {l:List UInt8}{q:Nat}{c:UInt8}{r:List UInt8}(h:(tokAt l q).tx=c::r):
  (zB (c.toNat:Int)=true/\(tokAt l q).k=119)\/(zD (c.toNat:Int)=true/\(tokAt l q).k=110)\/(signB (c.toNat:Int)=true/\(tokAt l q).k=c.toNat/\r=[]):=by
 revert h
 unfold tokAt;split
 .intro h;simp at h
 .rename_i d r' hd;split
  .rename_i hg;intro h;simp at h;obtain⟨rfl,rfl⟩:=h;exact .inr (.inr ⟨hg,rfl,rfl⟩)
  .split
   .rename_i hl;intro h;have hp:=lead_pos (r:=r') hl;simp only at h;obtain⟨n,hn⟩:∃n,lead zB (d::r')=n+1:=⟨lead zB (d::r')-1,by omega⟩;rw[hn]at h;simp at h;obtain⟨rfl,_⟩:=h;exact .inl ⟨hl,rfl⟩
   .split
    .rename_i hD;intro h;simp only at h;obtain⟨n,hn⟩:∃n,lead zD (d::r')=n+1:=⟨lead zD (d::r')-1,by omega⟩;have hm:=mem_lead zD (d::r') _ (Nat.le_refl _) d (by rw[hn];simp);rw[hn]at h;simp at h;obtain⟨rfl,_⟩:=h;exact .inr (.inl ⟨hm,rfl⟩)
    .intro h;simp at h
theorem tok_sgn {l:List UInt8}{q:Nat}(h:(tokAt l q).k=59):(tokAt l q).tx=[59]:=by
 revert h
 unfold tokAt;split
 .intro h;simp at h
 .rename_i d r' hd;split
  .intro h;simp only at h ⊢;rw[show d=59 from UInt8.toNat_inj.1 h]
  .split
   .intro h;simp at h
   .split<;>(intro h;simp at h)
theorem tk_first {l:List UInt8}{j:Nat}{c:UInt8}{r:List UInt8}(h:(tk (zT l) j).tx=c::r):
  (zB (c.toNat:Int)=true/\(tk (zT l) j).k=119)\/(zD (c.toNat:Int)=true/\(tk (zT l) j).k=110)\/(signB (c.toNat:Int)=true/\(tk (zT l) j).k=c.toNat/\r=[]):=by
 rcases tk_form l j with⟨i,hi⟩|hi
 .rw[hi]at h ⊢;exact tok_first h
 .rw[hi]at h;simp at h
theorem tk_sgn {l:List UInt8}{j:Nat}(h:(tk (zT l) j).k=59):(tk (zT l) j).tx=[59]:=by
 rcases tk_form l j with⟨i,hi⟩|hi
 .rw[hi]at h ⊢;exact tok_sgn h
 .rw[hi]at h;simp at h
theorem seesP_eq (l:List UInt8)(j:Nat)(c:UInt8)(r:List UInt8)(wd:ByteArray)(hw:wd.toList=c::r)(hc:zB (c.toNat:Int)=true):seesP (tk (zT l) j) wd=sees (tk (zT l) j) wd:=by
 unfold seesP sees;rw[hw,ByteArray.toList_eq,bs_data,ByteArray.toList_eq,bs_data]
 cases h:((tk (zT l) j).tx==c::r)
 .cases hk:((tk (zT l) j).k==119)
  .rfl
  .have hS:(tk (zT l) j).S=(tk (zT l) j).tx:=by
    unfold PT.S;simp at hk;rw[hk];rfl
   rw[hS,h];rfl
 .have h':(tk (zT l) j).tx=c::r:=by simpa using h
  have hk:(tk (zT l) j).k=119:=by
   rcases tk_first h' with⟨_,h1⟩|⟨h1,_⟩|⟨h1,_⟩
   .exact h1
   .simp only[zB,zD,Bool.and_eq_true,decide_eq_true_eq]at hc h1;omega
   .simp only[zB,signB,Bool.and_eq_true,decide_eq_true_eq,Bool.or_eq_true,beq_iff_eq]at hc h1;omega
  have hS:(tk (zT l) j).S=(tk (zT l) j).tx:=by
   unfold PT.S;rw[hk];rfl
  rw[hS,h,hk];rfl
theorem seesP_semi (l:List UInt8)(j:Nat):seesP (tk (zT l) j) ⟨#[59]⟩=((tk (zT l) j).k==59):=by
 unfold seesP;rw[ByteArray.toList_eq,bs_data,ByteArray.toList_eq]
 cases hk:((tk (zT l) j).k==59)
 .cases h:((tk (zT l) j).tx==(ByteArray.mk #[59]).data.toList)
  .rfl
  .have h':(tk (zT l) j).tx=[59]:=by simpa using h
   simp at hk;rcases tk_first h' with⟨h1,_⟩|⟨h1,_⟩|⟨_,h1,_⟩
   .simp[zB]at h1
   .simp[zD]at h1
   .exact absurd h1 hk
 .have:=tk_sgn (by simpa using hk);rw[this];rfl
theorem isNameP_eq (t:PT):isNameP t=isName t:=by
 unfold isNameP isName;by_cases hk:t.k=119
 .have hS:t.S=t.tx:=by unfold PT.S;rw[hk];rfl
  rw[hS,hk];rfl
 .have h1:(kc t.k==1)=false:=by
   unfold kc;split
   .rfl
   .split<;>rfl
  rw[h1];simp[hk]
theorem x_no {t:PT}(h:t.k=120):(∀wd,sees t wd=false)/\isName t=false/\(t.k==110)=false/\(t.k==59)=false/\(t.k==101)=false:=by
 refine⟨fun wd=>?_,?_,?_,?_,?_⟩<;>simp[sees,isName,h]
theorem s_task (l:List UInt8)(j:Nat):seesP (tk (zT l) j) wTask=sees (tk (zT l) j) wTask:=seesP_eq l j 116 [97,115,107] wTask (by rw[ByteArray.toList_eq];rfl) rfl
theorem s_every (l:List UInt8)(j:Nat):seesP (tk (zT l) j) wEvery=sees (tk (zT l) j) wEvery:=seesP_eq l j 101 [118,101,114,121] wEvery (by rw[ByteArray.toList_eq];rfl) rfl
theorem s_from (l:List UInt8)(j:Nat):seesP (tk (zT l) j) wFrom=sees (tk (zT l) j) wFrom:=seesP_eq l j 102 [114,111,109] wFrom (by rw[ByteArray.toList_eq];rfl) rfl
theorem s_takes (l:List UInt8)(j:Nat):seesP (tk (zT l) j) wTakes=sees (tk (zT l) j) wTakes:=seesP_eq l j 116 [97,107,101,115] wTakes (by rw[ByteArray.toList_eq];rfl) rfl
theorem s_within (l:List UInt8)(j:Nat):seesP (tk (zT l) j) wWithin=sees (tk (zT l) j) wWithin:=seesP_eq l j 119 [105,116,104,105,110] wWithin (by rw[ByteArray.toList_eq];rfl) rfl
theorem s_before (l:List UInt8)(j:Nat):seesP (tk (zT l) j) wBefore=sees (tk (zT l) j) wBefore:=seesP_eq l j 98 [101,102,111,114,101] wBefore (by rw[ByteArray.toList_eq];rfl) rfl
theorem s_apart (l:List UInt8)(j:Nat):seesP (tk (zT l) j) wApart=sees (tk (zT l) j) wApart:=seesP_eq l j 97 [112,97,114,116] wApart (by rw[ByteArray.toList_eq];rfl) rfl
structure Sp (er:Nat) (w wk:World) (ty:TypeId) (c d:Array Value) (b:Nat) (s:ByteArray) (i:Nat):Prop where
 rs:RS er wk b s i
 hx:wk.heap[w.heap.size+1]? =some (.cells c ty (0,0))
 hy:wk.heap[w.heap.size]? =some (.cells d ty (0,0))
 g:w.grownBy wk (some b)
 hb:b<w.heap.size
section
variable {w wk:World} {ty:TypeId} {c d:Array Value} {b:Nat} {s:ByteArray} {i:Nat} {er:Nat}
theorem Sp.start (h:RS er w b s i)(ty:TypeId)(c d:Array Value):Sp er w ((w.alloc (.cells d ty)).alloc (.cells c ty)) ty c d b s i:=
 ⟨(h.alloc _).alloc _,by simpa using zW (w.alloc (.cells d ty)) c ty,
  by rw[Below.heap_alloc _ _ _ (by simp)];exact zW w d ty,grownBy_alloc' (World.grownBy_alloc _ _ _) _,zL h.h⟩
theorem Sp.set (h:Sp er w wk ty c d b s i)(o:Nat)(v:Value){c':Array Value}(hc:c.setIfInBounds o v=c'):Sp er w (wk.setCell ⟨w.heap.size+1,o,none⟩ v) ty c' d b s i:=by
 have hb:=h.hb;refine⟨h.rs.set (by omega) o v,?_,?_,zG h.g (by omega) o v,hb⟩
 .rw[zS h.hx o v,hc]
 .rw[Below.heap_setCell _ _ _ _ (by show w.heap.size≠w.heap.size+1;omega)];exact h.hy
theorem Sp.call {w':World}{i':Nat}(h:Sp er w wk ty c d b s i)(p:RS er w' b s i')(g:wk.grownBy w' (some b)):Sp er w w' ty c d b s i':=by
 have hb:=h.hb;exact⟨p,by rw[g.block _ (zL h.hx) (by simp;omega)];exact h.hx,by rw[g.block _ (zL h.hy) (by simp;omega)];exact h.hy,zR h.g g,hb⟩
theorem Sp.cells (h:Sp er w wk ty c d b s i):(∀o,wk.cell? ⟨w.heap.size+1,o,none⟩=c[o]?)/\(∀o,wk.frozen? ⟨w.heap.size+1,o,none⟩=false)/\(∀o,wk.cell? ⟨w.heap.size,o,none⟩=d[o]?)/\(∀o,wk.frozen? ⟨w.heap.size,o,none⟩=false):=
 ⟨zC h.hx,zF h.hx,zC h.hy,zF h.hy⟩
def GOut {α:Type} (er:Nat) (s:ByteArray) (b:Nat) (w:World) (R:Except Nat (α×Nat)) (V:α->Value->Prop) (en:Ending) (w':World):Prop:=
  w.grownBy w' (some b)/\
  ((∃j,en=pan er (tk (zT s.data.toList) j).at_/\(R=.error j\/((∃a,R=.ok (a,j))/\(tk (zT s.data.toList) j).k=120)))\/
   (∃a j v,R=.ok (a,j)/\RS er w' b s j/\en=.returned v/\V a v))
def ptRaw (nm:List UInt8) (q0 P q1 O z C q3 D q4:Nat):Value:=.agg #[.string (bs nm),.int .i64 q0,.int .i64 P,.int .i64 q1,.int .i64 O,.int .i64 z,.int .i64 C,.int .i64 q3,.int .i64 D,.int .i64 q4]
def TV (t:Tk) (v:Value):Prop:=∃z,v=ptRaw [t.nm] t.q0 t.P t.q1 t.O z t.C t.q3 t.D t.q4/\(z=t.q2\/t.O=0)
def ppRaw (wd:List UInt8) (a:List UInt8) (q0:Nat) (c:List UInt8) (q1:Nat):Value:=.agg #[.string (bs wd),.string (bs a),.int .i64 q0,.string (bs c),.int .i64 q1]
def PV (p:Pr) (v:Value):Prop:=v=ppRaw (if p.ap then [97,112,97,114,116] else [98,101,102,111,114,101]) [p.a] p.q0 [p.b] p.q1
theorem name_tx {t:PT}(h:isName t=true):t.tx=[nameB t]:=by
 simp only[isName,Bool.and_eq_true,beq_iff_eq]at h;obtain⟨h1,h2⟩:=h;have hS:t.S=t.tx:=by unfold PT.S;rw[h1];rfl
 obtain⟨c,hc⟩:=List.length_eq_one_iff.1 h2;unfold nameB;rw[←hS,hc];rfl
def pTaskR (T:List PT) (i:Nat):Except Nat (Tk×Nat):=if sees (tk T i) wTask then pTask T (i+1) else .error i
theorem takeTask_any (h:RS er w b s i):
  Calls Tryz.prog 120 #[.pointer (some ⟨b,0,none⟩)] w (GOut er s b w (pTaskR (zT s.data.toList) i) TV):=by
 have S0:=Sp.start h 172 #[.string ⟨#[]⟩,.int .i64 0,.int .i64 0,.int .i64 0,.int .i64 0,.int .i64 0,.int .i64 0,.int .i64 0,.int .i64 0,.int .i64 0] #[.string ⟨#[]⟩,.int .i64 0,.int .i64 0,.int .i64 0,.int .i64 0,.int .i64 0,.int .i64 0,.int .i64 0,.int .i64 0,.int .i64 0];clear h;go_enter Tryz.func120,Tryz.ntmps120;go_wp2_with fail;refine(takeText_any S0.rs wTask (by rw[ByteArray.toList_eq];decide)).mono ?_;rintro e w1 ⟨hg,hcase⟩;have hgw:=zR S0.g hg;rw[s_task]at hcase;rcases hcase with⟨h0,rfl⟩|⟨h0,h1,rfl⟩|⟨h0,h1,rfl⟩
 .exact⟨rfl,hgw,.inl ⟨i,rfl,.inl (by simp[pTaskR,pTask,pRest,h0])⟩⟩
 .obtain⟨x1,x2,x3,x4,x5⟩:=x_no h1;exact⟨rfl,hgw,.inl ⟨i+1,rfl,.inl (by simp[pTaskR,pTask,pRest,h0,x1,x2,x3,x4])⟩⟩
 have F1:=hide h0;have S1:=S0.call h1 hg;obtain⟨x1,x2,x3,x4⟩:=S1.cells;clear hg hgw h0 h1 S0;go_wp2_with fail;clear x1 x2 x3 x4;refine(takeName_any S1.rs).mono ?_;rintro e w2 ⟨hg,hcase⟩;have hgw:=zR S1.g hg;rw[isNameP_eq]at hcase;rcases hcase with⟨h0,rfl⟩|⟨h0,h1,rfl⟩|⟨h0,h1,rfl⟩
 .exact⟨rfl,hgw,.inl ⟨(i+1),rfl,.inl (by simp[pTaskR,pTask,pRest,F1.out,h0])⟩⟩
 .obtain⟨x1,x2,x3,x4,x5⟩:=x_no h1;exact⟨rfl,hgw,.inl ⟨(i+1)+1,rfl,.inl (by simp[pTaskR,pTask,pRest,F1.out,h0,x1,x2,x3,x4])⟩⟩
 have F2:=hide h0;have S2:=S1.call h1 hg;obtain⟨x1,x2,x3,x4⟩:=S2.cells;clear hg hgw h0 h1 S1;go_wp2_with fail;have S2:=S2.set 0 (.string (bs (tk (zT s.data.toList) (i+1)).tx)) (c':=#[.string (bs (tk (zT s.data.toList) (i+1)).tx),.int .i64 0,.int .i64 0,.int .i64 0,.int .i64 0,.int .i64 0,.int .i64 0,.int .i64 0,.int .i64 0,.int .i64 0]) rfl;have S2:=S2.set 1 (.int .i64 (tk (zT s.data.toList) (i+1)).at_) (c':=#[.string (bs (tk (zT s.data.toList) (i+1)).tx),.int .i64 (tk (zT s.data.toList) (i+1)).at_,.int .i64 0,.int .i64 0,.int .i64 0,.int .i64 0,.int .i64 0,.int .i64 0,.int .i64 0,.int .i64 0]) rfl;clear x1 x2 x3 x4;refine(takeText_any S2.rs wEvery (by rw[ByteArray.toList_eq];decide)).mono ?_;rintro e w3 ⟨hg,hcase⟩;have hgw:=zR S2.g hg;rw[s_every]at hcase;rcases hcase with⟨h0,rfl⟩|⟨h0,h1,rfl⟩|⟨h0,h1,rfl⟩
 .exact⟨rfl,hgw,.inl ⟨(i+1+1),rfl,.inl (by simp[pTaskR,pTask,pRest,F1.out,F2.out,h0])⟩⟩
 .obtain⟨x1,x2,x3,x4,x5⟩:=x_no h1;exact⟨rfl,hgw,.inl ⟨(i+1+1)+1,rfl,.inl (by simp[pTaskR,pTask,pRest,F1.out,F2.out,h0,x1,x2,x3,x4])⟩⟩
 have F3:=hide h0;have S3:=S2.call h1 hg;obtain⟨x1,x2,x3,x4⟩:=S3.cells;clear hg hgw h0 h1 S2;go_wp2_with fail;clear x1 x2 x3 x4;refine(takeNumber_any S3.rs).mono ?_;rintro e w4 ⟨hg,hcase⟩;have hgw:=zR S3.g hg;rcases hcase with⟨h0,rfl⟩|⟨h0,h1,rfl⟩|⟨h0,h1,rfl⟩
 .exact⟨rfl,hgw,.inl ⟨(i+1+1+1),rfl,.inl (by simp[pTaskR,pTask,pRest,F1.out,F2.out,F3.out,h0])⟩⟩
 .obtain⟨x1,x2,x3,x4,x5⟩:=x_no h1;exact⟨rfl,hgw,.inl ⟨(i+1+1+1)+1,rfl,.inl (by simp[pTaskR,pTask,pRest,F1.out,F2.out,F3.out,h0,x1,x2,x3,x4])⟩⟩
 have F4:=hide h0;have S4:=S3.call h1 hg;obtain⟨x1,x2,x3,x4⟩:=S4.cells;clear hg hgw h0 h1 S3;go_wp2_with fail;have S4:=S4.set 2 (.int .i64 (tk (zT s.data.toList) (i+1+1+1)).N) (c':=#[.string (bs (tk (zT s.data.toList) (i+1)).tx),.int .i64 (tk (zT s.data.toList) (i+1)).at_,.int .i64 (tk (zT s.data.toList) (i+1+1+1)).N,.int .i64 0,.int .i64 0,.int .i64 0,.int .i64 0,.int .i64 0,.int .i64 0,.int .i64 0]) rfl;have S4:=S4.set 3 (.int .i64 (tk (zT s.data.toList) (i+1+1+1)).at_) (c':=#[.string (bs (tk (zT s.data.toList) (i+1)).tx),.int .i64 (tk (zT s.data.toList) (i+1)).at_,.int .i64 (tk (zT s.data.toList) (i+1+1+1)).N,.int .i64 (tk (zT s.data.toList) (i+1+1+1)).at_,.int .i64 0,.int .i64 0,.int .i64 0,.int .i64 0,.int .i64 0,.int .i64 0]) rfl;clear x1 x2 x3 x4;refine(sees_any S4.rs wFrom).mono ?_;rintro e w' ⟨rfl,rfl⟩;have hfr:=s_from s.data.toList (i+1+1+1+1);unfold seesP at hfr;rw[hfr];clear hfr
 cases hF:sees (tk (zT s.data.toList) (i+1+1+1+1)) wFrom
 .have FF:=hide hF;clear hF;go_wp2_with fail;refine(takeText_any S4.rs wTakes (by rw[ByteArray.toList_eq];decide)).mono ?_;rintro e w5 ⟨hg,hcase⟩;have hgw:=zR S4.g hg;rw[s_takes]at hcase;rcases hcase with⟨h0,rfl⟩|⟨h0,h1,rfl⟩|⟨h0,h1,rfl⟩
  .exact⟨rfl,hgw,.inl ⟨(i+1+1+1+1),rfl,.inl (by simp[pTaskR,pTask,pRest,F1.out,F2.out,F3.out,F4.out,FF.out,h0])⟩⟩
  .obtain⟨x1,x2,x3,x4,x5⟩:=x_no h1;exact⟨rfl,hgw,.inl ⟨(i+1+1+1+1)+1,rfl,.inl (by simp[pTaskR,pTask,pRest,F1.out,F2.out,F3.out,F4.out,FF.out,h0,x1,x2,x3,x4])⟩⟩
  have F5:=hide h0;have S5:=S4.call h1 hg;obtain⟨x1,x2,x3,x4⟩:=S5.cells;clear hg hgw h0 h1 S4;go_wp2_with fail;clear x1 x2 x3 x4;refine(takeNumber_any S5.rs).mono ?_;rintro e w6 ⟨hg,hcase⟩;have hgw:=zR S5.g hg;rcases hcase with⟨h0,rfl⟩|⟨h0,h1,rfl⟩|⟨h0,h1,rfl⟩
  .exact⟨rfl,hgw,.inl ⟨(i+1+1+1+1+1),rfl,.inl (by simp[pTaskR,pTask,pRest,F1.out,F2.out,F3.out,F4.out,FF.out,F5.out,h0])⟩⟩
  .obtain⟨x1,x2,x3,x4,x5⟩:=x_no h1;exact⟨rfl,hgw,.inl ⟨(i+1+1+1+1+1)+1,rfl,.inl (by simp[pTaskR,pTask,pRest,F1.out,F2.out,F3.out,F4.out,FF.out,F5.out,h0,x1,x2,x3,x4])⟩⟩
  have F6:=hide h0;have S6:=S5.call h1 hg;obtain⟨x1,x2,x3,x4⟩:=S6.cells;clear hg hgw h0 h1 S5;go_wp2_with fail;have S6:=S6.set 6 (.int .i64 (tk (zT s.data.toList) (i+1+1+1+1+1)).N) (c':=#[.string (bs (tk (zT s.data.toList) (i+1)).tx),.int .i64 (tk (zT s.data.toList) (i+1)).at_,.int .i64 (tk (zT s.data.toList) (i+1+1+1)).N,.int .i64 (tk (zT s.data.toList) (i+1+1+1)).at_,.int .i64 0,.int .i64 0,.int .i64 (tk (zT s.data.toList) (i+1+1+1+1+1)).N,.int .i64 0,.int .i64 0,.int .i64 0]) rfl;have S6:=S6.set 7 (.int .i64 (tk (zT s.data.toList) (i+1+1+1+1+1)).at_) (c':=#[.string (bs (tk (zT s.data.toList) (i+1)).tx),.int .i64 (tk (zT s.data.toList) (i+1)).at_,.int .i64 (tk (zT s.data.toList) (i+1+1+1)).N,.int .i64 (tk (zT s.data.toList) (i+1+1+1)).at_,.int .i64 0,.int .i64 0,.int .i64 (tk (zT s.data.toList) (i+1+1+1+1+1)).N,.int .i64 (tk (zT s.data.toList) (i+1+1+1+1+1)).at_,.int .i64 0,.int .i64 0]) rfl;clear x1 x2 x3 x4;refine(takeText_any S6.rs wWithin (by rw[ByteArray.toList_eq];decide)).mono ?_;rintro e w7 ⟨hg,hcase⟩;have hgw:=zR S6.g hg;rw[s_within]at hcase;rcases hcase with⟨h0,rfl⟩|⟨h0,h1,rfl⟩|⟨h0,h1,rfl⟩
  .exact⟨rfl,hgw,.inl ⟨(i+1+1+1+1+1+1),rfl,.inl (by simp[pTaskR,pTask,pRest,F1.out,F2.out,F3.out,F4.out,FF.out,F5.out,F6.out,h0])⟩⟩
  .obtain⟨x1,x2,x3,x4,x5⟩:=x_no h1;exact⟨rfl,hgw,.inl ⟨(i+1+1+1+1+1+1)+1,rfl,.inl (by simp[pTaskR,pTask,pRest,F1.out,F2.out,F3.out,F4.out,FF.out,F5.out,F6.out,h0,x1,x2,x3,x4])⟩⟩
  have F7:=hide h0;have S7:=S6.call h1 hg;obtain⟨x1,x2,x3,x4⟩:=S7.cells;clear hg hgw h0 h1 S6;go_wp2_with fail;clear x1 x2 x3 x4;refine(takeNumber_any S7.rs).mono ?_;rintro e w8 ⟨hg,hcase⟩;have hgw:=zR S7.g hg;rcases hcase with⟨h0,rfl⟩|⟨h0,h1,rfl⟩|⟨h0,h1,rfl⟩
  .exact⟨rfl,hgw,.inl ⟨(i+1+1+1+1+1+1+1),rfl,.inl (by simp[pTaskR,pTask,pRest,F1.out,F2.out,F3.out,F4.out,FF.out,F5.out,F6.out,F7.out,h0])⟩⟩
  .obtain⟨x1,x2,x3,x4,x5⟩:=x_no h1;exact⟨rfl,hgw,.inl ⟨(i+1+1+1+1+1+1+1)+1,rfl,.inl (by simp[pTaskR,pTask,pRest,F1.out,F2.out,F3.out,F4.out,FF.out,F5.out,F6.out,F7.out,h0,x1,x2,x3,x4])⟩⟩
  have F8:=hide h0;have S8:=S7.call h1 hg;obtain⟨x1,x2,x3,x4⟩:=S8.cells;clear hg hgw h0 h1 S7;go_wp2_with fail;have S8:=S8.set 8 (.int .i64 (tk (zT s.data.toList) (i+1+1+1+1+1+1+1)).N) (c':=#[.string (bs (tk (zT s.data.toList) (i+1)).tx),.int .i64 (tk (zT s.data.toList) (i+1)).at_,.int .i64 (tk (zT s.data.toList) (i+1+1+1)).N,.int .i64 (tk (zT s.data.toList) (i+1+1+1)).at_,.int .i64 0,.int .i64 0,.int .i64 (tk (zT s.data.toList) (i+1+1+1+1+1)).N,.int .i64 (tk (zT s.data.toList) (i+1+1+1+1+1)).at_,.int .i64 (tk (zT s.data.toList) (i+1+1+1+1+1+1+1)).N,.int .i64 0]) rfl;have S8:=S8.set 9 (.int .i64 (tk (zT s.data.toList) (i+1+1+1+1+1+1+1)).at_) (c':=#[.string (bs (tk (zT s.data.toList) (i+1)).tx),.int .i64 (tk (zT s.data.toList) (i+1)).at_,.int .i64 (tk (zT s.data.toList) (i+1+1+1)).N,.int .i64 (tk (zT s.data.toList) (i+1+1+1)).at_,.int .i64 0,.int .i64 0,.int .i64 (tk (zT s.data.toList) (i+1+1+1+1+1)).N,.int .i64 (tk (zT s.data.toList) (i+1+1+1+1+1)).at_,.int .i64 (tk (zT s.data.toList) (i+1+1+1+1+1+1+1)).N,.int .i64 (tk (zT s.data.toList) (i+1+1+1+1+1+1+1)).at_]) rfl;clear x1 x2 x3 x4;refine(takeText_any S8.rs ⟨#[59]⟩ (by rw[ByteArray.toList_eq];decide)).mono ?_;rintro e w9 ⟨hg,hcase⟩;have hgw:=zR S8.g hg;rw[seesP_semi]at hcase;rcases hcase with⟨h0,rfl⟩|⟨h0,h1,rfl⟩|⟨h0,h1,rfl⟩
  .exact⟨rfl,hgw,.inl ⟨(i+1+1+1+1+1+1+1+1),rfl,.inl (by simp[pTaskR,pTask,pRest,F1.out,F2.out,F3.out,F4.out,FF.out,F5.out,F6.out,F7.out,F8.out,h0])⟩⟩
  .exact⟨rfl,hgw,.inl ⟨(i+1+1+1+1+1+1+1+1)+1,rfl,.inr ⟨⟨_,by simp[pTaskR,pTask,pRest,F1.out,F2.out,F3.out,F4.out,FF.out,F5.out,F6.out,F7.out,F8.out,h0];rfl⟩,h1⟩⟩⟩
  have F9:=hide h0;have S9:=S8.call h1 hg;obtain⟨x1,x2,x3,x4⟩:=S9.cells;clear hg hgw h0 h1 S8;have hbb:=S9.hb;have hnm:=hide (name_tx F2.out);go_wp2;refine bodyPost_ret (v:=ptRaw (tk (zT s.data.toList) (i+1)).tx (tk (zT s.data.toList) (i+1)).at_ (tk (zT s.data.toList) (i+1+1+1)).N (tk (zT s.data.toList) (i+1+1+1)).at_ 0 0 (tk (zT s.data.toList) (i+1+1+1+1+1)).N (tk (zT s.data.toList) (i+1+1+1+1+1)).at_ (tk (zT s.data.toList) (i+1+1+1+1+1+1+1)).N (tk (zT s.data.toList) (i+1+1+1+1+1+1+1)).at_) (by simp[results,Tryz.results120,go_sem,x3,ptRaw]) rfl ⟨?_,.inr ⟨(⟨nameB (tk (zT s.data.toList) (i+1)),(tk (zT s.data.toList) (i+1+1+1)).N,0,(tk (zT s.data.toList) (i+1+1+1+1+1)).N,(tk (zT s.data.toList) (i+1+1+1+1+1+1+1)).N,(tk (zT s.data.toList) (i+1)).at_,(tk (zT s.data.toList) (i+1+1+1)).at_,(tk (zT s.data.toList) (i+1+1+1+1)).at_,(tk (zT s.data.toList) (i+1+1+1+1+1)).at_,(tk (zT s.data.toList) (i+1+1+1+1+1+1+1)).at_⟩:Tk),i+1+1+1+1+1+1+1+1+1,_,by simp[pTaskR,pTask,pRest,F1.out,F2.out,F3.out,F4.out,FF.out,F5.out,F6.out,F7.out,F8.out,F9.out],?_,rfl,0,?_,.inr rfl⟩⟩
  .have Y:∀(wz:World) (o:Nat) (v:Value),w.grownBy wz (some b)->w.grownBy (wz.setCell ⟨w.heap.size,o,none⟩ v) (some b):=fun wz o v hz=>zG hz (Nat.le_refl _) o v;exact Y _ _ _ (Y _ _ _ (Y _ _ _ (Y _ _ _ (Y _ _ _ (Y _ _ _ (Y _ _ _ (Y _ _ _ (Y _ _ _ (Y _ _ _ S9.g)))))))))
  .have Y:∀(wz:World) (o:Nat) (v:Value),RS er wz b s (i+1+1+1+1+1+1+1+1+1)->RS er (wz.setCell ⟨w.heap.size,o,none⟩ v) b s (i+1+1+1+1+1+1+1+1+1):=fun wz o v hz=>hz.set (by omega) o v;exact Y _ _ _ (Y _ _ _ (Y _ _ _ (Y _ _ _ (Y _ _ _ (Y _ _ _ (Y _ _ _ (Y _ _ _ (Y _ _ _ (Y _ _ _ S9.rs)))))))))
  .rw[hnm.out]
 .have FF:=hide hF;have hfin:(tk (zT s.data.toList) (i+1+1+1+1)).fin=false:=by
   have h1:=hF;simp only[sees,Bool.and_eq_true,beq_iff_eq]at h1;unfold PT.fin;rw[h1.1];rfl
  clear hF;go_wp2_with fail;refine(take_any S4.rs hfin).mono ?_;rintro e w5 ⟨hg,hcase⟩;have hgw:=zR S4.g hg;rcases hcase with⟨h1,rfl⟩|⟨h1,rfl⟩
  .obtain⟨x1,x2,x3,x4,x5⟩:=x_no h1;exact⟨rfl,hgw,.inl ⟨i+1+1+1+1+1,rfl,.inl (by simp[pTaskR,pTask,pRest,F1.out,F2.out,F3.out,F4.out,FF.out,x1,x2,x3,x4])⟩⟩
  have S5:=S4.call h1 hg;obtain⟨x1,x2,x3,x4⟩:=S5.cells;clear hg hgw h1 S4 hfin;go_wp2_with fail;clear x1 x2 x3 x4;refine(takeNumber_any S5.rs).mono ?_;rintro e w6 ⟨hg,hcase⟩;have hgw:=zR S5.g hg;rcases hcase with⟨h0,rfl⟩|⟨h0,h1,rfl⟩|⟨h0,h1,rfl⟩
  .exact⟨rfl,hgw,.inl ⟨(i+1+1+1+1+1),rfl,.inl (by simp[pTaskR,pTask,pRest,F1.out,F2.out,F3.out,F4.out,FF.out,h0])⟩⟩
  .obtain⟨x1,x2,x3,x4,x5⟩:=x_no h1;exact⟨rfl,hgw,.inl ⟨(i+1+1+1+1+1)+1,rfl,.inl (by simp[pTaskR,pTask,pRest,F1.out,F2.out,F3.out,F4.out,FF.out,h0,x1,x2,x3,x4])⟩⟩
  have F6:=hide h0;have S6:=S5.call h1 hg;obtain⟨x1,x2,x3,x4⟩:=S6.cells;clear hg hgw h0 h1 S5;go_wp2_with fail;have S6:=S6.set 4 (.int .i64 (tk (zT s.data.toList) (i+1+1+1+1+1)).N) (c':=#[.string (bs (tk (zT s.data.toList) (i+1)).tx),.int .i64 (tk (zT s.data.toList) (i+1)).at_,.int .i64 (tk (zT s.data.toList) (i+1+1+1)).N,.int .i64 (tk (zT s.data.toList) (i+1+1+1)).at_,.int .i64 (tk (zT s.data.toList) (i+1+1+1+1+1)).N,.int .i64 0,.int .i64 0,.int .i64 0,.int .i64 0,.int .i64 0]) rfl;have S6:=S6.set 5 (.int .i64 (tk (zT s.data.toList) (i+1+1+1+1+1)).at_) (c':=#[.string (bs (tk (zT s.data.toList) (i+1)).tx),.int .i64 (tk (zT s.data.toList) (i+1)).at_,.int .i64 (tk (zT s.data.toList) (i+1+1+1)).N,.int .i64 (tk (zT s.data.toList) (i+1+1+1)).at_,.int .i64 (tk (zT s.data.toList) (i+1+1+1+1+1)).N,.int .i64 (tk (zT s.data.toList) (i+1+1+1+1+1)).at_,.int .i64 0,.int .i64 0,.int .i64 0,.int .i64 0]) rfl;clear x1 x2 x3 x4;refine(takeText_any S6.rs wTakes (by rw[ByteArray.toList_eq];decide)).mono ?_;rintro e w7 ⟨hg,hcase⟩;have hgw:=zR S6.g hg;rw[s_takes]at hcase;rcases hcase with⟨h0,rfl⟩|⟨h0,h1,rfl⟩|⟨h0,h1,rfl⟩
  .exact⟨rfl,hgw,.inl ⟨(i+1+1+1+1+1+1),rfl,.inl (by simp[pTaskR,pTask,pRest,F1.out,F2.out,F3.out,F4.out,FF.out,F6.out,h0])⟩⟩
  .obtain⟨x1,x2,x3,x4,x5⟩:=x_no h1;exact⟨rfl,hgw,.inl ⟨(i+1+1+1+1+1+1)+1,rfl,.inl (by simp[pTaskR,pTask,pRest,F1.out,F2.out,F3.out,F4.out,FF.out,F6.out,h0,x1,x2,x3,x4])⟩⟩
  have F7:=hide h0;have S7:=S6.call h1 hg;obtain⟨x1,x2,x3,x4⟩:=S7.cells;clear hg hgw h0 h1 S6;go_wp2_with fail;clear x1 x2 x3 x4;refine(takeNumber_any S7.rs).mono ?_;rintro e w8 ⟨hg,hcase⟩;have hgw:=zR S7.g hg;rcases hcase with⟨h0,rfl⟩|⟨h0,h1,rfl⟩|⟨h0,h1,rfl⟩
  .exact⟨rfl,hgw,.inl ⟨(i+1+1+1+1+1+1+1),rfl,.inl (by simp[pTaskR,pTask,pRest,F1.out,F2.out,F3.out,F4.out,FF.out,F6.out,F7.out,h0])⟩⟩
  .obtain⟨x1,x2,x3,x4,x5⟩:=x_no h1;exact⟨rfl,hgw,.inl ⟨(i+1+1+1+1+1+1+1)+1,rfl,.inl (by simp[pTaskR,pTask,pRest,F1.out,F2.out,F3.out,F4.out,FF.out,F6.out,F7.out,h0,x1,x2,x3,x4])⟩⟩
  have F8:=hide h0;have S8:=S7.call h1 hg;obtain⟨x1,x2,x3,x4⟩:=S8.cells;clear hg hgw h0 h1 S7;go_wp2_with fail;have S8:=S8.set 6 (.int .i64 (tk (zT s.data.toList) (i+1+1+1+1+1+1+1)).N) (c':=#[.string (bs (tk (zT s.data.toList) (i+1)).tx),.int .i64 (tk (zT s.data.toList) (i+1)).at_,.int .i64 (tk (zT s.data.toList) (i+1+1+1)).N,.int .i64 (tk (zT s.data.toList) (i+1+1+1)).at_,.int .i64 (tk (zT s.data.toList) (i+1+1+1+1+1)).N,.int .i64 (tk (zT s.data.toList) (i+1+1+1+1+1)).at_,.int .i64 (tk (zT s.data.toList) (i+1+1+1+1+1+1+1)).N,.int .i64 0,.int .i64 0,.int .i64 0]) rfl;have S8:=S8.set 7 (.int .i64 (tk (zT s.data.toList) (i+1+1+1+1+1+1+1)).at_) (c':=#[.string (bs (tk (zT s.data.toList) (i+1)).tx),.int .i64 (tk (zT s.data.toList) (i+1)).at_,.int .i64 (tk (zT s.data.toList) (i+1+1+1)).N,.int .i64 (tk (zT s.data.toList) (i+1+1+1)).at_,.int .i64 (tk (zT s.data.toList) (i+1+1+1+1+1)).N,.int .i64 (tk (zT s.data.toList) (i+1+1+1+1+1)).at_,.int .i64 (tk (zT s.data.toList) (i+1+1+1+1+1+1+1)).N,.int .i64 (tk (zT s.data.toList) (i+1+1+1+1+1+1+1)).at_,.int .i64 0,.int .i64 0]) rfl;clear x1 x2 x3 x4;refine(takeText_any S8.rs wWithin (by rw[ByteArray.toList_eq];decide)).mono ?_;rintro e w9 ⟨hg,hcase⟩;have hgw:=zR S8.g hg;rw[s_within]at hcase;rcases hcase with⟨h0,rfl⟩|⟨h0,h1,rfl⟩|⟨h0,h1,rfl⟩
  .exact⟨rfl,hgw,.inl ⟨(i+1+1+1+1+1+1+1+1),rfl,.inl (by simp[pTaskR,pTask,pRest,F1.out,F2.out,F3.out,F4.out,FF.out,F6.out,F7.out,F8.out,h0])⟩⟩
  .obtain⟨x1,x2,x3,x4,x5⟩:=x_no h1;exact⟨rfl,hgw,.inl ⟨(i+1+1+1+1+1+1+1+1)+1,rfl,.inl (by simp[pTaskR,pTask,pRest,F1.out,F2.out,F3.out,F4.out,FF.out,F6.out,F7.out,F8.out,h0,x1,x2,x3,x4])⟩⟩
  have F9:=hide h0;have S9:=S8.call h1 hg;obtain⟨x1,x2,x3,x4⟩:=S9.cells;clear hg hgw h0 h1 S8;go_wp2_with fail;clear x1 x2 x3 x4;refine(takeNumber_any S9.rs).mono ?_;rintro e w10 ⟨hg,hcase⟩;have hgw:=zR S9.g hg;rcases hcase with⟨h0,rfl⟩|⟨h0,h1,rfl⟩|⟨h0,h1,rfl⟩
  .exact⟨rfl,hgw,.inl ⟨(i+1+1+1+1+1+1+1+1+1),rfl,.inl (by simp[pTaskR,pTask,pRest,F1.out,F2.out,F3.out,F4.out,FF.out,F6.out,F7.out,F8.out,F9.out,h0])⟩⟩
  .obtain⟨x1,x2,x3,x4,x5⟩:=x_no h1;exact⟨rfl,hgw,.inl ⟨(i+1+1+1+1+1+1+1+1+1)+1,rfl,.inl (by simp[pTaskR,pTask,pRest,F1.out,F2.out,F3.out,F4.out,FF.out,F6.out,F7.out,F8.out,F9.out,h0,x1,x2,x3,x4])⟩⟩
  have F10:=hide h0;have S10:=S9.call h1 hg;obtain⟨x1,x2,x3,x4⟩:=S10.cells;clear hg hgw h0 h1 S9;go_wp2_with fail;have S10:=S10.set 8 (.int .i64 (tk (zT s.data.toList) (i+1+1+1+1+1+1+1+1+1)).N) (c':=#[.string (bs (tk (zT s.data.toList) (i+1)).tx),.int .i64 (tk (zT s.data.toList) (i+1)).at_,.int .i64 (tk (zT s.data.toList) (i+1+1+1)).N,.int .i64 (tk (zT s.data.toList) (i+1+1+1)).at_,.int .i64 (tk (zT s.data.toList) (i+1+1+1+1+1)).N,.int .i64 (tk (zT s.data.toList) (i+1+1+1+1+1)).at_,.int .i64 (tk (zT s.data.toList) (i+1+1+1+1+1+1+1)).N,.int .i64 (tk (zT s.data.toList) (i+1+1+1+1+1+1+1)).at_,.int .i64 (tk (zT s.data.toList) (i+1+1+1+1+1+1+1+1+1)).N,.int .i64 0]) rfl;have S10:=S10.set 9 (.int .i64 (tk (zT s.data.toList) (i+1+1+1+1+1+1+1+1+1)).at_) (c':=#[.string (bs (tk (zT s.data.toList) (i+1)).tx),.int .i64 (tk (zT s.data.toList) (i+1)).at_,.int .i64 (tk (zT s.data.toList) (i+1+1+1)).N,.int .i64 (tk (zT s.data.toList) (i+1+1+1)).at_,.int .i64 (tk (zT s.data.toList) (i+1+1+1+1+1)).N,.int .i64 (tk (zT s.data.toList) (i+1+1+1+1+1)).at_,.int .i64 (tk (zT s.data.toList) (i+1+1+1+1+1+1+1)).N,.int .i64 (tk (zT s.data.toList) (i+1+1+1+1+1+1+1)).at_,.int .i64 (tk (zT s.data.toList) (i+1+1+1+1+1+1+1+1+1)).N,.int .i64 (tk (zT s.data.toList) (i+1+1+1+1+1+1+1+1+1)).at_]) rfl;clear x1 x2 x3 x4;refine(takeText_any S10.rs ⟨#[59]⟩ (by rw[ByteArray.toList_eq];decide)).mono ?_;rintro e w11 ⟨hg,hcase⟩;have hgw:=zR S10.g hg;rw[seesP_semi]at hcase;rcases hcase with⟨h0,rfl⟩|⟨h0,h1,rfl⟩|⟨h0,h1,rfl⟩
  .exact⟨rfl,hgw,.inl ⟨(i+1+1+1+1+1+1+1+1+1+1),rfl,.inl (by simp[pTaskR,pTask,pRest,F1.out,F2.out,F3.out,F4.out,FF.out,F6.out,F7.out,F8.out,F9.out,F10.out,h0])⟩⟩
  .exact⟨rfl,hgw,.inl ⟨(i+1+1+1+1+1+1+1+1+1+1)+1,rfl,.inr ⟨⟨_,by simp[pTaskR,pTask,pRest,F1.out,F2.out,F3.out,F4.out,FF.out,F6.out,F7.out,F8.out,F9.out,F10.out,h0];rfl⟩,h1⟩⟩⟩
  have F11:=hide h0;have S11:=S10.call h1 hg;obtain⟨x1,x2,x3,x4⟩:=S11.cells;clear hg hgw h0 h1 S10;have hbb:=S11.hb;have hnm:=hide (name_tx F2.out);go_wp2;refine bodyPost_ret (v:=ptRaw (tk (zT s.data.toList) (i+1)).tx (tk (zT s.data.toList) (i+1)).at_ (tk (zT s.data.toList) (i+1+1+1)).N (tk (zT s.data.toList) (i+1+1+1)).at_ (tk (zT s.data.toList) (i+1+1+1+1+1)).N (tk (zT s.data.toList) (i+1+1+1+1+1)).at_ (tk (zT s.data.toList) (i+1+1+1+1+1+1+1)).N (tk (zT s.data.toList) (i+1+1+1+1+1+1+1)).at_ (tk (zT s.data.toList) (i+1+1+1+1+1+1+1+1+1)).N (tk (zT s.data.toList) (i+1+1+1+1+1+1+1+1+1)).at_) (by simp[results,Tryz.results120,go_sem,x3,ptRaw]) rfl ⟨?_,.inr ⟨(⟨nameB (tk (zT s.data.toList) (i+1)),(tk (zT s.data.toList) (i+1+1+1)).N,(tk (zT s.data.toList) (i+1+1+1+1+1)).N,(tk (zT s.data.toList) (i+1+1+1+1+1+1+1)).N,(tk (zT s.data.toList) (i+1+1+1+1+1+1+1+1+1)).N,(tk (zT s.data.toList) (i+1)).at_,(tk (zT s.data.toList) (i+1+1+1)).at_,(tk (zT s.data.toList) (i+1+1+1+1+1)).at_,(tk (zT s.data.toList) (i+1+1+1+1+1+1+1)).at_,(tk (zT s.data.toList) (i+1+1+1+1+1+1+1+1+1)).at_⟩:Tk),i+1+1+1+1+1+1+1+1+1+1+1,_,by simp[pTaskR,pTask,pRest,F1.out,F2.out,F3.out,F4.out,FF.out,F6.out,F7.out,F8.out,F9.out,F10.out,F11.out],?_,rfl,(tk (zT s.data.toList) (i+1+1+1+1+1)).at_,?_,.inl rfl⟩⟩
  .have Y:∀(wz:World) (o:Nat) (v:Value),w.grownBy wz (some b)->w.grownBy (wz.setCell ⟨w.heap.size,o,none⟩ v) (some b):=fun wz o v hz=>zG hz (Nat.le_refl _) o v;exact Y _ _ _ (Y _ _ _ (Y _ _ _ (Y _ _ _ (Y _ _ _ (Y _ _ _ (Y _ _ _ (Y _ _ _ (Y _ _ _ (Y _ _ _ S11.g)))))))))
  .have Y:∀(wz:World) (o:Nat) (v:Value),RS er wz b s (i+1+1+1+1+1+1+1+1+1+1+1)->RS er (wz.setCell ⟨w.heap.size,o,none⟩ v) b s (i+1+1+1+1+1+1+1+1+1+1+1):=fun wz o v hz=>hz.set (by omega) o v;exact Y _ _ _ (Y _ _ _ (Y _ _ _ (Y _ _ _ (Y _ _ _ (Y _ _ _ (Y _ _ _ (Y _ _ _ (Y _ _ _ (Y _ _ _ S11.rs)))))))))
  .rw[hnm.out]
end
section
variable {w wk:World} {ty:TypeId} {c d:Array Value} {b:Nat} {s:ByteArray} {i:Nat} {er:Nat}
def pPairR (T:List PT) (i:Nat):Except Nat (Pr×Nat):=pPair T (!(sees (tk T i) wBefore)) (i+1)
theorem pair_word (l:List UInt8)(j:Nat)(h:(sees (tk (zT l) j) wBefore||sees (tk (zT l) j) wApart)=true):(tk (zT l) j).tx=if !(sees (tk (zT l) j) wBefore) then [97,112,97,114,116] else [98,101,102,111,114,101]:=by
 cases hb:sees (tk (zT l) j) wBefore
 .rw[hb]at h;simp only[Bool.false_or]at h;rw[←s_apart]at h;unfold seesP at h;rw[ByteArray.toList_eq,bs_data,ByteArray.toList_eq]at h;have:(tk (zT l) j).tx=wApart.data.toList:=by simpa using h
  rw[this];rfl
 .rw[←s_before]at hb;unfold seesP at hb;rw[ByteArray.toList_eq,bs_data,ByteArray.toList_eq]at hb;have:(tk (zT l) j).tx=wBefore.data.toList:=by simpa using hb
  rw[this];rfl
theorem token_text (a:Value)(x:ByteArray)(c:Value)(w:World):(Instr.field 188 (.agg #[a,.string x,c]) 1).run Tryz.prog w=.ok (.string x) w:=by
 simp[Instr.field,run_underlying Tryz.underlying188,go_sem,asAgg]
theorem takePair_any (h:RS er w b s i)(hw:(sees (tk (zT s.data.toList) i) wBefore||sees (tk (zT s.data.toList) i) wApart)=true):
  Calls Tryz.prog 123 #[.pointer (some ⟨b,0,none⟩)] w (GOut er s b w (pPairR (zT s.data.toList) i) PV):=by
 have hfin:(tk (zT s.data.toList) i).fin=false:=by
  have h1:(tk (zT s.data.toList) i).k=119:=by
   simp only[Bool.or_eq_true,sees,Bool.and_eq_true,beq_iff_eq]at hw;rcases hw with hw|hw<;>exact hw.1
  unfold PT.fin;rw[h1];rfl
 have Htx:=hide (pair_word _ _ hw);have S0:=Sp.start h 175 #[.string ⟨#[]⟩,.string ⟨#[]⟩,.int .i64 0,.string ⟨#[]⟩,.int .i64 0] #[.string ⟨#[]⟩,.string ⟨#[]⟩,.int .i64 0,.string ⟨#[]⟩,.int .i64 0];clear h hw;generalize hap:(!(sees (tk (zT s.data.toList) i) wBefore))=ap at *;have Hap:=hide hap;clear hap;have hfield:=fun a x c w=>token_text a x c w;go_enter Tryz.func123,Tryz.ntmps123;go_wp2_with fail;refine(take_any S0.rs hfin).mono ?_;rintro e w1 ⟨hg,hcase⟩;have hgw:=zR S0.g hg;rcases hcase with⟨h1,rfl⟩|⟨h1,rfl⟩
 .obtain⟨x1,x2,x3,x4,x5⟩:=x_no h1;exact⟨rfl,hgw,.inl ⟨i+1,rfl,.inl (by simp[pPairR,pPair,x2])⟩⟩
 have S1:=S0.call h1 hg;obtain⟨x1,x2,x3,x4⟩:=S1.cells;clear hg hgw h1 S0 hfin;unfold pv;go_wp2_with fail;have S1:=S1.set 0 (.string (bs (tk (zT s.data.toList) i).tx)) (c':=#[.string (bs (tk (zT s.data.toList) i).tx),.string ⟨#[]⟩,.int .i64 0,.string ⟨#[]⟩,.int .i64 0]) rfl;clear x1 x2 x3 x4;refine(takeName_any S1.rs).mono ?_;rintro e w2 ⟨hg,hcase⟩;have hgw:=zR S1.g hg;rw[isNameP_eq]at hcase;rcases hcase with⟨h0,rfl⟩|⟨h0,h1,rfl⟩|⟨h0,h1,rfl⟩
 .exact⟨rfl,hgw,.inl ⟨i+1,rfl,.inl (by simp[pPairR,pPair,h0])⟩⟩
 .obtain⟨x1,x2,x3,x4,x5⟩:=x_no h1;exact⟨rfl,hgw,.inl ⟨i+1+1,rfl,.inl (by simp[pPairR,pPair,h0,x2,x4])⟩⟩
 have F2:=hide h0;have S2:=S1.call h1 hg;obtain⟨x1,x2,x3,x4⟩:=S2.cells;clear hg hgw h0 h1 S1;go_wp2_with fail;have S2:=S2.set 1 (.string (bs (tk (zT s.data.toList) (i+1)).tx)) (c':=#[.string (bs (tk (zT s.data.toList) i).tx),.string (bs (tk (zT s.data.toList) (i+1)).tx),.int .i64 0,.string ⟨#[]⟩,.int .i64 0]) rfl;have S2:=S2.set 2 (.int .i64 (tk (zT s.data.toList) (i+1)).at_) (c':=#[.string (bs (tk (zT s.data.toList) i).tx),.string (bs (tk (zT s.data.toList) (i+1)).tx),.int .i64 (tk (zT s.data.toList) (i+1)).at_,.string ⟨#[]⟩,.int .i64 0]) rfl;clear x1 x2 x3 x4;refine(takeName_any S2.rs).mono ?_;rintro e w3 ⟨hg,hcase⟩;have hgw:=zR S2.g hg;rw[isNameP_eq]at hcase;rcases hcase with⟨h0,rfl⟩|⟨h0,h1,rfl⟩|⟨h0,h1,rfl⟩
 .exact⟨rfl,hgw,.inl ⟨i+1+1,rfl,.inl (by simp[pPairR,pPair,F2.out,h0])⟩⟩
 .obtain⟨x1,x2,x3,x4,x5⟩:=x_no h1;exact⟨rfl,hgw,.inl ⟨i+1+1+1,rfl,.inl (by simp[pPairR,pPair,F2.out,h0,x2,x4])⟩⟩
 have F3:=hide h0;have S3:=S2.call h1 hg;obtain⟨x1,x2,x3,x4⟩:=S3.cells;clear hg hgw h0 h1 S2;go_wp2_with fail;have S3:=S3.set 3 (.string (bs (tk (zT s.data.toList) (i+1+1)).tx)) (c':=#[.string (bs (tk (zT s.data.toList) i).tx),.string (bs (tk (zT s.data.toList) (i+1)).tx),.int .i64 (tk (zT s.data.toList) (i+1)).at_,.string (bs (tk (zT s.data.toList) (i+1+1)).tx),.int .i64 0]) rfl;have S3:=S3.set 4 (.int .i64 (tk (zT s.data.toList) (i+1+1)).at_) (c':=#[.string (bs (tk (zT s.data.toList) i).tx),.string (bs (tk (zT s.data.toList) (i+1)).tx),.int .i64 (tk (zT s.data.toList) (i+1)).at_,.string (bs (tk (zT s.data.toList) (i+1+1)).tx),.int .i64 (tk (zT s.data.toList) (i+1+1)).at_]) rfl;clear x1 x2 x3 x4;refine(takeText_any S3.rs ⟨#[59]⟩ (by rw[ByteArray.toList_eq];decide)).mono ?_;rintro e w4 ⟨hg,hcase⟩;have hgw:=zR S3.g hg;rw[seesP_semi]at hcase;rcases hcase with⟨h0,rfl⟩|⟨h0,h1,rfl⟩|⟨h0,h1,rfl⟩
 .exact⟨rfl,hgw,.inl ⟨i+1+1+1,rfl,.inl (by simp[pPairR,pPair,F2.out,F3.out,h0])⟩⟩
 .exact⟨rfl,hgw,.inl ⟨i+1+1+1+1,rfl,.inr ⟨⟨_,by simp[pPairR,pPair,F2.out,F3.out,h0];rfl⟩,h1⟩⟩⟩
 have F4:=hide h0;have S4:=S3.call h1 hg;obtain⟨x1,x2,x3,x4⟩:=S4.cells;clear hg hgw h0 h1 S3;have hbb:=S4.hb;have hn1:=hide (name_tx F2.out);have hn2:=hide (name_tx F3.out);go_wp2;refine bodyPost_ret (v:=ppRaw (tk (zT s.data.toList) i).tx (tk (zT s.data.toList) (i+1)).tx (tk (zT s.data.toList) (i+1)).at_ (tk (zT s.data.toList) (i+1+1)).tx (tk (zT s.data.toList) (i+1+1)).at_) (by simp[results,Tryz.results123,go_sem,x3,ppRaw]) rfl ⟨?_,.inr ⟨(⟨nameB (tk (zT s.data.toList) (i+1)),nameB (tk (zT s.data.toList) (i+1+1)),ap,(tk (zT s.data.toList) (i+1)).at_,(tk (zT s.data.toList) (i+1+1)).at_⟩:Pr),i+1+1+1+1,_,by simp[pPairR,pPair,F2.out,F3.out,F4.out,Hap.out],?_,rfl,?_⟩⟩
 .have Y:∀(wz:World) (o:Nat) (v:Value),w.grownBy wz (some b)->w.grownBy (wz.setCell ⟨w.heap.size,o,none⟩ v) (some b):=fun wz o v hz=>zG hz (Nat.le_refl _) o v;exact Y _ _ _ (Y _ _ _ (Y _ _ _ (Y _ _ _ (Y _ _ _ S4.g))))
 .have Y:∀(wz:World) (o:Nat) (v:Value),RS er wz b s (i+1+1+1+1)->RS er (wz.setCell ⟨w.heap.size,o,none⟩ v) b s (i+1+1+1+1):=fun wz o v hz=>hz.set (by omega) o v;exact Y _ _ _ (Y _ _ _ (Y _ _ _ (Y _ _ _ (Y _ _ _ S4.rs))))
 .unfold PV;rw[Htx.out,hn1.out,hn2.out]
theorem newReader_any (er:Nat)(ev:Int)(hev:ev=er)(s:ByteArray)(w:World)(hs:s.size<=800):
  Calls Tryz.prog 100 #[.string s,.int .i64 ev] w fun en w'=>Below w.heap.size w w'/\(((tk (zT s.data.toList) 0).k=120/\en=pan er (tk (zT s.data.toList) 0).at_)\/(RS er w' w.heap.size s 0/\en=.returned (.pointer (some ⟨w.heap.size,0,none⟩)))):=by
 subst hev;have hn:Hid (tk (zT s.data.toList) 0=nextTok s.data.toList 0):=(toks_next _ _ 0).1;have h0:Hid (0<(zT s.data.toList).length):=toks_ne _ _ _;go_enter Tryz.func100,Tryz.ntmps100;go_wp2_with fail;refine(tokenFrom_any er s w.heap.size 0 _ hs (by omega) (by simp[go_sem]) (by simp[go_sem]) (by simp)).mono ?_;rintro e w1 ⟨hb,hcase⟩;rw[←hn.out]at hcase;have hbw:Below w.heap.size w w1:=(zN w _).trans (hb.mono (by simp));have hX:=blk_kept (zW w _ _) hb;rcases hcase with⟨h1,rfl⟩|⟨h1,rfl⟩
 .exact⟨rfl,hbw,.inl ⟨h1,rfl⟩⟩
 .have xc:=zC hX;have xf:=zF hX;have hset:RS er (((w1.setCell ⟨w.heap.size,2,none⟩ (.int .i64 (kc (tk (zT s.data.toList) 0).k))).setCell ⟨w.heap.size,3,none⟩ (.string (bs (tk (zT s.data.toList) 0).tx))).setCell ⟨w.heap.size,4,none⟩ (.int .i64 (tk (zT s.data.toList) 0).at_)) w.heap.size s 0:=by
   refine⟨?_,h0.out,h1,hs⟩;rw[zS (zS (zS hX 2 _) 3 _) 4 _];rfl
  have Hset:=hide hset;have Hb:=hide (((hbw.setCell (p:=⟨w.heap.size,2,none⟩) (Nat.le_refl _) (.int .i64 (kc (tk (zT s.data.toList) 0).k))).setCell (p:=⟨w.heap.size,3,none⟩) (Nat.le_refl _) (.string (bs (tk (zT s.data.toList) 0).tx))).setCell (p:=⟨w.heap.size,4,none⟩) (Nat.le_refl _) (.int .i64 (tk (zT s.data.toList) 0).at_));clear hX hset hbw hb h1 hn;unfold pv;go_wp2;go_ret;exact⟨Hb.out,.inr ⟨Hset.out,rfl⟩⟩
end
end
end Go.Proofs.YtbdffcjganlblaaGreatDoor
