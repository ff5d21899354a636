import Derived.Test.YtbdffcjganlblaaGreatDoorATabBtoRefQ
import Derived.Test.YtbdffcjganlblaaGreatDoorALaystoLays
import Derived.Lib.ItoaLen
import Derived.Lib.LaidTab
import Derived.Laws.MakeOwn
import Derived.Deep.DeepCutAuto
import Derived.Deep.RegionWith
import Derived.Deep.RegionHeldLaw
import Derived.Test.YtbdffcjganlblaaGreatDoorARefItoRefK
set_option linter.unusedVariables false
set_option linter.unusedSimpArgs false
set_option maxRecDepth 100000
set_option maxHeartbeats 16000000
namespace Go.Proofs.YtbdffcjganlblaaGreatDoor
section
open Go.RowKit Go.Shelf
def T10 (w:World):Prop:=Lib.TabIs Tryz.prog w "internal/strconv.uint64pow10" .u64 Lib.pow10Tab
theorem T10.below {w w':World}(h:T10 w)(hb:Below w.heap.size w w'):T10 w':=by
 unfold T10 Lib.TabIs World.var? at h ⊢
 cases hg:Tryz.prog.globalNamed "internal/strconv.uint64pow10" with
 | none=>rw[hg]at h;simp at h
 | some g=>
  rw[hg]at h;simp only[Option.bind_some]at h ⊢
  cases hc:w.heap[g]? with
  | none=>rw[hc]at h;simp at h
  | some o=>
   rw[hb.block g (zL hc)];exact h
def dX (n:Nat):ByteArray:=if n<100 then dB n else ⟨(Lib.itoa n).toArray⟩
theorem dX_small {n:Nat}(h:n<100):dX n=dB n:=by unfold dX;rw[if_pos h]
theorem dX_size (n:Nat)(hn:n<=100000):(dX n).size<=21:=by
 unfold dX;split
 .have:=dB_size n;omega
 .have:=Lib.itoa_length_le n (by omega) (by omega);simpa [ByteArray.size] using this
theorem itoaX_any (n:Nat)(w:World)(hn:n<=100000)(ht:T10 w):
  Calls Tryz.prog 71 #[.int .i64 n] w fun e w'=>e=.returned (.string (dX n))/\Below w.heap.size w w':=by
 by_cases h:n<100
 .rw[dX_small h];refine(itoa_any n w h).mono ?_;rintro e w' ⟨rfl,rfl⟩;exact⟨rfl,Below.refl _ _⟩
 .unfold dX;rw[if_neg h];refine(show Calls Tryz.prog 71 #[.int .i64 n] w fun e w'=>e=.returned (.string ⟨(Lib.itoa n).toArray⟩)/\∃k os,w'=Sort.grow (w.drewN k) os from Any.strconv_Itoa Tryz.laysM171 n (by omega) (by omega) w ht).mono ?_;rintro e w' ⟨rfl,k,os,rfl⟩;refine⟨rfl,rfl,rfl,rfl,?_,?_⟩
  .show w.heap.size<=(w.heap++os).size;simp
  .intro j hj;show (w.heap++os)[j]? =w.heap[j]?
   rw[Array.getElem?_append_left hj]
theorem rdecX_any (n:Nat)(w:World)(hn:n<=100000)(ht:T10 w):
  Calls Tryz.prog 82 #[.int .i64 n] w fun e w'=>e=.returned (.string (dX n))/\Below w.heap.size w w':=by
 have H:=hide (itoaX_any n w hn ht);clear hn ht;go_enter Tryz.func82,Tryz.ntmps82;go_wp2_with fail;refine H.out.mono ?_;rintro e w1 ⟨rfl,hb⟩;have Hb:=hide hb;clear hb H;go_wp2;go_ret;exact⟨rfl,Hb.out⟩
structure UB (w wr:World) (c f:Nat) (sv:Value) (l:List FSl) (k:Nat):Prop where
 t:TBx w wr c f sv
 u:∀j,j<c->wr.cell? ⟨w.heap.size+1,j,none⟩=some (.int .i64 (usedJ (l.take k) j:Nat))
 fz:∀j,wr.frozen? ⟨w.heap.size+1,j,none⟩=false
 lt:w.heap.size+1<wr.heap.size
section
variable {w wr:World} {c f:Nat} {sv:Value} {l:List FSl} {k:Nat}
theorem UB.drewN (h:UB w wr c f sv l k)(n:Nat):UB w (wr.drewN n) c f sv l k:=⟨h.t.drewN n,h.u,h.fz,h.lt⟩
theorem UB.set (h:UB w wr c f sv l k)(hk:k<l.length)(hj:(fsk l k).1<c):UB w (wr.setCell ⟨w.heap.size+1,(fsk l k).1,none⟩ (.int .i64 (usedJ (l.take k) (fsk l k).1+(fsk l k).2.bud:Nat))) c f sv l (k+1):=by
 refine⟨⟨?_,h.t.b.setCell (by show w.heap.size<=w.heap.size+1;omega) _⟩,?_,?_,by rw[zH];exact h.lt⟩
 .rw[Below.heap_setCell _ _ _ _ (by show w.heap.size≠w.heap.size+1;omega)];exact h.t.h
 .intro j hjc;rw[take_next hk,usedJ_app];by_cases hjj:j=(fsk l k).1
  .subst hjj;rw[set_same (h.u _ hjc)];simp[usedJ]
  .have h0:usedJ [fsk l k] j=0:=by
    simp only[usedJ];rw[if_neg (fun e=>hjj e.symm)]
   rw[set_other (by intro e;injection e with _ e2;exact hjj e2.symm),h.u j hjc,h0,Nat.add_zero]
 .intro j;simpa using h.fz j
end
theorem usedJ_le {l:List FSl}(hs:∀k,k<l.length->(fsk l k).small)(j:Nat):∀k,k<=l.length->usedJ (l.take k) j<=9999*k
 | 0,_=>by simp[usedJ]
 | k+1,h=>by
  have ih:=usedJ_le hs j k (by omega);have hk:=(hs k (by omega)).2.2;rw[take_next (by omega),usedJ_app];simp only[usedJ];split<;>omega
def BTo (f:Nat) (l:List FSl) (k:Nat):Prop:=∀i,i<k->1<=(fsk l i).2.bud/\usedJ (l.take i) (fsk l i).1+(fsk l i).2.bud<=f
theorem bTo_all {f:Nat}{l:List FSl}:BudR f [] l↔BTo f l l.length:=by
 constructor
 .intro h i hi;have:=h i hi;rw[fsk_eq hi]at this;exact this
 .intro h i hi;rw[fsk_eq hi];exact h i hi
theorem bTo_step {f:Nat}{l:List FSl}{k:Nat}(h:BTo f l k)(hk:1<=(fsk l k).2.bud/\usedJ (l.take k) (fsk l k).1+(fsk l k).2.bud<=f):BTo f l (k+1):=by
 intro i hi;rcases Nat.lt_or_ge i k with h1|h1
 .exact h i h1
 .have:i=k:=by omega
  subst this;exact hk
end
section
open Go.RowKit
theorem Tryz.infoInt:(Tryz.prog.info? 3).map (fun i=>(i.zero,i.size,i.bytes))=some (some (.int .i64 0),1,8):=by kernel_rfl
def zerosA (c:Nat):Array Value:=madeCells (Value.int .i64 0).cells c
theorem zerosA_at (c j:Nat)(h:j<c):(zerosA c)[j]? =some (.int .i64 0):=by
 simp[zerosA,madeCells,h,Value.cells,Nat.mod_one]
theorem make_ints (c:Nat)(hc:c<=1000)(w:World):(Instr.makeSlice 25 (.int .i64 c) (.int .i64 c)).run Tryz.prog w=.ok (.slice (some ⟨w.heap.size,0,none⟩) c c) (w.alloc (.cells (zerosA c) 3)):=by
 obtain⟨i0,hi,hz0,hz1,hz2⟩:=info_parts Tryz.infoInt;have:=run_make (P:=Tryz.prog) w 25 3 i0 _ Tryz.underlying25 hi hz0 .i64 .i64 c c (by omega) (by omega) (by rw[hz2];omega) (by omega);rw[hz1]at this;simpa [zerosA] using this
theorem UB.start (w:World)(c f:Nat)(sv:Value)(l:List FSl):UB w ((w.alloc (.cells #[.int .i64 c,.int .i64 f,sv] 39)).alloc (.cells (zerosA c) 3)) c f sv l 0:=by
 have hb:=zW (w.alloc (.cells #[.int .i64 c,.int .i64 f,sv] 39)) (zerosA c) 3;simp only[World.size_alloc]at hb;refine⟨(TBx.start w c f sv).alloc _,?_,zF hb,by simp⟩;intro j hj;rw[zC hb,zerosA_at c j hj];simp[usedJ]
theorem rsound_any (c f:Nat)(l:List FSl)(g cap:Nat)(w:World)(hg:g<w.heap.size)(hr:RowF w g l)(hn:l.length<=300)(hs:∀k,k<l.length->(fsk l k).small)(hc:c<=60)(hf:f<=9999)(hl:∀k,k<l.length->(fsk l k).1<c):
  Calls Tryz.prog 45 #[.agg #[.int .i64 c,.int .i64 f,.slice (some ⟨g,0,none⟩) l.length cap]] w (BoolPost (BudR f [] l/\JobsR l) w):=by
 have Hr:=hide hr;have Hs:=hide hs;have Hl:=hide hl;have H0:=hide (UB.start w c f (.slice (some ⟨g,0,none⟩) l.length cap) l);have hmk:=make_ints c (by omega);clear hr hs hl;go_enter Tryz.func45,Tryz.ntmps45;go_wp2_with fail;clear hmk
 go_loopw [4] (fun i wr=>∃k:Nat,k<=l.length/\i=.int .i64 k/\UB w wr c f (.slice (some ⟨g,0,none⟩) l.length cap) l k/\BTo f l k) (fun i _=>l.length-(intOf i).toNat)
 case atStart=>exact⟨0,by omega,rfl,H0.out,fun i hi=>by omega⟩
 case round=>
  clear H0;obtain⟨k,hk,rfl,hU,hB⟩:=hrel;obtain⟨x0,x1,x2⟩:=hU.t.cells;have HU:=hide hU;have HB:=hide hB;by_cases hlt:k<l.length
  .have hlt':(k:Int)<l.length:=by omega
   have hR:=Hr.out.below hU.t.b hg;obtain⟨k0,k1,k2,k3⟩:=hR k hlt;obtain⟨hk1,hk2,hk3⟩:=Hs.out k hlt;have hlc:=Hl.out k hlt;have hu:=hU.u _ hlc;have hfz:=hU.fz (fsk l k).1;have hul:=usedJ_le Hs.out (fsk l k).1 k (by omega);clear hR hB;by_cases hb1:(fsk l k).2.bud<1
   .have hb1':((fsk l k).2.bud:Int)<1:=by omega
    have hno:Hid (¬(BudR f [] l/\JobsR l)):=by
     rintro ⟨h,_⟩;have:=(bTo_all.1 h k hlt).1;omega
    clear hU hb1;go_wp2;go_ret;exact boolPost_no rfl hno.out HU.out.t.b
   .have hb1':¬((fsk l k).2.bud:Int)<1:=by omega
    have hU2:=hU.set hlt hlc;rw[Int.natCast_add]at hU2;have HU2:=hide (hU2.drewN 1);have hus:Hid (usedJ (l.take (k+1)) (fsk l k).1=usedJ (l.take k) (fsk l k).1+(fsk l k).2.bud):=by
     unfold Hid;rw[take_next hlt,usedJ_app];simp[usedJ]
    have hul2:=usedJ_le Hs.out (fsk l k).1 (k+1) (by omega);have hne:¬g=w.heap.size+1:=by omega
    have hne2:¬w.heap.size+1=g:=by omega
    clear hU hU2;go_wp2_with fail
    go_region
    all_goals
     clear x0 x1 x2 k0 k1 k2 k3 hu hfz;generalize hW:World.drew _=W;have HU3:Hid (UB w W c f (.slice (some ⟨g,0,none⟩) l.length cap) l (k+1)):=by
      rw[←hW];exact HU2
     clear HU2 hW;obtain⟨x0,x1,x2⟩:=HU3.out.t.cells;obtain⟨k0,k1,k2,k3⟩:=Hr.out.below HU3.out.t.b hg k hlt;have hu:=HU3.out.u _ hlc;by_cases hb2:usedJ (l.take (k+1)) (fsk l k).1<=f
     .have hb2':¬(f:Int)<usedJ (l.take (k+1)) (fsk l k).1:=by omega
      have hB2:Hid (BTo f l (k+1)):=by
       refine bTo_step HB.out ⟨by omega,?_⟩;have:=hus.out;omega
      go_wp2
      go_quiet (fail)
      go_wp2;go_roundw
      case rel=>exact⟨k+1,by omega,by go_num,HU3.out.drewN _,hB2.out⟩
      case measure=>simp[intOf];omega
     .have hb2':(f:Int)<usedJ (l.take (k+1)) (fsk l k).1:=by omega
      have hno:Hid (¬(BudR f [] l/\JobsR l)):=by
       rintro ⟨h,_⟩;have h1:=(bTo_all.1 h k hlt).2;have:=hus.out;omega
      go_wp2
      go_quiet (fail)
      go_wp2;go_ret;exact boolPost_no rfl hno.out (HU3.out.drewN _).t.b
  .have hlt':¬(k:Int)<l.length:=by omega
   have hke:k=l.length:=by omega
   have hall:Hid (BudR f [] l):=by
    rw[hke]at HB;exact bTo_all.2 HB.out
   clear hU hB;go_wp2_with fail;refine(rjobs_any c f l g cap wr (Nat.lt_of_lt_of_le hg HU.out.t.b.size) (Hr.out.below HU.out.t.b hg) hn Hs.out).mono ?_;rintro e w1 ⟨b,rfl,hbj,hbb⟩;have Hbj:=hide hbj;have Hbb:=hide (HU.out.t.b.trans (hbb.mono HU.out.t.b.size));clear hbj hbb;go_wp2;go_ret;exact⟨b,rfl,by rw[Hbj.out];simp[hall.out],Hbb.out⟩
def slX (s:Sl):List UInt8:=[s.nm]++(dX s.job).data.toList++[58]++(dX s.bud).data.toList
def frX:List Sl->List UInt8
 | []=>[]
 | [s]=>slX s
 | s::r=>slX s++[44]++frX r
def selJ (j:Nat) (P:List FSl):List Sl:=(P.filter (fun x=>x.1==j)).map Prod.snd
def framesX (l:List FSl) (n:Nat):List UInt8:=(List.range n).flatMap (fun j=>frX (selJ j l)++[59,10])
theorem frX_snoc:∀(L:List Sl) (s:Sl),frX (L++[s])=if L=[] then slX s else frX L++[44]++slX s
 | [],s=>rfl
 | [x],s=>by simp[frX]
 | x::y::r,s=>by
  have ih:=frX_snoc (y::r) s;simp only[List.cons_append,frX]at ih ⊢;rw[ih];simp
theorem selJ_snoc (j:Nat)(P:List FSl)(x:FSl):selJ j (P++[x])=if x.1=j then selJ j P++[x.2] else selJ j P:=by
 unfold selJ;rw[List.filter_append,List.map_append];by_cases h:x.1=j
 .rw[if_pos h];simp[h]
 .rw[if_neg h];simp[h]
theorem framesX_succ (l:List FSl)(n:Nat):framesX l (n+1)=framesX l n++frX (selJ n l)++[59,10]:=by
 unfold framesX;rw[List.range_succ,List.flatMap_append];simp
theorem slX_len (s:Sl)(h1:s.job<=9999)(h2:s.bud<=9999):(slX s).length<=44:=by
 have a:=dX_size s.job (by omega);have b:=dX_size s.bud (by omega);have a':(dX s.job).data.toList.length<=21:=by simpa using a
 have b':(dX s.bud).data.toList.length<=21:=by simpa using b
 unfold slX;simp only[List.length_append,List.length_cons,List.length_nil];omega
theorem frX_len:∀(L:List Sl),(∀s∈L,s.job<=9999/\s.bud<=9999)->(frX L).length<=45*L.length
 | [],_=>by simp[frX]
 | [s],h=>by
  have:=slX_len s (h s (by simp)).1 (h s (by simp)).2;simp only[frX,List.length_cons,List.length_nil];omega
 | s::x::r,h=>by
  have h1:=slX_len s (h s (by simp)).1 (h s (by simp)).2;have h2:=frX_len (x::r) (fun z hz=>h z (List.mem_cons_of_mem _ hz));simp only[frX,List.length_append,List.length_cons,List.length_nil]at h2 ⊢;omega
theorem sel_len (j:Nat)(P:List FSl):(selJ j P).length<=P.length:=by
 unfold selJ;rw[List.length_map];exact List.length_filter_le _ _
theorem sel_small {l:List FSl}(hs:∀k,k<l.length->(fsk l k).small)(j q:Nat):∀s∈selJ j (l.take q),s.job<=9999/\s.bud<=9999:=by
 intro s h;unfold selJ at h;obtain⟨x,hx,rfl⟩:=List.mem_map.1 h;have hx':=List.mem_of_mem_take (List.mem_filter.1 hx).1;obtain⟨k,hk,rfl⟩:=List.mem_iff_getElem.1 hx';have:=hs k hk;rw[←fsk_eq hk]at this;exact this.2
theorem framesX_len {l:List FSl}(hs:∀k,k<l.length->(fsk l k).small)(hn:l.length<=300):∀n,(framesX l n).length<=n*13502
 | 0=>by simp[framesX]
 | n+1=>by
  have ih:=framesX_len hs hn n;have h1:=frX_len (selJ n l) (by have:=sel_small hs n l.length;rwa [List.take_length]at this);have h2:=sel_len n l;rw[framesX_succ];simp only[List.length_append,List.length_cons,List.length_nil];omega
theorem add_named2 (a b:ByteArray)(h:a.size+b.size<=4000000):∃X:ByteArray,(∀w:World,(Op.stringOp .add a b).run Tryz.prog w=.ok (.string X) w)/\X.size=a.size+b.size/\X.data.toList=a.data.toList++b.data.toList:=
 ⟨a++b,fun w=>run_string_add_sum w a b (by omega),by simp[ByteArray.size_append],by simp[ByteArray.data_append]⟩
theorem bytes1 (c:UInt8)(W:World)(b:Nat)(h:W.cell? ⟨b,0,none⟩=some (.int .u8 c.toNat)):(convert 64 9 (.slice (some ⟨b,0,none⟩) 1 1)).run Tryz.prog W=.ok (.string ⟨#[c]⟩) W:=by
 refine run_convert_bytes_back _ 64 9 5 ⟨b,0,none⟩ 1 [c] Tryz.underlying64 Tryz.underlying5 Tryz.underlying9 ?_;intro j hj;have h0:j=0:=by simpa using hj
 subst h0;exact h
theorem rText_any (c f:Nat)(l:List FSl)(g cap:Nat)(w:World)(hg:g<w.heap.size)(hr:RowF w g l)(hn:l.length<=300)(hs:∀k,k<l.length->(fsk l k).small)(hc:c<=60)(hf:f<=60)(hf1:1<=f)(ht:T10 w):
  Calls Tryz.prog 46 #[.agg #[.int .i64 c,.int .i64 f,.slice (some ⟨g,0,none⟩) l.length cap]] w fun e w'=>e=.returned (.string (bs (hdTxt c f++framesX l (c/f))))/\Below w.heap.size w w':=by
 have Hr:=hide hr;have Hs:=hide hs;have Ht:=hide ht;have H0:=hide (TBx.start w c f (.slice (some ⟨g,0,none⟩) l.length cap));obtain⟨x0,x1,x2⟩:=H0.out.cells;have hq:c/f<=60:=Nat.le_trans (Nat.div_le_self c f) hc;have Hlen:=hide (framesX_len hs hn);clear hr hs ht;have hd1:=dB_size c;have hd2:=dB_size f;have hf0:((f:Int)==0)=false:=by simp;omega
 have hf0':¬(f:Int)=0:=by omega
 obtain⟨X1,a1,z1,e1⟩:=add_named2 ⟨#[99,121,99,108,101,32]⟩ (dB c) (by rw[show (ByteArray.size ⟨#[99,121,99,108,101,32]⟩)=6 from rfl];omega);rw[show (ByteArray.size ⟨#[99,121,99,108,101,32]⟩)=6 from rfl]at z1;obtain⟨X2,a2,z2,e2⟩:=add_named2 X1 ⟨#[32,102,114,97,109,101,32]⟩ (by rw[show (ByteArray.size ⟨#[32,102,114,97,109,101,32]⟩)=7 from rfl];omega);rw[show (ByteArray.size ⟨#[32,102,114,97,109,101,32]⟩)=7 from rfl]at z2;obtain⟨X3,a3,z3,e3⟩:=add_named2 X2 (dB f) (by omega);obtain⟨X4,a4,z4,e4⟩:=add_named2 X3 ⟨#[59,10]⟩ (by rw[show (ByteArray.size ⟨#[59,10]⟩)=2 from rfl];omega);rw[show (ByteArray.size ⟨#[59,10]⟩)=2 from rfl]at z4;have E4:Hid (X4=bs (hdTxt c f++framesX l 0)):=by
  unfold Hid;rw[←bs_list X4,e4,e3,e2,e1];simp[hdTxt,framesX,dL]
 have hhd:=hdTxt_len c f;clear z1 z2 z3 z4 e1 e2 e3 e4;go_enter Tryz.func46,Tryz.ntmps46;go_wp2_with fail
 go_cut [3] (fun x wc=>x=.string X4/\TBx w wc c f (.slice (some ⟨g,0,none⟩) l.length cap))
 case first=>
  go_region_with ((go_at_call 82;(first|refine(rdec_any c _ (by omega)).mono ?_|refine(rdec_any f _ (by omega)).mono ?_);rintro e w' ⟨rfl,rfl⟩))
  all_goals
   go_wp2
   go_meet
   case rel=>exact⟨rfl,H0.out.drewN 1⟩
 case rest=>
  clear H0 a1 a2 a3 a4 x0 x1 x2 hd1 hd2;obtain⟨rfl,hT⟩:=hcut;have HT:=hide hT;clear hT;go_wp2_with fail
  go_loopw [3,4] (fun x j wr=>∃k:Nat,k<=c/f/\j=.int .i64 k/\x=.string (bs (hdTxt c f++framesX l k))/\TBx w wr c f (.slice (some ⟨g,0,none⟩) l.length cap)) (fun _ j _=>100-(intOf j).toNat)
  case atStart=>exact⟨0,Nat.zero_le _,rfl,by rw[E4.out],HT.out⟩
  case round=>
   clear HT E4;obtain⟨k,hk,rfl,rfl,hT⟩:=hrel;obtain⟨x0,x1,x2⟩:=hT.cells;have HT:=hide hT;clear hT;have hdiv:(c:Int)/(f:Int)=((c/f:Nat):Int):=by simp
   by_cases hlt:k<c/f
   .have hlt':decide ((k:Int)<(c:Int)/(f:Int))=true:=by rw[hdiv];simp;omega
    have hk60:k<60:=by omega
    clear hdiv;go_wp2_with fail;clear x0 x1 x2 hlt'
    go_loopw [3,5,6] (fun x fst i wr=>∃q:Nat,q<=l.length/\i=.int .i64 q/\fst=.bool (decide ((selJ k (l.take q)).length=0))/\x=.string (bs (hdTxt c f++framesX l k++frX (selJ k (l.take q))))/\TBx w wr c f (.slice (some ⟨g,0,none⟩) l.length cap)) (fun _ _ i _=>400-(intOf i).toNat)
    case atStart=>exact⟨0,by omega,rfl,by simp[selJ],by simp[selJ,frX],HT.out⟩
    case round=>
     clear HT;obtain⟨q,hq,rfl,rfl,rfl,hT⟩:=hrel;obtain⟨x0,x1,x2⟩:=hT.cells;have HT:=hide hT;by_cases hql:q<l.length
     .have hql':(q:Int)<l.length:=by omega
      obtain⟨k0,k1,k2,k3⟩:=Hr.out.below hT.b hg q hql;obtain⟨hk1,hk2,hk3⟩:=Hs.out q hql;have hwg:g<wr.heap.size:=Nat.lt_of_lt_of_le hg hT.b.size;have hww:w.heap.size<wr.heap.size:=zL hT.h;have hTT:=hide (fun W (hW:Below wr.heap.size wr W)=>Ht.out.below (hT.b.trans (hW.mono hT.b.size)));clear hT;have hsn:Hid (selJ k (l.take (q+1))=if (fsk l q).1=k then selJ k (l.take q)++[(fsk l q).2] else selJ k (l.take q)):=by
       unfold Hid;rw[take_next hql,selJ_snoc]
      by_cases hfr:(fsk l q).1=k
      .have hfr':(((fsk l q).1:Int)==k)=true:=by simp;omega
       have hsn2:Hid (selJ k (l.take (q+1))=selJ k (l.take q)++[(fsk l q).2]):=by unfold Hid;rw[hsn.out,if_pos hfr]
       have hbase:(hdTxt c f++framesX l k++frX (selJ k (l.take q))).length<=1000000:=by
        have h1:=Hlen.out k;have h2:=frX_len _ (sel_small Hs.out k q);have h3:=sel_len k (l.take q);simp only[List.length_append];simp at h3;omega
       clear hsn hfr;have hd1:=dX_size (fsk l q).2.job (by omega);have hd2:=dX_size (fsk l q).2.bud (by omega);have hY:∃Y:ByteArray,Hid ((decide ((selJ k (l.take q)).length=0)=true/\Y=bs (hdTxt c f++framesX l k++frX (selJ k (l.take q))))\/(decide ((selJ k (l.take q)).length=0)=false/\∀w:World,(Op.stringOp .add (bs (hdTxt c f++framesX l k++frX (selJ k (l.take q)))) ⟨#[44]⟩).run Tryz.prog w=.ok (.string Y) w))/\Y.size<=1000001/\Hid (bs (Y.data.toList++slX (fsk l q).2)=bs (hdTxt c f++framesX l k++frX (selJ k (l.take (q+1)))))/\Hid (¬(selJ k (l.take (q+1))).length=0):=by
        unfold Hid;rw[hsn2.out,frX_snoc];by_cases hz:selJ k (l.take q)=[]
        .refine⟨_,.inl ⟨by simp[hz],rfl⟩,by rw[bs_size];omega,?_,by simp⟩;rw[if_pos hz,bs_data,hz];simp[frX]
        .obtain⟨Y,a,z,e⟩:=add_named2 (bs (hdTxt c f++framesX l k++frX (selJ k (l.take q)))) ⟨#[44]⟩ (by rw[bs_size,show (ByteArray.size ⟨#[44]⟩)=1 from rfl];omega);refine⟨Y,.inr ⟨by simpa using hz,a⟩,by rw[z,bs_size,show (ByteArray.size ⟨#[44]⟩)=1 from rfl];omega,?_,by simp⟩;rw[if_neg hz,e,bs_data];simp
       obtain⟨Y,hYc,hYz,hYe,hne0⟩:=hY;obtain⟨X1,a1,z1,e1⟩:=add_named2 Y ⟨#[(fsk l q).2.nm]⟩ (by rw[show (ByteArray.size ⟨#[(fsk l q).2.nm]⟩)=1 from rfl];omega);rw[show (ByteArray.size ⟨#[(fsk l q).2.nm]⟩)=1 from rfl]at z1;obtain⟨X2,a2,z2,e2⟩:=add_named2 X1 (dX (fsk l q).2.job) (by omega);obtain⟨X3,a3,z3,e3⟩:=add_named2 X2 ⟨#[58]⟩ (by rw[show (ByteArray.size ⟨#[58]⟩)=1 from rfl];omega);rw[show (ByteArray.size ⟨#[58]⟩)=1 from rfl]at z3;obtain⟨X4,a4,z4,e4⟩:=add_named2 X3 (dX (fsk l q).2.bud) (by omega);have EX:Hid (X4=bs (hdTxt c f++framesX l k++frX (selJ k (l.take (q+1))))):=by
        unfold Hid;rw[←hYe.out,←bs_list X4,e4,e3,e2,e1];simp[slX]
       clear z1 z2 z3 z4 e1 e2 e3 e4 hYe hbase hsn2;have hcv:=bytes1 (fsk l q).2.nm;have HJ:Hid (∀W,Below wr.heap.size wr W->Calls Tryz.prog 82 #[.int .i64 (fsk l q).2.job] W fun e w'=>e=.returned (.string (dX (fsk l q).2.job))/\Below wr.heap.size wr w'/\∀b o,b<W.heap.size->w'.cell? ⟨b,o,none⟩=W.cell? ⟨b,o,none⟩):=fun W hW=>(rdecX_any _ W (by omega) (hTT.out W hW)).mono fun e w' h=>⟨h.1,hW.trans (h.2.mono hW.size),fun b o hb=>h.2.cell (p:=⟨b,o,none⟩) hb⟩;have HD:Hid (∀W,Below wr.heap.size wr W->Calls Tryz.prog 82 #[.int .i64 (fsk l q).2.bud] W fun e w'=>e=.returned (.string (dX (fsk l q).2.bud))/\Below wr.heap.size wr w'/\∀b o,b<W.heap.size->w'.cell? ⟨b,o,none⟩=W.cell? ⟨b,o,none⟩):=fun W hW=>(rdecX_any _ W (by omega) (hTT.out W hW)).mono fun e w' h=>⟨h.1,hW.trans (h.2.mono hW.size),fun b o hb=>h.2.cell (p:=⟨b,o,none⟩) hb⟩;generalize dX (fsk l q).2.job=DJ at *;generalize dX (fsk l q).2.bud=DD at *;generalize (fsk l q).2.job=jb at *;generalize (fsk l q).2.bud=bd at *;generalize (fsk l q).2.nm=nm at *;generalize decide ((selJ k (l.take q)).length=0)=fb at *;generalize hdTxt c f++framesX l k++frX (selJ k (l.take q))=L at *;have HK:Hid (∀W,Below wr.heap.size wr W->W.cell? ⟨w.heap.size,2,none⟩=some (.slice (some ⟨g,0,none⟩) l.length cap)/\W.cell? ⟨g,q*4+1,none⟩=some (.int .u8 nm.toNat)/\W.cell? ⟨g,q*4+2,none⟩=some (.int .i64 jb)/\W.cell? ⟨g,q*4+3,none⟩=some (.int .i64 bd)/\Below wr.heap.size wr W):=fun W hW=>⟨(hW.cell (p:=⟨w.heap.size,2,none⟩) hww).trans x2,(hW.cell (p:=⟨g,q*4+1,none⟩) hwg).trans k1,(hW.cell (p:=⟨g,q*4+2,none⟩) hwg).trans k2,(hW.cell (p:=⟨g,q*4+3,none⟩) hwg).trans k3,hW⟩;have bA:=hide ((Below.refl wr.heap.size wr).drew);have bB:=hide ((zN wr (.cells #[.int .u8 nm.toNat] 5)).drew);have L0:Hid (wr.heap.size<(wr.alloc (.cells #[.int .u8 nm.toNat] 5)).drew.heap.size):=by show wr.heap.size<(wr.heap.push _).size;simp
       have LA:Hid (∀W:World,W.heap.size<(W.alloc (.cells #[.int .u8 nm.toNat] 5)).heap.size):=fun W=>by show W.heap.size<(W.heap.push _).size;simp
       have CA:Hid (∀W:World,(W.alloc (.cells #[.int .u8 nm.toNat] 5)).cell? ⟨W.heap.size,0,none⟩=some (.int .u8 nm.toNat)):=fun W=>zC (zW W #[.int .u8 nm.toNat] 5) 0;have cB:Hid ((wr.alloc (.cells #[.int .u8 nm.toNat] 5)).drew.cell? ⟨wr.heap.size,0,none⟩=some (.int .u8 nm.toNat)):=CA.out wr;rcases hYc.out with⟨rfl,rfl⟩|⟨rfl,hYa⟩
       all_goals
        clear hYc;go_wp2_with fail
        go_region_held_law (fun w'=>w'.cell? ⟨w.heap.size,2,none⟩=some (.slice (some ⟨g,0,none⟩) l.length cap)/\w'.cell? ⟨g,q*4+1,none⟩=some (.int .u8 nm.toNat)/\w'.cell? ⟨g,q*4+2,none⟩=some (.int .i64 jb)/\w'.cell? ⟨g,q*4+3,none⟩=some (.int .i64 bd)/\Below wr.heap.size wr w') (first|exact HK.out _ bA.out|exact HK.out _ bB.out|exact HK.out _ hb9|exact HK.out _ (hb9.alloc hb9.size _)|exact HK.out _ hb8|exact HK.out _ (hb8.alloc hb8.size _))
         (first|(go_at_call 82;refine(HJ.out _ ?hw).mono ?_;(case hw=>(first|exact bA.out|exact bB.out));rintro e w8 ⟨rfl,hb8,hc8⟩;try (have c8:=(hc8 wr.heap.size 0 L0.out).trans cB.out;have cv8:=hcv w8 wr.heap.size c8))|(go_at_call 82;refine(HD.out _ ?hw).mono ?_;(case hw=>(first|exact hb8|exact hb8.alloc hb8.size _|exact bA.out|exact bB.out));rintro e w9 ⟨rfl,hb9,hc9⟩;try (have c9:=(hc9 wr.heap.size 0 (World.block_lt_of_cell? w8 ⟨wr.heap.size,0,none⟩ c8)).trans c8;have cv9:=hcv w9 wr.heap.size c9);try (have c9:=(hc9 w8.heap.size 0 (LA.out w8)).trans (CA.out w8);have cv9:=hcv w9 w8.heap.size c9)))
        all_goals
         have hfin:∀W:World,Below wr.heap.size wr W->TBx w W c f (.slice (some ⟨g,0,none⟩) l.length cap):=fun W hW=>HT.out.keep hW;have Hfin:=hide hfin;clear hfin;go_wp2;go_roundw
         case rel=>exact⟨q+1,by omega,by go_num,by rw[decide_eq_false hne0.out],by rw[EX.out],by first|exact Hfin.out _ hb9|exact Hfin.out _ (hb9.alloc hb9.size _)⟩
         case measure=>simp[intOf];omega
      .have hfr':(((fsk l q).1:Int)==k)=false:=by simp;omega
       have hsn2:Hid (selJ k (l.take (q+1))=selJ k (l.take q)):=by unfold Hid;rw[hsn.out,if_neg hfr]
       clear hsn hfr;go_wp2;go_roundw
       case rel=>exact⟨q+1,by omega,by go_num,by rw[hsn2.out],by rw[hsn2.out],HT.out⟩
       case measure=>simp[intOf];omega
     .have hql':¬(q:Int)<l.length:=by omega
      have hqe:q=l.length:=by omega
      have hbase:(hdTxt c f++framesX l k++frX (selJ k (l.take q))).length<=1000000:=by
       have h1:=Hlen.out k;have h2:=frX_len _ (sel_small Hs.out k q);have h3:=sel_len k (l.take q);simp only[List.length_append];simp at h3;omega
      have hE:Hid (hdTxt c f++framesX l k++frX (selJ k (l.take q))++[59,10]=hdTxt c f++framesX l (k+1)):=by
       unfold Hid;rw[hqe,List.take_length,framesX_succ];simp
      clear hT;generalize hdTxt c f++framesX l k++frX (selJ k (l.take q))=L at *;obtain⟨X1,a1,z1,e1⟩:=add_named2 (bs L) ⟨#[59,10]⟩ (by rw[bs_size,show (ByteArray.size ⟨#[59,10]⟩)=2 from rfl];omega);have EX:Hid (X1=bs (hdTxt c f++framesX l (k+1))):=by
       unfold Hid;rw[←hE.out,←bs_list X1,e1,bs_data]
      clear z1 e1 hE;go_wp2;go_roundw
      case rel=>exact⟨k+1,by omega,by go_num,by rw[EX.out],HT.out⟩
      case measure=>simp[intOf];omega
   .have hlt':decide ((k:Int)<(c:Int)/(f:Int))=false:=by rw[hdiv];simp;omega
    have hke:k=c/f:=by omega
    have HK:=hide hke;clear hke hdiv;go_wp2;go_ret;exact⟨by rw[←HK.out];rfl,HT.out.b⟩
theorem blk_kept {w w':World}{X:Nat}{o:Obj}(h:w.heap[X]? =some o)(hb:Below w.heap.size w w'):w'.heap[X]? =some o:=by
 rw[hb.block _ (zL h)];exact h
def pan (e p:Nat):Ending:=.panicked [{ v:=.iface 101 (.agg #[.int .i64 e,.int .i64 p]),recovered:=false }]
theorem refuse_any (e p:Nat)(ev:Int)(he:ev=e)(w:World):
  Calls Tryz.prog 65 #[.int .i64 ev,.int .i64 p] w fun en w'=>en=pan e p/\w'=w:=by
 subst he;go_enter Tryz.func65,Tryz.ntmps65;go_wp2;exact⟨rfl,rfl,rfl⟩
def kc (k:Nat):Nat:=if k=101 then 0 else if k=119 then 1 else if k=110 then 2 else 3
def pv (t:PT):Value:=.agg #[.int .i64 (kc t.k),.string (bs t.tx),.int .i64 t.at_]
def FromPost (er:Nat) (t:PT) (w:World) (en:Ending) (w':World):Prop:=
 Below w.heap.size w w'/\((t.k=120/\en=pan er t.at_)\/(t.k≠120/\en=.returned (pv t)))
theorem fromPost_ok {er:Nat}{t:PT}{w w':World}{v:Value}{k:Nat}{x:ByteArray}{p:Nat}(hv:v=.agg #[.int .i64 k,.string x,.int .i64 p])(hk:k=kc t.k)(hx:x=bs t.tx)(hp:p=t.at_)(h1:t.k≠120)(hb:Below w.heap.size w w'):FromPost er t w (.returned v) w':=by
 subst hv hk hx hp;exact⟨hb,.inr ⟨h1,rfl⟩⟩
theorem lead_zero {P:Int->Bool}{c:UInt8}{r:List UInt8}(h:P (c.toNat:Int)=false):lead P (c::r)=0:=by simp[lead,h]
theorem lead_pos {P:Int->Bool}{c:UInt8}{r:List UInt8}(h:P (c.toNat:Int)=true):0<lead P (c::r):=by simp[lead,h]
theorem bs_ext (r:List UInt8)(n:Nat):(bs r).extract 0 n=bs (r.take n):=by rw[ext_bs,bs_data];simp
theorem drop_bs (s:ByteArray)(q:Nat):s.extract q s.size=bs (s.data.toList.drop q):=by
 rw[ext_bs];congr 1;apply List.take_of_length_le;simp
theorem tokenFrom_any (er:Nat)(s:ByteArray)(b p:Nat)(w:World)(hs:s.size<=800)(hp:p<=s.size)(c0:w.cell? ⟨b,0,none⟩=some (.string s))(c1:w.cell? ⟨b,1,none⟩=some (.int .i64 er))(hb:b<w.heap.size):
  Calls Tryz.prog 140 #[.pointer (some ⟨b,0,none⟩),.int .i64 p] w (FromPost er (nextTok s.data.toList p) w):=by
 obtain⟨l,hl⟩:∃l,s.data.toList=l:=⟨_,rfl⟩;have hll:l.length=s.size:=by rw[←hl];simp
 have hd0:s.extract p s.size=bs (l.drop p):=by rw[drop_bs,hl]
 obtain⟨q,hq⟩:∃q,skipB l p=q:=⟨_,rfl⟩;have hqb:=skipB_le l p (by omega);rw[hq]at hqb;have hd1:s.extract q s.size=bs (l.drop q):=by rw[drop_bs,hl]
 have hn:nextTok s.data.toList p=tokAt l q:=by unfold nextTok;rw[hl,hq]
 rw[hn];have Hq:Hid (p+lead blankB (l.drop p)=q):=hq;have hz:(bs (l.drop p)).size<=1000:=by rw[bs_size,List.length_drop];omega
 have hqs:q<=s.size:=by omega
 obtain⟨hq1,hq2⟩:=hqb;have Hhd:Hid (lead blankB (bs (l.drop p)).data.toList=lead blankB (l.drop p)):=by rw[bs_data];rfl
 clear hn hq hl;go_enter Tryz.func140,Tryz.ntmps140;go_wp2_with fail;refine(countBlank_any (bs (l.drop p)) _ hz).mono ?_;rintro e w' ⟨rfl,rfl⟩;rw[Hhd.out];have hlp:p+lead blankB (l.drop p)<=800:=by have:=Hq.out;omega
 have hpq:(p:Int)+(lead blankB (l.drop p):Nat)=(q:Int):=by have:=Hq.out;omega
 generalize lead blankB (l.drop p)=z at *
 cases hr:l.drop q with
 | nil=>
  have HT:=hide (tok_end l q (by have:=congrArg List.length hr;simp at this;omega));rw[hr]at hd1;have hd2:s.extract q s.size=⟨#[]⟩:=hd1;clear hd1 hr;go_wp2;refine bodyPost_ret (v:=.agg #[.int .i64 0,.string ⟨#[]⟩,.int .i64 q]) (by simp[results,Tryz.results140,go_sem]) rfl ?_;rw[HT.out];exact fromPost_ok (k:=0) rfl rfl rfl rfl (by simp) (zN _ _)
 | cons c r=>
  have hlen:(c::r).length=l.length-q:=by rw[←hr];simp
  have hTd:tokAt l q=if signB (c.toNat:Int) then ⟨c.toNat,[c],q⟩
    else if zB (c.toNat:Int) then ⟨119,(c::r).take (lead zB (c::r)),q⟩
    else if 1<=lead zD (c::r)/\lead zD (c::r)<=4 then ⟨110,(c::r).take (lead zD (c::r)),q⟩
    else ⟨120,[],q⟩:=by unfold tokAt;rw[hr]
  have HTd:=hide hTd;rw[hr]at hd1;have hz1:(bs (c::r)).size<=1000:=by rw[bs_size];omega
  have hz2:(bs (c::r)).size=r.length+1:=by rw[bs_size];rfl
  have hne:((bs (c::r)).toList==[])=false:=by rw[ByteArray.toList_eq,bs_data];rfl
  have hle1:=lead_le zB (c::r);have hle2:=lead_le zD (c::r);have hx1:∀n,(bs (c::r)).extract 0 n=bs ((c::r).take n):=bs_ext (c::r);have hc0:∀h,(bs (c::r))[0]'h=c:=fun h=>rfl;have Hc0:=hide hc0;clear hr hTd hc0;have hlz:Hid (lead zB (bs (c::r)).data.toList=lead zB (c::r)):=by rw[bs_data];rfl
  have hdz:Hid (lead zD (bs (c::r)).data.toList=lead zD (c::r)):=by rw[bs_data];rfl
  cases hL:zB (c.toNat:Int) with
  | true=>
   have hS:signB (c.toNat:Int)=false:=by
    simp only[zB,Bool.and_eq_true,decide_eq_true_eq]at hL;simp only[signB,Bool.or_eq_false_iff,beq_eq_false_iff_ne,ne_eq];omega
   have hpos:=lead_pos (r:=r) hL;have HT:Hid (tokAt l q=⟨119,(c::r).take (lead zB (c::r)),q⟩):=by unfold Hid;rw[HTd.out,if_neg (by simp[hS]),if_pos hL]
   clear hL hS HTd;go_wp2_with fail;refine(countLetter_any (bs (c::r)) _ hz1).mono ?_;rintro e w' ⟨rfl,rfl⟩;rw[hlz.out];simp only[List.length_cons]at hle1 hlen;clear hlz hdz hle2 Hc0;generalize lead zB (c::r)=n at *;generalize bs (c::r)=R at *;have hpos':(0:Int)<n:=by omega
   have hnR:n<=R.size:=by omega
   go_wp2;refine bodyPost_ret (v:=.agg #[.int .i64 1,.string (bs ((c::r).take n)),.int .i64 q]) (by simp[results,Tryz.results140,go_sem]) rfl ?_;rw[HT.out];exact fromPost_ok (k:=1) rfl rfl rfl rfl (by simp) (zN _ _)
  | false=>
   have h0:=lead_zero (r:=r) hL;by_cases hD:1<=lead zD (c::r)/\lead zD (c::r)<=4
   .have hS:signB (c.toNat:Int)=false:=by
     cases hd:zD (c.toNat:Int) with
     | false=>have:=lead_zero (r:=r) hd;omega
     | true=>
      simp only[zD,Bool.and_eq_true,decide_eq_true_eq]at hd;simp only[signB,Bool.or_eq_false_iff,beq_eq_false_iff_ne,ne_eq];omega
    have HT:Hid (tokAt l q=⟨110,(c::r).take (lead zD (c::r)),q⟩):=by unfold Hid;rw[HTd.out,if_neg (by simp[hS]),if_neg (by simp[hL]),if_pos hD]
    clear hL hS HTd;go_wp2_with fail;refine(countLetter_any (bs (c::r)) _ hz1).mono ?_;rintro e w' ⟨rfl,rfl⟩;rw[hlz.out,h0];clear h0 hlz hle1;go_wp2_with fail;refine(countDigit_any (bs (c::r)) _ hz1).mono ?_;rintro e w' ⟨rfl,rfl⟩;rw[hdz.out];simp only[List.length_cons]at hle2 hlen;clear hdz Hc0;generalize lead zD (c::r)=n at *;generalize bs (c::r)=R at *;obtain⟨hD1,hD2⟩:=hD;have hpos':(0:Int)<n:=by omega
    have hnR:n<=R.size:=by omega
    have hn4:(n:Int)<=4:=by omega
    go_wp2;refine bodyPost_ret (v:=.agg #[.int .i64 2,.string (bs ((c::r).take n)),.int .i64 q]) (by simp[results,Tryz.results140,go_sem]) rfl ?_;rw[HT.out];exact fromPost_ok (k:=2) rfl rfl rfl rfl (by simp) (zN _ _)
   .have hnd:Hid (¬(0<lead zD (c::r)/\lead zD (c::r)<=4)):=by unfold Hid;omega
    have hsg:signB (c.toNat:Int)=true->¬(0<lead zD (c::r)):=by
     intro hS;have hd:zD (c.toNat:Int)=false:=by
      simp only[signB,Bool.or_eq_true,beq_iff_eq]at hS;simp only[zD,Bool.and_eq_false_iff,decide_eq_false_iff_not];omega
     rw[lead_zero hd];omega
    go_wp2_with fail;refine(countLetter_any (bs (c::r)) _ hz1).mono ?_;rintro e w' ⟨rfl,rfl⟩;rw[hlz.out,h0];clear h0 hlz hle1;go_wp2_with fail;refine(countDigit_any (bs (c::r)) _ hz1).mono ?_;rintro e w' ⟨rfl,rfl⟩;rw[hdz.out];simp only[List.length_cons]at hle2 hlen;clear hdz;have hndec:(¬(0:Int)<(lead zD (c::r):Nat))\/((0:Int)<(lead zD (c::r):Nat)/\¬((lead zD (c::r):Nat):Int)<=4):=by omega
    have HD:=hide hD;have hR1:0<(bs (c::r)).size:=by omega
    clear hD hnd;have hci:∀h,((bs (c::r))[0]'h).toNat=c.toNat:=fun h=>by rw[Hc0.out]
    cases hS:signB (c.toNat:Int) with
    | true=>
     have HT:Hid (tokAt l q=⟨c.toNat,[c],q⟩):=by unfold Hid;rw[HTd.out,if_pos hS]
     have hk:Hid (c.toNat≠120/\3=kc c.toNat):=by
      simp only[signB,Bool.or_eq_true,beq_iff_eq]at hS;unfold Hid kc;refine⟨by omega,?_⟩;rw[if_neg (by omega),if_neg (by omega),if_neg (by omega)]
     have h00:=hsg hS;have h01:¬(0:Int)<(lead zD (c::r):Nat):=by omega
     have h1x:(bs (c::r)).extract 0 1=bs [c]:=by rw[bs_ext];rfl
     have HS:=hide hS;clear hS hsg hndec h00 hx1 HD HTd;generalize lead zD (c::r)=n at *;go_wp2_with fail;refine(isSign_any _ _).mono ?_;rintro e w' ⟨rfl,rfl⟩;rw[HS.out];go_wp2;refine bodyPost_ret (v:=.agg #[.int .i64 3,.string (bs [c]),.int .i64 q]) (by simp[results,Tryz.results140,go_sem]) rfl ?_;rw[HT.out];exact fromPost_ok (k:=3) rfl hk.out.2 rfl rfl hk.out.1 (zN _ _)
    | false=>
     have HT:Hid (tokAt l q=⟨120,[],q⟩):=by unfold Hid;rw[HTd.out,if_neg (by simp[hS]),if_neg (by simp[hL]),if_neg HD.out]
     have HS:=hide hS;clear hS hsg hx1 HD HTd;generalize lead zD (c::r)=n at *;rcases hndec with h01|⟨h01,h02⟩
     all_goals
      go_wp2_with fail;refine(isSign_any _ _).mono ?_;rintro e w' ⟨rfl,rfl⟩;rw[HS.out];go_wp2_with fail;refine(refuse_any er q _ rfl _).mono ?_;rintro e w' ⟨rfl,rfl⟩;refine⟨rfl,?_⟩;rw[HT.out];exact⟨zN _ _,.inl ⟨rfl,rfl⟩⟩
end
end Go.Proofs.YtbdffcjganlblaaGreatDoor
