import Derived.Test.YtbdffcjganlblaaGreatDoorATbEtoTbF
import Derived.Test.YtbdffcjganlblaaGreatDoorARnDtoTabD
import Derived.Test.YtbdffcjganlblaaGreatDoorARefXtoRunA
import Derived.Deep.RegionWith
import Derived.Test.YtbdffcjganlblaaGreatDoorAProgFtoRefW
import Derived.Deep.DeepCutAuto
import Derived.Test.YtbdffcjganlblaaGreatDoorARefOtoRefP
set_option linter.unusedVariables false
set_option linter.unusedSimpArgs false
set_option maxRecDepth 100000
set_option maxHeartbeats 16000000
namespace Go.Proofs.YtbdffcjganlblaaGreatDoor
section
open Go.RowKit
theorem Tryz.infoU8:(Tryz.prog.info? 5).map (fun i=>(i.zero,i.size,i.bytes))=some (some (.int .u8 0),1,1):=by kernel_rfl
def bV (l:List UInt8):List Value:=l.map (fun c=>Value.int .u8 (c.toNat:Int))
theorem bV_app (a b:List UInt8):bV (a++b)=bV a++bV b:=by simp[bV]
structure PK (w wr:World) (tv:Array Value) (v:Value) (L:List UInt8):Prop where
 hx:wr.heap[w.heap.size]? =some (.cells tv 61 (0,0))
 ow:wr.ownsRow (w.heap.size+1) 5 1 v L.length (bV L)
 bel:Below w.heap.size w wr
theorem PK.call {w wr:World}{tv:Array Value}{v:Value}{L:List UInt8}(h:PK w wr tv v L){w':World}(hb:Below wr.heap.size wr w'):PK w w' tv v L:=
 ⟨zK h.hx hb,owns_below h.ow hb,h.bel.trans (hb.mono h.bel.size)⟩
theorem PK.push {w wr:World}{tv:Array Value}{v v':Value}{L M:List UInt8}(h:PK w wr tv v L){w2:World}(hg:wr.grownBy w2 v.ownBlock){n:Nat}{xs:List Value}(hown:w2.ownsRow (w.heap.size+1) 5 1 v' n xs)(hn:n=(L++M).length)(hxs:xs=bV (L++M)):PK w w2 tv v' (L++M):=by
 subst hn hxs;refine⟨by rw[hg.block _ (zL h.hx) (fun e=>own_ge h.ow (Nat.lt_succ_self _) e.symm)];exact h.hx,hown,?_⟩;exact h.bel.grown hg h.bel.size (fun k hk=>by
  have:=(h.ow.lt k hk).1;omega)
theorem pack_any (t:Tb)(a:Option Addr)(cc:Nat)(w:World)(hr:FvA w a t.fs)(hS:Sound t):
  Calls Tryz.prog 33 #[.agg #[.int .i64 t.cyc,.int .i64 t.fr,.slice a t.fs.length cc]] w fun e w'=>e=.returned (.string (bs (bodyB t++sumL (bodyB t))))/\Below w.heap.size w w':=by
 obtain⟨RR,hRR⟩:∃RR,bs (bodyB t++sumL (bodyB t))=RR:=⟨_,rfl⟩;rw[hRR];have HRR:=hide hRR;clear hRR;obtain⟨i0,hi,hz0,hz1,hz2⟩:=info_parts Tryz.infoU8;obtain⟨hf1,hf2,hn1,hn2,hfl⟩:=hS.frames;have hc2:=hS.c2;have hblen:=bodyB_len hS;have Hsm:=hide hS.small;have Hr:=hide hr;clear hr hS;have hx0:=zW w #[.int .i64 t.cyc,.int .i64 t.fr,.slice a t.fs.length cc] 61;have H0:Hid (PK w ((w.alloc (.cells #[.int .i64 t.cyc,.int .i64 t.fr,.slice a t.fs.length cc] 61)).alloc (.cells #[.int .u8 t.cyc,.int .u8 t.fr] 5)) #[.int .i64 t.cyc,.int .i64 t.fr,.slice a t.fs.length cc] (.slice (some ⟨w.heap.size+1,0,none⟩) 2 2) [u8 t.cyc,u8 t.fr]):=by
  refine⟨by rw[Below.heap_alloc _ _ _ (by simp)];exact zW _ _ _,?_,(zN w _).alloc (by simp) _⟩;have:=World.ownsRow_lit (base:=w.heap.size+1) (e:=5) (size:=1) (w.alloc (.cells #[.int .i64 t.cyc,.int .i64 t.fr,.slice a t.fs.length cc] 61)) #[.int .u8 t.cyc,.int .u8 t.fr] 2 (by simp) (by decide) rfl;simp only[World.size_alloc]at this;have e:bV [u8 t.cyc,u8 t.fr]=[.int .u8 t.cyc,.int .u8 t.fr]:=by
   simp only[bV,List.map_cons,List.map_nil];rw[u8_nat (by omega),u8_nat (by omega)]
  show World.ownsRow _ _ _ _ _ 2 _;rw[e];exact this
 clear hx0;go_enter Tryz.func33,Tryz.ntmps33;go_wp2_with fail
 go_loopw [3,18] (fun v i wr=>∃j:Nat,j<=t.fs.length/\i=.int .i64 j/\PK w wr #[.int .i64 t.cyc,.int .i64 t.fr,.slice a t.fs.length cc] v (u8 t.cyc::u8 t.fr::(t.fs.take j).flatMap frB)/\(u8 t.cyc::u8 t.fr::(t.fs.take j).flatMap frB).length<=2+200*j) (fun _ i _=>200-(intOf i).toNat)
 case atStart=>exact⟨0,by omega,rfl,by simpa using H0.out,by simp⟩
 case round=>
  clear H0;obtain⟨j,hj,rfl,hP,hlen⟩:=hrel;by_cases hlt:j<t.fs.length
  .have hlt':(j:Int)<t.fs.length:=by omega
   obtain⟨g,rfl,hg,hF⟩:=Hr.out (by omega);obtain⟨fa,fc,hfc0,hfa⟩:=hF j hlt;have hfc:=(hP.bel.cell (p:=⟨g,j,none⟩) hg).trans hfc0;have hm:frk t.fs j∈t.fs:=by rw[←frk_eq hlt];exact List.getElem_mem _
   obtain⟨hfl1,hfl2⟩:=Hsm.out _ hm;have hsmall:Hid (∀q,q<(frk t.fs j).length->(slk (frk t.fs j) q).job<60/\(slk (frk t.fs j) q).bud<=60):=by
    intro q hq;have:=hfl2 (slk (frk t.fs j) q) (by rw[←slk_eq hq];exact List.getElem_mem _);omega
   have hft:Hid ((t.fs.take (j+1)).flatMap frB=(t.fs.take j).flatMap frB++frB (frk t.fs j)):=by
    unfold Hid;rw[List.take_succ_eq_append_getElem hlt,List.flatMap_append,frk_eq hlt];simp
   have hfbl:(frB (frk t.fs j)).length<=181:=by
    have:=frB_len [frk t.fs j];simp at this;omega
   have HFA:=hide hfa;have HP:=hide hP;have ow:=hP.ow;have hsz:=hP.bel.size;have hhx:=zL hP.hx;clear hfc0 hF hm hfl2 hP hfa;generalize hL0:u8 t.cyc::u8 t.fr::(t.fs.take j).flatMap frB=L at *;have HL0:=hide hL0;clear hL0;go_wp2_with (at_builtin;refine wpList_append_own _ rfl _ _ 64 rfl (w.heap.size+1) 5 i0 _ 1 1 Tryz.underlying64 hi hz0 hz1 hz2 rfl (by decide) _ _ _ rfl (ow.alloc _) ⟨wr.heap.size,0,none⟩ 1 1 [.int .u8 (frk t.fs j).length] rfl rfl ?c1 ?c2 ?c3 ?c4 ?c5 ?_)
   case c1=>exact cells_new wr #[_] _ _ rfl
   case c2=>simp[Value.oneCell']
   case c3=>unfold maxLen;omega
   case c4=>omega
   case c5=>simp;omega
   intro v' w2 hown2 hgr _;have hP2:=(HP.out.call (zN wr (.cells #[.int .u8 (frk t.fs j).length] 5))).push (M:=[u8 (frk t.fs j).length]) hgr hown2 (by simp) (by rw[bV_app];congr 1;simp only[bV,List.map_cons,List.map_nil];rw[u8_nat (by omega)]);have H2:=hide hP2;clear hown2 hgr hP2 ow HP hfc;go_wp2_with fail
   go_loopw [3,30] (fun v i wr=>∃k:Nat,k<=(frk t.fs j).length/\i=.int .i64 k/\PK w wr #[.int .i64 t.cyc,.int .i64 t.fr,.slice (some ⟨g,0,none⟩) t.fs.length cc] v ((L++[u8 (frk t.fs j).length])++((frk t.fs j).take k).flatMap slB)/\(((L++[u8 (frk t.fs j).length])++((frk t.fs j).take k).flatMap slB)).length<=L.length+1+3*k) (fun _ i _=>200-(intOf i).toNat)
   case atStart=>exact⟨0,by omega,rfl,by simpa using H2.out,by simp⟩
   case round=>
    clear H2;obtain⟨k,hk,rfl,hP,hlen2⟩:=hrel;by_cases hkl:k<(frk t.fs j).length
    .have hkl':(k:Int)<(frk t.fs j).length:=by omega
     obtain⟨gf,rfl,hgf,hrow⟩:=HFA.out (by omega);obtain⟨r0,r1,r2⟩:=hrow.below hP.bel hgf k hkl;obtain⟨hjb,hbd⟩:=hsmall.out k hkl;have hfs:Hid (((frk t.fs j).take (k+1)).flatMap slB=((frk t.fs j).take k).flatMap slB++slB (slk (frk t.fs j) k)):=by
      unfold Hid;rw[List.take_succ_eq_append_getElem hkl,List.flatMap_append,slk_eq hkl];simp
     have HP:=hide hP;have ow:=hP.ow;have hsz:=hP.bel.size;have hnm:=UInt8.toNat_lt (slk (frk t.fs j) k).nm;clear hrow hP;generalize hLL:(L++[u8 (frk t.fs j).length])++((frk t.fs j).take k).flatMap slB=LL at *;have HLL:=hide hLL;clear hLL;generalize slk (frk t.fs j) k=y at *;go_wp2_with (at_builtin;refine wpList_append_own _ rfl _ _ 64 rfl (w.heap.size+1) 5 i0 _ 1 1 Tryz.underlying64 hi hz0 hz1 hz2 rfl (by decide) _ _ _ rfl ((ow.alloc _).alloc _) ⟨wr.heap.size+1,0,none⟩ 3 3 [.int .u8 y.nm.toNat,.int .u8 y.job,.int .u8 y.bud] rfl rfl ?c1 ?c2 ?c3 ?c4 ?c5 ?_)
     case c1=>exact cells_new (wr.alloc _) #[_,_,_] _ _ (by simp)
     case c2=>simp[Value.oneCell']
     case c3=>unfold maxLen;omega
     case c4=>omega
     case c5=>simp;omega
     intro v' w3 hown3 hgr _;have hP3:=((HP.out.call (zN wr _)).call (zN _ _)).push (M:=slB y) hgr hown3 (by simp[slB]) (by rw[bV_app];congr 1;simp only[bV,slB,List.map_cons,List.map_nil];rw[u8_nat (by omega),u8_nat (by omega)]);have H3:=hide hP3;clear hown3 hgr hP3 ow HP;go_wp2;go_roundw
     case rel=>
      refine⟨k+1,by omega,by go_num,?_,?_⟩
      .rw[hfs.out,←List.append_assoc,HLL.out];exact H3.out
      .rw[hfs.out,←List.append_assoc,HLL.out,List.length_append];simp[slB];omega
     case measure=>simp[intOf];omega
    .have hkl':¬(k:Int)<(frk t.fs j).length:=by omega
     have hke:(frk t.fs j).take k=frk t.fs j:=List.take_of_length_le (by omega);have hEq:(L++[u8 (frk t.fs j).length])++((frk t.fs j).take k).flatMap slB=L++frB (frk t.fs j):=by
      rw[hke];simp[frB]
     rw[hEq]at hP;have HP:=hide hP;clear hP hEq hlen2;have hL2:Hid (u8 t.cyc::u8 t.fr::(t.fs.take (j+1)).flatMap frB=(u8 t.cyc::u8 t.fr::(t.fs.take j).flatMap frB)++frB (frk t.fs j)):=by
      unfold Hid;rw[hft.out];rfl
     go_wp2;go_roundw
     case rel=>
      refine⟨j+1,by omega,by go_num,?_,?_⟩
      .rw[hL2.out,HL0.out];exact HP.out
      .rw[hL2.out,HL0.out,List.length_append];omega
     case measure=>simp[intOf];omega
  .have hlt':¬(j:Int)<t.fs.length:=by omega
   have hje:u8 t.cyc::u8 t.fr::(t.fs.take j).flatMap frB=bodyB t:=by
    rw[List.take_of_length_le (by omega)];rfl
   rw[hje]at hP hlen;clear hje;have hbl:0<(bodyB t).length:=by simp[bodyB]
   obtain⟨gb,cap,rfl,hg1,hg2⟩:=own_form hP.ow (by omega);have hcell:∀W:World,Below wr.heap.size wr W->∀q,(hq:q<(bodyB t).length)->W.cell? ⟨gb,q,none⟩=some (.int .u8 ((bodyB t)[q].toNat:Int)):=by
    intro W hW q hq;rw[hW.cell (p:=⟨gb,q,none⟩) hg2,hP.ow.cellAt q (by omega)];simp[bV,hq]
   have hcv:=fun W hW=>bytesN (bodyB t) W gb cap (hcell W hW);have Hcv:=hide hcv;have cv0:=hcv wr.drew (below_drewN (Below.refl _ _) 1);have HB:=hide hP.bel;have hsl:(sumL (bodyB t)).length=4:=rfl;clear hcell hcv hP;obtain⟨X1,a1,z1,e1⟩:=add_named2 ⟨(bodyB t).toArray⟩ (bs (sumL (bodyB t))) (by simp[ByteArray.size,bs,hsl];omega);have EX:Hid (X1=bs (bodyB t++sumL (bodyB t))):=by
    unfold Hid;rw[←bs_list X1,e1,bs_data]
   have HSum:Hid (∀W,Calls Tryz.prog 68 #[.string ⟨(bodyB t).toArray⟩] W fun e w'=>e=.returned (.string (bs (sumL (bodyB t))))/\Below W.heap.size W w'):=fun W=>by
    have:=sumOf_any ⟨(bodyB t).toArray⟩ W (by simp[ByteArray.size];omega);simpa using this
   clear z1 e1 hsl;generalize bodyB t=BB at *;generalize bs (sumL BB)=SS at *;go_wp2_with fail
   go_region_with (go_at_call 68;refine(HSum.out _).mono ?_;rintro e w9 ⟨rfl,hb9⟩;have cv9:=Hcv.out w9 ((below_drewN (Below.refl wr.heap.size wr) 1).trans hb9))
   all_goals
    have HB9:=hide (HB.out.trans (((below_drewN (Below.refl wr.heap.size wr) 1).trans hb9).mono HB.out.size));clear hb9;go_wp2;go_ret;exact⟨by rw[show RR=X1 from HRR.out.symm.trans EX.out.symm];rfl,HB9.out⟩
theorem Tryz.infoPTask:(Tryz.prog.info? 172).map (fun i=>(i.zero,i.size,i.bytes))=some (some (.agg #[.string ⟨#[]⟩,.int .i64 0,.int .i64 0,.int .i64 0,.int .i64 0,.int .i64 0,.int .i64 0,.int .i64 0,.int .i64 0,.int .i64 0]),10,88):=by kernel_rfl
theorem Tryz.infoPPair:(Tryz.prog.info? 175).map (fun i=>(i.zero,i.size,i.bytes))=some (some (.agg #[.string ⟨#[]⟩,.string ⟨#[]⟩,.int .i64 0,.string ⟨#[]⟩,.int .i64 0]),5,64):=by kernel_rfl
def ParseOut (s:ByteArray) (w:World) (en:Ending) (w':World):Prop:=
  Below w.heap.size w w'/\
  ((∃j,pSet (zT s.data.toList)=.error j/\en=pan 2 (tk (zT s.data.toList) j).at_)\/
   (∃l ps tv pv,pSet (zT s.data.toList)=.ok (l.map Prod.fst,ps)/\ZOk l/\en=.returned (.agg #[tv,pv])/\w'.ownsRow w.heap.size 172 10 tv l.length (ptRow l)/\w'.ownsRow w.heap.size 175 5 pv ps.length (ppRow ps)))
theorem zok_snoc {l:List (Tk×Nat)}(h:ZOk l){t:Tk}{z:Nat}(hz:z=t.q2\/t.O=0):ZOk (l++[(t,z)]):=by
 intro x hx;rcases List.mem_append.1 hx with h' | h'
 .exact h x h'
 .simp at h';subst h';exact hz
theorem qw_start {w w2:World}{b:Nat}{s:ByteArray}{j:Nat}(hrs:RS 2 w2 b s j)(h1:w.heap.size<b)(hgw:w.grownBy w2 none)(hY2:w2.heap[w.heap.size]? =some (.cells #[.slice none 0 0,.slice none 0 0] 84 (0,0)))(x:Tk×Nat):
  QW w ((w2.alloc (.cells #[.string (bs [x.1.nm]),.int .i64 x.1.q0,.int .i64 x.1.P,.int .i64 x.1.q1,.int .i64 x.1.O,.int .i64 x.2,.int .i64 x.1.C,.int .i64 x.1.q3,.int .i64 x.1.D,.int .i64 x.1.q4] 172)).alloc (.cells #[.slice (some ⟨w2.heap.size,0,none⟩) 1 1,.slice none 0 0] 84)) b (w2.heap.size+1) s j (.slice (some ⟨w2.heap.size,0,none⟩) 1 1) 1 (ptRow [x]) (.slice none 0 0) 0 []:=by
 have hlt:=zL hrs.h;have hX:((w2.alloc (.cells #[.string (bs [x.1.nm]),.int .i64 x.1.q0,.int .i64 x.1.P,.int .i64 x.1.q1,.int .i64 x.1.O,.int .i64 x.2,.int .i64 x.1.C,.int .i64 x.1.q3,.int .i64 x.1.D,.int .i64 x.1.q4] 172)).alloc (.cells #[.slice (some ⟨w2.heap.size,0,none⟩) 1 1,.slice none 0 0] 84)).heap[w2.heap.size+1]? =some (.cells #[.slice (some ⟨w2.heap.size,0,none⟩) 1 1,.slice none 0 0] 84 (0,0)):=by
  simpa using zW (w2.alloc (.cells #[.string (bs [x.1.nm]),.int .i64 x.1.q0,.int .i64 x.1.P,.int .i64 x.1.q1,.int .i64 x.1.O,.int .i64 x.2,.int .i64 x.1.C,.int .i64 x.1.q3,.int .i64 x.1.D,.int .i64 x.1.q4] 172)) #[.slice (some ⟨w2.heap.size,0,none⟩) 1 1,.slice none 0 0] 84
 refine⟨(hrs.alloc _).alloc _,hX,?_,?_,World.ownsRow_nil _ _ _ _,grownBy_alloc' (grownBy_alloc' hgw _) _,h1,by omega,by simp,by simp[Value.ownBlock],by simp[Value.ownBlock],by simp[Value.ownBlock]⟩
 .rw[Below.heap_alloc _ _ _ (by simp;omega),Below.heap_alloc _ _ _ (by omega)];exact hY2
 .exact(World.ownsRow_lit (base:=b+1) (size:=10) w2 #[.string (bs [x.1.nm]),.int .i64 x.1.q0,.int .i64 x.1.P,.int .i64 x.1.q1,.int .i64 x.1.O,.int .i64 x.2,.int .i64 x.1.C,.int .i64 x.1.q3,.int .i64 x.1.D,.int .i64 x.1.q4] 1 (by omega) (by decide) rfl).alloc _
theorem parseSet_any (s:ByteArray)(w:World)(hs:s.size<=400):
  Calls Tryz.prog 83 #[.string s] w (ParseOut s w):=by
 obtain⟨it,hti,htz0,htz1,htz2⟩:=info_parts Tryz.infoPTask;obtain⟨ip,hpi,hpz0,hpz1,hpz2⟩:=info_parts Tryz.infoPPair;go_enter Tryz.func83,Tryz.ntmps83;go_wp2_with fail;refine(newReader_any 2 _ rfl s _ (by omega)).mono ?_;rintro e w1 ⟨hb,hcase⟩;have hbw:Below w.heap.size w w1:=(zN w _).trans (hb.mono (by simp));have hY:=blk_kept (zW w _ _) hb;have hsz:=hb.size;simp only[World.size_alloc]at hsz hcase;rcases hcase with⟨h1,rfl⟩|⟨h1,rfl⟩
 .refine⟨rfl,hbw,.inl ⟨0,?_,rfl⟩⟩;obtain⟨x1,x2,x3,x4,x5⟩:=x_no h1;unfold pSet pFirst;rw[x1];rfl
 go_wp2_with fail;refine(takeTask_any h1).mono ?_;rintro e w2 hG;rcases bad_or_good (zT s.data.toList) (pTaskR (zT s.data.toList) 0) with⟨j,hbad⟩|⟨t,j,hgood⟩
 .obtain⟨rfl,hg⟩:=gout_bad hG hbad;have hbel:=below_grown (grownBy_new (grown_below hbw) hg (by omega));obtain⟨k,hk,hat⟩:=first_bad hbad;exact⟨rfl,hbel,.inl ⟨k,hk,by rw[hat];rfl⟩⟩
 obtain⟨v,rfl,⟨z,rfl,hz⟩,hrs,hg⟩:=gout_good hG hgood;have hP:=hide (taskP_first hgood.1);have hZ:Hid (ZOk [(t,z)]):=by
  intro x hx;simp at hx;subst hx;exact hz
 have hgw:=grownBy_new (grown_below hbw) hg (by omega);have hY2:w2.heap[w.heap.size]? =some (.cells #[.slice none 0 0,.slice none 0 0] 84 (0,0)):=by
  rw[hg.block _ (zL hY) (by simp)];exact hY
 have hsz2:=hg.size;clear hG hgood hbw hY h1 hb hz;have Q0:=hide (qw_start hrs (by omega) hgw hY2 (t,z));clear hg hgw hY2 hrs;obtain⟨b,hbb⟩:∃b,b=w.heap.size+1:=⟨_,rfl⟩;rw[←hbb]at Q0;unfold ptRaw;go_wp2_with fail;simp only[←hbb];have Hbb:=hide hbb;clear hbb
 go_loopw [11] (fun _ wr=>∃(i:Nat) (l:List (Tk×Nat)) (tv:Value),QW w wr b (w2.heap.size+1) s i tv l.length (ptRow l) (.slice none 0 0) 0 []/\TaskP (zT s.data.toList) i (l.map Prod.fst)/\ZOk l) (fun _ wr=>7-lenOf (wr.cell? ⟨w2.heap.size+1,0,none⟩))
 case atStart=>exact⟨j,[(t,z)],_,Q0.out,hP.out,hZ.out⟩
 case round=>
  clear Q0 hP hZ hsz hsz2;generalize w2.heap.size+1=X at *;obtain⟨i,l,tv,Q,hP,hZ⟩:=hrel;have hn1:=hP.1;have hn6:=hP.2.1;simp only[List.length_map]at hn1 hn6;obtain⟨g0,c0,rfl,hg1,hg2⟩:=own_form Q.ot (by omega);have HL:Hid (lenOf (wr.cell? ⟨X,0,none⟩)=l.length):=by
   unfold Hid;rw[Q.cells.1];rfl
  have HP:=hide hP;have HZ:=hide hZ;obtain⟨x1,x2,x3,x4,x5⟩:=Q.cells;have hst:=s_task s.data.toList i;unfold seesP at hst;have Hst:=hide hst;have HQ:=hide Q;clear hP hZ hst hg1 hg2;go_wp2_with fail;refine(sees_any Q.rs wTask).mono ?_;clear Q;rintro e w' ⟨rfl,rfl⟩;rw[Hst.out];clear Hst;by_cases hm:l.length<6/\sees (tk (zT s.data.toList) i) wTask=true
  .obtain⟨h6,hsee⟩:=hm;rw[hsee];have h6':(l.length:Int)<6:=by omega
   have hmore:=hide (taskP_more HP.out (by simpa using h6) hsee);clear hsee;go_wp2_with fail;rcases bad_or_good (zT s.data.toList) (pTaskR (zT s.data.toList) i) with⟨k,hbad⟩|⟨t1,k,hgood⟩
   .have hbb:=hide hbad;clear hbad
    go_region_dies
    all_goals
     refine(takeTask_bad HQ.out.drew.rs hbb.out).mono ?_;rintro e w9 ⟨rfl,hg⟩;exact⟨rfl,below_grown (grownBy_new HQ.out.drew.g hg (by have:=HQ.out.h1;omega)),.inl ⟨k,hmore.out.2 k hbb.out,rfl⟩⟩
   .have hgg:=hide hgood;clear hgood;have hmo:=hide (hmore.out.1 t1 k hgg.out.1);clear hmore;have hlb:=HQ.out.h1;have hlX:=HQ.out.h2
    go_region_law (first|(refine step_append_own rfl (.tmp 20) (.tmp 23) 81 rfl (b+1) 172 it _ 10 88 Tryz.underlying81 hti htz0 htz1 htz2 rfl (by decide) _ _ _ rfl (ot9.alloc _) ⟨w9.heap.size,0,none⟩ 1 1 (ptC (t1,z1)) rfl rfl (cells_new w9 #[_,_,_,_,_,_,_,_,_,_] _ _ rfl) (by simp[ptC,Value.oneCell']) (by unfold maxLen;omega) (by omega) (by simp;omega) ?_;intro v' w10 hown10 hgr;obtain⟨g',cap',rfl,_,_⟩:=own_form hown10 (by omega);have Q10:=HQ9.out.pushT hgr hown10;have u0:=HQ9.out.grow hgr (.inl rfl);have u1:=zC u0.2.1 0;have u2:=zF u0.2.1 0;have HQ10:=hide Q10;clear Q10 u0 hown10 hgr)|(go_simp;go_at_call 120;refine(takeTask_good HQ.out.drew.rs hgg.out).mono ?_;rintro e w9 ⟨z1,rfl,hz1,hrs9,hg9⟩;have Q9:=HQ.out.drew.call hrs9 hg9;obtain⟨y1,y2,y3,y4,y5⟩:=Q9.cells;have HQ9:=hide Q9;have ot9:=Q9.ot;have hl9:=Q9.h3;clear Q9 hrs9 hg9;unfold ptRaw))
    all_goals
     go_wp2;go_roundw
     case rel=>exact⟨k,l++[(t1,z1)],_,by rw[List.length_append];show QW _ _ _ _ _ _ _ (l.length+1) _ _ _ _;unfold ptRow;rw[List.flatMap_append];simpa [ptRow] using HQ10.out,by rw[List.map_append];exact hmo.out,zok_snoc HZ.out hz1⟩
     case measure=>rw[HL.out,HQ10.out.cells.1];show 7-(l.length+1)<7-l.length;omega
  .have hexit:=hide (taskP_done HP.out (by simpa using hm));have hcs:sees (tk (zT s.data.toList) i) wTask=false\/(sees (tk (zT s.data.toList) i) wTask=true/\¬(l.length:Int)<6):=by
    cases hq:sees (tk (zT s.data.toList) i) wTask
    .exact .inl rfl
    .right;refine⟨rfl,?_⟩;intro h;exact hm ⟨by omega,hq⟩
   clear hm;rcases hcs with hcs|⟨hcs,h6'⟩
   all_goals
    rw[hcs];clear hcs;go_wp2_with fail;clear x1 x2 x3 x4 x5
    try clear h6'
    go_loopw [26] (fun _ wr=>∃(i:Nat) (ps:List Pr) (pv:Value),QW w wr b X s i (.slice (some ⟨g0,0,none⟩) l.length c0) l.length (ptRow l) pv ps.length (ppRow ps)/\PairP (zT s.data.toList) i (l.map Prod.fst) ps) (fun _ wr=>7-lenOf (wr.cell? ⟨X,1,none⟩))
    case atStart=>exact⟨i,[],_,HQ.out,pairP_start hexit.out⟩
    case round=>
     clear HQ hexit HL HP;obtain⟨i,ps,pv,Q,hP⟩:=hrel;have hm6:=hP.1;obtain⟨pa,pc,rfl⟩:=own_slice Q.op;have HL:Hid (lenOf (wr.cell? ⟨X,1,none⟩)=ps.length):=by
      unfold Hid;rw[Q.cells.2.1];rfl
     have HP:=hide hP;obtain⟨x1,x2,x3,x4,x5⟩:=Q.cells;have HQ:=hide Q;clear hP;go_wp2_with fail;refine(seesPair_any Q.rs).mono ?_;clear Q;rintro e w' ⟨rfl,rfl⟩;rw[s_before,s_apart];by_cases hm:(sees (tk (zT s.data.toList) i) wBefore||sees (tk (zT s.data.toList) i) wApart)=true/\ps.length<6
     .obtain⟨hsee,h6⟩:=hm;have h6':(ps.length:Int)<6:=by omega
      have hmore:=hide (pairP_more HP.out h6 hsee);have Hsee:=hide hsee;rw[hsee];clear hsee;go_wp2_with fail;rcases bad_or_good (zT s.data.toList) (pPairR (zT s.data.toList) i) with⟨k,hbad⟩|⟨p1,k,hgood⟩
      .have hbb:=hide hbad;clear hbad
       go_region_dies
       all_goals
        refine(takePair_bad HQ.out.drew.rs Hsee.out hbb.out).mono ?_;rintro e w9 ⟨rfl,hg⟩;exact⟨rfl,below_grown (grownBy_new HQ.out.drew.g hg (by have:=HQ.out.h1;omega)),.inl ⟨k,hmore.out.2 k hbb.out,rfl⟩⟩
      .have hgg:=hide hgood;clear hgood;have hmo:=hide (hmore.out.1 p1 k hgg.out.1);clear hmore;have hlb:=HQ.out.h1;have hlX:=HQ.out.h2
       go_region_law (first|(refine step_append_own rfl (.tmp 35) (.tmp 38) 82 rfl (b+1) 175 ip _ 5 64 Tryz.underlying82 hpi hpz0 hpz1 hpz2 rfl (by decide) _ _ _ rfl (op9.alloc _) ⟨w9.heap.size,0,none⟩ 1 1 (ppC p1) rfl rfl (cells_new w9 #[_,_,_,_,_] _ _ rfl) (by simp[ppC,Value.oneCell']) (by unfold maxLen;omega) (by omega) (by simp;omega) ?_;intro v' w10 hown10 hgr;obtain⟨g',cap',rfl,_,_⟩:=own_form hown10 (by omega);have Q10:=HQ9.out.pushP hgr hown10;have u0:=HQ9.out.grow hgr (.inr rfl);have u1:=zC u0.2.1 1;have u2:=zF u0.2.1 1;have HQ10:=hide Q10;clear Q10 u0 hown10 hgr)|(go_simp;go_at_call 123;refine(takePair_good HQ.out.drew.rs Hsee.out hgg.out).mono ?_;rintro e w9 ⟨rfl,hrs9,hg9⟩;have Q9:=HQ.out.drew.call hrs9 hg9;obtain⟨y1,y2,y3,y4,y5⟩:=Q9.cells;have HQ9:=hide Q9;have op9:=Q9.op;have hl9:=Q9.h3;clear Q9 hrs9 hg9;unfold ppRaw))
       all_goals
        go_wp2;go_roundw
        case rel=>exact⟨k,ps++[p1],_,by rw[List.length_append];show QW _ _ _ _ _ _ _ _ _ _ (ps.length+1) _;unfold ppRow;rw[List.flatMap_append];simpa [ppRow] using HQ10.out,hmo.out⟩
        case measure=>rw[HL.out,HQ10.out.cells.2.1];show 7-(ps.length+1)<7-ps.length;omega
     .have hexit:=hide (pairP_done HP.out (by simpa using hm));have hcs:(sees (tk (zT s.data.toList) i) wBefore||sees (tk (zT s.data.toList) i) wApart)=false\/((sees (tk (zT s.data.toList) i) wBefore||sees (tk (zT s.data.toList) i) wApart)=true/\¬(ps.length:Int)<6):=by
       cases hq:(sees (tk (zT s.data.toList) i) wBefore||sees (tk (zT s.data.toList) i) wApart)
       .exact .inl rfl
       .right;refine⟨rfl,?_⟩;intro h;exact hm ⟨hq,by omega⟩
      clear hm;rcases hcs with hcs|⟨hcs,h6'⟩
      all_goals
       rw[hcs];clear hcs;go_wp2_with fail;refine(takeEnd_any HQ.out.rs).mono ?_;rintro e w' hcase;rcases hcase with⟨hk,rfl,hg⟩|⟨hk,rfl,rfl⟩
       .exact⟨rfl,below_grown (zR HQ.out.g hg),.inl ⟨i,hexit.out.2 hk,rfl⟩⟩
       .have hset:=hide (hexit.out.1 hk);clear hk hexit;have hh1:=HQ.out.h1;have hh2:=HQ.out.h2;have hne1:¬w.heap.size=X:=by omega
        have hne2:¬X=w.heap.size:=by omega
        go_wp2;refine bodyPost_ret (v:=.agg #[.slice (some ⟨g0,0,none⟩) l.length c0,.slice pa ps.length pc]) (by simp[results,Tryz.results83,go_sem,x4]) rfl ⟨?_,.inr ⟨l,ps,_,_,hset.out,HZ.out,rfl,?_,?_⟩⟩
        .exact below_grown (zG (zG HQ.out.g (Nat.le_refl _) _ _) (Nat.le_refl _) _ _)
        .exact own_weak (ownsRow_setCell_below (ownsRow_setCell_below HQ.out.ot (by show w.heap.size<b+1;omega) _) (by show w.heap.size<b+1;omega) _) (by omega)
        .exact own_weak (ownsRow_setCell_below (ownsRow_setCell_below HQ.out.op (by show w.heap.size<b+1;omega) _) (by show w.heap.size<b+1;omega) _) (by omega)
def lk (l:List (Tk×Nat)) (k:Nat):Tk×Nat:=l.getD k (⟨0,0,0,0,0,0,0,0,0,0⟩,0)
def RowPT (w:World) (g:Nat) (l:List (Tk×Nat)):Prop:=∀k,k<l.length->
 w.cell? ⟨g,k*10,none⟩=some (.string (bs [(lk l k).1.nm]))/\w.cell? ⟨g,k*10+1,none⟩=some (.int .i64 (lk l k).1.q0)/\w.cell? ⟨g,k*10+2,none⟩=some (.int .i64 (lk l k).1.P)/\
 w.cell? ⟨g,k*10+3,none⟩=some (.int .i64 (lk l k).1.q1)/\w.cell? ⟨g,k*10+4,none⟩=some (.int .i64 (lk l k).1.O)/\w.cell? ⟨g,k*10+5,none⟩=some (.int .i64 (lk l k).2)/\
 w.cell? ⟨g,k*10+6,none⟩=some (.int .i64 (lk l k).1.C)/\w.cell? ⟨g,k*10+7,none⟩=some (.int .i64 (lk l k).1.q3)/\w.cell? ⟨g,k*10+8,none⟩=some (.int .i64 (lk l k).1.D)/\w.cell? ⟨g,k*10+9,none⟩=some (.int .i64 (lk l k).1.q4)
def RowPP (w:World) (g:Nat) (ps:List Pr):Prop:=∀k,k<ps.length->
 w.cell? ⟨g,k*5,none⟩=some (.string (bs (if (psk ps k).ap then [97,112,97,114,116] else [98,101,102,111,114,101])))/\w.cell? ⟨g,k*5+1,none⟩=some (.string (bs [(psk ps k).a]))/\w.cell? ⟨g,k*5+2,none⟩=some (.int .i64 (psk ps k).q0)/\
 w.cell? ⟨g,k*5+3,none⟩=some (.string (bs [(psk ps k).b]))/\w.cell? ⟨g,k*5+4,none⟩=some (.int .i64 (psk ps k).q1)
theorem ptRow_get (T:List (Tk×Nat)):∀(j:Nat),j<T.length->∀o,o<10->(ptRow T)[j*10+o]? =(ptC (lk T j))[o]? := by
 induction T with
 | nil=>intro j h;simp at h
 | cons t r ih=>
  intro j hj o ho;have e:ptRow (t::r)=ptC t++ptRow r:=rfl;have el:(ptC t).length=10:=rfl
  cases j with
  | zero=>rw[e,List.getElem?_append_left (by omega)];simp[lk]
  | succ j=>
   have:=ih j (by simpa using hj) o ho;rw[e,List.getElem?_append_right (by omega),el,show (j+1)*10+o-10=j*10+o by omega,this];simp[lk]
theorem ppRow_get (T:List Pr):∀(j:Nat),j<T.length->∀o,o<5->(ppRow T)[j*5+o]? =(ppC (psk T j))[o]? := by
 induction T with
 | nil=>intro j h;simp at h
 | cons t r ih=>
  intro j hj o ho;have e:ppRow (t::r)=ppC t++ppRow r:=rfl;have el:(ppC t).length=5:=rfl
  cases j with
  | zero=>rw[e,List.getElem?_append_left (by omega)];simp[psk]
  | succ j=>
   have:=ih j (by simpa using hj) o ho;rw[e,List.getElem?_append_right (by omega),el,show (j+1)*5+o-5=j*5+o by omega,this];simp[psk]
theorem rowPT_own {w:World}{base g cap:Nat}{l:List (Tk×Nat)}(h:w.ownsRow base 172 10 (.slice (some ⟨g,0,none⟩) l.length cap) l.length (ptRow l)):RowPT w g l:=by
 intro k hk;have e:∀o,o<10->w.cell? ⟨g,k*10+o,none⟩=(ptC (lk l k))[o]? := fun o ho=>by rw[h.cellAt _ (by omega)];exact ptRow_get l k hk o ho
 have e0:=e 0 (by omega);simp only[Nat.add_zero]at e0;rw[e0,e 1 (by omega),e 2 (by omega),e 3 (by omega),e 4 (by omega),e 5 (by omega),e 6 (by omega),e 7 (by omega),e 8 (by omega),e 9 (by omega)];exact⟨rfl,rfl,rfl,rfl,rfl,rfl,rfl,rfl,rfl,rfl⟩
theorem rowPP_own {w:World}{base g cap:Nat}{ps:List Pr}(h:w.ownsRow base 175 5 (.slice (some ⟨g,0,none⟩) ps.length cap) ps.length (ppRow ps)):RowPP w g ps:=by
 intro k hk;have e:∀o,o<5->w.cell? ⟨g,k*5+o,none⟩=(ppC (psk ps k))[o]? := fun o ho=>by rw[h.cellAt _ (by omega)];exact ppRow_get ps k hk o ho
 have e0:=e 0 (by omega);simp only[Nat.add_zero]at e0;rw[e0,e 1 (by omega),e 2 (by omega),e 3 (by omega),e 4 (by omega)];exact⟨rfl,rfl,rfl,rfl,rfl⟩
theorem RowPT.below {w w':World}{g B:Nat}{ts:List (Tk×Nat)}(h:RowPT w g ts)(hb:Below B w w')(hg:g<B):RowPT w' g ts:=by
 intro k hk;have e:∀o,w'.cell? ⟨g,o,none⟩=w.cell? ⟨g,o,none⟩:=fun o=>hb.cell (p:=⟨g,o,none⟩) hg;rw[e,e,e,e,e,e,e,e,e,e];exact h k hk
theorem RowPP.below {w w':World}{g B:Nat}{ps:List Pr}(h:RowPP w g ps)(hb:Below B w w')(hg:g<B):RowPP w' g ps:=by
 intro k hk;have e:∀o,w'.cell? ⟨g,o,none⟩=w.cell? ⟨g,o,none⟩:=fun o=>hb.cell (p:=⟨g,o,none⟩) hg;rw[e,e,e,e,e];exact h k hk
def findL (l:List (Tk×Nat)) (c:UInt8):Nat->Nat->Int
 | 0,_=>-1
 | f+1,k=>if (lk l k).1.nm=c then k else findL l c f (k+1)
theorem bs_one_eq (a c:UInt8):((bs [a]).toList==(bs [c]).toList)=decide (a=c):=by
 rw[ByteArray.toList_eq,ByteArray.toList_eq,bs_data,bs_data];by_cases h:a=c<;>simp[h]
theorem findTask_any (l:List (Tk×Nat))(g m cap:Nat)(c:UInt8)(q:Nat)(w:World)(hg:g<w.heap.size)(hr:RowPT w g l)(hm:m<=l.length)(hn:l.length<=6):
  Calls Tryz.prog 125 #[.slice (some ⟨g,0,none⟩) m cap,.agg #[.string (bs [c]),.int .i64 q]] w fun e w'=>e=.returned (.int .i64 (findL l c m 0))/\Below w.heap.size w w':=by
 have hX:=hide (zW w #[.string (bs [c]),.int .i64 q] 170);have Hb:=hide (zN w (.cells #[.string (bs [c]),.int .i64 q] 170));have Hr:=hide hr;clear hr;go_enter Tryz.func125,Tryz.ntmps125;go_wp2
 go_loopw [9] (fun i wr=>∃k:Nat,k<=m/\i=.int .i64 k/\Hid (findL l c m 0=findL l c (m-k) k)/\wr.heap[w.heap.size]? =some (.cells #[.string (bs [c]),.int .i64 q] 170 (0,0))/\Below w.heap.size w wr) (fun i _=>m-(intOf i).toNat)
 case atStart=>exact⟨0,by omega,rfl,rfl,hX.out,Hb.out⟩
 case round=>
  clear hX Hb;obtain⟨k,hk,rfl,hf,hx,hb⟩:=hrel;have xc:=zC hx;have hxl:=zL hx;have Hx:=hide hx;have Hb:=hide hb;clear hx hb;by_cases hlt:k<m
  .obtain⟨r0,r1,r2,r3,r4,r5,r6,r7,r8,r9⟩:=Hr.out.below Hb.out hg k (by omega);have hgw:g<wr.heap.size:=by omega
   have hfs:findL l c (m-k) k=if (lk l k).1.nm=c then (k:Int) else findL l c (m-(k+1)) (k+1):=by
    rw[show m-k=(m-(k+1))+1 by omega,findL]
   have Hfs:=hide hfs;clear hfs;by_cases hc:(lk l k).1.nm=c
   .have hbq:((bs [(lk l k).1.nm]).toList==(bs [c]).toList)=true:=by rw[bs_one_eq];simpa using hc
    have Hc:=hide hc;clear hc;generalize lk l k=x at *;go_wp2;go_ret;refine⟨ret_int ?_,Hb.out.alloc (by omega) _⟩;rw[hf.out,Hfs.out,if_pos Hc.out]
   .have hbq:((bs [(lk l k).1.nm]).toList==(bs [c]).toList)=false:=by rw[bs_one_eq];simpa using hc
    have Hc:=hide hc;clear hc;generalize lk l k=x at *;go_wp2;go_roundw
    case rel=>exact⟨k+1,by omega,by go_num,by unfold Hid;rw[hf.out,Hfs.out,if_neg Hc.out],by rw[Below.heap_alloc _ _ _ hxl];exact Hx.out,Hb.out.alloc (by omega) _⟩
    case measure=>simp[intOf];omega
  .go_wp2;go_ret;refine⟨ret_int ?_,Hb.out⟩;rw[hf.out,show m-k=0 by omega,findL]
def LieOut (v q:Nat) (lo hi:Int) (w:World) (e:Ending) (w':World):Prop:=
 Below w.heap.size w w'/\((((v:Int)<lo\/hi<v)/\e=pan 4 q)\/((lo<=(v:Int)/\(v:Int)<=hi)/\e=.returned (.tuple #[])))
theorem mustLie_any (v q:Nat)(lo hi:Int)(w:World):
  Calls Tryz.prog 151 #[.agg #[.int .i64 v,.int .i64 q],.int .i64 lo,.int .i64 hi] w (LieOut v q lo hi w):=by
 by_cases h1:(v:Int)<lo
 .go_enter Tryz.func151,Tryz.ntmps151;go_wp2_with fail;refine(refuse_any 4 q _ rfl _).mono ?_;rintro e w' ⟨rfl,rfl⟩;exact⟨rfl,zN _ _,.inl ⟨.inl h1,rfl⟩⟩
 .by_cases h2:hi<(v:Int)
  .go_enter Tryz.func151,Tryz.ntmps151;go_wp2_with fail;refine(refuse_any 4 q _ rfl _).mono ?_;rintro e w' ⟨rfl,rfl⟩;exact⟨rfl,zN _ _,.inl ⟨.inr h2,rfl⟩⟩
  .go_enter Tryz.func151,Tryz.ntmps151;go_wp2
   go_end0
   exact⟨zN _ _,.inr ⟨⟨by omega,by omega⟩,rfl⟩⟩
theorem pgcd_any (a b:Nat)(w:World)(ha:a<=100000)(hb:b<=100000):
  Calls Tryz.prog 171 #[.int .i64 a,.int .i64 b] w fun e w'=>e=.returned (.int .i64 (Nat.gcd a b))/\Below w.heap.size w w':=by
 go_enter Tryz.func171,Tryz.ntmps171;go_wp2
 go_loopw [0,1] (fun p q wr=>∃x y:Nat,x<=100000/\y<=100000/\p=.int .i64 x/\q=.int .i64 y/\Hid (Nat.gcd a b=Nat.gcd x y)/\Below w.heap.size w wr) (fun _ q _=>(intOf q).toNat)
 case atStart=>exact⟨a,b,ha,hb,rfl,rfl,rfl,Below.refl _ _⟩
 case round=>
  obtain⟨x,y,hx,hy,rfl,rfl,hg,hbw⟩:=hrel;have Hbw:=hide hbw;clear hbw;by_cases h0:y=0
  .have h0':((y:Int) != 0)=false:=by simp;omega
   have H0:=hide h0;clear h0;go_wp2;go_ret;refine⟨ret_int ?_,Hbw.out⟩;rw[hg.out,H0.out,Nat.gcd_zero_right]
  .have h0':((y:Int) != 0)=true:=by rw[bne_iff_ne];omega
   have h0'':¬(y:Int)=0:=by omega
   have hlt:x%y<y:=Nat.mod_lt _ (by omega);have Hlt:=hide hlt;have Hg:Hid (Nat.gcd x y=Nat.gcd y (x%y)):=by unfold Hid;rw[Nat.gcd_comm x y,Nat.gcd_rec y x,Nat.gcd_comm]
   clear h0 hlt;go_wp2
   go_quiet (fail)
   go_wp2;refine⟨⟨y,x%y,hy,by have:=Hlt.out;omega,rfl,by go_num,by unfold Hid;rw[hg.out,Hg.out],below_drewN Hbw.out _⟩,?_⟩;have:=Hlt.out;simp only[intOf];omega
def ptA (x:Tk×Nat):Array Value:=#[.string (bs [x.1.nm]),.int .i64 x.1.q0,.int .i64 x.1.P,.int .i64 x.1.q1,.int .i64 x.1.O,.int .i64 x.2,.int .i64 x.1.C,.int .i64 x.1.q3,.int .i64 x.1.D,.int .i64 x.1.q4]
theorem ptA_cells {w:World}{X:Nat}{x:Tk×Nat}{ty:TypeId}(h:w.heap[X]? =some (.cells (ptA x) ty (0,0))):
  w.cell? ⟨X,0,none⟩=some (.string (bs [x.1.nm]))/\w.cell? ⟨X,1,none⟩=some (.int .i64 x.1.q0)/\w.cell? ⟨X,2,none⟩=some (.int .i64 x.1.P)/\w.cell? ⟨X,3,none⟩=some (.int .i64 x.1.q1)/\w.cell? ⟨X,4,none⟩=some (.int .i64 x.1.O)/\
  w.cell? ⟨X,5,none⟩=some (.int .i64 x.2)/\w.cell? ⟨X,6,none⟩=some (.int .i64 x.1.C)/\w.cell? ⟨X,7,none⟩=some (.int .i64 x.1.q3)/\w.cell? ⟨X,8,none⟩=some (.int .i64 x.1.D)/\w.cell? ⟨X,9,none⟩=some (.int .i64 x.1.q4):=by
 simp only[zC h];exact⟨rfl,rfl,rfl,rfl,rfl,rfl,rfl,rfl,rfl,rfl⟩
def TimesOut (t:Tk) (w:World) (e:Ending) (w':World):Prop:=
 Below w.heap.size w w'/\((0<=timedI t/\e=pan 4 (timedI t).toNat)\/(timedI t<0/\e=.returned (.tuple #[])))
theorem checkTimes_any (x:Tk×Nat)(w:World)(hs:x.1.small)(hz:x.2=x.1.q2\/x.1.O=0):
  Calls Tryz.prog 126 #[.agg (ptA x)] w (TimesOut x.1 w):=by
 obtain⟨s1,s2,s3,s4⟩:=hs;have hT:Hid (timedI x.1=if x.1.P<1\/60<x.1.P then (x.1.q1:Int)
  else if x.1.P<=x.1.O then x.1.q2
  else if x.1.C<1\/(x.1.P:Int)-x.1.O<x.1.C then x.1.q3
  else if x.1.D<x.1.C\/(x.1.P:Int)-x.1.O<x.1.D then x.1.q4
  else -1):=rfl
 have hX:=zW w (ptA x) 172;have hb0:=zN w (.cells (ptA x) 172);have HX:=hide hX;have HB:=hide hb0;have Hz:=hide hz;clear hX hb0 hz;have hptA:ptA x=#[.string (bs [x.1.nm]),.int .i64 x.1.q0,.int .i64 x.1.P,.int .i64 x.1.q1,.int .i64 x.1.O,.int .i64 x.2,.int .i64 x.1.C,.int .i64 x.1.q3,.int .i64 x.1.D,.int .i64 x.1.q4]:=rfl;rw[hptA];clear hptA;go_enter Tryz.func126,Tryz.ntmps126;go_wp2_with fail;refine(mustLie_any x.1.P x.1.q1 _ _ _).mono ?_;rintro e w1 ⟨hb,hcase⟩;have hB1:=HB.out.trans (hb.mono (by simp));have hX1:=zK HX.out hb;rcases hcase with⟨h1,rfl⟩|⟨h1,rfl⟩
 .refine⟨rfl,hB1,.inl ?_⟩;rw[hT.out,if_pos (by omega)];exact⟨by omega,by simp;rfl⟩
 have H1:=hide h1;have HX1:=hide hX1;have HB1:=hide hB1;obtain⟨c0,c1,c2,c3,c4,c5,c6,c7,c8,c9⟩:=ptA_cells hX1;clear hb hB1 hX1 h1 HX HB;go_wp2_with fail;refine(mustLie_any x.1.O x.2 _ _ _).mono ?_;rintro e w2 ⟨hb,hcase⟩;have hB2:=HB1.out.trans (hb.mono HB1.out.size);have hX2:=zK HX1.out hb;rcases hcase with⟨h1,rfl⟩|⟨h1,rfl⟩
 .have g1:=H1.out;refine⟨rfl,hB2,.inl ?_⟩;rw[hT.out,if_neg (by omega),if_pos (by omega)];have hq:x.2=x.1.q2:=by
   rcases Hz.out with h|h
   .exact h
   .omega
  exact⟨by omega,by rw[hq];simp;rfl⟩
 have H2:=hide h1;have HX2:=hide hX2;have HB2:=hide hB2;clear c0 c1 c2 c3 c4 c5 c6 c7 c8 c9;obtain⟨c0,c1,c2,c3,c4,c5,c6,c7,c8,c9⟩:=ptA_cells hX2;clear hb hB2 hX2 h1 HX1 HB1;go_wp2_with fail;refine(mustLie_any x.1.C x.1.q3 _ _ _).mono ?_;rintro e w3 ⟨hb,hcase⟩;have hB3:=HB2.out.trans (hb.mono HB2.out.size);have hX3:=zK HX2.out hb;rcases hcase with⟨h1,rfl⟩|⟨h1,rfl⟩
 .have g1:=H1.out;have g2:=H2.out;refine⟨rfl,hB3,.inl ?_⟩;rw[hT.out,if_neg (by omega),if_neg (by omega),if_pos (by omega)];exact⟨by omega,by simp;rfl⟩
 have H3:=hide h1;have HX3:=hide hX3;have HB3:=hide hB3;clear c0 c1 c2 c3 c4 c5 c6 c7 c8 c9;obtain⟨c0,c1,c2,c3,c4,c5,c6,c7,c8,c9⟩:=ptA_cells hX3;clear hb hB3 hX3 h1 HX2 HB2;go_wp2_with fail;refine(mustLie_any x.1.D x.1.q4 _ _ _).mono ?_;rintro e w4 ⟨hb,hcase⟩;have hB4:=HB3.out.trans (hb.mono HB3.out.size);have g1:=H1.out;have g2:=H2.out;have g3:=H3.out;rcases hcase with⟨h1,rfl⟩|⟨h1,rfl⟩
 .refine⟨rfl,hB4,.inl ?_⟩;rw[hT.out,if_neg (by omega),if_neg (by omega),if_neg (by omega),if_pos (by omega)];exact⟨by omega,by simp;rfl⟩
 have hneg:=hide (show timedI x.1<0 by rw[hT.out,if_neg (by omega),if_neg (by omega),if_neg (by omega),if_neg (by omega)];omega);have HB4:=hide hB4;clear hb hB4 g1 g2 g3 h1;go_wp2
 go_end0
 exact⟨HB4.out,.inr ⟨hneg.out,rfl⟩⟩
theorem lcm_any (a b:Nat)(w:World)(ha1:1<=a)(ha:a<=60)(hb:b<=60):
  Calls Tryz.prog 153 #[.int .i64 a,.int .i64 b] w fun e w'=>e=.returned (.int .i64 (a/Nat.gcd a b*b:Nat))/\Below w.heap.size w w':=by
 have hgp:0<Nat.gcd a b:=Nat.gcd_pos_of_pos_left _ (by omega);have hd0:¬((Nat.gcd a b:Nat):Int)=0:=by omega
 have hle:a/Nat.gcd a b<=60:=Nat.le_trans (Nat.div_le_self _ _) ha;obtain⟨L,hL⟩:∃L,L=a/Nat.gcd a b*b:=⟨_,rfl⟩;have hw:wrap64 (wrap64 ((a:Int)/(Nat.gcd a b:Nat))*b)=(L:Int):=by rw[hL];exact lcm_wrap a (Nat.gcd a b) b hle hb
 rw[←hL];clear hL hle hgp;go_enter Tryz.func153,Tryz.ntmps153;go_wp2_with fail;refine(pgcd_any a b _ (by omega) (by omega)).mono ?_;rintro e w1 ⟨rfl,hb1⟩;have Hb:=hide hb1;clear hb1;go_wp2;go_ret;exact⟨ret_int hw,Hb.out⟩
end
end Go.Proofs.YtbdffcjganlblaaGreatDoor
