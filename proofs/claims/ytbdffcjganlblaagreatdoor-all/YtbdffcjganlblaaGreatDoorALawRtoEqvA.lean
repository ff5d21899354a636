import Derived.Test.YtbdffcjganlblaaGreatDoorATbMtoRnH
import Derived.Test.YtbdffcjganlblaaGreatDoorARunFtoLawC
import Derived.ChangeSlices
import Derived.Test.YtbdffcjganlblaaGreatDoorAProgKtoTbH
import Derived.Test.YtbdffcjganlblaaGreatDoorATbKtoGuard
set_option linter.unusedVariables false
set_option linter.unusedSimpArgs false
set_option maxRecDepth 100000
set_option maxHeartbeats 16000000
namespace Go.Proofs.YtbdffcjganlblaaGreatDoor
section
open Go.ChangeShapes Go.WideShapes Go.ChangeAt Go.RowKit Go.Deep
def OpL (w:World) (b off k:Nat):Prop:=∃(K A B C:Int) (s:ByteArray) (la:Option Addr) (lc:Nat) (cs:List Int),w.cell? ⟨b,off+k*6,none⟩=some (.int .i64 K)/\w.cell? ⟨b,off+k*6+1,none⟩=some (.int .i64 A)/\w.cell? ⟨b,off+k*6+2,none⟩=some (.int .i64 B)/\
 w.cell? ⟨b,off+k*6+3,none⟩=some (.int .i64 C)/\w.cell? ⟨b,off+k*6+4,none⟩=some (.string s)/\w.cell? ⟨b,off+k*6+5,none⟩=some (.slice la cs.length lc)/\s.size<=9223372036854775807/\CostsAt w la cs/\cs.length*8<=140737488351232
theorem bytesInt:Tryz.prog.bytesOf 3=8:=by kernel_rfl
theorem weights_all {H:Type}{P:Program}{e:TypeId}{d:DataW H}{n:Nat}:∀ {ds:List (DataW H)},d∈ds->n∈d.weights P e->n∈DataW.weightsAll P e ds
 | [],h,_=>by simp at h
 | x::r,h,hn=>by
  simp only[DataW.weightsAll,List.mem_append];rcases List.mem_cons.1 h with rfl|h
  .exact .inl hn
  .exact .inr (weights_all h hn)
section
variable {H:Type} {enc:TypeId×Value->H} {w:World} {base:Nat} {spare:Nat->Bool} {held:Bool}
theorem opL_of {fuel:Nat}{cs:List Value}{x:DataW H×List MemPlace}{b off k:Nat}(hc:w.cells? base ((⟨b,off,none⟩:Addr).add (k*6)) 6=some cs)(h:DataW.trod enc Tryz.prog w base spare held fuel 27 cs=some x)
  (hz:∀n∈x.1.weights Tryz.prog 27,n<=reachBytes):OpL w b off k:=by
 obtain⟨_,hlen,hcell⟩:=World.cells?_some hc;obtain⟨xs,n,_,hx,_,hxl,hf⟩:=DataW.trod_struct Tryz.underlying27 h
 match cs,hlen with
 | [v0,v1,v2,v3,v4,v5],_=>
  match xs,hxl with
  | [y0,y1,y2,y3,y4,y5],_=>
   have g0:=hf 0 _ rfl;have g1:=hf 1 _ rfl;have g2:=hf 2 _ rfl;have g3:=hf 3 _ rfl;have g4:=hf 4 _ rfl;have g5:=hf 5 _ rfl;simp[cellsInt,cellsStr,cellsSl]at g0 g1 g2 g3 g4 g5;obtain⟨K,e0,_⟩:=DataW.trod_int Tryz.underlying3 g0;obtain⟨A,e1,_⟩:=DataW.trod_int Tryz.underlying3 g1;obtain⟨B,e2,_⟩:=DataW.trod_int Tryz.underlying3 g2;obtain⟨C,e3,_⟩:=DataW.trod_int Tryz.underlying3 g3;obtain⟨s,e4,_,hs⟩:=DataW.trod_string Tryz.underlying9 g4;obtain⟨la,lc,cs,e5,hca,hcl⟩:∃(la:Option Addr) (lc:Nat) (cs:List Int),v5=.slice la cs.length lc/\CostsAt w la cs/\cs.length*8<=140737488351232:=by
    rcases open_ints Tryz.underlying25 Tryz.underlying3 cellsInt g5 with⟨hv,_⟩|⟨a,len,cap,zs,hv,_,hl,hm,hzl,hy5,hcells,_⟩
    .exact⟨none,0,[],by simpa using hv,.inl rfl,by simp⟩
    .have hle:len<=zs.length:=by rw[hzl];split<;>omega
     have hcl:(zs.take len).length=len:=by simp;omega
     have hw:(zs.length)*8<=reachBytes:=by
      apply hz;rw[hx];simp only[DataW.weights,Tryz.underlying27];refine DataW.weights_mem_each (j:=5) (t:=25) (d:=y5.1) rfl rfl _ ?_;rw[hy5];simp only[DataW.weights,Tryz.underlying25,bytesInt,lits,List.length_map,List.length_take,List.length_drop];rw[show min len zs.length+(zs.length-len)=zs.length by omega];exact List.mem_cons_self
     refine⟨some a,cap,zs.take len,by rw[hcl];simpa using hv,?_,by rw[hcl];unfold reachBytes at hw;omega⟩;by_cases h0:len=0
     .left;rw[h0];simp
     .right;obtain⟨ab,ao,sp⟩:=a;have c0:=hcells 0 (by omega);have hspot:sp=none:=by simpa [Addr.add] using World.cell?_spot c0
      subst hspot;have cc:∀j v,w.cell? ((⟨ab,ao,none⟩:Addr).add j)=some v->w.cell? ⟨ab,ao+j,none⟩=some v:=by
       intro j v hv;unfold Addr.add at hv;by_cases h0:j=0
       .rw[if_pos h0]at hv;rw[h0];exact hv
       .rw[if_neg h0]at hv;exact hv
      refine⟨ab,ao,rfl,lt_of_cell (cc 0 _ c0) rfl,fun i hi=>?_⟩;rw[hcl]at hi;have:=cc i _ (hcells i (by omega));rw[this];simp[List.getD_eq_getElem?_getD,List.getElem?_take,hi]
   simp at e0 e1 e2 e3 e4;subst e0 e1 e2 e3 e4 e5;have cc:∀j v,w.cell? (((⟨b,off,none⟩:Addr).add (k*6)).add j)=some v->w.cell? ⟨b,off+k*6+j,none⟩=some v:=by
    intro j v hv;rw[add_add]at hv;rw[show off+k*6+j=off+(k*6+j) by omega];unfold Addr.add at hv;by_cases h0:k*6+j=0
    .rw[if_pos h0]at hv;rw[h0];exact hv
    .rw[if_neg h0]at hv;exact hv
   refine⟨K,A,B,C,s,la,lc,cs,?_,?_,?_,?_,?_,?_,hs,hca,hcl⟩
   .simpa using cc 0 _ (by simpa using hcell 0 (by omega))
   .exact cc 1 _ (by simpa using hcell 1 (by omega))
   .exact cc 2 _ (by simpa using hcell 2 (by omega))
   .exact cc 3 _ (by simpa using hcell 3 (by omega))
   .exact cc 4 _ (by simpa using hcell 4 (by omega))
   .exact cc 5 _ (by simpa using hcell 5 (by omega))
end
def iV (l:List Int):List Value:=l.map (fun x=>Value.int .i64 x)
structure CL (wa wr:World) (v:Value) (l:List Int):Prop where
 ow:wr.ownsRow wa.heap.size 3 1 v l.length (iV l)
 b:Below wa.heap.size wa wr
theorem CL.start (wa:World):CL wa wa (.slice none 0 0) []:=⟨World.ownsRow_nil _ _ _ _,Below.refl _ _⟩
theorem CL.push {wa wr:World}{v v':Value}{l:List Int}{x:Int}(h:CL wa wr v l){o:Obj}{w2:World}(hg:(wr.alloc o).grownBy w2 v.ownBlock){n:Nat}{xs:List Value}(hown:w2.ownsRow wa.heap.size 3 1 v' n xs)(hn:n=l.length+1)(hxs:xs=iV l++[.int .i64 x]):CL wa w2 v' (l++[x]):=by
 subst hn hxs;refine⟨?_,?_⟩
 .rw[show iV (l++[x])=iV l++[.int .i64 x] by simp[iV],show (l++[x]).length=l.length+1 by simp];exact hown
 .exact(h.b.alloc h.b.size o).grown hg (by have:=h.b.size;simp;omega) (fun k hk=>(h.ow.lt k hk).1)
theorem CL.form {wa wr:World}{v:Value}{l:List Int}(h:CL wa wr v l):∃a c,v=.slice a l.length c/\CostsIn wr a l/\∀k,k<l.length->∃g,a=some ⟨g,0,none⟩/\wr.cell? ⟨g,k,none⟩=some (.int .i64 (l.getD k 0)):=by
 by_cases h0:l.length=0
 .have hl:l=[]:=List.length_eq_zero_iff.1 h0;rcases h.ow.2 with⟨hv,_⟩|⟨g,cap,cur,hv,_,hg,_⟩
  .exact⟨none,0,by rw[hv,h0],⟨.inl hl,fun b off e=>by cases e⟩,fun k hk=>by omega⟩
  .exact⟨some ⟨g,0,none⟩,cap,hv,⟨.inl hl,fun b off e=>by cases e;exact zL hg⟩,fun k hk=>by omega⟩
 .obtain⟨g,cap,hv,_,hg⟩:=own_form h.ow (by omega);have hc:∀k,k<l.length->wr.cell? ⟨g,k,none⟩=some (.int .i64 (l.getD k 0)):=by
   intro k hk;have:=h.ow;rw[hv]at this;rw[this.cellAt k (by omega)];simp[iV,hk,List.getD_eq_getElem?_getD]
  exact⟨_,cap,hv,⟨.inr ⟨g,0,rfl,hg,fun k hk=>by rw[Nat.zero_add];exact hc k hk⟩,fun b off e=>by cases e;exact hg⟩,fun k hk=>⟨g,rfl,hc k hk⟩⟩
end
section
open Go.RowKit
theorem runs_bad (s:ByteArray)(K A B C:Int)(la:Option Addr)(lc:Nat)(cs:List Int)(w:World)(hms:s.size<=9223372036854775807)(ht:T10 w)(hca:CostsAt w la cs)(hcl:cs.length*8<=140737488351232)(hno:¬∃t,TabOk s.data.toList t):
  Calls Tryz.prog 62 #[.agg #[.int .i64 K,.int .i64 A,.int .i64 B,.int .i64 C,.string s,.slice la cs.length lc]] w fun e w'=>e=.returned (.bool true)/\Below w.heap.size w w':=by
 obtain⟨i0,hi,hz0,hz1,hz2⟩:=info_parts Tryz.infoInt;have Hno:=hide hno;have Hca:=hide hca;have HX0:=hide (zW w #[.int .i64 K,.int .i64 A,.int .i64 B,.int .i64 C,.string s,.slice la cs.length lc] 27);have HB0:=hide (zN w (.cells #[.int .i64 K,.int .i64 A,.int .i64 B,.int .i64 C,.string s,.slice la cs.length lc] 27));have HT0:=hide (ht.below HB0.out);clear ht hno hca;go_enter Tryz.func62,Tryz.ntmps62;go_wp2_with fail;refine(write_any s _ hms).mono ?_;rintro e w1 ⟨hb1,hcase⟩;have HX1:=hide (zK HX0.out hb1);have HB1:=hide (HB0.out.trans (hb1.mono (by simp)));have HT1:=hide (HT0.out.below hb1);have x1:=zC HX1.out;clear hb1 HX0 HB0 HT0;rcases hcase with⟨f,⟨hf8,_⟩,rfl⟩|⟨x,⟨t,ht,rfl⟩,rfl⟩
 .rw[hf8];clear hf8;go_wp2_with fail;refine(rReadTable_any s w1 hms HT1.out).mono ?_;rintro e w2 ⟨hb2,hcase⟩;rcases hcase with⟨t,sv,ht,rfl,how⟩|⟨_,c,f,a,n,k,rfl⟩
  .exact absurd ⟨t,ht⟩ Hno.out
  .have hb3:=hb2.alloc hb2.size (.cells #[.int .i64 c,.int .i64 f,.slice a n k] 39);have HX3:=hide (zK HX1.out hb3);have HB3:=hide (HB1.out.trans (hb3.mono HB1.out.size));have x3:=zC HX3.out;have x2:=zC (zK HX1.out hb2);have hnot:∀(x:Bool) (w:World),(Op.unary .not (.bool x)).run Tryz.prog w=.ok (.bool (!x)) w:=fun _ _=>rfl;clear hb2 hb3 HX1 HB1 x1 HT1;go_wp2_with (go_at_call 15;refine(num_any 8 _).mono ?_;rintro e w' ⟨rfl,hw'⟩;replace hw':=hw'.symm;subst hw');generalize w2.alloc (.cells #[.int .i64 c,.int .i64 f,.slice a n k] 39)=w3 at *;refine(read_any s _ hms).mono ?_;rintro e w4 ⟨hb4,hcase⟩;have HXa:=hide (zK HX3.out hb4);have HBa:=hide (HB3.out.trans (hb4.mono HB3.out.size));clear hb4 HX3 HB3 x3 x2;rcases hcase with⟨f,⟨hf8,hnu⟩,rfl⟩|⟨x,_,rfl⟩
   .rw[hf8];clear hf8;have Hnu:=hide hnu;clear hnu;go_wp2_with (go_at_call 15;refine(num_any 8 _).mono ?_;rintro e w' ⟨rfl,hw'⟩;replace hw':=hw'.symm;subst hw');go_wp2_with fail
    go_loopw [9,10] (fun cv i wr=>∃k:Nat,k<=cs.length/\i=.int .i64 k/\CL w4 wr cv (cs.take k)) (fun _ i _=>cs.length-(intOf i).toNat)
    case atStart=>exact⟨0,by omega,rfl,by simpa using CL.start w4⟩
    case round=>
     obtain⟨k,hk,rfl,hC⟩:=hrel;have x:=zC (zK HXa.out hC.b);by_cases hkl:k<cs.length
     .have hkl':(k:Int)<cs.length:=by omega
      obtain⟨lb,lo,rfl,hlb,hlr⟩:∃b off,la=some ⟨b,off,none⟩/\b<w.heap.size/\∀k,k<cs.length->w.cell? ⟨b,off+k,none⟩=some (.int .i64 (cs.getD k 0)):=by
       rcases Hca.out with hc|hc
       .rw[hc]at hkl;simp at hkl
       .exact hc
      have hcc:=((HBa.out.trans (hC.b.mono HBa.out.size)).cell (p:=⟨lb,lo+k,none⟩) hlb).trans (hlr k hkl);have htk:Hid (cs.take (k+1)=cs.take k++[cs.getD k 0]):=by
       unfold Hid;rw[List.take_succ_eq_append_getElem hkl];simp[List.getD_eq_getElem?_getD,hkl]
      have ow:=hC.ow;have hsz:=hC.b.size;have hlk:(cs.take k).length=k:=by simp;omega
      rw[hlk]at ow;have HC:=hide hC;have Hlk:=hide hlk;clear hC hlr hlk;generalize cs.getD k 0=V at *;go_wp2_with (at_builtin;refine wpList_append_own _ rfl _ _ 25 rfl w4.heap.size 3 i0 _ 1 8 Tryz.underlying25 hi hz0 hz1 hz2 rfl (by decide) _ _ _ rfl (ow.alloc _) ⟨wr.heap.size,0,none⟩ 1 1 [.int .i64 V] rfl rfl ?c1 ?c2 ?c3 ?c4 ?c5 ?_)
      case c1=>exact cells_new wr #[_] _ _ rfl
      case c2=>simp[Value.oneCell']
      case c3=>unfold maxLen;omega
      case c4=>omega
      case c5=>simp;omega
      intro v' w2 hown2 hgr _;have HC2:=hide (HC.out.push (x:=V) hgr hown2 (by rw[Hlk.out]) rfl);clear hown2 hgr ow HC x hcc;go_wp2;go_roundw
      case rel=>exact⟨k+1,by omega,by go_num,by rw[htk.out];exact HC2.out⟩
      case measure=>simp[intOf];omega
     .have hkl':¬(k:Int)<cs.length:=by omega
      have hke:cs.take k=cs:=List.take_of_length_le (by omega);rw[hke]at hC;obtain⟨ca,cc,rfl,hci,hcells⟩:=hC.form;have HR:=hide (run_out s A cs ca cc wr hms (by omega) hci.1);have HXr:=hide (zK HXa.out hC.b);have HBr:=hide (HBa.out.trans (hC.b.mono HBa.out.size));have Hcells:=hide hcells;have hgs:∀g,ca=some ⟨g,0,none⟩->g<wr.heap.size:=fun g e=>hci.2 g 0 e;have Hgs:=hide hgs;clear hC hke hci hcells hgs;go_wp2_with fail;refine HR.out.mono ?_;rintro e w5 ⟨hb5,hcase⟩;have HX5:=hide (zK HXr.out hb5);have HB5:=hide (HBr.out.trans (hb5.mono HBr.out.size));have HC5:Hid (∀k,k<cs.length->∃g,ca=some ⟨g,0,none⟩/\g<w5.heap.size/\w5.cell? ⟨g,k,none⟩=some (.int .i64 (cs.getD k 0))):=fun k hk=>by
       obtain⟨g,e,h⟩:=Hcells.out k hk;have hg:=Hgs.out g e;exact⟨g,e,Nat.lt_of_lt_of_le hg hb5.size,(hb5.cell (p:=⟨g,k,none⟩) hg).trans h⟩
      clear HR HXr HBr Hcells Hgs hb5 x;obtain⟨f,hf8,rfl⟩:∃f:Nat×Nat,f.1=8/\e=.returned (.tuple #[.string ⟨#[]⟩,.int .i64 f.1]):=by
       rcases hcase with⟨f,hf,h⟩|⟨x,⟨t,hu,_⟩,h⟩
       .refine⟨f,?_,h⟩;rcases hf with⟨h1,_⟩|⟨_,h1,_⟩
        .exact h1
        .exact absurd h1 Hnu.out
       .exact absurd ⟨t,hu⟩ Hnu.out
      rw[hf8];clear hf8 hcase;go_wp2_with fail
      go_loopw [13] (fun i wr=>∃k:Nat,k<=cs.length/\i=.int .i64 k/\Below w5.heap.size w5 wr) (fun i _=>cs.length-(intOf i).toNat)
      case atStart=>exact⟨0,by omega,rfl,Below.refl _ _⟩
      case round=>
       obtain⟨k,hk,rfl,hbk⟩:=hrel;have x:=zC (zK HX5.out hbk);have HBk:=hide (HB5.out.trans (hbk.mono HB5.out.size));by_cases hkl:k<cs.length
       .have hkl':(k:Int)<cs.length:=by omega
        obtain⟨lb,lo,rfl,hlb,hlr⟩:∃b off,la=some ⟨b,off,none⟩/\b<w.heap.size/\∀k,k<cs.length->w.cell? ⟨b,off+k,none⟩=some (.int .i64 (cs.getD k 0)):=by
         rcases Hca.out with hc|hc
         .rw[hc]at hkl;simp at hkl
         .exact hc
        obtain⟨g,rfl,hg,hgc⟩:=HC5.out k hkl;have c1:=(hbk.cell (p:=⟨g,k,none⟩) hg).trans hgc;have c2:=(HBk.out.cell (p:=⟨lb,lo+k,none⟩) hlb).trans (hlr k hkl);have Hbk:=hide hbk;clear hbk hlr hgc;generalize cs.getD k 0=V at *;have hne:(V != V)=false:=by simp
        go_wp2_with fail
        go_region
        all_goals
         have Hd:=hide (Hbk.out.drew);clear x c1 c2;go_wp2;go_roundw
         case rel=>exact⟨k+1,by omega,by go_num,Hd.out⟩
         case measure=>simp[intOf];omega
       .have hkl':¬(k:Int)<cs.length:=by omega
        have HXk:=hide (zK HX5.out hbk);have hss:((ByteArray.mk #[]).toList==(ByteArray.mk #[]).toList)=true:=by simp
        clear hbk x;go_wp2_with (go_at_call 15;refine(num_any 8 _).mono ?_;rintro e w' ⟨rfl,hw'⟩;replace hw':=hw'.symm;subst hw');go_ret;exact⟨rfl,HBk.out⟩
   .clear Hca;go_wp2_with (go_at_call 15;refine(num_any 0 _).mono ?_;rintro e w' ⟨rfl,hw'⟩;replace hw':=hw'.symm;subst hw');go_ret;exact⟨rfl,HBa.out⟩
 .exact absurd ⟨t,ht⟩ Hno.out
theorem runs_good (s:ByteArray)(K A B C:Int)(la:Option Addr)(lc:Nat)(cs:List Int)(w:World)(hm0:s.size<=9223372036854775807)(ht:T10 w)(hca:CostsAt w la cs)(hcl:cs.length*8<=140737488351232)(t:Tb)(htb:TabOk s.data.toList t):
  Calls Tryz.prog 62 #[.agg #[.int .i64 K,.int .i64 A,.int .i64 B,.int .i64 C,.string s,.slice la cs.length lc]] w fun e w'=>e=.returned (.bool true)/\Below w.heap.size w w':=by
 obtain⟨i0,hi,hz0,hz1,hz2⟩:=info_parts Tryz.infoInt;have Htb:=hide htb;have Hca:=hide hca;have HX0:=hide (zW w #[.int .i64 K,.int .i64 A,.int .i64 B,.int .i64 C,.string s,.slice la cs.length lc] 27);have HB0:=hide (zN w (.cells #[.int .i64 K,.int .i64 A,.int .i64 B,.int .i64 C,.string s,.slice la cs.length lc] 27));have HT0:=hide (ht.below HB0.out);clear ht htb hca;go_enter Tryz.func62,Tryz.ntmps62;go_wp2_with fail;refine(write_any s _ hm0).mono ?_;rintro e w1 ⟨hb1,hcase⟩;have HX1:=hide (zK HX0.out hb1);have HB1:=hide (HB0.out.trans (hb1.mono (by simp)));have HT1:=hide (HT0.out.below hb1);have x1:=zC HX1.out;clear hb1 HX0 HB0 HT0;rcases hcase with⟨f,⟨_,hno⟩,rfl⟩|⟨x,⟨t',ht',rfl⟩,rfl⟩
 .exact absurd ⟨t,Htb.out⟩ hno
 .have:=tab_one Htb.out ht';subst this;clear ht';generalize hpk:packB t=pk at *;have Hpk:=hide hpk;clear hpk;go_wp2_with fail;refine(rReadTable_any s w1 hm0 HT1.out).mono ?_;rintro e w2 ⟨hb2,hcase⟩;rcases hcase with⟨t',sv,ht',rfl,how⟩|⟨hno,_⟩
  .have:=tab_one Htb.out ht';subst this;clear ht';obtain⟨sa,sc,rfl⟩:=own_slice how;have hb3:=hb2.alloc hb2.size (.cells #[.int .i64 t.cyc,.int .i64 t.fr,.slice sa (zX 0 t.fs).length sc] 39);have HXa:=hide (zK HX1.out hb3);have HBa:=hide (HB1.out.trans (hb3.mono HB1.out.size));have HDa:=hide (zW w2 #[.int .i64 t.cyc,.int .i64 t.fr,.slice sa (zX 0 t.fs).length sc] 39);have HOa:=hide (owns_below how (zN w2 (.cells #[.int .i64 t.cyc,.int .i64 t.fr,.slice sa (zX 0 t.fs).length sc] 39)));have hnot:∀(x:Bool) (w:World),(Op.unary .not (.bool x)).run Tryz.prog w=.ok (.bool (!x)) w:=fun _ _=>rfl;have hup:Hid (UnpOk pk t):=by unfold Hid;rw[←Hpk.out];exact pack_unp (tab_fine Htb.out)
   have hms:(bs pk).size<=9223372036854775807:=by
    rw[bs_size];have:=hup.out.1;omega
   have x2:=zC (zK HX1.out hb2);have hDw:w2.heap.size<(w2.alloc (.cells #[.int .i64 t.cyc,.int .i64 t.fr,.slice sa (zX 0 t.fs).length sc] 39)).heap.size:=by simp
   clear hb2 hb3 HX1 HB1 x1 HT1 how;go_wp2_with (go_at_call 15;refine(num_any 0 _).mono ?_;rintro e w' ⟨rfl,hw'⟩;replace hw':=hw'.symm;subst hw');generalize w2.alloc (.cells #[.int .i64 t.cyc,.int .i64 t.fr,.slice sa (zX 0 t.fs).length sc] 39)=w4 at *;generalize w2.heap.size=D5 at *;clear x2;go_wp2_with fail
   go_loopw [9,10] (fun cv i wr=>∃k:Nat,k<=cs.length/\i=.int .i64 k/\CL w4 wr cv (cs.take k)) (fun _ i _=>cs.length-(intOf i).toNat)
   case atStart=>exact⟨0,by omega,rfl,by simpa using CL.start w4⟩
   case round=>
    obtain⟨k,hk,rfl,hC⟩:=hrel;have x:=zC (zK HXa.out hC.b);by_cases hkl:k<cs.length
    .have hkl':(k:Int)<cs.length:=by omega
     obtain⟨lb,lo,rfl,hlb,hlr⟩:∃b off,la=some ⟨b,off,none⟩/\b<w.heap.size/\∀k,k<cs.length->w.cell? ⟨b,off+k,none⟩=some (.int .i64 (cs.getD k 0)):=by
      rcases Hca.out with hc|hc
      .rw[hc]at hkl;simp at hkl
      .exact hc
     have hcc:=((HBa.out.trans (hC.b.mono HBa.out.size)).cell (p:=⟨lb,lo+k,none⟩) hlb).trans (hlr k hkl);have htk:Hid (cs.take (k+1)=cs.take k++[cs.getD k 0]):=by
      unfold Hid;rw[List.take_succ_eq_append_getElem hkl];simp[List.getD_eq_getElem?_getD,hkl]
     have ow:=hC.ow;have hsz:=hC.b.size;have hlk:(cs.take k).length=k:=by simp;omega
     rw[hlk]at ow;have HC:=hide hC;have Hlk:=hide hlk;clear hC hlr hlk;generalize cs.getD k 0=V at *;go_wp2_with (at_builtin;refine wpList_append_own _ rfl _ _ 25 rfl w4.heap.size 3 i0 _ 1 8 Tryz.underlying25 hi hz0 hz1 hz2 rfl (by decide) _ _ _ rfl (ow.alloc _) ⟨wr.heap.size,0,none⟩ 1 1 [.int .i64 V] rfl rfl ?c1 ?c2 ?c3 ?c4 ?c5 ?_)
     case c1=>exact cells_new wr #[_] _ _ rfl
     case c2=>simp[Value.oneCell']
     case c3=>unfold maxLen;omega
     case c4=>omega
     case c5=>simp;omega
     intro v' w2 hown2 hgr _;have HC2:=hide (HC.out.push (x:=V) hgr hown2 (by rw[Hlk.out]) rfl);clear hown2 hgr ow HC x hcc;go_wp2;go_roundw
     case rel=>exact⟨k+1,by omega,by go_num,by rw[htk.out];exact HC2.out⟩
     case measure=>simp[intOf];omega
    .have hkl':¬(k:Int)<cs.length:=by omega
     have hke:cs.take k=cs:=List.take_of_length_le (by omega);rw[hke]at hC;obtain⟨ca,cc,rfl,hci,hcells⟩:=hC.form;have HR:=hide (run_out (bs pk) A cs ca cc wr hms (by omega) hci.1);have HXr:=hide (zK HXa.out hC.b);have HBr:=hide (HBa.out.trans (hC.b.mono HBa.out.size));have Hcells:=hide hcells;have HDr:=hide (zK HDa.out hC.b);have HOr:=hide (owns_below HOa.out hC.b);have hgs:∀g,ca=some ⟨g,0,none⟩->g<wr.heap.size:=fun g e=>hci.2 g 0 e;have Hgs:=hide hgs;clear hC hke hci hcells hgs;go_wp2_with fail;refine HR.out.mono ?_;rintro e w5 ⟨hb5,hcase⟩;have HX5:=hide (zK HXr.out hb5);have HD5:=hide (zK HDr.out hb5);have HO5:=hide (owns_below HOr.out hb5);have HB5:=hide (HBr.out.trans (hb5.mono HBr.out.size));have HC5:Hid (∀k,k<cs.length->∃g,ca=some ⟨g,0,none⟩/\g<w5.heap.size/\w5.cell? ⟨g,k,none⟩=some (.int .i64 (cs.getD k 0))):=fun k hk=>by
      obtain⟨g,e,h⟩:=Hcells.out k hk;have hg:=Hgs.out g e;exact⟨g,e,Nat.lt_of_lt_of_le hg hb5.size,(hb5.cell (p:=⟨g,k,none⟩) hg).trans h⟩
     clear HR HXr HBr Hcells Hgs hb5 x HDr HOr;obtain⟨y,nn,rfl,hy⟩:∃(y:ByteArray) (nn:Nat),e=.returned (.tuple #[.string y,.int .i64 nn])/\((nn=9/\y=⟨#[]⟩/\¬ticksOk A cs)\/(nn=0/\ticksOk A cs/\y=bs (prT (zX 0 t.fs) t.cyc t.fr cs A.toNat).out)):=by
      rw[bs_data]at hcase;rcases hcase with⟨f,hf,h⟩|⟨x,⟨t2,hu,hk,hx⟩,h⟩
      .refine⟨_,f.1,h,.inl ?_⟩;rcases hf with⟨_,h1⟩|⟨h1,_,h2⟩
       .exact absurd ⟨t,hup.out⟩ h1
       .exact⟨h1,rfl,h2⟩
      .have:=unp_one hup.out hu;subst this;exact⟨_,0,h,.inr ⟨rfl,hk,by rw[hx]⟩⟩
     have Hy:=hide hy;clear hy hcase;go_wp2_with fail
     go_loopw [13] (fun i wr=>∃k:Nat,k<=cs.length/\i=.int .i64 k/\Below w5.heap.size w5 wr) (fun i _=>cs.length-(intOf i).toNat)
     case atStart=>exact⟨0,by omega,rfl,Below.refl _ _⟩
     case round=>
      obtain⟨k,hk,rfl,hbk⟩:=hrel;have x:=zC (zK HX5.out hbk);have HBk:=hide (HB5.out.trans (hbk.mono HB5.out.size));by_cases hkl:k<cs.length
      .have hkl':(k:Int)<cs.length:=by omega
       obtain⟨lb,lo,rfl,hlb,hlr⟩:∃b off,la=some ⟨b,off,none⟩/\b<w.heap.size/\∀k,k<cs.length->w.cell? ⟨b,off+k,none⟩=some (.int .i64 (cs.getD k 0)):=by
        rcases Hca.out with hc|hc
        .rw[hc]at hkl;simp at hkl
        .exact hc
       obtain⟨g,rfl,hg,hgc⟩:=HC5.out k hkl;have c1:=(hbk.cell (p:=⟨g,k,none⟩) hg).trans hgc;have c2:=(HBk.out.cell (p:=⟨lb,lo+k,none⟩) hlb).trans (hlr k hkl);have Hbk:=hide hbk;clear hbk hlr hgc;generalize cs.getD k 0=V at *;have hne:(V != V)=false:=by simp
       go_wp2_with fail
       go_region
       all_goals
        have Hd:=hide (Hbk.out.drew);clear x c1 c2;go_wp2;go_roundw
        case rel=>exact⟨k+1,by omega,by go_num,Hd.out⟩
        case measure=>simp[intOf];omega
      .have hkl':¬(k:Int)<cs.length:=by omega
       have HXk:=hide (zK HX5.out hbk);have HDk:=hide (zK HD5.out hbk);have HOk:=hide (owns_below HO5.out hbk);clear hbk;have HTk:=hide (rTicks_any A cs la lc wr (Hca.out.below HBk.out) (by omega));go_wp2_with fail;refine HTk.out.mono ?_;rintro e w6 ⟨bb,rfl,hbb,hb6⟩;have HX6:=hide (zK HXk.out hb6);have HD6:=hide (zK HDk.out hb6);have HO6:=hide (owns_below HOk.out hb6);have HB6:=hide (HBk.out.trans (hb6.mono HBk.out.size));have x6:=zC HX6.out;have d6:=zC HD6.out;clear HTk hb6 x HXk HDk HOk HBk
       cases bb with
       | false=>
        have hnt:¬ticksOk A cs:=fun h=>by have:=hbb.2 h;cases this
        rcases Hy.out with⟨rfl,rfl,_⟩|⟨_,h,_⟩
        .have hss:((ByteArray.mk #[]).toList==(ByteArray.mk #[]).toList)=true:=by simp
         clear hbb;go_wp2_with (go_at_call 15;refine(num_any 9 _).mono ?_;rintro e w' ⟨rfl,hw'⟩;replace hw':=hw'.symm;subst hw');go_ret;exact⟨rfl,HB6.out⟩
        .exact absurd h hnt
       | true=>
        have hok:=hbb.1 rfl;rcases Hy.out with⟨_,_,h⟩|⟨rfl,_,rfl⟩
        .exact absurd hok h
        .obtain⟨m,rfl⟩:∃m:Nat,A=m:=⟨A.toNat,by have:=hok.1;omega⟩;have hm4:m<=400:=by have:=hok.2.1;omega
         obtain⟨f1,f2,_,_,_⟩:=Htb.out.2.2.1.frames;have hc1:=Htb.out.2.2.1.c1;have hc2:=Htb.out.2.2.1.c2;have hGo:=goes_of_sound Htb.out.2.2.1;have hlen:=flat_len Htb.out.2.2.1;have hsm:=fun i hi=>(job_small Htb.out.2.2.1 i hi).2.2;have HTr:Hid (Calls Tryz.prog 99 #[.agg #[.int .i64 t.cyc,.int .i64 t.fr,.slice sa (zX 0 t.fs).length sc],.int .i64 m,.slice la cs.length lc] w6 fun e w'=>e=.returned (.string (bs (prT (zX 0 t.fs) t.cyc t.fr cs (m:Int).toNat).out))/\Below w6.heap.size w6 w'):=by
          have e0:(prT (zX 0 t.fs) t.cyc t.fr cs (m:Int).toNat).out=(trcL (zX 0 t.fs) t.cyc t.fr cs m).2:=(pr_trc hGo cs (fun u i k=>pr_begun (by omega) hsm hok.2.2.2 u i k) m).2;rw[e0];rcases HO6.out.2 with⟨hv,h0⟩|⟨g,cap,cur,hv,_,hg,_⟩
          .have hl:zX 0 t.fs=[]:=List.length_eq_zero_iff.1 h0;rw[hv,hl];exact rTrace_nil t.cyc t.fr m cs la lc w6 hc1 hc2 f1 f2 hm4
          .have hown:=HO6.out;rw[hv]at hown ⊢;exact rTrace_any t.cyc t.fr (zX 0 t.fs) g cap m cs la lc w6 (zL hg) (rowF_own hown) (by omega) hsm hc1 hc2 f1 f2 hm4 (Hca.out.below HB6.out) hok.2.2.1 hok.2.2.2
         generalize bs (prT (zX 0 t.fs) t.cyc t.fr cs (m:Int).toNat).out=RR at *;have hss:(RR.toList==RR.toList)=true:=by simp
         clear hbb hok hGo hsm;go_wp2_with fail;refine HTr.out.mono ?_;rintro e w7 ⟨rfl,hb7⟩;have HB7:=hide (HB6.out.trans (hb7.mono HB6.out.size));clear hb7 HTr x6 d6;go_wp2_with (go_at_call 15;refine(num_any 0 _).mono ?_;rintro e w' ⟨rfl,hw'⟩;replace hw':=hw'.symm;subst hw');go_ret;exact⟨rfl,HB7.out⟩
  .exact absurd ⟨t,Htb.out⟩ hno
theorem runs_one (s:ByteArray)(K A B C:Int)(la:Option Addr)(lc:Nat)(cs:List Int)(w:World)(hms:s.size<=9223372036854775807)(ht:T10 w)(hca:CostsAt w la cs)(hcl:cs.length*8<=140737488351232):
  Calls Tryz.prog 62 #[.agg #[.int .i64 K,.int .i64 A,.int .i64 B,.int .i64 C,.string s,.slice la cs.length lc]] w fun e w'=>e=.returned (.bool true)/\Below w.heap.size w w':=by
 by_cases h:∃t,TabOk s.data.toList t
 .obtain⟨t,h⟩:=h;exact runs_good s K A B C la lc cs w hms ht hca hcl t h
 .exact runs_bad s K A B C la lc cs w hms ht hca hcl h
theorem plays_runs (s:ByteArray)(A B C:Int)(la:Option Addr)(lc:Nat)(cs:List Int)(w:World)(hm:s.size<=9223372036854775807)(ht:T10 w)(hca:CostsAt w la cs)(hcl:cs.length*8<=140737488351232):
  Calls Tryz.prog 29 #[.agg #[.int .i64 5,.int .i64 A,.int .i64 B,.int .i64 C,.string s,.slice la cs.length lc]] w fun e w'=>e=.returned (.bool true)/\Below w.heap.size w w':=by
 have hB:=hide (zN w (.cells #[.int .i64 5,.int .i64 A,.int .i64 B,.int .i64 C,.string s,.slice la cs.length lc] 27));have HR:=hide (runs_one s 5 A B C la lc cs (w.alloc (.cells #[.int .i64 5,.int .i64 A,.int .i64 B,.int .i64 C,.string s,.slice la cs.length lc] 27)) hm (ht.below hB.out) (hca.below hB.out) hcl);have x:=zC (zW w #[.int .i64 5,.int .i64 A,.int .i64 B,.int .i64 C,.string s,.slice la cs.length lc] 27);clear ht hca;go_enter Tryz.func29,Tryz.ntmps29;go_wp2_with fail;refine HR.out.mono ?_;rintro e w1 ⟨rfl,hb1⟩;have HB1:=hide (hB.out.trans (hb1.mono (by simp)));clear hb1 hB HR x;go_wp2;go_ret;exact⟨rfl,HB1.out⟩
def progE (s:ByteArray) (f:Nat×Nat):Prop:=
 (400<s.size/\f=(1,0))\/
 (s.size<=400/\∃j,pSet (zT s.data.toList)=.error j/\f=(2,(tk (zT s.data.toList) j).at_))\/
 (s.size<=400/\∃l ps,pSet (zT s.data.toList)=.ok (l.map Prod.fst,ps)/\ZOk l/\checkR l ps=some f)
def progOk (s:ByteArray) (R:List UInt8):Prop:=
 s.size<=400/\∃l ps,pSet (zT s.data.toList)=.ok (l.map Prod.fst,ps)/\ZOk l/\checkR l ps=none/\l.flatMap tLine1++ps.flatMap pLine=R
abbrev P1Out (s:ByteArray) (w:World) (en:Ending) (w':World):Prop:=WorkOut (progE s) (progOk s) w en w'
theorem check_small {l:List (Tk×Nat)}{ps:List Pr}(h:checkR l ps=none):∀k,k<l.length->(lk l k).1.P<100/\(lk l k).1.O<100/\(lk l k).1.C<100/\(lk l k).1.D<100:=by
 intro k hk;have h0:ckT l l.length 0=none:=by
  unfold checkR at h
  cases hc:ckT l l.length 0 with
  | some x=>rw[hc]at h;simp at h
  | none=>rfl
 have:=timed_P (tE_none (ckT_none l.length 0 h0 k (by omega) (by omega)));omega
theorem print1_any (s:ByteArray)(b:Nat)(w:World)(hm:s.size<=9223372036854775807)(hc:w.cell? ⟨b,0,none⟩=some (.string s)):
  Calls Tryz.prog 93 #[.pointer (some ⟨b,0,none⟩)] w (P1Out s w):=by
 go_enter Tryz.func93,Tryz.ntmps93;go_wp2_with fail;refine(readSet_any s _ hm).mono ?_;rintro e w1 ⟨hb1,hcase⟩;rcases hcase with⟨h1,rfl⟩|⟨h1,j,h2,rfl⟩|⟨h1,l,ps,h2,h3,⟨f,h4,rfl⟩|⟨h4,g,cap,pa,pc,rfl,h5,h6,h7,h8⟩⟩
 .exact⟨rfl,hb1,.inl ⟨(1,0),.inl ⟨h1,rfl⟩,rfl⟩⟩
 .exact⟨rfl,hb1,.inl ⟨(2,(tk (zT s.data.toList) j).at_),.inr (.inl ⟨h1,j,h2,rfl⟩),rfl⟩⟩
 .exact⟨rfl,hb1,.inl ⟨f,.inr (.inr ⟨h1,l,ps,h2,h3,h4⟩),rfl⟩⟩
 .obtain⟨b1,b2,b3,b4⟩:=pSet_bounds h2;have hn6:l.length<=6:=by simpa using b3
  have Hok:Hid (progOk s (l.flatMap tLine1++ps.flatMap pLine)):=⟨h1,l,ps,h2,h3,h4,rfl⟩;have Hsm:=hide (check_small h4);have Hb:=hide hb1;have H7:=hide h7;have H8:=hide h8;clear h2 h3 h4 hb1 b1 b2 b3 h7 h8;go_wp2_with fail;refine(text_any l ps g cap pa pc _ h6 H7.out h5 hn6 Hsm.out b4 H8.out _ rfl).mono ?_;rintro e w2 ⟨rfl,hb2⟩;have HB:=hide (Hb.out.trans (hb2.mono Hb.out.size));clear hb2;go_wp2;go_ret;exact⟨HB.out,.inr ⟨_,Hok.out,rfl⟩⟩
abbrev GuardOut (s:ByteArray) (w:World) (en:Ending) (w':World):Prop:=GOutG (progE s) (progOk s) w en w'
theorem print_out (s:ByteArray)(w:World)(hm:s.size<=9223372036854775807):
  Calls Tryz.prog 57 #[.string s] w (GuardOut s w):=by
 have hmf:∀(fn:Fn) (first cap:Array Value) (w:World),(Instr.makeFunc fn first cap).run Tryz.prog w=.ok (.func fn first cap) w:=fun _ _ _ _=>rfl;have hX:=zC (zW w #[.string s] 9) 0;have HB0:=hide (zN w (.cells #[.string s] 9));go_enter Tryz.func57,Tryz.ntmps57;go_wp2_with fail;refine(guard_print 2 _ rfl w.heap.size _ (progE s) (progOk s) (fun W hW=>print1_any s w.heap.size W hm ((hW.cell (p:=⟨w.heap.size,0,none⟩) (by simp)).trans hX))).mono ?_;rintro e w1 ⟨hb1,hcase⟩;have HB:=hide (HB0.out.trans (hb1.mono (by simp)));clear hb1 hX;rcases hcase with⟨f,hf,rfl⟩|⟨R,hR,rfl⟩
 .have Hf:=hide hf;clear hf;go_wp2
  go_ret3
  exact⟨HB.out,.inl ⟨f,Hf.out,rfl⟩⟩
 .have HR:=hide hR;clear hR;go_wp2
  go_ret3
  exact⟨HB.out,.inr ⟨R,HR.out,rfl⟩⟩
theorem at_step {l:List UInt8}{j:Nat}(h:(tk (zT l) j).fin=false):(tk (zT l) j).at_<(tk (zT l) (j+1)).at_:=by
 have hj:j<(zT l).length:=by
  rcases Nat.lt_or_ge j (zT l).length with h' | h'
  .exact h'
  .rw[show tk (zT l) j=⟨101,[],0⟩ by unfold tk;rw[List.getD_eq_getElem?_getD,List.getElem?_eq_none h'];rfl]at h;simp[PT.fin]at h
 have hj1:j+1<(zT l).length:=toks_fin (l.length+1) l 0 (by omega) (by omega) j hj h;have e:=(toks_next (l.length+1) l 0).2 j hj1;have hb:=toks_bound (l.length+1) l 0 (by omega) j hj;have h1:=(nextTok_bound l (tk (zT l) j).nx hb).1;change tk (zT l) (j+1)=nextTok l (tk (zT l) j).nx at e;rw[←e]at h1;have h2:(tk (zT l) j).at_<(tk (zT l) j).nx:=by
  cases j with
  | zero=>
   have e0:=(toks_next (l.length+1) l 0).1;change tk (zT l) 0=_ at e0;rw[e0]at h ⊢;exact nextTok_long l _ h
  | succ j=>
   have e0:=(toks_next (l.length+1) l 0).2 j hj;change tk (zT l) (j+1)=_ at e0;rw[e0]at h ⊢;exact nextTok_long l _ h
 omega
theorem at_next {l:List UInt8}{j k:Nat}(hk:k=j+1)(h:(tk (zT l) j).fin=false):(tk (zT l) j).at_<(tk (zT l) k).at_:=by
 subst hk;exact at_step h
theorem fin_sees {t:PT}{wd:ByteArray}(h:sees t wd=true):t.fin=false:=by
 unfold sees at h;simp at h;simp[PT.fin,h.1]
theorem fin_name {t:PT}(h:isName t=true):t.fin=false:=by
 unfold isName at h;simp at h;simp[PT.fin,h.1]
theorem fin_num {t:PT}(h:(t.k==110)=true):t.fin=false:=by
 simp at h;simp[PT.fin,h]
theorem fin_semi {t:PT}(h:(t.k==59)=true):t.fin=false:=by
 simp at h;simp[PT.fin,h]
def TPl (t:Tk) (lo hi:Nat):Prop:=lo<=t.q0/\t.q0<t.q1/\t.q1<t.q2/\t.q2<t.q3/\t.q3<t.q4/\t.q4<hi
def PPl (p:Pr) (lo hi:Nat):Prop:=lo<=p.q0/\p.q0<p.q1/\p.q1<hi
theorem pRest_pl {l:List UInt8}{nm:UInt8}{P O q0 q1 q2 j:Nat}{t:Tk}{k:Nat}(h:pRest (zT l) nm P O q0 q1 q2 j=.ok (t,k)):
  t.q0=q0/\t.q1=q1/\t.q2=q2/\(tk (zT l) j).at_<t.q3/\t.q3<t.q4/\t.q4<(tk (zT l) k).at_:=by
 unfold pRest at h;split at h
 .rename_i h0;split at h
  .rename_i h1;split at h
   .rename_i h2;split at h
    .rename_i h3;split at h
     .rename_i h4;have s0:=at_next (k:=j+1) rfl (fin_sees h0);have s1:=at_next (k:=j+2) rfl (fin_num h1);have s2:=at_next (k:=j+3) rfl (fin_sees h2);have s3:=at_next (k:=j+4) rfl (fin_num h3);have s4:=at_next (k:=j+5) rfl (fin_semi h4);injection h with h;injection h with ha hb;subst hb;subst ha;refine⟨rfl,rfl,rfl,s0,?_,?_⟩
      .show (tk (zT l) (j+1)).at_<(tk (zT l) (j+3)).at_;omega
      .show (tk (zT l) (j+3)).at_<(tk (zT l) (j+5)).at_;omega
     .simp at h
    .simp at h
   .simp at h
  .simp at h
 .simp at h
theorem pTask_pl {l:List UInt8}{i:Nat}{t:Tk}{k:Nat}(h:pTask (zT l) i=.ok (t,k)):TPl t (tk (zT l) i).at_ (tk (zT l) k).at_:=by
 unfold pTask at h;split at h
 .rename_i h0;split at h
  .rename_i h1;split at h
   .rename_i h2;have s0:=at_next (k:=i+1) rfl (fin_name h0);have s1:=at_next (k:=i+2) rfl (fin_sees h1);have s2:=at_next (k:=i+3) rfl (fin_num h2);split at h
    .rename_i h3;split at h
     .rename_i h4;have s3:=at_next (k:=i+4) rfl (fin_sees h3);have s4:=at_next (k:=i+5) rfl (fin_num h4);obtain⟨a,b,c,d,e,f⟩:=pRest_pl h;unfold TPl;rw[a,b,c];omega
     .simp at h
    .obtain⟨a,b,c,d,e,f⟩:=pRest_pl h;unfold TPl;rw[a,b,c];omega
   .simp at h
  .simp at h
 .simp at h
theorem pPair_pl {l:List UInt8}{ap:Bool}{i:Nat}{p:Pr}{k:Nat}(h:pPair (zT l) ap i=.ok (p,k)):PPl p (tk (zT l) i).at_ (tk (zT l) k).at_:=by
 unfold pPair at h;split at h
 .rename_i h0;split at h
  .rename_i h1;split at h
   .rename_i h2;have s0:=at_next (k:=i+1) rfl (fin_name h0);have s1:=at_next (k:=i+2) rfl (fin_name h1);have s2:=at_next (k:=i+3) rfl (fin_semi h2);injection h with h;injection h with ha hb;subst hb;subst ha;refine⟨Nat.le_refl _,s0,?_⟩;show (tk (zT l) (i+1)).at_<(tk (zT l) (i+3)).at_;omega
   .simp at h
  .simp at h
 .simp at h
def TB2 (B:Nat->Nat) (ts:List Tk):Prop:=∀k,k<ts.length->TPl (tsk ts k) (B k) (B (k+1))
def PB2 (B:Nat->Nat) (ps:List Pr):Prop:=∀k,k<ps.length->PPl (psk ps k) (B k) (B (k+1))
def consB (a:Nat) (B:Nat->Nat):Nat->Nat
 | 0=>a
 | k+1=>B k
theorem pTasks_pl {l:List UInt8}:∀(f i:Nat) (ts:List Tk) (k:Nat),pTasks f (zT l) i=.ok (ts,k)->∃B,TB2 B ts/\B 0=(tk (zT l) i).at_/\B ts.length<=(tk (zT l) k).at_
 | 0,i,ts,k,h=>by simp[pTasks]at h
 | f+1,i,ts,k,h=>by
  rw[pTasks]at h
  cases h1:pTask (zT l) i with
  | error e=>rw[h1]at h;simp at h
  | ok x=>
   obtain⟨t,j⟩:=x;rw[h1]at h;simp only at h;have ht:=pTask_pl h1;split at h
   .rename_i hs;have hs':sees (tk (zT l) j) wTask=true:=by simp at hs;exact hs.2
    have s0:=at_step (fin_sees hs')
    cases h2:pTasks f (zT l) (j+1) with
    | error e=>rw[h2]at h;simp at h
    | ok y=>
     obtain⟨us,m⟩:=y;rw[h2]at h;simp only at h;injection h with h;injection h with ha hb;subst hb;subst ha;obtain⟨B,b1,b2,b3⟩:=pTasks_pl f (j+1) us m h2;refine⟨consB (tk (zT l) i).at_ B,?_,rfl,b3⟩;intro q hq
     cases q with
     | zero=>
      show TPl t (tk (zT l) i).at_ (B 0);unfold TPl at ht ⊢;omega
     | succ q=>
      have:=b1 q (by simpa using hq);simpa [tsk,consB] using this
   .injection h with h;injection h with ha hb;subst hb;subst ha;refine⟨consB (tk (zT l) i).at_ (fun _=>(tk (zT l) j).at_),?_,rfl,Nat.le_refl _⟩;intro q hq;have h0:q=0:=by simpa using hq
    subst h0;exact ht
theorem pPairs_pl {l:List UInt8}:∀(f i:Nat) (ps:List Pr) (k:Nat),pPairs f (zT l) i=.ok (ps,k)->∃B,PB2 B ps/\(tk (zT l) i).at_<=B 0
 | 0,i,ps,k,h=>by
  simp[pPairs]at h;obtain⟨rfl,rfl⟩:=h;exact⟨fun _=>(tk (zT l) i).at_,fun q hq=>by simp at hq,Nat.le_refl _⟩
 | f+1,i,ps,k,h=>by
  rw[pPairs]at h;split at h
  .rename_i hs;have s0:(tk (zT l) i).at_<(tk (zT l) (i+1)).at_:=by
    simp at hs;rcases hs with hs|hs
    .exact at_step (fin_sees hs)
    .exact at_step (fin_sees hs)
   cases h1:pPair (zT l) (!(sees (tk (zT l) i) wBefore)) (i+1) with
   | error e=>rw[h1]at h;simp at h
   | ok x=>
    obtain⟨p,j⟩:=x;rw[h1]at h;simp only at h;have hp:=pPair_pl h1
    cases h2:pPairs f (zT l) j with
    | error e=>rw[h2]at h;simp at h
    | ok y=>
     obtain⟨us,m⟩:=y;rw[h2]at h;simp only at h;injection h with h;injection h with ha hb;subst hb;subst ha;obtain⟨B,b1,b2⟩:=pPairs_pl f j us m h2;refine⟨consB (tk (zT l) (i+1)).at_ B,?_,Nat.le_of_lt s0⟩;intro q hq
     cases q with
     | zero=>
      show PPl p (tk (zT l) (i+1)).at_ (B 0);unfold PPl at hp ⊢;omega
     | succ q=>
      have:=b1 q (by simpa using hq);simpa [psk,consB] using this
  .simp at h;obtain⟨rfl,rfl⟩:=h;exact⟨fun _=>(tk (zT l) i).at_,fun q hq=>by simp at hq,Nat.le_refl _⟩
theorem pSet_pl {l:List UInt8}{ts:List Tk}{ps:List Pr}(h:pSet (zT l)=.ok (ts,ps)):∃B B',TB2 B ts/\PB2 B' ps/\B ts.length<=B' 0:=by
 unfold pSet at h
 cases h1:pFirst (zT l) with
 | error e=>rw[h1]at h;simp at h
 | ok x=>
  obtain⟨us,j⟩:=x;rw[h1]at h;simp only at h
  cases h2:pPairs 6 (zT l) j with
  | error e=>rw[h2]at h;simp at h
  | ok y=>
   obtain⟨qs,k⟩:=y;rw[h2]at h;simp only at h;split at h
   .injection h with h;injection h with ha hb;subst ha;subst hb;unfold pFirst at h1;split at h1
    .obtain⟨B,b1,_,b3⟩:=pTasks_pl _ _ _ _ h1;obtain⟨B',c1,c2⟩:=pPairs_pl _ _ _ _ h2;exact⟨B,B',b1,c1,by omega⟩
    .simp at h1
   .simp at h
end
end Go.Proofs.YtbdffcjganlblaaGreatDoor
