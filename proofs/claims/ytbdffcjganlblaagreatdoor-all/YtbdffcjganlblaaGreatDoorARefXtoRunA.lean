import Derived.Test.YtbdffcjganlblaaGreatDoorAProgFtoRefW
import Derived.Deep.RegionLaw
import Derived.Deep.DeepCutAuto
set_option linter.unusedVariables false
set_option linter.unusedSimpArgs false
set_option maxRecDepth 100000
set_option maxHeartbeats 16000000
namespace Go.Proofs.YtbdffcjganlblaaGreatDoor
section
open Go.RowKit
theorem RX.grow {w wk:World}{B r cap:Nat}{T:List PT}{i:Nat}{bad:Bool}{X c f:Nat}{sv:Value}(h:RX w wk B r cap T i bad X c f sv){n:Nat}{xs:List Value}{o1:Obj}{w2:World}(how:wk.ownsRow (B+1) 44 4 sv n xs)(hg:(wk.alloc o1).drew.grownBy w2 sv.ownBlock):w2.heap[X]? =some (.cells #[.int .i64 c,.int .i64 f,sv] 39 (0,0)):=by
 have hX:=zL h.hx;have hg':(wk.alloc o1).grownBy w2 sv.ownBlock:=⟨hg.os,hg.tape,hg.output,hg.size,hg.block⟩;rw[hg'.block X (by simp;omega) (fun e=>own_type how h.hx (by decide) e.symm),Below.heap_alloc _ _ _ hX];exact h.hx
theorem rw_start {w w1:World}{g cap:Nat}{l:List UInt8}(hl:l.length<=800){base:Nat}(hown:w1.ownsRow base 76 4 (.slice (some ⟨g,0,none⟩) (zT l).length cap) (zT l).length (tokRow (zT l)))(hb:w.heap.size<base)(hg1:base<=g)(hg2:g<w1.heap.size)
  (hbel:Below (w.heap.size+1) (w.alloc (.cells tbZ 39)) w1):
  RW w (w1.alloc (.cells #[.slice (some ⟨g,0,none⟩) (zT l).length cap,.int .i64 0,.bool false] 71)) w1.heap.size g cap (zT l) 0 false:=by
 have hsz:=hbel.size;simp only[World.size_alloc]at hsz;have hP:=ps_start hl hown hg2 (.cells #[] 3);have hps:PS (w1.alloc (.cells #[.slice (some ⟨g,0,none⟩) (zT l).length cap,.int .i64 0,.bool false] 71)) w1.heap.size g cap (zT l) 0 false:=by
  have e:∀k,k<w1.heap.size+1->(w1.alloc (.cells #[.slice (some ⟨g,0,none⟩) (zT l).length cap,.int .i64 0,.bool false] 71)).heap[k]? =((w1.alloc (.cells #[.slice (some ⟨g,0,none⟩) (zT l).length cap,.int .i64 0,.bool false] 71)).alloc (.cells #[] 3)).heap[k]? := fun k hk=>(Below.heap_alloc _ _ _ (by simp;omega)).symm;have c:∀k o,k<w1.heap.size+1->(w1.alloc (.cells #[.slice (some ⟨g,0,none⟩) (zT l).length cap,.int .i64 0,.bool false] 71)).cell? ⟨k,o,none⟩=((w1.alloc (.cells #[.slice (some ⟨g,0,none⟩) (zT l).length cap,.int .i64 0,.bool false] 71)).alloc (.cells #[] 3)).cell? ⟨k,o,none⟩:=fun k o hk=>World.cell?_of_block (a:=⟨k,o,none⟩) (e k hk);have hb0:=zW w1 #[.slice (some ⟨g,0,none⟩) (zT l).length cap,.int .i64 0,.bool false] 71;refine⟨by rw[zC hb0];rfl,by rw[zC hb0];rfl,by rw[zC hb0];rfl,zF hb0 _,zF hb0 _,?_,hP.hi,hP.hn,hP.fin,by omega,by simp,by simp;omega⟩;intro j hj;rw[c _ _ (by omega),c _ _ (by omega),c _ _ (by omega),c _ _ (by omega)];exact hP.row j hj
 refine⟨hps,?_,?_,by omega,hg2⟩
 .rw[Below.heap_alloc _ _ _ (by omega),hbel.block _ (by omega)];exact zW _ _ _
 .refine grownBy_alloc' ?_ _;exact⟨hbel.os,hbel.tape,hbel.output,by omega,fun k hk _=>by rw[hbel.block k (by omega),Below.heap_alloc _ _ _ hk]⟩
theorem readPost_no {s:ByteArray}{w w':World}(h:¬∃t,TabOk s.data.toList t)(hb:Below w.heap.size w w'):ReadPost s w (.returned (.tuple #[.agg tbZ,.bool false])) w':=⟨hb,.inr ⟨h,0,0,none,0,0,rfl⟩⟩
theorem rReadTable_long (s:ByteArray)(w:World)(hs:800<s.size)(hm:s.size<=9223372036854775807):
  Calls Tryz.prog 22 #[.string s] w (ReadPost s w):=by
 have hs':(800:Int)<s.size:=by omega
 have hno:Hid (¬∃t,TabOk s.data.toList t):=by
  rintro ⟨t,h,_⟩;simp at h;omega
 go_enter Tryz.func22,Tryz.ntmps22;go_wp2;refine bodyPost_ret (v:=.tuple #[.agg tbZ,.bool false]) (by simp[results,Tryz.results22,go_sem,tbZ]) rfl (readPost_no hno.out ?_);exact zN _ _
theorem rReadTable_short (s:ByteArray)(w:World)(hs:s.size<=800)(ht:T10 w):
  Calls Tryz.prog 22 #[.string s] w (ReadPost s w):=by
 obtain⟨it,hti,htz0,htz1,htz2⟩:=info_parts Tryz.infoSl;have hs':¬(800:Int)<s.size:=by omega
 have Ht:=hide ht;clear ht;go_enter Tryz.func22,Tryz.ntmps22;go_wp2_with fail;refine(rTokens_any s _ hs).mono ?_;rintro e w1 ⟨v,rfl,hown,hbel⟩;obtain⟨g,cap,rfl,hg1,hg2⟩:=own_form hown (toks_ne _ _ _);have P0:=rw_start (w:=w) (by simpa using hs) hown (by simp) hg1 hg2 (by simpa [tbZ] using hbel);have HN1:Hid ((tk (zT s.data.toList) 1).N<=9999/\(tk (zT s.data.toList) 3).N<=9999):=⟨tk_N _ _,tk_N _ _⟩;have hpn:=fun n fs j (h:pN n (zT s.data.toList) 5=some (fs,j))=>pN_small h;have Hpn:=hide hpn;have Htab:=hide (fun t=>tab_head (l:=s.data.toList) (t:=t));have Hnohd:=hide (tab_no_hd (l:=s.data.toList));have HTab0:Hid (∀t,TabOk s.data.toList t↔pTab (zT s.data.toList)=some t/\Sound t/\tbTxt t=s.data.toList):=fun t=>⟨fun h=>h.2,fun h=>⟨by simpa using hs,h⟩⟩;clear hown hg1 hg2 hbel hpn;generalize zT s.data.toList=T at *;go_wp2_with fail;refine(rmust_ex P0.ps wCycle).mono ?_;rintro e w2 ⟨i1,b1,rfl,p,gg,h1⟩;have P1:=P0.call p gg;clear P0 p gg;generalize w1.heap.size=B at *;go_wp2_with fail;refine(rnumber_ex P1.ps).mono ?_;rintro e w3 ⟨h,i2,b2,rfl,p,gg,h2⟩;have P2:=P1.call p gg;clear P1 p gg;go_wp2_with fail;refine(rmust_ex P2.ps wFrame).mono ?_;rintro e w4 ⟨i3,b3,rfl,p,gg,h3⟩;have P3:=P2.call p gg;clear P2 p gg;go_wp2_with fail;refine(rnumber_ex P3.ps).mono ?_;rintro e w5 ⟨f,i4,b4,rfl,p,gg,h4⟩;have P4:=P3.call p gg;clear P3 p gg;go_wp2_with fail;refine(rmark_ex P4.ps 59 (by decide)).mono ?_;rintro e w6 ⟨i5,b5,rfl,p,gg,h5⟩;have P5:=P4.call p gg;clear P4 p gg;have hch:=hd_chain h1.out h2.out h3.out h4.out h5.out;clear h1 h2 h3 h4 h5;have c2:=P5.ps.c2;have y0:∀o,w6.cell? ⟨w.heap.size,o,none⟩=#[Value.int .i64 0,.int .i64 0,.slice none 0 0][o]? := zC P5.hy;have yf:=zF P5.hy;have HP:=hide P5;clear P5;have hret:∀W:World,Below w.heap.size w W->(¬∃t,TabOk s.data.toList t)->ReadPost s w (.returned (.tuple #[.agg tbZ,.bool false])) W:=fun W hW hno=>readPost_no hno hW;have Hret:=hide hret;have Hbel:Hid (∀W:World,w.grownBy W none->Below w.heap.size w (((W.setCell ⟨w.heap.size,0,none⟩ (.int .i64 0)).setCell ⟨w.heap.size,1,none⟩ (.int .i64 0)).setCell ⟨w.heap.size,2,none⟩ (.slice none 0 0))):=fun W hW=>below_grown (zG (zG (zG hW (Nat.le_refl _) _ _) (Nat.le_refl _) _ _) (Nat.le_refl _) _ _);clear hret;rcases hch with⟨rfl,hhd⟩|⟨rfl,hhd,rfl,rfl,rfl⟩
 .have hno:=hide (Hnohd.out hhd);clear hhd;go_wp2;refine bodyPost_ret (v:=.tuple #[.agg tbZ,.bool false]) (by simp[results,Tryz.results22,go_sem,tbZ,y0]) rfl (Hret.out _ ?_ hno.out);exact Hbel.out _ HP.out.g
 .obtain⟨hN1,hN3⟩:=HN1.out;clear HN1 Hnohd;have Hhd:=hide hhd;clear hhd;generalize hc0:(tk T 1).N=c at *;generalize hf0:(tk T 3).N=f at *;have Hc0:=hide hc0;have Hf0:=hide hf0;clear hc0 hf0;by_cases hcc:1<=c/\c<=60/\1<=f/\c%f=0
  .obtain⟨hc1,hc2,hf1,hrm⟩:=hcc;have hrm':(((c:Int)%(f:Int)) != 0)=false:=by
    have:((c:Int)%(f:Int))=((c%f:Nat):Int):=by simp
    rw[this,hrm];rfl
   have hf60:f<=60:=by
    rcases Nat.lt_or_ge c f with h|h
    .rw[Nat.mod_eq_of_lt h]at hrm;omega
    .omega
   have Hrm:=hide hrm;clear hrm;have X0:=hide (RX.start HP.out c f);go_wp2_with fail;clear c2 y0 yf HP hrm';generalize w6.heap.size=X at *;have hcf:c/f<=60:=Nat.le_trans (Nat.div_le_self c f) hc2;have hf0a:((f:Int)==0)=false:=by simp;omega
   have hf0b:¬(f:Int)=0:=by omega
   go_loopw [8] (fun j wr=>∃(k i:Nat) (bad:Bool) (sv:Value) (L:List FSl),k<=c/f/\j=.int .i64 k/\RX w wr B g cap T i bad X c f sv/\wr.ownsRow (B+1) 44 4 sv L.length (flRow L)/\((L=[]/\sv=.slice none 0 0)\/L≠[])/\FrR T k i bad L) (fun j _=>100-(intOf j).toNat)
   case atStart=>exact⟨0,5,false,_,[],Nat.zero_le _,rfl,X0.out,World.ownsRow_nil _ _ _ _,.inl ⟨rfl,rfl⟩,.inl ⟨rfl,[],rfl,rfl⟩⟩
   case round=>
    clear X0;obtain⟨k,i,bad,sv,L,hk,rfl,hX,how,hLs,hF⟩:=hrel;have hdiv:(c:Int)/(f:Int)=((c/f:Nat):Int):=by simp
    have c2:=hX.rw_.ps.c2;by_cases hgo:k<c/f/\bad=false
    .obtain⟨hlt,rfl⟩:=hgo;have hlt':decide ((k:Int)<(c:Int)/(f:Int))=true:=by rw[hdiv];simp;omega
     have hk60:k<60:=by omega
     have hLlen:L.length<=201/\∀x∈L,x.1<k:=by
      rcases hF with⟨_,fs,h1,rfl⟩|⟨h1,_⟩
      .have h2:=pN_frames h1;have h3:=hX.rw_.ps.hi;have h4:=hX.rw_.ps.hn;rw[flatF_len];refine⟨by omega,?_⟩;intro x hx;have:=(flatF_mem fs 0 x hx).2.1;omega
      .simp at h1
     obtain⟨hL1,hL2⟩:=hLlen;clear hdiv;go_wp2_with fail;refine(rslices_any hX.rw_.ps k).mono ?_;rintro e w9 ⟨lv,i',bad',l,rfl,p,gg,how9,hl9,hcase⟩;have X9:=hide (hX.call p gg);have how':=how.kept gg (.inr (own_ge how (Nat.lt_succ_self _)));have hF9:=hide (frR_step hF hcase.out);have hBw:=hX.rw_.ps.ltb;have hsvlt:∀q,sv.ownBlock=some q->q<wr.heap.size:=fun q hq=>(how.lt q hq).2;have Hsv:=hide hsvlt;have hXlt:=zL hX.hx;have HLs:=hide hLs;clear hlt' c2 hX how hF hcase p gg hLs hsvlt
     cases l with
     | nil=>
      obtain⟨la,lc,rfl⟩:=own_slice how9;simp only[List.map_nil,List.append_nil]at hF9;have How:=hide how';clear how' how9;simp only[List.length_nil];go_wp2_with fail
      go_loopw [10] (fun q wr=>q=.int .i64 0/\RX w wr B g cap T i' bad' X c f sv/\wr.ownsRow (B+1) 44 4 sv L.length (flRow L)) (fun _ _=>0)
      case atStart=>exact⟨rfl,X9.out,How.out⟩
      case round=>
       clear X9 How;obtain⟨rfl,hX,how⟩:=hrel;have HX:=hide hX;have How:=hide how;clear hX how;go_wp2;go_roundw
       case rel=>exact⟨k+1,i',bad',sv,L,by omega,by go_num,HX.out,How.out,HLs.out,hF9.out⟩
       case measure=>simp[intOf];omega
     | cons s0 lr=>
      generalize hl:s0::lr=l at *;have hl1:0<l.length:=by rw[←hl];simp
      have hz0:Hid ((fsk (l.map (fun s=>(k,s))) 0).1=k):=by rw[←hl];rfl
      clear hl;obtain⟨Lb,lc,rfl,hLb1,hLb2⟩:=own_form how9 hl1;have hrow9:RowF w9 Lb (l.map (fun s=>(k,s))):=by
       refine rowF_own (base:=wr.heap.size) (cap:=lc) ?_;rw[List.length_map,flRow_map];exact how9
      have hLX:Lb≠X:=by omega
      have hBL:B<Lb:=by omega
      have hI9:InvL (B+1) Lb 44 4 (.int .i64 k) w9 sv L.length (flRow L):=by
       rcases HLs.out with⟨rfl,rfl⟩|hne
       .exact .inl (World.ownsRow_nil _ _ _ _)
       .refine .inr ⟨how',?_,?_⟩
        .intro hq;have:=Hsv.out _ hq;omega
        .cases L with
         | nil=>exact absurd rfl hne
         | cons x r=>
          refine⟨.int .i64 x.1,_,rfl,?_⟩;have:=hL2 x (by simp);intro h;injection h with _ h;omega
      have HI:=hide hI9;have HRow:=hide hrow9;clear how' how9 hI9 hrow9 HLs Hsv;go_wp2_with fail
      go_loopw [10] (fun q wr=>∃(m:Nat) (sv:Value),m<=l.length/\q=.int .i64 m/\RX w wr B g cap T i' bad' X c f sv/\InvL (B+1) Lb 44 4 (.int .i64 k) wr sv (L.length+m) (flRow (L++(l.map (fun s=>(k,s))).take m))/\RowF wr Lb (l.map (fun s=>(k,s)))/\Lb<wr.heap.size) (fun q _=>1000-(intOf q).toNat)
      case atStart=>exact⟨0,sv,by omega,rfl,X9.out,by simpa using HI.out,HRow.out,hLb2⟩
      case round=>
       clear X9 HI HRow hLb2;obtain⟨m,sv',hm,rfl,hX,hI,hrow,hLw⟩:=hrel;by_cases hml:m<l.length
       .have hml':(m:Int)<l.length:=by omega
        have hmm:m<(l.map (fun s=>(k,s))).length:=by simpa using hml
        obtain⟨r0,r1,r2,r3⟩:=hrow m hmm;obtain⟨z0,_⟩:=hrow 0 (by omega);rw[hz0.out,Nat.zero_mul]at z0;obtain⟨sa,sc,rfl⟩:=own_slice (hI.own (by omega));obtain⟨x0,x1,x2,xf,_,_⟩:=hX.cells;have hxf:=xf 2;have hXw:=zL hX.hx;have hne:¬X=Lb:=by omega
        have hne2:¬Lb=X:=hLX;have htk:Hid (flRow (L++(l.map (fun s=>(k,s))).take m)++flCells (fsk (l.map (fun s=>(k,s))) m)=flRow (L++(l.map (fun s=>(k,s))).take (m+1))):=by
         unfold Hid;rw[take_next hmm,←List.append_assoc,flRow_app (L++_)];congr 1
        have HI:=hide hI;have HX:=hide hX;have HRow:=hide hrow;clear hX hI hrow xf;go_wp2_with fail;generalize fsk (l.map (fun s=>(k,s))) m=y at *
        go_region_law (refine step_append_two rfl (.tmp 81) (.tmp 86) 37 rfl (B+1) Lb (.int .i64 k) 44 it _ 4 32 Tryz.underlying37 hti htz0 htz1 htz2 rfl (by decide) _ _ _ rfl (HI.out.kept (row:=none) (grownBy_drew (World.grownBy_alloc wr _ none)) (by cases hq:Value.ownBlock _<;>simp)) ⟨wr.heap.size,0,none⟩ 1 1 (flCells y) rfl rfl (cells_new wr #[_,_,_,_] _ _ rfl) (by simp[flCells,slCells,Value.oneCell']) (by unfold maxLen;omega) (by omega) (by show B+1<=(wr.heap.push _).size;simp;omega) (by show Lb<(wr.heap.push _).size;simp;omega) ((World.cell?_alloc_past _ _ _ hLw).trans z0) ?_;intro v' w10 hI10 hgr;have hp:=HX.out.push HI.out hBL hLw hLX HRow.out hgr hI10;have HP10:=hide hp;obtain⟨va',vc',rfl⟩:=own_slice (hI10.own (by omega));have hX10:=HX.out.grow (HI.out.own (by omega)) hgr;have u1:=zC hX10 2;have u2:=zF hX10 2;clear hX10;clear hp)
        all_goals
         obtain⟨q1,q2,q3,q4⟩:=HP10.out;have Q1:=hide q1;have Q2:=hide q2;have Q3:=hide q3;have Q4:=hide q4;clear q1 q2 q3 q4 HP10;go_wp2;go_roundw
         case rel=>exact⟨m+1,_,by omega,by go_num,Q1.out,by rw[htk.out]at Q2;exact Q2.out,Q3.out,Q4.out⟩
         case measure=>simp[intOf];omega
       .have hml':¬(m:Int)<l.length:=by omega
        have hme:m=l.length:=by omega
        have HX:=hide hX;have hI2:InvL (B+1) Lb 44 4 (.int .i64 k) wr sv' (L++l.map (fun s=>(k,s))).length (flRow (L++l.map (fun s=>(k,s)))):=by
         have:(l.map (fun s=>(k,s))).take m=l.map (fun s=>(k,s)):=List.take_of_length_le (by simp;omega);rw[this]at hI;rw[List.length_append,List.length_map,←hme];exact hI
        have How:=hide (hI2.own (by omega));have hneL:Hid (L++l.map (fun s=>(k,s))≠[]):=by
         intro h;have:=congrArg List.length h;rw[List.length_append,List.length_map,List.length_nil]at this;omega
        clear hX hI hI2 hrow hLw;go_wp2;go_roundw
        case rel=>exact⟨k+1,i',bad',sv',_,by omega,by go_num,HX.out,How.out,.inr hneL.out,hF9.out⟩
        case measure=>simp[intOf];omega
    .have hex:Hid (bad=true\/(bad=false/\k=c/f)):=by
      unfold Hid
      cases bad
      .right;refine⟨rfl,?_⟩;rcases Nat.lt_or_ge k (c/f) with h|h
       .exact absurd ⟨h,rfl⟩ hgo
       .omega
      .exact .inl rfl
     have hdec:decide ((k:Int)<(c:Int)/(f:Int))=false\/(decide ((k:Int)<(c:Int)/(f:Int))=true/\bad=true):=by
      rw[hdiv];by_cases h:k<c/f
      .right;refine⟨by simp;omega,?_⟩
       cases bad
       .exact absurd ⟨h,rfl⟩ hgo
       .rfl
      .left;simp;omega
     clear hgo hdiv;obtain⟨x0,x1,x2,xf,y0,yf⟩:=hX.cells;have y0':∀o,wr.cell? ⟨w.heap.size,o,none⟩=#[Value.int .i64 0,.int .i64 0,.slice none 0 0][o]? := y0;have hXw:=zL hX.hx;have hYw:=zL hX.rw_.hy;have hYX:¬w.heap.size=X:=by have:=hX.rw_.h1;have:=hX.rw_.h2;have:=hX.h3;omega
     have hXY:¬X=w.heap.size:=fun e=>hYX e.symm;clear y0
     cases bad with
     | true=>
      have hno:Hid (¬∃t,TabOk s.data.toList t):=by
       rintro ⟨t,ht⟩;obtain⟨_,_,_,_,h5,j,h6,_⟩:=Htab.out t ht;rcases hF with⟨h,_⟩|⟨_,h⟩
       .simp at h
       .rw[h5,pN_none hk h]at h6;simp at h6
      have HG:=hide hX.rw_.g;clear hF hLs how hex hX;have hd2:decide ((k:Int)<(c:Int)/(f:Int))=false\/decide ((k:Int)<(c:Int)/(f:Int))=true:=by
       rcases hdec with h|h
       .exact .inl h
       .exact .inr h.1
      clear hdec;rcases hd2 with hdd|hdd
      all_goals
       go_wp2
       go_quiet (fail)
       go_wp2;refine bodyPost_ret (v:=.tuple #[.agg tbZ,.bool false]) (by simp[results,Tryz.results22,go_sem,tbZ,y0']) rfl (Hret.out _ ?_ hno.out);exact Hbel.out _ (grownBy_drewN HG.out _)
     | false=>
      have hdd:decide ((k:Int)<(c:Int)/(f:Int))=false:=by
       rcases hdec with h|⟨_,h⟩
       .exact h
       .simp at h
      have hkf:k=c/f:=by
       rcases hex.out with h|h
       .simp at h
       .exact h.2
      obtain⟨fs,hpN,hLf⟩:∃fs,pN (c/f) T 5=some (fs,i)/\L=zX 0 fs:=by
       rcases hF with⟨_,fs,h1,h2⟩|⟨h,_⟩
       .exact⟨fs,by rw[←hkf];exact h1,h2⟩
       .simp at h
      have hii:=hX.rw_.ps.hi;have hnn:=hX.rw_.ps.hn;have cc0:=hX.rw_.ps.c0;have cc1:=hX.rw_.ps.c1;obtain⟨t0,_⟩:=hX.rw_.ps.row i hii;have Hkf:=hide hkf;clear hF hex hdec hkf;by_cases hke:(tk T i).k=101
      .have hke':(((tk T i).k:Int) != 101)=false:=by rw[hke];rfl
       have htab:pTab T=some ⟨c,f,fs⟩:=by
        have:=pTab_of Hhd.out hpN hii hke;rw[Hc0.out,Hf0.out]at this;exact this
       have hfl:=(pN_frames hpN).1;have hmul:f*fs.length=c:=by rw[hfl];have:=Nat.div_add_mod c f;rw[Hrm.out]at this;omega
       have hsd:=hide (sound_of (t:=⟨c,f,fs⟩) hc1 hc2 hmul);have hlb:L.length<=300/\(∀q,q<L.length->(fsk L q).small)/\(∀q,q<L.length->(fsk L q).1<c):=by
        have h2:=pN_frames hpN;have h3:L.length<=300:=by rw[hLf,flatF_len];omega
        have hmem:∀q,q<L.length->(fsk L q).1<c/f/\(fsk L q).2.job<=9999/\(fsk L q).2.bud<=9999:=by
         intro q hq;have hm:fsk L q∈zX 0 fs:=by rw[←fsk_eq hq,←hLf];exact List.getElem_mem _
         obtain⟨_,m2,ff,m3,m4⟩:=flatF_mem fs 0 _ hm;exact⟨by omega,Hpn.out _ _ _ hpN ff m3 _ m4⟩
        have hcc:c/f<=c:=Nat.div_le_self c f;exact⟨h3,fun q hq=>⟨by have:=(hmem q hq).1;omega,(hmem q hq).2⟩,fun q hq=>by have:=(hmem q hq).1;omega⟩
       obtain⟨hL3,hLsm,hLfr⟩:=hlb;have hkw:k<=60:=by omega
       clear hke hpN;have HX:=hide hX;have How:=hide how;have HLs:=hide hLs;clear hX how hLs;have hTok:Hid (∀tx:List UInt8,tx=tbTxt ⟨c,f,fs⟩->(TabOk s.data.toList ⟨c,f,fs⟩↔Sound ⟨c,f,fs⟩/\tx=s.data.toList)):=by
        intro tx htx;rw[HTab0.out,htx];constructor
        .rintro ⟨_,h2,h3⟩;exact⟨h2,h3⟩
        .rintro ⟨h2,h3⟩;exact⟨htab,h2,h3⟩
       have hun:Hid (∀t,TabOk s.data.toList t->t=⟨c,f,fs⟩):=by
        intro t ht;have:=((HTab0.out t).1 ht).1;rw[htab]at this;exact(Option.some.inj this).symm
       have htx:Hid (Sound ⟨c,f,fs⟩->hdTxt c f++framesX L (c/f)=tbTxt ⟨c,f,fs⟩):=fun h=>by
        have:=tab_text h;rw[hLf];exact this
       have hrest:∀(W W1 W2:World) (b:Bool),Below wr.heap.size wr W->(b=true↔BudR f [] L/\JobsR L)->Below W.heap.size W W1->Below W1.heap.size W1 W2->
         ∀bb:Bool,bb=(b&&((bs (hdTxt c f++framesX L (c/f))).toList==s.toList))->ReadPost s w (.returned (.tuple #[.agg #[.int .i64 c,.int .i64 f,sv],.bool bb])) (((W2.setCell ⟨w.heap.size,0,none⟩ (.int .i64 c)).setCell ⟨w.heap.size,1,none⟩ (.int .i64 f)).setCell ⟨w.heap.size,2,none⟩ sv):=by
        intro W W1 W2 b hW hb h1 h2 bb hbb;have hall:Below wr.heap.size wr W2:=hW.trans ((h1.mono hW.size).trans (h2.mono (Nat.le_trans hW.size h1.size)));have hg2:w.grownBy W2 none:=zR HX.out.rw_.g (grown_below hall);have hbel:Below w.heap.size w (((W2.setCell ⟨w.heap.size,0,none⟩ (.int .i64 c)).setCell ⟨w.heap.size,1,none⟩ (.int .i64 f)).setCell ⟨w.heap.size,2,none⟩ sv):=below_grown (zG (zG (zG hg2 (Nat.le_refl _) _ _) (Nat.le_refl _) _ _) (Nat.le_refl _) _ _);have how2:=owns_below How.out hall;have hlt:w.heap.size<B+1:=by have:=HX.out.rw_.h1;have:=HX.out.rw_.h2;omega
        have how3a:(W2.setCell ⟨w.heap.size,0,none⟩ (.int .i64 c)).ownsRow (B+1) 44 4 sv L.length (flRow L):=ownsRow_setCell_below how2 hlt _;have how3b:((W2.setCell ⟨w.heap.size,0,none⟩ (.int .i64 c)).setCell ⟨w.heap.size,1,none⟩ (.int .i64 f)).ownsRow (B+1) 44 4 sv L.length (flRow L):=ownsRow_setCell_below how3a hlt _;have how3c:(((W2.setCell ⟨w.heap.size,0,none⟩ (.int .i64 c)).setCell ⟨w.heap.size,1,none⟩ (.int .i64 f)).setCell ⟨w.heap.size,2,none⟩ sv).ownsRow (B+1) 44 4 sv L.length (flRow L):=ownsRow_setCell_below how3b hlt _;have how3:=own_weak how3c (Nat.le_of_lt hlt);rw[hLf]at hb;have hbS:b=true↔Sound ⟨c,f,fs⟩:=hb.trans hsd.out;refine⟨hbel,?_⟩;rw[hbb]
        cases b with
        | false=>
         right;obtain⟨sa',sc',hsv⟩:=own_slice How.out;refine⟨?_,c,f,sa',L.length,sc',by rw[hsv];rfl⟩;rintro ⟨t,ht⟩;have:=hun.out t ht;subst this;have:=hbS.2 ht.2.2.1;simp at this
        | true=>
         have hS:=hbS.1 rfl;have htt:=htx.out hS;rw[htt];have htok:=hTok.out _ rfl;by_cases hq:tbTxt ⟨c,f,fs⟩=s.data.toList
         .left;refine⟨⟨c,f,fs⟩,sv,htok.2 ⟨hS,hq⟩,?_,?_⟩
          .have:((bs (tbTxt ⟨c,f,fs⟩)).toList==s.toList)=true:=by
            rw[ByteArray.toList_eq,ByteArray.toList_eq,bs_data,hq];simp
           rw[this];rfl
          .rw[hLf]at how3;exact how3
         .right;obtain⟨sa',sc',hsv⟩:=own_slice How.out;refine⟨?_,c,f,sa',L.length,sc',?_⟩
          .rintro ⟨t,ht⟩;have:=hun.out t ht;subst this;exact hq (htok.1 ht).2
          .have:((bs (tbTxt ⟨c,f,fs⟩)).toList==s.toList)=false:=by
            rw[ByteArray.toList_eq,ByteArray.toList_eq,bs_data];simpa using hq
           rw[this,hsv];rfl
       have Hrest:=hide hrest;have hT10:Hid (∀W,Below wr.heap.size wr W->T10 W):=fun W hW=>Ht.out.below ((below_grown HX.out.rw_.g).trans (hW.mono (below_grown HX.out.rw_.g).size));have HxB:=hide HX.out.hx;have HyB:=hide HX.out.rw_.hy;clear hrest hsd hTok hun htx htab HTab0 Htab Hpn Hret Hbel;have HLf:=hide hLf;clear hLf;by_cases hLe:L.length=0
       .have hLn:L=[]:=List.length_eq_zero_iff.1 hLe;subst hLn;obtain⟨sa,sc,rfl⟩:=own_slice How.out;simp only[List.length_nil]at *;clear hL3 hLsm hLfr hLe;go_wp2
        go_quiet (fail)
        have hbq:=below_drewN (Below.refl wr.heap.size wr) nq;go_wp2_with fail;refine(rsound_nil c f sa sc _ hc2).mono ?_;rintro e w10 ⟨b,rfl,hbj,hb10⟩;have hx10:=zK (w:=wr.drewN nq) HxB.out hb10;have hy10:=zK (w:=wr.drewN nq) HyB.out hb10;have u:=zC hx10;have Hbj:=hide hbj;have Hb10:=hide hb10;have Hbq:=hide hbq;clear hbj hb10 hbq x0 x1 x2 xf yf y0' cc0 cc1 t0;go_wp2_with fail;refine(rText_nil c f sa sc w10 hc2 hf60 hf1).mono ?_;rintro e w11 ⟨rfl,hb11⟩;have v0:=zC (zK hx10 hb11);have z0:∀o,w11.cell? ⟨w.heap.size,o,none⟩=#[Value.int .i64 0,.int .i64 0,.slice none 0 0][o]? := zC (zK hy10 hb11);have zf:=zF (zK hy10 hb11);have HR:=hide (Hrest.out _ _ _ b Hbq.out Hbj.out Hb10.out hb11);clear hx10 hy10 u hb11;generalize hdTxt c f++framesX [] (c/f)=TX at *;generalize hbb:((bs TX).toList==s.toList)=bb at *
        cases b
        all_goals
         go_wp2;refine bodyPost_ret (v:=.tuple #[.agg #[.int .i64 c,.int .i64 f,.slice sa 0 sc],.bool _]) (by simp[results,Tryz.results22,go_sem,z0];rfl) rfl (HR.out _ ?_);simp[hbb]
       .obtain⟨gb,sc,rfl,hgb1,hgb2⟩:=own_form How.out (by omega);have HRow:=hide (rowF_own How.out);have HLsm:=hide hLsm;have HLfr:=hide hLfr;clear hLsm hLfr hLe;go_wp2
        go_quiet (fail)
        have hbq:=below_drewN (Below.refl wr.heap.size wr) nq;go_wp2_with fail;refine(rsound_any c f L gb sc (wr.drewN nq) hgb2 HRow.out hL3 HLsm.out hc2 (by omega) HLfr.out).mono ?_;rintro e w10 ⟨b,rfl,hbj,hb10⟩;have hx10:=zK (w:=wr.drewN nq) HxB.out hb10;have hy10:=zK (w:=wr.drewN nq) HyB.out hb10;have HRow10:=hide (RowF.below (w:=wr.drewN nq) HRow.out hb10 hgb2);have hgb10:gb<w10.heap.size:=Nat.lt_of_lt_of_le hgb2 hb10.size;have hT10b:=hide (hT10.out w10 (hbq.trans (hb10.mono hbq.size)));have u:=zC hx10;have Hbj:=hide hbj;have Hb10:=hide hb10;have Hbq:=hide hbq;clear hbj hb10 hbq x0 x1 x2 xf yf y0' cc0 cc1 t0 HRow;go_wp2_with fail;refine(rText_any c f L gb sc w10 hgb10 HRow10.out hL3 HLsm.out hc2 hf60 hf1 hT10b.out).mono ?_;rintro e w11 ⟨rfl,hb11⟩;have v0:=zC (zK hx10 hb11);have z0:∀o,w11.cell? ⟨w.heap.size,o,none⟩=#[Value.int .i64 0,.int .i64 0,.slice none 0 0][o]? := zC (zK hy10 hb11);have zf:=zF (zK hy10 hb11);have HR:=hide (Hrest.out _ _ _ b Hbq.out Hbj.out Hb10.out hb11);clear hx10 hy10 u hb11;generalize hdTxt c f++framesX L (c/f)=TX at *;generalize hbb:((bs TX).toList==s.toList)=bb at *
        cases b
        all_goals
         go_wp2;refine bodyPost_ret (v:=.tuple #[.agg #[.int .i64 c,.int .i64 f,.slice (some ⟨gb,0,none⟩) L.length sc],.bool _]) (by simp[results,Tryz.results22,go_sem,z0];rfl) rfl (HR.out _ ?_);simp[hbb]
      .have hke':(((tk T i).k:Int) != 101)=true:=by rw[bne_iff_ne];omega
       have hno:Hid (¬∃t,TabOk s.data.toList t):=by
        rintro ⟨t,ht⟩;obtain⟨_,_,_,_,h5,j,h6,h7,h8⟩:=Htab.out t ht;rw[h5,hpN]at h6;simp at h6;rw[←h6.2]at h8;exact hke h8
       have HG:=hide hX.rw_.g;clear hLs how hX hke hpN;go_wp2
       go_quiet (fail)
       go_wp2;refine bodyPost_ret (v:=.tuple #[.agg tbZ,.bool false]) (by simp[results,Tryz.results22,go_sem,tbZ,y0']) rfl (Hret.out _ ?_ hno.out);exact Hbel.out _ (grownBy_drewN HG.out _)
  .have hno:Hid (¬∃t,TabOk s.data.toList t):=by
    rintro ⟨t,ht⟩;obtain⟨q1,q2,q3,q4,_⟩:=Htab.out t ht;exact hcc ⟨q1,q2,q3,q4⟩
   have hcs:(c:Int)<1\/(¬(c:Int)<1/\(60:Int)<c)\/(¬(c:Int)<1/\¬(60:Int)<c/\(f:Int)<1)\/(¬(c:Int)<1/\¬(60:Int)<c/\¬(f:Int)<1/\(((c:Int)%(f:Int)) != 0)=true):=by
    have e:((c:Int)%(f:Int))=((c%f:Nat):Int):=by simp
    rw[e];by_cases a1:(c:Int)<1
    .exact .inl a1
    .by_cases a2:(60:Int)<c
     .exact .inr (.inl ⟨a1,a2⟩)
     .by_cases a3:(f:Int)<1
      .exact .inr (.inr (.inl ⟨a1,a2,a3⟩))
      .refine .inr (.inr (.inr ⟨a1,a2,a3,?_⟩));rw[bne_iff_ne];intro h0;exact hcc ⟨by omega,by omega,by omega,by omega⟩
   clear hcc;have hf0':(f:Int)<1\/¬(f:Int)=0:=by omega
   rcases hcs with a1|⟨a1,a2⟩|⟨a1,a2,a3⟩|⟨a1,a2,a3,a4⟩
   all_goals
    try (have a5:¬(f:Int)=0:=by omega)
    clear hf0';go_wp2;refine bodyPost_ret (v:=.tuple #[.agg tbZ,.bool false]) (by simp[results,Tryz.results22,go_sem,tbZ,y0]) rfl (Hret.out _ ?_ hno.out);exact Hbel.out _ HP.out.g
theorem rReadTable_any (s:ByteArray)(w:World)(hm:s.size<=9223372036854775807)(ht:T10 w):
  Calls Tryz.prog 22 #[.string s] w (ReadPost s w):=by
 by_cases hs:800<s.size
 .exact rReadTable_long s w hs hm
 .exact rReadTable_short s w (by omega) ht
structure Spt where
 fst:Int
 lst:Int
 cost:Nat
def isOf (x:FSl) (n:UInt8) (k:Nat):Prop:=x.2.nm=n/\x.2.job=k
instance (x:FSl) (n:UInt8) (k:Nat):Decidable (isOf x n k):=by unfold isOf;infer_instance
def spotTo (l:List FSl) (n:UInt8) (k:Nat):Nat->Spt
 | 0=>⟨-1,-1,0⟩
 | q+1=>if isOf (fsk l q) n k then ⟨if (spotTo l n k q).fst<0 then q else (spotTo l n k q).fst,q,(spotTo l n k q).cost+(fsk l q).2.bud⟩ else spotTo l n k q
def spotL (l:List FSl) (n:UInt8) (k:Nat):Spt:=spotTo l n k l.length
theorem spotTo_yes {l:List FSl}{n:UInt8}{k q:Nat}(h:isOf (fsk l q) n k):spotTo l n k (q+1)=⟨if (spotTo l n k q).fst<0 then q else (spotTo l n k q).fst,q,(spotTo l n k q).cost+(fsk l q).2.bud⟩:=by
 rw[spotTo,if_pos h]
theorem spotTo_no {l:List FSl}{n:UInt8}{k q:Nat}(h:¬isOf (fsk l q) n k):spotTo l n k (q+1)=spotTo l n k q:=by
 rw[spotTo,if_neg h]
theorem spotTo_in (l:List FSl)(n:UInt8)(k:Nat):∀q,-1<=(spotTo l n k q).fst/\(spotTo l n k q).fst<=(spotTo l n k q).lst/\(spotTo l n k q).lst<q
 | 0=>by simp[spotTo]
 | q+1=>by
  have ih:=spotTo_in l n k q;rw[spotTo];split
  .refine⟨?_,?_,?_⟩
   .show -1<=if (spotTo l n k q).fst<0 then (q:Int) else (spotTo l n k q).fst;split<;>omega
   .show (if (spotTo l n k q).fst<0 then (q:Int) else (spotTo l n k q).fst)<=(q:Int);split<;>omega
   .show (q:Int)<((q+1:Nat):Int);omega
  .omega
theorem spotTo_cost {l:List FSl}(hs:∀i,i<l.length->(fsk l i).small)(n:UInt8)(k:Nat):∀q,q<=l.length->(spotTo l n k q).cost<=q*9999
 | 0,_=>Nat.zero_le _
 | q+1,h=>by
  have ih:=spotTo_cost hs n k q (by omega);have hb:(fsk l q).2.bud<=9999:=(hs q (by omega)).2.2;have e:(q+1)*9999=q*9999+9999:=Nat.succ_mul q 9999;rw[spotTo,e];clear e hs;generalize q*9999=z at *;split
  .show (spotTo l n k q).cost+(fsk l q).2.bud<=z+9999;omega
  .omega
def sptV (p:Spt):Array Value:=#[.int .i64 p.fst,.int .i64 p.lst,.int .i64 p.cost]
structure SpX (w wr:World) (c f:Nat) (sv:Value) (p:Spt):Prop where
 t:TBx w wr c f sv
 r:wr.heap[w.heap.size+1]? =some (.cells #[.int .i64 0,.int .i64 0,.int .i64 0] 78 (0,0))
 p:wr.heap[w.heap.size+1+1]? =some (.cells (sptV p) 78 (0,0))
section
variable {w wr:World} {c f:Nat} {sv:Value} {p:Spt}
theorem SpX.start (w:World)(c f:Nat)(sv:Value):SpX w (((w.alloc (.cells #[.int .i64 c,.int .i64 f,sv] 39)).alloc (.cells #[.int .i64 0,.int .i64 0,.int .i64 0] 78)).alloc (.cells #[.int .i64 (-1),.int .i64 (-1),.int .i64 0] 78)) c f sv ⟨-1,-1,0⟩:=by
 have h1:=zW (w.alloc (.cells #[.int .i64 c,.int .i64 f,sv] 39)) #[.int .i64 0,.int .i64 0,.int .i64 0] 78;have h2:=zW ((w.alloc (.cells #[.int .i64 c,.int .i64 f,sv] 39)).alloc (.cells #[.int .i64 0,.int .i64 0,.int .i64 0] 78)) #[.int .i64 (-1),.int .i64 (-1),.int .i64 0] 78;have h1':=zK h1 (zN _ (.cells #[.int .i64 (-1),.int .i64 (-1),.int .i64 0] 78));simp only[World.size_alloc]at h1' h2;exact⟨((TBx.start w c f sv).alloc _).alloc _,h1',h2⟩
theorem SpX.drew (h:SpX w wr c f sv p):SpX w wr.drew c f sv p:=⟨h.t.drewN 1,h.r,h.p⟩
theorem SpX.set (h:SpX w wr c f sv p)(o:Nat)(v:Int)(q:Spt)(hq:(sptV p).setIfInBounds o (.int .i64 v)=sptV q):SpX w (wr.setCell ⟨w.heap.size+1+1,o,none⟩ (.int .i64 v)) c f sv q:=by
 refine⟨⟨?_,?_⟩,?_,?_⟩
 .rw[Below.heap_setCell _ _ _ _ (by show w.heap.size≠w.heap.size+1+1;omega)];exact h.t.h
 .exact h.t.b.setCell (by show w.heap.size<=w.heap.size+1+1;omega) _
 .rw[Below.heap_setCell _ _ _ _ (by show w.heap.size+1≠w.heap.size+1+1;omega)];exact h.r
 .rw[zS h.p,hq]
theorem SpX.cells (h:SpX w wr c f sv p):wr.cell? ⟨w.heap.size+1+1,0,none⟩=some (.int .i64 p.fst)/\wr.cell? ⟨w.heap.size+1+1,1,none⟩=some (.int .i64 p.lst)/\wr.cell? ⟨w.heap.size+1+1,2,none⟩=some (.int .i64 p.cost):=by
 refine⟨?_,?_,?_⟩<;>(rw[zC h.p];rfl)
theorem SpX.loose (h:SpX w wr c f sv p)(o:Nat):wr.frozen? ⟨w.heap.size+1+1,o,none⟩=false:=zF h.p o
end
theorem rspot_any (c f:Nat)(l:List FSl)(g cap:Nat)(n:UInt8)(j:Nat)(w:World)(hg:g<w.heap.size)(hr:RowF w g l)(hn:l.length<=300)(hs:∀k,k<l.length->(fsk l k).small)(hj:j<=9999):
  Calls Tryz.prog 47 #[.agg #[.int .i64 c,.int .i64 f,.slice (some ⟨g,0,none⟩) l.length cap],.int .u8 n.toNat,.int .i64 j] w fun e w'=>e=.returned (.agg (sptV (spotL l n j)))/\Below w.heap.size w w':=by
 have Hr:=hide hr;have Hs:=hide hs;have H0:=hide (SpX.start w c f (.slice (some ⟨g,0,none⟩) l.length cap));clear hr hs;go_enter Tryz.func47,Tryz.ntmps47;go_wp2_with fail
 go_loopw [8] (fun i wr=>∃q:Nat,q<=l.length/\i=.int .i64 q/\SpX w wr c f (.slice (some ⟨g,0,none⟩) l.length cap) (spotTo l n j q)) (fun i _=>l.length-(intOf i).toNat)
 case atStart=>exact⟨0,by omega,rfl,H0.out⟩
 case round=>
  clear H0;obtain⟨q,hq,rfl,hS⟩:=hrel;obtain⟨x0,x1,x2⟩:=hS.t.cells;obtain⟨p0,p1,p2⟩:=hS.cells;have hfz:=hS.loose;have HS:=hide hS;by_cases hlt:q<l.length
  .have hlt':(q:Int)<l.length:=by omega
   obtain⟨k0,k1,k2,k3⟩:=Hr.out.below hS.t.b hg q hlt;obtain⟨hk1,hk2,hk3⟩:=Hs.out q hlt;have hin:=spotTo_in l n j q;have hco:=spotTo_cost Hs.out n j q hq;have hne:¬g=w.heap.size+1+1:=by omega
   have hne2:¬w.heap.size+1+1=g:=by omega
   clear hS;by_cases hnm:(fsk l q).2.nm=n
   .have hnm':(((fsk l q).2.nm.toNat:Int)==n.toNat)=true:=by rw[hnm];simp
    by_cases hjb:(fsk l q).2.job=j
    .have hjb':(((fsk l q).2.job:Int)==j)=true:=by rw[hjb];simp
     have hy:=spotTo_yes (l:=l) (n:=n) (k:=j) (q:=q) ⟨hnm,hjb⟩;by_cases h0:(spotTo l n j q).fst<0
     .have HS2:=hide (((HS.out.set 0 q ⟨q,(spotTo l n j q).lst,(spotTo l n j q).cost⟩ rfl).set 1 q ⟨q,q,(spotTo l n j q).cost⟩ rfl).set 2 ((spotTo l n j q).cost+(fsk l q).2.bud) (spotTo l n j (q+1)) (by rw[hy,if_pos h0];rfl)).drew;clear hnm hjb hy HS;go_wp2_with fail
      go_region
      all_goals
       go_wp2_with fail;go_roundw
       case rel=>exact⟨q+1,by omega,by go_num,HS2.out⟩
       case measure=>simp[intOf];omega
     .have HS2:=hide ((HS.out.set 1 q ⟨(spotTo l n j q).fst,q,(spotTo l n j q).cost⟩ rfl).set 2 ((spotTo l n j q).cost+(fsk l q).2.bud) (spotTo l n j (q+1)) (by rw[hy,if_neg h0];rfl)).drew;clear hnm hjb hy HS;go_wp2_with fail
      go_region
      all_goals
       go_wp2_with fail;go_roundw
       case rel=>exact⟨q+1,by omega,by go_num,HS2.out⟩
       case measure=>simp[intOf];omega
    .have hjb':(((fsk l q).2.job:Int)==j)=false:=by simp;omega
     have hy:=spotTo_no (l:=l) (n:=n) (k:=j) (q:=q) (fun h=>hjb h.2);have HS2:Hid (SpX w wr c f (.slice (some ⟨g,0,none⟩) l.length cap) (spotTo l n j (q+1))):=by rw[hy];exact HS
     clear hnm hjb hy HS;go_wp2_with fail;go_roundw
     case rel=>exact⟨q+1,by omega,by go_num,HS2.out⟩
     case measure=>simp[intOf];omega
   .have hnm':(((fsk l q).2.nm.toNat:Int)==n.toNat)=false:=by
     have:(fsk l q).2.nm.toNat≠n.toNat:=fun h=>hnm (UInt8.toNat_inj.1 h);simp;omega
    have hy:=spotTo_no (l:=l) (n:=n) (k:=j) (q:=q) (fun h=>hnm h.1);have HS2:Hid (SpX w wr c f (.slice (some ⟨g,0,none⟩) l.length cap) (spotTo l n j (q+1))):=by rw[hy];exact HS
    clear hnm hy HS;go_wp2_with fail;go_roundw
    case rel=>exact⟨q+1,by omega,by go_num,HS2.out⟩
    case measure=>simp[intOf];omega
  .have hlt':¬(q:Int)<l.length:=by omega
   have hqe:q=l.length:=by omega
   subst hqe;have r0:wr.cell? ⟨w.heap.size+1,0,none⟩=some (.int .i64 0):=zC hS.r 0;have r1:wr.cell? ⟨w.heap.size+1,1,none⟩=some (.int .i64 0):=zC hS.r 1;have r2:wr.cell? ⟨w.heap.size+1,2,none⟩=some (.int .i64 0):=zC hS.r 2;have rz:=zF hS.r;have HB:=hide hS.t.b;have hsp:Hid (sptV (spotTo l n j l.length)=sptV (spotL l n j)):=rfl;clear hS HS;go_wp2;exact bodyPost_ret (v:=.agg (sptV (spotL l n j))) (by simp[results,Tryz.results47,go_sem,sptV,spotL,r0,r1,r2]) rfl
    ⟨rfl,((HB.out.setCell (by show w.heap.size<=w.heap.size+1;omega) _).setCell (by show w.heap.size<=w.heap.size+1;omega) _).setCell (by show w.heap.size<=w.heap.size+1;omega) _⟩
end
end Go.Proofs.YtbdffcjganlblaaGreatDoor
