import Derived.Test.YtbdffcjganlblaaGreatDoorAProgItoRnA
import Derived.Test.YtbdffcjganlblaaGreatDoorARunBtoPrA
import Derived.Test.YtbdffcjganlblaaGreatDoorARnMtoRefA
import Derived.Deep.RegionHeldLaw
import Derived.Test.YtbdffcjganlblaaGreatDoorAProgBtoProgC
import Derived.Test.YtbdffcjganlblaaGreatDoorARnDtoTabD
import Derived.Test.YtbdffcjganlblaaGreatDoorAPrBtoPrD
set_option linter.unusedVariables false
set_option linter.unusedSimpArgs false
set_option maxRecDepth 100000
set_option maxHeartbeats 16000000
namespace Go.Proofs.YtbdffcjganlblaaGreatDoor
section
open Go.RowKit
structure KeepJ (R J:Nat) (w w':World):Prop where
 size:w.heap.size<=w'.heap.size
 block:∀i,i<w.heap.size->i≠R->i≠J->(∀c fr,w.heap[i]? ≠ some (.cells c 5 fr))->w'.heap[i]? =w.heap[i]?
theorem KeepR.j {R:Nat}{w w':World}(h:KeepR R w w')(J:Nat):KeepJ R J w w':=⟨h.size,fun i a b _ c=>h.block i a b c⟩
theorem KeepJ.trans {R J:Nat}{a b c:World}(h:KeepJ R J a b)(k:KeepJ R J b c):KeepJ R J a c:=
 ⟨Nat.le_trans h.size k.size,fun i hi hR hJ hu=>by
  have e:=h.block i hi hR hJ hu;rw[k.block i (Nat.lt_of_lt_of_le hi h.size) hR hJ (fun c fr=>by rw[e];exact hu c fr),e]⟩
theorem KeepJ.setJ {R J:Nat}{a b:World}(h:KeepJ R J a b)(o:Nat)(v:Value):KeepJ R J a (b.setCell ⟨J,o,none⟩ v):=
 h.trans ⟨by simp[World.setCell],fun i hi _ hJ _=>Below.heap_setCell _ _ _ _ hJ⟩
theorem KeepJ.setR {R J:Nat}{a b:World}(h:KeepJ R J a b)(o:Nat)(v:Value):KeepJ R J a (b.setCell ⟨R,o,none⟩ v):=
 h.trans ⟨by simp[World.setCell],fun i hi hR _ _=>Below.heap_setCell _ _ _ _ hR⟩
theorem KeepJ.blk {R J:Nat}{a b:World}(h:KeepJ R J a b){i:Nat}{c:Array Value}{ty:TypeId}{fr:Nat×Nat}(hb:a.heap[i]? =some (.cells c ty fr))(hR:i≠R)(hJ:i≠J)(ht:ty≠5):b.heap[i]? =some (.cells c ty fr):=by
 rw[h.block i (zL hb) hR hJ (fun c' fr' e=>?_)]
 .exact hb
 .rw[hb]at e;simp at e;exact ht e.2.1
structure JR (B R J:Nat) (csv:Value) (bg:Nat) (L:List UInt8) (nm:UInt8) (bud left:Nat) (want:Int) (w:World):Prop where
 r:IsRun B R csv bg L w
 j:w.heap[J]? =some (.cells (jobV nm bud left want) 166 (0,0))
section
variable {B R J:Nat} {csv:Value} {bg:Nat} {L:List UInt8} {nm:UInt8} {bud left:Nat} {want:Int} {w:World}
theorem IsRun.blk (h:IsRun B R csv bg L w):B<=R/\∃p v,(p=.pointer none\/p=.pointer (some ⟨R,2,none⟩))/\w.heap[R]? =some (.cells #[csv,.int .i64 bg,p,v] 118 (0,0))/\w.ownsRow B 5 1 v L.length (bV L):=by
 rcases h with⟨hB,v,hb,ho⟩|⟨hB,v,hb,ho⟩
 .exact⟨hB,_,v,.inl rfl,hb,ho⟩
 .exact⟨hB,_,v,.inr rfl,hb,ho⟩
theorem isRun_of {p v:Value}(hB:B<=R)(hp:p=.pointer none\/p=.pointer (some ⟨R,2,none⟩))(hb:w.heap[R]? =some (.cells #[csv,.int .i64 bg,p,v] 118 (0,0)))(ho:w.ownsRow B 5 1 v L.length (bV L)):IsRun B R csv bg L w:=by
 rcases hp with rfl|rfl
 .exact .inl ⟨hB,v,hb,ho⟩
 .exact .inr ⟨hB,v,hb,ho⟩
theorem JR.ne (h:JR B R J csv bg L nm bud left want w):J≠R:=by
 obtain⟨_,p,v,_,hb,_⟩:=h.r.blk;intro e;have:=h.j;rw[e,hb]at this;simp at this
theorem IsRun.setOther (h:IsRun B R csv bg L w){X:Nat}{c:Array Value}{ty:TypeId}(hX:w.heap[X]? =some (.cells c ty (0,0)))(hne:X≠R)(ht:ty≠5)(o:Nat)(v:Value):IsRun B R csv bg L (w.setCell ⟨X,o,none⟩ v):=by
 obtain⟨hB,p,vv,hp,hb,ho⟩:=h.blk;refine isRun_of hB hp (by rw[Below.heap_setCell _ _ _ _ (fun e=>hne e.symm)];exact hb) ?_;refine ho.kept (row:=some X) ⟨rfl,rfl,rfl,by simp[World.setCell],fun k _ hk=>Below.heap_setCell _ _ _ _ (fun e=>hk (by simp[e]))⟩ (Or.inr ?_);exact Lib.ownBlock_ne ho hX ht
theorem JR.setJ (h:JR B R J csv bg L nm bud left want w)(o:Nat)(v:Value){left':Nat}{want':Int}(hc:(jobV nm bud left want).setIfInBounds o v=jobV nm bud left' want'):JR B R J csv bg L nm bud left' want' (w.setCell ⟨J,o,none⟩ v):=
 ⟨h.r.setOther h.j h.ne (by decide) _ _,by rw[zS h.j,hc]⟩
theorem JR.setBg (h:JR B R J csv bg L nm bud left want w)(bg':Nat):JR B R J csv bg' L nm bud left want (w.setCell ⟨R,1,none⟩ (.int .i64 bg')):=by
 refine⟨?_,by rw[Below.heap_setCell _ _ _ _ h.ne];exact h.j⟩;rcases h.r with h1|h1
 .exact .inl (h1.set _)
 .exact .inr (h1.set _)
theorem JR.cells (h:JR B R J csv bg L nm bud left want w):w.cell? ⟨J,0,none⟩=some (.int .u8 nm.toNat)/\w.cell? ⟨J,1,none⟩=some (.int .i64 bud)/\w.cell? ⟨J,2,none⟩=some (.int .i64 left)/\w.cell? ⟨J,3,none⟩=some (.int .i64 want)/\(∀o,w.frozen? ⟨J,o,none⟩=false)/\
  w.cell? ⟨R,0,none⟩=some csv/\w.cell? ⟨R,1,none⟩=some (.int .i64 bg)/\∀o,w.frozen? ⟨R,o,none⟩=false:=by
 obtain⟨_,p,v,_,hb,_⟩:=h.r.blk;refine⟨by rw[zC h.j];rfl,by rw[zC h.j];rfl,by rw[zC h.j];rfl,by rw[zC h.j];rfl,zF h.j,by rw[zC hb];rfl,by rw[zC hb];rfl,zF hb⟩
theorem JR.wrote (h:JR B R J csv bg L nm bud left want w){w':World}{L':List UInt8}(hr:RunAt B R csv bg (.pointer (some ⟨R,2,none⟩)) L' w')(hk:KeepR R w w'):JR B R J csv bg L' nm bud left want w':=
 ⟨.inr hr,hk.blk h.j h.ne (by decide)⟩
end
theorem JR.drew {B R J:Nat}{csv:Value}{bg:Nat}{L:List UInt8}{nm:UInt8}{bud left:Nat}{want:Int}{w:World}(h:JR B R J csv bg L nm bud left want w):JR B R J csv bg L nm bud left want w.drew:=⟨h.r,h.j⟩
theorem KeepJ.drew {R J:Nat}{a b:World}(h:KeepJ R J a b):KeepJ R J a b.drew:=⟨h.size,h.block⟩
theorem begin_any (B R J:Nat)(a:Option Addr)(cs:List Int)(cap bg:Nat)(L:List UInt8)(nm:UInt8)(bud left:Nat)(want:Int)(w:World)(h:JR B R J (.slice a cs.length cap) bg L nm bud left want w)(hc:CostsAt w a cs)(hcR:0<cs.length->∀b off,a=some ⟨b,off,none⟩->b≠R/\b≠J)(hn:cs.length<=1000000)(hm:bg<=1000000000)(hbj:B<=J):
  Calls Tryz.prog 116 #[.pointer (some ⟨R,0,none⟩),.pointer (some ⟨J,0,none⟩)] w fun e w'=>e=.returned (.tuple #[])/\JR B R J (.slice a cs.length cap) (bg+1) L nm bud bud (wantsL cs bg bud) w'/\Below B w w'/\KeepJ R J w w':=by
 obtain⟨j0,j1,j2,j3,jf,r0,r1,rf⟩:=h.cells;have hne:=h.ne;have hne2:¬R=J:=fun e=>hne e.symm;have hne1:¬J=R:=hne;have hBR:B<=R:=h.r.blk.1;have HJ:=hide h;have hb1:((bg:Int)+1)=((bg+1:Nat):Int):=by omega
 by_cases h0:cs.length=0
 .have hz:Hid (wantsL cs bg bud=bud):=by unfold Hid wantsL;rw[if_pos h0]
  have h0':¬(0:Int)<cs.length:=by omega
  have HF:=hide (((HJ.out.setJ 2 (.int .i64 bud) (left':=bud) (want':=want) rfl).setJ 3 (.int .i64 bud) (left':=bud) (want':=bud) rfl).setBg (bg+1));have HB:=hide ((((Below.refl B w).setCell (p:=⟨J,2,none⟩) hbj (.int .i64 bud)).setCell (p:=⟨J,3,none⟩) hbj (.int .i64 bud)).setCell (p:=⟨R,1,none⟩) hBR (.int .i64 ((bg+1:Nat):Int)));have HK:=hide (((((KeepR.refl R w).j J).setJ 2 (.int .i64 bud)).setJ 3 (.int .i64 bud)).setR 1 (.int .i64 ((bg+1:Nat):Int)));rw[←hb1]at HB HK;have HF2:Hid (JR B R J (.slice a cs.length cap) (bg+1) L nm bud bud bud (((w.setCell ⟨J,2,none⟩ (.int .i64 bud)).setCell ⟨J,3,none⟩ (.int .i64 bud)).setCell ⟨R,1,none⟩ (.int .i64 ((bg:Int)+1)))):=by rw[hb1];exact HF.out
  clear h hc hcR HJ HF hb1 h0;go_enter Tryz.func116,Tryz.ntmps116;go_wp2
  go_end0
  rw[hz.out];exact⟨rfl,HF2.out,HB.out,HK.out⟩
 .obtain⟨x,off,rfl,hx,hr⟩:∃b off,a=some ⟨b,off,none⟩/\b<w.heap.size/\∀k,k<cs.length->w.cell? ⟨b,off+k,none⟩=some (.int .i64 (cs.getD k 0)):=by
   rcases hc with hc|hc
   .rw[hc]at h0;exact absurd rfl h0
   .exact hc
  obtain⟨hxR,hxJ⟩:=hcR (by omega) x off rfl;have hxR1:¬x=R:=hxR;have hxJ1:¬x=J:=hxJ;have hxR2:¬R=x:=fun e=>hxR e.symm;have hxJ2:¬J=x:=fun e=>hxJ e.symm;have hz:Hid (wantsL cs bg bud=cs.getD (bg%cs.length) 0):=by unfold Hid wantsL;rw[if_neg h0]
  have h0':(0:Int)<cs.length:=by omega
  have hlt:=Nat.mod_lt bg (show 0<cs.length by omega);have hcc:=hr _ hlt;have hi1:0<=(bg:Int)%cs.length:=by rw[←Int.natCast_emod];exact Int.natCast_nonneg _
  have hi2:(bg:Int)%cs.length<cs.length:=by rw[←Int.natCast_emod];exact Int.ofNat_lt.2 hlt
  have hi3:¬(cs.length:Int)=0:=by omega
  generalize cs.getD (bg%cs.length) 0=V at *;have HF:=hide ((((HJ.out.setJ 2 (.int .i64 bud) (left':=bud) (want':=want) rfl).setJ 3 (.int .i64 bud) (left':=bud) (want':=bud) rfl).setJ 3 (.int .i64 V) (left':=bud) (want':=V) rfl).setBg (bg+1)).drew;have HB:=hide ((((((Below.refl B w).setCell (p:=⟨J,2,none⟩) hbj (.int .i64 bud)).setCell (p:=⟨J,3,none⟩) hbj (.int .i64 bud)).setCell (p:=⟨J,3,none⟩) hbj (.int .i64 V)).setCell (p:=⟨R,1,none⟩) hBR (.int .i64 ((bg+1:Nat):Int)))).drew;have HK:=hide ((((((KeepR.refl R w).j J).setJ 2 (.int .i64 bud)).setJ 3 (.int .i64 bud)).setJ 3 (.int .i64 V)).setR 1 (.int .i64 ((bg+1:Nat):Int))).drew;rw[←hb1]at HB HK;have HF2:Hid (JR B R J (.slice (some ⟨x,off,none⟩) cs.length cap) (bg+1) L nm bud bud V ((((w.setCell ⟨J,2,none⟩ (.int .i64 bud)).setCell ⟨J,3,none⟩ (.int .i64 bud)).setCell ⟨J,3,none⟩ (.int .i64 V)).setCell ⟨R,1,none⟩ (.int .i64 ((bg:Int)+1))).drew):=by rw[hb1];exact HF
  clear h hc hcR HJ hr hb1 HF h0;go_enter Tryz.func116,Tryz.ntmps116;go_wp2_with fail
  go_region
  all_goals
   go_wp2
   go_end0
   rw[hz.out];exact⟨rfl,HF2.out,HB,HK⟩
theorem JR.byte {B R J:Nat}{csv:Value}{bg:Nat}{L:List UInt8}{nm:UInt8}{bud left:Nat}{want:Int}{w:World}(h:JR B R J csv bg L nm bud left want w)(hL:L.length+1<=100000)(c:UInt8)(ci:Int)(hc:ci=c.toNat):
  Calls Tryz.prog 115 #[.pointer (some ⟨R,2,none⟩),.int .u8 ci] w fun e w'=>e=.returned .nilIface/\JR B R J csv bg (L++[c]) nm bud left want w'/\Below B w w'/\KeepJ R J w w':=by
 subst hc;refine(writeByte_run B R csv bg L c w h.r hL).mono ?_;rintro e w' ⟨rfl,h1,h2,h3⟩;exact⟨rfl,h.wrote h1 h3,h2,h3.j J⟩
def giveO (nm:UInt8) (left:Nat) (want:Int):List UInt8:=if want=0 then [46] else [nm]++if left=0/\0<want-1 then [33,nm] else []
def giveW (want:Int):Int:=if want=0 then want else want-1
theorem give_any (B R J:Nat)(csv:Value)(bg:Nat)(L:List UInt8)(nm:UInt8)(bud left:Nat)(want:Int)(w:World)(h:JR B R J csv bg L nm bud left want w)(hbj:B<=J)(hl1:1<=left)(hl2:left<=1000000)(hw1:0<=want)(hw2:want<=1000000000)(hL:L.length+3<=100000):
  Calls Tryz.prog 117 #[.pointer (some ⟨R,0,none⟩),.pointer (some ⟨J,0,none⟩)] w fun e w'=>e=.returned (.tuple #[])/\JR B R J csv bg (L++giveO nm (left-1) want) nm bud (left-1) (giveW want) w'/\Below B w w'/\KeepJ R J w w':=by
 obtain⟨j0,j1,j2,j3,jf,r0,r1,rf⟩:=h.cells;have hne:=h.ne;have hBR:B<=R:=h.r.blk.1;have hb1:((left:Int)-1)=((left-1:Nat):Int):=by omega
 have HJ1:Hid (JR B R J csv bg L nm bud (left-1) want (w.setCell ⟨J,2,none⟩ (.int .i64 ((left:Int)-1)))):=h.setJ 2 _ (by rw[hb1];rfl);have HB1:=hide ((Below.refl B w).setCell (p:=⟨J,2,none⟩) hbj (.int .i64 ((left:Int)-1)));have HK1:=hide (((KeepR.refl R w).j J).setJ 2 (.int .i64 ((left:Int)-1)));clear h hb1;by_cases h0:want=0
 .have eo:Hid (giveO nm (left-1) want=[46]):=by unfold Hid giveO;rw[if_pos h0]
  have ew:Hid (giveW want=want):=by unfold Hid giveW;rw[if_pos h0]
  rw[eo.out,ew.out];have h0':(want==0)=true:=by simp[h0]
  clear h0 eo ew;go_enter Tryz.func117,Tryz.ntmps117;go_wp2_with fail;refine(HJ1.out.byte (by omega) 46 46 rfl).mono ?_;rintro e w2 ⟨rfl,h2,hb2,hk2⟩;have H2:=hide h2;have HB2:=hide (HB1.out.trans hb2);have HK2:=hide (HK1.out.trans hk2);clear h2 hb2 hk2 j0 j1 j2 j3 jf r0 r1 rf;go_wp2;refine bodyPost_ret (results_none rfl _ _ _) rfl ?_;exact⟨rfl,H2.out,HB2.out,HK2.out⟩
 .have ew:Hid (giveW want=want-1):=by unfold Hid giveW;rw[if_neg h0]
  have h0':(want==0)=false:=by simp[h0]
  have HJ2:Hid (JR B R J csv bg L nm bud (left-1) (want-1) ((w.setCell ⟨J,2,none⟩ (.int .i64 ((left:Int)-1))).setCell ⟨J,3,none⟩ (.int .i64 (want-1)))):=HJ1.out.setJ 3 _ rfl;have HB2:=hide (HB1.out.setCell (p:=⟨J,3,none⟩) hbj (.int .i64 (want-1)));have HK2:=hide (HK1.out.setJ 3 (.int .i64 (want-1)));rw[ew.out];have eo:Hid (giveO nm (left-1) want=[nm]++if left-1=0/\0<want-1 then [33,nm] else []):=by unfold Hid giveO;rw[if_neg h0]
  have hj0:=hide ((HJ2.out.drew).cells.1);clear HJ1 HB1 HK1 ew h0;go_enter Tryz.func117,Tryz.ntmps117;go_wp2_with fail
  go_region_held_law (fun w'=>w'.cell? ⟨J,0,none⟩=some (.int .u8 nm.toNat)) (first|exact hj0.out|exact h8c)
   (first|(go_at_call 115;refine(HJ2.out.drew.byte (by omega) nm _ rfl).mono ?_;rintro e w8 ⟨rfl,hj8,hb8,hk8⟩;have h8c:=hj8.cells.1))
  all_goals
   obtain⟨k0,k1,k2,k3,kf,q0,q1,qf⟩:=hj8.cells;have H8:=hide hj8;have HB8:=hide (HB2.out.trans (Below.trans ((Below.refl B _).drew) hb8));have HK8:=hide (HK2.out.trans (KeepJ.trans (KeepJ.drew ((KeepR.refl R _).j J)) hk8));clear hj8 hb8 hk8 j0 j1 j2 j3 jf r0 r1 rf HJ2 HB2 HK2 hj0 h8c;by_cases hm:left-1=0/\0<want-1
   .have e1:Hid (giveO nm (left-1) want=[nm]++[33]++[nm]):=by unfold Hid;rw[eo.out,if_pos hm];rfl
    have hm1:(((left-1:Nat):Int)==0)=true:=by simp[hm.1]
    have hm2:(0:Int)<want-1:=hm.2;clear eo hm;go_wp2_with fail;refine(H8.out.byte (by simp;omega) 33 33 rfl).mono ?_;rintro e w9 ⟨rfl,hj9,hb9,hk9⟩;have H9:=hide hj9;have HB9:=hide (HB8.out.trans hb9);have HK9:=hide (HK8.out.trans hk9);have hn0:=hide (hj9.drew.cells.1);obtain⟨k0,_,_,_,_,_,_,_⟩:=hj9.cells;clear hj9 hb9 hk9 H8 HB8 HK8 k1 k2 k3 kf q0 q1 qf;go_wp2_with fail
    go_region_held_law (fun w'=>w'.cell? ⟨J,0,none⟩=some (.int .u8 nm.toNat)) (first|exact hn0.out|exact h8c)
     (first|(go_at_call 115;refine(H9.out.drew.byte (by simp;omega) nm _ rfl).mono ?_;rintro e w10 ⟨rfl,hj10,hb10,hk10⟩;have h8c:=hj10.cells.1))
    all_goals
     have HA:=hide hj10;have HBA:=hide (HB9.out.trans (Below.trans ((Below.refl B _).drew) hb10));have HKA:=hide (HK9.out.trans (KeepJ.trans (KeepJ.drew ((KeepR.refl R _).j J)) hk10));clear hj10 hb10 hk10 h8c k0 hn0 H9 HB9 HK9;go_wp2
     go_end0
     exact⟨rfl,by rw[e1.out,←List.append_assoc,←List.append_assoc];exact HA.out,HBA.out,HKA.out⟩
   .have e1:Hid (giveO nm (left-1) want=[nm]):=by unfold Hid;rw[eo.out,if_neg hm];rfl
    clear eo;by_cases hz:left-1=0
    .have hm1:(((left-1:Nat):Int)==0)=true:=by simp[hz]
     have hm2:¬(0:Int)<want-1:=fun x=>hm ⟨hz,x⟩;clear hm hz;go_wp2
     go_end0
     exact⟨rfl,by rw[e1.out];exact H8.out,HB8.out,HK8.out⟩
    .have hm1:(((left-1:Nat):Int)==0)=false:=by simp;omega
     clear hm hz;go_wp2
     go_end0
     exact⟨rfl,by rw[e1.out];exact H8.out,HB8.out,HK8.out⟩
theorem tickN_any (B R:Nat)(csv:Value)(bg:Nat)(L:List UInt8)(w:World)(h:IsRun B R csv bg L w)(hL:L.length+1<=100000):
  Calls Tryz.prog 76 #[.pointer (some ⟨R,0,none⟩),.pointer none] w fun e w'=>e=.returned (.tuple #[])/\IsRun B R csv bg (L++[46]) w'/\Below B w w'/\KeepR R w w':=by
 have HW:=hide (writeByte_run B R csv bg L 46 w h hL);clear h;go_enter Tryz.func76,Tryz.ntmps76;go_wp2_with fail;refine HW.out.mono ?_;rintro e w1 ⟨rfl,h1,hb1,hk1⟩;have H1:=hide h1;have HB1:=hide hb1;have HK1:=hide hk1;clear h1 hb1 hk1 HW;go_wp2
 go_end0
 exact⟨rfl,.inr H1.out,HB1.out,HK1.out⟩
def nowL (bud left:Nat):Nat:=if left=0 then bud else left
def nowW (cs:List Int) (bg bud left:Nat) (want:Int):Int:=if left=0 then wantsL cs bg bud else want
def nowB (bg left:Nat):Nat:=if left=0 then bg+1 else bg
theorem tickJ_any (B R J:Nat)(a:Option Addr)(cs:List Int)(cap bg:Nat)(L:List UInt8)(nm:UInt8)(bud left:Nat)(want:Int)(w:World)(h:JR B R J (.slice a cs.length cap) bg L nm bud left want w)(hc:CostsAt w a cs)(hcR:0<cs.length->∀b off,a=some ⟨b,off,none⟩->b≠R/\b≠J)(hn:cs.length<=1000000)(hm:bg<=1000000000)(hbj:B<=J)
  (hl1:1<=nowL bud left) (hl2:nowL bud left<=1000000) (hw1:0<=nowW cs bg bud left want) (hw2:nowW cs bg bud left want<=1000000000) (hL:L.length+3<=100000):
  Calls Tryz.prog 76 #[.pointer (some ⟨R,0,none⟩),.pointer (some ⟨J,0,none⟩)] w fun e w'=>e=.returned (.tuple #[])/\JR B R J (.slice a cs.length cap) (nowB bg left) (L++giveO nm (nowL bud left-1) (nowW cs bg bud left want)) nm bud (nowL bud left-1) (giveW (nowW cs bg bud left want)) w'/\Below B w w'/\KeepJ R J w w':=by
 obtain⟨j0,j1,j2,j3,jf,r0,r1,rf⟩:=h.cells;by_cases h0:left=0
 .have e1:nowL bud left=bud:=by unfold nowL;rw[if_pos h0]
  have e2:nowW cs bg bud left want=wantsL cs bg bud:=by unfold nowW;rw[if_pos h0]
  have e3:nowB bg left=bg+1:=by unfold nowB;rw[if_pos h0]
  rw[e1]at hl1 hl2;rw[e2]at hw1 hw2;rw[e1,e2,e3];have HB:=hide (begin_any B R J a cs cap bg L nm bud left want w h hc hcR hn hm hbj);have hz:((left:Int)==0)=true:=by simp[h0]
  clear e1 e2 e3 h hc hcR h0;generalize wantsL cs bg bud=V at *;go_enter Tryz.func76,Tryz.ntmps76;go_wp2_with fail;refine HB.out.mono ?_;rintro e w1 ⟨rfl,h1,hb1,hk1⟩;have HG:=hide (give_any B R J (.slice a cs.length cap) (bg+1) L nm bud bud V w1 h1 hbj hl1 hl2 hw1 hw2 hL);have HB1:=hide hb1;have HK1:=hide hk1;clear h1 hb1 hk1 HB j0 j1 j2 j3 jf r0 r1 rf;go_wp2_with fail;refine HG.out.mono ?_;rintro e w2 ⟨rfl,h2,hb2,hk2⟩;have H2:=hide h2;have HB2:=hide (HB1.out.trans hb2);have HK2:=hide (HK1.out.trans hk2);clear h2 hb2 hk2 HG HB1 HK1;go_wp2
  go_end0
  exact⟨rfl,H2.out,HB2.out,HK2.out⟩
 .have e1:nowL bud left=left:=by unfold nowL;rw[if_neg h0]
  have e2:nowW cs bg bud left want=want:=by unfold nowW;rw[if_neg h0]
  have e3:nowB bg left=bg:=by unfold nowB;rw[if_neg h0]
  rw[e1]at hl1 hl2;rw[e2]at hw1 hw2;rw[e1,e2,e3];have HG:=hide (give_any B R J (.slice a cs.length cap) bg L nm bud left want w h hbj hl1 hl2 hw1 hw2 hL);have hz:((left:Int)==0)=false:=by simp[h0]
  clear e1 e2 e3 h hc hcR h0;go_enter Tryz.func76,Tryz.ntmps76;go_wp2_with fail;refine HG.out.mono ?_;rintro e w2 ⟨rfl,h2,hb2,hk2⟩;have H2:=hide h2;have HB2:=hide hb2;have HK2:=hide hk2;clear h2 hb2 hk2 HG j0 j1 j2 j3 jf r0 r1 rf;go_wp2
  go_end0
  exact⟨rfl,H2.out,HB2.out,HK2.out⟩
theorem string_some (B R:Nat)(cs:Value)(bg:Int)(l:List UInt8)(w:World)(h:IsRun B R cs bg l w)(h0:l≠[]):
  Calls Tryz.prog 73 #[.pointer (some ⟨R,2,none⟩)] w fun e w'=>e=.returned (.string (bs l))/\Below B w w':=by
 obtain⟨p,hB,v,hbk,hown⟩:∃p,RunAt B R cs bg p l w:=by
  rcases h with h|h
  .exact⟨_,h⟩
  .exact⟨_,h⟩
 have hl0:l.length≠0:=by simpa using h0
 obtain⟨g,cap,cur,rfl,hbg,hg,hnc,hcm,hcs,htake⟩:∃g cap cur,v=.slice (some ⟨g,0,none⟩) l.length cap/\B<=g/\w.heap[g]? =some (.cells cur 5 (0,0))/\l.length<=cap/\cap<=maxLen/\cur.size=cap*1/\cur.toList.take (l.length*1)=bV l:=by
  rcases hown.2 with⟨_,hz⟩|⟨g,cap,cur,hv,r⟩
  .exact absurd hz hl0
  .exact⟨g,cap,cur,hv,r⟩
 have c1:w.drew.cell? ⟨R,3,none⟩=some (.slice (some ⟨g,0,none⟩) l.length cap):=by
  have:w.drew.heap[R]? =some (.cells #[cs,.int .i64 bg,p,.slice (some ⟨g,0,none⟩) l.length cap] 118 (0,0)):=hbk;rw[zC this];rfl
 have hSD:(Builtin.unsafeSliceData_ #[64] 161 #[.slice (some ⟨g,0,none⟩) l.length cap]).run Tryz.prog w.drew=.ok (.pointer (some ⟨g,0,none⟩)) w.drew:=
  Lib.run_unsafeSliceData_row _ _ _ _ _ _ (by omega)
 have hUS:(Builtin.unsafeString_ #[161,3] 9 #[.pointer (some ⟨g,0,none⟩),.int .i64 l.length]).run Tryz.prog w.drew=.ok (.string (bs l)) (w.drew.freeze ⟨g,0,none⟩ l.length):=by
  refine Lib.run_unsafeString_row w.drew 161 3 9 5 Tryz.underlying161 Tryz.cellsU8 g cur.size (by have hg':w.drew.heap[g]? =some (.cells cur 5 (0,0)):=hg;simp[World.shape?,hg']) l h0 (by omega) (by unfold maxLen at hcm;omega) ?_;intro j x hx;have:=hown.cells (g:=g) rfl j (.int .u8 x.toNat) (by simp[bV,hx]);exact this
 have HB:=hide (Lib.below_freeze (Below.drew (Below.refl B w)) (p:=⟨g,0,none⟩) hbg l.length);clear hown hbk h hg htake hcs hnc hcm;generalize bs l=RR at *;go_enter Tryz.func73,Tryz.ntmps73;go_wp2
 go_region
 all_goals (go_wp2;go_ret;exact⟨rfl,HB.out⟩)
theorem string_none (B R:Nat)(cs:Value)(bg:Int)(p:Value)(w:World)(hbk:w.heap[R]? =some (.cells #[cs,.int .i64 bg,p,.slice none 0 0] 118 (0,0))):
  Calls Tryz.prog 73 #[.pointer (some ⟨R,2,none⟩)] w fun e w'=>e=.returned (.string (bs []))/\Below B w w':=by
 have hUS:=fun (W:World) (q:Option Addr)=>Lib.run_unsafeString_none (P:=Tryz.prog) W 161 3 9 q;have c1:w.drew.cell? ⟨R,3,none⟩=some (.slice none 0 0):=by
  have:w.drew.heap[R]? =some (.cells #[cs,.int .i64 bg,p,.slice none 0 0] 118 (0,0)):=hbk;rw[zC this];rfl
 have hSD:(Builtin.unsafeSliceData_ #[64] 161 #[.slice none 0 0]).run Tryz.prog w.drew=.ok (.pointer none) w.drew:=rfl;have HB:=hide (Below.drew (Below.refl B w));clear hbk;go_enter Tryz.func73,Tryz.ntmps73;go_wp2
 go_region
 all_goals (go_wp2;go_ret;exact⟨rfl,HB.out⟩)
theorem isTicks_yes (n:Int)(w:World)(h:0<=n/\n<=400):Calls Tryz.prog 74 #[.int .i64 n] w fun e w'=>e=.returned (.bool true)/\w'=w:=by
 obtain⟨h1,h2⟩:=h;go_enter Tryz.func74,Tryz.ntmps74;go_wp2;go_ret;exact⟨rfl,rfl⟩
theorem isTicks_no (n:Int)(w:World)(h:¬(0<=n/\n<=400)):Calls Tryz.prog 74 #[.int .i64 n] w fun e w'=>e=.returned (.bool false)/\w'=w:=by
 by_cases h1:0<=n
 .have h2:¬n<=400:=fun x=>h ⟨h1,x⟩;clear h;go_enter Tryz.func74,Tryz.ntmps74;go_wp2;go_ret;exact⟨rfl,rfl⟩
 .clear h;go_enter Tryz.func74,Tryz.ntmps74;go_wp2;go_ret;exact⟨rfl,rfl⟩
theorem checkTicks_any (tk:Int)(cs:List Int)(a:Option Addr)(cap:Nat)(w:World)(hc:CostsAt w a cs)(hn:cs.length<=9223372036854775807):
  Calls Tryz.prog 38 #[.int .i64 tk,.slice a cs.length cap] w fun e w'=>Below w.heap.size w w'/\((ticksOk tk cs/\e=.returned (.tuple #[]))\/(¬ticksOk tk cs/\e=pan 9 0)):=by
 have Hc:=hide hc;clear hc;have hnot:∀(x:Bool) (w:World),(Op.unary .not (.bool x)).run Tryz.prog w=.ok (.bool (!x)) w:=fun _ _=>rfl;by_cases ht:0<=tk/\tk<=400
 .have Ht:=hide ht;clear ht;by_cases hl:cs.length<=40
  .have hl':¬(40:Int)<cs.length:=by omega
   go_enter Tryz.func38,Tryz.ntmps38;go_wp2_with fail;refine(isTicks_yes tk _ Ht.out).mono ?_;rintro e w2 ⟨rfl,rfl⟩;go_wp2_with fail
   go_loopw [17] (fun i wr=>∃k:Nat,k<=cs.length/\i=.int .i64 k/\Below w2.heap.size w2 wr/\Hid (∀i,i<k->0<=cs.getD i 0/\cs.getD i 0<=400)) (fun i _=>200-(intOf i).toNat)
   case atStart=>exact⟨0,by omega,rfl,Below.refl _ _,fun i hi=>by omega⟩
   case round=>
    obtain⟨k,hk,rfl,hbw,hall⟩:=hrel;have Hbw:=hide hbw;by_cases hkl:k<cs.length
    .have hkl':(k:Int)<cs.length:=by omega
     obtain⟨x,off,rfl,hx,hr⟩:∃b off,a=some ⟨b,off,none⟩/\b<w2.heap.size/\∀k,k<cs.length->w2.cell? ⟨b,off+k,none⟩=some (.int .i64 (cs.getD k 0)):=by
      rcases Hc.out with hc|hc
      .rw[hc]at hkl;simp at hkl
      .exact hc
     have hcc:=(hbw.cell (p:=⟨x,off+k,none⟩) hx).trans (hr k hkl);clear hr hbw;generalize hV:cs.getD k 0=V at *;have HV:=hide hV;clear hV;go_wp2_with fail;by_cases hok:0<=V/\V<=400
     .have Hok:=hide hok;refine(isTicks_yes V _ hok).mono ?_;rintro e w' ⟨rfl,rfl⟩;clear hok;go_wp2;go_roundw
      case rel=>
       refine⟨k+1,by omega,by go_num,Hbw.out,fun i hi=>?_⟩;rcases Nat.lt_or_ge i k with h5|h5
       .exact hall.out i h5
       .have:i=k:=by omega
        subst this;rw[HV.out];exact Hok.out
      case measure=>simp[intOf];omega
     .have Hok:=hide hok;refine(isTicks_no V _ hok).mono ?_;rintro e w' ⟨rfl,rfl⟩;clear hok;go_wp2_with fail;refine(refuse_any 9 0 _ rfl _).mono ?_;rintro e w' ⟨rfl,rfl⟩;refine⟨rfl,Hbw.out,.inr ⟨?_,rfl⟩⟩;intro hh;have:=hh.2.2.2 k hkl;rw[HV.out]at this;exact Hok.out this
    .have hkl':¬(k:Int)<cs.length:=by omega
     have hke:k=cs.length:=by omega
     have Hke:=hide hke;clear hke;clear hbw;go_wp2
     go_end0
     exact⟨Hbw.out,.inl ⟨⟨Ht.out.1,Ht.out.2,hl,fun i hi=>hall.out i (by rw[Hke.out];exact hi)⟩,rfl⟩⟩
  .have hl':(40:Int)<cs.length:=by omega
   go_enter Tryz.func38,Tryz.ntmps38;go_wp2_with fail;refine(isTicks_yes tk _ Ht.out).mono ?_;rintro e w' ⟨rfl,rfl⟩;go_wp2_with fail;refine(refuse_any 9 0 _ rfl _).mono ?_;rintro e w' ⟨rfl,rfl⟩;exact⟨rfl,Below.refl _ _,.inr ⟨fun hh=>hl hh.2.2.1,rfl⟩⟩
 .have Ht:=hide ht;go_enter Tryz.func38,Tryz.ntmps38;go_wp2_with fail;refine(isTicks_no tk _ ht).mono ?_;rintro e w' ⟨rfl,rfl⟩;clear ht;go_wp2_with fail;refine(refuse_any 9 0 _ rfl _).mono ?_;rintro e w' ⟨rfl,rfl⟩;exact⟨rfl,Below.refl _ _,.inr ⟨fun hh=>Ht.out ⟨hh.1,hh.2.1⟩,rfl⟩⟩
end
section
open Go.RowKit Go.Maps
theorem tick_pz (l:List FSl)(cs:List Int)(k:Nat)(x:PZ):
  (prTick l cs (some k) x).beg=nowB x.beg (x.left k)/\(prTick l cs (some k) x).out=x.out++giveO (nmK l k) (nowL (budK l k) (x.left k)-1) (nowW cs x.beg (budK l k) (x.left k) (x.want k))/\
  (∀j,(prTick l cs (some k) x).left j=if j=k then nowL (budK l k) (x.left k)-1 else x.left j)/\∀j,(prTick l cs (some k) x).want j=if j=k then giveW (nowW cs x.beg (budK l k) (x.left k) (x.want k)) else x.want j:=by
 have key:∀y:PZ,(prGive l k y).beg=y.beg/\(prGive l k y).out=y.out++giveO (nmK l k) (y.left k-1) (y.want k)/\(∀j,(prGive l k y).left j=if j=k then y.left k-1 else y.left j)/\∀j,(prGive l k y).want j=if j=k then giveW (y.want k) else y.want j:=by
  intro y;unfold prGive giveO giveW;by_cases h:y.want k=0
  .rw[if_pos h];refine⟨rfl,by rw[if_pos h],fun j=>rfl,fun j=>?_⟩;rw[if_pos h];by_cases e:j=k
   .rw[if_pos e,e]
   .rw[if_neg e]
  .rw[if_neg h];refine⟨rfl,by rw[if_neg h,←List.append_assoc],fun j=>rfl,fun j=>?_⟩;rw[if_neg h];rfl
 show (prGive l k (if x.left k=0 then prBegin l cs k x else x)).beg=_/\(prGive l k (if x.left k=0 then prBegin l cs k x else x)).out=_/\(∀j,(prGive l k (if x.left k=0 then prBegin l cs k x else x)).left j=_)/\∀j,(prGive l k (if x.left k=0 then prBegin l cs k x else x)).want j=_;unfold nowB nowL nowW;by_cases h:x.left k=0
 .rw[if_pos h,if_pos h,if_pos h,if_pos h];obtain⟨a,b,c,d⟩:=key (prBegin l cs k x);have e1:(prBegin l cs k x).left k=budK l k:=setN_same _ _ _;have e2:(prBegin l cs k x).want k=wantsL cs x.beg (budK l k):=setL_same _ _ _;rw[e1,e2]at b;refine⟨a,b,fun j=>?_,fun j=>?_⟩
  .rw[c j,e1];by_cases e:j=k
   .rw[if_pos e,if_pos e]
   .rw[if_neg e,if_neg e];exact setN_other _ e
  .rw[d j,e2];by_cases e:j=k
   .rw[if_pos e,if_pos e]
   .rw[if_neg e,if_neg e];exact setL_other _ e
 .rw[if_neg h,if_neg h,if_neg h,if_neg h];exact key x
structure RQ (w wr:World) (tv:Array Value) (csv:Value) (cyc fr:Nat) (l:List FSl) (P:List Nat) (x:PZ):Prop where
 hx:wr.heap[w.heap.size]? =some (.cells tv 61 (0,0))
 hr:IsRun w.heap.size (w.heap.size+1) csv x.beg x.out wr
 hn:x.out=[]->∃bg p,wr.heap[w.heap.size+1]? =some (.cells #[csv,.int .i64 bg,p,.slice none 0 0] 118 (0,0))
 hu:∃arr,wr.heap[w.heap.size+1+1+1]? =some (.cells arr 122 (0,0))/\∀u,u<cyc->arr[u]? =some (uvV l fr P l.length 0 u)
 hj:∀k,k<P.length->w.heap.size+1+1+1<P.getD k 0/\wr.heap[P.getD k 0]? =some (.cells (jobV (nmK l k) (budK l k) (x.left k) (x.want k)) 166 (0,0))
 inj:∀a b,a<P.length->b<P.length->P.getD a 0=P.getD b 0->a=b
 pl:P.length=cntTo l l.length
 bel:Below w.heap.size w wr
section
variable {w wr:World} {tv:Array Value} {csv:Value} {cyc fr:Nat} {l:List FSl} {P:List Nat} {x:PZ}
theorem RQ.start {w1:World}(h:UX ((w.alloc (.cells tv 61)).alloc (.cells #[csv,.int .i64 0,.pointer none,.slice none 0 0] 118)) w1 tv cyc fr l l.length 0 l.length l.length P):RQ w w1 tv csv cyc fr l P ⟨fun _=>0,fun _=>0,0,[]⟩:=by
 have h0:=zK (zK (zW w tv 61) (zN _ (.cells #[csv,.int .i64 0,.pointer none,.slice none 0 0] 118))) h.bel;have h1:=zK (zW (w.alloc (.cells tv 61)) #[csv,.int .i64 0,.pointer none,.slice none 0 0] 118) h.bel;simp only[World.size_alloc]at h1;have hu:=h.hu;have hj:=h.hj;simp only[World.size_alloc]at hu hj;refine⟨h0,.inl ⟨by omega,.slice none 0 0,h1,World.ownsRow_nil _ _ _ _⟩,fun _=>⟨0,.pointer none,h1⟩,hu,fun k hk=>⟨by have:=(hj k hk).1;omega,(hj k hk).2⟩,h.inj,h.pl,?_⟩;exact(((zN w _).alloc (by simp) _)).trans (h.bel.mono (by simp;omega))
theorem RQ.none (h:RQ w wr tv csv cyc fr l P x){w':World}(hr:IsRun w.heap.size (w.heap.size+1) csv x.beg (x.out++[46]) w')(hb:Below w.heap.size wr w')(hk:KeepR (w.heap.size+1) wr w'):RQ w w' tv csv cyc fr l P ⟨x.left,x.want,x.beg,x.out++[46]⟩:=by
 obtain⟨arr,h1,h2⟩:=h.hu;refine⟨hk.blk h.hx (by omega) (by decide),hr,fun e=>by simp at e,⟨arr,hk.blk h1 (by omega) (by decide),h2⟩,fun k hkl=>⟨(h.hj k hkl).1,hk.blk (h.hj k hkl).2 (by have:=(h.hj k hkl).1;omega) (by decide)⟩,h.inj,h.pl,h.bel.trans hb⟩
theorem RQ.jr (h:RQ w wr tv csv cyc fr l P x){k:Nat}(hk:k<P.length):JR w.heap.size (w.heap.size+1) (P.getD k 0) csv x.beg x.out (nmK l k) (budK l k) (x.left k) (x.want k) wr:=⟨h.hr,(h.hj k hk).2⟩
theorem giveO_ne (nm:UInt8)(left:Nat)(want:Int):giveO nm left want≠[]:=by
 unfold giveO;split<;>simp
theorem RQ.job (h:RQ w wr tv csv cyc fr l P x){k:Nat}(hk:k<P.length)(cs:List Int){w':World}
  (hj:JR w.heap.size (w.heap.size+1) (P.getD k 0) csv (nowB x.beg (x.left k)) (x.out++giveO (nmK l k) (nowL (budK l k) (x.left k)-1) (nowW cs x.beg (budK l k) (x.left k) (x.want k))) (nmK l k) (budK l k) (nowL (budK l k) (x.left k)-1) (giveW (nowW cs x.beg (budK l k) (x.left k) (x.want k))) w')
  (hb:Below w.heap.size wr w') (hkp:KeepJ (w.heap.size+1) (P.getD k 0) wr w'):RQ w w' tv csv cyc fr l P (prTick l cs (some k) x):=by
 obtain⟨arr,h1,h2⟩:=h.hu;obtain⟨t1,t2,t3,t4⟩:=tick_pz l cs k x;have hgt:=(h.hj k hk).1;refine⟨hkp.blk h.hx (by omega) (by omega) (by decide),by rw[t1,t2];exact hj.r,fun e=>?_,⟨arr,hkp.blk h1 (by omega) (by omega) (by decide),h2⟩,fun j hjl=>⟨(h.hj j hjl).1,?_⟩,h.inj,h.pl,h.bel.trans hb⟩
 .rw[t2]at e;exact absurd (List.append_eq_nil_iff.1 e).2 (giveO_ne _ _ _)
 .rw[t3 j,t4 j];by_cases e:j=k
  .subst e;rw[if_pos rfl,if_pos rfl];exact hj.j
  .rw[if_neg e,if_neg e];exact hkp.blk (h.hj j hjl).2 (by have:=(h.hj j hjl).1;omega) (fun e2=>e (h.inj j k hjl hk e2)) (by decide)
end
theorem uvV_all (l:List FSl)(fr:Nat)(P:List Nat)(u:Nat):uvV l fr P l.length 0 u=match unitL l fr u with|some k=>ptrP P k|none=>.pointer none:=by
 unfold uvV unitL atL
 cases atTo l fr u l.length with
 | some i=>rfl
 | none=>
  simp only[Option.map_none];rw[if_neg (by omega)]
theorem pr_beg (l:List FSl)(cyc fr:Nat)(cs:List Int):∀u,(prT l cyc fr cs u).beg<=u
 | 0=>Nat.le_refl _
 | u+1=>by
  have ih:=pr_beg l cyc fr cs u;rw[prT]
  cases unitL l fr (u%cyc) with
  | none=>show (prT l cyc fr cs u).beg<=u+1;omega
  | some k=>
   rw[(tick_pz l cs k _).1];unfold nowB;split<;>omega
theorem pr_begun {l:List FSl}{cyc fr:Nat}(hn:l.length<=300)(hs:∀i,i<l.length->(fsk l i).small){cs:List Int}(hc:∀k,k<cs.length->0<=cs.getD k 0/\cs.getD k 0<=400)(u i k:Nat):0<=begunL l cyc fr cs u i (trcL l cyc fr cs u).1 k:=(fine_begun hn hs hc cyc fr u i (trc_fine hn hs hc cyc fr u) k).1
theorem pr_fine {l:List FSl}{cyc fr:Nat}(G:Goes l cyc fr)(hn:l.length<=300)(hs:∀i,i<l.length->(fsk l i).small){cs:List Int}(hc:∀k,k<cs.length->0<=cs.getD k 0/\cs.getD k 0<=400)(hB:∀k,budK l k<=599940)(u:Nat){i:Nat}(hi:i<l.length):
  1<=nowL (budK l (zM l i)) ((prT l cyc fr cs u).left (zM l i))/\nowL (budK l (zM l i)) ((prT l cyc fr cs u).left (zM l i))<=1000000/\0<=nowW cs (prT l cyc fr cs u).beg (budK l (zM l i)) ((prT l cyc fr cs u).left (zM l i)) ((prT l cyc fr cs u).want (zM l i))/\nowW cs (prT l cyc fr cs u).beg (budK l (zM l i)) ((prT l cyc fr cs u).left (zM l i)) ((prT l cyc fr cs u).want (zM l i))<=1000000000:=by
 have hb1:1<=budK l (zM l i):=by
  have h3:=hadK_next (q:=i) hi hi;rw[if_pos rfl]at h3;have h4:=hadK_le (q:=i+1) hi hi;have h5:=G.bud i hi;omega
 have hb2:=hB (zM l i);obtain⟨j,hp⟩:=PI.all G cs u;have hl:=hp.left i hi;have hl2:(prT l cyc fr cs u).left (zM l i)<=budK l (zM l i):=by
  rw[hl];split<;>omega
 have hw:=trc_fine hn hs hc cyc fr u (zM l i);rw[←(pr_trc G cs (fun u i k=>pr_begun hn hs hc u i k) u).1]at hw;have hwf:=wants_fine hc (prT l cyc fr cs u).beg (budK l (zM l i)) (by omega);unfold nowL nowW;split
 .exact⟨hb1,by omega,hwf.1,by omega⟩
 .exact⟨by omega,by omega,hw.1,by omega⟩
theorem pr_len {l:List FSl}{cyc fr:Nat}(G:Goes l cyc fr)(hn:l.length<=300)(hs:∀i,i<l.length->(fsk l i).small){cs:List Int}(hc:∀k,k<cs.length->0<=cs.getD k 0/\cs.getD k 0<=400)(u:Nat):(prT l cyc fr cs u).out.length<=3*u:=by
 rw[(pr_trc G cs (fun u i k=>pr_begun hn hs hc u i k) u).2];exact trc_len l cyc fr cs u
theorem CostsAt.low {w w':World}{a:Option Addr}{cs:List Int}(h:CostsAt w a cs)(hb:Below w.heap.size w w'):CostsAt w' a cs:=by
 rcases h with h|⟨b,off,h1,h2,h3⟩
 .exact .inl h
 .exact .inr ⟨b,off,h1,Nat.lt_of_lt_of_le h2 hb.size,fun k hk=>(hb.cell (p:=⟨b,off+k,none⟩) h2).trans (h3 k hk)⟩
def CostsIn (w:World) (a:Option Addr) (cs:List Int):Prop:=CostsAt w a cs/\∀b off,a=some ⟨b,off,none⟩->b<w.heap.size
theorem run_any (t:Tb)(a:Option Addr)(cc:Nat)(w:World)(hr:FvA w a t.fs)(hS:Sound t)(tk:Nat)(htk:tk<=400)(cs:List Int)(ca:Option Addr)(ccap:Nat)(hca:CostsAt w ca cs)(hcl:cs.length<=40)(hcb:∀k,k<cs.length->0<=cs.getD k 0/\cs.getD k 0<=400):
  Calls Tryz.prog 39 #[.agg #[.int .i64 t.cyc,.int .i64 t.fr,.slice a t.fs.length cc],.int .i64 tk,.slice ca cs.length ccap] w fun e w'=>e=.returned (.string (bs (prT (zX 0 t.fs) t.cyc t.fr cs tk).out))/\Below w.heap.size w w':=by
 have hc1:=hS.c1;have hc2:=hS.c2;have hll:=flat_len hS;have hG:=hide (goes_of_sound hS);have Hsm:Hid (∀i,i<(zX 0 t.fs).length->(fsk (zX 0 t.fs) i).small):=fun i hi=>(job_small hS i hi).2.2;have HBd:Hid (∀k,budK (zX 0 t.fs) k<=599940):=fun k=>hadK_small hS k _ (Nat.le_refl _);have Hcb:=hide hcb;have Hca:=hide hca;have HU:=hide (units_any t a cc ((w.alloc (.cells #[.int .i64 t.cyc,.int .i64 t.fr,.slice a t.fs.length cc] 61)).alloc (.cells #[.slice ca cs.length ccap,.int .i64 0,.pointer none,.slice none 0 0] 118)) ((hr.below (zN w _) (Nat.le_refl _)).below (zN _ _) (Nat.le_refl _)) hS);have hx0:=zC (zW w #[.int .i64 t.cyc,.int .i64 t.fr,.slice a t.fs.length cc] 61);clear hr hS hca hcb;go_enter Tryz.func39,Tryz.ntmps39;go_wp2_with fail;refine HU.out.mono ?_;rintro e w1 ⟨P,rfl,hU⟩;have HQ:=hide (RQ.start (csv:=.slice ca cs.length ccap) hU);clear hU HU hx0;go_wp2_with fail
 go_loopw [15] (fun i wr=>∃q:Nat,q<=tk/\i=.int .i64 q/\RQ w wr #[.int .i64 t.cyc,.int .i64 t.fr,.slice a t.fs.length cc] (.slice ca cs.length ccap) t.cyc t.fr (zX 0 t.fs) P (prT (zX 0 t.fs) t.cyc t.fr cs q)) (fun i _=>1000-(intOf i).toNat)
 case atStart=>exact⟨0,by omega,rfl,HQ.out⟩
 case round=>
  clear HQ;obtain⟨q,hq,rfl,hQ⟩:=hrel;have HQ:=hide hQ;by_cases hlt:q<tk
  .have hlt':(q:Int)<tk:=by omega
   have x:=zC hQ.hx;obtain⟨arr,ha1,ha2⟩:=hQ.hu;have hml:=Nat.mod_lt q (show 0<t.cyc by omega);have hcu:=zC ha1 (q%t.cyc);rw[ha2 _ hml,uvV_all]at hcu;have hi1:0<=(q:Int)%t.cyc:=by rw[←Int.natCast_emod];exact Int.natCast_nonneg _
   have hi2:(q:Int)%t.cyc<t.cyc:=by rw[←Int.natCast_emod];exact Int.ofNat_lt.2 hml
   have hi3:¬(t.cyc:Int)=0:=by omega
   have hbeg:=pr_beg (zX 0 t.fs) t.cyc t.fr cs q;have hlen:=pr_len hG.out (by omega) Hsm.out Hcb.out q;have hstep:Hid (prT (zX 0 t.fs) t.cyc t.fr cs (q+1)=prTick (zX 0 t.fs) cs (unitL (zX 0 t.fs) t.fr (q%t.cyc)) (prT (zX 0 t.fs) t.cyc t.fr cs q)):=rfl
   cases hun:unitL (zX 0 t.fs) t.fr (q%t.cyc) with
   | none=>
    rw[hun]at hcu hstep;simp only at hcu;have HT:=hide (tickN_any w.heap.size (w.heap.size+1) (.slice ca cs.length ccap) _ _ wr hQ.hr (by omega));clear hQ ha1 ha2 hun;go_wp2_with fail;refine HT.out.mono ?_;rintro e w2 ⟨rfl,h2,hb2,hk2⟩;have HQ2:=hide (HQ.out.none h2 hb2 hk2);clear h2 hb2 hk2 HT HQ hcu x;go_wp2_with fail;go_roundw
    case rel=>exact⟨q+1,by omega,by go_num,by rw[hstep.out];exact HQ2.out⟩
    case measure=>simp[intOf];omega
   | some k=>
    rw[hun]at hcu hstep;simp only[ptrP]at hcu;obtain⟨i,hi,hik⟩:∃i,i<(zX 0 t.fs).length/\zM (zX 0 t.fs) i=k:=by
     unfold unitL at hun
     cases hat:atL (zX 0 t.fs) t.fr (q%t.cyc) with
     | none=>rw[hat]at hun;simp at hun
     | some i=>
      rw[hat]at hun;exact⟨i,(at_some hat).1,by simpa using hun⟩
    obtain⟨b1,b2,b3,b4⟩:=pr_fine hG.out (by omega) Hsm.out Hcb.out HBd.out q hi;rw[hik]at b1 b2 b3 b4;have hkP:k<P.length:=by
     rw[hQ.pl,←hik];exact num_lt_cnt hi (Nat.le_refl _)
    have hgt:=(hQ.hj k hkP).1;have HT:=hide (tickJ_any w.heap.size (w.heap.size+1) (P.getD k 0) ca cs ccap _ _ _ _ _ _ wr (hQ.jr hkP) (Hca.out.low hQ.bel) (fun h0 b off e=>by
     rcases Hca.out with h|⟨b',off',e',hb',_⟩
     .rw[h]at h0;simp at h0
     .rw[e']at e
      cases e
      omega) (by omega) (by omega) (by omega) b1 b2 b3 b4 (by omega))
    clear hQ ha1 ha2 hun b1 b2 b3 b4;generalize hJ:P.getD k 0=J at hcu HT hgt;have HJ:=hide hJ;clear hJ;go_wp2_with fail;refine HT.out.mono ?_;rintro e w2 ⟨rfl,h2,hb2,hk2⟩;have HQ2:=hide (HQ.out.job hkP cs (by rw[HJ.out];exact h2) hb2 (by rw[HJ.out];exact hk2));clear h2 hb2 hk2 HT HQ hcu x;go_wp2_with fail;go_roundw
    case rel=>exact⟨q+1,by omega,by go_num,by rw[hstep.out];exact HQ2.out⟩
    case measure=>simp[intOf];omega
  .have hlt':¬(q:Int)<tk:=by omega
   have hqe:q=tk:=by omega
   have HSt:Hid (Calls Tryz.prog 73 #[.pointer (some ⟨w.heap.size+1,2,none⟩)] wr fun e w'=>e=.returned (.string (bs (prT (zX 0 t.fs) t.cyc t.fr cs tk).out))/\Below w.heap.size wr w'):=by
    rw[hqe]at hQ;by_cases h0:(prT (zX 0 t.fs) t.cyc t.fr cs tk).out=[]
    .obtain⟨bg,p,hb⟩:=hQ.hn h0;rw[h0];exact string_none w.heap.size (w.heap.size+1) _ bg p wr hb
    .exact string_some w.heap.size (w.heap.size+1) _ _ _ wr hQ.hr h0
   generalize hRR:bs (prT (zX 0 t.fs) t.cyc t.fr cs tk).out=RR at *;have HRR:=hide hRR;clear hRR;have HB:=hide hQ.bel;clear hQ HQ hqe;go_wp2_with fail;refine HSt.out.mono ?_;rintro e w2 ⟨rfl,hb2⟩;have HB2:=hide (HB.out.trans hb2);clear hb2 HSt HB;go_wp2;go_ret;exact⟨by rw[HRR.out];rfl,HB2.out⟩
end
end Go.Proofs.YtbdffcjganlblaaGreatDoor
