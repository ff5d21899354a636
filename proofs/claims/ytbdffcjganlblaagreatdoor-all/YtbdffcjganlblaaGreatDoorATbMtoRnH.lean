import Derived.Test.YtbdffcjganlblaaGreatDoorAProgKtoTbH
import Derived.Test.YtbdffcjganlblaaGreatDoorATbJtoProgH
import Derived.Test.YtbdffcjganlblaaGreatDoorATbKtoGuard
import Derived.Test.YtbdffcjganlblaaGreatDoorARnBtoRnG
set_option linter.unusedVariables false
set_option linter.unusedSimpArgs false
set_option maxRecDepth 100000
set_option maxHeartbeats 16000000
namespace Go.Proofs.YtbdffcjganlblaaGreatDoor
section
open Go.RowKit
theorem name_letter {l:List UInt8}{j:Nat}(h:isName (tk (zT l) j)=true):zB ((nameB (tk (zT l) j)).toNat:Int)=true:=by
 have htx:=name_tx h;simp only[isName,Bool.and_eq_true,beq_iff_eq]at h;rcases tk_first htx with⟨h1,_⟩|⟨_,h1⟩|⟨h1,h2,_⟩
 .exact h1
 .omega
 .simp only[signB,Bool.or_eq_true,beq_iff_eq]at h1;omega
theorem pMore_letter {l:List UInt8}:∀(n:Nat) (i:Nat),(zT l).length-i<=n->∀f j,pMore (zT l) i=some (f,j)->∀s∈f,zB (s.nm.toNat:Int)=true:=by
 intro n
 induction n with
 | zero=>
  intro i hn f j h;rw[pMore,dif_neg (by omega)]at h;simp at h
 | succ n ih=>
  intro i hn f j h;rw[pMore_eq]at h;split at h
  .rename_i hs;have hs1:zB ((slAt (zT l) i).nm.toNat:Int)=true:=name_letter (by simp only[slOk,Bool.and_eq_true]at hs;exact hs.1);have hlt:=slOk_lt hs;split at h
   .cases hm:pMore (zT l) (i+5) with
    | none=>rw[hm]at h;simp at h
    | some x=>
     obtain⟨l',k⟩:=x;rw[hm]at h;simp at h;obtain⟨rfl,rfl⟩:=h;intro s hsm;rcases List.mem_cons.1 hsm with rfl|hsm
     .exact hs1
     .exact ih (i+5) (by omega) l' k hm s hsm
   .split at h
    .simp at h;obtain⟨rfl,rfl⟩:=h;intro s hsm;simp at hsm;subst hsm;exact hs1
    .simp at h
  .simp at h
theorem pN_letter {l:List UInt8}{i:Nat}:∀ {n:Nat} {fs:List (List Sl)} {j:Nat},pN n (zT l) i=some (fs,j)->∀f∈fs,∀s∈f,zB (s.nm.toNat:Int)=true
 | 0,fs,j,h=>by
  simp[pN]at h;obtain⟨rfl,rfl⟩:=h;simp
 | n+1,fs,j,h=>by
  rw[pN]at h
  cases h1:pN n (zT l) i with
  | none=>rw[h1]at h;simp at h
  | some x=>
   obtain⟨gs,k⟩:=x;rw[h1]at h;simp only at h
   cases h2:pFrame (zT l) k with
   | none=>rw[h2]at h;simp at h
   | some y=>
    obtain⟨f,k'⟩:=y;rw[h2]at h;simp at h;obtain⟨rfl,rfl⟩:=h;intro g hg;rcases List.mem_append.1 hg with hg|hg
    .exact pN_letter h1 g hg
    .simp at hg;subst hg;unfold pFrame at h2;split at h2
     .simp at h2;obtain⟨rfl,rfl⟩:=h2;simp
     .exact pMore_letter _ k (Nat.le_refl _) _ _ h2
theorem pTab_small {l:List UInt8}{t:Tb}(hl:l.length<=800)(h:pTab (zT l)=some t):t.small/\∀f∈t.fs,∀s∈f,zB (s.nm.toNat:Int)=true:=by
 obtain⟨_,e1,e2,_,j,h3,h4,h5⟩:=pTab_pN h;have hT:(zT l).length<=802:=by
  have:=toks_le (l.length+1) l 0;unfold zT;omega
 have hf:=pN_frames h3;have hsm:=pN_small h3;have hle:t.fs.length<=802/\∀f∈t.fs,f.length<=t.fs.flatten.length:=by
  have key:∀ {n:Nat} {fs:List (List Sl)} {j:Nat},pN n (zT l) 5=some (fs,j)->n+5<=j:=by
   intro n
   induction n with
   | zero=>intro fs j h;simp[pN]at h;omega
   | succ n ih=>
    intro fs j h;rw[pN]at h
    cases h1:pN n (zT l) 5 with
    | none=>rw[h1]at h;simp at h
    | some x=>
     obtain⟨gs,k⟩:=x;rw[h1]at h;simp only at h
     cases h2:pFrame (zT l) k with
     | none=>rw[h2]at h;simp at h
     | some y=>
      obtain⟨f,k'⟩:=y;rw[h2]at h;simp at h;obtain⟨_,rfl⟩:=h;have:=ih h1;have:=pFrame_len h2;omega
  have:=key h3;refine⟨by omega,?_⟩;intro f hf;have:∀(fs:List (List Sl)),f∈fs->f.length<=fs.flatten.length:=by
   intro fs
   induction fs with
   | nil=>intro h;simp at h
   | cons g r ih=>
    intro h;rcases List.mem_cons.1 h with rfl|h
    .simp
    .have:=ih h;simp;simp at this;omega
  exact this t.fs hf
 refine⟨⟨by rw[e1];exact tk_N _ _,by rw[e2];exact tk_N _ _,by omega,fun f hf'=>⟨?_,hsm f hf'⟩⟩,pN_letter h3⟩;have:=hle.2 f hf';omega
theorem bTab_small {l:List UInt8}{t:Tb}(hl:l.length<=1000)(h:bTab l=some t):t.small:=by
 match l,h with
 | c::f::r,h=>
  simp only[bTab]at h
  cases h1:bFr r with
  | none=>rw[h1]at h;simp at h
  | some fs=>
   rw[h1]at h;simp at h;subst h;obtain⟨h2,h3⟩:=bFr_inv _ r fs (Nat.le_refl _) h1;have h4:=frB_len fs;rw[h2]at h4;refine⟨by have:=c.toNat_lt;show c.toNat<=9999;omega,by have:=f.toNat_lt;show f.toNat<=9999;omega,by simp at hl;show fs.length<=1000;omega,?_⟩;intro g hg;have:=h3 g hg;exact⟨by omega,fun s hs=>by have:=this.2 s hs;omega⟩
theorem FrM.below {w w':World}{base:Nat}{fv:Value}{P:List (Value×List Sl)}(h:FrM w base fv P)(hb:Below w.heap.size w w'):FrM w' base fv P:=
 ⟨owns_below h.1 hb,fun p hp=>owns_below (h.2 p hp) hb⟩
theorem FrM.weak {w:World}{base base':Nat}{fv:Value}{P:List (Value×List Sl)}(h:FrM w base fv P)(hb:base'<=base):FrM w base' fv P:=
 ⟨own_weak h.1 hb,fun p hp=>own_weak (h.2 p hp) hb⟩
theorem FrM.setLow {w:World}{base:Nat}{fv:Value}{P:List (Value×List Sl)}(h:FrM w base fv P){k:Nat}(hk:k<base)(o:Nat)(v:Value):FrM (w.setCell ⟨k,o,none⟩ v) base fv P:=
 h.kept (zE (k:=k) (zI _ _) o v) (fun q hq=>.inl (by simp at hq;omega))
def TabOut (Q:Tb->Prop) (w:World) (en:Ending) (w':World):Prop:=
 Below w.heap.size w w'/\((∃p,en=pan 8 p/\¬∃t,Q t)\/(∃(t:Tb) (P:List (Value×List Sl)) (a:Option Addr) (c:Nat),Q t/\t.fs=P.map Prod.snd/\en=.returned (.agg #[.int .i64 t.cyc,.int .i64 t.fr,.slice a P.length c])/\FrM w' w.heap.size (.slice a P.length c) P))
theorem readTable_any (s:ByteArray)(w:World)(hm:s.size<=9223372036854775807):
  Calls Tryz.prog 32 #[.string s] w (TabOut (TabOk s.data.toList) w):=by
 by_cases hl:800<s.size
 .have hl':(800:Int)<s.size:=by omega
  have hno:Hid (¬∃t,TabOk s.data.toList t):=by
   rintro ⟨t,h,_⟩;simp at h;omega
  go_enter Tryz.func32,Tryz.ntmps32;go_wp2_with fail;refine(refuse_any 8 0 _ rfl _).mono ?_;rintro e w' ⟨rfl,rfl⟩;exact⟨rfl,zN _ _,.inl ⟨_,rfl,hno.out⟩⟩
 .have hl':¬(800:Int)<s.size:=by omega
  have hs8:s.size<=800:=by omega
  go_enter Tryz.func32,Tryz.ntmps32;go_wp2_with fail;refine(parseTable_any s _ hs8).mono ?_;rintro e w1 ⟨hb,hcase⟩;have hbw:Below w.heap.size w w1:=(zN w _).trans (hb.mono (by simp));have hY:=zK (zW w ptZ 61) hb;rcases hcase with⟨p,rfl,hno⟩|⟨t,P,fv,ht,hfs,hPl,rfl,hfm⟩
  .refine⟨rfl,hbw,.inl ⟨p,rfl,?_⟩⟩;rintro ⟨t,h⟩;have:=h.2.1;rw[hno]at this;simp at this
  obtain⟨a,c,rfl⟩:=own_slice hfm.1;obtain⟨hsm,hlet⟩:=pTab_small (by simpa using hs8) ht;have hsz:=hb.size;simp only[World.size_alloc]at hsz hfm;have hun:∀t',TabOk s.data.toList t'->t'=t:=fun t' h=>by have:=h.2.1;rw[ht]at this;exact(Option.some.inj this).symm
  have hX:=zW w1 #[.int .i64 t.cyc,.int .i64 t.fr,.slice a P.length c] 61;have hY1:=zK hY (zN w1 (.cells #[.int .i64 t.cyc,.int .i64 t.fr,.slice a P.length c] 61));have hfm1:=hfm.below (zN w1 (.cells #[.int .i64 t.cyc,.int .i64 t.fr,.slice a P.length c] 61));have hb1:=hbw.alloc hbw.size (.cells #[.int .i64 t.cyc,.int .i64 t.fr,.slice a P.length c] 61);have hPf:Hid (P.length=t.fs.length):=by unfold Hid;rw[hfs];simp
  have Hfs:=hide hfs;have Hun:=hide hun;have Ht:=hide ht;have Hlet:=hide hlet;have Hsm:=hide hsm;have HB1:=hide hb1;have HFM:=hide hfm1;clear hb hbw hY hfm hfs hun ht hlet hsm hb1 hfm1;have hx:=zC hX;go_wp2_with fail;clear hx;generalize w1.alloc (.cells #[.int .i64 t.cyc,.int .i64 t.fr,.slice a P.length c] 61)=w2 at *;generalize w1.heap.size=X at *;have hck:=tcheck_any t a c w2 (by have:=fvA_own HFM.out;rw[←Hfs.out]at this;exact this) Hsm.out;rw[←hPf.out]at hck;refine hck.mono ?_;clear hck;rintro e w3 ⟨hb3,hcase⟩;rcases hcase with⟨hok,rfl⟩|⟨hok,rfl⟩
  .have hX3:=zK hX hb3;have hY3:=zK hY1 hb3;have hx:=zC hX3;have HFM3:=hide (HFM.out.below hb3);have HB3:=hide (HB1.out.trans (hb3.mono HB1.out.size));have Hok:=hide hok;clear hb3 hok HFM HB1 hX hY1;go_wp2_with fail;have htx:=tableText_any t a c w3 (by have:=fvA_own HFM3.out;rw[←Hfs.out]at this;exact this) Hok.out.1;rw[←hPf.out]at htx;refine htx.mono ?_;clear htx;rintro e w4 ⟨rfl,hb4⟩;have hX4:=zK hX3 hb4;have hY4:=zK hY3 hb4;have hx4:=zC hX4;have y0:∀o,w4.cell? ⟨w.heap.size,o,none⟩=#[Value.int .i64 0,.int .i64 0,.slice none 0 0][o]? := zC hY4;have yf:=zF hY4;have HFM4:=hide (HFM3.out.below hb4);have HB4:=hide (HB3.out.trans (hb4.mono HB3.out.size));have hne1:¬w.heap.size=X:=by omega
   have hne2:¬X=w.heap.size:=by omega
   clear hb4 HFM3 HB3 hX3 hY3 hx hX4 hY4;by_cases hq:tbTxt t=s.data.toList
   .have hq':((bs (tbTxt t)).toList==s.toList)=true:=by rw[ByteArray.toList_eq,ByteArray.toList_eq,bs_data,hq];simp
    have Htab:Hid (TabOk s.data.toList t):=⟨by simpa using hs8,Ht.out,Hok.out.1,hq⟩;clear hq;generalize bs (tbTxt t)=TX at *;go_wp2;refine bodyPost_ret (v:=.agg #[.int .i64 t.cyc,.int .i64 t.fr,.slice a P.length c]) (by simp[results,Tryz.results32,go_sem,y0]) rfl ⟨?_,.inr ⟨t,P,a,c,Htab.out,Hfs.out,rfl,?_⟩⟩
    .exact below_grown (zG (zG (zG (grown_below HB4.out) (Nat.le_refl _) _ _) (Nat.le_refl _) _ _) (Nat.le_refl _) _ _)
    .exact(((HFM4.out.setLow (Nat.lt_succ_self _) _ _).setLow (Nat.lt_succ_self _) _ _).setLow (Nat.lt_succ_self _) _ _).weak (Nat.le_succ _)
   .have hq':((bs (tbTxt t)).toList==s.toList)=false:=by rw[ByteArray.toList_eq,ByteArray.toList_eq,bs_data,beq_eq_false_iff_ne];exact hq
    have hno:Hid (¬∃t,TabOk s.data.toList t):=by
     rintro ⟨t',h⟩;have:=Hun.out t' h;subst this;exact hq h.2.2.2
    clear hq;generalize bs (tbTxt t)=TX at *;go_wp2_with fail;refine(refuse_any 8 0 _ rfl _).mono ?_;rintro e w' ⟨rfl,rfl⟩;exact⟨rfl,HB4.out,.inl ⟨_,rfl,hno.out⟩⟩
  .refine⟨rfl,HB1.out.trans (hb3.mono HB1.out.size),.inl ⟨_,rfl,?_⟩⟩;rintro ⟨t',h⟩;have:=Hun.out t' h;subst this;exact hok ⟨h.2.2.1,Hlet.out⟩
def UnpOk (l:List UInt8) (t:Tb):Prop:=l.length<=246/\∃body,l=body++sumL body/\bTab body=some t/\ChkOk t
theorem unpack_any (s:ByteArray)(w:World)(hm:s.size<=9223372036854775807):
  Calls Tryz.prog 35 #[.string s] w (TabOut (UnpOk s.data.toList) w):=by
 have hll:s.data.toList.length=s.size:=by simp
 by_cases hl:246<s.size\/s.size<4
 .have hno:Hid (¬∃t,UnpOk s.data.toList t):=by
   rintro ⟨t,h,body,h1,_⟩;have:=congrArg List.length h1;rw[List.length_append,show (sumL body).length=4 from rfl]at this;omega
  have hcs:(246:Int)<s.size\/(¬(246:Int)<s.size/\(s.size:Int)<4):=by omega
  clear hl hll;rcases hcs with a1|⟨a1,a2⟩
  all_goals
   go_enter Tryz.func35,Tryz.ntmps35;go_wp2_with fail;refine(refuse_any 8 0 _ rfl _).mono ?_;rintro e w' ⟨rfl,rfl⟩;exact⟨rfl,zN _ _,.inl ⟨_,rfl,hno.out⟩⟩
 .have hl1:¬(246:Int)<s.size:=by omega
  have hl2:¬(s.size:Int)<4:=by omega
  have hl3:4<=s.size:=by omega
  have hl4:s.size<=246:=by omega
  obtain⟨B,hB⟩:∃B,s.data.toList.take (s.size-4)=B:=⟨_,rfl⟩;have hBl:B.length=s.size-4:=by rw[←hB];simp
  have hex:s.extract 0 (s.size-4)=bs B:=by
   rw[ext_bs];simp only[List.drop_zero,Nat.sub_zero];rw[hB]
  have hBu:Hid (∀body,s.data.toList=body++sumL body->body=B):=by
   intro body h;have hlen:=congrArg List.length h;rw[List.length_append,show (sumL body).length=4 from rfl]at hlen;rw[←hB,h,show s.size-4=body.length by omega,List.take_left'];rfl
  have hsub:((s.size:Int)-4)=((s.size-4:Nat):Int):=by omega
  have hiz:(0:Int)<=(s.size:Int)-4:=by omega
  have HSum:Hid (∀W,Calls Tryz.prog 68 #[.string (bs B)] W fun e w'=>e=.returned (.string (bs (sumL B)))/\Below W.heap.size W w'):=fun W=>by
   have:=sumOf_any (bs B) W (by rw[bs_size];omega);rw[bs_data]at this;exact this
  obtain⟨X1,a1,z1,e1⟩:=add_named2 (bs B) (bs (sumL B)) (by rw[bs_size,bs_size,show (sumL B).length=4 from rfl];omega);have EX:Hid (X1.data.toList=B++sumL B):=by
   unfold Hid;rw[e1,bs_data,bs_data]
  have htn:((s.size:Int)-4).toNat=s.size-4:=by omega
  clear z1 e1 hB hl;go_enter Tryz.func35,Tryz.ntmps35;go_wp2_with fail;refine(HSum.out _).mono ?_;rintro e w1 ⟨rfl,hb⟩;have hbw:Below w.heap.size w w1:=(zN w _).trans (hb.mono (by simp));have hY:=zK (zW w ptZ 61) hb;have hsz:=hb.size;simp only[World.size_alloc]at hsz;have HBw:=hide hbw;have HY:=hide hY;clear hb hbw hY HSum hex;by_cases hq:s.data.toList=B++sumL B
  .have hq':(s.toList==X1.toList)=true:=by rw[ByteArray.toList_eq,ByteArray.toList_eq,EX.out,hq];simp
   have Hq:=hide hq;clear hq;generalize bs (sumL B)=SS at *;go_wp2_with fail;refine(parseBody_any B w1 (by omega)).mono ?_;rintro e w2 ⟨hb2,hcase⟩;have HB2:=hide (HBw.out.trans (hb2.mono HBw.out.size));have hY2:=zK HY.out hb2;have hsz2:=hb2.size;rcases hcase with⟨rfl,hno⟩|⟨t,P,a,c,ht,hfs,hPl,rfl,hfm⟩
   .refine⟨rfl,HB2.out,.inl ⟨0,rfl,?_⟩⟩;rintro ⟨t,_,body,h1,h2,_⟩;rw[hBu.out body h1,hno]at h2;simp at h2
   have hsm:=bTab_small (by omega) ht;have hX:=zW w2 #[.int .i64 t.cyc,.int .i64 t.fr,.slice a P.length c] 61;have hY3:=zK hY2 (zN w2 (.cells #[.int .i64 t.cyc,.int .i64 t.fr,.slice a P.length c] 61));have HFM:=hide ((hfm.below (zN w2 (.cells #[.int .i64 t.cyc,.int .i64 t.fr,.slice a P.length c] 61))).weak (base':=w.heap.size+1) (by omega));have HB3:=hide (HB2.out.alloc HB2.out.size (.cells #[.int .i64 t.cyc,.int .i64 t.fr,.slice a P.length c] 61));have hPf:Hid (P.length=t.fs.length):=by unfold Hid;rw[hfs];simp
   have Hfs:=hide hfs;have Ht:=hide ht;have Hsm:=hide hsm;clear hb2 hY2 hfm hfs ht hsm HB2 HBw HY;have hx:=zC hX;go_wp2_with fail;clear hx;generalize w2.alloc (.cells #[.int .i64 t.cyc,.int .i64 t.fr,.slice a P.length c] 61)=w3 at *;generalize w2.heap.size=X at *;have hck:=tcheck_any t a c w3 (by have:=fvA_own HFM.out;rw[←Hfs.out]at this;exact this) Hsm.out;rw[←hPf.out]at hck;refine hck.mono ?_;clear hck;rintro e w4 ⟨hb4,hcase⟩;have HB4:=hide (HB3.out.trans (hb4.mono HB3.out.size));rcases hcase with⟨hok,rfl⟩|⟨hok,rfl⟩
   .have hX4:=zK hX hb4;have hY4:=zK hY3 hb4;have hx4:=zC hX4;have y0:∀o,w4.cell? ⟨w.heap.size,o,none⟩=#[Value.int .i64 0,.int .i64 0,.slice none 0 0][o]? := zC hY4;have yf:=zF hY4;have HFM4:=hide (HFM.out.below hb4);have hne1:¬w.heap.size=X:=by omega
    have hne2:¬X=w.heap.size:=by omega
    have Htab:Hid (UnpOk s.data.toList t):=⟨by omega,B,Hq.out,Ht.out,hok⟩;clear hb4 hok HFM HB3 hX hY3 hX4 hY4;go_wp2;refine bodyPost_ret (v:=.agg #[.int .i64 t.cyc,.int .i64 t.fr,.slice a P.length c]) (by simp[results,Tryz.results35,go_sem,y0]) rfl ⟨?_,.inr ⟨t,P,a,c,Htab.out,Hfs.out,rfl,?_⟩⟩
    .exact below_grown (zG (zG (zG (grown_below HB4.out) (Nat.le_refl _) _ _) (Nat.le_refl _) _ _) (Nat.le_refl _) _ _)
    .exact(((HFM4.out.setLow (Nat.lt_succ_self _) _ _).setLow (Nat.lt_succ_self _) _ _).setLow (Nat.lt_succ_self _) _ _).weak (Nat.le_succ _)
   .refine⟨rfl,HB4.out,.inl ⟨_,rfl,?_⟩⟩;rintro ⟨t',_,body,h1,h2,h3⟩;rw[hBu.out body h1,Ht.out]at h2;have:=Option.some.inj h2;subst this;exact hok h3
  .have hq':(s.toList==X1.toList)=false:=by rw[ByteArray.toList_eq,ByteArray.toList_eq,EX.out,beq_eq_false_iff_ne];exact hq
   have hno:Hid (¬∃t,UnpOk s.data.toList t):=by
    rintro ⟨t,_,body,h1,_⟩;have:=hBu.out body h1;subst this;exact hq h1
   clear hq;generalize bs (sumL B)=SS at *;go_wp2_with fail;refine(refuse_any 8 0 _ rfl _).mono ?_;rintro e w' ⟨rfl,rfl⟩;exact⟨rfl,HBw.out,.inl ⟨_,rfl,hno.out⟩⟩
def packB (t:Tb):List UInt8:=bodyB t++sumL (bodyB t)
def wrE (l:List UInt8) (f:Nat×Nat):Prop:=f.1=8/\¬∃t,TabOk l t
def wrR (l x:List UInt8):Prop:=∃t,TabOk l t/\x=packB t
def rdE (l:List UInt8) (f:Nat×Nat):Prop:=f.1=8/\¬∃t,UnpOk l t
def rdR (l x:List UInt8):Prop:=∃t,UnpOk l t/\x=tbTxt t
theorem write1_any (s:ByteArray)(b:Nat)(w:World)(hm:s.size<=9223372036854775807)(hc:w.cell? ⟨b,0,none⟩=some (.string s)):
  Calls Tryz.prog 31 #[.pointer (some ⟨b,0,none⟩)] w (WorkOut (wrE s.data.toList) (wrR s.data.toList) w):=by
 go_enter Tryz.func31,Tryz.ntmps31;go_wp2_with fail;refine(readTable_any s _ hm).mono ?_;rintro e w1 ⟨hb1,hcase⟩;rcases hcase with⟨p,rfl,hno⟩|⟨t,P,a,c,ht,hfs,rfl,hfm⟩
 .exact⟨rfl,hb1,.inl ⟨(8,p),⟨rfl,hno⟩,rfl⟩⟩
 .have hpk:=pack_any t a c w1 (by have:=fvA_own hfm;rw[←hfs]at this;exact this) ht.2.2.1;have hPf:t.fs.length=P.length:=by rw[hfs];simp
  rw[hPf]at hpk;have Hpk:=hide hpk;have HB:=hide hb1;have Ht:=hide ht;clear hpk hb1 ht hfs hfm hPf;go_wp2_with fail;refine Hpk.out.mono ?_;rintro e w2 ⟨rfl,hb2⟩;have HB2:=hide (HB.out.trans (hb2.mono HB.out.size));have hpb:Hid (bs (bodyB t++sumL (bodyB t))=bs (packB t)):=rfl;generalize bs (bodyB t++sumL (bodyB t))=RR at *;clear hb2 Hpk;go_wp2;go_ret;exact⟨HB2.out,.inr ⟨packB t,⟨t,Ht.out,rfl⟩,by rw[←hpb.out];rfl⟩⟩
theorem read1_any (s:ByteArray)(b:Nat)(w:World)(hm:s.size<=9223372036854775807)(hc:w.cell? ⟨b,0,none⟩=some (.string s)):
  Calls Tryz.prog 34 #[.pointer (some ⟨b,0,none⟩)] w (WorkOut (rdE s.data.toList) (rdR s.data.toList) w):=by
 go_enter Tryz.func34,Tryz.ntmps34;go_wp2_with fail;refine(unpack_any s _ hm).mono ?_;rintro e w1 ⟨hb1,hcase⟩;rcases hcase with⟨p,rfl,hno⟩|⟨t,P,a,c,ht,hfs,rfl,hfm⟩
 .exact⟨rfl,hb1,.inl ⟨(8,p),⟨rfl,hno⟩,rfl⟩⟩
 .have hS:Sound t:=by
   obtain⟨_,_,_,_,h⟩:=ht;exact h.1
  have hpk:=tableText_any t a c w1 (by have:=fvA_own hfm;rw[←hfs]at this;exact this) hS;have hPf:t.fs.length=P.length:=by rw[hfs];simp
  rw[hPf]at hpk;have Hpk:=hide hpk;have HB:=hide hb1;have Ht:=hide ht;clear hpk hb1 ht hfs hfm hPf hS;go_wp2_with fail;refine Hpk.out.mono ?_;rintro e w2 ⟨rfl,hb2⟩;have HB2:=hide (HB.out.trans (hb2.mono HB.out.size));have hpb:Hid (bs (tbTxt t)=bs (tbTxt t)):=rfl;generalize hRR:bs (tbTxt t)=RR at *;have HRR:=hide hRR;clear hb2 Hpk hRR;go_wp2;go_ret;exact⟨HB2.out,.inr ⟨tbTxt t,⟨t,Ht.out,rfl⟩,by rw[HRR.out];rfl⟩⟩
def TwoOut (E:Nat×Nat->Prop) (R:List UInt8->Prop) (w:World) (en:Ending) (w':World):Prop:=
 Below w.heap.size w w'/\((∃f,E f/\en=.returned (.tuple #[.string ⟨#[]⟩,.int .i64 f.1]))\/(∃x,R x/\en=.returned (.tuple #[.string (bs x),.int .i64 0])))
theorem write_any (s:ByteArray)(w:World)(hm:s.size<=9223372036854775807):
  Calls Tryz.prog 14 #[.string s] w (TwoOut (wrE s.data.toList) (wrR s.data.toList) w):=by
 have hmf:∀(fn:Fn) (first cap:Array Value) (w:World),(Instr.makeFunc fn first cap).run Tryz.prog w=.ok (.func fn first cap) w:=fun _ _ _ _=>rfl;have hX:=zC (zW w #[.string s] 9) 0;have HB0:=hide (zN w (.cells #[.string s] 9));go_enter Tryz.func14,Tryz.ntmps14;go_wp2_with fail;refine(guard_write 8 _ rfl w.heap.size _ (wrE s.data.toList) (wrR s.data.toList) (fun W hW=>write1_any s w.heap.size W hm ((hW.cell (p:=⟨w.heap.size,0,none⟩) (by simp)).trans hX))).mono ?_;rintro e w1 ⟨hb1,hcase⟩;have HB:=hide (HB0.out.trans (hb1.mono (by simp)));clear hb1 hX;rcases hcase with⟨f,hf,rfl⟩|⟨R,hR,rfl⟩
 .have Hf:=hide hf;clear hf;go_wp2
  go_ret2
  exact⟨HB.out,.inl ⟨f,Hf.out,rfl⟩⟩
 .have HR:=hide hR;clear hR;go_wp2
  go_ret2
  exact⟨HB.out,.inr ⟨R,HR.out,rfl⟩⟩
theorem read_any (s:ByteArray)(w:World)(hm:s.size<=9223372036854775807):
  Calls Tryz.prog 17 #[.string s] w (TwoOut (rdE s.data.toList) (rdR s.data.toList) w):=by
 have hmf:∀(fn:Fn) (first cap:Array Value) (w:World),(Instr.makeFunc fn first cap).run Tryz.prog w=.ok (.func fn first cap) w:=fun _ _ _ _=>rfl;have hX:=zC (zW w #[.string s] 9) 0;have HB0:=hide (zN w (.cells #[.string s] 9));go_enter Tryz.func17,Tryz.ntmps17;go_wp2_with fail;refine(guard_read 8 _ rfl w.heap.size _ (rdE s.data.toList) (rdR s.data.toList) (fun W hW=>read1_any s w.heap.size W hm ((hW.cell (p:=⟨w.heap.size,0,none⟩) (by simp)).trans hX))).mono ?_;rintro e w1 ⟨hb1,hcase⟩;have HB:=hide (HB0.out.trans (hb1.mono (by simp)));clear hb1 hX;rcases hcase with⟨f,hf,rfl⟩|⟨R,hR,rfl⟩
 .have Hf:=hide hf;clear hf;go_wp2
  go_ret2
  exact⟨HB.out,.inl ⟨f,Hf.out,rfl⟩⟩
 .have HR:=hide hR;clear hR;go_wp2
  go_ret2
  exact⟨HB.out,.inr ⟨R,HR.out,rfl⟩⟩
end
section
open Go.RowKit Go.Maps
def rnE (l:List UInt8) (tk:Int) (cs:List Int) (f:Nat×Nat):Prop:=(f.1=8/\¬∃t,UnpOk l t)\/(f.1=9/\(∃t,UnpOk l t)/\¬ticksOk tk cs)
def rnR (l:List UInt8) (tk:Int) (cs:List Int) (x:List UInt8):Prop:=∃t,UnpOk l t/\ticksOk tk cs/\x=(prT (zX 0 t.fs) t.cyc t.fr cs tk.toNat).out
theorem run1_any (s:ByteArray)(tk:Int)(cs:List Int)(ca:Option Addr)(ccap b b2 b3:Nat)(w:World)(hm:s.size<=9223372036854775807)(hn:cs.length<=9223372036854775807)(hca:CostsAt w ca cs)(hb:b<w.heap.size)(hb2:b2<w.heap.size)(hb3:b3<w.heap.size)
  (hc:w.cell? ⟨b,0,none⟩=some (.string s)) (hc2:w.cell? ⟨b2,0,none⟩=some (.int .i64 tk)) (hc3:w.cell? ⟨b3,0,none⟩=some (.slice ca cs.length ccap)):
  Calls Tryz.prog 37 #[.pointer (some ⟨b,0,none⟩),.pointer (some ⟨b2,0,none⟩),.pointer (some ⟨b3,0,none⟩)] w (WorkOut (rnE s.data.toList tk cs) (rnR s.data.toList tk cs) w):=by
 have Hca:=hide hca;clear hca;go_enter Tryz.func37,Tryz.ntmps37;go_wp2_with fail;refine(unpack_any s _ hm).mono ?_;rintro e w1 ⟨hb1,hcase⟩;rcases hcase with⟨p,rfl,hno⟩|⟨t,P,a,c,ht,hfs,rfl,hfm⟩
 .exact⟨rfl,hb1,.inl ⟨(8,p),.inl ⟨rfl,hno⟩,rfl⟩⟩
 .have hS:Sound t:=by
   obtain⟨_,_,_,_,h⟩:=ht;exact h.1
  have hPf:t.fs.length=P.length:=by rw[hfs];simp
  have hfv:FvA w1 a t.fs:=by have:=fvA_own hfm;rw[←hfs]at this;exact this
  have d2:=(hb1.cell (p:=⟨b2,0,none⟩) hb2).trans hc2;have d3:=(hb1.cell (p:=⟨b3,0,none⟩) hb3).trans hc3;have h2w:b2<w1.heap.size:=Nat.lt_of_lt_of_le hb2 hb1.size;have h3w:b3<w1.heap.size:=Nat.lt_of_lt_of_le hb3 hb1.size;rw[←hPf];have HB:=hide (hb1.alloc hb1.size (.cells #[.int .i64 t.cyc,.int .i64 t.fr,.slice a t.fs.length c] 61));have Hca2:=hide (Hca.out.low HB.out);have Hfv:=hide (hfv.below (zN w1 (.cells #[.int .i64 t.cyc,.int .i64 t.fr,.slice a t.fs.length c] 61)) (Nat.le_refl _));have Ht:=hide ht;have HS:=hide hS;have hX:=zW w1 #[.int .i64 t.cyc,.int .i64 t.fr,.slice a t.fs.length c] 61;have hXl:w1.heap.size<(w1.alloc (.cells #[.int .i64 t.cyc,.int .i64 t.fr,.slice a t.fs.length c] 61)).heap.size:=zL hX;have HX:=hide hX;clear ht hfs hfm hPf hfv hS hb1 hc hc2 hc3 hX Hca;go_wp2_with fail;refine(checkTicks_any tk cs ca ccap _ Hca2.out hn).mono ?_;rintro e w2 ⟨hb2',hcase⟩;have HB2:=hide (HB.out.trans (hb2'.mono (by have:=HB.out.size;exact this)));rcases hcase with⟨htk,rfl⟩|⟨htk,rfl⟩
  .have e2:=(hb2'.cell (p:=⟨b2,0,none⟩) (by simp;omega)).trans ((zN w1 (.cells #[.int .i64 t.cyc,.int .i64 t.fr,.slice a t.fs.length c] 61)).cell (p:=⟨b2,0,none⟩) h2w |>.trans d2);have e3:=(hb2'.cell (p:=⟨b3,0,none⟩) (by simp;omega)).trans ((zN w1 (.cells #[.int .i64 t.cyc,.int .i64 t.fr,.slice a t.fs.length c] 61)).cell (p:=⟨b3,0,none⟩) h3w |>.trans d3);have x:=zC (zK HX.out hb2');obtain⟨n,hn2⟩:∃n:Nat,tk=n:=⟨tk.toNat,by have:=htk.1;omega⟩;have hn4:n<=400:=by have:=htk.2.1;omega
   have HR:=hide (run_any t a c w2 (Hfv.out.below hb2' (Nat.le_refl _)) HS.out n hn4 cs ca ccap (Hca2.out.low hb2') htk.2.2.1 htk.2.2.2);rw[←hn2]at HR;have Htk:=hide htk;have Hn2:=hide hn2;clear hb2' d2 d3 htk HX hn2 Hfv HB;generalize hRR:bs (prT (zX 0 t.fs) t.cyc t.fr cs n).out=RR at *;have HRR:=hide hRR;clear hRR;go_wp2_with fail;refine HR.out.mono ?_;rintro e w3 ⟨rfl,hb3'⟩;have HB3:=hide (HB2.out.trans (hb3'.mono HB2.out.size));clear hb3' HR x e2 e3;go_wp2;go_ret;exact⟨HB3.out,.inr ⟨_,⟨t,Ht.out,Htk.out,rfl⟩,by rw[show tk.toNat=n by rw[Hn2.out];rfl,HRR.out];rfl⟩⟩
  .exact⟨rfl,HB2.out,.inl ⟨(9,0),.inr ⟨rfl,⟨t,Ht.out⟩,htk⟩,rfl⟩⟩
theorem guard_run (own:Nat)(ev:Int)(hev:ev=own)(b b2 b3:Nat)(w:World)(E:Nat×Nat->Prop)(R:List UInt8->Prop)
  (hw:∀W,Below w.heap.size w W->Calls Tryz.prog 37 #[.pointer (some ⟨b,0,none⟩),.pointer (some ⟨b2,0,none⟩),.pointer (some ⟨b3,0,none⟩)] W (WorkOut E R W)):
  Calls Tryz.prog 30 #[.int .i64 ev,.func (.func 37) #[] #[.pointer (some ⟨b,0,none⟩),.pointer (some ⟨b2,0,none⟩),.pointer (some ⟨b3,0,none⟩)]] w (GOutG E R w):=by
 subst hev;have hmf:∀(fn:Fn) (first cap:Array Value) (w:World),(Instr.makeFunc fn first cap).run Tryz.prog w=.ok (.func fn first cap) w:=fun _ _ _ _=>rfl;have HN:=hide (G3.new w own);have HO:=hide (own_new w own);have HB0:=hide (below_four w (.cells #[.int .i64 own] 28) (.cells #[.string ⟨#[]⟩] 9) (.cells #[.int .i64 0] 28) (.cells #[.int .i64 0] 3));have Hw:=hide hw;clear hw
 go_enter_defers Tryz.func30,Tryz.ntmps30
 go_wp2_with fail;generalize (((w.alloc (.cells #[.int .i64 own] 28)).alloc (.cells #[.string ⟨#[]⟩] 9)).alloc (.cells #[.int .i64 0] 28)).alloc (.cells #[.int .i64 0] 3)=W at *;refine(Hw.out W HB0.out).mono ?_;rintro e w1 ⟨hb1,hcase⟩;have HG1:=hide (HN.out.keep hb1);have HO1:=hide (blk_kept HO.out hb1);have HB1:=hide (HB0.out.trans (hb1.mono HB0.out.size));clear hb1;rcases hcase with⟨f,hf,rfl⟩|⟨x,hR,rfl⟩
 .refine leaves_cons (f:=63) (args:=#[.pointer (some ⟨w.heap.size,0,none⟩),.pointer (some ⟨w.heap.size+1,0,none⟩),.pointer (some ⟨w.heap.size+1+1,0,none⟩),.pointer (some ⟨w.heap.size+1+2,0,none⟩)]) (by simp) (by simp[go_sem]) ?_;refine(catch_panicking w.heap.size own (w.heap.size+1) f.1 f.2 w1 (by rw[zC HO1.out];rfl) HG1.out).mono ?_;rintro e u' w'' ⟨rfl,rfl,hG,hB⟩;have c0:=zC hG.h0;have c1:=zC hG.h1;have c2:=zC hG.h2;simp[Leaves,settle,results,Tryz.results30,go_sem,c0,c1,c2];exact⟨HB1.out.trans (hB.mono (Nat.le_succ _)),.inl ⟨f,hf,rfl⟩⟩
 .have a0:=zC HG1.out.h0;have a1:=zC HG1.out.h1;have a2:=zC HG1.out.h2;have f0:=zF HG1.out.h0;have f1:=zF HG1.out.h1;have f2:=zF HG1.out.h2;have HR:=hide hR;clear hR;go_wp2;refine leaves_cons (f:=63) (args:=#[.pointer (some ⟨w.heap.size,0,none⟩),.pointer (some ⟨w.heap.size+1,0,none⟩),.pointer (some ⟨w.heap.size+1+1,0,none⟩),.pointer (some ⟨w.heap.size+1+2,0,none⟩)]) (by simp) (by simp[go_sem]) ?_;refine(catch_idle _ _ _ _ _).mono ?_;rintro e u' w'' ⟨rfl,rfl,rfl⟩;have hG:G3 (((w1.setCell ⟨w.heap.size+1,0,none⟩ (.string (bs x))).setCell ⟨w.heap.size+1+1,0,none⟩ (.int .i64 0)).setCell ⟨w.heap.size+1+2,0,none⟩ (.int .i64 0)) (w.heap.size+1) (bs x) 0 0:=HG1.out.set (bs x) 0 0;have HB:=((HB1.out.setCell (p:=⟨w.heap.size+1,0,none⟩) (Nat.le_add_right _ _) (.string (bs x))).setCell (p:=⟨w.heap.size+1+1,0,none⟩) (Nat.le_trans (Nat.le_succ _) (Nat.le_succ _)) (.int .i64 0)).setCell (p:=⟨w.heap.size+1+2,0,none⟩) (Nat.le_trans (Nat.le_succ _) (Nat.le_add_right _ _)) (.int .i64 0);generalize ((w1.setCell ⟨w.heap.size+1,0,none⟩ (.string (bs x))).setCell ⟨w.heap.size+1+1,0,none⟩ (.int .i64 0)).setCell ⟨w.heap.size+1+2,0,none⟩ (.int .i64 0)=w2 at *;have c0:=zC hG.h0;have c1:=zC hG.h1;have c2:=zC hG.h2;simp[Leaves,settle,results,Tryz.results30,go_sem,c0,c1,c2];exact⟨HB,.inr ⟨x,HR.out,rfl⟩⟩
theorem run_out (s:ByteArray)(tk:Int)(cs:List Int)(ca:Option Addr)(ccap:Nat)(w:World)(hm:s.size<=9223372036854775807)(hn:cs.length<=9223372036854775807)(hca:CostsAt w ca cs):
  Calls Tryz.prog 18 #[.string s,.int .i64 tk,.slice ca cs.length ccap] w (TwoOut (rnE s.data.toList tk cs) (rnR s.data.toList tk cs) w):=by
 have hmf:∀(fn:Fn) (first cap:Array Value) (w:World),(Instr.makeFunc fn first cap).run Tryz.prog w=.ok (.func fn first cap) w:=fun _ _ _ _=>rfl;have n1:=zW w #[.string s] 9;have n2:=zW (w.alloc (.cells #[.string s] 9)) #[.int .i64 tk] 3;have n3:=zW ((w.alloc (.cells #[.string s] 9)).alloc (.cells #[.int .i64 tk] 3)) #[.slice ca cs.length ccap] 25;have m1:=zK (zK n1 (zN _ (.cells #[.int .i64 tk] 3))) (zN _ (.cells #[.slice ca cs.length ccap] 25));have m2:=zK n2 (zN _ (.cells #[.slice ca cs.length ccap] 25));simp only[World.size_alloc]at n3 m2;have HB0:=hide (((zN w (.cells #[.string s] 9)).alloc (by simp) (.cells #[.int .i64 tk] 3)).alloc (by simp;omega) (.cells #[.slice ca cs.length ccap] 25));have HG:Hid (Calls Tryz.prog 30 #[.int .i64 8,.func (.func 37) #[] #[.pointer (some ⟨w.heap.size,0,none⟩),.pointer (some ⟨w.heap.size+1,0,none⟩),.pointer (some ⟨w.heap.size+1+1,0,none⟩)]] (((w.alloc (.cells #[.string s] 9)).alloc (.cells #[.int .i64 tk] 3)).alloc (.cells #[.slice ca cs.length ccap] 25)) (GOutG (rnE s.data.toList tk cs) (rnR s.data.toList tk cs) (((w.alloc (.cells #[.string s] 9)).alloc (.cells #[.int .i64 tk] 3)).alloc (.cells #[.slice ca cs.length ccap] 25)))):=by
  refine guard_run 8 _ rfl w.heap.size (w.heap.size+1) (w.heap.size+1+1) _ (rnE s.data.toList tk cs) (rnR s.data.toList tk cs) (fun W hW=>?_);have hsz:=hW.size;simp only[World.size_alloc]at hsz;refine run1_any s tk cs ca ccap w.heap.size (w.heap.size+1) (w.heap.size+1+1) W hm hn ((hca.low HB0.out).low hW) (by omega) (by omega) (by omega) ?_ ?_ ?_
  .rw[zC (zK m1 hW)];rfl
  .rw[zC (zK m2 hW)];rfl
  .rw[zC (zK n3 hW)];rfl
 clear n1 n2 n3 m1 m2 hca;go_enter Tryz.func18,Tryz.ntmps18;go_wp2_with fail;refine HG.out.mono ?_;rintro e w1 ⟨hb1,hcase⟩;have HB:=hide (HB0.out.trans (hb1.mono (by simp;omega)));clear hb1 HG;rcases hcase with⟨f,hf,rfl⟩|⟨R,hR,rfl⟩
 .have Hf:=hide hf;clear hf;go_wp2
  go_ret2
  exact⟨HB.out,.inl ⟨f,Hf.out,rfl⟩⟩
 .have HR:=hide hR;clear hR;go_wp2
  go_ret2
  exact⟨HB.out,.inr ⟨R,HR.out,rfl⟩⟩
end
end Go.Proofs.YtbdffcjganlblaaGreatDoor
