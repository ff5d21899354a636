import Derived.Test.YtbdffcjganlblaaGreatDoorAEdCtoDsC
import Derived.Test.YtbdffcjganlblaaGreatDoorAEdEtoEdG
import Derived.Deep.DeepCutAuto
import Derived.Test.YtbdffcjganlblaaGreatDoorAGrAtoDsA
set_option linter.unusedVariables false
set_option linter.unusedSimpArgs false
set_option maxRecDepth 100000
set_option maxHeartbeats 16000000
namespace Go.Proofs.YtbdffcjganlblaaGreatDoor
section
open Go.RowKit
def fs0:FS:=⟨fun _ _=>0,fun _=>0,fun _=>false⟩
structure KpR (J n F:Nat) (fit:Nat->Nat->Bool) (cost:Nat->Nat) (k u:Nat) (s:FS):Prop where
 fair:Fair J n F fit s
 low:∀a,a<k->sumN (fun j=>s.has a j) n=cost a
 now:sumN (fun j=>s.has k j) n=u
 high:∀a,k<a->a<J->sumN (fun j=>s.has a j) n=0
structure KpO (J n F:Nat) (fit:Nat->Nat->Bool) (cost:Nat->Nat) (k:Nat) (s:FS):Prop where
 fair:Fair J n F fit s
 low:∀a,a<k->sumN (fun j=>s.has a j) n=cost a
 high:∀a,k<=a->a<J->sumN (fun j=>s.has a j) n=0
theorem kpR_start {J n F:Nat}{fit:Nat->Nat->Bool}{cost:Nat->Nat}:KpO J n F fit cost 0 fs0:=
 ⟨⟨fun _ _ _ _ _=>rfl,fun _ _=>sumN_zero _,fun _ _=>Nat.zero_le _⟩,fun a h=>by omega,fun _ _ _=>sumN_zero _⟩
section
variable {J n F:Nat} {fit:Nat->Nat->Bool} {cost:Nat->Nat} {k u:Nat} {s t:FS}
theorem KpR.seen (h:KpR J n F fit cost k u s)(z:Nat->Bool):KpR J n F fit cost k u ⟨s.has,s.used,z⟩:=
 ⟨fair_seen h.fair rfl rfl,h.low,h.now,h.high⟩
theorem KpO.now (h:KpO J n F fit cost k s)(hk:k<J):KpR J n F fit cost k 0 s:=⟨h.fair,h.low,h.high k (Nat.le_refl _) hk,fun a h1 h2=>h.high a (by omega) h2⟩
theorem KpR.next (h:KpR J n F fit cost k (cost k) s):KpO J n F fit cost (k+1) s:=
 ⟨h.fair,fun a ha=>by
  by_cases e:a=k
  .rw[e];exact h.now
  .exact h.low a (by omega),fun a h1 h2=>h.high a (by omega) h2⟩
theorem KpR.got (h:KpR J n F fit cost k u s)(hk:k<J)(hg:Got J n F fit k s t):KpR J n F fit cost k (u+1) t:=
 ⟨hg.fair,fun a ha=>by rw[hg.rows a (by omega),h.low a ha,if_neg (by omega)];rfl,by rw[hg.rows k hk,h.now,if_pos rfl],fun a h1 h2=>by rw[hg.rows a h2,h.high a h1 h2,if_neg (by omega)]⟩
theorem KpR.no (h:KpR J n F fit cost k u s)(hk:k<J)(hu:u<cost k)(hs:∀j,s.seen j=false){fuel:Nat}(hn:n<fuel)(hf:(giveP J n F fit fuel k s).1=false):¬Flows J n F fit cost:=by
 refine give_no hk h.fair hs hn (fun a ha=>?_) (by rw[h.now];exact hu) hf;rcases Nat.lt_trichotomy a k with h1|h1|h1
 .rw[h.low a h1];exact Nat.le_refl _
 .rw[h1,h.now];omega
 .rw[h.high a h1 ha];exact Nat.zero_le _
theorem KpO.yes (h:KpO J n F fit cost J s):Flows J n F fit cost:=
 ⟨s.has,h.fair.fits,fun j hj=>by rw[h.fair.sums j hj];exact h.fair.room j hj,h.low⟩
theorem unseen_new (has:Nat->Nat->Nat)(used:Nat->Nat)(m:Nat):unseen ⟨has,used,fun _=>false⟩ m<=m:=by
 induction m with
 | zero=>exact Nat.le_refl _
 | succ m ih=>
  unfold unseen at ih ⊢;rw[sumN];simp only[Bool.false_eq_true,if_false]at ih ⊢;omega
end
theorem Tryz.infoBool:(Tryz.prog.info? 4).map (fun i=>(i.zero,i.size,i.bytes))=some (some (.bool false),1,1):=by kernel_rfl
def falsA (c:Nat):Array Value:=madeCells (Value.bool false).cells c
theorem falsA_at (c j:Nat)(h:j<c):(falsA c)[j]? =some (.bool false):=by
 simp[falsA,madeCells,h,Value.cells,Nat.mod_one]
theorem make_bools (c:Nat)(hc:c<=1000)(w:World):(Instr.makeSlice 208 (.int .i64 c) (.int .i64 c)).run Tryz.prog w=.ok (.slice (some ⟨w.heap.size,0,none⟩) c c) (w.alloc (.cells (falsA c) 4)):=by
 obtain⟨i0,hi,hz0,hz1,hz2⟩:=info_parts Tryz.infoBool;have:=run_make (P:=Tryz.prog) w 208 4 i0 _ Tryz.underlying208 hi hz0 .i64 .i64 c c (by omega) (by omega) (by rw[hz2];omega) (by omega);rw[hz1]at this;simpa [falsA] using this
theorem make_many (c:Nat)(hc:c<=100000)(w:World):(Instr.makeSlice 25 (.int .i64 c) (.int .i64 c)).run Tryz.prog w=.ok (.slice (some ⟨w.heap.size,0,none⟩) c c) (w.alloc (.cells (zerosA c) 3)):=by
 obtain⟨i0,hi,hz0,hz1,hz2⟩:=info_parts Tryz.infoInt;have:=run_make (P:=Tryz.prog) w 25 3 i0 _ Tryz.underlying25 hi hz0 .i64 .i64 c c (by omega) (by omega) (by rw[hz2];omega) (by omega);rw[hz1]at this;simpa [zerosA] using this
structure FlW (js:List Jb) (F n base P gL gH gU cL cH cU:Nat) (s:FS) (w:World):Prop where
 p:w.heap[P]? =some (.cells #[.slice (some ⟨gL,0,none⟩) js.length cL,.int .i64 F,.int .i64 n,.slice (some ⟨gH,0,none⟩) (js.length*n) cH,.slice (some ⟨gU,0,none⟩) n cU] 206 (0,0))
 l:RowB w gL js
 hl:gL<w.heap.size
 h:RowV w gH 3 (js.length*n) (fun q=>.int .i64 (s.has (q/n) (q%n)))
 u:RowV w gU 3 n (fun j=>.int .i64 (s.used j))
 d1:P≠gH/\P≠gU
 d2:gL≠gH/\gL≠gU
 d3:gH≠gU
 lo:base<=gH/\base<=gU
section
variable {js:List Jb} {F n base P gL gH gU cL cH cU:Nat} {s:FS} {w w':World}
theorem FlW.seen (h:FlW js F n base P gL gH gU cL cH cU s w):FlM js F n P gL gH gU w.heap.size cL cH cU ⟨s.has,s.used,fun _=>false⟩ (w.alloc (.cells (falsA n) 4)):=by
 have ha:∀ {b:Nat},b<w.heap.size->(w.alloc (.cells (falsA n) 4)).heap[b]? =w.heap[b]? := fun hb=>Below.heap_alloc _ _ _ hb;have hp:=zL h.p;have hH:=h.h.lt;have hU:=h.u.lt;have hl:=h.hl;exact⟨by rw[ha hp];exact h.p,h.l.keep (ha hl),by simp;omega,h.h.keep (ha hH),h.u.keep (ha hU),⟨_,zW _ _ _,fun i hi=>falsA_at n i hi⟩,⟨h.d1.1,h.d1.2,by omega⟩,⟨h.d2.1,h.d2.2,by omega⟩,⟨h.d3,by omega,by omega⟩⟩
theorem FlM.drop {gS:Nat}(h:FlM js F n P gL gH gU gS cL cH cU s w)(hlo:base<=gH/\base<=gU):FlW js F n base P gL gH gU cL cH cU s w:=
 ⟨h.p,h.l,h.hl,h.h,h.u,⟨h.d1.1,h.d1.2.1⟩,⟨h.d2.1,h.d2.2.1⟩,h.d3.1,hlo⟩
end
theorem three_new (w:World)(a b c:Array Value)(ta tb tc:TypeId):(((w.alloc (.cells a ta)).alloc (.cells b tb)).alloc (.cells c tc)).heap[w.heap.size]? =some (.cells a ta (0,0))/\(((w.alloc (.cells a ta)).alloc (.cells b tb)).alloc (.cells c tc)).heap[w.heap.size+1]? =some (.cells b tb (0,0))/\(((w.alloc (.cells a ta)).alloc (.cells b tb)).alloc (.cells c tc)).heap[w.heap.size+1+1]? =some (.cells c tc (0,0)):=by
 refine⟨?_,?_,?_⟩
 .rw[Below.heap_alloc _ _ _ (by simp;omega),Below.heap_alloc _ _ _ (by simp)];exact zW _ _ _
 .rw[Below.heap_alloc _ _ _ (by simp)];simpa using zW (w.alloc (.cells a ta)) b tb
 .simpa using zW ((w.alloc (.cells a ta)).alloc (.cells b tb)) c tc
theorem zero_row {w:World}{g m:Nat}{ty:TypeId}(h:w.heap[g]? =some (.cells (zerosA m) ty (0,0))):RowV w g ty m (fun _=>.int .i64 ((0:Nat):Int)):=⟨_,h,fun i hi=>zerosA_at m i hi⟩
theorem rKept_any (ts:List Tk)(cyc g cap:Nat)(pa:Option Addr)(pm pc F:Nat)(w:World)(hg:g<w.heap.size)(hr:RowT w g ts)(hn:ts.length<=6)(hts:TsOk ts cyc)(hcy:cycI ts=cyc)(hF:1<=F)(hdv:cyc%F=0)(hne:0<(zJ cyc 0 ts).length):
  Calls Tryz.prog 134 #[.agg #[.slice (some ⟨g,0,none⟩) ts.length cap,.slice pa pm pc],.int .i64 F] w (BoolPost (Flows (zJ cyc 0 ts).length (cyc/F) F (fitJ (zJ cyc 0 ts) F) (costJ (zJ cyc 0 ts))) w):=by
 have hc1:=hts.c1;have hc2:=hts.c2;have hjs:=jobs_of hts;have hj360:=jobs_few hts;have HPk:Hid (∀k,k<ts.length->1<=(tsk ts k).P/\(tsk ts k).P<=60):=fun k hk=>by
  have h5:=hts.each _ (tsk_mem hk);have h6:(tsk ts k).P<=cyc:=Nat.le_of_dvd (by omega) (Nat.dvd_of_mod_eq_zero h5.2.1);omega
 have hFc:F<=cyc:=Nat.le_of_dvd (by omega) (Nat.dvd_of_mod_eq_zero hdv);have hS:=zW w #[.slice (some ⟨g,0,none⟩) ts.length cap,.slice pa pm pc] 53;have HB0:=hide (zN w (.cells #[.slice (some ⟨g,0,none⟩) ts.length cap,.slice pa pm pc] 53));have HS:=hide hS;have s0:=zC hS;have HR:=hide hr;have CJ:=hide (fun W (hW:Below w.heap.size w W)=>rSetJobs_any ts cyc g cap pa pm pc W (Nat.lt_of_lt_of_le hg hW.size) (hr.below hW hg) hn hts hcy);have CC:=hide (fun W (hW:Below w.heap.size w W)=>rCycle_any ts g cap (.slice pa pm pc) pa pm pc rfl W (Nat.lt_of_lt_of_le hg hW.size) (hr.below hW hg) hn HPk.out);rw[hcy]at CC;have HJs:=hide hjs;have hF0:¬(F:Int)=0:=by omega
 have hdiv:=hide (div_wrap cyc F (by omega));have hn60:cyc/F<=60:=Nat.le_trans (Nat.div_le_self _ _) hc2;have hn1:1<=cyc/F:=Nat.div_pos hFc (by omega);have HSm:Hid (∀k,k<(zJ cyc 0 ts).length->(jk (zJ cyc 0 ts) k).rel<=1000/\(jk (zJ cyc 0 ts) k).dl<=1000/\(jk (zJ cyc 0 ts) k).cost<=1000):=fun k hk=>by
  have h1:=hjs.win k hk;have h2:=hjs.cyc k hk;omega
 clear hr hts hcy hS hjs hdv;generalize zJ cyc 0 ts=js at *;generalize cyc/F=n at *;obtain⟨JN,hJN⟩:∃x,x=js.length*n:=⟨_,rfl⟩;have HJN:=hide hJN;have hJNb:JN<=60000:=by rw[hJN];exact Nat.le_trans (Nat.mul_le_mul hj360 hn60) (by omega)
 have hJn:(js.length:Int)*(n:Int)=(JN:Int):=by rw[hJN,Int.natCast_mul]
 clear hJN;go_enter Tryz.func134,Tryz.ntmps134;go_wp2_with fail;generalize w.alloc (.cells #[.slice (some ⟨g,0,none⟩) ts.length cap,.slice pa pm pc] 53)=w0 at *;refine(CJ.out w0 HB0.out).mono ?_;rintro e w1 ⟨la,lc,rfl,hown,hb1⟩;have HB1:=hide (HB0.out.trans (hb1.mono HB0.out.size));have HS1:=hide (zK HS.out hb1);have s1:=zC HS1.out;obtain⟨gL,lcap,hv,hgL1,hgL2⟩:=own_form hown (by omega);injection hv with e1 _ e3;subst e1 e3;have HRB:=hide (rowB_own hown);clear hb1 hown HB0 HS s0 CJ;go_wp2_with fail;refine(CC.out w1 HB1.out).mono ?_;rintro e w2 ⟨rfl,hb2⟩;have HB2:=hide (HB1.out.trans (hb2.mono HB1.out.size));have HRB2:=hide (HRB.out.below hb2 hgL2);have hgL3:gL<w2.heap.size:=Nat.lt_of_lt_of_le hgL2 hb2.size;clear hb2 HB1 HS1 s1 CC HRB;go_upto_region 3 with fail;rw[hdiv.out];have hmk1:=make_many JN (by omega);have hmk2:=make_many n (by omega)
 go_cut [7] (fun pv wc=>∃P gH gU cH cU,pv=.pointer (some ⟨P,0,none⟩)/\FlW js F n w.heap.size P gL gH gU lc cH cU fs0 wc/\Below w.heap.size w wc)
 case first=>
  have HB3:Hid (∀a b c:Obj,Below w.heap.size w (((w2.alloc a).alloc b).alloc c).drew):=fun a b c=>(((HB2.out.alloc HB2.out.size a).alloc (by simp;have:=HB2.out.size;omega) b).alloc (by simp;have:=HB2.out.size;omega) c).drew;have HL3:Hid (∀a b c:Obj,RowB (((w2.alloc a).alloc b).alloc c).drew gL js/\gL<(((w2.alloc a).alloc b).alloc c).drew.heap.size):=fun a b c=>⟨HRB2.out.keep (by
   show (((w2.alloc a).alloc b).alloc c).heap[gL]? =_;rw[Below.heap_alloc _ _ _ (by simp;omega),Below.heap_alloc _ _ _ (by simp;omega),Below.heap_alloc _ _ _ hgL3]),by
   show gL<(((w2.alloc a).alloc b).alloc c).heap.size;simp;omega⟩
  have hb2:=HB2.out.size
  go_region
  all_goals
   go_wp2_with fail
   go_meet
   case rel=>
    obtain⟨t1,t2,t3⟩:=three_new w2 _ _ _ _ _ _
    first
    | (refine⟨_,w2.heap.size,w2.heap.size+1,_,_,rfl,⟨by rw[←HJN.out];exact t3,(HL3.out _ _ _).1,(HL3.out _ _ _).2,by rw[←HJN.out];exact zero_row t1,zero_row t2,⟨by omega,by omega⟩,⟨by omega,by omega⟩,by omega,⟨by omega,by omega⟩⟩,HB3.out _ _ _⟩;done)
    | (refine⟨_,w2.heap.size+1,w2.heap.size,_,_,rfl,⟨by rw[←HJN.out];exact t3,(HL3.out _ _ _).1,(HL3.out _ _ _).2,by rw[←HJN.out];exact zero_row t2,zero_row t1,⟨by omega,by omega⟩,⟨by omega,by omega⟩,by omega,⟨by omega,by omega⟩⟩,HB3.out _ _ _⟩;done)
 case rest=>
  obtain⟨P,gH,gU,cH,cU,rfl,hW3,hB3⟩:=hcut;have HW3:=hide hW3;have HB3:=hide hB3;clear hW3 hB3 HB2 HRB2 hmk1 hmk2 hgL3;have HGv:=hide (fun gS cS=>rgive_any js F n P gL gH gU gS lc cH cU cS (by omega) hn60 (by omega) (fun k hk=>⟨(HSm.out k hk).1,(HSm.out k hk).2.1⟩) (n+1));have HGp:=hide (giveP_any js.length n F (fitJ js F) (n+1));have hmk3:=make_bools n (by omega);have HK0:Hid (KpO js.length n F (fitJ js F) (costJ js) 0 fs0):=kpR_start;go_wp2_with fail
  go_loopw [8] (fun kv wr=>∃(k:Nat) (s:FS),k<=js.length/\kv=.int .i64 k/\FlW js F n w.heap.size P gL gH gU lc cH cU s wr/\KpO js.length n F (fitJ js F) (costJ js) k s/\Below w.heap.size w wr) (fun kv _=>js.length-(intOf kv).toNat)
  case atStart=>exact⟨0,fs0,Nat.zero_le _,rfl,HW3.out,HK0.out,HB3.out⟩
  case round=>
   clear HW3 HB3 HK0;obtain⟨k,s,hk,rfl,hW,hK,hB⟩:=hrel;by_cases hlt:k<js.length
   .have hlt':(k:Int)<js.length:=by omega
    have hcst:Hid (costJ js k=(jk js k).cost):=rfl;have hc1000:=(HSm.out k hlt).2.2;have HW:=hide hW;have HK:=hide (hK.now hlt);have HB:=hide hB;clear hW hK hB;go_wp2_with fail
    go_loopw [9] (fun uv wr=>∃(u:Nat) (s:FS),u<=(jk js k).cost/\uv=.int .i64 u/\FlW js F n w.heap.size P gL gH gU lc cH cU s wr/\KpR js.length n F (fitJ js F) (costJ js) k u s/\Below w.heap.size w wr) (fun uv _=>(jk js k).cost-(intOf uv).toNat)
    case atStart=>exact⟨0,s,Nat.zero_le _,rfl,HW.out,HK.out,HB.out⟩
    case round=>
     clear HW HK HB;obtain⟨u,s,hu,rfl,hW,hK,hB⟩:=hrel;obtain⟨q0,q1,q2,q3,q4⟩:=hW.l k hlt;have HK:=hide hK;by_cases hul:u<(jk js k).cost
     .have hul':(u:Int)<(jk js k).cost:=by omega
      have hM:=hW.seen;have hG:=HGv.out wr.heap.size n k ⟨s.has,s.used,fun _=>false⟩ _ hlt hM (fair_seen hK.fair rfl rfl) (by have:=unseen_new s.has s.used n;omega);have CG:=hide hG;have hBa:=hide (hB.alloc hB.size (.cells (falsA n) 4));have hlo:=hW.lo;have hbs:=hB.size;clear hM hG hW hK hB;go_wp2_with fail;generalize wr.alloc (.cells (falsA n) 4)=wa at *;generalize wr.heap.size=gS at *;refine CG.out.mono ?_;rintro e w5 ⟨b,s',hb',rfl,hM',hf'⟩;have SP:=HGp.out k ⟨s.has,s.used,fun _=>false⟩ hlt (fair_seen HK.out.fair rfl rfl) (by have:=unseen_new s.has s.used n;omega);rw[hb']at SP;have HW5:=hide (hM'.drop hlo);have HB5:Hid (Below w.heap.size w w5):=hBa.out.trans (hf'.below hBa.out.size (fun x hx hX=>by omega));clear hM' hf' CG hBa
      cases b with
      | true=>
       have HK5:=hide ((HK.out.seen (fun _=>false)).got hlt (SP.1 rfl));clear SP hb' HK;go_wp2_with fail;go_roundw
       case rel=>exact⟨u+1,s',by omega,by go_num,HW5.out,HK5.out,HB5.out⟩
       case measure=>simp[intOf];omega
      | false=>
       have HNo:Hid (¬Flows js.length n F (fitJ js F) (costJ js)):=(HK.out.seen (fun _=>false)).no hlt (by rw[hcst.out];exact hul) (fun _=>rfl) (Nat.lt_succ_self n) (by rw[hb']);clear SP hb' HK;go_wp2_with fail;go_ret;exact⟨false,rfl,⟨fun h=>(by cases h),fun h=>absurd h HNo.out⟩,HB5.out⟩
     .have hul':¬(u:Int)<(jk js k).cost:=by omega
      have hue:u=costJ js k:=by rw[hcst.out];omega
      have HK2:Hid (KpO js.length n F (fitJ js F) (costJ js) (k+1) s):=by
       have:=HK.out;rw[hue]at this;exact this.next
      have HW:=hide hW;have HB:=hide hB;clear hW hK hB HK hue;go_wp2_with fail;go_roundw
      case rel=>exact⟨k+1,s,by omega,by go_num,HW.out,HK2.out,HB.out⟩
      case measure=>simp[intOf];omega
   .have hlt':¬(k:Int)<js.length:=by omega
    have hke:k=js.length:=by omega
    subst hke;have HY:=hide hK.yes;have HB:=hide hB;clear hK hB hW;go_wp2_with fail;go_ret;exact⟨true,rfl,⟨fun _=>HY.out,fun _=>rfl⟩,HB.out⟩
theorem rWidest_any (ts:List Tk)(cyc g cap:Nat)(pa:Option Addr)(pm pc:Nat)(w:World)(hg:g<w.heap.size)(hr:RowT w g ts)(hn:ts.length<=6)(hts:TsOk ts cyc)(hcy:cycI ts=cyc)(hne:0<(zJ cyc 0 ts).length):
  Calls Tryz.prog 96 #[.agg #[.slice (some ⟨g,0,none⟩) ts.length cap,.slice pa pm pc]] w fun e w'=>e=.returned (.int .i64 (wideJ (zJ cyc 0 ts) [] cyc cyc))/\Below w.heap.size w w':=by
 have hc1:=hts.c1;have hc2:=hts.c2;have HPk:Hid (∀k,k<ts.length->1<=(tsk ts k).P/\(tsk ts k).P<=60):=fun k hk=>by
  have h5:=hts.each _ (tsk_mem hk);have h6:(tsk ts k).P<=cyc:=Nat.le_of_dvd (by omega) (Nat.dvd_of_mod_eq_zero h5.2.1);omega
 have hS:=zW w #[.slice (some ⟨g,0,none⟩) ts.length cap,.slice pa pm pc] 53;have HB0:=hide (zN w (.cells #[.slice (some ⟨g,0,none⟩) ts.length cap,.slice pa pm pc] 53));have HS:=hide hS;have s0:=zC hS;have CK:Hid (∀F W,1<=F->cyc%F=0->Below w.heap.size w W->Calls Tryz.prog 134 #[.agg #[.slice (some ⟨g,0,none⟩) ts.length cap,.slice pa pm pc],.int .i64 (F:Nat)] W fun e w'=>e=.returned (.bool (goesJ (zJ cyc 0 ts) [] cyc F))/\Below W.heap.size W w'):=fun F W h1 h2 hW=>by
  refine(rKept_any ts cyc g cap pa pm pc F W (Nat.lt_of_lt_of_le hg hW.size) (hr.below hW hg) hn hts hcy h1 h2 hne).mono ?_;rintro e w' ⟨b,rfl,hb,hbw⟩;refine⟨?_,hbw⟩;have:=goes_iff (jobs_of hts) h1 h2;have hbb:b=goesJ (zJ cyc 0 ts) [] cyc F:=by
   rw[Bool.eq_iff_iff,hb,this]
  rw[hbb]
 have CC:=hide (fun W (hW:Below w.heap.size w W)=>rCycle_any ts g cap (.slice pa pm pc) pa pm pc rfl W (Nat.lt_of_lt_of_le hg hW.size) (hr.below hW hg) hn HPk.out);rw[hcy]at CC;clear hr hts hcy hS;generalize zJ cyc 0 ts=js at *;go_enter Tryz.func96,Tryz.ntmps96;go_wp2_with fail;generalize w.alloc (.cells #[.slice (some ⟨g,0,none⟩) ts.length cap,.slice pa pm pc] 53)=w0 at *;refine(CC.out w0 HB0.out).mono ?_;rintro e w1 ⟨rfl,hb1⟩;have HB1:=hide (HB0.out.trans (hb1.mono HB0.out.size));have HS1:=hide (zK HS.out hb1);clear hb1 HB0 HS s0 CC;go_wp2_with fail
 go_loopw [4] (fun fv wr=>∃f:Nat,f<=cyc/\fv=.int .i64 f/\wideJ js [] cyc cyc=wideJ js [] cyc f/\Below w.heap.size w wr/\wr.heap[w.heap.size]? =some (.cells #[.slice (some ⟨g,0,none⟩) ts.length cap,.slice pa pm pc] 53 (0,0))) (fun fv _=>(intOf fv).toNat)
 case atStart=>exact⟨cyc,Nat.le_refl _,rfl,rfl,HB1.out,HS1.out⟩
 case round=>
  clear HB1 HS1;obtain⟨f,hf,rfl,hw,hB,hS⟩:=hrel;have HW:=hide hw;have HB:=hide hB;have HS:=hide hS;have s0:=zC hS;clear hw hB hS;by_cases hf1:1<=f
  .obtain⟨f',rfl⟩:∃f',f=f'+1:=⟨f-1,by omega⟩;have hf1':(1:Int)<=((f'+1:Nat):Int):=by omega
   have hf2:¬((f'+1:Nat):Int)=0:=by omega
   have hmod:(cyc:Int)%((f'+1:Nat):Int)=((cyc%(f'+1):Nat):Int):=by rw[Int.natCast_emod]
   have hst:Hid (wideJ js [] cyc (f'+1)=if cyc%(f'+1)=0/\goesJ js [] cyc (f'+1)=true then f'+1 else wideJ js [] cyc f'):=by unfold Hid;rw[wideJ]
   by_cases hd:cyc%(f'+1)=0
   .have hd':((cyc:Int)%((f':Int)+1)==0)=true:=by
     have:=hmod;rw[Int.natCast_add]at this;rw[show ((f':Int)+1)=(f':Int)+((1:Nat):Int) from rfl,this,hd];rfl
    have CK1:=hide (CK.out (f'+1) wr hf1 hd HB.out);have Hd:=hide hd;rw[Int.natCast_add]at CK1;clear hmod hd;go_wp2_with fail;refine CK1.out.mono ?_;rintro e w2 ⟨rfl,hb2⟩;have HB2:=hide (HB.out.trans (hb2.mono HB.out.size));have HS2:=hide (zK HS.out hb2);clear hb2 HB HS CK1 s0
    cases hgo:goesJ js [] cyc (f'+1) with
    | true=>
     have HR:Hid (wideJ js [] cyc cyc=f'+1):=by unfold Hid;rw[HW.out,hst.out,if_pos ⟨Hd.out,hgo⟩]
     clear hgo;go_wp2_with fail;go_ret;exact⟨ret_int (by rw[HR.out];rfl),HB2.out⟩
    | false=>
     have HR:Hid (wideJ js [] cyc cyc=wideJ js [] cyc f'):=by unfold Hid;rw[HW.out,hst.out,if_neg (by rw[hgo];simp)]
     clear hgo;go_wp2_with fail;go_roundw
     case rel=>exact⟨f',by omega,by go_num,HR.out,HB2.out,HS2.out⟩
     case measure=>simp[intOf]
   .have hd':((cyc:Int)%((f':Int)+1)==0)=false:=by
     have:=hmod;rw[Int.natCast_add]at this;rw[show ((f':Int)+1)=(f':Int)+((1:Nat):Int) from rfl,this,beq_eq_false_iff_ne];omega
    have HR:Hid (wideJ js [] cyc cyc=wideJ js [] cyc f'):=by unfold Hid;rw[HW.out,hst.out,if_neg (fun h=>hd h.1)]
    clear hmod hd;go_wp2_with fail;go_roundw
    case rel=>exact⟨f',by omega,by go_num,HR.out,HB.out,HS.out⟩
    case measure=>simp[intOf]
  .have hf0:f=0:=by omega
   subst hf0;go_wp2_with fail;go_ret;exact⟨ret_int (by rw[HW.out];rfl),HB.out⟩
theorem free_no {js:List Jb}{ps:List Pr}{left:Nat->Nat}{k i:Nat}(hi:i<ps.length)(h:holdsN js left k (psk ps i)=true):freeJ js ps left k=false:=by
 unfold freeJ;have:ps.any (holdsN js left k)=true:=List.any_eq_true.2 ⟨psk ps i,by simp[psk,List.getD_eq_getElem?_getD,hi],h⟩;rw[this];rfl
theorem free_yes {js:List Jb}{ps:List Pr}{left:Nat->Nat}{k:Nat}(h:∀i,i<ps.length->holdsN js left k (psk ps i)=false):freeJ js ps left k=true:=by
 unfold freeJ;have:ps.any (holdsN js left k)=false:=by
  rw[List.any_eq_false];intro p hp;obtain⟨i,hi,rfl⟩:=List.getElem_of_mem hp;have:=h i hi;rw[show psk ps i=ps[i] by simp[psk,List.getD_eq_getElem?_getD,hi]]at this;simp[this]
 rw[this];rfl
theorem int_beq {a b:Nat}(h:a=b):((a:Int)==(b:Int))=true:=by simp[h]
theorem int_bne {a b:Nat}(h:¬a=b):((a:Int)==(b:Int))=false:=by rw[beq_eq_false_iff_ne];omega
theorem int_lt {a b:Nat}(h:a<b):decide ((a:Int)<(b:Int))=true:=by rw[decide_eq_true_eq];omega
theorem int_pos {b:Nat}(h:0<b):decide ((0:Int)<(b:Int))=true:=by rw[decide_eq_true_eq];omega
theorem int_zero {b:Nat}(h:¬0<b):decide ((0:Int)<(b:Int))=false:=by rw[decide_eq_false_iff_not];omega
theorem int_ge {a b:Nat}(h:¬a<b):decide ((a:Int)<(b:Int))=false:=by rw[decide_eq_false_iff_not];omega
theorem rfree_any (ts:List Tk)(ps:List Pr)(cyc g cap:Nat)(pa:Option Addr)(pc gL cL gF cF:Nat)(left:Nat->Nat)(k:Nat)(w:World)(hg:g<w.heap.size)(hr:RowT w g ts)(hn:ts.length<=6)(hp6:ps.length<=6)(hp:0<ps.length->∃gp,pa=some ⟨gp,0,none⟩/\gp<w.heap.size/\RowP w gp ps)(hpt:∀p∈ps,∃i j,PairT ts p i j)(hnd:(ts.map Tk.nm).Nodup)
  (hgL:gL<w.heap.size) (hl:RowB w gL (zJ cyc 0 ts)) (hgF:gF<w.heap.size) (hf:RowV w gF 3 (zJ cyc 0 ts).length (fun q=>.int .i64 (left q))) (hk:k<(zJ cyc 0 ts).length) (hJ:(zJ cyc 0 ts).length<=1000):
  Calls Tryz.prog 135 #[.agg #[.slice (some ⟨g,0,none⟩) ts.length cap,.slice pa ps.length pc],.slice (some ⟨gL,0,none⟩) (zJ cyc 0 ts).length cL,.slice (some ⟨gF,0,none⟩) (zJ cyc 0 ts).length cF,.int .i64 k] w fun e w'=>e=.returned (.bool (freeJ (zJ cyc 0 ts) ps left k))/\Below w.heap.size w w':=by
 have hS:=zW w #[.slice (some ⟨g,0,none⟩) ts.length cap,.slice pa ps.length pc] 53;have HB0:=hide (zN w (.cells #[.slice (some ⟨g,0,none⟩) ts.length cap,.slice pa ps.length pc] 53));have HS:=hide hS;have HP:=hide hp;have HR:=hide hr;have HL:=hide hl;have HF:=hide hf;have CFi:=hide (fun (c:UInt8) W (hW:Below w.heap.size w W)=>rfind_any ts g cap (.slice pa ps.length pc) pa ps.length pc rfl c W (Nat.lt_of_lt_of_le hg hW.size) (hr.below hW hg) hn);have HPt:=hide (fun p hp (left:Nat->Nat) (k:Nat) (hk:k<(zJ cyc 0 ts).length)=>show ∃a b,PairT ts p a b/\(holdsN (zJ cyc 0 ts) left k p=true↔∃n,n<(zJ cyc 0 ts).length/\heldD (zJ cyc 0 ts) left p.ap a b k n) from by
  obtain⟨a,b,P⟩:=hpt p hp;exact⟨a,b,P,holds_iff hnd P hk⟩)
 clear hr hl hf hp hpt hnd hS;generalize zJ cyc 0 ts=js at *;go_enter Tryz.func135,Tryz.ntmps135;go_wp2_with fail;generalize w.alloc (.cells #[.slice (some ⟨g,0,none⟩) ts.length cap,.slice pa ps.length pc] 53)=w0 at *
 go_loopw [9] (fun iv wr=>∃i:Nat,i<=ps.length/\iv=.int .i64 i/\(∀q,q<i->holdsN js left k (psk ps q)=false)/\Below w.heap.size w wr/\wr.heap[w.heap.size]? =some (.cells #[.slice (some ⟨g,0,none⟩) ts.length cap,.slice pa ps.length pc] 53 (0,0))) (fun iv _=>ps.length-(intOf iv).toNat)
 case atStart=>exact⟨0,by omega,rfl,fun q h=>by omega,HB0.out,HS.out⟩
 case round=>
  clear HB0 HS;obtain⟨i,hi,rfl,hno,hB,hS⟩:=hrel;have HNo:=hide hno;have HB:=hide hB;have HS:=hide hS;have s0:=zC hS;have hsw:=zL hS;clear hno hB hS;by_cases hlt:i<ps.length
  .have hlt':(i:Int)<ps.length:=by omega
   obtain⟨gp,rfl,hgp,hRP⟩:=HP.out (by omega);obtain⟨r0,r1,r2,r3,r4⟩:=hRP.below HB.out hgp i hlt;have hpm:psk ps i∈ps:=by simp[psk,List.getD_eq_getElem?_getD,hlt]
   obtain⟨a,b,P,hH⟩:=HPt.out _ hpm left k hk;have hne:=P.ne;have ha6:=P.hi;have hb6:=P.hj;have CA:=hide (CFi.out (psk ps i).a);have CB:=hide (CFi.out (psk ps i).b);rw[P.fa]at CA;rw[P.fb]at CB;have HH:=hide hH;have HNx:Hid (holdsN js left k (psk ps i)=false->∀q,q<i+1->holdsN js left k (psk ps q)=false):=fun h q hq=>by
    by_cases e:q=i
    .rw[e];exact h
    .exact HNo.out q (by omega)
   have HFn:=hide (fun h=>free_no (js:=js) (left:=left) (k:=k) hlt h);clear P hH hRP hpm HNo;generalize psk ps i=p at *;have HX:=hide (zW wr (prA p) 133);unfold prA at HX;have HB1:=hide (HB.out.alloc HB.out.size (.cells (prA p) 133));unfold prA at HB1;have hba:=zN wr (.cells (prA p) 133);unfold prA at hba;have HS1:=hide (zK HS.out hba);clear hba;go_wp2_with fail;generalize hwx:wr.alloc _=wx at *;clear hwx r0 r1 r2 r3 r4 s0 HB HS;generalize wr.heap.size=X at *;have s0:=zC HS1.out;refine(CA.out wx HB1.out).mono ?_;rintro e w2 ⟨rfl,hb2⟩;have HX2:=hide (zK HX.out hb2);have HB2:=hide (HB1.out.trans (hb2.mono HB1.out.size));have HS2:=hide (zK HS1.out hb2);clear hb2 HX HB1 HS1 s0 CA;have s0:=zC HS2.out;obtain⟨x0,x1,x2,x3,x4⟩:=prA_cells (p:=p) HX2.out;go_wp2_with fail;refine(CB.out w2 HB2.out).mono ?_;rintro e w3 ⟨rfl,hb3⟩;have HX3:=hide (zK HX2.out hb3);have HB3:=hide (HB2.out.trans (hb3.mono HB2.out.size));have HS3:=hide (zK HS2.out hb3);clear hb3 HX2 HB2 HS2 s0 CB x0 x1 x2 x3 x4;go_wp2_with fail
   go_loopw [13] (fun nv wr=>∃n:Nat,n<=js.length/\nv=.int .i64 n/\(∀q,q<n->¬heldD js left p.ap a b k q)/\Below w3.heap.size w3 wr) (fun nv _=>js.length-(intOf nv).toNat)
   case atStart=>exact⟨0,by omega,rfl,fun q h=>by omega,Below.refl _ _⟩
   case round=>
    obtain⟨n,hn',rfl,hnh,hBn⟩:=hrel;have HNh:=hide hnh;by_cases hnl:n<js.length
    .have hnl':(n:Int)<js.length:=by omega
     have hBw:=HB3.out.trans (hBn.mono HB3.out.size);obtain⟨x0,x1,x2,x3,x4⟩:=prA_cells (p:=p) (zK HX3.out hBn);obtain⟨k0,k1,k2,k3,k4⟩:=HL.out.below hBw hgL k hk;obtain⟨n0,n1,n2,n3,n4⟩:=HL.out.below hBw hgL n hnl;have f0:=(HF.out.keep (hBw.block gF hgF)).cell hnl;have HBn:=hide hBn;have HBw:=hide hBw;have HNx2:Hid (¬heldD js left p.ap a b k n->∀q,q<n+1->¬heldD js left p.ap a b k q):=fun h q hq=>by
      by_cases e:q=n
      .rw[e];exact h
      .exact HNh.out q (by omega)
     have hkJ:(k:Int)<js.length:=by omega
     clear hnh hBn hBw HNh x0 x1 x3 x4 k2 k3 k4 n2 n3;go_upto_region 10 with fail
     go_cut [81] (fun v wc=>v=.bool (decide (p.ap=false/\(jk js k).tsk=b/\(jk js n).tsk=a/\(jk js n).num=(jk js k).num/\0<left n))/\∃m,wc=wr.drewN m)
     case first=>
      rcases Bool.eq_false_or_eq_true p.ap with hap|hap
      .have x2t:wr.cell? ⟨X,2,none⟩=some (.bool true):=by rw[x2,hap]
       have HRl:Hid (Value.bool false=.bool (decide (p.ap=false/\(jk js k).tsk=b/\(jk js n).tsk=a/\(jk js n).num=(jk js k).num/\0<left n))):=congrArg Value.bool (decide_eq_false (fun h=>by rw[hap]at h;cases h.1)).symm;clear x2 hap
       go_quiet (fail)
       go_wp2_with fail
       go_meet
       case rel=>exact⟨HRl.out,_,rfl⟩
      .have x2f:wr.cell? ⟨X,2,none⟩=some (.bool false):=by rw[x2,hap]
       clear x2;by_cases h1:(jk js k).tsk=b
       .by_cases h2:(jk js n).tsk=a
        .by_cases h3:(jk js n).num=(jk js k).num
         .by_cases h4:0<left n
          .have HRl:Hid (Value.bool true=.bool (decide (p.ap=false/\(jk js k).tsk=b/\(jk js n).tsk=a/\(jk js n).num=(jk js k).num/\0<left n))):=congrArg Value.bool (decide_eq_true (⟨hap,h1,h2,h3,h4⟩)).symm;have e1:=int_beq h1;have e2:=int_beq h2;have e3:=int_beq h3;have e4:=int_pos h4;have e4n:=decide_eq_true h4;have e4p:(0:Int)<(left n:Int):=by omega
           clear hap h1 h2 h3 h4
           go_quiet (fail)
           go_wp2_with fail
           go_meet
           case rel=>exact⟨HRl.out,_,rfl⟩
          .have HRl:Hid (Value.bool false=.bool (decide (p.ap=false/\(jk js k).tsk=b/\(jk js n).tsk=a/\(jk js n).num=(jk js k).num/\0<left n))):=congrArg Value.bool (decide_eq_false (fun h=>h4 h.2.2.2.2)).symm;have e1:=int_beq h1;have e2:=int_beq h2;have e3:=int_beq h3;have e4:=int_zero h4;have e4n:=decide_eq_false h4;have e4p:¬(0:Int)<(left n:Int):=by omega
           clear hap h1 h2 h3 h4
           go_quiet (fail)
           go_wp2_with fail
           go_meet
           case rel=>exact⟨HRl.out,_,rfl⟩
         .have HRl:Hid (Value.bool false=.bool (decide (p.ap=false/\(jk js k).tsk=b/\(jk js n).tsk=a/\(jk js n).num=(jk js k).num/\0<left n))):=congrArg Value.bool (decide_eq_false (fun h=>h3 h.2.2.2.1)).symm;have e1:=int_beq h1;have e2:=int_beq h2;have e3:=int_bne h3;clear hap h1 h2 h3
          go_quiet (fail)
          go_wp2_with fail
          go_meet
          case rel=>exact⟨HRl.out,_,rfl⟩
        .have HRl:Hid (Value.bool false=.bool (decide (p.ap=false/\(jk js k).tsk=b/\(jk js n).tsk=a/\(jk js n).num=(jk js k).num/\0<left n))):=congrArg Value.bool (decide_eq_false (fun h=>h2 h.2.2.1)).symm;have e1:=int_beq h1;have e2:=int_bne h2;clear hap h1 h2
         go_quiet (fail)
         go_wp2_with fail
         go_meet
         case rel=>exact⟨HRl.out,_,rfl⟩
       .have HRl:Hid (Value.bool false=.bool (decide (p.ap=false/\(jk js k).tsk=b/\(jk js n).tsk=a/\(jk js n).num=(jk js k).num/\0<left n))):=congrArg Value.bool (decide_eq_false (fun h=>h1 h.2.1)).symm;have e1:=int_bne h1;clear hap h1
        go_quiet (fail)
        go_wp2_with fail
        go_meet
        case rel=>exact⟨HRl.out,_,rfl⟩
     case rest=>
      obtain⟨rfl,m1,rfl⟩:=hcut;by_cases hC1:p.ap=false/\(jk js k).tsk=b/\(jk js n).tsk=a/\(jk js n).num=(jk js k).num/\0<left n
      .have HFr:=hide (HFn.out (HH.out.2 ⟨n,hnl,.inl hC1⟩));rw[decide_eq_true hC1];clear hC1 HH HFn HNx HNx2;go_wp2_with fail;go_ret;exact⟨by rw[HFr.out];rfl,below_drewN HBw.out _⟩
      .rw[decide_eq_false hC1];have HC1:=hide hC1;clear hC1;go_upto_region 12 with fail
       go_cut [14] (fun v wc=>v=.bool (decide (((jk js k).tsk=a/\(jk js n).tsk=b)\/((jk js k).tsk=b/\(jk js n).tsk=a)))/\wc=wr.drewN m1)
       case first=>
        by_cases h1:(jk js k).tsk=a
        .have h1b:¬(jk js k).tsk=b:=by omega
         by_cases h2:(jk js n).tsk=b
         .have HRl:Hid (Value.bool true=.bool (decide (((jk js k).tsk=a/\(jk js n).tsk=b)\/((jk js k).tsk=b/\(jk js n).tsk=a)))):=congrArg Value.bool (decide_eq_true (.inl ⟨h1,h2⟩)).symm;have e1:=int_beq h1;have e2:=int_beq h2;clear h1 h2 h1b;go_wp2_with fail
          go_meet
          case rel=>exact⟨HRl.out,rfl⟩
         .have HRl:Hid (Value.bool false=.bool (decide (((jk js k).tsk=a/\(jk js n).tsk=b)\/((jk js k).tsk=b/\(jk js n).tsk=a)))):=congrArg Value.bool (decide_eq_false (fun h=>by rcases h with h|h<;>omega)).symm;have e1:=int_beq h1;have e2:=int_bne h2;have e3:=int_bne h1b;clear h1 h2 h1b;go_wp2_with fail
          go_meet
          case rel=>exact⟨HRl.out,rfl⟩
        .by_cases h2:(jk js k).tsk=b
         .by_cases h3:(jk js n).tsk=a
          .have HRl:Hid (Value.bool true=.bool (decide (((jk js k).tsk=a/\(jk js n).tsk=b)\/((jk js k).tsk=b/\(jk js n).tsk=a)))):=congrArg Value.bool (decide_eq_true (.inr ⟨h2,h3⟩)).symm;have e1:=int_bne h1;have e2:=int_beq h2;have e3:=int_beq h3;clear h1 h2 h3;go_wp2_with fail
           go_meet
           case rel=>exact⟨HRl.out,rfl⟩
          .have HRl:Hid (Value.bool false=.bool (decide (((jk js k).tsk=a/\(jk js n).tsk=b)\/((jk js k).tsk=b/\(jk js n).tsk=a)))):=congrArg Value.bool (decide_eq_false (fun h=>by rcases h with h|h<;>omega)).symm;have e1:=int_bne h1;have e2:=int_beq h2;have e3:=int_bne h3;clear h1 h2 h3;go_wp2_with fail
           go_meet
           case rel=>exact⟨HRl.out,rfl⟩
         .have HRl:Hid (Value.bool false=.bool (decide (((jk js k).tsk=a/\(jk js n).tsk=b)\/((jk js k).tsk=b/\(jk js n).tsk=a)))):=congrArg Value.bool (decide_eq_false (fun h=>by rcases h with h|h<;>omega)).symm;have e1:=int_bne h1;have e2:=int_bne h2;clear h1 h2;go_wp2_with fail
          go_meet
          case rel=>exact⟨HRl.out,rfl⟩
       case rest=>
        obtain⟨rfl,rfl⟩:=hcut;go_upto_region 13 with fail
        go_cut [14,139] (fun ov v wc=>ov=.bool (decide (((jk js k).tsk=a/\(jk js n).tsk=b)\/((jk js k).tsk=b/\(jk js n).tsk=a)))/\v=.bool (decide (p.ap=true/\(((jk js k).tsk=a/\(jk js n).tsk=b)\/((jk js k).tsk=b/\(jk js n).tsk=a))/\0<left n/\left n<(jk js n).cost))/\∃m,wc=wr.drewN m)
        case first=>
         rcases Bool.eq_false_or_eq_true p.ap with hap|hap
         .have x2t:wr.cell? ⟨X,2,none⟩=some (.bool true):=by rw[x2,hap]
          clear x2;by_cases h1:((jk js k).tsk=a/\(jk js n).tsk=b)\/((jk js k).tsk=b/\(jk js n).tsk=a)
          .have HO:Hid (Value.bool true=.bool (decide (((jk js k).tsk=a/\(jk js n).tsk=b)\/((jk js k).tsk=b/\(jk js n).tsk=a)))):=congrArg Value.bool (decide_eq_true h1).symm;rw[decide_eq_true h1];by_cases h2:0<left n
           .by_cases h3:left n<(jk js n).cost
            .have HRl:Hid (Value.bool true=.bool (decide (p.ap=true/\(((jk js k).tsk=a/\(jk js n).tsk=b)\/((jk js k).tsk=b/\(jk js n).tsk=a))/\0<left n/\left n<(jk js n).cost))):=congrArg Value.bool (decide_eq_true (⟨hap,h1,h2,h3⟩)).symm;have e4:=int_pos h2;have e4n:=decide_eq_true h2;have e4p:(0:Int)<(left n:Int):=by omega
             have e5:=int_lt h3;have e5n:=decide_eq_true h3;have e5p:(left n:Int)<((jk js n).cost:Int):=by omega
             clear h1 h2 h3 hap
             go_quiet (fail)
             go_wp2_with fail
             go_meet
             case rel=>first|exact⟨HO.out,HRl.out,_,rfl⟩|exact⟨HO.out,HRl.out,_,World.drewN_drewN _ _ _⟩
            .have HRl:Hid (Value.bool false=.bool (decide (p.ap=true/\(((jk js k).tsk=a/\(jk js n).tsk=b)\/((jk js k).tsk=b/\(jk js n).tsk=a))/\0<left n/\left n<(jk js n).cost))):=congrArg Value.bool (decide_eq_false (fun h=>h3 h.2.2.2)).symm;have e4:=int_pos h2;have e4n:=decide_eq_true h2;have e4p:(0:Int)<(left n:Int):=by omega
             have e5:=int_ge h3;have e5n:=decide_eq_false h3;have e5p:¬(left n:Int)<((jk js n).cost:Int):=by omega
             clear h1 h2 h3 hap
             go_quiet (fail)
             go_wp2_with fail
             go_meet
             case rel=>first|exact⟨HO.out,HRl.out,_,rfl⟩|exact⟨HO.out,HRl.out,_,World.drewN_drewN _ _ _⟩
           .have HRl:Hid (Value.bool false=.bool (decide (p.ap=true/\(((jk js k).tsk=a/\(jk js n).tsk=b)\/((jk js k).tsk=b/\(jk js n).tsk=a))/\0<left n/\left n<(jk js n).cost))):=congrArg Value.bool (decide_eq_false (fun h=>h2 h.2.2.1)).symm;have e4:=int_zero h2;have e4n:=decide_eq_false h2;have e4p:¬(0:Int)<(left n:Int):=by omega
            clear h1 h2 hap
            go_quiet (fail)
            go_wp2_with fail
            go_meet
            case rel=>first|exact⟨HO.out,HRl.out,_,rfl⟩|exact⟨HO.out,HRl.out,_,World.drewN_drewN _ _ _⟩
          .have HO:Hid (Value.bool false=.bool (decide (((jk js k).tsk=a/\(jk js n).tsk=b)\/((jk js k).tsk=b/\(jk js n).tsk=a)))):=congrArg Value.bool (decide_eq_false h1).symm;rw[decide_eq_false h1];have HRl:Hid (Value.bool false=.bool (decide (p.ap=true/\(((jk js k).tsk=a/\(jk js n).tsk=b)\/((jk js k).tsk=b/\(jk js n).tsk=a))/\0<left n/\left n<(jk js n).cost))):=congrArg Value.bool (decide_eq_false (fun h=>h1 h.2.1)).symm;clear h1 hap
           go_quiet (fail)
           go_wp2_with fail
           go_meet
           case rel=>first|exact⟨HO.out,HRl.out,_,rfl⟩|exact⟨HO.out,HRl.out,_,World.drewN_drewN _ _ _⟩
         .have x2f:wr.cell? ⟨X,2,none⟩=some (.bool false):=by rw[x2,hap]
          have HRl:Hid (Value.bool false=.bool (decide (p.ap=true/\(((jk js k).tsk=a/\(jk js n).tsk=b)\/((jk js k).tsk=b/\(jk js n).tsk=a))/\0<left n/\left n<(jk js n).cost))):=congrArg Value.bool (decide_eq_false (fun h=>by rw[hap]at h;cases h.1)).symm;clear x2 hap
          go_quiet (fail)
          go_wp2_with fail
          go_meet
          case rel=>first|exact⟨rfl,HRl.out,_,rfl⟩|exact⟨rfl,HRl.out,_,World.drewN_drewN _ _ _⟩
        case rest=>
         obtain⟨rfl,rfl,m2,rfl⟩:=hcut;by_cases hC2:p.ap=true/\(((jk js k).tsk=a/\(jk js n).tsk=b)\/((jk js k).tsk=b/\(jk js n).tsk=a))/\0<left n/\left n<(jk js n).cost
         .have HFr:=hide (HFn.out (HH.out.2 ⟨n,hnl,.inr hC2⟩));rw[decide_eq_true hC2];clear hC2 HC1 HH HFn HNx HNx2;go_wp2_with fail;go_ret;exact⟨by rw[HFr.out];rfl,below_drewN HBw.out _⟩
         .have HNx3:=hide (HNx2.out (fun h=>by
           rcases h with h|h
           .exact HC1.out h
           .exact hC2 h))
          rw[decide_eq_false hC2];clear hC2 HC1 HH HFn HNx HNx2;go_wp2_with fail;go_roundw
          case rel=>exact⟨n+1,by omega,by go_num,HNx3.out,below_drewN HBn.out _⟩
          case measure=>simp[intOf];omega
    .have hnl':¬(n:Int)<js.length:=by omega
     have hne2:n=js.length:=by omega
     have HNx4:Hid (∀q,q<i+1->holdsN js left k (psk ps q)=false):=HNx.out (by
      cases hh:holdsN js left k p with
      | false=>rfl
      | true=>
       obtain⟨m,hm,hd⟩:=HH.out.1 hh;exact absurd hd (HNh.out m (by omega)))
     have HS4:=hide (zK HS3.out hBn);have HB4:=hide (HB3.out.trans (hBn.mono HB3.out.size));clear hnh hBn HNh HNx HH HFn HX3 HB3 HS3;go_wp2_with fail;go_roundw
     case rel=>exact⟨i+1,by omega,by go_num,HNx4.out,HB4.out,HS4.out⟩
     case measure=>simp[intOf];omega
  .have hlt':¬(i:Int)<ps.length:=by omega
   have HFy:=hide (free_yes (js:=js) (ps:=ps) (left:=left) (k:=k) (fun q hq=>HNo.out q (by omega)));clear HNo;go_wp2_with fail;go_ret;exact⟨by rw[HFy.out];rfl,HB.out⟩
end
end Go.Proofs.YtbdffcjganlblaaGreatDoor
