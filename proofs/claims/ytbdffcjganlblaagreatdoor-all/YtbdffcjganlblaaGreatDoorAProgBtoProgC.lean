import Derived.Test.YtbdffcjganlblaaGreatDoorARefRtoProgA
import Derived.RegionDies
set_option linter.unusedVariables false
set_option linter.unusedSimpArgs false
set_option maxRecDepth 100000
set_option maxHeartbeats 16000000
namespace Go.Proofs.YtbdffcjganlblaaGreatDoor
section
open Go.RowKit
theorem toks_next:∀(f:Nat) (l:List UInt8) (i:Nat),(tk (toks f l i) 0=nextTok l i)/\∀j,j+1<(toks f l i).length->tk (toks f l i) (j+1)=nextTok l (tk (toks f l i) j).nx
 | 0,l,i=>⟨by simp[toks,tk],fun j h=>by simp[toks]at h⟩
 | f+1,l,i=>by
  rw[toks]
  cases hq:(nextTok l i).fin
  .simp only[Bool.false_eq_true,if_false];have ih:=toks_next f l (nextTok l i).nx;refine⟨by simp[tk],?_⟩;intro j hj
   cases j with
   | zero=>simpa [tk] using ih.1
   | succ j=>simpa [tk] using ih.2 j (by simpa using hj)
  .simp only[if_true];exact⟨by simp[tk],fun j h=>by simp at h⟩
theorem toks_bound:∀(f:Nat) (l:List UInt8) (i:Nat),i<=l.length->∀j,j<(toks f l i).length->(tk (toks f l i) j).nx<=l.length
 | 0,l,i,hi,j,h=>by
  simp[toks]at h;subst h;simpa [toks,tk] using (nextTok_bound l i hi).2.1
 | f+1,l,i,hi,j,h=>by
  rw[toks]at h ⊢
  cases hq:(nextTok l i).fin
  .rw[hq]at h;simp only[Bool.false_eq_true,if_false]at h ⊢
   cases j with
   | zero=>simpa [tk] using (nextTok_bound l i hi).2.1
   | succ j=>simpa [tk] using toks_bound f l (nextTok l i).nx (nextTok_bound l i hi).2.1 j (by simpa using h)
  .rw[hq]at h;simp only[if_true]at h ⊢;have h0:j=0:=by simpa using h
   subst h0;simpa [tk] using (nextTok_bound l i hi).2.1
def rdA (er:Nat) (s:ByteArray) (t:PT):Array Value:=#[.string s,.int .i64 er,.int .i64 (kc t.k),.string (bs t.tx),.int .i64 t.at_]
structure RS (er:Nat) (w:World) (b:Nat) (s:ByteArray) (i:Nat):Prop where
 h:w.heap[b]? =some (.cells (rdA er s (tk (zT s.data.toList) i)) 190 (0,0))
 hi:i<(zT s.data.toList).length
 hk:(tk (zT s.data.toList) i).k≠120
 hs:s.size<=800
section
variable {w:World} {b:Nat} {s:ByteArray} {i:Nat} {er:Nat}
theorem RS.cells (h:RS er w b s i):(w.cell? ⟨b,0,none⟩=some (.string s)/\w.cell? ⟨b,1,none⟩=some (.int .i64 er))/\w.cell? ⟨b,2,none⟩=some (.int .i64 (kc (tk (zT s.data.toList) i).k))/\w.cell? ⟨b,3,none⟩=some (.string (bs (tk (zT s.data.toList) i).tx))/\w.cell? ⟨b,4,none⟩=some (.int .i64 (tk (zT s.data.toList) i).at_)/\(∀o,w.frozen? ⟨b,o,none⟩=false):=by
 refine⟨⟨?_,?_⟩,?_,?_,?_,zF h.h⟩<;>(rw[zC h.h];rfl)
theorem RS.keep {w':World}(h:RS er w b s i)(hb:w'.heap[b]? =w.heap[b]?):RS er w' b s i:=⟨by rw[hb];exact h.h,h.hi,h.hk,h.hs⟩
theorem RS.below {w':World}(h:RS er w b s i)(hb:Below w.heap.size w w'):RS er w' b s i:=h.keep (hb.block b (zL h.h))
theorem RS.alloc (h:RS er w b s i)(o:Obj):RS er (w.alloc o) b s i:=h.below (zN _ _)
theorem refuseNext_any (h:RS er w b s i):
  Calls Tryz.prog 141 #[.pointer (some ⟨b,0,none⟩)] w fun en w'=>en=pan er (tk (zT s.data.toList) i).at_/\w.grownBy w' none:=by
 obtain⟨⟨c0,ce⟩,c1,c2,c3,f0⟩:=h.cells;clear h;generalize tk (zT s.data.toList) i=t at *;go_enter Tryz.func141,Tryz.ntmps141;go_wp2_with fail
 go_region_dies
 all_goals
  refine(refuse_any er t.at_ _ rfl _).mono ?_;rintro e w' ⟨rfl,rfl⟩;exact⟨rfl,rfl,grownBy_drew (zI _ _)⟩
def TakePost (er:Nat) (s:ByteArray) (b i:Nat) (w:World) (en:Ending) (w':World):Prop:=
  w.grownBy w' (some b)/\
  (((tk (zT s.data.toList) (i+1)).k=120/\en=pan er (tk (zT s.data.toList) (i+1)).at_)\/
   (RS er w' b s (i+1)/\en=.returned (pv (tk (zT s.data.toList) i))))
theorem take_any (h:RS er w b s i)(hf:(tk (zT s.data.toList) i).fin=false):
  Calls Tryz.prog 142 #[.pointer (some ⟨b,0,none⟩)] w (TakePost er s b i w):=by
 have hll:s.data.toList.length=s.size:=by simp
 have hi1:i+1<(zT s.data.toList).length:=toks_fin _ _ 0 (by omega) (by omega) i h.hi hf;have hnx:Hid (tk (zT s.data.toList) (i+1)=nextTok s.data.toList (tk (zT s.data.toList) i).nx):=(toks_next _ _ 0).2 i hi1;have hbd:(tk (zT s.data.toList) i).nx<=s.size:=by have:=toks_bound (s.data.toList.length+1) s.data.toList 0 (by omega) i h.hi;unfold zT;omega
 have hs:=h.hs;have hlt:=zL h.h;obtain⟨⟨c0,ce⟩,c1,c2,c3,f0⟩:=h.cells;have H:=hide h;have hbs:(bs (tk (zT s.data.toList) i).tx).size=(tk (zT s.data.toList) i).tx.length:=bs_size _;have hpn:Hid ((tk (zT s.data.toList) i).at_+(bs (tk (zT s.data.toList) i).tx).size=(tk (zT s.data.toList) i).nx):=by unfold Hid PT.nx;rw[hbs]
 clear h hll hf;have Hi1:=hide hi1;clear hi1;have hb1:(tk (zT s.data.toList) i).at_+(bs (tk (zT s.data.toList) i).tx).size<=800:=by rw[hpn.out];omega
 clear hbs;go_enter Tryz.func142,Tryz.ntmps142;go_wp2_with fail;rw[show (((tk (zT s.data.toList) i).at_:Int)+((bs (tk (zT s.data.toList) i).tx).size:Int))=(((tk (zT s.data.toList) i).nx:Nat):Int) from by have:=hpn.out;omega];refine(tokenFrom_any er s b _ _ hs hbd (by rw[World.cell?_alloc_past _ _ _ (by simp;omega),World.cell?_alloc_past _ _ _ hlt];exact c0) (by rw[World.cell?_alloc_past _ _ _ (by simp;omega),World.cell?_alloc_past _ _ _ hlt];exact ce) (by simp;omega)).mono ?_;rintro e w1 ⟨hb2,hcase⟩;rw[←hnx.out]at hcase;have hbw:Below w.heap.size w w1:=(((zN w _).alloc (by simp) _)).trans (hb2.mono (by simp;omega));have hX:w1.heap[w.heap.size+1]? =some (.cells #[.int .i64 (kc (tk (zT s.data.toList) i).k),.string (bs (tk (zT s.data.toList) i).tx),.int .i64 (tk (zT s.data.toList) i).at_] 188 (0,0)):=by
  refine blk_kept ?_ hb2;simpa using zW (w.alloc _) _ _
 have hY:w1.heap[w.heap.size]? =some (.cells #[.int .i64 0,.string ⟨#[]⟩,.int .i64 0] 188 (0,0)):=by
  refine blk_kept ?_ hb2;rw[Below.heap_alloc _ _ _ (by simp)];exact zW _ _ _
 have hR:=H.out.below hbw;rcases hcase with⟨h1,rfl⟩|⟨h1,rfl⟩
 .exact⟨rfl,grownBy_none (grown_below hbw),.inl ⟨h1,rfl⟩⟩
 .have xc:=zC hX;have yc:=zC hY;have yf:=zF hY;obtain⟨⟨d0,de⟩,d1,d2,d3,g0⟩:=hR.cells;have hset:RS er (((w1.setCell ⟨b,2,none⟩ (.int .i64 (kc (tk (zT s.data.toList) (i+1)).k))).setCell ⟨b,3,none⟩ (.string (bs (tk (zT s.data.toList) (i+1)).tx))).setCell ⟨b,4,none⟩ (.int .i64 (tk (zT s.data.toList) (i+1)).at_)) b s (i+1):=by
   refine⟨?_,Hi1.out,h1,hs⟩;rw[zS (zS (zS hR.h 2 _) 3 _) 4 _];rfl
  have Hset:=hide hset;have Hg:=hide (zE (zE (zE (grownBy_none (row:=some b) (grown_below hbw)) 2 (.int .i64 (kc (tk (zT s.data.toList) (i+1)).k))) 3 (.string (bs (tk (zT s.data.toList) (i+1)).tx))) 4 (.int .i64 (tk (zT s.data.toList) (i+1)).at_));have hne1:¬b=w.heap.size:=by omega
  have hne2:¬b=w.heap.size+1:=by omega
  have hne3:¬w.heap.size=b:=by omega
  have hne4:¬w.heap.size+1=b:=by omega
  have hl1:=zL hX;clear hX hY hR hset hbw hb2 h1 hnx hpn hb1 hbd c0 ce c1 c2 c3 f0 H Hi1;unfold pv;generalize tk (zT s.data.toList) (i+1)=t1 at *;generalize ht0:tk (zT s.data.toList) i=t0 at *;have Ht0:=hide ht0;clear ht0;go_wp2;refine bodyPost_ret (v:=.agg #[.int .i64 (kc t0.k),.string (bs t0.tx),.int .i64 t0.at_]) (by simp[results,Tryz.results142,go_sem,yc,hne3,hne1]) rfl ⟨?_,.inr ⟨?_,?_⟩⟩
  .exact zG (zG (zG Hg.out (Nat.le_refl _) _ _) (Nat.le_refl _) _ _) (Nat.le_refl _) _ _
  .exact Hset.out.keep (by rw[Below.heap_setCell _ _ _ _ hne1,Below.heap_setCell _ _ _ _ hne1,Below.heap_setCell _ _ _ _ hne1])
  .rw[Ht0.out];rfl
theorem sees_any (h:RS er w b s i)(wd:ByteArray):
  Calls Tryz.prog 121 #[.pointer (some ⟨b,0,none⟩),.string wd] w fun en w'=>en=.returned (.bool ((bs (tk (zT s.data.toList) i).tx).toList==wd.toList))/\w'=w:=by
 obtain⟨⟨c0,ce⟩,c1,c2,c3,f0⟩:=h.cells;clear h;generalize tk (zT s.data.toList) i=t at *;go_enter Tryz.func121,Tryz.ntmps121;go_wp2;go_ret;exact⟨rfl,rfl⟩
def StepOut (er:Nat) (s:ByteArray) (b:Nat) (w:World) (ok:Bool) (i:Nat) (val:Value) (en:Ending) (w':World):Prop:=
  w.grownBy w' (some b)/\
  ((ok=false/\en=pan er (tk (zT s.data.toList) i).at_)\/(ok=true/\(tk (zT s.data.toList) (i+1)).k=120/\en=pan er (tk (zT s.data.toList) (i+1)).at_)\/
   (ok=true/\RS er w' b s (i+1)/\en=.returned val))
def seesP (t:PT) (wd:ByteArray):Bool:=(bs t.tx).toList==wd.toList
theorem fin_tx {l:List UInt8}{i:Nat}:(tokAt l i).fin=true->(tokAt l i).tx=[]:=by
 unfold tokAt;split
 .intro _;rfl
 .rename_i c r hd;split
  .rename_i hg;intro h;simp only[PT.fin,Bool.or_eq_true,beq_iff_eq]at h;simp only[signB,Bool.or_eq_true,beq_iff_eq]at hg;omega
  .split
   .intro h;simp[PT.fin]at h
   .split
    .intro h;simp[PT.fin]at h
    .intro _;rfl
theorem tk_form (l:List UInt8)(j:Nat):(∃i,tk (zT l) j=tokAt l i)\/tk (zT l) j=⟨101,[],0⟩:=by
 have key:∀(f i:Nat),∀t∈toks f l i,∃q,t=tokAt l q:=by
  intro f
  induction f with
  | zero=>intro i t h;simp[toks]at h;exact⟨_,h⟩
  | succ f ih=>
   intro i t h;rw[toks]at h;split at h
   .simp at h;exact⟨_,h⟩
   .rcases List.mem_cons.1 h with rfl|h
    .exact⟨_,rfl⟩
    .exact ih _ t h
 unfold tk;rw[List.getD_eq_getElem?_getD]
 cases h:(zT l)[j]? with
 | none=>exact .inr rfl
 | some t=>
  obtain⟨q,hq⟩:=key _ _ t (List.mem_of_getElem? h);exact .inl ⟨q,hq⟩
theorem tk_fin_tx (l:List UInt8)(j:Nat)(h:(tk (zT l) j).fin=true):(tk (zT l) j).tx=[]:=by
 rcases tk_form l j with⟨i,hi⟩|hi
 .rw[hi]at h ⊢;exact fin_tx h
 .rw[hi]
theorem takeText_any (h:RS er w b s i)(wd:ByteArray)(hw:wd.toList≠[]):
  Calls Tryz.prog 101 #[.pointer (some ⟨b,0,none⟩),.string wd] w (StepOut er s b w (seesP (tk (zT s.data.toList) i) wd) i (.tuple #[])):=by
 have hf:Hid (((bs (tk (zT s.data.toList) i).tx).toList==wd.toList)=true->(tk (zT s.data.toList) i).fin=false):=by
  intro he
  cases hq:(tk (zT s.data.toList) i).fin
  .rfl
  .have:=tk_fin_tx _ _ hq;rw[this]at he;simp[bs,ByteArray.toList_eq]at he;rw[ByteArray.toList_eq]at hw;simp[he]at hw
 have hnot:∀(x:Bool) (w:World),(Op.unary .not (.bool x)).run Tryz.prog w=.ok (.bool (!x)) w:=fun _ _=>rfl;have H:=hide h;clear h
 cases hc:((bs (tk (zT s.data.toList) i).tx).toList==wd.toList)
 .have hS:Hid (seesP (tk (zT s.data.toList) i) wd=false):=hc;have Hc:=hide hc;clear hc hf;go_enter Tryz.func101,Tryz.ntmps101;go_wp2_with fail;refine(sees_any H.out wd).mono ?_;rintro e w' ⟨rfl,rfl⟩;rw[Hc.out];go_wp2_with fail;refine(refuseNext_any H.out).mono ?_;rintro e w' ⟨rfl,hg⟩;exact⟨rfl,grownBy_none hg,.inl ⟨hS.out,rfl⟩⟩
 .have hS:Hid (seesP (tk (zT s.data.toList) i) wd=true):=hc;have Hf:=hide (hf.out hc);have Hc:=hide hc;clear hc hf;go_enter Tryz.func101,Tryz.ntmps101;go_wp2_with fail;refine(sees_any H.out wd).mono ?_;rintro e w' ⟨rfl,rfl⟩;rw[Hc.out];go_wp2_with fail;refine(take_any H.out Hf.out).mono ?_;rintro e w1 ⟨hg,hcase⟩;rcases hcase with⟨h1,rfl⟩|⟨h1,rfl⟩
  .exact⟨rfl,hg,.inr (.inl ⟨hS.out,h1,rfl⟩)⟩
  .go_wp2
   go_end0
   exact⟨hg,.inr (.inr ⟨hS.out,h1,rfl⟩)⟩
end
theorem bytes_named (s:ByteArray)(w:World):∃(W:World) (cap:Nat),(convert 9 64 (.string s)).run Tryz.prog w=.ok (.slice (some ⟨w.heap.size,0,none⟩) s.size cap) W/\Below w.heap.size w W/\
  ∀j,(hj:j<s.size)->W.cell? ⟨w.heap.size,j,none⟩=some (.int .u8 (s[j].toNat:Int)):=by
 refine⟨_,_,run_bytes_of_string w 9 64 5 s Tryz.underlying9 Tryz.underlying64 Tryz.underlying5,?_,?_⟩
 .exact(Below.refl _ _).drew.alloc (Nat.le_refl _) _
 .intro j hj;have hb:(w.drew.alloc (.cells (bytesRow s (grownCap w s.size 0 5)) 5 ((bytesRow s (grownCap w s.size 0 5)).size,(bytesRow s (grownCap w s.size 0 5)).size+1))).heap[w.heap.size]? =some (.cells (bytesRow s (grownCap w s.size 0 5)) 5 ((bytesRow s (grownCap w s.size 0 5)).size,(bytesRow s (grownCap w s.size 0 5)).size+1)):=by
   show (w.heap.push _)[w.heap.size]? =_;simp
  simp only[World.cell?,hb];exact bytesRow_at s _ j hj
theorem iatoi_any (s:ByteArray)(w:World)(h1:1<=s.size)(h4:s.size<=4)(hd:∀c∈s.data.toList,zD (c.toNat:Int)=true):
  Calls Tryz.prog 164 #[.string s] w fun e w'=>e=.returned (.tuple #[.int .i64 (dval s.data.toList),.nilIface])/\Below w.heap.size w w':=by
 obtain⟨W,cap,hcv,hb,hc⟩:=bytes_named s w;have hdig:Hid (∀j,(hj:j<s.size)->48<=s[j].toNat/\s[j].toNat<=57):=by
  intro j hj;have:=hd s[j] (by
   have:s[j]=s.data.toList[j]'(by simpa using hj):=rfl;rw[this];exact List.getElem_mem _)
  simp only[zD,Bool.and_eq_true,decide_eq_true_eq]at this;omega
 have hdl:Hid (∀k,k<=s.size->dval (s.data.toList.take k)<10000):=by
  intro k hk;have h:=dval_lt (s.data.toList.take k) (by
   intro c hc;have:=hd c (List.mem_of_mem_take hc);simp only[zD,Bool.and_eq_true,decide_eq_true_eq]at this;omega)
  have h3:10 ^ (s.data.toList.take k).length<=10 ^ 4:=Nat.pow_le_pow_right (by omega) (by simp;omega);omega
 have h0:(0:Int)<s.size:=by omega
 have h19:(s.size:Int)<19:=by omega
 have hs0:=hdig.out 0 (by omega);have hm1:((s[0].toNat:Int)==45)=false:=by simp;omega
 have hm2:((s[0].toNat:Int)==43)=false:=by simp;omega
 have Hb:=hide hb;have Hc:=hide hc;clear hb hc hd hs0;go_enter Tryz.func164,Tryz.ntmps164;go_wp2
 go_loop [6,49] (fun n i=>∃k d:Nat,k<=s.size/\i=.int .i64 k/\n=.int .i64 d/\d<10000/\Hid (d=dval (s.data.toList.take k))) (fun _ i=>s.size-(intOf i).toNat)
 case atStart=>exact⟨0,0,by omega,rfl,rfl,by omega,by simp[Hid,dval]⟩
 case round=>
  obtain⟨k,d,hk,rfl,rfl,hd4,hdv⟩:=hrel;by_cases hlt:k<s.size
  .have hcell:=Hc.out k hlt;obtain⟨hb1,hb2⟩:=hdig.out k hlt;have hb1':(48:Int)<=s[k].toNat:=by omega
   have hb2':(s[k].toNat:Int)<=57:=by omega
   have hsn:Hid (dval (s.data.toList.take (k+1))=10*d+(s[k].toNat-48)):=by
    unfold Hid;have:=take_more s 0 k (by omega) hlt;simp only[List.drop_zero,Nat.sub_zero]at this;rw[this,dval_snoc,←hdv.out]
   have hbnd:=hdl.out (k+1) (by omega);rw[hsn.out]at hbnd;go_wp2
   go_round
   case rel=>exact⟨k+1,10*d+(s[k].toNat-48),by omega,by go_num,by go_num,hbnd,by rw[hsn.out];rfl⟩
   case measure=>simp[intOf];omega
  .go_wp2
   go_ret2
   refine⟨?_,Hb.out⟩;have hfull:dval s.data.toList=d:=by
    rw[hdv.out,List.take_of_length_le (by simp;omega)]
   rw[hfull];rfl
theorem atoi_any (s:ByteArray)(w:World)(h1:1<=s.size)(h4:s.size<=4)(hd:∀c∈s.data.toList,zD (c.toNat:Int)=true):
  Calls Tryz.prog 143 #[.string s] w fun e w'=>e=.returned (.tuple #[.int .i64 (dval s.data.toList),.nilIface])/\Below w.heap.size w w':=by
 have H:=hide (iatoi_any s w h1 h4 hd);clear hd h1 h4;generalize dval s.data.toList=d at *;go_enter Tryz.func143,Tryz.ntmps143;go_wp2_with fail;refine H.out.mono ?_;rintro e w' ⟨rfl,hb⟩;have Hb:=hide hb;clear hb;go_wp2
 go_ret2
 exact⟨rfl,Hb.out⟩
section
variable {w:World} {b:Nat} {s:ByteArray} {i:Nat} {er:Nat}
theorem RS.set (h:RS er w b s i){X:Nat}(hX:b≠X)(o:Nat)(v:Value):RS er (w.setCell ⟨X,o,none⟩ v) b s i:=h.keep (Below.heap_setCell _ _ _ _ hX)
theorem tok_digits {l:List UInt8}{q:Nat}(hk:(tokAt l q).k=110):1<=(tokAt l q).tx.length/\(tokAt l q).tx.length<=4/\∀c∈(tokAt l q).tx,zD (c.toNat:Int)=true:=by
 revert hk
 unfold tokAt;split
 .intro hk;simp at hk
 .rename_i c r hd;split
  .rename_i hg;intro hk;simp only at hk;simp[signB,hk]at hg
  .split
   .intro hk;simp at hk
   .split
    .rename_i h4;intro _;have:=lead_le zD (c::r);refine⟨by simp only[List.length_take];omega,by simp only[List.length_take];omega,?_⟩;exact mem_lead zD (c::r) _ (Nat.le_refl _)
    .intro hk;simp at hk
def isNameP (t:PT):Bool:=kc t.k==1&&t.tx.length==1
theorem takeName_any (h:RS er w b s i):
  Calls Tryz.prog 150 #[.pointer (some ⟨b,0,none⟩)] w (StepOut er s b w (isNameP (tk (zT s.data.toList) i)) i (.agg #[.string (bs (tk (zT s.data.toList) i).tx),.int .i64 (tk (zT s.data.toList) i).at_])):=by
 obtain⟨⟨c0,ce⟩,c1,c2,c3,f0⟩:=h.cells;have hlt:=zL h.h;have H:=hide h;have hfin:Hid (isNameP (tk (zT s.data.toList) i)=true->(tk (zT s.data.toList) i).fin=false):=by
  intro hn
  cases hq:(tk (zT s.data.toList) i).fin
  .rfl
  .have:=tk_fin_tx _ _ hq;simp[isNameP,this]at hn
 have hbz:(bs (tk (zT s.data.toList) i).tx).size=(tk (zT s.data.toList) i).tx.length:=bs_size _;clear h
 cases hN:isNameP (tk (zT s.data.toList) i)
 .have hS:Hid (isNameP (tk (zT s.data.toList) i)=false):=hN;have hcase:((kc (tk (zT s.data.toList) i).k:Int) != 1)=true\/(((kc (tk (zT s.data.toList) i).k:Int) != 1)=false/\(((bs (tk (zT s.data.toList) i).tx).size:Int) != 1)=true):=by
   rw[hbz];simp only[isNameP,Bool.and_eq_false_iff,beq_eq_false_iff_ne,ne_eq]at hN;simp only[bne_iff_ne,ne_eq,bne_eq_false_iff_eq];omega
  clear hN hbz;rcases hcase with h1|⟨h1,h2⟩
  all_goals
   go_enter Tryz.func150,Tryz.ntmps150;go_wp2_with fail;refine(refuseNext_any (H.out.alloc _)).mono ?_;rintro e w' ⟨rfl,hg⟩;exact⟨rfl,zR (World.grownBy_alloc _ _ _) (grownBy_none hg),.inl ⟨rfl,rfl⟩⟩
 .have hS:Hid (isNameP (tk (zT s.data.toList) i)=true):=hN;have Hf:=hide (hfin.out hN);have h1:((kc (tk (zT s.data.toList) i).k:Int) != 1)=false:=by
   simp only[isNameP,Bool.and_eq_true,beq_iff_eq]at hN;simp only[bne_eq_false_iff_eq];omega
  have h2:(((bs (tk (zT s.data.toList) i).tx).size:Int) != 1)=false:=by
   rw[hbz];simp only[isNameP,Bool.and_eq_true,beq_iff_eq]at hN;simp only[bne_eq_false_iff_eq];omega
  clear hN hbz hfin;go_enter Tryz.func150,Tryz.ntmps150;go_wp2_with fail;refine(take_any (H.out.alloc _) Hf.out).mono ?_;rintro e w1 ⟨hg,hcase⟩;have hgw:w.grownBy w1 (some b):=zR (World.grownBy_alloc w _ _) hg;have hY:w1.heap[w.heap.size]? =some (.cells #[.string ⟨#[]⟩,.int .i64 0] 170 (0,0)):=by
   rw[hg.block _ (by simp) (by simp;omega)];exact zW _ _ _
  rcases hcase with⟨h3,rfl⟩|⟨h3,rfl⟩
  .exact⟨rfl,hgw,.inr (.inl ⟨rfl,h3,rfl⟩)⟩
  .have yc:=zC hY;have yf:=zF hY;have hl1:=zL hY;have Hr:=hide h3;have Hg:=hide hgw;clear hY hg hgw h3 c0 ce c1 c2 c3 f0 H h1 h2;unfold pv;go_wp2;refine bodyPost_ret (v:=.agg #[.string (bs (tk (zT s.data.toList) i).tx),.int .i64 (tk (zT s.data.toList) i).at_]) (by simp[results,Tryz.results150,go_sem,yc,hl1]) rfl ⟨?_,.inr (.inr ⟨rfl,?_,rfl⟩)⟩
   .exact grownBy_alloc' (zG (zG Hg.out (Nat.le_refl _) _ _) (Nat.le_refl _) _ _) _
   .exact((Hr.out.set (by omega) _ _).set (by omega) _ _).alloc _
theorem takeNumber_any (h:RS er w b s i):
  Calls Tryz.prog 102 #[.pointer (some ⟨b,0,none⟩)] w (StepOut er s b w ((tk (zT s.data.toList) i).k==110) i (.agg #[.int .i64 (tk (zT s.data.toList) i).N,.int .i64 (tk (zT s.data.toList) i).at_])):=by
 obtain⟨⟨c0,ce⟩,c1,c2,c3,f0⟩:=h.cells;have hlt:=zL h.h;have hkk:=h.hk;have H:=hide h;clear h
 cases hN:((tk (zT s.data.toList) i).k==110)
 .have h1:((kc (tk (zT s.data.toList) i).k:Int) != 2)=true:=by
   simp only[beq_eq_false_iff_ne,ne_eq]at hN;rw[bne_iff_ne];unfold kc;split
   .decide
   .split
    .decide
    .decide
  clear hN hkk;go_enter Tryz.func102,Tryz.ntmps102;go_wp2_with fail;refine(refuseNext_any (H.out.alloc _)).mono ?_;rintro e w' ⟨rfl,hg⟩;exact⟨rfl,zR (World.grownBy_alloc _ _ _) (grownBy_none hg),.inl ⟨rfl,rfl⟩⟩
 .have hk:(tk (zT s.data.toList) i).k=110:=by simpa using hN
  have h1:((kc (tk (zT s.data.toList) i).k:Int) != 2)=false:=by rw[hk];rfl
  have Hf:Hid ((tk (zT s.data.toList) i).fin=false):=by unfold Hid PT.fin;rw[hk];rfl
  have hNe:Hid ((tk (zT s.data.toList) i).N=dval (tk (zT s.data.toList) i).tx):=by unfold Hid PT.N;rw[hk];rfl
  obtain⟨ht1,ht4,htd⟩:1<=(tk (zT s.data.toList) i).tx.length/\(tk (zT s.data.toList) i).tx.length<=4/\∀c∈(tk (zT s.data.toList) i).tx,zD (c.toNat:Int)=true:=by
   rcases tk_form s.data.toList i with⟨q,hq⟩|hq
   .rw[hq]at hk ⊢;exact tok_digits hk
   .rw[hq]at hk;simp at hk
  have hat:=hide (fun W=>atoi_any (bs (tk (zT s.data.toList) i).tx) W (by rw[bs_size];exact ht1) (by rw[bs_size];exact ht4) (by rw[bs_data];exact htd));rw[bs_data,←hNe.out]at hat;clear hN hkk hk hNe ht1 ht4 htd;go_enter Tryz.func102,Tryz.ntmps102;go_wp2_with fail;refine(take_any (H.out.alloc _) Hf.out).mono ?_;rintro e w1 ⟨hg,hcase⟩;have hgw:w.grownBy w1 (some b):=zR (World.grownBy_alloc w _ _) hg;have hY:w1.heap[w.heap.size]? =some (.cells #[.int .i64 0,.int .i64 0] 145 (0,0)):=by
   rw[hg.block _ (by simp) (by simp;omega)];exact zW _ _ _
  rcases hcase with⟨h3,rfl⟩|⟨h3,rfl⟩
  .exact⟨rfl,hgw,.inr (.inl ⟨rfl,h3,rfl⟩)⟩
  .have hl1:=zL hY;have Hr:=hide h3;have Hg:=hide hgw;have HY:=hide hY;clear hY hg hgw h3 c0 ce c1 c2 c3 f0 H h1;unfold pv;go_wp2_with fail;refine(hat.out _).mono ?_;rintro e w2 ⟨rfl,hb2⟩;have hX:=blk_kept (zW w1 _ _) hb2;have hb12:Below w1.heap.size w1 w2:=(zN w1 _).trans (hb2.mono (by simp));have hY2:=blk_kept HY.out hb12;have Hr2:=hide (Hr.out.below hb12);have Hg2:=hide (zR Hg.out (grownBy_none (row:=some b) (grown_below hb12)));have xc:=zC hX;have yc:=zC hY2;have yf:=zF hY2;have hl2:=zL hY2;have hl3:=zL hX;clear hb2 hX hb12 hY2 Hr Hg HY hat;go_wp2;refine bodyPost_ret (v:=.agg #[.int .i64 (tk (zT s.data.toList) i).N,.int .i64 (tk (zT s.data.toList) i).at_]) (by simp[results,Tryz.results102,go_sem,yc,hl2]) rfl ⟨?_,.inr (.inr ⟨rfl,?_,rfl⟩)⟩
   .exact zG (zG Hg2.out (Nat.le_refl _) _ _) (Nat.le_refl _) _ _
   .exact(Hr2.out.set (by omega) _ _).set (by omega) _ _
theorem seesEnd_any (h:RS er w b s i):
  Calls Tryz.prog 103 #[.pointer (some ⟨b,0,none⟩)] w fun en w'=>en=.returned (.bool ((tk (zT s.data.toList) i).k==101))/\w'=w:=by
 obtain⟨⟨c0,ce⟩,c1,c2,c3,f0⟩:=h.cells;have hk:Hid (((kc (tk (zT s.data.toList) i).k:Int)==0)=((tk (zT s.data.toList) i).k==101)):=by
  unfold Hid;rw[Bool.eq_iff_iff];simp only[beq_iff_eq];unfold kc;split
  .rename_i h1;simp[h1]
  .rename_i h1;split
   .simp[h1]
   .split<;>simp[h1]
 clear h;go_enter Tryz.func103,Tryz.ntmps103;go_wp2;go_ret;exact⟨by rw[←hk.out];rfl,rfl⟩
theorem takeEnd_any (h:RS er w b s i):
  Calls Tryz.prog 124 #[.pointer (some ⟨b,0,none⟩)] w fun en w'=>((tk (zT s.data.toList) i).k≠101/\en=pan er (tk (zT s.data.toList) i).at_/\w.grownBy w' none)\/((tk (zT s.data.toList) i).k=101/\en=.returned (.tuple #[])/\w'=w):=by
 have H:=hide h;clear h
 cases hk:((tk (zT s.data.toList) i).k==101)
 .have Hk:=hide hk;clear hk;go_enter Tryz.func124,Tryz.ntmps124;go_wp2_with fail;refine(seesEnd_any H.out).mono ?_;rintro e w' ⟨rfl,rfl⟩;rw[Hk.out];go_wp2_with fail;refine(refuseNext_any H.out).mono ?_;rintro e w' ⟨rfl,hg⟩;exact⟨rfl,.inl ⟨by simpa using Hk.out,rfl,hg⟩⟩
 .have Hk:=hide hk;clear hk;go_enter Tryz.func124,Tryz.ntmps124;go_wp2_with fail;refine(seesEnd_any H.out).mono ?_;rintro e w' ⟨rfl,rfl⟩;rw[Hk.out];go_wp2
  go_end0
  exact .inr ⟨by simpa using Hk.out,rfl,rfl⟩
theorem seesPair_any (h:RS er w b s i):
  Calls Tryz.prog 122 #[.pointer (some ⟨b,0,none⟩)] w fun en w'=>en=.returned (.bool (seesP (tk (zT s.data.toList) i) wBefore||seesP (tk (zT s.data.toList) i) wApart))/\w'=w:=by
 have H:=hide h;clear h
 cases h1:seesP (tk (zT s.data.toList) i) wBefore
 .have H1:Hid (((bs (tk (zT s.data.toList) i).tx).toList==wBefore.toList)=false):=h1;clear h1;go_enter Tryz.func122,Tryz.ntmps122;go_wp2_with fail;refine(sees_any H.out wBefore).mono ?_;rintro e w' ⟨rfl,rfl⟩;rw[H1.out];go_wp2_with fail;refine(sees_any H.out wApart).mono ?_;rintro e w' ⟨rfl,rfl⟩;go_wp2;go_ret;exact⟨rfl,rfl⟩
 .have H1:Hid (((bs (tk (zT s.data.toList) i).tx).toList==wBefore.toList)=true):=h1;clear h1;go_enter Tryz.func122,Tryz.ntmps122;go_wp2_with fail;refine(sees_any H.out wBefore).mono ?_;rintro e w' ⟨rfl,rfl⟩;rw[H1.out];go_wp2;go_ret;exact⟨rfl,rfl⟩
end
end
end Go.Proofs.YtbdffcjganlblaaGreatDoor
