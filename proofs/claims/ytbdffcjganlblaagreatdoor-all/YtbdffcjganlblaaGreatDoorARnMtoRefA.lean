import Derived.Test.YtbdffcjganlblaaGreatDoorRows
import Derived.WalkKit
import Derived.WalkLawsBesides
import Derived.WalkSpells
import Derived.Maps.Keyed
import Derived.Maps.OwnOps
import Derived.DeepKeys4
set_option linter.unusedVariables false
set_option linter.unusedSimpArgs false
set_option maxRecDepth 100000
set_option maxHeartbeats 16000000
namespace Go.Proofs.YtbdffcjganlblaaGreatDoor
section
open Go.RowKit Go.Maps
open Go.ChangeMaps (setBlock heap_setBlock_same heap_setBlock_other)
theorem laidOutM:laidOutB Tryz.prog=true:=by kernel_rfl
theorem keyRow:(164:TypeId)<Tryz.prog.types.size:=of_decide_eq_true (by kernel_rfl)
theorem keyDeep:Tryz.prog.keyTypeAt (Tryz.prog.types.size+1) 164=true:=by kernel_rfl
theorem keyWide:(match Tryz.prog.underlying 164 with|some (.array _ _)|some (.struct _)=>true|_=>false)=true:=by rw[Tryz.underlying164]
theorem keyLaw:Keyed Tryz.prog 164:=Keyed.of_law (deep_law_laid laidOutM (m:=2) (by omega) keyRow (by kernel_rfl) keyWide)
theorem keyCells:Tryz.prog.cellsOf 164=2:=by kernel_rfl
theorem keyCellB:Tryz.prog.cellsOf 5=1:=by kernel_rfl
theorem keyCellI:Tryz.prog.cellsOf 3=1:=by kernel_rfl
abbrev JK:=UInt8×Nat
def keyV (k:JK):Value:=.agg #[.int .u8 k.1.toNat,.int .i64 k.2]
theorem keyV_inj {a b:JK}(h:keyV a=keyV b):a=b:=by
 unfold keyV at h;simp at h;obtain⟨h1,h2⟩:=h;have e1:a.1=b.1:=by
  apply UInt8.toNat_inj.1;omega
 exact Prod.ext e1 (by omega)
theorem keyV_lits (d:Nat)(a b:Int)(h8:(Lit.int .u8 a).wf=true)(h64:(Lit.int .i64 b).wf=true):Tryz.prog.keyLits (d+2) 164 [.int .u8 a,.int .i64 b]=some [.int .u8 a,.int .i64 b]:=by
 have e1:∀d,Tryz.prog.keyLits (d+1) 5 [.int .u8 a]=some [.int .u8 a]:=fun d=>by
  unfold Program.keyLits;rw[Tryz.underlying5];exact if_pos ⟨rfl,h8⟩
 have e2:∀d,Tryz.prog.keyLits (d+1) 3 [.int .i64 b]=some [.int .i64 b]:=fun d=>by
  unfold Program.keyLits;rw[Tryz.underlying3];exact if_pos ⟨rfl,h64⟩
 unfold Program.keyLits;rw[Tryz.underlying164];simp only[List.length_cons,List.length_nil,keyCells];rw[if_pos ⟨trivial,by kernel_rfl⟩];simp[keyCellB,keyCellI,e1,e2]
theorem keyV_of (k:JK)(hk:k.2<=1000000):∃kl,keyOf Tryz.prog 164 (keyV k)=some kl:=by
 have hf:(keyV k).formed Tryz.prog 164=true:=by simp[keyV,Value.formed,Tryz.underlying164,keyCells]
 have h8:(Lit.int .u8 (k.1.toNat:Int)).wf=true:=WalkArith.wf_u8 (by have:=k.1.toNat_lt;omega);have h64:(Lit.int .i64 (k.2:Int)).wf=true:=WalkArith.wf_i64 (by omega);have hr:(0:Nat)<Tryz.prog.types.size:=of_decide_eq_true (by kernel_rfl);have hd:=keyDeep;unfold keyOf;rw[Tryz.underlying164];simp only;unfold Program.keyType;rw[hd,hf];obtain⟨d,e⟩:∃d,Tryz.prog.types.size+1=d+2:=⟨Tryz.prog.types.size-1,by
  generalize Tryz.prog.types.size=T at hr ⊢;omega⟩
 rw[e];have hl:=keyV_lits d k.1.toNat k.2 h8 h64;rw[show (keyV k).cells.toList=[.int .u8 k.1.toNat,.int .i64 k.2] from rfl,hl];exact⟨_,rfl⟩
def KMap (w:World) (M:Nat) (es:List (JK×Nat)):Prop:=
 ∃arr clock,w.heap[M]? =some (.map arr clock)/\arr.toList.map (fun e=>(e.key,e.val))=es.map (fun x=>(keyV x.1,Value.pointer (some ⟨x.2,0,none⟩)))/\es.length<=1000
theorem KMap.keep {w w':World}{M:Nat}{es:List (JK×Nat)}(h:KMap w M es)(hb:w'.heap[M]? =w.heap[M]?):KMap w' M es:=by
 obtain⟨arr,clock,h1,h2⟩:=h;exact⟨arr,clock,by rw[hb];exact h1,h2⟩
theorem KMap.made (w:World):KMap (w.alloc (.map #[] 0)) w.heap.size []:=⟨#[],0,(MapKept.heap_alloc w _).1,rfl,by simp⟩
theorem KMap.lt {w:World}{M:Nat}{es:List (JK×Nat)}(h:KMap w M es):M<w.heap.size:=by
 obtain⟨arr,clock,h1,_⟩:=h;exact(Array.getElem?_eq_some_iff.1 h1).1
theorem kmap_keys {arr:Array MapEntry}{es:List (JK×Nat)}(h:arr.toList.map (fun e=>(e.key,e.val))=es.map (fun x=>(keyV x.1,Value.pointer (some ⟨x.2,0,none⟩))))(hs:∀x∈es,x.1.2<=1000000):∀e∈arr.toList,∃l,keyOf Tryz.prog 164 e.key=some l:=by
 intro e he;have:(e.key,e.val)∈arr.toList.map (fun e=>(e.key,e.val)):=List.mem_map.2 ⟨e,he,rfl⟩;rw[h]at this;obtain⟨x,hx,ex⟩:=List.mem_map.1 this;simp only[Prod.mk.injEq]at ex;rw[←ex.1];exact keyV_of x.1 (hs x hx)
theorem zeroJob (w:World):(zeroValue 122).run Tryz.prog w=.ok (.pointer none) w:=by kernel_rfl
theorem KMap.look {w:World}{M:Nat}{es:List (JK×Nat)}(h:KMap w M es)(hs:∀x∈es,x.1.2<=1000000)(k:JK)(hk:k.2<=1000000):
  ((∀x∈es,x.1≠k)/\(Instr.lookup 162 (.map (some M)) (keyV k) false).run Tryz.prog w=.ok (.pointer none) w)\/
  ∃(j:Nat) (x:JK×Nat),es[j]? =some x/\x.1=k/\(Instr.lookup 162 (.map (some M)) (keyV k) false).run Tryz.prog w=.ok (.pointer (some ⟨x.2,0,none⟩)) w:=by
 obtain⟨arr,clock,hb,he,hl⟩:=h;obtain⟨kl,hkl⟩:=keyV_of k hk;rcases keyLaw.find w hkl arr.toList (kmap_keys he hs) with⟨h1,h2⟩|⟨j,e0,h1,h2,h3⟩
 .left;refine⟨fun x hx ex=>?_,?_⟩
  .have:(keyV x.1,Value.pointer (some ⟨x.2,0,none⟩))∈es.map (fun x=>(keyV x.1,Value.pointer (some ⟨x.2,0,none⟩))):=List.mem_map.2 ⟨x,hx,rfl⟩;rw[←he]at this;obtain⟨e,hm,ee⟩:=List.mem_map.1 this;simp only[Prod.mk.injEq]at ee;exact h2 e hm (by rw[ee.1,ex])
  .simp[Instr.lookup,run_underlying Tryz.underlying162,MapKept.run_getObj_map hb,keyLaw.check w _ hkl,h1,zeroJob w,Result.andThen]
 .right;have e1:(arr.toList.map (fun e=>(e.key,e.val)))[j]? =some (e0.key,e0.val):=by rw[List.getElem?_map,h2];rfl
  rw[he,List.getElem?_map]at e1
  cases hx:es[j]? with
  | none=>rw[hx]at e1;simp at e1
  | some x=>
   rw[hx]at e1;simp only[Option.map_some,Option.some.injEq,Prod.mk.injEq]at e1;refine⟨j,x,hx,keyV_inj (e1.1.trans h3),?_⟩;simp[Instr.lookup,run_underlying Tryz.underlying162,MapKept.run_getObj_map hb,keyLaw.check w _ hkl,h1,Result.andThen];exact e1.2.symm
theorem KMap.store {w:World}{M:Nat}{es:List (JK×Nat)}(h:KMap w M es)(hs:∀x∈es,x.1.2<=1000000)(k:JK)(hk:k.2<=1000000)(hn:∀x∈es,x.1≠k)(hl:es.length+1<=1000)(A:Nat):
  ∃w',(Instr.mapUpdate 162 (.map (some M)) (keyV k) (.pointer (some ⟨A,0,none⟩))).run Tryz.prog w=.ok () w'/\KMap w' M (es++[(k,A)])/\w.grownBy w' (some M):=by
 obtain⟨arr,clock,hb,he,_⟩:=h;obtain⟨kl,hkl⟩:=keyV_of k hk;rcases keyLaw.find w hkl arr.toList (kmap_keys he hs) with⟨h1,h2⟩|⟨j,e0,h1,h2,h3⟩
 .refine⟨setBlock w M (.map (arr.push ⟨keyV k,.pointer (some ⟨A,0,none⟩),clock⟩) (clock+1)),?_,⟨_,_,heap_setBlock_same hb _,?_,by simp;omega⟩,⟨rfl,rfl,rfl,by simp[setBlock],fun i _ hi=>heap_setBlock_other hb _ (fun e=>hi (by rw[e]))⟩⟩
  .simp[Instr.mapUpdate,run_underlying Tryz.underlying162,MapKept.run_getObj_map hb,keyLaw.check w false hkl,h1,MapKept.run_setObj_map _ hb,Result.andThen,setBlock]
  .rw[Array.toList_push,List.map_append,he,List.map_append];rfl
 .exfalso;have e1:(arr.toList.map (fun e=>(e.key,e.val)))[j]? =some (e0.key,e0.val):=by rw[List.getElem?_map,h2];rfl
  rw[he,List.getElem?_map]at e1
  cases hx:es[j]? with
  | none=>rw[hx]at e1;simp at e1
  | some x=>
   rw[hx]at e1;simp only[Option.map_some,Option.some.injEq,Prod.mk.injEq]at e1;exact hn x (List.mem_of_getElem? hx) (keyV_inj (e1.1.trans h3))
def jobV (nm:UInt8) (bud left:Nat) (want:Int):Array Value:=#[.int .u8 nm.toNat,.int .i64 bud,.int .i64 left,.int .i64 want]
theorem wpList_look_at {P:Program}(w:World){ops:Array Oper}{rest:List Oper}{o:Oper}{a:Act}{Q:Exit->Act->World->Prop}
  (hg:o.guard=none) (m x:Operand) (t:TypeId) (hop:o.op=Op.lookup t m x false) (mv xv v:Value) (hm:a.eval m=mv) (hx:a.eval x=xv)
  (hrun:(Instr.lookup t mv xv false).run P w=.ok v w) (hK:wpList P ops Q rest (a.put o.dst v) w):wpList P ops Q (o::rest) a w:=by
 refine wpList_plain hg fun K' hK'=>?_;unfold Oper.wp;simp[execOp,hop,hm,hx,hrun,Result.andThen];exact hK' _ _ hK
theorem wpList_store_at {P:Program}(w:World){ops:Array Oper}{rest:List Oper}{o:Oper}{a:Act}{Q:Exit->Act->World->Prop}
  (hg:o.guard=none) (m x v:Operand) (t:TypeId) (hop:o.op=Op.mapUpdate t m x v) (mv xv vv:Value) (hm:a.eval m=mv) (hx:a.eval x=xv) (hv:a.eval v=vv) (w':World)
  (hrun:(Instr.mapUpdate t mv xv vv).run P w=.ok () w') (hK:wpList P ops Q rest (a.put o.dst undef) w'):wpList P ops Q (o::rest) a w:=by
 refine wpList_plain hg fun K' hK'=>?_;unfold Oper.wp;simp[execOp,hop,hm,hx,hv,hrun,Result.andThen];exact hK' _ _ hK
end
def blankB (c:Int):Bool:=c==32||c==10
def zB (c:Int):Bool:=decide (97<=c)&&decide (c<=122)
def zD (c:Int):Bool:=decide (48<=c)&&decide (c<=57)
def signB (c:Int):Bool:=c==44||c==59||c==58
def lead (P:Int->Bool):List UInt8->Nat
 | []=>0
 | c::r=>if P (c.toNat:Int) then lead P r+1 else 0
theorem lead_le (P:Int->Bool):∀l,lead P l<=l.length
 | []=>Nat.le_refl _
 | c::r=>by
  simp only[lead,List.length_cons];have:=lead_le P r;split<;>omega
def bs (l:List UInt8):ByteArray:=⟨l.toArray⟩
theorem bs_list (s:ByteArray):bs s.data.toList=s:=by cases s;simp[bs]
theorem bs_size (l:List UInt8):(bs l).size=l.length:=by simp[bs,ByteArray.size]
theorem bs_data (l:List UInt8):(bs l).data.toList=l:=by simp[bs]
theorem bs_inj {a b:List UInt8}:bs a=bs b↔a=b:=by
 constructor
 .intro h;have:=congrArg (fun s=>s.data.toList) h;simpa [bs] using this
 .intro h;rw[h]
theorem ext_list (s:ByteArray)(a b:Nat):(s.extract a b).data.toList=(s.data.toList.drop a).take (b-a):=by
 simp[ByteArray.data_extract,List.extract_eq_take_drop]
theorem ext_bs (s:ByteArray)(a b:Nat):s.extract a b=bs ((s.data.toList.drop a).take (b-a)):=by
 rw[←ext_list,bs_list]
structure PT where
 k:Nat
 tx:List UInt8
 at_:Nat
def skipB (l:List UInt8) (i:Nat):Nat:=i+lead blankB (l.drop i)
def tokAt (l:List UInt8) (i:Nat):PT:=
 match l.drop i with
 | []=>⟨101,[],i⟩
 | c::r=>
  if signB (c.toNat:Int) then ⟨c.toNat,[c],i⟩
  else if zB (c.toNat:Int) then ⟨119,(c::r).take (lead zB (c::r)),i⟩
  else if 1<=lead zD (c::r)/\lead zD (c::r)<=4 then ⟨110,(c::r).take (lead zD (c::r)),i⟩
  else ⟨120,[],i⟩
def dval (l:List UInt8):Nat:=l.foldl (fun n c=>10*n+(c.toNat-48)) 0
def PT.fin (t:PT):Bool:=t.k==101||t.k==120
def PT.nx (t:PT):Nat:=t.at_+t.tx.length
def PT.S (t:PT):List UInt8:=if t.k==110 then [] else t.tx
def PT.N (t:PT):Nat:=if t.k==110 then dval t.tx else 0
def nextTok (l:List UInt8) (i:Nat):PT:=tokAt l (skipB l i)
def toks:Nat->List UInt8->Nat->List PT
 | 0,l,i=>[nextTok l i]
 | f+1,l,i=>if (nextTok l i).fin then [nextTok l i] else nextTok l i::toks f l (nextTok l i).nx
theorem skipB_le (l:List UInt8)(i:Nat)(h:i<=l.length):i<=skipB l i/\skipB l i<=l.length:=by
 have:=lead_le blankB (l.drop i);simp only[skipB,List.length_drop]at *;omega
theorem tokAt_bound (l:List UInt8)(i:Nat)(h:i<=l.length):(tokAt l i).at_=i/\i+(tokAt l i).tx.length<=l.length:=by
 have hl:(l.drop i).length=l.length-i:=List.length_drop;unfold tokAt;split
 .exact⟨rfl,by simpa using h⟩
 .rename_i c r hd;have h1:=lead_le zB (c::r);have h2:=lead_le zD (c::r);rw[hd]at hl;simp only[List.length_cons]at hl h1 h2;split
  .exact⟨rfl,by simp;omega⟩
  .split
   .exact⟨rfl,by simp[List.length_take];omega⟩
   .split
    .exact⟨rfl,by simp[List.length_take];omega⟩
    .exact⟨rfl,by simp;omega⟩
theorem tokAt_long (l:List UInt8)(i:Nat)(h:(tokAt l i).fin=false):0<(tokAt l i).tx.length:=by
 revert h
 unfold tokAt;split
 .intro h;simp[PT.fin]at h
 .rename_i c r hd;split
  .intro _;simp
  .split
   .rename_i hlt;intro _;have:lead zB (c::r)=lead zB r+1:=by simp[lead,hlt]
    simp[this]
   .split
    .rename_i hd4;intro _;simp[List.length_take];omega
    .intro h;simp[PT.fin]at h
theorem nextTok_bound (l:List UInt8)(i:Nat)(h:i<=l.length):i<=(nextTok l i).at_/\(nextTok l i).nx<=l.length/\(nextTok l i).at_<=(nextTok l i).nx:=by
 have h1:=skipB_le l i h;have h2:=tokAt_bound l (skipB l i) h1.2;unfold nextTok PT.nx;rw[h2.1];omega
theorem nextTok_long (l:List UInt8)(i:Nat)(h:(nextTok l i).fin=false):(nextTok l i).at_<(nextTok l i).nx:=by
 have:=tokAt_long l (skipB l i) h;unfold nextTok PT.nx;omega
section
open Go.RowKit
theorem hide {p:Prop}(h:p):Hid p:=h
theorem unhide {p:Prop}(h:Hid p):p:=h
theorem isBlank_any (c:Int)(w:World):
  Calls Tryz.prog 161 #[.int .u8 c] w fun e w'=>e=.returned (.bool (blankB c))/\w'=w:=by
 go_enter Tryz.func161,Tryz.ntmps161;go_wp2
 all_goals
  go_ret;refine⟨?_,rfl⟩
  first|(simp_all [blankB];done)|(simp_all [blankB];omega)
theorem isLetter_any (c:Int)(w:World):
  Calls Tryz.prog 106 #[.int .u8 c] w fun e w'=>e=.returned (.bool (zB c))/\w'=w:=by
 go_enter Tryz.func106,Tryz.ntmps106;go_wp2
 all_goals
  go_ret;refine⟨?_,rfl⟩
  first|(simp_all [zB];done)|(simp_all [zB];omega)
theorem isDigit_any (c:Int)(w:World):
  Calls Tryz.prog 162 #[.int .u8 c] w fun e w'=>e=.returned (.bool (zD c))/\w'=w:=by
 go_enter Tryz.func162,Tryz.ntmps162;go_wp2
 all_goals
  go_ret;refine⟨?_,rfl⟩
  first|(simp_all [zD];done)|(simp_all [zD];omega)
theorem isSign_any (c:Int)(w:World):
  Calls Tryz.prog 163 #[.int .u8 c] w fun e w'=>e=.returned (.bool (signB c))/\w'=w:=by
 go_enter Tryz.func163,Tryz.ntmps163;go_wp2
 all_goals
  go_ret;refine⟨?_,rfl⟩
  first|(simp_all [signB];done)|(simp_all [signB];omega)
theorem rIsLetter_any (c:Int)(w:World):
  Calls Tryz.prog 118 #[.int .u8 c] w fun e w'=>e=.returned (.bool (zB c))/\w'=w:=by
 go_enter Tryz.func118,Tryz.ntmps118;go_wp2
 all_goals
  go_ret;refine⟨?_,rfl⟩
  first|(simp_all [zB];done)|(simp_all [zB];omega)
theorem rIsDigit_any (c:Int)(w:World):
  Calls Tryz.prog 119 #[.int .u8 c] w fun e w'=>e=.returned (.bool (zD c))/\w'=w:=by
 go_enter Tryz.func119,Tryz.ntmps119;go_wp2
 all_goals
  go_ret;refine⟨?_,rfl⟩
  first|(simp_all [zD];done)|(simp_all [zD];omega)
theorem ret_int {k:IntKind}{a b:Int}(h:a=b):Ending.returned (.int k a)=.returned (.int k b):=by rw[h]
theorem drop_cons (s:ByteArray)(k:Nat)(h:k<s.size):s.data.toList.drop k=s[k]::s.data.toList.drop (k+1):=by
 rw[List.drop_eq_getElem_cons (by simpa using h)];rfl
theorem lead_yes (P:Int->Bool)(s:ByteArray)(k:Nat)(h:k<s.size)(hp:P (s[k].toNat:Int)=true):lead P (s.data.toList.drop k)=lead P (s.data.toList.drop (k+1))+1:=by
 rw[drop_cons s k h,lead,if_pos hp]
theorem lead_no (P:Int->Bool)(s:ByteArray)(k:Nat)(h:k<s.size)(hp:P (s[k].toNat:Int)=false):lead P (s.data.toList.drop k)=0:=by
 rw[drop_cons s k h,lead,if_neg (by simp[hp])]
theorem lead_end (P:Int->Bool)(s:ByteArray)(k:Nat)(h:s.size<=k):lead P (s.data.toList.drop k)=0:=by
 rw[List.drop_of_length_le (by simpa using h),lead]
theorem countBlank_any (s:ByteArray)(w:World)(hs:s.size<=1000):
  Calls Tryz.prog 160 #[.string s,.func (.func 161) #[] #[]] w fun e w'=>e=.returned (.int .i64 (lead blankB s.data.toList))/\w'=w:=by
 go_enter Tryz.func160,Tryz.ntmps160;go_wp2
 go_loop [5] (fun i=>∃k:Nat,k<=s.size/\i=.int .i64 k/\Hid (lead blankB s.data.toList=k+lead blankB (s.data.toList.drop k))) (fun i=>s.size-(intOf i).toNat)
 case atStart=>exact⟨0,Nat.zero_le _,rfl,by simp[Hid]⟩
 case round=>
  obtain⟨k,hk,rfl,hl⟩:=hrel;by_cases hlt:k<s.size
  .by_cases hp:blankB (s[k].toNat:Int)=true
   .have hy:=hide (lead_yes blankB s k hlt hp);go_wp2_with (go_at_call 161;refine(isBlank_any _ _).mono ?_;rintro e w' ⟨rfl,rfl⟩)
    go_round
    case rel=>exact⟨k+1,by omega,by go_num,by have:=hl.out;have:=unhide hy;unfold Hid;omega⟩
    case measure=>simp[intOf];omega
   .have hp':blankB (s[k].toNat:Int)=false:=by simpa using hp
    have hy:=hide (lead_no blankB s k hlt hp');clear hp;go_wp2_with (go_at_call 161;refine(isBlank_any _ _).mono ?_;rintro e w' ⟨rfl,rfl⟩);go_ret;exact⟨ret_int (by have:=hl.out;have:=unhide hy;omega),rfl⟩
  .have hy:=hide (lead_end blankB s k (by omega));go_wp2;go_ret;exact⟨ret_int (by have:=hl.out;have:=unhide hy;omega),rfl⟩
theorem countLetter_any (s:ByteArray)(w:World)(hs:s.size<=1000):
  Calls Tryz.prog 160 #[.string s,.func (.func 106) #[] #[]] w fun e w'=>e=.returned (.int .i64 (lead zB s.data.toList))/\w'=w:=by
 go_enter Tryz.func160,Tryz.ntmps160;go_wp2
 go_loop [5] (fun i=>∃k:Nat,k<=s.size/\i=.int .i64 k/\Hid (lead zB s.data.toList=k+lead zB (s.data.toList.drop k))) (fun i=>s.size-(intOf i).toNat)
 case atStart=>exact⟨0,Nat.zero_le _,rfl,by simp[Hid]⟩
 case round=>
  obtain⟨k,hk,rfl,hl⟩:=hrel;by_cases hlt:k<s.size
  .by_cases hp:zB (s[k].toNat:Int)=true
   .have hy:=hide (lead_yes zB s k hlt hp);go_wp2_with (go_at_call 106;refine(isLetter_any _ _).mono ?_;rintro e w' ⟨rfl,rfl⟩)
    go_round
    case rel=>exact⟨k+1,by omega,by go_num,by have:=hl.out;have:=unhide hy;unfold Hid;omega⟩
    case measure=>simp[intOf];omega
   .have hp':zB (s[k].toNat:Int)=false:=by simpa using hp
    have hy:=hide (lead_no zB s k hlt hp');clear hp;go_wp2_with (go_at_call 106;refine(isLetter_any _ _).mono ?_;rintro e w' ⟨rfl,rfl⟩);go_ret;exact⟨ret_int (by have:=hl.out;have:=unhide hy;omega),rfl⟩
  .have hy:=hide (lead_end zB s k (by omega));go_wp2;go_ret;exact⟨ret_int (by have:=hl.out;have:=unhide hy;omega),rfl⟩
theorem countDigit_any (s:ByteArray)(w:World)(hs:s.size<=1000):
  Calls Tryz.prog 160 #[.string s,.func (.func 162) #[] #[]] w fun e w'=>e=.returned (.int .i64 (lead zD s.data.toList))/\w'=w:=by
 go_enter Tryz.func160,Tryz.ntmps160;go_wp2
 go_loop [5] (fun i=>∃k:Nat,k<=s.size/\i=.int .i64 k/\Hid (lead zD s.data.toList=k+lead zD (s.data.toList.drop k))) (fun i=>s.size-(intOf i).toNat)
 case atStart=>exact⟨0,Nat.zero_le _,rfl,by simp[Hid]⟩
 case round=>
  obtain⟨k,hk,rfl,hl⟩:=hrel;by_cases hlt:k<s.size
  .by_cases hp:zD (s[k].toNat:Int)=true
   .have hy:=hide (lead_yes zD s k hlt hp);go_wp2_with (go_at_call 162;refine(isDigit_any _ _).mono ?_;rintro e w' ⟨rfl,rfl⟩)
    go_round
    case rel=>exact⟨k+1,by omega,by go_num,by have:=hl.out;have:=unhide hy;unfold Hid;omega⟩
    case measure=>simp[intOf];omega
   .have hp':zD (s[k].toNat:Int)=false:=by simpa using hp
    have hy:=hide (lead_no zD s k hlt hp');clear hp;go_wp2_with (go_at_call 162;refine(isDigit_any _ _).mono ?_;rintro e w' ⟨rfl,rfl⟩);go_ret;exact⟨ret_int (by have:=hl.out;have:=unhide hy;omega),rfl⟩
  .have hy:=hide (lead_end zD s k (by omega));go_wp2;go_ret;exact⟨ret_int (by have:=hl.out;have:=unhide hy;omega),rfl⟩
def tokV (t:PT):Value:=.agg #[.int .u8 t.k,.string (bs t.S),.int .i64 t.N,.int .i64 t.at_]
def TokPost (l:List UInt8) (i:Nat) (w:World) (e:Ending) (w':World):Prop:=
 ∃j:Nat,e=.returned (.tuple #[tokV (tokAt l i),.int .i64 j])/\Below w.heap.size w w'/\i<=j/\j<=l.length/\((tokAt l i).fin=false->j=(tokAt l i).nx)
theorem tokPost_mk {l:List UInt8}{i:Nat}{w w':World}{t:PT}(ht:tokAt l i=t){v:Value}(hv:v=tokV t){j:Nat}{jv:Int}(hj:jv=j)(hb:Below w.heap.size w w')(h1:i<=j)(h2:j<=l.length)(h3:t.fin=false->j=t.nx):
  TokPost l i w (.returned (.tuple #[v,.int .i64 jv])) w':=by
 subst ht hv hj;exact⟨j,rfl,hb,h1,h2,h3⟩
theorem zN (w:World)(o:Obj):Below w.heap.size w (w.alloc o):=(Below.refl _ _).alloc (Nat.le_refl _) _
theorem tok_end (l:List UInt8)(i:Nat)(h:l.length<=i):tokAt l i=⟨101,[],i⟩:=by
 unfold tokAt;rw[List.drop_of_length_le h]
theorem tok_sign (s:ByteArray)(i:Nat)(h:i<s.size)(hg:signB (s[i].toNat:Int)=true):tokAt s.data.toList i=⟨s[i].toNat,[s[i]],i⟩:=by
 unfold tokAt;rw[drop_cons s i h];simp only;rw[if_pos hg]
theorem tok_word (s:ByteArray)(i:Nat)(h:i<s.size)(hg:signB (s[i].toNat:Int)=false)(hl:zB (s[i].toNat:Int)=true):
  tokAt s.data.toList i=⟨119,(s.data.toList.drop i).take (lead zB (s.data.toList.drop i)),i⟩:=by
 unfold tokAt;rw[drop_cons s i h];simp only;rw[if_neg (by simp[hg]),if_pos hl]
theorem tok_num (s:ByteArray)(i:Nat)(h:i<s.size)(hg:signB (s[i].toNat:Int)=false)(hl:zB (s[i].toNat:Int)=false)(hd:1<=lead zD (s.data.toList.drop i)/\lead zD (s.data.toList.drop i)<=4):
  tokAt s.data.toList i=⟨110,(s.data.toList.drop i).take (lead zD (s.data.toList.drop i)),i⟩:=by
 unfold tokAt;rw[drop_cons s i h]at hd ⊢;simp only;rw[if_neg (by simp[hg]),if_neg (by simp[hl]),if_pos hd]
theorem tok_none (s:ByteArray)(i:Nat)(h:i<s.size)(hg:signB (s[i].toNat:Int)=false)(hl:zB (s[i].toNat:Int)=false)(hd:¬(1<=lead zD (s.data.toList.drop i)/\lead zD (s.data.toList.drop i)<=4)):
  tokAt s.data.toList i=⟨120,[],i⟩:=by
 unfold tokAt;rw[drop_cons s i h]at hd ⊢;simp only;rw[if_neg (by simp[hg]),if_neg (by simp[hl]),if_neg hd]
theorem ext_one (s:ByteArray)(i:Nat)(h:i<s.size):s.extract i (i+1)=bs [s[i]]:=by
 rw[ext_bs,drop_cons s i h];simp
theorem dval_snoc (l:List UInt8)(c:UInt8):dval (l++[c])=10*dval l+(c.toNat-48):=by
 simp[dval]
theorem dval_lt (l:List UInt8)(h:∀c∈l,c.toNat<=57):dval l<10 ^ l.length:=by
 have:∀r:List UInt8,(∀c∈r,c.toNat<=57)->dval r.reverse<10 ^ r.length:=by
  intro r
  induction r with
  | nil=>intro _;simp[dval]
  | cons c r ih=>
   intro hr;rw[List.reverse_cons,dval_snoc];have h1:=ih (fun x hx=>hr x (List.mem_cons_of_mem _ hx));have h2:=hr c (List.mem_cons_self);simp only[List.length_cons,Nat.pow_succ];omega
 have:=this l.reverse (by simpa using h);simpa using this
theorem take_more (s:ByteArray)(i k:Nat)(h1:i<=k)(h2:k<s.size):(s.data.toList.drop i).take (k+1-i)=(s.data.toList.drop i).take (k-i)++[s[k]]:=by
 rw[show k+1-i=(k-i)+1 by omega,List.take_succ_eq_append_getElem (by simp;omega)];have e:(s.data.toList.drop i)[k-i]'(by simp;omega)=s[k]:=by
  rw[List.getElem_drop];have h3:i+(k-i)=k:=by omega
  simp only[h3];rfl
 rw[e]
theorem rtoken_end (s:ByteArray)(i:Nat)(w:World)(hs:s.size<=800)(hi:i=s.size):
  Calls Tryz.prog 77 #[.string s,.int .i64 i] w (TokPost s.data.toList i w):=by
 have hn:¬(i:Int)<s.size:=by omega
 have Ht:=hide (tok_end s.data.toList i (by simp[hi]));have hi2:i<=s.size:=by omega
 clear hi;go_enter Tryz.func77,Tryz.ntmps77;go_wp2;exact bodyPost_ret (v:=.tuple #[tokV ⟨101,[],i⟩,.int .i64 i]) (by simp[results,Tryz.results77,go_sem,tokV,PT.S,PT.N,bs]) rfl
  (tokPost_mk Ht.out rfl rfl (zN _ _) (Nat.le_refl _) (by simpa using hi2) (by simp[PT.fin]))
theorem rtoken_sign (s:ByteArray)(i:Nat)(w:World)(hs:s.size<=800)(hi:i<s.size)(hg:signB (s[i].toNat:Int)=true):
  Calls Tryz.prog 77 #[.string s,.int .i64 i] w (TokPost s.data.toList i w):=by
 have Ht:=hide (tok_sign s i hi hg);have He:=hide (ext_one s i hi);have hq:((s[i].toNat:Int)=44\/(s[i].toNat:Int)=59)\/(s[i].toNat:Int)=58:=by simpa [signB] using hg
 have Hk:Hid (s[i].toNat≠110/\s[i].toNat≠101/\s[i].toNat≠120):=by unfold Hid;omega
 have key:∀b1 b2 b3:Bool,((s[i].toNat:Int)==44)=b1->((s[i].toNat:Int)==59)=b2->((s[i].toNat:Int)==58)=b3->(b1||b2||b3)=true->Calls Tryz.prog 77 #[.string s,.int .i64 i] w (TokPost s.data.toList i w):=by
  clear hg hq;intro b1 b2 b3 h1 h2 h3 h4
  cases b1<;>cases b2<;>cases b3<;>simp at h4<;>(try clear h4)
  all_goals
   go_enter Tryz.func77,Tryz.ntmps77;go_wp2;refine bodyPost_ret (v:=.tuple #[tokV ⟨s[i].toNat,[s[i]],i⟩,.int .i64 (i+1)]) ?_ rfl
    (tokPost_mk Ht.out rfl (j:=i+1) (by omega) (zN _ _) (by omega) (by simp;omega) (by intro _;simp[PT.nx]))
   have hk:=Hk.out;simp[results,Tryz.results77,go_sem,tokV,PT.S,PT.N,He.out,hk.1]
 refine key _ _ _ rfl rfl rfl ?_;simpa [signB] using hg
theorem rtoken_word (s:ByteArray)(i:Nat)(w:World)(hs:s.size<=800)(hi:i<s.size)(hg:signB (s[i].toNat:Int)=false)(hl:zB (s[i].toNat:Int)=true):
  Calls Tryz.prog 77 #[.string s,.int .i64 i] w (TokPost s.data.toList i w):=by
 have Ht:=hide (tok_word s i hi hg hl);have hg1:((s[i].toNat:Int)==44)=false:=by simp[signB]at hg;simp[hg]
 have hg2:((s[i].toNat:Int)==59)=false:=by simp[signB]at hg;simp[hg]
 have hg3:((s[i].toNat:Int)==58)=false:=by simp[signB]at hg;simp[hg]
 clear hg;go_enter Tryz.func77,Tryz.ntmps77;go_wp2_with (go_at_call 118;refine(rIsLetter_any _ _).mono ?_;rintro e w' ⟨rfl,rfl⟩)
 go_loop [1] (fun t=>∃k:Nat,i<=k/\k<=s.size/\t=.int .i64 k/\Hid (lead zB (s.data.toList.drop i)=(k-i)+lead zB (s.data.toList.drop k))) (fun t=>s.size-(intOf t).toNat)
 case atStart=>exact⟨i,Nat.le_refl _,by omega,rfl,by simp[Hid]⟩
 case round=>
  clear hl;obtain⟨k,hk1,hk2,rfl,hld⟩:=hrel;have hend:lead zB (s.data.toList.drop k)=0->∀x:World,Below w.heap.size w x->TokPost s.data.toList i w (.returned (.tuple #[tokV ⟨119,(s.data.toList.drop i).take (k-i),i⟩,.int .i64 k])) x:=by
   intro h0 x hx;have h1:=hld.out;rw[h0]at h1;have h2:=Ht.out;rw[h1]at h2;simp only[Nat.add_zero]at h2;exact tokPost_mk h2 rfl (j:=k) rfl hx hk1 (by simpa using hk2) (by intro _;simp[PT.nx,List.length_take];omega)
  have Hend:=hide hend;clear hend;have he:s.extract i k=bs ((s.data.toList.drop i).take (k-i)):=ext_bs s i k;have He:=hide he;clear he;by_cases hlt:k<s.size
  .by_cases hp:zB (s[k].toNat:Int)=true
   .have hy:=hide (lead_yes zB s k hlt hp);go_wp2_with (go_at_call 118;refine(rIsLetter_any _ _).mono ?_;rintro e w' ⟨rfl,rfl⟩)
    go_round
    case rel=>exact⟨k+1,by omega,by omega,by go_num,by have:=hld.out;have:=unhide hy;unfold Hid;omega⟩
    case measure=>simp[intOf];omega
   .have hp':zB (s[k].toNat:Int)=false:=by simpa using hp
    have hy:=hide (lead_no zB s k hlt hp');clear hp;go_wp2_with (go_at_call 118;refine(rIsLetter_any _ _).mono ?_;rintro e w' ⟨rfl,rfl⟩);refine bodyPost_ret (v:=.tuple #[tokV ⟨119,(s.data.toList.drop i).take (k-i),i⟩,.int .i64 k]) ?_ rfl (Hend.out hy.out _ (zN _ _));simp[results,Tryz.results77,go_sem,tokV,PT.S,PT.N,He.out]
  .have hy:=hide (lead_end zB s k (by omega));go_wp2;refine bodyPost_ret (v:=.tuple #[tokV ⟨119,(s.data.toList.drop i).take (k-i),i⟩,.int .i64 k]) ?_ rfl (Hend.out hy.out _ (zN _ _));simp[results,Tryz.results77,go_sem,tokV,PT.S,PT.N,He.out]
theorem mem_lead (P:Int->Bool):∀(l:List UInt8) (n:Nat),n<=lead P l->∀c∈l.take n,P (c.toNat:Int)=true
 | [],n,_,c,h=>by simp at h
 | d::r,0,_,c,h=>by simp at h
 | d::r,n+1,hn,c,h=>by
  simp only[lead]at hn;split at hn
  .rename_i hd;rcases List.mem_cons.1 (by simpa using h) with rfl|h'
   .exact hd
   .exact mem_lead P r n (by omega) c h'
  .omega
theorem rtoken_num (s:ByteArray)(i:Nat)(w:World)(hs:s.size<=800)(hi:i<s.size)(hg:signB (s[i].toNat:Int)=false)(hl:zB (s[i].toNat:Int)=false):
  Calls Tryz.prog 77 #[.string s,.int .i64 i] w (TokPost s.data.toList i w):=by
 have Ht:=hide (tok_num s i hi hg hl);have Hx:=hide (tok_none s i hi hg hl);have hg1:((s[i].toNat:Int)==44)=false:=by simp[signB]at hg;simp[hg]
 have hg2:((s[i].toNat:Int)==59)=false:=by simp[signB]at hg;simp[hg]
 have hg3:((s[i].toNat:Int)==58)=false:=by simp[signB]at hg;simp[hg]
 clear hg;go_enter Tryz.func77,Tryz.ntmps77;go_wp2_with (go_at_call 118;refine(rIsLetter_any _ _).mono ?_;rintro e w' ⟨rfl,rfl⟩)
 go_loop [8,1] (fun n t=>∃k d:Nat,i<=k/\k<=s.size/\k<=i+5/\t=.int .i64 k/\n=.int .i64 d/\d<100000/\Hid (d=dval ((s.data.toList.drop i).take (k-i)))/\Hid (lead zD (s.data.toList.drop i)=(k-i)+lead zD (s.data.toList.drop k))) (fun _ t=>s.size-(intOf t).toNat)
 case atStart=>exact⟨i,0,Nat.le_refl _,by omega,by omega,rfl,rfl,by omega,by simp[Hid,dval],by simp[Hid]⟩
 case round=>
  clear hl;obtain⟨k,d,hk1,hk2,hk3,rfl,rfl,hdl,hdv,hld⟩:=hrel;have hfin:(lead zD (s.data.toList.drop k)=0\/k=i+5)->∀x:World,Below w.heap.size w x->
    (k=i\/k=i+5->TokPost s.data.toList i w (.returned (.tuple #[tokV ⟨120,[],i⟩,.int .i64 k])) x)/\
    (¬k=i->¬k=i+5->TokPost s.data.toList i w (.returned (.tuple #[.agg #[.int .u8 110,.string (bs []),.int .i64 d,.int .i64 i],.int .i64 k])) x):=by
   intro h0 x hx;have h1:=hld.out;constructor
   .intro h2;have h3:=Hx.out (by omega);exact tokPost_mk h3 rfl (j:=k) rfl hx hk1 (by simpa using hk2) (by simp[PT.fin])
   .intro h2 h2';have h3:=Ht.out (by omega);rw[show lead zD (s.data.toList.drop i)=k-i by omega]at h3;exact tokPost_mk h3 (by simp[tokV,PT.S,PT.N,hdv.out]) (j:=k) rfl hx hk1 (by simpa using hk2) (by intro _;simp[PT.nx,List.length_take];omega)
  have Hfin:=hide hfin;clear hfin;by_cases h5:k=i+5
  .have hz1:((k:Int)==i)=false:=by simp;omega
   have hz2:¬((k:Int)-i<5):=by omega
   have hz3:(4:Int)<(k:Int)-i:=by omega
   have H5:=hide h5;clear h5;by_cases hlt:k<s.size
   .by_cases hp:zD (s[k].toNat:Int)=true
    all_goals
     go_wp2_with (go_at_call 119;refine(rIsDigit_any _ _).mono ?_;rintro e w' ⟨rfl,rfl⟩);refine bodyPost_ret (v:=.tuple #[tokV ⟨120,[],i⟩,.int .i64 k]) ?_ rfl ((Hfin.out (.inr H5.out) _ (zN _ _)).1 (.inr H5.out));simp[results,Tryz.results77,go_sem,tokV,PT.S,PT.N,bs]
   .go_wp2;refine bodyPost_ret (v:=.tuple #[tokV ⟨120,[],i⟩,.int .i64 k]) ?_ rfl ((Hfin.out (.inr H5.out) _ (zN _ _)).1 (.inr H5.out));simp[results,Tryz.results77,go_sem,tokV,PT.S,PT.N,bs]
  .have hk5:k<i+5:=by omega
   clear h5;by_cases hyes:∃h:k<s.size,zD (s[k].toNat:Int)=true
   .obtain⟨hlt,hp⟩:=hyes;have hy:=hide (lead_yes zD s k hlt hp);have htm:=hide (take_more s i k hk1 hlt);have hb:(48:Int)<=(s[k].toNat:Int)/\(s[k].toNat:Int)<=57:=by simpa [zD] using hp
    have hdd:Hid (dval ((s.data.toList.drop i).take (k+1-i))=10*d+(s[k].toNat-48)):=by
     unfold Hid;rw[htm.out,dval_snoc,←hdv.out]
    have hd5:10*d+(s[k].toNat-48)<100000:=by
     have h1:=dval_lt ((s.data.toList.drop i).take (k+1-i)) (by
      intro c hc;have:=mem_lead zD (s.data.toList.drop i) (k+1-i) (by have:=hld.out;have:=unhide hy;omega) c hc;simp[zD]at this;omega)
     rw[hdd.out]at h1;have h2:((s.data.toList.drop i).take (k+1-i)).length<=5:=by simp;omega
     have h3:10 ^ ((s.data.toList.drop i).take (k+1-i)).length<=10 ^ 5:=Nat.pow_le_pow_right (by omega) h2;omega
    obtain⟨hb1,hb2⟩:=hb;go_wp2_with (go_at_call 119;refine(rIsDigit_any _ _).mono ?_;rintro e w' ⟨rfl,rfl⟩)
    go_round
    case rel=>exact⟨k+1,10*d+(s[k].toNat-48),by omega,by omega,by omega,by go_num,by go_num,hd5,by rw[hdd.out];rfl,by have:=hld.out;have:=unhide hy;unfold Hid;omega⟩
    case measure=>simp[intOf];omega
   .have h0:lead zD (s.data.toList.drop k)=0:=by
     by_cases hlt:k<s.size
     .exact lead_no zD s k hlt (by
       cases hq:zD (s[k].toNat:Int)
       .rfl
       .exact absurd ⟨hlt,hq⟩ hyes)
     .exact lead_end zD s k (by omega)
    have H0:=hide h0;clear h0;have Hk:=hide hk5;by_cases hki:k=i
    .have hz1:((k:Int)==i)=true:=by simp;omega
     have Hki:=hide hki;clear hki;by_cases hlt:k<s.size
     .have hp:zD (s[k].toNat:Int)=false:=by
       cases hq:zD (s[k].toNat:Int)
       .rfl
       .exact absurd ⟨hlt,hq⟩ hyes
      clear hyes;go_wp2_with (go_at_call 119;refine(rIsDigit_any _ _).mono ?_;rintro e w' ⟨rfl,rfl⟩);refine bodyPost_ret (v:=.tuple #[tokV ⟨120,[],i⟩,.int .i64 k]) ?_ rfl ((Hfin.out (.inl H0.out) _ (zN _ _)).1 (.inl Hki.out));simp[results,Tryz.results77,go_sem,tokV,PT.S,PT.N,bs]
     .clear hyes;go_wp2;refine bodyPost_ret (v:=.tuple #[tokV ⟨120,[],i⟩,.int .i64 k]) ?_ rfl ((Hfin.out (.inl H0.out) _ (zN _ _)).1 (.inl Hki.out));simp[results,Tryz.results77,go_sem,tokV,PT.S,PT.N,bs]
    .have hz1:((k:Int)==i)=false:=by simp;omega
     have hz3:¬(4:Int)<(k:Int)-i:=by omega
     have Hki:=hide hki;clear hki;by_cases hlt:k<s.size
     .have hp:zD (s[k].toNat:Int)=false:=by
       cases hq:zD (s[k].toNat:Int)
       .rfl
       .exact absurd ⟨hlt,hq⟩ hyes
      clear hyes;go_wp2_with (go_at_call 119;refine(rIsDigit_any _ _).mono ?_;rintro e w' ⟨rfl,rfl⟩);refine bodyPost_ret (v:=.tuple #[.agg #[.int .u8 110,.string (bs []),.int .i64 d,.int .i64 i],.int .i64 k]) ?_ rfl ((Hfin.out (.inl H0.out) _ (zN _ _)).2 Hki.out (by have:=Hk.out;omega));simp[results,Tryz.results77,go_sem,bs]
     .clear hyes;go_wp2;refine bodyPost_ret (v:=.tuple #[.agg #[.int .u8 110,.string (bs []),.int .i64 d,.int .i64 i],.int .i64 k]) ?_ rfl ((Hfin.out (.inl H0.out) _ (zN _ _)).2 Hki.out (by have:=Hk.out;omega));simp[results,Tryz.results77,go_sem,bs]
theorem rtoken_any (s:ByteArray)(i:Nat)(w:World)(hs:s.size<=800)(hi:i<=s.size):
  Calls Tryz.prog 77 #[.string s,.int .i64 i] w (TokPost s.data.toList i w):=by
 by_cases h1:i=s.size
 .exact rtoken_end s i w hs h1
 .have h2:i<s.size:=by omega
  cases hg:signB (s[i].toNat:Int)
  .cases hl:zB (s[i].toNat:Int)
   .exact rtoken_num s i w hs h2 hg hl
   .exact rtoken_word s i w hs h2 hg hl
  .exact rtoken_sign s i w hs h2 hg
end
end Go.Proofs.YtbdffcjganlblaaGreatDoor
