import Derived.Test.YtbdffcjganlblaaGreatDoorATbAtoTbD
import Derived.Test.YtbdffcjganlblaaGreatDoorARnDtoTabD
import Derived.Deep.DeepCutAuto
import Derived.RegionDies
import Derived.Test.YtbdffcjganlblaaGreatDoorAProgDtoProgE
import Derived.Defers
import Derived.Recover
set_option linter.unusedVariables false
set_option linter.unusedSimpArgs false
set_option maxRecDepth 100000
set_option maxHeartbeats 16000000
namespace Go.Proofs.YtbdffcjganlblaaGreatDoor
section
open Go.RowKit
structure BR (w:World) (b:Nat) (r:List UInt8):Prop where
 h:w.heap[b]? =some (.cells #[.string (bs r)] 158 (0,0))
 n:r.length<=1000
section
variable {w:World} {b:Nat} {r:List UInt8}
theorem BR.keep {w':World}(h:BR w b r)(hb:w'.heap[b]? =w.heap[b]?):BR w' b r:=⟨by rw[hb];exact h.h,h.n⟩
theorem BR.alloc (h:BR w b r)(o:Obj):BR (w.alloc o) b r:=h.keep (Below.heap_alloc _ _ _ (zL h.h))
theorem BR.set (h:BR w b r){X:Nat}(hX:b≠X)(o:Nat)(v:Value):BR (w.setCell ⟨X,o,none⟩ v) b r:=h.keep (Below.heap_setCell _ _ _ _ hX)
def BOut (b:Nat) (r:List UInt8) (K:IntKind) (w:World) (en:Ending) (w':World):Prop:=
 w.grownBy w' (some b)/\((r=[]/\en=pan 8 0)\/(∃c r',r=c::r'/\BR w' b r'/\en=.returned (.int K (c.toNat:Int))))
theorem btake_any (h:BR w b r):Calls Tryz.prog 145 #[.pointer (some ⟨b,0,none⟩)] w (BOut b r .u8 w):=by
 have x0:w.cell? ⟨b,0,none⟩=some (.string (bs r)):=zC h.h 0;have xf:=zF h.h 0;have H:=hide h;have hn:=h.n;clear h
 cases r with
 | nil=>
  have he:(bs []).toList.isEmpty=true:=by rw[ByteArray.toList_eq,bs_data];rfl
  go_enter Tryz.func145,Tryz.ntmps145;go_wp2_with fail;refine(refuse_any 8 0 _ rfl _).mono ?_;rintro e w' ⟨rfl,rfl⟩;exact⟨rfl,zI _ _,.inl ⟨rfl,rfl⟩⟩
 | cons c r'=>
  have hne:((bs (c::r')).toList==[])=false:=by rw[ByteArray.toList_eq,bs_data];rfl
  have hz:(bs (c::r')).size=r'.length+1:=by rw[bs_size];rfl
  have hc0:∀h,(bs (c::r'))[0]'h=c:=fun h=>rfl;have hex:(bs (c::r')).extract 1 (r'.length+1)=bs r':=by
   rw[ext_bs,bs_data];congr 1;simp
  have hset:Hid (BR (w.setCell ⟨b,0,none⟩ (.string (bs r'))) b r'):=⟨by rw[zS H.out.h];rfl,by simp at hn;omega⟩;simp only[List.length_cons]at hn;generalize bs (c::r')=R at *;have hR1:0<R.size:=by omega
  go_enter Tryz.func145,Tryz.ntmps145;go_wp2;go_ret;exact⟨zE (zI _ _) _ _,.inr ⟨c,r',rfl,hset.out,rfl⟩⟩
theorem bnum_any (h:BR w b r):Calls Tryz.prog 109 #[.pointer (some ⟨b,0,none⟩)] w (BOut b r .i64 w):=by
 go_enter Tryz.func109,Tryz.ntmps109;go_wp2_with fail;refine(btake_any h).mono ?_;rintro e w1 ⟨hg,⟨h0,rfl⟩|⟨c,r',h0,h1,rfl⟩⟩
 .exact⟨rfl,hg,.inl ⟨h0,rfl⟩⟩
 .have hc:=UInt8.toNat_lt c;have Hg:=hide hg;have H0:=hide h0;have H1:=hide h1;clear hg h0 h1 h;go_wp2;go_ret;exact⟨Hg.out,.inr ⟨c,r',H0.out,H1.out,rfl⟩⟩
structure Sq (w wk:World) (c d:Array Value) (b:Nat) (r:List UInt8):Prop where
 br:BR wk b r
 hx:wk.heap[w.heap.size+1]? =some (.cells c 106 (0,0))
 hy:wk.heap[w.heap.size]? =some (.cells d 106 (0,0))
 g:w.grownBy wk (some b)
 hb:b<w.heap.size
theorem Sq.start (h:BR w b r)(c d:Array Value):Sq w ((w.alloc (.cells d 106)).alloc (.cells c 106)) c d b r:=
 ⟨(h.alloc _).alloc _,by simpa using zW (w.alloc (.cells d 106)) c 106,
  by rw[Below.heap_alloc _ _ _ (by simp)];exact zW w d 106,grownBy_alloc' (World.grownBy_alloc _ _ _) _,zL h.h⟩
theorem Sq.set {wk:World}{c d:Array Value}(h:Sq w wk c d b r)(o:Nat)(v:Value){c':Array Value}(hc:c.setIfInBounds o v=c'):Sq w (wk.setCell ⟨w.heap.size+1,o,none⟩ v) c' d b r:=by
 have hb:=h.hb;refine⟨h.br.set (by omega) o v,?_,?_,zG h.g (by omega) o v,hb⟩
 .rw[zS h.hx o v,hc]
 .rw[Below.heap_setCell _ _ _ _ (by show w.heap.size≠w.heap.size+1;omega)];exact h.hy
theorem Sq.call {wk:World}{c d:Array Value}{w':World}{r':List UInt8}(h:Sq w wk c d b r)(p:BR w' b r')(g:wk.grownBy w' (some b)):Sq w w' c d b r':=by
 have hb:=h.hb;exact⟨p,by rw[g.block _ (zL h.hx) (by simp;omega)];exact h.hx,by rw[g.block _ (zL h.hy) (by simp;omega)];exact h.hy,zR h.g g,hb⟩
theorem Sq.cells {wk:World}{c d:Array Value}(h:Sq w wk c d b r):(∀o,wk.cell? ⟨w.heap.size+1,o,none⟩=c[o]?)/\(∀o,wk.frozen? ⟨w.heap.size+1,o,none⟩=false)/\(∀o,wk.cell? ⟨w.heap.size,o,none⟩=d[o]?)/\(∀o,wk.frozen? ⟨w.heap.size,o,none⟩=false):=
 ⟨zC h.hx,zF h.hx,zC h.hy,zF h.hy⟩
def BsOut (b:Nat) (r:List UInt8) (w:World) (en:Ending) (w':World):Prop:=
 w.grownBy w' (some b)/\((r.length<3/\en=pan 8 0)\/(∃x y z r',r=x::y::z::r'/\BR w' b r'/\en=.returned (.agg #[.int .u8 (x.toNat:Int),.int .i64 (y.toNat:Int),.int .i64 (z.toNat:Int)])))
theorem bslice_any (h:BR w b r):Calls Tryz.prog 146 #[.pointer (some ⟨b,0,none⟩)] w (BsOut b r w):=by
 have S0:=Sq.start h #[.int .u8 0,.int .i64 0,.int .i64 0] #[.int .u8 0,.int .i64 0,.int .i64 0];clear h;go_enter Tryz.func146,Tryz.ntmps146;go_wp2_with fail;refine(btake_any S0.br).mono ?_;rintro e w1 ⟨hg,⟨h0,rfl⟩|⟨x,r1,h0,h1,rfl⟩⟩
 .exact⟨rfl,zR S0.g hg,.inl ⟨by rw[h0];simp,rfl⟩⟩
 have F1:=hide h0;have S1:=S0.call h1 hg;obtain⟨x1,x2,x3,x4⟩:=S1.cells;clear hg h0 h1 S0;go_wp2_with fail;have S1:=S1.set 0 (.int .u8 (x.toNat:Int)) (c':=#[.int .u8 (x.toNat:Int),.int .i64 0,.int .i64 0]) rfl;clear x1 x2 x3 x4;refine(bnum_any S1.br).mono ?_;rintro e w2 ⟨hg,⟨h0,rfl⟩|⟨y,r2,h0,h1,rfl⟩⟩
 .exact⟨rfl,zR S1.g hg,.inl ⟨by rw[F1.out,h0];simp,rfl⟩⟩
 have F2:=hide h0;have S2:=S1.call h1 hg;obtain⟨x1,x2,x3,x4⟩:=S2.cells;clear hg h0 h1 S1;go_wp2_with fail;have S2:=S2.set 1 (.int .i64 (y.toNat:Int)) (c':=#[.int .u8 (x.toNat:Int),.int .i64 (y.toNat:Int),.int .i64 0]) rfl;clear x1 x2 x3 x4;refine(bnum_any S2.br).mono ?_;rintro e w3 ⟨hg,⟨h0,rfl⟩|⟨z,r3,h0,h1,rfl⟩⟩
 .exact⟨rfl,zR S2.g hg,.inl ⟨by rw[F1.out,F2.out,h0];simp,rfl⟩⟩
 have F3:=hide h0;have S3:=S2.call h1 hg;obtain⟨x1,x2,x3,x4⟩:=S3.cells;clear hg h0 h1 S2;have hbb:=S3.hb;have S3':=hide (S3.set 2 (.int .i64 (z.toNat:Int)) (c':=#[.int .u8 (x.toNat:Int),.int .i64 (y.toNat:Int),.int .i64 (z.toNat:Int)]) rfl);clear S3;go_wp2;refine bodyPost_ret (v:=.agg #[.int .u8 (x.toNat:Int),.int .i64 (y.toNat:Int),.int .i64 (z.toNat:Int)]) (by simp[results,Tryz.results146,go_sem,x3]) rfl ⟨?_,.inr ⟨x,y,z,r3,by rw[F1.out,F2.out,F3.out],?_,rfl⟩⟩
 .have Y:∀(wz:World) (o:Nat) (v:Value),w.grownBy wz (some b)->w.grownBy (wz.setCell ⟨w.heap.size,o,none⟩ v) (some b):=fun wz o v hz=>zG hz (Nat.le_refl _) o v;exact Y _ _ _ (Y _ _ _ (Y _ _ _ S3'.out.g))
 .have Y:∀(wz:World) (o:Nat) (v:Value),BR wz b r3->BR (wz.setCell ⟨w.heap.size,o,none⟩ v) b r3:=fun wz o v hz=>hz.set (by omega) o v;exact Y _ _ _ (Y _ _ _ (Y _ _ _ S3'.out.br))
end
theorem bSl_short {n:Nat}{r:List UInt8}(h:r.length<3):bSl (n+1) r=none:=by
 match r,h with
 | [],_=>rfl
 | [a],_=>rfl
 | [a,b],_=>rfl
structure FB (w wk:World) (b:Nat) (r:List UInt8) (v:Value) (n:Nat) (xs:List Value):Prop where
 br:BR wk b r
 ow:wk.ownsRow w.heap.size 106 3 v n xs
 g:w.grownBy wk (some b)
 hb:b<w.heap.size
section
variable {w wk:World} {b:Nat} {r:List UInt8} {v:Value} {n:Nat} {xs:List Value}
theorem FB.call (h:FB w wk b r v n xs){w':World}{r':List UInt8}(p:BR w' b r')(g:wk.grownBy w' (some b)):FB w w' b r' v n xs:=
 ⟨p,h.ow.kept g (.inr (own_ge h.ow h.hb)),zR h.g g,h.hb⟩
theorem FB.push (h:FB w wk b r v n xs){o:Obj}{w2:World}{v':Value}{news:List Value}{m:Nat}(hg:(wk.alloc o).grownBy w2 v.ownBlock)(hown:w2.ownsRow w.heap.size 106 3 v' m news):FB w w2 b r v' m news:=by
 have hb:=h.hb;have hsz:=h.g.size;refine⟨h.br.keep ?_,hown,?_,hb⟩
 .rw[hg.block b (by simp;omega) (fun e=>own_ge h.ow hb e.symm),Below.heap_alloc _ _ _ (by omega)]
 .have ha:=grownBy_alloc' h.g o;refine⟨hg.os.trans ha.os,hg.tape.trans ha.tape,hg.output.trans ha.output,Nat.le_trans ha.size hg.size,fun k hk hne=>?_⟩;rw[hg.block k (by simp;omega) (fun e=>own_ge h.ow hk e.symm)];exact ha.block k hk hne
def bFrame:List UInt8->Option (List Sl×List UInt8)
 | []=>none
 | c::r=>bSl c.toNat r
def FbOut (b:Nat) (r:List UInt8) (w:World) (en:Ending) (w':World):Prop:=
 w.grownBy w' (some b)/\((bFrame r=none/\en=pan 8 0)\/(∃f r' a c,bFrame r=some (f,r')/\BR w' b r'/\en=.returned (.slice a f.length c)/\w'.ownsRow w.heap.size 106 3 (.slice a f.length c) f.length (slPs f)))
theorem bframe_any (h:BR w b r):Calls Tryz.prog 110 #[.pointer (some ⟨b,0,none⟩)] w (FbOut b r w):=by
 obtain⟨i0,hi0,hz0,hz1,hz2⟩:=info_parts Tryz.infoPSl;have hlt:=zL h.h;go_enter Tryz.func110,Tryz.ntmps110;go_wp2_with fail;refine(bnum_any h).mono ?_;rintro e w1 ⟨hg,⟨rfl,rfl⟩|⟨c,r1,rfl,h1,rfl⟩⟩
 .exact⟨rfl,hg,.inl ⟨rfl,rfl⟩⟩
 have hc:=UInt8.toNat_lt c;have F0:Hid (FB w w1 b r1 (.slice none 0 0) 0 []):=⟨h1,World.ownsRow_nil _ _ _ _,hg,hlt⟩;clear hg h1 h;generalize hcn:c.toNat=n at *;have Hcn:=hide hcn;clear hcn;go_wp2_with fail
 go_loopw [3,6] (fun v i wr=>∃(f:List Sl) (r2:List UInt8),f.length<=n/\i=.int .i64 f.length/\FB w wr b r2 v f.length (slPs f)/\bSl n r1=(match bSl (n-f.length) r2 with|none=>none|some (g,r')=>some (f++g,r'))) (fun _ i _=>300-(intOf i).toNat)
 case atStart=>exact⟨[],r1,by simp,rfl,F0.out,by rw[List.length_nil,Nat.sub_zero];cases bSl n r1<;>simp⟩
 case round=>
  clear F0;obtain⟨f,r2,hk,rfl,hF,hR⟩:=hrel;obtain⟨va,vc,rfl⟩:=own_slice hF.ow;have HF:=hide hF;by_cases hkn:f.length<n
  .have hkn':(f.length:Int)<n:=by omega
   have HR:=hide hR;clear hR;go_wp2_with fail;refine(bslice_any hF.br).mono ?_;rintro e w2 ⟨hg,⟨h0,rfl⟩|⟨x,y,z,r3,rfl,h1,rfl⟩⟩
   .refine⟨rfl,zR HF.out.g hg,.inl ⟨?_,rfl⟩⟩;show bSl c.toNat r1=none;rw[Hcn.out,HR.out,show n-f.length=(n-f.length-1)+1 by omega,bSl_short h0]
   have H2:=hide (HF.out.call h1 hg);have hws:=H2.out.g.size;have ow2:=H2.out.ow;have hR2:Hid (bSl n r1=(match bSl (n-(f.length+1)) r3 with|none=>none|some (g,r')=>some ((f++[⟨x,y.toNat,z.toNat⟩])++g,r'))):=by
    unfold Hid;rw[HR.out,show n-f.length=(n-(f.length+1))+1 by omega,bSl]
    cases bSl (n-(f.length+1)) r3<;>simp
   clear hg h1 hF HF HR;go_wp2_with (at_builtin;refine wpList_append_own _ rfl _ _ 104 rfl w.heap.size 106 i0 _ 3 24 Tryz.underlying104 hi0 hz0 hz1 hz2 rfl (by decide) _ _ _ rfl (ow2.alloc _) ⟨w2.heap.size,0,none⟩ 1 1 (slP ⟨x,y.toNat,z.toNat⟩) rfl rfl ?c1 ?c2 ?c3 ?c4 ?c5 ?_)
   case c1=>exact cells_new w2 #[_,_,_] _ _ rfl
   case c2=>simp[slP,Value.oneCell']
   case c3=>unfold maxLen;omega
   case c4=>omega
   case c5=>simp;omega
   intro v' w4 hown4 hgr _;have S4:=H2.out.push hgr hown4;have hsl:slPs f++slP ⟨x,y.toNat,z.toNat⟩=slPs (f++[⟨x,y.toNat,z.toNat⟩]):=by
    unfold slPs;rw[List.flatMap_append];simp
   rw[hsl]at S4;obtain⟨va',vc',rfl⟩:=own_slice S4.ow;have H4:=hide S4;clear hown4 hgr ow2 H2 hsl S4;go_wp2;go_roundw
   case rel=>exact⟨f++[⟨x,y.toNat,z.toNat⟩],r3,by simp;omega,by simp,by simpa using H4.out,by simpa using hR2.out⟩
   case measure=>simp[intOf];omega
  .have hkn':¬(f.length:Int)<n:=by omega
   have hfin:Hid (bFrame (c::r1)=some (f,r2)):=by
    unfold Hid;show bSl c.toNat r1=_;rw[Hcn.out,hR,show n-f.length=0 by omega,bSl];simp
   clear hR hF;go_wp2;go_ret;exact⟨HF.out.g,.inr ⟨f,r2,va,vc,hfin.out,HF.out.br,rfl,HF.out.ow⟩⟩
end
section
variable {w wk:World} {b:Nat} {r:List UInt8}
theorem bframe_bad (h:BR w b r)(hd:bFrame r=none):Calls Tryz.prog 110 #[.pointer (some ⟨b,0,none⟩)] w fun en w'=>en=pan 8 0/\w.grownBy w' (some b):=
 (bframe_any h).mono fun en w' h'=>by
  obtain⟨hg,⟨_,rfl⟩|⟨f,r',a,c,h1,_⟩⟩:=h'
  .exact⟨rfl,hg⟩
  .rw[hd]at h1;simp at h1
theorem bframe_good (h:BR w b r){f:List Sl}{r':List UInt8}(hl:bFrame r=some (f,r')):Calls Tryz.prog 110 #[.pointer (some ⟨b,0,none⟩)] w fun en w'=>∃a c,en=.returned (.slice a f.length c)/\BR w' b r'/\w.grownBy w' (some b)/\w'.ownsRow w.heap.size 106 3 (.slice a f.length c) f.length (slPs f):=
 (bframe_any h).mono fun en w' h'=>by
  obtain⟨hg,⟨h1,_⟩|⟨f2,r2,a,c,h1,h2,rfl,h3⟩⟩:=h'
  .rw[hl]at h1;simp at h1
  .rw[hl]at h1;simp at h1;obtain⟨rfl,rfl⟩:=h1;exact⟨a,c,rfl,h2,hg,h3⟩
end
structure TVb (w wk:World) (b X:Nat) (r:List UInt8) (c f:Nat) (fv:Value) (P:List (Value×List Sl)):Prop where
 br:BR wk b r
 hy:wk.heap[w.heap.size]? =some (.cells ptZ 61 (0,0))
 hx:wk.heap[X]? =some (.cells #[.int .i64 c,.int .i64 f,fv] 61 (0,0))
 fm:FrM wk (b+1) fv P
 g:w.grownBy wk none
 h1:w.heap.size<b
 h2:b<X
section
variable {w wk:World} {b X:Nat} {r:List UInt8} {c f:Nat} {fv:Value} {P:List (Value×List Sl)}
theorem TVb.call (h:TVb w wk b X r c f fv P){w':World}{r':List UInt8}(p:BR w' b r')(g:wk.grownBy w' (some b)):TVb w w' b X r' c f fv P:=by
 have h1:=h.h1;have h2:=h.h2;refine⟨p,?_,?_,h.fm.kept g (fun k hk=>.inl (by simp at hk;omega)),grownBy_new h.g g (by omega),h1,h2⟩
 .rw[g.block _ (zL h.hy) (by simp;omega)];exact h.hy
 .rw[g.block _ (zL h.hx) (by simp;omega)];exact h.hx
theorem TVb.cells (h:TVb w wk b X r c f fv P):wk.cell? ⟨X,0,none⟩=some (.int .i64 c)/\wk.cell? ⟨X,1,none⟩=some (.int .i64 f)/\wk.cell? ⟨X,2,none⟩=some fv/\(∀o,wk.frozen? ⟨X,o,none⟩=false)/\(∀o,wk.cell? ⟨w.heap.size,o,none⟩=#[Value.int .i64 0,.int .i64 0,.slice none 0 0][o]?)/\(∀o,wk.frozen? ⟨w.heap.size,o,none⟩=false):=
 ⟨by rw[zC h.hx];rfl,by rw[zC h.hx];rfl,by rw[zC h.hx];rfl,zF h.hx,zC h.hy,zF h.hy⟩
theorem TVb.set (h:TVb w wk b X r c f fv P)(o:Nat)(v:Value){c' f':Nat}(hc:(#[Value.int .i64 c,.int .i64 f,fv].setIfInBounds o v)=#[.int .i64 c',.int .i64 f',fv]):TVb w (wk.setCell ⟨X,o,none⟩ v) b X r c' f' fv P:=by
 have h1:=h.h1;have h2:=h.h2;refine⟨h.br.set (by omega) o v,?_,by rw[zS h.hx,hc],h.fm.kept (zE (k:=X) (zI _ _) o v) (fun k hk=>.inr ?_),zG h.g (by omega) o v,h1,h2⟩
 .rw[Below.heap_setCell _ _ _ _ (by show w.heap.size≠X;omega)];exact h.hy
 .simp at hk;subst hk;exact⟨_,_,h.hx,by decide,by decide⟩
theorem TVb.grow (h:TVb w wk b X r c f fv P){o1:Obj}{w2:World}(hg:(wk.alloc o1).grownBy w2 fv.ownBlock):w2.heap[X]? =some (.cells #[.int .i64 c,.int .i64 f,fv] 61 (0,0)):=by
 have hX:=zL h.hx;rw[hg.block X (by simp;omega) (fun e=>own_type h.fm.1 h.hx (by decide) e.symm),Below.heap_alloc _ _ _ hX];exact h.hx
theorem TVb.push (h:TVb w wk b X r c f fv P){o1:Obj}{w2:World}{v fv':Value}{l:List Sl}(hv:wk.ownsRow (b+1) 106 3 v l.length (slPs l))(hg:(wk.alloc o1).grownBy w2 fv.ownBlock)(hown:w2.ownsRow (b+1) 104 1 fv' (P.length+1) (P.map Prod.fst++[v])):
  TVb w (w2.setCell ⟨X,2,none⟩ fv') b X r c f fv' (P++[(v,l)]):=by
 have h1:=h.h1;have h2:=h.h2;have hX:=zL h.hx;have hX2:=h.grow hg;have hlow:∀k,k<b+1->fv.ownBlock≠some k:=fun k hk=>own_ge h.fm.1 hk;have hblk:∀k,k<b+1->w2.heap[k]? =wk.heap[k]? := by
  intro k hk;rw[hg.block k (by simp;omega) (fun e=>hlow k hk e.symm),Below.heap_alloc _ _ _ (by omega)]
 have fm1:FrM (wk.alloc o1) (b+1) fv P:=h.fm.kept (World.grownBy_alloc wk o1 none) (fun k hk=>by simp at hk);have fm2:=fm1.push (l:=l) (hv.alloc o1) hg hown;refine⟨(h.br.keep (hblk b (by omega))).set (by omega) 2 fv',?_,?_,fm2.kept (zE (k:=X) (zI _ _) 2 fv') (fun k hk=>.inr ?_),?_,h1,h2⟩
 .rw[Below.heap_setCell _ _ _ _ (by show w.heap.size≠X;omega),hblk _ (by omega)];exact h.hy
 .rw[zS hX2];rfl
 .simp at hk;subst hk;exact⟨_,_,hX2,by decide,by decide⟩
 .have hgw:w.grownBy w2 none:=by
   have ha:=grownBy_alloc' h.g o1;refine⟨hg.os.trans ha.os,hg.tape.trans ha.tape,hg.output.trans ha.output,Nat.le_trans ha.size hg.size,fun k hk hne=>?_⟩;rw[hg.block k (by have:=ha.size;omega) (fun e=>hlow k (by omega) e.symm)];exact ha.block k hk hne
  exact zG hgw (by omega) _ _
end
theorem tv_start (w:World)(l:List UInt8)(hl:l.length<=1000):TVb w (((w.alloc (.cells ptZ 61)).alloc (.cells #[.string (bs l)] 158)).alloc (.cells #[.int .i64 0,.int .i64 0,.slice none 0 0] 61)) (w.heap.size+1) (w.heap.size+1+1) l 0 0 (.slice none 0 0) []:=by
 have hb:=zW (w.alloc (.cells ptZ 61)) #[.string (bs l)] 158;simp only[World.size_alloc]at hb;have hx:=zW ((w.alloc (.cells ptZ 61)).alloc (.cells #[.string (bs l)] 158)) #[.int .i64 0,.int .i64 0,.slice none 0 0] 61;simp only[World.size_alloc]at hx;refine⟨⟨by rw[Below.heap_alloc _ _ _ (by simp)];exact hb,hl⟩,?_,hx,FrM.nil _ _,grownBy_alloc' (grownBy_alloc' (World.grownBy_alloc _ _ _) _) _,by omega,by omega⟩;rw[Below.heap_alloc _ _ _ (by simp;omega),Below.heap_alloc _ _ _ (by simp)];exact zW _ _ _
def PbOut (l:List UInt8) (w:World) (en:Ending) (w':World):Prop:=
 Below w.heap.size w w'/\((en=pan 8 0/\bTab l=none)\/
  (∃(t:Tb) (P:List (Value×List Sl)) (a:Option Addr) (c:Nat),bTab l=some t/\t.fs=P.map Prod.snd/\P.length<=1000/\en=.returned (.agg #[.int .i64 t.cyc,.int .i64 t.fr,.slice a P.length c])/\FrM w' w.heap.size (.slice a P.length c) P))
def BfR (r0 r:List UInt8) (fs:List (List Sl)):Prop:=fs.length+r.length<=r0.length/\bFr r0=(match bFr r with|none=>none|some gs=>some (fs++gs))
theorem bfR_more {r0 r r':List UInt8}{fs:List (List Sl)}{f:List Sl}(h:BfR r0 r fs)(hp:bFrame r=some (f,r')):BfR r0 r' (fs++[f]):=by
 match r,hp with
 | c::r1,hp=>
  have hp':bSl c.toNat r1=some (f,r'):=hp;have hl:=bSl_len hp';refine⟨by have:=h.1;simp at this ⊢;omega,?_⟩;rw[h.2,bFr_on hp']
  cases bFr r'<;>simp
theorem bfR_dead {r0 r:List UInt8}{fs:List (List Sl)}(h:BfR r0 r fs)(hne:r≠[])(hp:bFrame r=none):bFr r0=none:=by
 match r,hne,hp with
 | c::r1,_,hp=>
  rw[h.2,bFr_no hp]
theorem parseBody_any (l:List UInt8)(w:World)(hl:l.length<=1000):
  Calls Tryz.prog 69 #[.string (bs l)] w (PbOut l w):=by
 obtain⟨it,hti,htz0,htz1,htz2⟩:=info_parts Tryz.infoPFr;have T0:=tv_start w l hl;go_enter Tryz.func69,Tryz.ntmps69;go_wp2_with fail;refine(bnum_any T0.br).mono ?_;rintro e w1 ⟨hg,⟨rfl,rfl⟩|⟨c,r1,rfl,h1,rfl⟩⟩
 .exact⟨rfl,below_grown (grownBy_new T0.g hg (Nat.le_of_lt T0.h1)),.inl ⟨rfl,rfl⟩⟩
 have T1:=T0.call h1 hg;clear hg h1 T0;generalize w.heap.size+1+1=X at *;generalize w.heap.size+1=b at *;obtain⟨x0,x1,x2,xf,y0,yf⟩:=T1.cells;go_wp2_with fail;clear x0 x1 x2 xf y0 yf;have T1:=T1.set 0 (.int .i64 (c.toNat:Int)) (c':=c.toNat) (f':=0) rfl;refine(bnum_any T1.br).mono ?_;rintro e w2 ⟨hg,⟨rfl,rfl⟩|⟨f,r2,rfl,h1,rfl⟩⟩
 .exact⟨rfl,below_grown (grownBy_new T1.g hg (Nat.le_of_lt T1.h1)),.inl ⟨rfl,rfl⟩⟩
 have T2:=T1.call h1 hg;clear hg h1 T1;obtain⟨x0,x1,x2,xf,y0,yf⟩:=T2.cells;have T3:=hide (T2.set 1 (.int .i64 (f.toNat:Int)) (c':=c.toNat) (f':=f.toNat) rfl);have hbt:Hid (bTab (c::f::r2)=(match bFr r2 with|none=>none|some fs=>some ⟨c.toNat,f.toNat,fs⟩)):=rfl;have hr2:r2.length<=998:=by simp at hl;omega
 clear T2 hl;go_wp2_with fail;clear x0 x1 x2 xf y0 yf
 go_loopw [14] (fun _ wr=>∃(r:List UInt8) (P:List (Value×List Sl)) (fv:Value),TVb w wr b X r c.toNat f.toNat fv P/\BfR r2 r (P.map Prod.snd)) (fun _ wr=>1100-lenOf (wr.cell? ⟨X,2,none⟩))
 case atStart=>exact⟨r2,[],_,T3.out,by simp,by cases bFr r2<;>simp⟩
 case round=>
  clear T3;obtain⟨r,P,fv,hT,hR⟩:=hrel;obtain⟨fa,fc,rfl⟩:=own_slice hT.fm.1;have hPl:P.length<=998:=by have:=hR.1;simp at this;omega
  have HL:Hid (lenOf (wr.cell? ⟨X,2,none⟩)=P.length):=by
   unfold Hid;rw[hT.cells.2.2.1];rfl
  obtain⟨x0,x1,x2,xf,y0,yf⟩:=hT.cells;have b0:wr.cell? ⟨b,0,none⟩=some (.string (bs r)):=zC hT.br.h 0;have HT:=hide hT;have HR:=hide hR;clear hR hT;by_cases hre:r=[]
  .have he:(bs r).toList.isEmpty=true:=by rw[hre,ByteArray.toList_eq,bs_data];rfl
   have hend:Hid (bTab (c::f::r2)=some ⟨c.toNat,f.toNat,P.map Prod.snd⟩):=by
    unfold Hid;have:=HR.out.2;rw[hre,bFr_nil]at this;rw[hbt.out,this];simp
   have h1:=HT.out.h1;have h2:=HT.out.h2;have hne1:¬w.heap.size=X:=by omega
   have hne2:¬X=w.heap.size:=by omega
   clear hre;go_wp2;refine bodyPost_ret (v:=.agg #[.int .i64 c.toNat,.int .i64 f.toNat,.slice fa P.length fc]) (by simp[results,Tryz.results69,go_sem,y0]) rfl ⟨?_,.inr ⟨⟨c.toNat,f.toNat,P.map Prod.snd⟩,P,fa,fc,hend.out,rfl,by omega,rfl,?_⟩⟩
   .exact below_grown (zG (zG (zG HT.out.g (Nat.le_refl _) _ _) (Nat.le_refl _) _ _) (Nat.le_refl _) _ _)
   .have K:∀(W:World) (o:Nat) (v:Value),FrM W (b+1) (.slice fa P.length fc) P->FrM (W.setCell ⟨w.heap.size,o,none⟩ v) (b+1) (.slice fa P.length fc) P:=fun W o v h=>h.kept (zE (k:=w.heap.size) (zI _ _) o v) (fun k hk=>.inl (by simp at hk;omega));have h3:=K _ 2 (.slice fa P.length fc) (K _ 1 (.int .i64 f.toNat) (K _ 0 (.int .i64 c.toNat) HT.out.fm));exact⟨own_weak h3.1 (by omega),fun p hp=>own_weak (h3.2 p hp) (by omega)⟩
  .have he:(bs r).toList.isEmpty=false:=by
    rw[ByteArray.toList_eq,bs_data]
    cases r with
    | nil=>exact absurd rfl hre
    | cons a q=>rfl
   have Hre:=hide hre;clear hre;go_wp2_with fail
   cases hd:bFrame r with
   | none=>
    have hno:Hid (bTab (c::f::r2)=none):=by
     unfold Hid;rw[hbt.out,bfR_dead HR.out Hre.out hd]
    have Hd:=hide hd;have Hdr:Hid (BR wr.drew b r):=HT.out.br.keep rfl;clear hd
    go_region_dies
    all_goals
     refine(bframe_bad Hdr.out Hd.out).mono ?_;rintro e w9 ⟨rfl,hg⟩;exact⟨rfl,below_grown (grownBy_new (grownBy_drew HT.out.g) hg (Nat.le_of_lt HT.out.h1)),.inl ⟨rfl,hno.out⟩⟩
   | some xx=>
    obtain⟨q,r'⟩:=xx;have Hd:=hide hd;have HR2:=hide (bfR_more HR.out hd);clear hd;have HTd:Hid (TVb w wr.drew b X r c.toNat f.toNat (.slice fa P.length fc) P):=HT.out.call (HT.out.br.keep rfl) ⟨rfl,rfl,rfl,Nat.le_refl _,fun _ _ _=>rfl⟩;have h1:=HT.out.h1;have h2:=HT.out.h2
    go_region_law (first|(refine step_append_own rfl (.tmp 20) (.tmp 23) 59 rfl (b+1) 104 it _ 1 24 Tryz.underlying59 hti htz0 htz1 htz2 rfl (by decide) _ _ _ rfl (fm9.1.alloc _) ⟨w9.heap.size,0,none⟩ 1 1 [.slice la q.length lc] rfl rfl (cells_new w9 #[_] _ _ rfl) (by simp[Value.oneCell']) (by unfold maxLen;omega) (by omega) (by simp;omega) ?_;intro v' w10 hown10 hgr;have T10:=HT9.out.push hv9.out hgr hown10;have hX10:=HT9.out.grow hgr;have u1:=zC hX10 2;have u2:=zF hX10 2;obtain⟨fa',fc',rfl⟩:=own_slice hown10;have HT10:=hide T10;clear T10 hX10 hown10 hgr)|(go_simp;go_at_call 110;refine(bframe_good HTd.out.br Hd.out).mono ?_;rintro e w9 ⟨la,lc,rfl,hrs9,hg9,hv⟩;have T9:=HTd.out.call hrs9 hg9;obtain⟨z0,z1,z2,z3,z4,z5⟩:=T9.cells;have HT9:=hide T9;have fm9:=T9.fm;have hl9:=zL T9.hx;have hv9:=hide (own_weak (base':=b+1) hv (by have:=zL HT.out.br.h;show b+1<=wr.heap.size;omega));clear T9 hrs9 hg9 hv))
    all_goals
     go_wp2;go_roundw
     case rel=>exact⟨r',P++[(.slice la q.length lc,q)],_,HT10.out,by rw[List.map_append];exact HR2.out⟩
     case measure=>rw[HL.out,HT10.out.cells.2.2.1];show 1100-(P.length+1)<1100-P.length;omega
theorem refusal_is (v:Value)(w:World):(Instr.typeAssert (.iface 101 v) 20 101 true).run Tryz.prog w=.ok (.tuple #[v,.bool true]) w:=by
 simp[Instr.typeAssert,run_underlying Tryz.underlying101,go_sem,Result.andThen]
theorem reasonOf_any (e p own:Nat)(w:World):
  Calls Tryz.prog 64 #[.iface 101 (.agg #[.int .i64 e,.int .i64 p]),.int .i64 own] w fun en w'=>en=.returned (.agg #[.int .i64 e,.int .i64 p])/\Below w.heap.size w w':=by
 have hta:=refusal_is;go_enter Tryz.func64,Tryz.ntmps64;go_wp2;refine bodyPost_ret (v:=.agg #[.int .i64 e,.int .i64 p]) (by simp[results,Tryz.results64,go_sem]) rfl ⟨rfl,?_⟩;exact(zN w _).alloc (by simp) _
theorem slots16 (o p q r v:Value):(#[o,p,q,r]++((Array.replicate 12 undef).setIfInBounds 2 v).setIfInBounds 0 v)=#[o,p,q,r,v,undef,v,undef,undef,undef,undef,undef,undef,undef,undef,undef]:=rfl
structure G3 (w:World) (b:Nat) (s:ByteArray) (e p:Nat):Prop where
 h0:w.heap[b]? =some (.cells #[.string s] 9 (0,0))
 h1:w.heap[b+1]? =some (.cells #[.int .i64 e] 28 (0,0))
 h2:w.heap[b+2]? =some (.cells #[.int .i64 p] 3 (0,0))
theorem G3.keep {w w':World}{b:Nat}{s:ByteArray}{e p:Nat}(h:G3 w b s e p)(hb:Below w.heap.size w w'):G3 w' b s e p:=
 ⟨blk_kept h.h0 hb,blk_kept h.h1 hb,blk_kept h.h2 hb⟩
theorem G3.drew {w:World}{b:Nat}{s:ByteArray}{e p:Nat}(h:G3 w b s e p):G3 w.drew b s e p:=⟨h.h0,h.h1,h.h2⟩
theorem G3.set {w:World}{b:Nat}{s:ByteArray}{e p:Nat}(h:G3 w b s e p)(s':ByteArray)(e' p':Nat):
  G3 (((w.setCell ⟨b,0,none⟩ (.string s')).setCell ⟨b+1,0,none⟩ (.int .i64 e')).setCell ⟨b+2,0,none⟩ (.int .i64 p')) b s' e' p':=by
 refine⟨?_,?_,?_⟩
 .rw[Below.heap_setCell _ _ _ _ (by simp),Below.heap_setCell _ _ _ _ (by simp)];exact zS h.h0 0 _
 .rw[Below.heap_setCell _ _ _ _ (by simp)];refine zS (c:=#[.int .i64 e]) ?_ 0 _;rw[Below.heap_setCell _ _ _ _ (by simp)];exact h.h1
 .refine zS (c:=#[.int .i64 p]) ?_ 0 _;rw[Below.heap_setCell _ _ _ _ (by simp),Below.heap_setCell _ _ _ _ (by simp)];exact h.h2
theorem catch_panicking (o own b e p:Nat)(w:World)(ho:w.cell? ⟨o,0,none⟩=some (.int .i64 own))(h:G3 w b ⟨#[]⟩ 0 0):
  CallsD Tryz.prog 63 #[.pointer (some ⟨o,0,none⟩),.pointer (some ⟨b,0,none⟩),.pointer (some ⟨b+1,0,none⟩),.pointer (some ⟨b+2,0,none⟩)] (.panicking [{ v:=.iface 101 (.agg #[.int .i64 e,.int .i64 p]),recovered:=false }]) w fun en u' w'=>
   en=.returned (.tuple #[])/\u'=.panicking [{ v:=.iface 101 (.agg #[.int .i64 e,.int .i64 p]),recovered:=true }]/\G3 w' b ⟨#[]⟩ e p/\Below b w w':=by
 refine callsD_of_wpS Tryz.func63 rfl fun c₀ cs hu=>?_;apply wpS_seq;apply wpS_region;simp[wpOpsS,go_sem,recoverD,hu,Tryz.ntmps63,Exit.thenS];refine wpS_of_wp ?_;rw[slots16];generalize hQ:(fun (e_1:Exit) (a':Act) (w':World)=>bodyPostS _ _ _ _ _ e_1 a' _ w')=Q;have HQ:=hide hQ;clear hQ hu;go_wp2_with fail;refine(reasonOf_any e p own w).mono ?_;rintro en w1 ⟨rfl,hb1⟩;have H1:=hide (h.keep hb1);have hl0:=zL h.h0;have hl1:=zL H1.out.h0;have hl2:=zL H1.out.h1;have hl3:=zL H1.out.h2;have HB1:=hide (hb1.mono (Nat.le_of_lt hl0));clear hb1 h;have hX:=zW w1 #[.int .i64 e,.int .i64 p] 101;have H2:=hide (H1.out.keep (zN w1 (.cells #[.int .i64 e,.int .i64 p] 101)));have HB2:=hide (HB1.out.alloc (Nat.le_of_lt hl1) (.cells #[.int .i64 e,.int .i64 p] 101));go_wp2_with fail;generalize w1.alloc (.cells #[.int .i64 e,.int .i64 p] 101)=W at *;generalize w1.heap.size=X at *;have n0:¬X=b:=by omega
 have n1:¬X=b+1:=by omega
 have n2:¬X=b+2:=by omega
 have m0:¬b=X:=by omega
 have m1:¬b+1=X:=by omega
 have m2:¬b+2=X:=by omega
 have x0:=zC hX;have a0:=zC H2.out.h0;have a1:=zC H2.out.h1;have a2:=zC H2.out.h2;have f0:=zF H2.out.h0;have f1:=zF H2.out.h1;have f2:=zF H2.out.h2;clear hX H1 HB1 hl0 hl1 hl2 hl3
 go_region
 all_goals
  rw[←HQ.out];refine⟨rfl,_,rfl,.tuple #[],by simp[results,Tryz.results63],rfl,rfl,?_,?_⟩
  .exact(H2.out.set ⟨#[]⟩ e p).drew
  .exact(((HB2.out.setCell (p:=⟨b,0,none⟩) (Nat.le_refl _) _).setCell (p:=⟨b+1,0,none⟩) (Nat.le_add_right _ _) _).setCell (p:=⟨b+2,0,none⟩) (Nat.le_add_right _ _) _).drew
theorem catch_idle (o a b c:Value)(w:World):
  CallsD Tryz.prog 63 #[o,a,b,c] .returning w fun en u' w'=>en=.returned (.tuple #[])/\u'=.returning/\w'=w:=by
 refine callsD_of_wpS Tryz.func63 rfl fun c₀ cs hu=>?_;apply wpS_seq;apply wpS_region;simp[wpOpsS,go_sem,recoverD,hu,Tryz.ntmps63,Exit.thenS];refine wpS_of_wp ?_;rw[slots16];generalize hQ:(fun (e_1:Exit) (a':Act) (w':World)=>bodyPostS _ _ _ _ _ e_1 a' _ w')=Q;have HQ:=hide hQ;clear hQ;go_wp2;rw[←HQ.out]
 cases c₀
 simp_all [bodyPostS,results,Tryz.results63]
theorem G3.new (w:World)(own:Nat):G3 ((((w.alloc (.cells #[.int .i64 own] 28)).alloc (.cells #[.string ⟨#[]⟩] 9)).alloc (.cells #[.int .i64 0] 28)).alloc (.cells #[.int .i64 0] 3)) (w.heap.size+1) ⟨#[]⟩ 0 0:=by
 refine⟨?_,?_,?_⟩
 .rw[Below.heap_alloc _ _ _ (by simp only[World.size_alloc];omega),Below.heap_alloc _ _ _ (by simp only[World.size_alloc];omega)];simpa using zW (w.alloc (.cells #[.int .i64 own] 28)) #[.string ⟨#[]⟩] 9
 .rw[Below.heap_alloc _ _ _ (by simp only[World.size_alloc];omega)];simpa using zW ((w.alloc (.cells #[.int .i64 own] 28)).alloc (.cells #[.string ⟨#[]⟩] 9)) #[.int .i64 0] 28
 .simpa using zW (((w.alloc (.cells #[.int .i64 own] 28)).alloc (.cells #[.string ⟨#[]⟩] 9)).alloc (.cells #[.int .i64 0] 28)) #[.int .i64 0] 3
theorem own_new (w:World)(own:Nat):((((w.alloc (.cells #[.int .i64 own] 28)).alloc (.cells #[.string ⟨#[]⟩] 9)).alloc (.cells #[.int .i64 0] 28)).alloc (.cells #[.int .i64 0] 3)).heap[w.heap.size]? =some (.cells #[.int .i64 own] 28 (0,0)):=by
 rw[Below.heap_alloc _ _ _ (by simp only[World.size_alloc];omega),Below.heap_alloc _ _ _ (by simp only[World.size_alloc];omega),Below.heap_alloc _ _ _ (by simp only[World.size_alloc];omega)];exact zW _ _ _
theorem below_four (w:World)(a b c d:Obj):Below w.heap.size w ((((w.alloc a).alloc b).alloc c).alloc d):=
 (((zN w a).alloc (by simp only[World.size_alloc];omega) b).alloc (by simp only[World.size_alloc];omega) c).alloc (by simp only[World.size_alloc];omega) d
def WorkOut (E:Nat×Nat->Prop) (R:List UInt8->Prop) (w:World) (en:Ending) (w':World):Prop:=
 Below w.heap.size w w'/\((∃f,E f/\en=pan f.1 f.2)\/(∃x,R x/\en=.returned (.string (bs x))))
def GOutG (E:Nat×Nat->Prop) (R:List UInt8->Prop) (w:World) (en:Ending) (w':World):Prop:=
 Below w.heap.size w w'/\((∃f,E f/\en=.returned (.tuple #[.string ⟨#[]⟩,.int .i64 f.1,.int .i64 f.2]))\/(∃x,R x/\en=.returned (.tuple #[.string (bs x),.int .i64 0,.int .i64 0])))
theorem guard_print (own:Nat)(ev:Int)(hev:ev=own)(b:Nat)(w:World)(E:Nat×Nat->Prop)(R:List UInt8->Prop)
  (hw:∀W,Below w.heap.size w W->Calls Tryz.prog 93 #[.pointer (some ⟨b,0,none⟩)] W (WorkOut E R W)):
  Calls Tryz.prog 30 #[.int .i64 ev,.func (.func 93) #[] #[.pointer (some ⟨b,0,none⟩)]] w (GOutG E R w):=by
 subst hev;have hmf:∀(fn:Fn) (first cap:Array Value) (w:World),(Instr.makeFunc fn first cap).run Tryz.prog w=.ok (.func fn first cap) w:=fun _ _ _ _=>rfl;have HN:=hide (G3.new w own);have HO:=hide (own_new w own);have HB0:=hide (below_four w (.cells #[.int .i64 own] 28) (.cells #[.string ⟨#[]⟩] 9) (.cells #[.int .i64 0] 28) (.cells #[.int .i64 0] 3));have Hw:=hide hw;clear hw
 go_enter_defers Tryz.func30,Tryz.ntmps30
 go_wp2_with fail;generalize (((w.alloc (.cells #[.int .i64 own] 28)).alloc (.cells #[.string ⟨#[]⟩] 9)).alloc (.cells #[.int .i64 0] 28)).alloc (.cells #[.int .i64 0] 3)=W at *;refine(Hw.out W HB0.out).mono ?_;rintro e w1 ⟨hb1,hcase⟩;have HG1:=hide (HN.out.keep hb1);have HO1:=hide (blk_kept HO.out hb1);have HB1:=hide (HB0.out.trans (hb1.mono HB0.out.size));clear hb1;rcases hcase with⟨f,hf,rfl⟩|⟨x,hR,rfl⟩
 .refine leaves_cons (f:=63) (args:=#[.pointer (some ⟨w.heap.size,0,none⟩),.pointer (some ⟨w.heap.size+1,0,none⟩),.pointer (some ⟨w.heap.size+1+1,0,none⟩),.pointer (some ⟨w.heap.size+1+2,0,none⟩)]) (by simp) (by simp[go_sem]) ?_;refine(catch_panicking w.heap.size own (w.heap.size+1) f.1 f.2 w1 (by rw[zC HO1.out];rfl) HG1.out).mono ?_;rintro e u' w'' ⟨rfl,rfl,hG,hB⟩;have c0:=zC hG.h0;have c1:=zC hG.h1;have c2:=zC hG.h2;simp[Leaves,settle,results,Tryz.results30,go_sem,c0,c1,c2];exact⟨HB1.out.trans (hB.mono (Nat.le_succ _)),.inl ⟨f,hf,rfl⟩⟩
 .have a0:=zC HG1.out.h0;have a1:=zC HG1.out.h1;have a2:=zC HG1.out.h2;have f0:=zF HG1.out.h0;have f1:=zF HG1.out.h1;have f2:=zF HG1.out.h2;have HR:=hide hR;clear hR;go_wp2;refine leaves_cons (f:=63) (args:=#[.pointer (some ⟨w.heap.size,0,none⟩),.pointer (some ⟨w.heap.size+1,0,none⟩),.pointer (some ⟨w.heap.size+1+1,0,none⟩),.pointer (some ⟨w.heap.size+1+2,0,none⟩)]) (by simp) (by simp[go_sem]) ?_;refine(catch_idle _ _ _ _ _).mono ?_;rintro e u' w'' ⟨rfl,rfl,rfl⟩;have hG:G3 (((w1.setCell ⟨w.heap.size+1,0,none⟩ (.string (bs x))).setCell ⟨w.heap.size+1+1,0,none⟩ (.int .i64 0)).setCell ⟨w.heap.size+1+2,0,none⟩ (.int .i64 0)) (w.heap.size+1) (bs x) 0 0:=HG1.out.set (bs x) 0 0;have HB:=((HB1.out.setCell (p:=⟨w.heap.size+1,0,none⟩) (Nat.le_add_right _ _) (.string (bs x))).setCell (p:=⟨w.heap.size+1+1,0,none⟩) (Nat.le_trans (Nat.le_succ _) (Nat.le_succ _)) (.int .i64 0)).setCell (p:=⟨w.heap.size+1+2,0,none⟩) (Nat.le_trans (Nat.le_succ _) (Nat.le_add_right _ _)) (.int .i64 0);generalize ((w1.setCell ⟨w.heap.size+1,0,none⟩ (.string (bs x))).setCell ⟨w.heap.size+1+1,0,none⟩ (.int .i64 0)).setCell ⟨w.heap.size+1+2,0,none⟩ (.int .i64 0)=w2 at *;have c0:=zC hG.h0;have c1:=zC hG.h1;have c2:=zC hG.h2;simp[Leaves,settle,results,Tryz.results30,go_sem,c0,c1,c2];exact⟨HB,.inr ⟨x,HR.out,rfl⟩⟩
theorem guard_write (own:Nat)(ev:Int)(hev:ev=own)(b:Nat)(w:World)(E:Nat×Nat->Prop)(R:List UInt8->Prop)
  (hw:∀W,Below w.heap.size w W->Calls Tryz.prog 31 #[.pointer (some ⟨b,0,none⟩)] W (WorkOut E R W)):
  Calls Tryz.prog 30 #[.int .i64 ev,.func (.func 31) #[] #[.pointer (some ⟨b,0,none⟩)]] w (GOutG E R w):=by
 subst hev;have hmf:∀(fn:Fn) (first cap:Array Value) (w:World),(Instr.makeFunc fn first cap).run Tryz.prog w=.ok (.func fn first cap) w:=fun _ _ _ _=>rfl;have HN:=hide (G3.new w own);have HO:=hide (own_new w own);have HB0:=hide (below_four w (.cells #[.int .i64 own] 28) (.cells #[.string ⟨#[]⟩] 9) (.cells #[.int .i64 0] 28) (.cells #[.int .i64 0] 3));have Hw:=hide hw;clear hw
 go_enter_defers Tryz.func30,Tryz.ntmps30
 go_wp2_with fail;generalize (((w.alloc (.cells #[.int .i64 own] 28)).alloc (.cells #[.string ⟨#[]⟩] 9)).alloc (.cells #[.int .i64 0] 28)).alloc (.cells #[.int .i64 0] 3)=W at *;refine(Hw.out W HB0.out).mono ?_;rintro e w1 ⟨hb1,hcase⟩;have HG1:=hide (HN.out.keep hb1);have HO1:=hide (blk_kept HO.out hb1);have HB1:=hide (HB0.out.trans (hb1.mono HB0.out.size));clear hb1;rcases hcase with⟨f,hf,rfl⟩|⟨x,hR,rfl⟩
 .refine leaves_cons (f:=63) (args:=#[.pointer (some ⟨w.heap.size,0,none⟩),.pointer (some ⟨w.heap.size+1,0,none⟩),.pointer (some ⟨w.heap.size+1+1,0,none⟩),.pointer (some ⟨w.heap.size+1+2,0,none⟩)]) (by simp) (by simp[go_sem]) ?_;refine(catch_panicking w.heap.size own (w.heap.size+1) f.1 f.2 w1 (by rw[zC HO1.out];rfl) HG1.out).mono ?_;rintro e u' w'' ⟨rfl,rfl,hG,hB⟩;have c0:=zC hG.h0;have c1:=zC hG.h1;have c2:=zC hG.h2;simp[Leaves,settle,results,Tryz.results30,go_sem,c0,c1,c2];exact⟨HB1.out.trans (hB.mono (Nat.le_succ _)),.inl ⟨f,hf,rfl⟩⟩
 .have a0:=zC HG1.out.h0;have a1:=zC HG1.out.h1;have a2:=zC HG1.out.h2;have f0:=zF HG1.out.h0;have f1:=zF HG1.out.h1;have f2:=zF HG1.out.h2;have HR:=hide hR;clear hR;go_wp2;refine leaves_cons (f:=63) (args:=#[.pointer (some ⟨w.heap.size,0,none⟩),.pointer (some ⟨w.heap.size+1,0,none⟩),.pointer (some ⟨w.heap.size+1+1,0,none⟩),.pointer (some ⟨w.heap.size+1+2,0,none⟩)]) (by simp) (by simp[go_sem]) ?_;refine(catch_idle _ _ _ _ _).mono ?_;rintro e u' w'' ⟨rfl,rfl,rfl⟩;have hG:G3 (((w1.setCell ⟨w.heap.size+1,0,none⟩ (.string (bs x))).setCell ⟨w.heap.size+1+1,0,none⟩ (.int .i64 0)).setCell ⟨w.heap.size+1+2,0,none⟩ (.int .i64 0)) (w.heap.size+1) (bs x) 0 0:=HG1.out.set (bs x) 0 0;have HB:=((HB1.out.setCell (p:=⟨w.heap.size+1,0,none⟩) (Nat.le_add_right _ _) (.string (bs x))).setCell (p:=⟨w.heap.size+1+1,0,none⟩) (Nat.le_trans (Nat.le_succ _) (Nat.le_succ _)) (.int .i64 0)).setCell (p:=⟨w.heap.size+1+2,0,none⟩) (Nat.le_trans (Nat.le_succ _) (Nat.le_add_right _ _)) (.int .i64 0);generalize ((w1.setCell ⟨w.heap.size+1,0,none⟩ (.string (bs x))).setCell ⟨w.heap.size+1+1,0,none⟩ (.int .i64 0)).setCell ⟨w.heap.size+1+2,0,none⟩ (.int .i64 0)=w2 at *;have c0:=zC hG.h0;have c1:=zC hG.h1;have c2:=zC hG.h2;simp[Leaves,settle,results,Tryz.results30,go_sem,c0,c1,c2];exact⟨HB,.inr ⟨x,HR.out,rfl⟩⟩
theorem guard_read (own:Nat)(ev:Int)(hev:ev=own)(b:Nat)(w:World)(E:Nat×Nat->Prop)(R:List UInt8->Prop)
  (hw:∀W,Below w.heap.size w W->Calls Tryz.prog 34 #[.pointer (some ⟨b,0,none⟩)] W (WorkOut E R W)):
  Calls Tryz.prog 30 #[.int .i64 ev,.func (.func 34) #[] #[.pointer (some ⟨b,0,none⟩)]] w (GOutG E R w):=by
 subst hev;have hmf:∀(fn:Fn) (first cap:Array Value) (w:World),(Instr.makeFunc fn first cap).run Tryz.prog w=.ok (.func fn first cap) w:=fun _ _ _ _=>rfl;have HN:=hide (G3.new w own);have HO:=hide (own_new w own);have HB0:=hide (below_four w (.cells #[.int .i64 own] 28) (.cells #[.string ⟨#[]⟩] 9) (.cells #[.int .i64 0] 28) (.cells #[.int .i64 0] 3));have Hw:=hide hw;clear hw
 go_enter_defers Tryz.func30,Tryz.ntmps30
 go_wp2_with fail;generalize (((w.alloc (.cells #[.int .i64 own] 28)).alloc (.cells #[.string ⟨#[]⟩] 9)).alloc (.cells #[.int .i64 0] 28)).alloc (.cells #[.int .i64 0] 3)=W at *;refine(Hw.out W HB0.out).mono ?_;rintro e w1 ⟨hb1,hcase⟩;have HG1:=hide (HN.out.keep hb1);have HO1:=hide (blk_kept HO.out hb1);have HB1:=hide (HB0.out.trans (hb1.mono HB0.out.size));clear hb1;rcases hcase with⟨f,hf,rfl⟩|⟨x,hR,rfl⟩
 .refine leaves_cons (f:=63) (args:=#[.pointer (some ⟨w.heap.size,0,none⟩),.pointer (some ⟨w.heap.size+1,0,none⟩),.pointer (some ⟨w.heap.size+1+1,0,none⟩),.pointer (some ⟨w.heap.size+1+2,0,none⟩)]) (by simp) (by simp[go_sem]) ?_;refine(catch_panicking w.heap.size own (w.heap.size+1) f.1 f.2 w1 (by rw[zC HO1.out];rfl) HG1.out).mono ?_;rintro e u' w'' ⟨rfl,rfl,hG,hB⟩;have c0:=zC hG.h0;have c1:=zC hG.h1;have c2:=zC hG.h2;simp[Leaves,settle,results,Tryz.results30,go_sem,c0,c1,c2];exact⟨HB1.out.trans (hB.mono (Nat.le_succ _)),.inl ⟨f,hf,rfl⟩⟩
 .have a0:=zC HG1.out.h0;have a1:=zC HG1.out.h1;have a2:=zC HG1.out.h2;have f0:=zF HG1.out.h0;have f1:=zF HG1.out.h1;have f2:=zF HG1.out.h2;have HR:=hide hR;clear hR;go_wp2;refine leaves_cons (f:=63) (args:=#[.pointer (some ⟨w.heap.size,0,none⟩),.pointer (some ⟨w.heap.size+1,0,none⟩),.pointer (some ⟨w.heap.size+1+1,0,none⟩),.pointer (some ⟨w.heap.size+1+2,0,none⟩)]) (by simp) (by simp[go_sem]) ?_;refine(catch_idle _ _ _ _ _).mono ?_;rintro e u' w'' ⟨rfl,rfl,rfl⟩;have hG:G3 (((w1.setCell ⟨w.heap.size+1,0,none⟩ (.string (bs x))).setCell ⟨w.heap.size+1+1,0,none⟩ (.int .i64 0)).setCell ⟨w.heap.size+1+2,0,none⟩ (.int .i64 0)) (w.heap.size+1) (bs x) 0 0:=HG1.out.set (bs x) 0 0;have HB:=((HB1.out.setCell (p:=⟨w.heap.size+1,0,none⟩) (Nat.le_add_right _ _) (.string (bs x))).setCell (p:=⟨w.heap.size+1+1,0,none⟩) (Nat.le_trans (Nat.le_succ _) (Nat.le_succ _)) (.int .i64 0)).setCell (p:=⟨w.heap.size+1+2,0,none⟩) (Nat.le_trans (Nat.le_succ _) (Nat.le_add_right _ _)) (.int .i64 0);generalize ((w1.setCell ⟨w.heap.size+1,0,none⟩ (.string (bs x))).setCell ⟨w.heap.size+1+1,0,none⟩ (.int .i64 0)).setCell ⟨w.heap.size+1+2,0,none⟩ (.int .i64 0)=w2 at *;have c0:=zC hG.h0;have c1:=zC hG.h1;have c2:=zC hG.h2;simp[Leaves,settle,results,Tryz.results30,go_sem,c0,c1,c2];exact⟨HB,.inr ⟨x,HR.out,rfl⟩⟩
end
end Go.Proofs.YtbdffcjganlblaaGreatDoor
