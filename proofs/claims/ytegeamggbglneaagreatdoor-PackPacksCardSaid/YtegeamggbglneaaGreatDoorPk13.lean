/- A part of the proof. -/
import Derived.Laws.BitsAllLaws
import Derived.Deep.DeepCutAuto
import Derived.Test.YtegeamggbglneaaGreatDoorPk10
import Derived.Shelf.SlSortCmp.QuietGrown
import Derived.Shelf.Abstract
import Derived.OwnWalkIn
import Derived.TacticsInMore
import Derived.RegionIn
import Derived.LoopNIn
import Derived.LoopIn
import Derived.Test.YtegeamggbglneaaGreatDoorPk12
import Derived.RangeFuncBox
set_option maxHeartbeats 2000000
set_option maxRecDepth 100000
set_option linter.unusedVariables false
namespace Go.Proofs.YtegeamggbglneaaGreatDoor
namespace Pk
open Go.RowKit Go.Maps
open Gr (boxed)
abbrev av(x:Int×Int):Value:=.agg #[.int .i64 x.1,.int .i64 x.2]
theorem zUx(a b:Nat)(ha:a<1000000)(hb:b<1000000):bits .or .i64 (a:Int) (b:Int)=((a|||b:Nat):Int):=by
 have hx:a|||b<2^20:=Nat.or_lt_two_pow (by omega) (by omega)
 have h1:(BitVec.ofInt 64 (a:Int)).toNat=a:=by
  rw[BitVec.ofInt_natCast,BitVec.toNat_ofNat];exact Nat.mod_eq_of_lt (by omega)
 have h2:(BitVec.ofInt 64 (b:Int)).toNat=b:=by
  rw[BitVec.ofInt_natCast,BitVec.toNat_ofNat];exact Nat.mod_eq_of_lt (by omega)
 show IntKind.i64.wrap ((BitVec.ofInt 64 (a:Int)|||BitVec.ofInt 64 (b:Int)).toNat:Int)= _;rw[BitVec.toNat_or,h1,h2,IntKind.wrap_i64];omega
theorem zTQ(k n:Nat)(hk:k<=3)(hn:n<16384):bits .or .i64 ((16384*k:Nat):Int) (n:Int)=((16384*k+n:Nat):Int):=by
 rw[zUx _ _ (by omega) (by omega)];have:=Nat.two_pow_add_eq_or_of_lt (i:=14) (b:=n) (by omega) k;rw[show(16384:Nat)=2^14 by decide,←this]
theorem zSF(c:Nat)(hc:c<65536):bits .and .u16 (c:Int) 16383=((c % 16384:Nat):Int):=by
 have h1:(BitVec.ofInt 16 (c:Int)).toNat=c:=by
  rw[BitVec.ofInt_natCast,BitVec.toNat_ofNat];exact Nat.mod_eq_of_lt (by omega)
 have h2:(BitVec.ofInt 16 (16383:Int)).toNat=16383:=by decide
 show IntKind.u16.wrap ((BitVec.ofInt 16 (c:Int)&&& BitVec.ofInt 16 (16383:Int)).toNat:Int)= _;rw[BitVec.toNat_and,h1,h2,show(16383:Nat)=2^14-1 by decide,Nat.and_two_pow_sub_one_eq_mod,IntKind.wrap_u16];omega
theorem zE2(x)(h:0<=x.1/\x.1<=3/\0<=x.2/\x.2<16384)(w):
  Calls Tryz.prog 30 #[av x] w (Gr.Is (.int .u16 (zAw x)) w):=by
 obtain⟨x1,x2⟩:=x;dsimp only at h;obtain⟨k,rfl⟩:∃k:Nat,x1=(k:Int):=⟨x1.toNat,by omega⟩;obtain⟨n,rfl⟩:∃n:Nat,x2=(n:Int):=⟨x2.toNat,by omega⟩;have B:=zV7 (boxed w (.cells #[.int .i64 (k:Int),.int .i64 (n:Int)] 57));have hor:=zTQ k n (by omega) (by omega);have E:=zV7 (show((16384*k+n:Nat):Int)=zAw ((k:Int),(n:Int))by unfold zAw;dsimp only;omega)
 have hs:Op.shift BinOp.shl IntKind.i64 (k:Int) IntKind.u64 14=pure (.int .i64 ((16384*k:Nat):Int)):=by
  rcases(by omega:k=0\/k=1\/k=2\/k=3)with rfl|rfl|rfl|rfl<;>rfl
 have hl:((16384*k+n:Nat):Int)<=65535:=by omega
 generalize zAw ((k:Int),(n:Int))=c at*;generalize 16384*k+n=m at*;generalize 16384*k=j at*;go_enter Tryz.func30,Tryz.ntmps30;go_wp2;go_ret;exact⟨by rw[E.out];rfl,B.out⟩
theorem zH1(x)(h: -1<=x/\x<65535)(w):
  Calls Tryz.prog 32 #[.int .i64 x] w (fun e w'=>e=.returned (.int .u16 (zBF x))/\w'=w):=by
 unfold zBF;have h1:IntKind.i64.wrap (x+1)=x+1:=by rw[IntKind.wrap_i64];omega
 have h2:IntKind.u16.wrap (x+1)=x+1:=by rw[IntKind.wrap_u16];omega
 go_enter Tryz.func32,Tryz.ntmps32;go_wp2;go_ret;exact⟨rfl,rfl⟩
theorem zEO(c)(h:Cd c)(w):
  Calls Tryz.prog 45 #[.int .u16 c] w (fun e w'=>e=.returned (.int .i64 (toOf c))/\w'=w):=by
 unfold toOf;unfold Cd at h;obtain⟨ha,hb⟩:=h;go_enter Tryz.func45,Tryz.ntmps45;go_wp2;go_ret;exact⟨rfl,rfl⟩
theorem zD7(c:Int)(h:Cd c)(w:World):
  Calls Tryz.prog 43 #[.int .u16 c] w (Gr.Is (av (zAb c)) w):=by
 unfold Cd at h;obtain⟨n,rfl⟩:∃n:Nat,c=(n:Int):=⟨c.toNat,by omega⟩;have hn:n<65536:=by omega
 have ha:=zSF n hn;have BB:=zV7 (fun(o o':Obj)=>Gr.step (boxed w o) (boxed (w.alloc o) o'))
 by_cases hm:(n:Int) % 16384=0
 ·have e:zAb (n:Int)=((n:Int) / 16384,0):=by
   unfold zAb;rw[if_neg (by omega),hm]
  rw[e];clear e;go_enter Tryz.func43,Tryz.ntmps43;go_wp2;exact bodyPost_ret (v:=.agg #[.int .i64 ((n:Int) / 16384),.int .i64 0]) (by simp[results,Tryz.results43,go_sem]) rfl ⟨rfl,BB.out _ _⟩
 ·have hb:((n:Int) % 16384 != 0)=true:=by rw[bne_iff_ne];exact hm
  by_cases hk:(n:Int) / 16384=0
  ·have e:zAb (n:Int)=(0,0):=by
    unfold zAb;rw[if_pos ⟨hm,.inl hk⟩]
   rw[e];clear e;go_enter Tryz.func43,Tryz.ntmps43;go_wp2;exact bodyPost_ret (v:=.agg #[.int .i64 0,.int .i64 0]) (by simp[results,Tryz.results43,go_sem]) rfl ⟨rfl,BB.out _ _⟩
  ·by_cases hk3:(n:Int) / 16384=3
   ·have e:zAb (n:Int)=(0,0):=by
     unfold zAb;rw[if_pos ⟨hm,.inr hk3⟩]
    rw[e];clear e;go_enter Tryz.func43,Tryz.ntmps43;go_wp2;exact bodyPost_ret (v:=.agg #[.int .i64 0,.int .i64 0]) (by simp[results,Tryz.results43,go_sem]) rfl ⟨rfl,BB.out _ _⟩
   ·have e:zAb (n:Int)=((n:Int) / 16384,(n:Int) % 16384):=by
     unfold zAb;rw[if_neg (by omega)]
    have hb0:((n:Int) / 16384==0)=false:=by rw[beq_eq_false_iff_ne];exact hk
    have hb3:((n:Int) / 16384==3)=false:=by rw[beq_eq_false_iff_ne];exact hk3
    rw[e];clear e;go_enter Tryz.func43,Tryz.ntmps43;go_wp2;exact bodyPost_ret (v:=.agg #[.int .i64 ((n:Int) / 16384),.int .i64 ((n:Int) % 16384)]) (by simp[results,Tryz.results43,go_sem]) rfl ⟨rfl,BB.out _ _⟩
end Pk
namespace Pk
open Go.RowKit Go.Maps
def Gw(w w':World):Prop:=∃n os,w'=Go.Sort.grow (w.drewN n) os
theorem Gw.refl(w):Gw w w:=⟨0,#[],by rw[Go.Sort.grow_empty];rfl⟩
theorem Gw.alloc{w w1}(h:Gw w w1)(o):Gw w (w1.alloc o):=by
 obtain⟨n,os,rfl⟩:=h;exact⟨n,os++#[o],by rw[Go.Sort.alloc_eq_grow,Go.Sort.grow_grow]⟩
theorem Gw.below{w w1}(h:Gw w w1):Below w.heap.size w w1:=by
 obtain⟨n,os,rfl⟩:=h;refine⟨rfl,rfl,rfl,?_,fun k hk=>?_⟩
 ·rw[Go.Sort.size_grow];exact Nat.le_add_right _ _
 ·show(w.heap++os)[k]?=w.heap[k]?;rw[Array.getElem?_append_left hk]
end Pk
namespace Im
open Go.RowKit Go.Maps
attribute [local go_sem] Oper.semAt_some
structure Came (X Lf:Itm->Prop) (l:List Itm):Prop where
 nd:l.Nodup
 fit:∀x∈l,W64 x
 mem:∀x,W64 x->(x∈l↔X x/\¬Lf x)
theorem Came.start(X):Came X X []:=⟨List.nodup_nil,fun x hx=>(List.not_mem_nil hx).elim,fun x _=>⟨fun h=>(List.not_mem_nil h).elim,fun h=>absurd h.1 h.2⟩⟩
theorem Came.step{X Lf}{l}{x}(h:Came X Lf l)(hx:W64 x)(hl:Lf x)(hX:X x):Came X (fun y=>Lf y/\y≠x) (l++[x]):=by
 have hn:x∉l:=fun k=>((h.mem x hx).1 k).2 hl
 refine⟨List.nodup_append.2 ⟨h.nd,by simp,fun a ha b hb=>?_⟩,fun y hy=>?_,fun y hy=>?_⟩
 ·rw[List.mem_singleton]at hb;subst hb;exact fun e=>hn (e▸ha)
 ·rcases List.mem_append.1 hy with k|k
  ·exact h.fit y k
  ·rw[List.mem_singleton]at k;rw[k];exact hx
 ·rw[List.mem_append,List.mem_singleton,h.mem y hy];constructor
  ·rintro(⟨h1,h2⟩|e)
   ·exact⟨h1,fun k=>h2 k.1⟩
   ·subst e;exact⟨hX,fun k=>k.2 rfl⟩
  ·rintro⟨h1,h2⟩
   by_cases e:y=x
   ·exact .inr e
   ·exact .inl ⟨h1,fun k=>h2 ⟨k,e⟩⟩
structure All (X:Itm->Prop) (l:List Itm):Prop where
 nd:l.Nodup
 fit:∀x∈l,W64 x
 mem:∀x,W64 x->(x∈l↔X x)
theorem Came.done{X Lf}{l}(h:Came X Lf l)(ho:Over Lf):All X l:=
 ⟨h.nd,h.fit,fun x hx=>(h.mem x hx).trans ⟨fun k=>k.1,fun k=>⟨k,ho x hx⟩⟩⟩
theorem keys1_in(F:Fence)(n:Nat)(hf:F.fn 231)(hro:F.round=none)(hn:1<=n)(l Bm b nn:Nat)(X:Itm->Prop)(J Jx:List Itm->World->Prop)
  (hY:∀pre x W,J pre W->pre.length<nn->YieldAt F (n-1) Tryz.prog l #[iv x] W fun e W'=>(e=.returned (.bool true)/\J (pre++[x]) W'/\KeepsWalks W W')\/(e=.returned (.bool false)/\Jx (pre++[x]) W'))
  (W:World) (hJ:AbidesFrom W.heap.size J) (hm:W.cell? ⟨Bm,0,none⟩=some (.map (some b))) (hs:MS b nn X W) (h0:J [] W):
  CallsIn F n Tryz.prog 231 #[.func (.yield l) #[] #[],.pointer (some ⟨Bm,0,none⟩)] W fun e W'=>(∃v,e=.returned v)/\
   ((∃ss,All X ss/\J ss W')\/(∃pre,True/\Jx pre W')):=by
 refine callsIn_of_wp Tryz.func231 rfl hf ?_ hro;simp only[Tryz.ntmps231,List.size_toArray,List.length_cons,List.length_nil,Nat.reduceAdd,Nat.reduceSub,Array.replicate_succ,Array.replicate_zero,List.push_toArray,List.append_toArray,List.nil_append,List.cons_append]
 gi_wp2_with (first
  |(gi_at_range;refine zDa _ rfl _ rfl ktI Tryz.underlying250 (.agg []) b nn X rfl hs ?_;intro w0 hrg0 hg0 hs0)
  |gi_in)
 go_frame
 gi_loopw [3] (fun _ wr=>∃(Lf:Itm->Prop) (ss:List Itm),MR b W.heap.size nn ss.length X Lf wr/\ss.length<=nn/\Came X Lf ss/\J ss wr)
  (fun _ wr=>wr.rangeLeft b W.heap.size)
 case atStart=>
  exact⟨X,[],hrg0,Nat.zero_le _,Came.start X,hJ [] W w0 none h0 hg0 (fun r e=>by cases e)⟩
 case round=>
  obtain⟨Lf,ss,hrg,hle,hC,hJs⟩:=hrel
  gi_wp2_with (first
   |(gi_at_next;refine zD5 _ rfl _ rfl ktI b W.heap.size nn ss.length X Lf rfl hrg ?_ ?_)
   |gi_in)
  ·intro hd
   gi_wp2
   go_end0;exact⟨⟨_,rfl⟩,.inl ⟨ss,hC.done hd,hJs⟩⟩
  ·intro x0 x1 w2 hx hlf hXx hrg2 hlt hg2 hs2 hen;have hJ2:J ss w2:=hJ ss wr w2 (some W.heap.size) hJs hg2 (fun r e=>by cases e;exact⟨Nat.le_refl _,hrg.iter_walk⟩)
   have hlt2:ss.length<nn:=by
    obtain⟨D,left,cnt,h1,h2,h3,h4⟩:=hrg2;omega
   have hC2:=zV7 (hC.step (x:=(x0,x1)) hx hlf hXx);have hr3:=hrg2.went (Gr.boxed w2 (.cells #[.int .i64 x0,.int .i64 x1] 181));have hl3:(w2.alloc (.cells #[.int .i64 x0,.int .i64 x1] 181)).rangeLeft b W.heap.size=w2.rangeLeft b W.heap.size:=MRan.left_keep ((Gr.boxed w2 _).block b hrg2.lt.1) ((Gr.boxed w2 _).block _ hrg2.lt.2.1);have hJ3:J ss (w2.alloc (.cells #[.int .i64 x0,.int .i64 x1] 181)):=hJ ss w2 _ none hJ2 (World.grownBy_alloc _ _ _) (fun r e=>by cases e);have y0:(w2.alloc (.cells #[.int .i64 x0,.int .i64 x1] 181)).cell? ⟨w2.heap.size,0,none⟩=some (.int .i64 x0):=Gr.zAC rfl rfl;have y1:(w2.alloc (.cells #[.int .i64 x0,.int .i64 x1] 181)).cell? ⟨w2.heap.size,1,none⟩=some (.int .i64 x1):=Gr.zAC rfl rfl;obtain⟨fn,tmps,assign,body,hy,hR⟩:=hY ss (x0,x1) _ hJ3 hlt2;unfold iv at hen hy⊢;dsimp only at hen hy⊢;clear hs2 hJ2 hJs hrg hC hJ
   gi_wp2
   refine hR.mono ?_;rintro e W3 (⟨rfl,hJ4,hk4⟩|⟨rfl,hJx4⟩)
   ·obtain⟨hr4,hl4⟩:=hr3.walks hk4
    gi_wp2
    go_roundw
    case rel=>exact⟨_,ss++[(x0,x1)],by simpa using hr4,by simp;omega,hC2.out,hJ4⟩
    case measure=>rw[hl4,hl3];exact hlt
   ·gi_wp2
    refine bodyPost_ret (results_none rfl _ _ _) rfl ?_;exact⟨⟨_,rfl⟩,.inr ⟨_,trivial,hJx4⟩⟩
theorem keys_stops(F)(n)(hf:F.fn 231)(hro:F.round=none)(hn:1<=n)(Bm b nn)(X)(w)(hBm:Bm<w.heap.size)(hm:w.cell? ⟨Bm,0,none⟩=some (.map (some b)))(hs:MS b nn X w):
  SeqStopsK F n Tryz.prog 231 #[.pointer (some ⟨Bm,0,none⟩)] (fun x:Itm=>#[iv x]) KeepsWalks (All X) (fun _=>True) nn w:=fun l J Jx W hW hJ _ hY h0=>
 keys1_in F n hf hro hn l Bm b nn X J Jx hY W hJ ((hW.cell (p:=⟨Bm,0,none⟩) hBm).trans hm) (hs.went hW) h0
end Im
namespace Im
open Go.RowKit Go.Maps
attribute [local go_sem] Oper.semAt_some
theorem zDm:(Tryz.prog.info? 181).map (fun i=>(i.zero,i.size,i.bytes))=some (some (.agg #[.int .i64 0,.int .i64 0]),2,16):=by kernel_rfl
abbrev seqv(Bm:Nat):Value:=.func (.func 231) #[] #[.pointer (some ⟨Bm,0,none⟩)]
def zR5(X:Itm->Prop)(w:World)(e:Ending)(w':World):Prop:=∃(v:Value) (ss:List Itm),e=.returned v/\All X ss/\ItsV 181 w.heap.size ss v w'/\Below w.heap.size w w'
def AxI(w:World)(Bm:Nat)(x:Itm)(a':Act)(W:World):Prop:=∃Bx,w.heap.size<=Bx/\W.heap[Bx]?=some (.cells #[.int .i64 x.1,.int .i64 x.2] 181 (0,0))/\
 a'={tmps:=#[.slice none 0 0,seqv Bm,.pointer (some ⟨w.heap.size,0,none⟩),undef,.slice none 0 0,.pointer (some ⟨Bx,0,none⟩),seqv Bm,iv x,undef,undef,undef,undef,undef],defers:=[]}
theorem zSH(w)(Bm)(x)(a')(B):OwnFrom B (fun(_:Unit) W=>AxI w Bm x a' W):=by
 rintro s W W' row ⟨Bx,h1,h2,h3⟩ hg hr;refine⟨Bx,h1,(hg.block Bx (Array.getElem?_eq_some_iff.1 h2).1 fun e=>?_).trans h2,h3⟩;obtain⟨_,o,ho,hc⟩:=hr Bx e.symm;rw[h2]at ho;cases ho;cases hc
theorem appendSeq_in(F:Fence)(n:Nat)(h68:F.fn 234)(h53:F.fn 231)(hro:F.round=none)(hn:3<=n)(Bm b nn:Nat)(X:Itm->Prop)(w:World)(hBm:Bm<w.heap.size)(hm:w.cell? ⟨Bm,0,none⟩=some (.map (some b)))(hs:MS b nn X w)(hnn:nn<=1000000):
  CallsIn F n Tryz.prog 234 #[.slice none 0 0,seqv Bm] w (zR5 X w):=by
 have h1:1<=n:=by omega
 obtain⟨i0,hi,hz0,hz1,hz2⟩:=info_parts zDm;refine callsIn_of_wp_marks Tryz.func234 rfl h68 ?_ hro;simp only[Tryz.ntmps234,List.size_toArray,List.length_cons,List.length_nil,Nat.reduceAdd,Nat.reduceSub,Array.replicate_succ,Array.replicate_zero,List.push_toArray,List.append_toArray,List.nil_append,List.cons_append]
 gi_wp2
 have bO:=Boxed.new w 169 (.slice none 0 0);have hb0:Below w.heap.size w (w.alloc (.cells #[.slice none 0 0] 169)):=Gr.boxed _ _;have hsz:(w.alloc (.cells #[.slice none 0 0] 169)).heap.size=w.heap.size+1:=by simp
 have hst:=keys_stops F (n-1) h53 hro (by omega) Bm b nn X _ (by rw[hsz];omega) (Gr.cell_later hb0 hm) (hs.went hb0);clear hm hs
 refine wpIn_rangeFunc_ownH hro h1 (gf:=231) (lb:=#[.pointer (some ⟨Bm,0,none⟩)]) rfl h53 (enters_of Tryz.func231 (by kernel_rfl) rfl)
  hst walksK_t walksK_b (Below.refl _ _) (fun _=>rfl)
  (fun(pre:List Itm) W=>(∃v,Boxed W w.heap.size 169 v/\W.ownsRow w.heap.size 181 2 v pre.length (pre.flatMap ic)/\True)/\Below w.heap.size w W)
  (fun _ _ _=>False)
  (OwnFrom.and (Own.from (holdsRow_own w.heap.size w.heap.size 169 181 2 (fun(pre:List Itm)=>pre.length) (fun(pre:List Itm)=>pre.flatMap ic) (fun _ _=>True)) _) (ownFrom_below (Nat.le_refl _) (by rw[hsz];omega)))
  (fun _ _ _ _ _ hs _ _=>hs)
  ⟨⟨_,bO,World.ownsRow_nil _ _ _ _,trivial⟩,hb0⟩
  (AxI w Bm) (fun x a'=>zSH w Bm x a' _) ?assign ?body ?done ?stop
 case assign=>
  rintro l pre x W K ⟨⟨v,hv,hrow,_⟩,hB⟩ hK;have hx:iv x=.agg #[.int .i64 x.1,.int .i64 x.2]:=rfl;rw[hx]at*
  gi_wp2
  exact hK _ _ ((KeepsOthers.alloc _ _).from _) (KeepsWalks.alloc _ _) ⟨⟨v,hv.alloc _,hrow.alloc _,trivial⟩,hB.alloc hB.size _⟩ ⟨W.heap.size,hB.size,World.alloc_heap_new _ _,rfl⟩
 case body=>
  rintro l pre x a' W hl ⟨r,hr⟩ ⟨⟨v,hv,hrow,_⟩,hB⟩ ⟨Bx,hBx,bX,rfl⟩ hlt;have hc:=hv.cell;have c0:W.cell? ⟨Bx,0,none⟩=some (.int .i64 x.1):=by simp[World.cell?,bX]
  have c1:W.cell? ⟨Bx,1,none⟩=some (.int .i64 x.2):=by simp[World.cell?,bX]
  have hx:iv x=.agg #[.int .i64 x.1,.int .i64 x.2]:=rfl;rw[hx];clear hr bX hx
  gi_wp2_with (gi_at_builtin;refine wpListIn_append_own _ rfl _ _ 169 rfl w.heap.size 181 i0 (.agg #[.int .i64 0,.int .i64 0]) 2 16 Tryz.underlying169 hi hz0 hz1 hz2 rfl (by decide) _ _ _ rfl (hrow.alloc _) ⟨W.heap.size,0,none⟩ 1 1 (ic x) rfl rfl ?c1 ?c2 (by unfold maxLen;omega) (by omega) (by have:=hB.size;simp;omega) ?_)
  case c1=>
   intro i u hu
   match i,hu with
   |0,hu=>
    simp[ic]at hu;subst hu;simp[Addr.add]
   |1,hu=>
    simp[ic]at hu;subst hu;simp[Addr.add]
   |i+2,hu=>simp[ic]at hu
  case c2=>
   intro u hu;simp only[ic,List.mem_cons,List.not_mem_nil,or_false]at hu;rcases hu with rfl|rfl<;>rfl
  intro v' w1 hown' hgrow _;obtain⟨g',cap',rfl⟩:=ownsRow_succ hown';obtain⟨hv1,hv2,hr2,hk2,hb2⟩:=hv.appended (by decide) hrow hB.size (Nat.le_refl _) hown' hgrow;have hc1:=hv1.cell;have hf1:=hv1.frozen
  gi_wp2
  exact⟨hk2.from _,hk2.walks,⟨_,hv2,by simpa[ic]using hr2,trivial⟩,hB.trans hb2⟩
 case done=>
  rintro D ys W hD hS ⟨⟨v,hv,hrow,_⟩,hB⟩ hK;have hc:=hv.cell
  gi_wp2
  refine⟨by simp,.inl ⟨_,_,rfl,run_takeDeferred hK,?_⟩⟩;exact⟨_,results_tmp rfl _ _ _,v,ys,rfl,hS,ownsRow_putObj hrow _ hK rfl,hB.trans (belowK_b (w:=w) (Nat.le_refl _) W D _ _ (by rw[hsz]at hD;omega) hK rfl rfl)⟩
 case stop=>
  rintro D c pre W _ _ h _;exact h.elim
end Im
namespace Au
open Go.RowKit Go.Maps
open Gr (Gram Sh Box cell_later step)
open Im
theorem zVn:laidOutB Tryz.prog=true:=by kernel_rfl
theorem rowA:202<Tryz.prog.types.size:=of_decide_eq_true (by kernel_rfl)
theorem lawA:Keyed Tryz.prog 202:=.of_law (deep_law_laid zVn (m:=2) (by omega) rowA (by kernel_rfl) (by rw[Tryz.underlying202]))
theorem kaA:Ka Tryz.prog 202:=
 zVj lawA Tryz.underlying202 Tryz.underlying3 (by kernel_rfl) (by kernel_rfl) (by kernel_rfl) (Tryz.prog.types.size-1) (by have:=rowA;omega)
theorem lawS:Keyed Tryz.prog 9:=string_keyed Tryz.underlying9
theorem zRb(w):(zeroValue 3).run Tryz.prog w=.ok (.int .i64 0) w:=by kernel_rfl
theorem zJ8:(Tryz.prog.info? 169).map (fun i=>(i.zero,i.size,i.bytes))=some (some (.slice none 0 0),1,24):=by kernel_rfl
abbrev TM(b n:Nat)(X:Itm->Option Int)(w:World):Prop:=TMap Tryz.prog 202 3 b n X w
abbrev SM(b n:Nat)(L:List ByteArray)(w:World):Prop:=SMap Tryz.prog 9 3 b n L w
def LAt(S:Nat->Prop)(K:List Itm)(u:Value)(w:World):Prop:=∃a c,u=.slice a K.length c/\K.length<=c/\ItsA a K w/\(K≠[]->∀b o,a=some ⟨b,o,none⟩->¬S b)
theorem LAt.fr{S T}{K}{u}{w w'}(h:LAt S K u w)(f:Sep.Fr S w w')(x:Sep.Ext T S w):LAt T K u w':=by
 obtain⟨a,c,h1,h2,h3,h4⟩:=h
 by_cases hn:K=[]
 ·subst hn;exact⟨a,c,h1,h2,.nil _ _,fun q=>absurd rfl q⟩
 ·refine⟨a,c,h1,h2,h3.keep fun b o e=>f.block b (zGR h3 hn e) (h4 hn b o e),fun _ b o e q=>?_⟩;have:=zGR h3 hn e;rcases x b q with r|r
  ·exact h4 hn b o e r
  ·omega
theorem LAt.went{S}{K}{u}{w w'}(h:LAt S K u w)(hb:Below w.heap.size w w'):LAt S K u w':=h.fr (.of_below hb) (.refl _ _)
structure Parts (W:World) (p:Nat) (S:Nat->Prop) (h:Sh) (G:Gram) (ks:List (List Itm)) (X:Itm->Option Int) (n:Nat) (a:Option Addr) (c bt bn:Nat) (us:List Value) (w:World):Prop where
 below:Below W.heap.size W w
 box:Box p h G w
 items:w.cell? ⟨p,4,none⟩=some (.slice a ks.length c)
 targets:w.cell? ⟨p,5,none⟩=some (.map (some bt))
 numbers:w.cell? ⟨p,6,none⟩=some (.map (some bn))
 free:w.frozen? ⟨p,4,none⟩=false
 row:w.ownsRow W.heap.size 169 1 (.slice a ks.length c) ks.length us
 lists:∀i (h:i<ks.length) (h':i<us.length),LAt S ks[i] us[i] w
 tm:TM bt n X w
 sm:SM bn ks.length (zCV ks) w
 sp:S p
 st:S bt
 sn:S bn
 sr:∀g,(Value.slice a ks.length c).ownBlock=some g->S g
 tp:bt≠p
 np:bn≠p
 tn:bt≠bn
 rp:∀g,(Value.slice a ks.length c).ownBlock=some g->g≠p/\g≠bt/\g≠bn
 low:∀k,S k->W.heap.size<=k
 inn:Sep.Inn S w
theorem Parts.len{W}{p}{S}{h}{G}{ks}{X}{n}{a}{c bt bn}{us}{w}(k:Parts W p S h G ks X n a c bt bn us w):us.length=ks.length:=by
 have:=k.row.1;omega
theorem Parts.went{W}{p}{S}{h}{G}{ks}{X}{n}{a}{c bt bn}{us}{w w'}(k:Parts W p S h G ks X n a c bt bn us w)(hb:Below w.heap.size w w'):Parts W p S h G ks X n a c bt bn us w':=
 ⟨Gr.step k.below hb,k.box.later hb,cell_later hb k.items,cell_later hb k.targets,cell_later hb k.numbers,(World.frozen?_of_block (a:=⟨p,4,none⟩) (hb.block p (k.inn p k.sp))).trans k.free,Sep.zAE k.row fun g hg=>hb.block g (k.inn g (k.sr g hg)),fun i h1 h2=>(k.lists i h1 h2).went hb,k.tm.keep (hb.block _ (k.inn _ k.st)),k.sm.keep (hb.block _ (k.inn _ k.sn)),k.sp,k.st,k.sn,k.sr,k.tp,k.np,k.tn,k.rp,k.low,k.inn.le hb.size⟩
def BAt(W:World)(p:Nat)(S:Nat->Prop)(h:Sh)(G:Gram)(ks:List (List Itm))(X:Itm->Option Int)(n:Nat)(w:World):Prop:=∃a c bt bn us,Parts W p S h G ks X n a c bt bn us w
theorem BAt.went{W}{p}{S}{h}{G}{ks}{X}{n}{w w'}(k:BAt W p S h G ks X n w)(hb:Below w.heap.size w w'):BAt W p S h G ks X n w':=by
 obtain⟨a,c,bt,bn,us,k⟩:=k;exact⟨a,c,bt,bn,us,k.went hb⟩
theorem BAt.inn{W}{p}{S}{h}{G}{ks}{X}{n}{w}(k:BAt W p S h G ks X n w):Sep.Inn S w:=by
 obtain⟨a,c,bt,bn,us,k⟩:=k;exact k.inn
theorem BAt.eq{W}{p}{S}{h}{G}{ks}{X Y}{n m}{w}(k:BAt W p S h G ks X n w)(e:∀x,X x=Y x)(hm:n<=m):BAt W p S h G ks Y m w:=by
 obtain⟨a,c,bt,bn,us,k⟩:=k;exact⟨a,c,bt,bn,us,{k with tm:=(k.tm.eq e).mono hm}⟩
theorem Parts.at{W}{p}{S}{h}{G}{ks}{X}{n}{a}{c bt bn}{us}{w}(k:Parts W p S h G ks X n a c bt bn us w){i}(hi):
  ∃b a' c',a=some ⟨b,0,none⟩/\w.cell? ⟨b,i,none⟩=some (.slice a' ks[i].length c')/\ks[i].length<=c'/\ItsA a' ks[i] w/\(ks[i]≠[]->∀b o,a'=some ⟨b,o,none⟩->¬S b):=by
 have hl:=k.len;obtain⟨a',c',e,h1,h2,h3⟩:=k.lists i hi (by omega);rcases k.row.2 with⟨_,h0⟩|⟨g,cap,cur,he,_⟩
 ·omega
 ·simp only[Value.slice.injEq]at he;obtain⟨rfl,_,_⟩:=he;have:=World.ownsRow.cells k.row (g:=g) rfl i us[i] (List.getElem?_eq_getElem (by omega));rw[WideShapes.add_plain]at this;refine⟨g,a',c',rfl,?_,h1,h2,h3⟩;rw[←e]
  simpa using this
theorem zTl{W}{p}{S}{h}{G}{ks}{X}{n}{a}{c bt bn}{us}{w}(k:Parts W p S h G ks X n a c bt bn us w):(Value.slice a ks.length c).ownBlock=none\/(Value.slice a ks.length c).ownBlock≠some bn:=by
 cases hb:(Value.slice a ks.length c).ownBlock with
 |none=>exact .inl rfl
 |some g=>exact .inr fun e=>(k.rp g hb).2.2 (by injection e)
theorem Parts.turn{W}{p}{S}{h}{G}{ks}{X Y}{n m}{a}{c bt bn}{us}{w w'}(k:Parts W p S h G ks X n a c bt bn us w)(f:Sep.Fr (· =bt) w w')(ht:TM bt m Y w'):Parts W p S h G ks Y m a c bt bn us w':=
 have e (q:Nat) (hq:S q) (hne:q≠bt):w'.heap[q]?=w.heap[q]?:=f.block q (k.inn q hq) hne;have ep:=e p k.sp fun q=>k.tp q.symm
 have F:Sep.Fr S w w':=f.mono fun q hq=>hq▸k.st
 ⟨k.below.trans (F.below k.low k.below.size),⟨(World.cell?_of_block (a:=⟨p,0,none⟩) ep).trans k.box.x0,(World.cell?_of_block (a:=⟨p,1,none⟩) ep).trans k.box.x1,(World.cell?_of_block (a:=⟨p,2,none⟩) ep).trans k.box.x2,(World.cell?_of_block (a:=⟨p,3,none⟩) ep).trans k.box.x3⟩,
  (World.cell?_of_block (a:=⟨p,4,none⟩) ep).trans k.items,(World.cell?_of_block (a:=⟨p,5,none⟩) ep).trans k.targets,(World.cell?_of_block (a:=⟨p,6,none⟩) ep).trans k.numbers,(World.frozen?_of_block (a:=⟨p,4,none⟩) ep).trans k.free,
  Sep.zAE k.row fun g hg=>e g (k.sr g hg) (k.rp g hg).2.1,fun i h1 h2=>(k.lists i h1 h2).fr F (.refl _ _),ht,k.sm.keep (e bn k.sn fun q=>k.tn q.symm),k.sp,k.st,k.sn,k.sr,k.tp,k.np,k.tn,k.rp,k.low,k.inn.le f.size⟩
theorem added{W}{p}{S}{h}{G}{ks}{X}{n}{a a'}{c c' bt bn}{us}{w w1 w2}{K}{u}
  (k:Parts W p S h G ks X n a c bt bn us w) (hu:LAt S K u w)
  (hm1:SM bn (ks.length+1) (zCV ks++[keyB K]) w1) (hg1:w.grownBy w1 (some bn))
  (hown2:w2.ownsRow W.heap.size 169 1 (.slice a' (ks.length+1) c') (ks.length+1) (us++[u]))
  (hg2:(w1.alloc (.cells #[u] 169)).grownBy w2 (Value.slice a ks.length c).ownBlock)
  (hloc:(Value.slice a' (ks.length+1) c').ownBlock=(Value.slice a ks.length c).ownBlock\/(Value.slice a' (ks.length+1) c').ownBlock=some (w1.alloc (.cells #[u] 169)).heap.size):
  ∃T,BAt W p T h G (ks++[K]) X n (w2.setCell ⟨p,4,none⟩ (.slice a' (ks.length+1) c'))/\Sep.Fr S w (w2.setCell ⟨p,4,none⟩ (.slice a' (ks.length+1) c'))/\Sep.Ext T S w:=by
 have hp:p<w.heap.size:=k.inn p k.sp;have hsz1:w.heap.size<=w1.heap.size:=hg1.size;have hsz2:w1.heap.size+1<=w2.heap.size:=by have:=hg2.size;simpa using this
 have hrow:∀g,(Value.slice a ks.length c).ownBlock=some g->S g/\g<w.heap.size/\g≠p/\g≠bt/\g≠bn:=fun g hg=>⟨k.sr g hg,k.inn g (k.sr g hg),k.rp g hg⟩
 have hrow':∀g,(Value.slice a' (ks.length+1) c').ownBlock=some g->((Value.slice a ks.length c).ownBlock=some g\/w.heap.size<=g)/\g<w2.heap.size/\W.heap.size<=g:=fun g hg=>by
  refine⟨?_,(hown2.lt g hg).2,(hown2.lt g hg).1⟩;rcases hloc with e|e
  ·exact .inl (e.symm.trans hg)
  ·have e2:=e.symm.trans hg;injection e2 with e2
   simp at e2;exact .inr (by omega)
 have F2:Sep.Fr S w w2:=Sep.Fr.grown (w:=w1.alloc (.cells #[u] 169)) (Sep.Fr.alloc (Sep.Fr.grown (.refl _ _) hg1 fun q hq=>by injection hq with hq;subst hq;exact .inl k.sn) _) hg2 fun q hq=> .inl (hrow q hq).1
 have F3:Sep.Fr S w (w2.setCell ⟨p,4,none⟩ (.slice a' (ks.length+1) c')):=Sep.Fr.setCell F2 _ k.sp _
 have X3:Sep.Ext (fun q=>S q\/(Value.slice a' (ks.length+1) c').ownBlock=some q) S w:=by
  rintro q (hq|hq)
  ·exact .inl hq
  ·rcases(hrow' q hq).1 with e|e
   ·exact .inl (hrow q e).1
   ·exact .inr e
 have hkeep:∀q,q<w.heap.size->q≠bn->(Value.slice a ks.length c).ownBlock≠some q->w2.heap[q]?=w.heap[q]?:=fun q hq h1 h2=>by
  rw[hg2.block q (by simp;omega) (fun e=>h2 e.symm),Below.heap_alloc _ _ _ (by omega),hg1.block q hq (fun e=>h1 (by injection e))]
 have ep:w2.heap[p]?=w.heap[p]?:=hkeep p hp (fun e=>k.np e.symm) fun e=>(hrow p e).2.2.1 rfl
 have cell:∀j v,j≠4->w.cell? ⟨p,j,none⟩=some v->(w2.setCell ⟨p,4,none⟩ (.slice a' (ks.length+1) c')).cell? ⟨p,j,none⟩=some v:=fun j v hj hc=>by
  rw[World.cell?_setCell_other _ _ _ _ (fun e=>hj (congrArg Addr.off e).symm)];exact(World.cell?_of_block (a:=⟨p,j,none⟩) ep).trans hc
 have hbn:bn<w1.heap.size:=hm1.lt;have hl3:∀q,q≠p->(w2.setCell ⟨p,4,none⟩ (.slice a' (ks.length+1) c')).heap[q]?=w2.heap[q]?:=fun q hq=>Below.heap_setCell _ _ _ _ hq
 refine⟨_,⟨a',c',bt,bn,us++[u],?_⟩,F3,X3⟩;have hel:(ks++[K]).length=ks.length+1:=by simp
 refine⟨k.below.trans (F3.below k.low k.below.size),⟨cell 0 _ (by omega) k.box.x0,cell 1 _ (by omega) k.box.x1,cell 2 _ (by omega) k.box.x2,cell 3 _ (by omega) k.box.x3⟩,?_,cell 5 _ (by omega) k.targets,cell 6 _ (by omega) k.numbers,?_,?_,?_,?_,?_,.inl k.sp,.inl k.st,.inl k.sn,?_,k.tp,k.np,k.tn,?_,?_,?_⟩
 ·rw[hel];exact World.cell?_setCell_same _ _ _ ((World.cell?_of_block (a:=⟨p,4,none⟩) ep).trans k.items)
 ·rw[World.frozen?_setCell];exact(World.frozen?_of_block (a:=⟨p,4,none⟩) ep).trans k.free
 ·rw[hel];refine Sep.zAE hown2 fun g hg=>hl3 g fun e=>?_
  subst e;rcases(hrow' g hg).1 with q|q
  ·exact(hrow g q).2.2.1 rfl
  ·omega
 ·intro i h1 h2;have hul:=k.len
  have key:LAt S (ks++[K])[i] (us++[u])[i] w:=by
   by_cases hi:i<ks.length
   ·rw[List.getElem_append_left hi,List.getElem_append_left (by omega)];exact k.lists i hi (by omega)
   ·rw[List.getElem_append_right (by omega),List.getElem_append_right (by omega)]
    simpa using hu
  exact key.fr F3 X3
 ·refine k.tm.keep ((hl3 bt k.tp).trans (hkeep bt (k.inn _ k.st) k.tn fun e=>(hrow bt e).2.2.2.1 rfl))
 ·rw[hel];have:zCV (ks++[K])=zCV ks++[keyB K]:=by simp[zCV]
  rw[this];refine hm1.keep ((hl3 bn k.np).trans ?_);rw[hg2.block bn (by simp;omega) (fun e=>(hrow bn e.symm).2.2.2.2 rfl),Below.heap_alloc _ _ _ hbn]
 ·rw[hel];exact fun g hg=> .inr hg
 ·rw[hel];intro g hg;rcases(hrow' g hg).1 with q|q
  ·exact(hrow g q).2.2
  ·have h1:=k.inn _ k.st;have h2:=k.inn _ k.sn;exact⟨by omega,by omega,by omega⟩
 ·rintro q (hq|hq)
  ·exact k.low q hq
  ·exact(hrow' q hq).2.2
 ·rintro q (hq|hq)
  ·have:=k.inn q hq;rw[show(w2.setCell ⟨p,4,none⟩ (.slice a' (ks.length+1) c')).heap.size=w2.heap.size by simp[World.setCell]];omega
  ·rw[show(w2.setCell ⟨p,4,none⟩ (.slice a' (ks.length+1) c')).heap.size=w2.heap.size by simp[World.setCell]];exact(hrow' q hq).2.1
end Au
namespace Au
open Go.RowKit Go.Maps
open Gr (Gram Sh cell_later)
open Im
open It (isIn num)
def zIB(ks:List (List Itm))(K:List Itm):List (List Itm):=if K∈ks then ks else ks++[K]
def numK(ks:List (List Itm))(K:List Itm):Nat:=(ks++[K]).idxOf K
theorem zRl{W}{p}{S}{h}{G}{ks}{X}{n}{a}{c bt bn}{us}{w1 w2}(k:Parts W p S h G ks X n a c bt bn us w1)(hg:w1.grownBy w2 (some bn)):
  W.heap.size<=w2.heap.size/\∀(w3:World) (o:Obj),(w2.alloc o).grownBy w3 (Value.slice a ks.length c).ownBlock->w3.cell? ⟨p,4,none⟩=some (.slice a ks.length c)/\w3.frozen? ⟨p,4,none⟩=false:=by
 have h1:=k.below.size;have h2:=hg.size;have h3:=k.inn p k.sp;refine⟨by omega,fun w3 o hg3=>?_⟩
 have e:w3.heap[p]?=w1.heap[p]?:=by
  rw[hg3.block p (by simp;omega) (fun e=>(k.rp p e.symm).1 rfl),Below.heap_alloc _ _ _ (by omega),hg.block p h3 (fun e=>k.np (by injection e with e;exact e.symm))]
 exact⟨(World.cell?_of_block (a:=⟨p,4,none⟩) e).trans k.items,(World.frozen?_of_block (a:=⟨p,4,none⟩) e).trans k.free⟩
def zO8(W:World)(r:Nat)(p:Nat)(S:Nat->Prop)(h:Sh)(G:Gram)(ks:List (List Itm))(X:Itm->Option Int)(n:Nat)(w:World)(e:Ending)(w':World):Prop:=
 e=.returned (.int .i64 (r:Int))/\∃T,BAt W p T h G ks X n w'/\Sep.Fr S w w'/\Sep.Ext T S w/\∀v,w.cell? ⟨p,5,none⟩=some v->w'.cell? ⟨p,5,none⟩=some v
theorem zGV{W:World}{p:Nat}{S:Nat->Prop}{h:Sh}{G:Gram}{ks:List (List Itm)}{X:Itm->Option Int}{n:Nat}(w:World)(k:BAt W p S h G ks X n w)(K:List Itm)(a:Option Addr)(c:Nat)(hK:LAt S K (.slice a K.length c) w)
  (hf:Fit3 K) (hs:∀x∈ks,Fit3 x) (hn:ks.Nodup) (hl:ks.length<=1000000) (hL:K.length<=1000000):
  Calls Tryz.prog 108 #[.pointer (some ⟨p,0,none⟩),.slice a K.length c] w (zO8 W (numK ks K) p S h G (zIB ks K) X n w):=by
 obtain⟨a0,c0,bt,bn,us,k⟩:=k;have KE:=zV7 (zS7 K a c w (by obtain⟨_,_,e,_,h3,_⟩:=hK;simp only[Value.slice.injEq]at e;rw[e.1];exact h3) hf hL);have hsz:(keyB K).size<=maxLen:=by rw[zNO];unfold maxLen;omega
 by_cases hin:K∈ks
 ·have hi:=(zNQ hs hf).2 hin;have e1:zIB ks K=ks:=if_pos hin
  have e2:numK ks K=num (zCV ks) (keyB K):=by
   unfold numK;rw[List.idxOf_append,if_pos hin,zS9 hs hf hn hin]
  rw[e1,e2];have k0:=zV7 k;clear hK k hf hs hn hl hL hin e1 e2;go_enter Tryz.func108,Tryz.ntmps108
  go_wp2_with (first
   |(go_at_call 130;refine KE.out.mono ?_;rintro e w1 ⟨rfl,hb⟩;have k1:=zV7 (k0.out.went hb);have HB:=zV7 hb;have q1:=k1.out.items;have q2:=k1.out.numbers;clear hb)
   | (at_lookup;refine zDN _ rfl _ _ rfl lawS Tryz.underlying9 Tryz.underlying164 Tryz.underlying3 (zRb _) bn ks.length (zCV ks) rfl k1.out.sm (keyB K) rfl hsz ?_))
  go_ret;exact⟨rfl,S,⟨a0,c0,bt,bn,us,k1.out⟩,.of_below HB.out,.refl _ _,fun v hv=>cell_later HB.out hv⟩
 ·have hi:isIn (zCV ks) (keyB K)=false:=by
   cases e:isIn (zCV ks) (keyB K)with
   |false=>rfl
   |true=>exact absurd ((zNQ hs hf).1 e) hin
  have e1:zIB ks K=ks++[K]:=if_neg hin
  have e2:numK ks K=ks.length:=by
   unfold numK;rw[List.idxOf_append,if_neg hin];simp
  rw[e1,e2];have hkl:(zCV ks).length=ks.length:=by simp[zCV]
  obtain⟨i0,hj,hz0,hz1,hz2⟩:=info_parts zJ8;have k0:=zV7 k;have U0:=zV7 hK;clear hK k hf hs hn hin e1 e2;go_enter Tryz.func108,Tryz.ntmps108
  go_wp2_with (first
   |(go_at_call 130;refine KE.out.mono ?_;rintro e w1 ⟨rfl,hb⟩;have k1:=zV7 (k0.out.went hb);have U1:=zV7 (U0.out.went hb);have HB:=zV7 hb;have q1:=k1.out.items;have q2:=k1.out.numbers;clear hb)
   |(at_lookup;refine zDN _ rfl _ _ rfl lawS Tryz.underlying9 Tryz.underlying164 Tryz.underlying3 (zRb _) bn ks.length (zCV ks) rfl k1.out.sm (keyB K) rfl hsz ?_)
   |(at_mapUpdate;refine zFu _ rfl _ _ _ rfl lawS Tryz.underlying9 Tryz.underlying164 Tryz.underlying3 bn ks.length (zCV ks) rfl k1.out.sm (by unfold maxLen;omega) (keyB K) rfl hsz hi _ rfl (by rw[hkl]) (by omega) ?_;intro w2 hm2 hg2;have M2:=zV7 hm2;have G2:=zV7 hg2;have ep:=hg2.block p (k1.out.inn p k1.out.sp) (fun e=>k1.out.np (by injection e with e;exact e.symm));have q3:=(World.cell?_of_block (a:=⟨p,4,none⟩) ep).trans k1.out.items;have f3:=(World.frozen?_of_block (a:=⟨p,4,none⟩) ep).trans k1.out.free;have R3:=zV7 (k1.out.row.kept hg2 (zTl k1.out));have hw2:=(zRl k1.out hg2).1;have KP:=zV7 (zRl k1.out hg2).2;clear hm2 hg2 ep)
   | (at_builtin;refine wpList_append_own_at _ rfl _ _ 165 rfl W.heap.size 169 i0 (.slice none 0 0) 1 24 Tryz.underlying165 hj hz0 hz1 hz2 rfl (by decide) _ _ _ rfl (R3.out.alloc _) ⟨w2.heap.size,0,none⟩ 1 1 [.slice a K.length c] rfl rfl (cell_one_new _ _ _) (by simp[Value.oneCell']) (by unfold maxLen;omega) (by omega) (by simp;omega) ?_;intro v' w3 hown3 hg3 _ hloc;obtain⟨q5,f5⟩:=KP.out _ _ hg3;obtain⟨a',c',rfl⟩:=Sep.zBC hown3;have O3:=zV7 hown3;have G3:=zV7 hg3;have HL:=zV7 hloc;clear hown3 hg3 hloc))
  go_ret;obtain⟨T,t1,t2,t3⟩:=added k1.out U1.out M2.out G2.out O3.out G3.out HL.out;refine⟨rfl,T,t1,(Sep.Fr.of_below HB.out).trans t2 (.refl _ _),t3.at HB.out.size,fun v hv=>?_⟩;rw[World.cell?_setCell_other _ _ _ _ (fun q=>by have:=congrArg Addr.off q;simp at this)];have hp1:=k1.out.inn p k1.out.sp;have h2:=G2.out.size
  have e:w3.heap[p]?=w1.heap[p]?:=by
   rw[G3.out.block p (by simp;omega) (fun e=>(k1.out.rp p e.symm).1 rfl),Below.heap_alloc _ _ _ (by omega),G2.out.block p hp1 (fun e=>k1.out.np (by injection e with e;exact e.symm))]
  exact(World.cell?_of_block (a:=⟨p,5,none⟩) e).trans (cell_later HB.out hv)
end Au
namespace Pk
open Go.RowKit Go.Maps Go.ChangeShapes Go.WideShapes Go.Deep Go.Joins
open Gr (Within zBc zCf zBh zDT zJE zKh Fits)
open Im (ItsA zKA)
section
variable {H:Type} {enc:TypeId×Value->H} {P:Program} {w:World} {base:Nat} {spare:Nat->Bool} {held:Bool}
theorem zUK{α:Type}{cs:Array α}(h:cs.size=5):∃c0 c1 c2 c3 c4,cs=#[c0,c1,c2,c3,c4]:=by
 obtain⟨l⟩:=cs
 match l,h with
 |[c0,c1,c2,c3,c4],_=>exact⟨c0,c1,c2,c3,c4,rfl⟩
theorem zNy{r:Reach}{b0:Nat}{t:TypeId}{f0 f1 f2 f3 f4:Field}{v:Value}{d:DataW H}{p:List MemPlace}(hs:P.underlying t=some (.struct #[f0,f1,f2,f3,f4]))(hone:oneCellFields P #[f0,f1,f2,f3,f4]=true)(hC:P.cellsOf t=5)
  (hv:Value.okWide P w r b0 t v) (h:DataW.Trod enc P w base spare held t v d p):
  ∃(v0 v1 v2 v3 v4:Value) (y0 y1 y2 y3 y4:DataW H×List MemPlace) (n:Nat),v=.agg #[v0,v1,v2,v3,v4]/\d=.agg [y0.1,y1.1,y2.1,y3.1,y4.1]/\
   DataW.trod enc P w base spare held n f0.type [v0]=some y0/\DataW.trod enc P w base spare held n f1.type [v1]=some y1/\DataW.trod enc P w base spare held n f2.type [v2]=some y2/\DataW.trod enc P w base spare held n f3.type [v3]=some y3/\DataW.trod enc P w base spare held n f4.type [v4]=some y4:=by
 obtain⟨cs,rfl,hsz⟩:=okWide_struct hs hv;obtain⟨c0,c1,c2,c3,c4,rfl⟩:=zUK (hsz.trans hC);obtain⟨fuel,hf⟩:=h;obtain⟨xs,n,_,hx,hl,hlen,hff⟩:=DataW.trod_struct hs hf
 match xs,hlen with
 |[y0,y1,y2,y3,y4],_=>
  obtain⟨o0,k0⟩:=hone_of hone 0 f0 rfl;obtain⟨o1,k1⟩:=hone_of hone 1 f1 rfl;obtain⟨o2,k2⟩:=hone_of hone 2 f2 rfl;obtain⟨o3,k3⟩:=hone_of hone 3 f3 rfl;obtain⟨o4,k4⟩:=hone_of hone 4 f4 rfl;have h0:=hff 0 f0 rfl;have h1:=hff 1 f1 rfl;have h2:=hff 2 f2 rfl;have h3:=hff 3 f3 rfl;have h4:=hff 4 f4 rfl;simp only[Prod.mk.injEq]at hx;exact⟨c0,c1,c2,c3,c4,y0,y1,y2,y3,y4,n,rfl,by simpa using hx.1,by simpa[Value.cells,o0,k0]using h0,by simpa[Value.cells,o1,k1]using h1,by simpa[Value.cells,o2,k2]using h2,by simpa[Value.cells,o3,k3]using h3,by simpa[Value.cells,o4,k4]using h4⟩
theorem zIW{α:Type}{R:Option Addr->List α->World->Prop}{F:List α->Prop}{t e:TypeId}(ht:P.underlying t=some (.slice e))(hc:P.cellsOf e=1)(hb:P.bytesOf e=24)
  (one:∀(fuel:Nat) (v:Value) (x:DataW H×List MemPlace),DataW.trod enc P w 0 (fun _=>true) true fuel e [v]=some x->Within P e x.1->∃a c,∃L:List α,v=.slice a L.length c/\R a L w/\L.length<=c/\c<=35184372088832/\F L)
  {fuel:Nat} {v:Value} {x:DataW H×List MemPlace} (h:DataW.trod enc P w 0 (fun _=>true) true fuel t [v]=some x) (hz:Within P t x.1):
  ∃a c,∃X:List (List α),v=.slice a X.length c/\zEf R a X w/\X.length<=c/\c<=8796093022208/\∀L∈X,F L:=by
 rcases open_slice1 ht hc h with⟨hcs,_⟩|⟨a,len,cap,m,n,V,D,Pl,hcs,_,hl,hm,hmm,rfl,hi⟩
 ·simp at hcs;subst hcs;exact⟨none,0,[],rfl,.nil _ _ _,Nat.le_refl _,by omega,fun L hL=>by cases hL⟩
 ·simp at hcs;subst hcs;simp only[if_true]at hmm;subst hmm;have hcap:=zBc hz ht;rw[hb]at hcap;simp at hcap
  have each:∀i,i<len->∃y:List α,∃ra rc,V i=.slice ra y.length rc/\R ra y w/\y.length<=rc/\rc<=35184372088832/\F y:=fun i hil=>by
   obtain⟨hc0,ht0⟩:=hi i (by omega);have hzi:=zCf hz ht (d:=D i) (by simp only[List.mem_map];exact⟨i,List.mem_range.2 hil,rfl⟩);obtain⟨ra,rc,L,h1,h2,h3,h4,h5⟩:=one n (V i) (D i,Pl i) ht0 hzi;exact⟨L,ra,rc,h1,h2,h3,h4,h5⟩
  obtain⟨f,hf⟩:=choose_lt each;refine⟨some a,m,(List.range len).map f,by simp,fun i hil=>?_,by simpa using hl,by omega,fun L hL=>?_⟩
  ·simp only[List.length_map,List.length_range]at hil;obtain⟨ra,rc,h1,h2,h3,h4,h5⟩:=hf i hil;have hc0:=(hi i (by omega)).1;obtain⟨bb,off,spot⟩:=a;have hspot:spot=none:=by simpa[Addr.add]using World.cell?_spot (hi 0 (by omega)).1
   subst hspot;rw[WideShapes.add_plain,h1]at hc0;simp only[List.getElem_map,List.getElem_range];exact⟨bb,off,ra,rc,rfl,hc0,h2,h3,by omega⟩
  ·obtain⟨i,hil,rfl⟩:=List.mem_map.1 hL;obtain⟨ra,rc,h1,h2,h3,h4,h5⟩:=hf i (List.mem_range.1 hil);exact h5
end
section
variable {H:Type} {enc:TypeId×Value->H} {w:World}
theorem zRL{r:Reach}{b0:Nat}{v:Value}{d:DataW H}{p:List MemPlace}(hv:Value.okWide Tryz.prog w r b0 26 v)(h:DataW.Trod enc Tryz.prog w 0 (fun _=>true) true 26 v d p)(hz:Within Tryz.prog 26 d):
  ∃T aR cR aA cA aG cG,v=.agg (tvs T aR cR aA cA aG cG)/\TAt T aR cR aA cA aG cG w:=by
 obtain⟨v0,v1,v2,v3,v4,y0,y1,y2,y3,y4,n,rfl,rfl,h0,h1,h2,h3,h4⟩:=zNy Tryz.underlying26 (by kernel_rfl) (by kernel_rfl) hv h;obtain⟨aR,cR,R,rfl,r3,l3,m3,s3,s4⟩:=zKh h0 (zBh hz Tryz.underlying26 (j:=0) (t':=22) rfl rfl);obtain⟨t,hk,_,ht⟩:=DataW.trod_int Tryz.underlying3 h1;obtain⟨s,hk2,_,hs⟩:=DataW.trod_int Tryz.underlying3 h2;simp at hk hk2;subst hk hk2
 obtain⟨aA,cA,A,rfl,rA,lA,mA,sA⟩:=zIW (R:=ItsA) (F:=fun L=>∀x∈L,Fits x.1/\Fits x.2) Tryz.underlying23 (by kernel_rfl) (by kernel_rfl) (fun fuel v x hx hzx=>by
  obtain⟨a,c,X,e,h1,h2,h3,h4⟩:=zKA Tryz.underlying53 Tryz.underlying57 (by kernel_rfl) rfl rfl (by kernel_rfl) (by kernel_rfl) (by kernel_rfl) Tryz.underlying3 Tryz.underlying3 hx hzx
  exact⟨a,c,X,e,h1,h2,by omega,fun x hx=>⟨zDT (h4 x hx).1,zDT (h4 x hx).2⟩⟩) h3 (zBh hz Tryz.underlying26 (j:=3) (t':=23) rfl rfl)
 obtain⟨aG,cG,G,rfl,rG,lG,mG,sG⟩:=zIW (R:=IntA) (F:=fun L=>∀x∈L,Fits x) Tryz.underlying24 (by kernel_rfl) (by kernel_rfl) (fun fuel v x hx hzx=>by
  obtain⟨a,c,X,e,h1,h2,h3,h4⟩:=zJE hx hzx
  exact⟨a,c,X,e,h1,h2,by omega,h4⟩) h4 (zBh hz Tryz.underlying26 (j:=4) (t':=24) rfl rfl)
 exact⟨⟨R,t,s,A,G⟩,aR,cR,aA,cA,aG,cG,rfl,⟨RulA.of r3,rA,rG,l3,by dsimp only;omega,by dsimp only;omega,by dsimp only;omega,⟨zDT ht,zDT hs,s3,s4,sA,sG⟩⟩⟩
end
