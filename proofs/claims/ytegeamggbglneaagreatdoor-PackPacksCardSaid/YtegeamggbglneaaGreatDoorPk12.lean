/- A part of the proof. -/
import Derived.DeepKeys4
import Derived.Test.YtegeamggbglneaaGreatDoorPk06
import Derived.Test.YtegeamggbglneaaGreatDoorPk08
import Derived.Test.YtegeamggbglneaaGreatDoorItemLay
set_option maxHeartbeats 2000000
set_option maxRecDepth 100000
set_option linter.unusedVariables false
namespace Go.Proofs.YtegeamggbglneaaGreatDoor
open Go.RowKit Go.Maps
namespace Im
open Gr (Gram Sh gv GAt Bx boxed zAY zAF zDz zAC zAT cell_later zAD)
theorem zVo:laidOutB Tryz.prog=true:=by kernel_rfl
theorem rowI:181<Tryz.prog.types.size:=of_decide_eq_true (by kernel_rfl)
theorem lawI:Keyed Tryz.prog 181:=.of_law (deep_law_laid zVo (m:=2) (by omega) rowI (by kernel_rfl) (by rw[Tryz.underlying181]))
theorem ktI:Kt Tryz.prog 181:=
 zVm _ _ lawI Tryz.underlying181 Tryz.underlying3 Tryz.underlying3 (by kernel_rfl) (by kernel_rfl) (by kernel_rfl) (by kernel_rfl) rfl rfl (by decide) (by decide) (Tryz.prog.types.size-1) (by have:=rowI;omega)
theorem zVJ(w):(zeroValue 288).run Tryz.prog w=.ok (.agg #[]) w:=by kernel_rfl
abbrev MS(b n:Nat)(X:Itm->Prop)(w:World):Prop:=MSet (H:=Nat) Tryz.prog 181 unitElem (.agg []) b n X w
abbrev MR(b r n q:Nat)(X Lf:Itm->Prop)(w:World):Prop:=MRan (H:=Nat) Tryz.prog 181 unitElem (.agg []) b r n q X Lf w
structure Bi (W:World) (h:Sh) (G:Gram) (x:Itm) (w:World):Prop where
 bx:Bx W h G w
 i0:w.cell? ⟨W.heap.size+1,0,none⟩=some (.int .i64 x.1)
 i1:w.cell? ⟨W.heap.size+1,1,none⟩=some (.int .i64 x.2)
theorem Bi.start(h)(G)(x)(w)(T U):Bi w h G x ((w.alloc (.cells #[.slice h.a1 G.terms.length h.c1,.slice h.a2 G.nons.length h.c2,.slice h.a3 G.rules.length h.c3,.int .i64 G.start] T)).alloc (.cells #[.int .i64 x.1,.int .i64 x.2] U)):=
 ⟨(Bx.start h G w T).alloc _,zAC (by simp) rfl,zAC (by simp) rfl⟩
theorem Bi.went{W}{h}{G}{x}{w w'}(k:Bi W h G x w)(hb:Below w.heap.size w w'):Bi W h G x w':=⟨k.bx.went hb,cell_later hb k.i0,cell_later hb k.i1⟩
theorem Bi.alloc{W}{h}{G}{x}{w}(k:Bi W h G x w)(o):Bi W h G x (w.alloc o):=k.went (boxed _ _)
theorem Bi.below{W}{h}{G}{x}{w}(k:Bi W h G x w):Below W.heap.size W w:=k.bx.below
theorem zGo(h)(G)(w)(k:GAt h G w):
  Calls Tryz.prog 131 #[gv h G] w (Gr.Is (.int .i64 (G.rules.length:Int)) w):=by
 have t:=k.r2;clear k;unfold gv;go_enter Tryz.func131,Tryz.ntmps131;go_wp2;go_ret;exact⟨rfl,boxed _ _⟩
theorem zQ9{G}{x}:zAI G x=(zAY G x.1&&decide (0<=x.2)&&decide (x.2<=((zAF G x.1).2.length:Int))):=by
 unfold zAI rlen;rw[Bool.and_assoc]
 congr 1
 rw[Bool.eq_iff_iff];simp
theorem zEp(h:Sh)(G:Gram)(x:Itm)(w:World)(k:GAt h G w):
  Calls Tryz.prog 214 #[gv h G,iv x] w (Gr.Is (.bool (zAI G x)) w):=by
 have R:=zV7 (fun w1 (b:Below w.heap.size w w1)=>zDz h G x.1 w1 (k.went b));clear k;rw[zQ9];obtain⟨xr,xd⟩:=x;generalize zAF G (xr,xd).1=r at R⊢;generalize zAY G (xr,xd).1=rb at R⊢;have X:=zV7 (Bi.start h G (xr,xd) w 47 181);unfold gv iv;dsimp only at R X⊢;go_enter Tryz.func214,Tryz.ntmps214;go_wp2_with (go_at_call 98;refine(R.out _ X.out.below).mono ?_;rintro e w1 ⟨a,c,rfl,hr,hb⟩;have X:=zV7 ((X.out.went hb).alloc (.cells #[.int .i64 r.1,.slice a r.2.length c] 55));have HR:=zV7 hr;have y0:=X.out.i0;have y1:=X.out.i1;clear hb hr)
 all_goals
  go_ret;exact⟨zAD (by first|(simp_all;done)|(simp_all;omega)),X.out.below⟩
def zLb(G:Gram)(x:Itm):Bool:=decide (0<=x.2/\x.2<((zAF G x.1).2.length:Int))
def zQS(G:Gram)(x:Itm):Int:=if zLb G x then(zAF G x.1).2.getD x.2.toNat 0 else 0
theorem zTH{G}{x}(h:zAI G x=true):zLb G x=behB G x/\zQS G x=behV G x:=by
 have e:zLb G x=behB G x:=by
  have:=zAS.1 h;rw[Bool.eq_iff_iff,zAu];unfold zLb;rw[decide_eq_true_iff];exact⟨fun k=>⟨h,k.2⟩,fun k=>⟨this.2.1,k.2⟩⟩
 exact⟨e,by unfold zQS behV;rw[e]⟩
theorem zKy(h:Sh)(G:Gram)(x:Itm)(w:World)(k:GAt h G w):
  Calls Tryz.prog 216 #[gv h G,iv x] w (Gr.Is (.tuple #[.int .i64 (zQS G x),.bool (zLb G x)]) w):=by
 have R:=zV7 (fun w1 (b:Below w.heap.size w w1)=>zDz h G x.1 w1 (k.went b));clear k;unfold zQS zLb;obtain⟨xr,xd⟩:=x;generalize zAF G (xr,xd).1=r at R⊢;generalize zAY G (xr,xd).1=rb at R⊢;have X:=zV7 (Bi.start h G (xr,xd) w 47 181);unfold gv iv;dsimp only at R X⊢
 by_cases h1:0<=xd/\xd<(r.2.length:Int)
 ·obtain⟨j,rfl⟩:=Int.eq_ofNat_of_zero_le h1.1;have hj:j<r.2.length:=by omega
  have e1:decide (0<=(j:Int)/\(j:Int)<(r.2.length:Int))=true:=decide_eq_true h1;rw[e1,if_pos rfl,show r.2.getD (Int.toNat (j:Int)) 0=r.2[j]by simp[hj]];clear e1;go_enter Tryz.func216,Tryz.ntmps216;go_wp2_with (go_at_call 98;refine(R.out _ X.out.below).mono ?_;rintro e w1 ⟨a,c,rfl,hr,hb⟩;have X:=zV7 ((X.out.went hb).alloc (.cells #[.int .i64 r.1,.slice a r.2.length c] 55));have HR:=zV7 hr;have y0:=X.out.i0;have y1:=X.out.i1;obtain⟨b2,o2,e2,z⟩:=hr j (by simpa[Gr.ivs]using hj);subst e2;have z:=zAT (o:=.cells #[.int .i64 r.1,.slice (some ⟨b2,o2,none⟩) r.2.length c] 55) z;clear hb hr);go_ret2;exact⟨by simp[Gr.ivs,Gr.iv],X.out.below⟩
 ·have e1:decide (0<=xd/\xd<(r.2.length:Int))=false:=decide_eq_false h1;rw[e1]
  by_cases h2:xd<0
  ·clear h1 e1;go_enter Tryz.func216,Tryz.ntmps216;go_wp2_with (go_at_call 98;refine(R.out _ X.out.below).mono ?_;rintro e w1 ⟨a,c,rfl,hr,hb⟩;have X:=zV7 ((X.out.went hb).alloc (.cells #[.int .i64 r.1,.slice a r.2.length c] 55));have y0:=X.out.i0;have y1:=X.out.i1;clear hb hr)
   all_goals
    go_ret2;exact⟨rfl,X.out.below⟩
  ·have h3:(r.2.length:Int)<=xd:=by omega
   have h4:0<=xd:=by omega
   clear h1 e1;go_enter Tryz.func216,Tryz.ntmps216;go_wp2_with (go_at_call 98;refine(R.out _ X.out.below).mono ?_;rintro e w1 ⟨a,c,rfl,hr,hb⟩;have X:=zV7 ((X.out.went hb).alloc (.cells #[.int .i64 r.1,.slice a r.2.length c] 55));have y0:=X.out.i0;have y1:=X.out.i1;clear hb hr)
   all_goals
    go_ret2;exact⟨rfl,X.out.below⟩
theorem zB0{w w'}{b}(h:w.mapTurned w' b):Sep.Fr (· =b) w w':=by
 obtain⟨es,c,es',c',h1,rfl⟩:=h;exact⟨rfl,rfl,rfl,by simp[ChangeMaps.setBlock],fun k _ hk=>ChangeMaps.heap_setBlock_other h1 _ hk⟩
theorem zCs(x:Itm)(hx:W64 x)(b n:Nat)(Y:Itm->Prop)(w:World)(hs:MS b n Y w)(hn:n<maxLen):
  Calls Tryz.prog 215 #[.map (some b),iv x] w fun e w'=>∃c:Bool,(c=true↔¬Y x)/\e=.returned (.bool c)/\MS b (n+1) (fun y=>Y y\/y=x) w'/\Sep.Fr (· =b) w w':=by
 have S:=zV7 (fun w1 (k:Below w.heap.size w w1)=>hs.went k);clear hs;have z0:=zVJ;unfold iv;go_enter Tryz.func215,Tryz.ntmps215
 go_wp2_with (first
  |(at_lookup;refine zEe rfl fun K' hK'=>zIg _ _ _ rfl ktI Tryz.underlying250 (zVJ _) b n Y rfl (S.out _ (boxed _ _)) x rfl hx fun c hc=>hK' _ _ ?_)
  | (at_mapUpdate;refine zEe rfl fun K' hK'=>zJi _ _ _ _ rfl ktI Tryz.underlying250 (.agg []) b n Y rfl (S.out _ ((boxed _ _).trans ((boxed _ _).mono (by simp)))) hn x rfl hx [] unitElem_mk fun w2 m1 m2=>hK' _ _ ?_;have M1:=zV7 m1;have M2:=zV7 m2;clear m1 m2))
 ·have hct:c=true:=by assumption
  go_ret;refine⟨false,⟨fun e=>Bool.noConfusion e,fun e=>absurd (hc.1 hct) e⟩,rfl,((S.out _ ((boxed _ _).trans ((boxed _ _).mono (by simp)))).mono (Nat.le_succ n)).iff fun y _=>?_,.of_below ((boxed _ _).trans ((boxed _ _).mono (by simp)))⟩;exact⟨.inl,fun e=>e.elim id fun e=>e▸hc.1 hct⟩
 ·go_ret;refine⟨true,⟨fun _ e=>?_,fun _=>rfl⟩,rfl,M1.out,?_⟩
  ·have q:=hc.2 e;simp_all
  ·exact(Sep.Fr.of_below ((boxed _ _).trans ((boxed _ _).mono (by simp)))).trans (zB0 M2.out) (.refl _ _)
end Im
namespace Im
open Gr (zAC zAT cell_later)
def orI(a b:Int):Int:=if a=0 then b else a
def cmpI(x y:Itm):Int:=orI (Lib.compareInt x.1 y.1) (Lib.compareInt x.2 y.2)
theorem zIJ(p o:Nat)(a b:Int)(w:World)(h0:w.cell? ⟨p,o,none⟩=some (.int .i64 a))(h1:w.cell? ⟨p,o+1,none⟩=some (.int .i64 b)):
  Calls Tryz.prog 232 #[.slice (some ⟨p,o,none⟩) 2 2] w fun e w'=>e=.returned (.int .i64 (orI a b))/\w'=w:=by
 unfold orI;go_enter Tryz.func232,Tryz.ntmps232;go_wp2;go_loopw [8] (fun i wr=>wr=w/\∃j:Nat,i=.int .i64 j/\j<=2/\(1<=j->a=0)/\(2<=j->b=0)) (fun i _=>2-(intOf i).toNat)
 case atStart=>exact⟨rfl,0,rfl,by omega,by omega,by omega⟩
 case round=>
  obtain⟨rfl,j,rfl,hj,ha,hb⟩:=hrel;rcases(by omega:j=0\/j=1\/j=2)with rfl|rfl|rfl
  ·clear ha hb
   by_cases hz:a=0
   ·subst hz;go_wp2;go_roundw
    case rel=>exact⟨by simp,1,by go_num,by omega,by simp,by simp⟩
    case measure=>simp[intOf]
   ·go_wp2;go_ret;exact⟨rfl,rfl⟩
  ·obtain rfl:=ha (by omega);clear ha hb
   by_cases hz:b=0
   ·subst hz;go_wp2;go_roundw
    case rel=>exact⟨by simp,2,by go_num,by omega,by simp,by simp⟩
    case measure=>simp[intOf]
   ·go_wp2;go_ret;exact⟨rfl,rfl⟩
  ·obtain rfl:=ha (by omega);obtain rfl:=hb (by omega);go_wp2;go_ret;exact⟨rfl,rfl⟩
theorem zEB(a b)(W):Calls Tryz.prog 144 #[.int .i64 a,.int .i64 b] W fun e w'=>e=.returned (.int .i64 (Lib.compareInt a b))/\w'=W:=by
 have h:=AnyG.cmp_Compare_int Tryz.cmpInt a b W;change Calls Tryz.prog 144 _ _ _ at h;exact h
def Gw(w w':World):Prop:=∃n os,w'=Go.Sort.grow (w.drewN n) os
theorem Gw.refl(w):Gw w w:=⟨0,#[],by rw[Go.Sort.grow_empty];rfl⟩
theorem Gw.alloc{w w1}(h:Gw w w1)(o):Gw w (w1.alloc o):=by
 obtain⟨n,os,rfl⟩:=h;exact⟨n,os++#[o],by rw[Go.Sort.alloc_eq_grow,Go.Sort.grow_grow]⟩
theorem Gw.drew{w w1}(h:Gw w w1):Gw w w1.drew:=by
 obtain⟨n,os,rfl⟩:=h;exact⟨n+1,os,rfl⟩
theorem Gw.below{w w1}(h:Gw w w1):Below w.heap.size w w1:=by
 obtain⟨n,os,rfl⟩:=h;refine⟨rfl,rfl,rfl,?_,fun k hk=>?_⟩
 ·rw[Go.Sort.size_grow];exact Nat.le_add_right _ _
 ·show(w.heap++os)[k]?=w.heap[k]?;rw[Array.getElem?_append_left hk]
theorem zIv(x y:Itm)(w:World):
  Calls Tryz.prog 219 #[iv x,iv y] w fun e w'=>e=.returned (.int .i64 (cmpI x y))/\Gw w w':=by
 have C:=zV7 zEB;unfold cmpI;unfold iv;go_enter Tryz.func219,Tryz.ntmps219;go_wp2;obtain⟨wq,hwq⟩:∃wq,(w.alloc (.cells #[.int .i64 x.1,.int .i64 x.2] 181)).alloc (.cells #[.int .i64 y.1,.int .i64 y.2] 181)=wq:=⟨_,rfl⟩;rw[hwq];have q0:wq.cell? ⟨w.heap.size,0,none⟩=some (.int .i64 x.1):=by rw[←hwq];exact zAT (zAC rfl rfl)
 have q1:wq.cell? ⟨w.heap.size,1,none⟩=some (.int .i64 x.2):=by rw[←hwq];exact zAT (zAC rfl rfl)
 have q2:wq.cell? ⟨w.heap.size+1,0,none⟩=some (.int .i64 y.1):=by rw[←hwq];exact zAC (by simp) rfl
 have q3:wq.cell? ⟨w.heap.size+1,1,none⟩=some (.int .i64 y.2):=by rw[←hwq];exact zAC (by simp) rfl
 have G0:Gw w wq:=by rw[←hwq];exact((Gw.refl w).alloc _).alloc _
 have HQ:=zV7 (show∀w',Gw wq w'->w'.cell? ⟨w.heap.size,0,none⟩=some (.int .i64 x.1)/\w'.cell? ⟨w.heap.size,1,none⟩=some (.int .i64 x.2)/\w'.cell? ⟨w.heap.size+1,0,none⟩=some (.int .i64 y.1)/\w'.cell? ⟨w.heap.size+1,1,none⟩=some (.int .i64 y.2)
  from fun w' g=>⟨cell_later g.below q0,cell_later g.below q1,cell_later g.below q2,cell_later g.below q3⟩)
 have g1:Gw wq wq.drew:=(Gw.refl wq).drew;have A0:∀c1 c2:Int,(wq.alloc (.cells #[.int .i64 c1,.int .i64 c2] 3)).drew.cell? ⟨wq.heap.size,0,none⟩=some (.int .i64 c1):=fun _ _=>zAC (w:=wq) rfl rfl
 have A1:∀c1 c2:Int,(wq.alloc (.cells #[.int .i64 c1,.int .i64 c2] 3)).drew.cell? ⟨wq.heap.size,0+1,none⟩=some (.int .i64 c2):=fun _ _=>zAC (w:=wq) rfl rfl
 clear hwq
 go_region_held3 (fun w'=>w'.cell? ⟨w.heap.size,0,none⟩=some (.int .i64 x.1)/\w'.cell? ⟨w.heap.size,1,none⟩=some (.int .i64 x.2)/\w'.cell? ⟨w.heap.size+1,0,none⟩=some (.int .i64 y.1)/\w'.cell? ⟨w.heap.size+1,1,none⟩=some (.int .i64 y.2))
  (first|exact HQ.out _ (by assumption)|exact HQ.out _ (Gw.alloc (by assumption) _))
  (first
   |(go_at_call 144;refine(C.out _ _ _).mono ?_;rintro e wn ⟨rfl,rfl⟩)
   |(go_at_call 232;refine(zIJ wq.heap.size 0 _ _ _ (A0 _ _) (A1 _ _)).mono ?_;rintro e wn ⟨rfl,rfl⟩)
   |fail)
 go_wp2;go_ret;exact⟨rfl,(G0.alloc _).drew⟩
theorem zF4(p:Option Addr)(c:Nat)(fv:Value)(w:World):
  Calls Tryz.prog 236 #[.slice p 0 c,.int .i64 0,.int .i64 0,fv] w fun e w'=>e=.returned (.tuple #[])/\w'=w:=by
 go_enter Tryz.func236,Tryz.ntmps236;go_wp2;refine wp_loop_rounds 1 ?_;rw[rounds_succ];go_wp2;go_end0;exact⟨rfl,rfl⟩
theorem zQq(p:Option Addr)(c:Nat)(lim:Int)(fv:Value)(w:World):
  Calls Tryz.prog 235 #[.slice p 0 c,.int .i64 0,.int .i64 0,.int .i64 lim,fv] w fun e w'=>e=.returned (.tuple #[])/\w'=w:=by
 have hi:=fun W=>zF4 p c fv W
 go_enter Tryz.func235,Tryz.ntmps235;go_wp2;refine wp_loop_rounds 1 ?_;rw[rounds_succ];go_wp2_with (go_at_call 236;refine(hi _).mono ?_;rintro e w' ⟨rfl,rfl⟩)
 (try simp only[Exit.inBlock,Exit.then]);refine bodyPost_ret (results_none rfl _ _ _) rfl ?_
 exact⟨rfl,rfl⟩
theorem zG3(W):Calls Tryz.prog 170 #[.int .u64 0] W fun e w'=>e=.returned (.int .i64 (Lib.bitLen 0:Nat))/\w'=W:=by
 have h:=Any.bits_Len (SlLaysF0.n15.bits (P:=Tryz.prog) (ρ:=Tryz.sortItm_ren) {Tryz.sortItm with}) 0 W (by omega) (by omega);change Calls Tryz.prog 170 _ _ _ at h;exact h
theorem zOY(p:Option Addr)(c:Nat)(fv:Value)(w:World):
  Calls Tryz.prog 230 #[.slice p 0 c,fv] w fun e w'=>e=.returned (.tuple #[])/\w'=w:=by
 have hp:=fun lim W=>zQq p c lim fv W
 have hl:=zG3;go_enter Tryz.func230,Tryz.ntmps230
 go_wp2_with (first
  |(go_at_call 170;refine(hl _).mono ?_;rintro e w' ⟨rfl,rfl⟩)
  | (go_at_call 235;refine(hp _ _).mono ?_;rintro e w' ⟨rfl,rfl⟩))
 go_end0;exact⟨rfl,rfl⟩
