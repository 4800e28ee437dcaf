/- A part of the proof. -/
import Derived.Test.YtkcaedinfnajaaaGreatDoorItemLay
import Derived.Test.YtkcaedinfnajaaaGreatDoorPk16
import Derived.Test.YtkcaedinfnajaaaGreatDoorPk17
set_option maxHeartbeats 4000000
set_option maxRecDepth 100000
set_option linter.unusedVariables false
namespace Go.Proofs.YtkcaedinfnajaaaGreatDoor
open Go.RowKit Go.Maps
namespace Im
open Gr (zAC zAR cell_later)
def orI(a b:Int):Int:=if a=0 then b else a
def cmpI(x y:Itm):Int:=orI (Lib.compareInt x.1 y.1) (Lib.compareInt x.2 y.2)
theorem zHm(p o:Nat)(a b:Int)(w:World)(h0:w.cell? ⟨p,o,none⟩=some (.int .i64 a))(h1:w.cell? ⟨p,o+1,none⟩=some (.int .i64 b)):
  Calls Tryz.prog 205 #[.slice (some ⟨p,o,none⟩) 2 2] w fun e w'=>e=.returned (.int .i64 (orI a b))/\w'=w:=by
 unfold orI;go_enter Tryz.func205,Tryz.ntmps205;go_wp2;go_loopw [8] (fun i wr=>wr=w/\∃j:Nat,i=.int .i64 j/\j<=2/\(1<=j->a=0)/\(2<=j->b=0)) (fun i _=>2-(intOf i).toNat)
 case atStart=>exact⟨rfl,0,rfl,by omega,by omega,by omega⟩
 case round=>
  obtain⟨rfl,j,rfl,hj,ha,hb⟩:=hrel;rcases(by omega:j=0\/j=1\/j=2)with rfl|rfl|rfl
  ·clear ha hb
   by_cases hz:a=0
   ·subst hz;go_wp2;go_roundw
    case rel=>exact⟨by simp,1,by go_num,by omega,by simp,by simp⟩
    case measure=>simp[intOf]
   ·go_wp2;go_ret;exact⟨rfl,rfl⟩
  ·obtain rfl:=ha (by omega);clear ha hb
   by_cases hz:b=0
   ·subst hz;go_wp2;go_roundw
    case rel=>exact⟨by simp,2,by go_num,by omega,by simp,by simp⟩
    case measure=>simp[intOf]
   ·go_wp2;go_ret;exact⟨rfl,rfl⟩
  ·obtain rfl:=ha (by omega);obtain rfl:=hb (by omega);go_wp2;go_ret;exact⟨rfl,rfl⟩
theorem zDp(a b:Int)(W:World):Calls Tryz.prog 117 #[.int .i64 a,.int .i64 b] W fun e w'=>e=.returned (.int .i64 (Lib.compareInt a b))/\w'=W:=by
 have h:=AnyG.cmp_Compare_int Tryz.cmpInt a b W;change Calls Tryz.prog 117 _ _ _ at h;exact h
def Gw(w w':World):Prop:=∃n os,w'=Go.Sort.grow (w.drewN n) os
theorem Gw.refl(w:World):Gw w w:=⟨0,#[],by rw[Go.Sort.grow_empty];rfl⟩
theorem Gw.alloc{w w1:World}(h:Gw w w1)(o:Obj):Gw w (w1.alloc o):=by
 obtain⟨n,os,rfl⟩:=h;exact⟨n,os++#[o],by rw[Go.Sort.alloc_eq_grow,Go.Sort.grow_grow]⟩
theorem Gw.drew{w w1:World}(h:Gw w w1):Gw w w1.drew:=by
 obtain⟨n,os,rfl⟩:=h;exact⟨n+1,os,rfl⟩
theorem Gw.below{w w1:World}(h:Gw w w1):Below w.heap.size w w1:=by
 obtain⟨n,os,rfl⟩:=h;refine⟨rfl,rfl,rfl,?_,fun k hk=>?_⟩
 ·rw[Go.Sort.size_grow];exact Nat.le_add_right _ _
 ·show(w.heap++os)[k]?=w.heap[k]?;rw[Array.getElem?_append_left hk]
theorem zIQ(x y:Itm)(w:World):
  Calls Tryz.prog 192 #[iv x,iv y] w fun e w'=>e=.returned (.int .i64 (cmpI x y))/\Gw w w':=by
 have C:=zVZ zDp;unfold cmpI;unfold iv;go_enter Tryz.func192,Tryz.ntmps192;go_wp2;obtain⟨wq,hwq⟩:∃wq,(w.alloc (.cells #[.int .i64 x.1,.int .i64 x.2] 154)).alloc (.cells #[.int .i64 y.1,.int .i64 y.2] 154)=wq:=⟨_,rfl⟩;rw[hwq];have q0:wq.cell? ⟨w.heap.size,0,none⟩=some (.int .i64 x.1):=by rw[←hwq];exact zAR (zAC rfl rfl)
 have q1:wq.cell? ⟨w.heap.size,1,none⟩=some (.int .i64 x.2):=by rw[←hwq];exact zAR (zAC rfl rfl)
 have q2:wq.cell? ⟨w.heap.size+1,0,none⟩=some (.int .i64 y.1):=by rw[←hwq];exact zAC (by simp) rfl
 have q3:wq.cell? ⟨w.heap.size+1,1,none⟩=some (.int .i64 y.2):=by rw[←hwq];exact zAC (by simp) rfl
 have G0:Gw w wq:=by rw[←hwq];exact((Gw.refl w).alloc _).alloc _
 have HQ:=zVZ (show∀w',Gw wq w'->w'.cell? ⟨w.heap.size,0,none⟩=some (.int .i64 x.1)/\w'.cell? ⟨w.heap.size,1,none⟩=some (.int .i64 x.2)/\w'.cell? ⟨w.heap.size+1,0,none⟩=some (.int .i64 y.1)/\w'.cell? ⟨w.heap.size+1,1,none⟩=some (.int .i64 y.2)
  from fun w' g=>⟨cell_later g.below q0,cell_later g.below q1,cell_later g.below q2,cell_later g.below q3⟩)
 have g1:Gw wq wq.drew:=(Gw.refl wq).drew;have A0:∀c1 c2:Int,(wq.alloc (.cells #[.int .i64 c1,.int .i64 c2] 3)).drew.cell? ⟨wq.heap.size,0,none⟩=some (.int .i64 c1):=fun _ _=>zAC (w:=wq) rfl rfl
 have A1:∀c1 c2:Int,(wq.alloc (.cells #[.int .i64 c1,.int .i64 c2] 3)).drew.cell? ⟨wq.heap.size,0+1,none⟩=some (.int .i64 c2):=fun _ _=>zAC (w:=wq) rfl rfl
 clear hwq
 go_region_held3 (fun w'=>w'.cell? ⟨w.heap.size,0,none⟩=some (.int .i64 x.1)/\w'.cell? ⟨w.heap.size,1,none⟩=some (.int .i64 x.2)/\w'.cell? ⟨w.heap.size+1,0,none⟩=some (.int .i64 y.1)/\w'.cell? ⟨w.heap.size+1,1,none⟩=some (.int .i64 y.2))
  (first|exact HQ.out _ (by assumption)|exact HQ.out _ (Gw.alloc (by assumption) _))
  (first
   |(go_at_call 117;refine(C.out _ _ _).mono ?_;rintro e wn ⟨rfl,rfl⟩)
   |(go_at_call 205;refine(zHm wq.heap.size 0 _ _ _ (A0 _ _) (A1 _ _)).mono ?_;rintro e wn ⟨rfl,rfl⟩)
   |fail)
 go_wp2;go_ret;exact⟨rfl,(G0.alloc _).drew⟩
theorem zFa(p:Option Addr)(c:Nat)(fv:Value)(w:World):
  Calls Tryz.prog 209 #[.slice p 0 c,.int .i64 0,.int .i64 0,fv] w fun e w'=>e=.returned (.tuple #[])/\w'=w:=by
 go_enter Tryz.func209,Tryz.ntmps209;go_wp2;refine wp_loop_rounds 1 ?_;rw[rounds_succ];go_wp2;go_end0;exact⟨rfl,rfl⟩
theorem zQI(p:Option Addr)(c:Nat)(lim:Int)(fv:Value)(w:World):
  Calls Tryz.prog 208 #[.slice p 0 c,.int .i64 0,.int .i64 0,.int .i64 lim,fv] w fun e w'=>e=.returned (.tuple #[])/\w'=w:=by
 have hi:=fun W=>zFa p c fv W
 go_enter Tryz.func208,Tryz.ntmps208;go_wp2;refine wp_loop_rounds 1 ?_;rw[rounds_succ];go_wp2_with (go_at_call 209;refine(hi _).mono ?_;rintro e w' ⟨rfl,rfl⟩)
 (try simp only[Exit.inBlock,Exit.then]);refine bodyPost_ret (results_none rfl _ _ _) rfl ?_
 exact⟨rfl,rfl⟩
theorem zGX(W:World):Calls Tryz.prog 143 #[.int .u64 0] W fun e w'=>e=.returned (.int .i64 (Lib.bitLen 0:Nat))/\w'=W:=by
 have h:=Any.bits_Len (SlLaysF0.n15.bits (P:=Tryz.prog) (ρ:=Tryz.sortItm_ren) {Tryz.sortItm with}) 0 W (by omega) (by omega);change Calls Tryz.prog 143 _ _ _ at h;exact h
theorem zN3(p:Option Addr)(c:Nat)(fv:Value)(w:World):
  Calls Tryz.prog 203 #[.slice p 0 c,fv] w fun e w'=>e=.returned (.tuple #[])/\w'=w:=by
 have hp:=fun lim W=>zQI p c lim fv W
 have hl:=zGX;go_enter Tryz.func203,Tryz.ntmps203
 go_wp2_with (first
  |(go_at_call 143;refine(hl _).mono ?_;rintro e w' ⟨rfl,rfl⟩)
  | (go_at_call 208;refine(hp _ _).mono ?_;rintro e w' ⟨rfl,rfl⟩))
 go_end0;exact⟨rfl,rfl⟩
end Im
namespace Gr
theorem zPo{G:Gram}(h:zBu G=false):G.terms.length<=120/\G.nons.length<=120/\G.rules.length<=300:=by
 simp only[zBu,Bool.or_eq_false_iff,decide_eq_false_iff_not]at h;omega
theorem zKe{G:Gram}(h:zBu G=true):checkN G=7:=by simp[checkN,h]
theorem zKd{G:Gram}(h:zBu G=false)(h1:zDM G=false):checkN G=10:=by simp[checkN,h,h1]
theorem zKf{G:Gram}(h:zBu G=false)(h1:zDM G=true)(h2:zE2 G=false):checkN G=8:=by simp[checkN,h,h1,h2]
theorem zIM{G:Gram}(h:zBu G=false)(h1:zDM G=true)(h2:zE2 G=true)(h3:zAs G=false):checkN G=1:=by simp[checkN,h,h1,h2,h3]
theorem zHD{G:Gram}(h:zBu G=false)(h1:zDM G=true)(h2:zE2 G=true)(h3:zAs G=true)(h4:zB1 G=false):checkN G=8:=by simp[checkN,h,h1,h2,h3,h4]
theorem zIN{G:Gram}(h:zBu G=false)(h1:zDM G=true)(h2:zE2 G=true)(h3:zAs G=true)(h4:zB1 G=true)(h5:zCf G=false):checkN G=9:=by simp[checkN,h,h1,h2,h3,h4,h5]
theorem zEa{G:Gram}(h:zBu G=false)(h1:zDM G=true)(h2:zE2 G=true)(h3:zAs G=true)(h4:zB1 G=true)(h5:zCf G=true):checkN G=0:=by simp[checkN,h,h1,h2,h3,h4,h5]
theorem zBk(h:Sh)(G:Gram)(w:World)(k:GAt h G w):
  Calls Tryz.prog 80 #[gv h G] w (Is (.int .i64 (checkN G)) w):=by
 have X:=zVZ (Bx.start h G w 41);have M:=zVZ (fun w1 (b:Below w.heap.size w w1)=>zPn h G w1 (k.went b));have F:=zVZ (fun w1 (b:Below w.heap.size w w1)=>zHd h G w1 (k.went b));have O:=zVZ (fun w1 (b:Below w.heap.size w w1)=>zFc h G w1 (k.went b));have K:=zVZ (fun w1 (b:Below w.heap.size w w1)=>zEy h G w1 (k.went b));have U:=zVZ (fun w1 (b:Below w.heap.size w w1)=>zFf h G w1 (k.went b));have KG:=zVZ k;clear k;unfold gv;cases h0:zBu G with
 |true=>
  have E:=zVZ (zKe h0);rw[h0]at M;clear h0;go_enter Tryz.func80,Tryz.ntmps80
  go_wp2_with (first
   | (go_at_call 97;refine(M.out _ X.out.below).mono ?_;rintro e w1 ⟨rfl,hb⟩;have X:=zVZ (X.out.went hb);obtain⟨x0,x1,x2,x3⟩:=X.out.box;clear hb))
  go_ret;exact⟨zAc E.out,X.out.below⟩
 |false=>
  rw[h0]at M;cases h1:zDM G with
  |false=>
   have E:=zVZ (zKd h0 h1);rw[h1]at F;clear h0 h1;go_enter Tryz.func80,Tryz.ntmps80
   go_wp2_with (first
    |(go_at_call 97;refine(M.out _ X.out.below).mono ?_;rintro e w1 ⟨rfl,hb⟩;have X:=zVZ (X.out.went hb);obtain⟨x0,x1,x2,x3⟩:=X.out.box;clear hb)
    | (go_at_call 98;refine(F.out _ X.out.below).mono ?_;rintro e w1 ⟨rfl,hb⟩;have X:=zVZ (X.out.went hb);obtain⟨x0,x1,x2,x3⟩:=X.out.box;clear hb))
   go_ret;exact⟨zAc E.out,X.out.below⟩
  |true=>
   rw[h1]at F;cases h2:zE2 G with
   |false=>
    have E:=zVZ (zKf h0 h1 h2);rw[h2]at O;clear h0 h1 h2;go_enter Tryz.func80,Tryz.ntmps80
    go_wp2_with (first
     |(go_at_call 97;refine(M.out _ X.out.below).mono ?_;rintro e w1 ⟨rfl,hb⟩;have X:=zVZ (X.out.went hb);obtain⟨x0,x1,x2,x3⟩:=X.out.box;clear hb)
     |(go_at_call 98;refine(F.out _ X.out.below).mono ?_;rintro e w1 ⟨rfl,hb⟩;have X:=zVZ (X.out.went hb);obtain⟨x0,x1,x2,x3⟩:=X.out.box;clear hb)
     | (go_at_call 99;refine(O.out _ X.out.below).mono ?_;rintro e w1 ⟨rfl,hb⟩;have X:=zVZ (X.out.went hb);obtain⟨x0,x1,x2,x3⟩:=X.out.box;clear hb))
    go_ret;exact⟨zAc E.out,X.out.below⟩
   |true=>
    rw[h2]at O;cases h3:zAs G with
    |false=>
     have E:=zVZ (zIM h0 h1 h2 h3);rw[h3]at K;clear h0 h1 h2 h3;go_enter Tryz.func80,Tryz.ntmps80
     go_wp2_with (first
      |(go_at_call 97;refine(M.out _ X.out.below).mono ?_;rintro e w1 ⟨rfl,hb⟩;have X:=zVZ (X.out.went hb);obtain⟨x0,x1,x2,x3⟩:=X.out.box;clear hb)
      |(go_at_call 98;refine(F.out _ X.out.below).mono ?_;rintro e w1 ⟨rfl,hb⟩;have X:=zVZ (X.out.went hb);obtain⟨x0,x1,x2,x3⟩:=X.out.box;clear hb)
      |(go_at_call 99;refine(O.out _ X.out.below).mono ?_;rintro e w1 ⟨rfl,hb⟩;have X:=zVZ (X.out.went hb);obtain⟨x0,x1,x2,x3⟩:=X.out.box;clear hb)
      | (go_at_call 100;refine(K.out _ X.out.below).mono ?_;rintro e w1 ⟨rfl,hb⟩;have X:=zVZ (X.out.went hb);obtain⟨x0,x1,x2,x3⟩:=X.out.box;clear hb))
     go_ret;exact⟨zAc E.out,X.out.below⟩
    |true=>
     rw[h3]at K;cases h4:zB1 G with
     |false=>
      have E:=zVZ (zHD h0 h1 h2 h3 h4);rw[h4]at U;clear h0 h1 h2 h3 h4;go_enter Tryz.func80,Tryz.ntmps80
      go_wp2_with (first
       |(go_at_call 97;refine(M.out _ X.out.below).mono ?_;rintro e w1 ⟨rfl,hb⟩;have X:=zVZ (X.out.went hb);obtain⟨x0,x1,x2,x3⟩:=X.out.box;clear hb)
       |(go_at_call 98;refine(F.out _ X.out.below).mono ?_;rintro e w1 ⟨rfl,hb⟩;have X:=zVZ (X.out.went hb);obtain⟨x0,x1,x2,x3⟩:=X.out.box;clear hb)
       |(go_at_call 99;refine(O.out _ X.out.below).mono ?_;rintro e w1 ⟨rfl,hb⟩;have X:=zVZ (X.out.went hb);obtain⟨x0,x1,x2,x3⟩:=X.out.box;clear hb)
       |(go_at_call 100;refine(K.out _ X.out.below).mono ?_;rintro e w1 ⟨rfl,hb⟩;have X:=zVZ (X.out.went hb);obtain⟨x0,x1,x2,x3⟩:=X.out.box;clear hb)
       | (go_at_call 101;refine(U.out _ X.out.below).mono ?_;rintro e w1 ⟨rfl,hb⟩;have X:=zVZ (X.out.went hb);obtain⟨x0,x1,x2,x3⟩:=X.out.box;clear hb))
      go_ret;exact⟨zAc E.out,X.out.below⟩
     |true=>
      rw[h4]at U;have hr3:=(zPo h0).2.2;have R:=zVZ (fun w1 (b:Below w.heap.size w w1)=>zJA h G w1 (KG.out.went b) (by omega));cases h5:zCf G with
      |false=>
       have E:=zVZ (zIN h0 h1 h2 h3 h4 h5);rw[h5]at R;clear h0 h1 h2 h3 h4 h5;go_enter Tryz.func80,Tryz.ntmps80
       go_wp2_with (first
        |(go_at_call 97;refine(M.out _ X.out.below).mono ?_;rintro e w1 ⟨rfl,hb⟩;have X:=zVZ (X.out.went hb);obtain⟨x0,x1,x2,x3⟩:=X.out.box;clear hb)
        |(go_at_call 98;refine(F.out _ X.out.below).mono ?_;rintro e w1 ⟨rfl,hb⟩;have X:=zVZ (X.out.went hb);obtain⟨x0,x1,x2,x3⟩:=X.out.box;clear hb)
        |(go_at_call 99;refine(O.out _ X.out.below).mono ?_;rintro e w1 ⟨rfl,hb⟩;have X:=zVZ (X.out.went hb);obtain⟨x0,x1,x2,x3⟩:=X.out.box;clear hb)
        |(go_at_call 100;refine(K.out _ X.out.below).mono ?_;rintro e w1 ⟨rfl,hb⟩;have X:=zVZ (X.out.went hb);obtain⟨x0,x1,x2,x3⟩:=X.out.box;clear hb)
        |(go_at_call 101;refine(U.out _ X.out.below).mono ?_;rintro e w1 ⟨rfl,hb⟩;have X:=zVZ (X.out.went hb);obtain⟨x0,x1,x2,x3⟩:=X.out.box;clear hb)
        | (go_at_call 102;refine(R.out _ X.out.below).mono ?_;rintro e w1 ⟨rfl,hb⟩;have X:=zVZ (X.out.went hb);obtain⟨x0,x1,x2,x3⟩:=X.out.box;clear hb))
       go_ret;exact⟨zAc E.out,X.out.below⟩
      |true=>
       rw[h5]at R;have E:=zVZ (zEa h0 h1 h2 h3 h4 h5);clear h0 h1 h2 h3 h4 h5;go_enter Tryz.func80,Tryz.ntmps80
       go_wp2_with (first
        |(go_at_call 97;refine(M.out _ X.out.below).mono ?_;rintro e w1 ⟨rfl,hb⟩;have X:=zVZ (X.out.went hb);obtain⟨x0,x1,x2,x3⟩:=X.out.box;clear hb)
        |(go_at_call 98;refine(F.out _ X.out.below).mono ?_;rintro e w1 ⟨rfl,hb⟩;have X:=zVZ (X.out.went hb);obtain⟨x0,x1,x2,x3⟩:=X.out.box;clear hb)
        |(go_at_call 99;refine(O.out _ X.out.below).mono ?_;rintro e w1 ⟨rfl,hb⟩;have X:=zVZ (X.out.went hb);obtain⟨x0,x1,x2,x3⟩:=X.out.box;clear hb)
        |(go_at_call 100;refine(K.out _ X.out.below).mono ?_;rintro e w1 ⟨rfl,hb⟩;have X:=zVZ (X.out.went hb);obtain⟨x0,x1,x2,x3⟩:=X.out.box;clear hb)
        |(go_at_call 101;refine(U.out _ X.out.below).mono ?_;rintro e w1 ⟨rfl,hb⟩;have X:=zVZ (X.out.went hb);obtain⟨x0,x1,x2,x3⟩:=X.out.box;clear hb)
        | (go_at_call 102;refine(R.out _ X.out.below).mono ?_;rintro e w1 ⟨rfl,hb⟩;have X:=zVZ (X.out.went hb);obtain⟨x0,x1,x2,x3⟩:=X.out.box;clear hb))
       go_ret;exact⟨zAc E.out,X.out.below⟩
end Gr
namespace Im
open Gr (Gram Sh gv GAt Bx boxed checkN zBk zAC cell_later)
theorem zGI{W w w':World}{h:Sh}{G:Gram}{S:Nat->Prop}(k:Bx W h G w)(f:Sep.Fr S w w')(hS:∀i,S i->W.heap.size+1<=i):Bx W h G w':=by
 have hn:¬S W.heap.size:=fun h=>by have:=hS _ h;omega
 exact⟨k.below.trans (f.below (fun i hi=>by have:=hS i hi;omega) k.below.size),⟨f.cell k.box.x0 hn,f.cell k.box.x1 hn,f.cell k.box.x2 hn,f.cell k.box.x3 hn⟩⟩
def VTo(G:Gram)(L:List Itm)(j:Nat)(x:Itm):Prop:=∃q,∃h:q<L.length,q<j/\x=L[q]/\zAJ G L[q]=true
theorem zUq{G:Gram}{L:List Itm}{x:Itm}:VTo G L 0 x↔False:=⟨fun⟨_,_,h,_⟩=>by omega,False.elim⟩
theorem zTa{G:Gram}{L:List Itm}{j:Nat}(hj:j<L.length)(hr:zAJ G L[j]=true)(x:Itm):VTo G L j x\/x=L[j]↔VTo G L (j+1) x:=by
 constructor
 ·rintro(⟨q,h1,h2,h3⟩|e)
  ·exact⟨q,h1,by omega,h3⟩
  ·exact⟨j,hj,by omega,e,hr⟩
 ·rintro⟨q,h1,h2,h3,h4⟩
  by_cases e:q=j
  ·subst e;exact .inr h3
  ·exact .inl ⟨q,h1,by omega,h3,h4⟩
theorem zQ0{G:Gram}{L:List Itm}{j:Nat}(hj:j<L.length)(hr:¬zAJ G L[j]=true)(x:Itm):VTo G L j x↔VTo G L (j+1) x:=by
 constructor
 ·rintro⟨q,h1,h2,h3⟩;exact⟨q,h1,by omega,h3⟩
 ·rintro⟨q,h1,h2,h3,h4⟩
  by_cases e:q=j
  ·subst e;exact absurd h4 hr
  ·exact⟨q,h1,by omega,h3,h4⟩
theorem zTZ{G:Gram}{L:List Itm}(x:Itm):VTo G L L.length x↔x∈L/\zAJ G x=true:=by
 constructor
 ·rintro⟨q,h1,_,h3,h4⟩;subst h3;exact⟨List.getElem_mem h1,h4⟩
 ·rintro⟨h1,h2⟩;obtain⟨q,hq,rfl⟩:=List.getElem_of_mem h1;exact⟨q,hq,hq,rfl,h2⟩
def VSet(G:Gram)(L:List Itm)(x:Itm):Prop:=checkN G=0/\x∈L/\zAJ G x=true
def zU0(X:Itm->Prop)(m:Nat)(w:World)(e:Ending)(w':World):Prop:=
 ∃b n,e=.returned (.map (some b))/\w.heap.size<=b/\n<=m/\MS b n X w'/\Below w.heap.size w w'
theorem zOT(h:Sh)(G:Gram)(L:List Itm)(a:Option Addr)(c:Nat)(w:World)(k:GAt h G w)(kl:ItsA a L w)(hw:∀x∈L,W64 x)(hL:L.length<=8796093022208):
  Calls Tryz.prog 151 #[gv h G,.slice a L.length c] w (zU0 (VSet G L) L.length w):=by
 have X:=zVZ (Bx.start h G w 41);have C:=zVZ (fun w1 (b:Below w.heap.size w w1)=>zBk h G w1 (k.went b));have F:=zVZ (fun(x:Itm) w1 (b:Below w.heap.size w w1)=>zEK h G x w1 (k.went b));have KL:=zVZ (fun w1 (b:Below w.heap.size w w1)=>kl.went b);have HW:=zVZ hw;have M0:=zVZ (MSet.made (H:=Nat) (w.alloc (.cells #[.slice h.a1 G.terms.length h.c1,.slice h.a2 G.nons.length h.c2,.slice h.a3 G.rules.length h.c3,.int .i64 G.start] 41)) Tryz.prog 154 unitElem (.agg []));have X1:=zVZ (X.out.alloc (.map #[] 0));have hs1:(w.alloc (.cells #[.slice h.a1 G.terms.length h.c1,.slice h.a2 G.nons.length h.c2,.slice h.a3 G.rules.length h.c3,.int .i64 G.start] 41)).heap.size=w.heap.size+1:=by simp
 rw[hs1]at M0;clear k kl hw X hs1
 by_cases hc:checkN G=0
 ·rw[hc]at C;unfold gv at C F⊢;have hmm:=@run_makeMap Tryz.prog;go_enter Tryz.func151,Tryz.ntmps151;go_wp2_with (go_at_call 80;refine(C.out _ X1.out.below).mono ?_;rintro e w1 ⟨rfl,hb⟩;have X:=zVZ (X1.out.went hb);have M:=zVZ (M0.out.went hb);clear hb X1 M0);go_loopw [15] (fun i wr=>∃j:Nat,j<=L.length/\i=.int .i64 j/\Bx w h G wr/\∃n≤j,MS (w.heap.size+1) n (VTo G L j) wr) (fun i _=>L.length-(intOf i).toNat)
  case atStart=>exact⟨0,Nat.zero_le _,rfl,X.out,0,Nat.le_refl _,M.out.iff fun x _=>zUq.symm⟩
  case round=>
   obtain⟨j,hj,rfl,hX,n,hn,hM⟩:=hrel;clear X M;have X:=zVZ hX;have M:=zVZ hM;clear hX hM
   by_cases hlt:j<L.length
   ·obtain⟨b,o,rfl,c0,c1⟩:=(KL.out wr X.out.below).at j hlt;have hx:=HW.out _ (List.getElem_mem hlt);have HH:=zVZ (fun q=>zTa (G:=G) (L:=L) (j:=j) hlt q);have HM:=zVZ (fun q=>zQ0 (G:=G) (L:=L) (j:=j) hlt q);have e1:((L[j].1,L[j].2):Itm)=L[j]:=rfl;generalize L[j]=x at*;obtain⟨x0,x1⟩:=x;dsimp only at c0 c1;have FX:=zVZ (F.out (x0,x1) _ (X.out.alloc (.cells #[.int .i64 x0,.int .i64 x1] 154)).below);have XA:=zVZ (X.out.alloc (.cells #[.int .i64 x0,.int .i64 x1] 154));have y0:(wr.alloc (.cells #[.int .i64 x0,.int .i64 x1] 154)).cell? ⟨wr.heap.size,0,none⟩=some (.int .i64 x0):=zAC rfl rfl;have y1:(wr.alloc (.cells #[.int .i64 x0,.int .i64 x1] 154)).cell? ⟨wr.heap.size,1,none⟩=some (.int .i64 x1):=zAC rfl rfl;have MA:=zVZ (M.out.went (boxed wr (.cells #[.int .i64 x0,.int .i64 x1] 154)));have e2:(VTo G L j (x0,x1))=VTo G L j (x0,x1):=rfl;obtain⟨g0,g1,g2,g3⟩:=XA.out.box;clear X M e1 e2
    by_cases hr:zAJ G (x0,x1)=true
    ·rw[hr]at FX;unfold iv at FX
     go_wp2_with (first
      |(go_at_call 187;refine FX.out.mono ?_;rintro e w2 ⟨rfl,hb⟩;have X:=zVZ (XA.out.went hb);have M:=zVZ (MA.out.went hb);have z0:=cell_later hb y0;have z1:=cell_later hb y1;have PA:=zVZ (zCd (x0,x1) hx (w.heap.size+1) n (VTo G L j) w2 M.out (by unfold maxLen;omega));clear hb)
      | (go_at_call 188;refine PA.out.mono ?_;rintro e w3 ⟨ok,_,rfl,hm,hf⟩;have MB:=zVZ hm;have XB:=zVZ (zGI X.out hf fun i hi=>by omega);clear hm hf))
     go_roundw
     case rel=>exact⟨j+1,by omega,by go_num,XB.out,n+1,by omega,MB.out.iff fun x _=>HH.out hr x⟩
     case measure=>simp[intOf];omega
    ·have hr':zAJ G (x0,x1)=false:=by simpa using hr
     rw[hr']at FX;unfold iv at FX;go_wp2_with (go_at_call 187;refine FX.out.mono ?_;rintro e w2 ⟨rfl,hb⟩;have X:=zVZ (XA.out.went hb);have M:=zVZ (MA.out.went hb);clear hb);go_roundw
     case rel=>exact⟨j+1,by omega,by go_num,X.out,n,by omega,M.out.iff fun x _=>HM.out hr x⟩
     case measure=>simp[intOf];omega
   ·have hE:j=L.length:=by omega
    subst hE;go_wp2;go_ret;refine⟨_,n,rfl,by omega,hn,M.out.iff fun x _=>?_,X.out.below⟩;rw[zTZ];exact⟨fun h=>⟨hc,h⟩,fun h=>h.2⟩
 ·have hb:(checkN G==0)=false:=by simpa using hc
  unfold gv at C⊢;have hmm:=@run_makeMap Tryz.prog;go_enter Tryz.func151,Tryz.ntmps151;go_wp2_with (go_at_call 80;refine(C.out _ X1.out.below).mono ?_;rintro e w1 ⟨rfl,hb⟩;have X:=zVZ (X1.out.went hb);have M:=zVZ (M0.out.went hb);clear hb X1 M0);go_ret;exact⟨_,0,rfl,by omega,Nat.zero_le _,M.out.iff fun x _=>⟨False.elim,fun h=>hc h.1⟩,X.out.below⟩
