/- A part of the proof. -/
import Derived.Test.YtegeamggbglneaaGreatDoorPk28
import Derived.Test.YtegeamggbglneaaGreatDoorPk27
import Derived.Test.YtegeamggbglneaaGreatDoorPk12
set_option maxHeartbeats 4000000
set_option maxRecDepth 100000
set_option linter.unusedVariables false
namespace Go.Proofs.YtegeamggbglneaaGreatDoor
open Go.RowKit Go.Maps
namespace Gr
theorem zQJ{G}(h:zB1 G=false):G.terms.length<=120/\G.nons.length<=120/\G.rules.length<=300:=by
 simp only[zB1,Bool.or_eq_false_iff,decide_eq_false_iff_not]at h;omega
theorem zK7{G}(h:zB1 G=true):checkN G=7:=by simp[checkN,h]
theorem zK6{G}(h:zB1 G=false)(h1:zDg G=false):checkN G=10:=by simp[checkN,h,h1]
theorem zK8{G}(h:zB1 G=false)(h1:zDg G=true)(h2:zFW G=false):checkN G=8:=by simp[checkN,h,h1,h2]
theorem zIr{G}(h:zB1 G=false)(h1:zDg G=true)(h2:zFW G=true)(h3:zA2 G=false):checkN G=1:=by simp[checkN,h,h1,h2,h3]
theorem zHl{G}(h:zB1 G=false)(h1:zDg G=true)(h2:zFW G=true)(h3:zA2 G=true)(h4:zB9 G=false):checkN G=8:=by simp[checkN,h,h1,h2,h3,h4]
theorem zIs{G}(h:zB1 G=false)(h1:zDg G=true)(h2:zFW G=true)(h3:zA2 G=true)(h4:zB9 G=true)(h5:zCu G=false):checkN G=9:=by simp[checkN,h,h1,h2,h3,h4,h5]
theorem zE6{G}(h:zB1 G=false)(h1:zDg G=true)(h2:zFW G=true)(h3:zA2 G=true)(h4:zB9 G=true)(h5:zCu G=true):checkN G=0:=by simp[checkN,h,h1,h2,h3,h4,h5]
theorem zBs(h)(G)(w)(k:GAt h G w):
  Calls Tryz.prog 107 #[gv h G] w (Is (.int .i64 (checkN G)) w):=by
 have X:=zV7 (Bx.start h G w 47);have M:=zV7 (fun w1 (b:Below w.heap.size w w1)=>zQI h G w1 (k.went b));have F:=zV7 (fun w1 (b:Below w.heap.size w w1)=>zIA h G w1 (k.went b));have O:=zV7 (fun w1 (b:Below w.heap.size w w1)=>zF6 h G w1 (k.went b));have K:=zV7 (fun w1 (b:Below w.heap.size w w1)=>zFS h G w1 (k.went b));have U:=zV7 (fun w1 (b:Below w.heap.size w w1)=>zF9 h G w1 (k.went b));have KG:=zV7 k;clear k;unfold gv;cases h0:zB1 G with
 |true=>
  have E:=zV7 (zK7 h0);rw[h0]at M;clear h0;go_enter Tryz.func107,Tryz.ntmps107
  go_wp2_with (first
   | (go_at_call 124;refine(M.out _ X.out.below).mono ?_;rintro e w1 ⟨rfl,hb⟩;have X:=zV7 (X.out.went hb);obtain⟨x0,x1,x2,x3⟩:=X.out.box;clear hb))
  go_ret;exact⟨zAx E.out,X.out.below⟩
 |false=>
  rw[h0]at M;cases h1:zDg G with
  |false=>
   have E:=zV7 (zK6 h0 h1);rw[h1]at F;clear h0 h1;go_enter Tryz.func107,Tryz.ntmps107
   go_wp2_with (first
    |(go_at_call 124;refine(M.out _ X.out.below).mono ?_;rintro e w1 ⟨rfl,hb⟩;have X:=zV7 (X.out.went hb);obtain⟨x0,x1,x2,x3⟩:=X.out.box;clear hb)
    | (go_at_call 125;refine(F.out _ X.out.below).mono ?_;rintro e w1 ⟨rfl,hb⟩;have X:=zV7 (X.out.went hb);obtain⟨x0,x1,x2,x3⟩:=X.out.box;clear hb))
   go_ret;exact⟨zAx E.out,X.out.below⟩
  |true=>
   rw[h1]at F;cases h2:zFW G with
   |false=>
    have E:=zV7 (zK8 h0 h1 h2);rw[h2]at O;clear h0 h1 h2;go_enter Tryz.func107,Tryz.ntmps107
    go_wp2_with (first
     |(go_at_call 124;refine(M.out _ X.out.below).mono ?_;rintro e w1 ⟨rfl,hb⟩;have X:=zV7 (X.out.went hb);obtain⟨x0,x1,x2,x3⟩:=X.out.box;clear hb)
     |(go_at_call 125;refine(F.out _ X.out.below).mono ?_;rintro e w1 ⟨rfl,hb⟩;have X:=zV7 (X.out.went hb);obtain⟨x0,x1,x2,x3⟩:=X.out.box;clear hb)
     | (go_at_call 126;refine(O.out _ X.out.below).mono ?_;rintro e w1 ⟨rfl,hb⟩;have X:=zV7 (X.out.went hb);obtain⟨x0,x1,x2,x3⟩:=X.out.box;clear hb))
    go_ret;exact⟨zAx E.out,X.out.below⟩
   |true=>
    rw[h2]at O;cases h3:zA2 G with
    |false=>
     have E:=zV7 (zIr h0 h1 h2 h3);rw[h3]at K;clear h0 h1 h2 h3;go_enter Tryz.func107,Tryz.ntmps107
     go_wp2_with (first
      |(go_at_call 124;refine(M.out _ X.out.below).mono ?_;rintro e w1 ⟨rfl,hb⟩;have X:=zV7 (X.out.went hb);obtain⟨x0,x1,x2,x3⟩:=X.out.box;clear hb)
      |(go_at_call 125;refine(F.out _ X.out.below).mono ?_;rintro e w1 ⟨rfl,hb⟩;have X:=zV7 (X.out.went hb);obtain⟨x0,x1,x2,x3⟩:=X.out.box;clear hb)
      |(go_at_call 126;refine(O.out _ X.out.below).mono ?_;rintro e w1 ⟨rfl,hb⟩;have X:=zV7 (X.out.went hb);obtain⟨x0,x1,x2,x3⟩:=X.out.box;clear hb)
      | (go_at_call 127;refine(K.out _ X.out.below).mono ?_;rintro e w1 ⟨rfl,hb⟩;have X:=zV7 (X.out.went hb);obtain⟨x0,x1,x2,x3⟩:=X.out.box;clear hb))
     go_ret;exact⟨zAx E.out,X.out.below⟩
    |true=>
     rw[h3]at K;cases h4:zB9 G with
     |false=>
      have E:=zV7 (zHl h0 h1 h2 h3 h4);rw[h4]at U;clear h0 h1 h2 h3 h4;go_enter Tryz.func107,Tryz.ntmps107
      go_wp2_with (first
       |(go_at_call 124;refine(M.out _ X.out.below).mono ?_;rintro e w1 ⟨rfl,hb⟩;have X:=zV7 (X.out.went hb);obtain⟨x0,x1,x2,x3⟩:=X.out.box;clear hb)
       |(go_at_call 125;refine(F.out _ X.out.below).mono ?_;rintro e w1 ⟨rfl,hb⟩;have X:=zV7 (X.out.went hb);obtain⟨x0,x1,x2,x3⟩:=X.out.box;clear hb)
       |(go_at_call 126;refine(O.out _ X.out.below).mono ?_;rintro e w1 ⟨rfl,hb⟩;have X:=zV7 (X.out.went hb);obtain⟨x0,x1,x2,x3⟩:=X.out.box;clear hb)
       |(go_at_call 127;refine(K.out _ X.out.below).mono ?_;rintro e w1 ⟨rfl,hb⟩;have X:=zV7 (X.out.went hb);obtain⟨x0,x1,x2,x3⟩:=X.out.box;clear hb)
       | (go_at_call 128;refine(U.out _ X.out.below).mono ?_;rintro e w1 ⟨rfl,hb⟩;have X:=zV7 (X.out.went hb);obtain⟨x0,x1,x2,x3⟩:=X.out.box;clear hb))
      go_ret;exact⟨zAx E.out,X.out.below⟩
     |true=>
      rw[h4]at U;have hr3:=(zQJ h0).2.2;have R:=zV7 (fun w1 (b:Below w.heap.size w w1)=>zJg h G w1 (KG.out.went b) (by omega));cases h5:zCu G with
      |false=>
       have E:=zV7 (zIs h0 h1 h2 h3 h4 h5);rw[h5]at R;clear h0 h1 h2 h3 h4 h5;go_enter Tryz.func107,Tryz.ntmps107
       go_wp2_with (first
        |(go_at_call 124;refine(M.out _ X.out.below).mono ?_;rintro e w1 ⟨rfl,hb⟩;have X:=zV7 (X.out.went hb);obtain⟨x0,x1,x2,x3⟩:=X.out.box;clear hb)
        |(go_at_call 125;refine(F.out _ X.out.below).mono ?_;rintro e w1 ⟨rfl,hb⟩;have X:=zV7 (X.out.went hb);obtain⟨x0,x1,x2,x3⟩:=X.out.box;clear hb)
        |(go_at_call 126;refine(O.out _ X.out.below).mono ?_;rintro e w1 ⟨rfl,hb⟩;have X:=zV7 (X.out.went hb);obtain⟨x0,x1,x2,x3⟩:=X.out.box;clear hb)
        |(go_at_call 127;refine(K.out _ X.out.below).mono ?_;rintro e w1 ⟨rfl,hb⟩;have X:=zV7 (X.out.went hb);obtain⟨x0,x1,x2,x3⟩:=X.out.box;clear hb)
        |(go_at_call 128;refine(U.out _ X.out.below).mono ?_;rintro e w1 ⟨rfl,hb⟩;have X:=zV7 (X.out.went hb);obtain⟨x0,x1,x2,x3⟩:=X.out.box;clear hb)
        | (go_at_call 129;refine(R.out _ X.out.below).mono ?_;rintro e w1 ⟨rfl,hb⟩;have X:=zV7 (X.out.went hb);obtain⟨x0,x1,x2,x3⟩:=X.out.box;clear hb))
       go_ret;exact⟨zAx E.out,X.out.below⟩
      |true=>
       rw[h5]at R;have E:=zV7 (zE6 h0 h1 h2 h3 h4 h5);clear h0 h1 h2 h3 h4 h5;go_enter Tryz.func107,Tryz.ntmps107
       go_wp2_with (first
        |(go_at_call 124;refine(M.out _ X.out.below).mono ?_;rintro e w1 ⟨rfl,hb⟩;have X:=zV7 (X.out.went hb);obtain⟨x0,x1,x2,x3⟩:=X.out.box;clear hb)
        |(go_at_call 125;refine(F.out _ X.out.below).mono ?_;rintro e w1 ⟨rfl,hb⟩;have X:=zV7 (X.out.went hb);obtain⟨x0,x1,x2,x3⟩:=X.out.box;clear hb)
        |(go_at_call 126;refine(O.out _ X.out.below).mono ?_;rintro e w1 ⟨rfl,hb⟩;have X:=zV7 (X.out.went hb);obtain⟨x0,x1,x2,x3⟩:=X.out.box;clear hb)
        |(go_at_call 127;refine(K.out _ X.out.below).mono ?_;rintro e w1 ⟨rfl,hb⟩;have X:=zV7 (X.out.went hb);obtain⟨x0,x1,x2,x3⟩:=X.out.box;clear hb)
        |(go_at_call 128;refine(U.out _ X.out.below).mono ?_;rintro e w1 ⟨rfl,hb⟩;have X:=zV7 (X.out.went hb);obtain⟨x0,x1,x2,x3⟩:=X.out.box;clear hb)
        | (go_at_call 129;refine(R.out _ X.out.below).mono ?_;rintro e w1 ⟨rfl,hb⟩;have X:=zV7 (X.out.went hb);obtain⟨x0,x1,x2,x3⟩:=X.out.box;clear hb))
       go_ret;exact⟨zAx E.out,X.out.below⟩
end Gr
namespace Im
open Gr (Gram Sh gv GAt Bx boxed checkN zBs zAC cell_later)
theorem zGp{W w w'}{h}{G}{S}(k:Bx W h G w)(f:Sep.Fr S w w')(hS:∀i,S i->W.heap.size+1<=i):Bx W h G w':=by
 have hn:¬S W.heap.size:=fun h=>by have:=hS _ h;omega
 exact⟨k.below.trans (f.below (fun i hi=>by have:=hS i hi;omega) k.below.size),⟨f.cell k.box.x0 hn,f.cell k.box.x1 hn,f.cell k.box.x2 hn,f.cell k.box.x3 hn⟩⟩
def VTo(G:Gram)(L:List Itm)(j:Nat)(x:Itm):Prop:=∃q,∃h:q<L.length,q<j/\x=L[q]/\zAI G L[q]=true
theorem zVL{G}{L}{x}:VTo G L 0 x↔False:=⟨fun⟨_,_,h,_⟩=>by omega,False.elim⟩
theorem zT5{G}{L}{j}(hj)(hr:zAI G L[j]=true)(x):VTo G L j x\/x=L[j]↔VTo G L (j+1) x:=by
 constructor
 ·rintro(⟨q,h1,h2,h3⟩|e)
  ·exact⟨q,h1,by omega,h3⟩
  ·exact⟨j,hj,by omega,e,hr⟩
 ·rintro⟨q,h1,h2,h3,h4⟩
  by_cases e:q=j
  ·subst e;exact .inr h3
  ·exact .inl ⟨q,h1,by omega,h3,h4⟩
theorem zRZ{G}{L}{j}(hj)(hr:¬zAI G L[j]=true)(x):VTo G L j x↔VTo G L (j+1) x:=by
 constructor
 ·rintro⟨q,h1,h2,h3⟩;exact⟨q,h1,by omega,h3⟩
 ·rintro⟨q,h1,h2,h3,h4⟩
  by_cases e:q=j
  ·subst e;exact absurd h4 hr
  ·exact⟨q,h1,by omega,h3,h4⟩
theorem zT4{G}{L}(x):VTo G L L.length x↔x∈L/\zAI G x=true:=by
 constructor
 ·rintro⟨q,h1,_,h3,h4⟩;subst h3;exact⟨List.getElem_mem h1,h4⟩
 ·rintro⟨h1,h2⟩;obtain⟨q,hq,rfl⟩:=List.getElem_of_mem h1;exact⟨q,hq,hq,rfl,h2⟩
def VSet(G:Gram)(L:List Itm)(x:Itm):Prop:=checkN G=0/\x∈L/\zAI G x=true
def zVX(X:Itm->Prop)(m:Nat)(w:World)(e:Ending)(w':World):Prop:=
 ∃b n,e=.returned (.map (some b))/\w.heap.size<=b/\n<=m/\MS b n X w'/\Below w.heap.size w w'
theorem zOy(h:Sh)(G:Gram)(L:List Itm)(a:Option Addr)(c:Nat)(w:World)(k:GAt h G w)(kl:ItsA a L w)(hw:∀x∈L,W64 x)(hL:L.length<=8796093022208):
  Calls Tryz.prog 178 #[gv h G,.slice a L.length c] w (zVX (VSet G L) L.length w):=by
 have X:=zV7 (Bx.start h G w 47);have C:=zV7 (fun w1 (b:Below w.heap.size w w1)=>zBs h G w1 (k.went b));have F:=zV7 (fun(x:Itm) w1 (b:Below w.heap.size w w1)=>zEp h G x w1 (k.went b));have KL:=zV7 (fun w1 (b:Below w.heap.size w w1)=>kl.went b);have HW:=zV7 hw;have M0:=zV7 (MSet.made (H:=Nat) (w.alloc (.cells #[.slice h.a1 G.terms.length h.c1,.slice h.a2 G.nons.length h.c2,.slice h.a3 G.rules.length h.c3,.int .i64 G.start] 47)) Tryz.prog 181 unitElem (.agg []));have X1:=zV7 (X.out.alloc (.map #[] 0));have hs1:(w.alloc (.cells #[.slice h.a1 G.terms.length h.c1,.slice h.a2 G.nons.length h.c2,.slice h.a3 G.rules.length h.c3,.int .i64 G.start] 47)).heap.size=w.heap.size+1:=by simp
 rw[hs1]at M0;clear k kl hw X hs1
 by_cases hc:checkN G=0
 ·rw[hc]at C;unfold gv at C F⊢;have hmm:=@run_makeMap Tryz.prog;go_enter Tryz.func178,Tryz.ntmps178;go_wp2_with (go_at_call 107;refine(C.out _ X1.out.below).mono ?_;rintro e w1 ⟨rfl,hb⟩;have X:=zV7 (X1.out.went hb);have M:=zV7 (M0.out.went hb);clear hb X1 M0);go_loopw [15] (fun i wr=>∃j:Nat,j<=L.length/\i=.int .i64 j/\Bx w h G wr/\∃n≤j,MS (w.heap.size+1) n (VTo G L j) wr) (fun i _=>L.length-(intOf i).toNat)
  case atStart=>exact⟨0,Nat.zero_le _,rfl,X.out,0,Nat.le_refl _,M.out.iff fun x _=>zVL.symm⟩
  case round=>
   obtain⟨j,hj,rfl,hX,n,hn,hM⟩:=hrel;clear X M;have X:=zV7 hX;have M:=zV7 hM;clear hX hM
   by_cases hlt:j<L.length
   ·obtain⟨b,o,rfl,c0,c1⟩:=(KL.out wr X.out.below).at j hlt;have hx:=HW.out _ (List.getElem_mem hlt);have HH:=zV7 (fun q=>zT5 (G:=G) (L:=L) (j:=j) hlt q);have HM:=zV7 (fun q=>zRZ (G:=G) (L:=L) (j:=j) hlt q);have e1:((L[j].1,L[j].2):Itm)=L[j]:=rfl;generalize L[j]=x at*;obtain⟨x0,x1⟩:=x;dsimp only at c0 c1;have FX:=zV7 (F.out (x0,x1) _ (X.out.alloc (.cells #[.int .i64 x0,.int .i64 x1] 181)).below);have XA:=zV7 (X.out.alloc (.cells #[.int .i64 x0,.int .i64 x1] 181));have y0:(wr.alloc (.cells #[.int .i64 x0,.int .i64 x1] 181)).cell? ⟨wr.heap.size,0,none⟩=some (.int .i64 x0):=zAC rfl rfl;have y1:(wr.alloc (.cells #[.int .i64 x0,.int .i64 x1] 181)).cell? ⟨wr.heap.size,1,none⟩=some (.int .i64 x1):=zAC rfl rfl;have MA:=zV7 (M.out.went (boxed wr (.cells #[.int .i64 x0,.int .i64 x1] 181)));have e2:(VTo G L j (x0,x1))=VTo G L j (x0,x1):=rfl;obtain⟨g0,g1,g2,g3⟩:=XA.out.box;clear X M e1 e2
    by_cases hr:zAI G (x0,x1)=true
    ·rw[hr]at FX;unfold iv at FX
     go_wp2_with (first
      |(go_at_call 214;refine FX.out.mono ?_;rintro e w2 ⟨rfl,hb⟩;have X:=zV7 (XA.out.went hb);have M:=zV7 (MA.out.went hb);have z0:=cell_later hb y0;have z1:=cell_later hb y1;have PA:=zV7 (zCs (x0,x1) hx (w.heap.size+1) n (VTo G L j) w2 M.out (by unfold maxLen;omega));clear hb)
      | (go_at_call 215;refine PA.out.mono ?_;rintro e w3 ⟨ok,_,rfl,hm,hf⟩;have MB:=zV7 hm;have XB:=zV7 (zGp X.out hf fun i hi=>by omega);clear hm hf))
     go_roundw
     case rel=>exact⟨j+1,by omega,by go_num,XB.out,n+1,by omega,MB.out.iff fun x _=>HH.out hr x⟩
     case measure=>simp[intOf];omega
    ·have hr':zAI G (x0,x1)=false:=by simpa using hr
     rw[hr']at FX;unfold iv at FX;go_wp2_with (go_at_call 214;refine FX.out.mono ?_;rintro e w2 ⟨rfl,hb⟩;have X:=zV7 (XA.out.went hb);have M:=zV7 (MA.out.went hb);clear hb);go_roundw
     case rel=>exact⟨j+1,by omega,by go_num,X.out,n,by omega,M.out.iff fun x _=>HM.out hr x⟩
     case measure=>simp[intOf];omega
   ·have hE:j=L.length:=by omega
    subst hE;go_wp2;go_ret;refine⟨_,n,rfl,by omega,hn,M.out.iff fun x _=>?_,X.out.below⟩;rw[zT4];exact⟨fun h=>⟨hc,h⟩,fun h=>h.2⟩
 ·have hb:(checkN G==0)=false:=by simpa using hc
  unfold gv at C⊢;have hmm:=@run_makeMap Tryz.prog;go_enter Tryz.func178,Tryz.ntmps178;go_wp2_with (go_at_call 107;refine(C.out _ X1.out.below).mono ?_;rintro e w1 ⟨rfl,hb⟩;have X:=zV7 (X1.out.went hb);have M:=zV7 (M0.out.went hb);clear hb X1 M0);go_ret;exact⟨_,0,rfl,by omega,Nat.zero_le _,M.out.iff fun x _=>⟨False.elim,fun h=>hc h.1⟩,X.out.below⟩
