/- Proof. -/
import Derived.Test.YtegeamggbglneaaGreatDoorPk26
import Derived.Test.YtegeamggbglneaaGreatDoorPk29
import Derived.Test.YtegeamggbglneaaGreatDoorPk13
import Derived.Test.YtegeamggbglneaaGreatDoorPk16
set_option maxHeartbeats 4000000
set_option maxRecDepth 100000
set_option linter.unusedVariables false
namespace Go.Proofs.YtegeamggbglneaaGreatDoor
namespace Gr
open Go.RowKit Go.Maps
theorem zQq{G}(h:jv G=false):G.terms.length<=120/\G.ah.length<=120/\G.rules.length<=300:=by
 simp only[jv,Bool.or_eq_false_iff,decide_eq_false_iff_not]at h;omega
theorem zLI{G}(h:jv G=true):checkN G=7:=by simp[checkN,h]
theorem zLH{G}(h:jv G=false)(h1:oI G=false):checkN G=10:=by simp[checkN,h,h1]
theorem zLJ{G}(h:jv G=false)(h1:oI G=true)(h2:rP G=false):checkN G=8:=by simp[checkN,h,h1,h2]
theorem zI2{G}(h:jv G=false)(h1:oI G=true)(h2:rP G=true)(h3:iE G=false):checkN G=1:=by simp[checkN,h,h1,h2,h3]
theorem zHx{G}(h:jv G=false)(h1:oI G=true)(h2:rP G=true)(h3:iE G=true)(h4:sI G=false):checkN G=8:=by simp[checkN,h,h1,h2,h3,h4]
theorem zI3{G}(h:jv G=false)(h1:oI G=true)(h2:rP G=true)(h3:iE G=true)(h4:sI G=true)(h5:rM G=false):checkN G=9:=by simp[checkN,h,h1,h2,h3,h4,h5]
theorem Ms{G}(h:jv G=false)(h1:oI G=true)(h2:rP G=true)(h3:iE G=true)(h4:sI G=true)(h5:rM G=true):checkN G=0:=by simp[checkN,h,h1,h2,h3,h4,h5]
theorem yw(h)(G)(w)(k:bI h G w):
  Calls Tryz.prog 107 #[gv h G] w (Is (.int .i64 (checkN G)) w):=by
 have X:=af (Bx.start h G w 47);have M:=af (fun w1 (b:Below w.heap.size w w1)=>zQp h G w1 (k.went b));have F:=af (fun w1 (b:Below w.heap.size w w1)=>zIQ h G w1 (k.went b));have O:=af (fun w1 (b:Below w.heap.size w w1)=>zGA h G w1 (k.went b));have K:=af (fun w1 (b:Below w.heap.size w w1)=>zFO h G w1 (k.went b));have U:=af (fun w1 (b:Below w.heap.size w w1)=>zGE h G w1 (k.went b));have KG:=af k;clear k;unfold gv;cases h0:jv G with
 |true=>
  have E:=af (zLI h0);rw[h0]at M;clear h0;go_enter Tryz.func107,Tryz.ntmps107
  go_wp2_with (first
   | (go_at_call 124;refine(M.out _ X.out.below).mono ?_;rintro e w1 ⟨rfl,hb⟩;have X:=af (X.out.went hb);obtain⟨x0,x1,x2,x3⟩:=X.out.box;clear hb))
  go_ret;exact⟨jP E.out,X.out.below⟩
 |false=>
  rw[h0]at M;cases h1:oI G with
  |false=>
   have E:=af (zLH h0 h1);rw[h1]at F;clear h0 h1;go_enter Tryz.func107,Tryz.ntmps107
   go_wp2_with (first
    |(go_at_call 124;refine(M.out _ X.out.below).mono ?_;rintro e w1 ⟨rfl,hb⟩;have X:=af (X.out.went hb);obtain⟨x0,x1,x2,x3⟩:=X.out.box;clear hb)
    | (go_at_call 125;refine(F.out _ X.out.below).mono ?_;rintro e w1 ⟨rfl,hb⟩;have X:=af (X.out.went hb);obtain⟨x0,x1,x2,x3⟩:=X.out.box;clear hb))
   go_ret;exact⟨jP E.out,X.out.below⟩
  |true=>
   rw[h1]at F;cases h2:rP G with
   |false=>
    have E:=af (zLJ h0 h1 h2);rw[h2]at O;clear h0 h1 h2;go_enter Tryz.func107,Tryz.ntmps107
    go_wp2_with (first
     |(go_at_call 124;refine(M.out _ X.out.below).mono ?_;rintro e w1 ⟨rfl,hb⟩;have X:=af (X.out.went hb);obtain⟨x0,x1,x2,x3⟩:=X.out.box;clear hb)
     |(go_at_call 125;refine(F.out _ X.out.below).mono ?_;rintro e w1 ⟨rfl,hb⟩;have X:=af (X.out.went hb);obtain⟨x0,x1,x2,x3⟩:=X.out.box;clear hb)
     | (go_at_call 126;refine(O.out _ X.out.below).mono ?_;rintro e w1 ⟨rfl,hb⟩;have X:=af (X.out.went hb);obtain⟨x0,x1,x2,x3⟩:=X.out.box;clear hb))
    go_ret;exact⟨jP E.out,X.out.below⟩
   |true=>
    rw[h2]at O;cases h3:iE G with
    |false=>
     have E:=af (zI2 h0 h1 h2 h3);rw[h3]at K;clear h0 h1 h2 h3;go_enter Tryz.func107,Tryz.ntmps107
     go_wp2_with (first
      |(go_at_call 124;refine(M.out _ X.out.below).mono ?_;rintro e w1 ⟨rfl,hb⟩;have X:=af (X.out.went hb);obtain⟨x0,x1,x2,x3⟩:=X.out.box;clear hb)
      |(go_at_call 125;refine(F.out _ X.out.below).mono ?_;rintro e w1 ⟨rfl,hb⟩;have X:=af (X.out.went hb);obtain⟨x0,x1,x2,x3⟩:=X.out.box;clear hb)
      |(go_at_call 126;refine(O.out _ X.out.below).mono ?_;rintro e w1 ⟨rfl,hb⟩;have X:=af (X.out.went hb);obtain⟨x0,x1,x2,x3⟩:=X.out.box;clear hb)
      | (go_at_call 127;refine(K.out _ X.out.below).mono ?_;rintro e w1 ⟨rfl,hb⟩;have X:=af (X.out.went hb);obtain⟨x0,x1,x2,x3⟩:=X.out.box;clear hb))
     go_ret;exact⟨jP E.out,X.out.below⟩
    |true=>
     rw[h3]at K;cases h4:sI G with
     |false=>
      have E:=af (zHx h0 h1 h2 h3 h4);rw[h4]at U;clear h0 h1 h2 h3 h4;go_enter Tryz.func107,Tryz.ntmps107
      go_wp2_with (first
       |(go_at_call 124;refine(M.out _ X.out.below).mono ?_;rintro e w1 ⟨rfl,hb⟩;have X:=af (X.out.went hb);obtain⟨x0,x1,x2,x3⟩:=X.out.box;clear hb)
       |(go_at_call 125;refine(F.out _ X.out.below).mono ?_;rintro e w1 ⟨rfl,hb⟩;have X:=af (X.out.went hb);obtain⟨x0,x1,x2,x3⟩:=X.out.box;clear hb)
       |(go_at_call 126;refine(O.out _ X.out.below).mono ?_;rintro e w1 ⟨rfl,hb⟩;have X:=af (X.out.went hb);obtain⟨x0,x1,x2,x3⟩:=X.out.box;clear hb)
       |(go_at_call 127;refine(K.out _ X.out.below).mono ?_;rintro e w1 ⟨rfl,hb⟩;have X:=af (X.out.went hb);obtain⟨x0,x1,x2,x3⟩:=X.out.box;clear hb)
       | (go_at_call 128;refine(U.out _ X.out.below).mono ?_;rintro e w1 ⟨rfl,hb⟩;have X:=af (X.out.went hb);obtain⟨x0,x1,x2,x3⟩:=X.out.box;clear hb))
      go_ret;exact⟨jP E.out,X.out.below⟩
     |true=>
      rw[h4]at U;have hr3:=(zQq h0).2.2;have R:=af (fun w1 (b:Below w.heap.size w w1)=>zJp h G w1 (KG.out.went b) (by omega));cases h5:rM G with
      |false=>
       have E:=af (zI3 h0 h1 h2 h3 h4 h5);rw[h5]at R;clear h0 h1 h2 h3 h4 h5;go_enter Tryz.func107,Tryz.ntmps107
       go_wp2_with (first
        |(go_at_call 124;refine(M.out _ X.out.below).mono ?_;rintro e w1 ⟨rfl,hb⟩;have X:=af (X.out.went hb);obtain⟨x0,x1,x2,x3⟩:=X.out.box;clear hb)
        |(go_at_call 125;refine(F.out _ X.out.below).mono ?_;rintro e w1 ⟨rfl,hb⟩;have X:=af (X.out.went hb);obtain⟨x0,x1,x2,x3⟩:=X.out.box;clear hb)
        |(go_at_call 126;refine(O.out _ X.out.below).mono ?_;rintro e w1 ⟨rfl,hb⟩;have X:=af (X.out.went hb);obtain⟨x0,x1,x2,x3⟩:=X.out.box;clear hb)
        |(go_at_call 127;refine(K.out _ X.out.below).mono ?_;rintro e w1 ⟨rfl,hb⟩;have X:=af (X.out.went hb);obtain⟨x0,x1,x2,x3⟩:=X.out.box;clear hb)
        |(go_at_call 128;refine(U.out _ X.out.below).mono ?_;rintro e w1 ⟨rfl,hb⟩;have X:=af (X.out.went hb);obtain⟨x0,x1,x2,x3⟩:=X.out.box;clear hb)
        | (go_at_call 129;refine(R.out _ X.out.below).mono ?_;rintro e w1 ⟨rfl,hb⟩;have X:=af (X.out.went hb);obtain⟨x0,x1,x2,x3⟩:=X.out.box;clear hb))
       go_ret;exact⟨jP E.out,X.out.below⟩
      |true=>
       rw[h5]at R;have E:=af (Ms h0 h1 h2 h3 h4 h5);clear h0 h1 h2 h3 h4 h5;go_enter Tryz.func107,Tryz.ntmps107
       go_wp2_with (first
        |(go_at_call 124;refine(M.out _ X.out.below).mono ?_;rintro e w1 ⟨rfl,hb⟩;have X:=af (X.out.went hb);obtain⟨x0,x1,x2,x3⟩:=X.out.box;clear hb)
        |(go_at_call 125;refine(F.out _ X.out.below).mono ?_;rintro e w1 ⟨rfl,hb⟩;have X:=af (X.out.went hb);obtain⟨x0,x1,x2,x3⟩:=X.out.box;clear hb)
        |(go_at_call 126;refine(O.out _ X.out.below).mono ?_;rintro e w1 ⟨rfl,hb⟩;have X:=af (X.out.went hb);obtain⟨x0,x1,x2,x3⟩:=X.out.box;clear hb)
        |(go_at_call 127;refine(K.out _ X.out.below).mono ?_;rintro e w1 ⟨rfl,hb⟩;have X:=af (X.out.went hb);obtain⟨x0,x1,x2,x3⟩:=X.out.box;clear hb)
        |(go_at_call 128;refine(U.out _ X.out.below).mono ?_;rintro e w1 ⟨rfl,hb⟩;have X:=af (X.out.went hb);obtain⟨x0,x1,x2,x3⟩:=X.out.box;clear hb)
        | (go_at_call 129;refine(R.out _ X.out.below).mono ?_;rintro e w1 ⟨rfl,hb⟩;have X:=af (X.out.went hb);obtain⟨x0,x1,x2,x3⟩:=X.out.box;clear hb))
       go_ret;exact⟨jP E.out,X.out.below⟩
end Gr
namespace Au
open Gr (ai checkN lM jv top)
open Im
theorem DU{G}(hv:checkN G=0):top G<=240:=by
 have h:=(lM hv).1;unfold jv at h;simp only[Bool.or_eq_false_iff,decide_eq_false_iff_not]at h;unfold top;omega
structure Zv (G:ai) (X:List mK):Prop where
 hv:checkN G=0
 small:Small X
 len:X.length<=2000
 right:∀s∈X,iG s.1/\∀x∈s.1,bo G x=true
 «to»:∀k (h:k<X.length) j (h':j<X[k].2.length),∃n:Nat,X[k].2[j].2=(n:Int)/\∃hn:n<X.length,∀x∈X[n].1,NK G X[k].2[j].1 x
 early:∀t,0<t->t<X.length->∃k,∃h:k<X.length,∃j,∃h':j<X[k].2.length,k<t/\X[k].2[j].2=(t:Int)
 some:∀t (h:t<X.length),X[t].1≠[]
 spells:∀i (hi:i<X.length) (r:Int),Gr.cN G r=true->(Gr.ax G r).2.length≠0->cM G X[i].1 (r,0)->∃j:Nat,∃hj:j<X.length,sU X (i:Int) (Gr.ax G r).2=(j:Int)/\(r,((Gr.ax G r).2.length:Int))∈X[j].1
theorem zU5{G}{X:List mK}(h:bE G 0 X):Zv G X:=by
 generalize he:(0:Int)=e at h;cases h with
 |bad hb=>exact absurd he.symm hb
 |many _ _ _=>cases he
 |all hv hs hf=>
  rename_i n;have D:=hs.done hf;generalize runs G (top G) n=q at*;have hl:=rD D.all
  have tE:∀i (h:i<(states q).length),(states q)[i]=(bp q.1 i,q.2.getD i []):=fun i h=>by
   have:=zT D.all (i:=i) (by omega);rw[List.getElem?_eq_getElem h,Option.some.injEq]at this;exact this
  have good:∀s∈states q,s.1∈q.1:=fun s hs=>by
   obtain⟨i,hi,rfl⟩:=List.mem_iff_getElem.1 hs;rw[tE i hi];exact ux (by omega)
  have hr:∀s∈states q,iG s.1/\∀x∈s.1,bo G x=true:=fun s hs=>(D.ok.good _ (good s hs)).2
  refine⟨hv,⟨by omega,fun s hs=>?_,fun s hs=>?_⟩,by omega,hr,fun k h j h'=>?_,fun t h0 ht=>?_,fun t ht=>?_,fun i hi r hr h0 hx=>?_⟩
  ·have:=Nat.le_trans (Ib (hr s hs).1 (hr s hs).2) (se hv);omega
  ·obtain⟨i,hi,rfl⟩:=List.mem_iff_getElem.1 hs;rw[tE i hi];have hi2:i<q.2.length:=by rw[D.all];omega
   rw[←X7 D.ok hi2];have:=X8 q.2 (i:Int) (top G+1);have:=DU hv;dsimp only;omega
  ·have hk:k<q.1.length:=by omega
   have e2:(states q)[k].2=q.2.getD k []:=by rw[tE k h]
   have hm:(states q)[k].2[j]∈q.2.getD k []:=by
    rw[←e2];exact List.getElem_mem h'
   obtain⟨n,h1,h2,h3⟩:=D.enters hk (s:=(states q)[k].2[j].1) (t:=(states q)[k].2[j].2) hm;refine⟨n,h1,by omega,?_⟩;rw[tE n (by omega)];exact h3
  ·obtain⟨k,s,h1,h2⟩:=D.early h0 (by omega);have hk:k<(states q).length:=by omega
   have e2:(states q)[k].2=q.2.getD k []:=by rw[tE k hk]
   rw[←e2]at h2;obtain⟨j,hj,e⟩:=List.mem_iff_getElem.1 h2;exact⟨k,hk,j,hj,h1,by rw[e]⟩
  ·rw[tE t ht];exact D.some (by omega)
  ·rw[tE i hi]at hx;obtain⟨j,h1,h2,h3⟩:=D.spells hv (i:=i) (by omega) hr h0 (((sQ _ _).2 _).2 hx);refine⟨j,by omega,?_,by rw[tE j (by omega)];exact h3⟩;rw[←hl,Yq (fun i h=>by rw[tE i h])]at h2;exact h2
end Au
namespace Im
open Go.RowKit Go.Maps
open Gr (ai Sh gv bI Bx boxed checkN yw bg cell_later)
theorem uL{W w w'}{h}{G}{S}(k:Bx W h G w)(f:Sep.Fr S w w')(hS:∀i,S i->W.heap.size+1<=i):Bx W h G w':=by
 have hn:¬S W.heap.size:=fun h=>by have:=hS _ h;omega
 exact⟨k.below.trans (f.below (fun i hi=>by have:=hS i hi;omega) k.below.size),⟨f.cell k.box.x0 hn,f.cell k.box.x1 hn,f.cell k.box.x2 hn,f.cell k.box.x3 hn⟩⟩
def rU(G:ai)(L:List au)(j:Nat)(x:au):Prop:=∃q,∃h:q<L.length,q<j/\x=L[q]/\bo G L[q]=true
theorem zV7{G}{L}{x}:rU G L 0 x↔False:=⟨fun⟨_,_,h,_⟩=>by omega,False.elim⟩
theorem zUg{G}{L}{j}(hj)(hr:bo G L[j]=true)(x):rU G L j x\/x=L[j]↔rU G L (j+1) x:=by
 constructor
 ·rintro(⟨q,h1,h2,h3⟩|e)
  ·exact⟨q,h1,by omega,h3⟩
  ·exact⟨j,hj,by omega,e,hr⟩
 ·rintro⟨q,h1,h2,h3,h4⟩
  by_cases e:q=j
  ·subst e;exact .inr h3
  ·exact .inl ⟨q,h1,by omega,h3,h4⟩
theorem zR8{G}{L}{j}(hj)(hr:¬bo G L[j]=true)(x):rU G L j x↔rU G L (j+1) x:=by
 constructor
 ·rintro⟨q,h1,h2,h3⟩;exact⟨q,h1,by omega,h3⟩
 ·rintro⟨q,h1,h2,h3,h4⟩
  by_cases e:q=j
  ·subst e;exact absurd h4 hr
  ·exact⟨q,h1,by omega,h3,h4⟩
theorem zUf{G}{L}(x):rU G L L.length x↔x∈L/\bo G x=true:=by
 constructor
 ·rintro⟨q,h1,_,h3,h4⟩;subst h3;exact⟨List.getElem_mem h1,h4⟩
 ·rintro⟨h1,h2⟩;obtain⟨q,hq,rfl⟩:=List.getElem_of_mem h1;exact⟨q,hq,hq,rfl,h2⟩
def qp(G:ai)(L:List au)(x:au):Prop:=checkN G=0/\x∈L/\bo G x=true
def zWJ(X:au->Prop)(m:Nat)(w:World)(e:Ending)(w':World):Prop:=
 ∃b n,e=.returned (.map (some b))/\w.heap.size<=b/\n<=m/\MS b n X w'/\Below w.heap.size w w'
theorem zPP(h:Sh)(G:ai)(L:List au)(a:Option Addr)(c:Nat)(w:World)(k:bI h G w)(kl:bG a L w)(hw:∀x∈L,dY x)(hL:L.length<=8796093022208):
  Calls Tryz.prog 178 #[gv h G,.slice a L.length c] w (zWJ (qp G L) L.length w):=by
 have X:=af (Bx.start h G w 47);have C:=af (fun w1 (b:Below w.heap.size w w1)=>yw h G w1 (k.went b));have F:=af (fun(x:au) w1 (b:Below w.heap.size w w1)=>Hg h G x w1 (k.went b));have KL:=af (fun w1 (b:Below w.heap.size w w1)=>kl.went b);have HW:=af hw;have M0:=af (cj.made (H:=Nat) (w.alloc (.cells #[.slice h.a1 G.terms.length h.c1,.slice h.a2 G.ah.length h.c2,.slice h.a3 G.rules.length h.c3,.int .i64 G.start] 47)) Tryz.prog 181 unitElem (.agg []));have X1:=af (X.out.alloc (.map #[] 0));have hs1:(w.alloc (.cells #[.slice h.a1 G.terms.length h.c1,.slice h.a2 G.ah.length h.c2,.slice h.a3 G.rules.length h.c3,.int .i64 G.start] 47)).heap.size=w.heap.size+1:=by simp
 rw[hs1]at M0;clear k kl hw X hs1
 by_cases hc:checkN G=0
 ·rw[hc]at C;unfold gv at C F⊢;have hmm:=@run_makeMap Tryz.prog;go_enter Tryz.func178,Tryz.ntmps178;go_wp2_with (go_at_call 107;refine(C.out _ X1.out.below).mono ?_;rintro e w1 ⟨rfl,hb⟩;have X:=af (X1.out.went hb);have M:=af (M0.out.went hb);clear hb X1 M0);go_loopw [15] (fun i wr=>∃j:Nat,j<=L.length/\i=.int .i64 j/\Bx w h G wr/\∃n≤j,MS (w.heap.size+1) n (rU G L j) wr) (fun i _=>L.length-(intOf i).toNat)
  case atStart=>exact⟨0,Nat.zero_le _,rfl,X.out,0,Nat.le_refl _,M.out.iff fun x _=>zV7.symm⟩
  case round=>
   obtain⟨j,hj,rfl,hX,n,hn,hM⟩:=hrel;clear X M;have X:=af hX;have M:=af hM;clear hX hM
   by_cases hlt:j<L.length
   ·obtain⟨b,o,rfl,c0,c1⟩:=(KL.out wr X.out.below).at j hlt;have hx:=HW.out _ (List.getElem_mem hlt);have HH:=af (fun q=>zUg (G:=G) (L:=L) (j:=j) hlt q);have HM:=af (fun q=>zR8 (G:=G) (L:=L) (j:=j) hlt q);have e1:((L[j].1,L[j].2):au)=L[j]:=rfl;generalize L[j]=x at*;obtain⟨x0,x1⟩:=x;dsimp only at c0 c1;have FX:=af (F.out (x0,x1) _ (X.out.alloc (.cells #[.int .i64 x0,.int .i64 x1] 181)).below);have XA:=af (X.out.alloc (.cells #[.int .i64 x0,.int .i64 x1] 181));have y0:(wr.alloc (.cells #[.int .i64 x0,.int .i64 x1] 181)).cell? ⟨wr.heap.size,0,none⟩=some (.int .i64 x0):=bg rfl rfl;have y1:(wr.alloc (.cells #[.int .i64 x0,.int .i64 x1] 181)).cell? ⟨wr.heap.size,1,none⟩=some (.int .i64 x1):=bg rfl rfl;have MA:=af (M.out.went (boxed wr (.cells #[.int .i64 x0,.int .i64 x1] 181)));have e2:(rU G L j (x0,x1))=rU G L j (x0,x1):=rfl;obtain⟨g0,g1,g2,g3⟩:=XA.out.box;clear X M e1 e2
    by_cases hr:bo G (x0,x1)=true
    ·rw[hr]at FX;unfold iv at FX
     go_wp2_with (first
      |(go_at_call 214;refine FX.out.mono ?_;rintro e w2 ⟨rfl,hb⟩;have X:=af (XA.out.went hb);have M:=af (MA.out.went hb);have z0:=cell_later hb y0;have z1:=cell_later hb y1;have PA:=af (wL (x0,x1) hx (w.heap.size+1) n (rU G L j) w2 M.out (by unfold maxLen;omega));clear hb)
      | (go_at_call 215;refine PA.out.mono ?_;rintro e w3 ⟨ok,_,rfl,hm,hf⟩;have MB:=af hm;have XB:=af (uL X.out hf fun i hi=>by omega);clear hm hf))
     go_roundw
     case rel=>exact⟨j+1,by omega,by go_num,XB.out,n+1,by omega,MB.out.iff fun x _=>HH.out hr x⟩
     case measure=>simp[intOf];omega
    ·have hr':bo G (x0,x1)=false:=by simpa using hr
     rw[hr']at FX;unfold iv at FX;go_wp2_with (go_at_call 214;refine FX.out.mono ?_;rintro e w2 ⟨rfl,hb⟩;have X:=af (XA.out.went hb);have M:=af (MA.out.went hb);clear hb);go_roundw
     case rel=>exact⟨j+1,by omega,by go_num,X.out,n,by omega,M.out.iff fun x _=>HM.out hr x⟩
     case measure=>simp[intOf];omega
   ·have hE:j=L.length:=by omega
    subst hE;go_wp2;go_ret;refine⟨_,n,rfl,by omega,hn,M.out.iff fun x _=>?_,X.out.below⟩;rw[zUf];exact⟨fun h=>⟨hc,h⟩,fun h=>h.2⟩
 ·have hb:(checkN G==0)=false:=by simpa using hc
  unfold gv at C⊢;have hmm:=@run_makeMap Tryz.prog;go_enter Tryz.func178,Tryz.ntmps178;go_wp2_with (go_at_call 107;refine(C.out _ X1.out.below).mono ?_;rintro e w1 ⟨rfl,hb⟩;have X:=af (X1.out.went hb);have M:=af (M0.out.went hb);clear hb X1 M0);go_ret;exact⟨_,0,rfl,by omega,Nat.zero_le _,M.out.iff fun x _=>⟨False.elim,fun h=>hc h.1⟩,X.out.below⟩
end Im
namespace Im
open Go.RowKit Go.Maps
open Gr (ai Sh gv bI oJ step checkN dD oC pF aN)
theorem zRY{a}{xs}{S}{w w'}(h:Sep.Reads a xs w)(f:Sep.Fr S w w')(hn:∀b o,a=some ⟨b,o,none⟩->¬S b):Sep.Reads a xs w':=fun i hi=>by
 obtain⟨b,o,e,hc⟩:=h i hi;exact⟨b,o,e,f.cell hc (hn b o e)⟩
structure Bo (W:World) (h:Sh) (G:ai) (x:au) (d:Nat) (w:World):Prop where
 fr:Sep.Fr (· =d) W w
 box:oJ W.heap.size h G w
 i0:w.cell? ⟨W.heap.size+1,0,none⟩=some (.int .i64 x.1)
 i1:w.cell? ⟨W.heap.size+1,1,none⟩=some (.int .i64 x.2)
theorem Bo.start(h)(G)(x)(d)(w)(T U):Bo w h G x d ((w.alloc (.cells #[.slice h.a1 G.terms.length h.c1,.slice h.a2 G.ah.length h.c2,.slice h.a3 G.rules.length h.c3,.int .i64 G.start] T)).alloc (.cells #[.int .i64 x.1,.int .i64 x.2] U)):=by
 have k:=Bi.start h G x w T U;exact⟨.of_below k.below,k.bx.box,k.i0,k.i1⟩
theorem Bo.later{W}{h}{G}{x}{d}{w w'}(k:Bo W h G x d w)(hd:d<W.heap.size)(f:Sep.Fr (· =d) w w'):Bo W h G x d w':=by
 have h0:¬W.heap.size=d:=by omega
 have h1:¬W.heap.size+1=d:=by omega
 exact⟨k.fr.trans f (.refl _ _),⟨f.cell k.box.x0 h0,f.cell k.box.x1 h0,f.cell k.box.x2 h0,f.cell k.box.x3 h0⟩,f.cell k.i0 h1,f.cell k.i1 h1⟩
theorem Bo.went{W}{h}{G}{x}{d}{w w'}(k:Bo W h G x d w)(hd:d<W.heap.size)(hb:Below w.heap.size w w'):Bo W h G x d w':=k.later hd (.of_below hb)
theorem zLm{G}{s}{i}(h:i∈dD G s):i<G.rules.length:=(Gr.rF.1 h).1
theorem Vr{G}{d n}{X:au->Prop}{x}{w}(hX:∀y,X y->bo G y=true)(hx:bo G x=true)(h:MS d n (fun y=>X y\/y=x) w):MS d (allI G).length (fun y=>X y\/y=x) w:=
 h.tight vK (allI G) fun y _ hy=>uC (hy.elim (hX y) fun e=>e▸hx)
theorem UC(h:Sh)(G:ai)(hv:checkN G=0)(d:Nat)(x:au)(X:au->Prop)(w:World)(hx:bo G x=true)(hX:∀y,X y->bo G y=true)(ma:X x)(hs:MS d (allI G).length X w):
  Calls Tryz.prog 179 #[.map (some d),gv h G,iv x] w fun e w'=>e=.returned (.tuple #[])/\∃Y,mV G X x Y/\MS d (allI G).length Y w'/\Sep.Fr (· =d) w w':=by
 have ha:=se hv;have hd:=hs.lt;have B:=af (Bo.start h G x d w 47 181);have P:=af (wL x (Ee hv hx) d (allI G).length X _ (hs.went (Bi.start h G x w 47 181).below) (by unfold maxLen;omega));obtain⟨x0,x1⟩:=x;unfold gv iv at*;dsimp only at B P⊢;go_enter Tryz.func179,Tryz.ntmps179;go_wp2_with (go_at_call 215;refine P.out.mono ?_;rintro e w1 ⟨ok,hok,rfl,hm,hf⟩;obtain rfl:ok=false:=(by cases ok with|false=>rfl|true=>exact absurd ma (hok.1 rfl));have PM:=af hm;have PF:=af hf;clear hm hf hok);refine bodyPost_ret (v:=.tuple #[]) (by simp[results,Tryz.results179,go_sem]) rfl ?_;exact⟨rfl,_,.none ma fun y=> .rfl,Vr hX hx PM.out,B.out.fr.trans PF.out (.refl _ _)⟩
theorem zL8(h:Sh)(G:ai)(hv:checkN G=0)(W0:World)(k:bI h G W0)(d:Nat)(hd:W0.heap.size<=d):∀(N:Nat) (M:List au) (x:au) (X:au->Prop) (w:World),M.length<=N->bo G x=true->(∀y,X y->bo G y=true)->(∀y,bo G y=true->¬X y->y∈M)->
  Below W0.heap.size W0 w->MS d (allI G).length X w->
  Calls Tryz.prog 179 #[.map (some d),gv h G,iv x] w fun e w'=>e=.returned (.tuple #[])/\∃Y,mV G X x Y/\MS d (allI G).length Y w'/\Sep.Fr (· =d) w w':=by
 have ha:=se hv;have hr3:=(rH (Gr.lM hv).1).1;intro N
 induction N with
 |zero=>
  intro M x X w hM hx hX hm hb hs;have hMe:M=[]:=by cases M with|nil=>rfl|cons _ _=>simp at hM
  subst hMe
  have ma:X x:=by
   rcases Classical.em (X x)with q|q
   ·exact q
   ·have:=hm x hx q;cases this
  exact UC h G hv d x X w hx hX ma hs
 |succ N ih=>
  intro M x X w hM hx hX hm hb hs;rcases Classical.em (X x)with ma|ma
  ·exact UC h G hv d x X w hx hX ma hs
  have QT:=hm x hx ma
  have QO:(M.erase x).length<=N:=by
   rw[List.length_erase_of_mem QT];omega
  have FU:=hs.lt;have B:=af (Bo.start h G x d w 47 181);have P:=af (wL x (Ee hv hx) d (allI G).length X _ (hs.went (Bi.start h G x w 47 181).below) (by unfold maxLen;omega));have HB:=af (fun w1 (f:Sep.Fr (· =d) w w1)=>show Below W0.heap.size W0 w1 from hb.trans (f.below (fun i hi=>by omega) hb.size));have HN:=af (fun w1 (b:Below W0.heap.size W0 w1)=>zK8 h G x w1 (k.went b));have HO:=af (fun w1 (b:Below W0.heap.size W0 w1)=>pF h G (aQ G x) w1 (k.went b) (by omega));have IH:=af (fun(r:Int) (Z:au->Prop) w1 (b:Below W0.heap.size W0 w1) (hr:bo G (r,0)=true) (hZ:∀y,Z y->bo G y=true) (hZX:∀y,X y->Z y) (hZx:Z x) (hz:MS d (allI G).length Z w1)=>ih (M.erase x) (r,0) Z w1 QO hr hZ (fun y hy hn=>(List.mem_erase_of_ne (fun e=>hn (by rw[e];exact hZx))).2 (hm y hy fun q=>hn (hZX y q))) b hz);obtain⟨e1,e2⟩:=zTq hx;rw[e1,e2]at HN;clear e1 e2 ih k hs hm hM QO QT;generalize hnb:aZ G x=nb at HN;obtain⟨x0,x1⟩:=x;unfold gv iv at*;dsimp only at B P⊢;go_enter Tryz.func179,Tryz.ntmps179
  go_wp2_with (first
   |(go_at_call 215;refine P.out.mono ?_;rintro e w1 ⟨ok,hok,rfl,hm,hf⟩;obtain rfl:ok=true:=hok.2 ma;have PM:=af (Vr hX hx hm);have PB:=af (B.out.later FU hf);obtain⟨⟨g0,g1,g2,g3⟩,y0,y1⟩:=(⟨PB.out.box,PB.out.i0,PB.out.i1⟩:_/\_/\_);clear hm hf hok B P)
   |(go_at_call 216;refine(HN.out _ (HB.out _ PB.out.fr)).mono ?_;rintro e w2 ⟨rfl,hb2⟩;have QM:=af (PM.out.went hb2);have QB:=af (PB.out.went FU hb2);obtain⟨⟨g0,g1,g2,g3⟩,y0,y1⟩:=(⟨QB.out.box,QB.out.i0,QB.out.i1⟩:_/\_/\_);clear hb2 PM PB)
   | (go_at_call 156;refine(HO.out _ (HB.out _ QB.out.fr)).mono ?_;rintro e w3 ⟨a3,c3,rfl,hr,hn,hb3⟩;have RM:=af (QM.out.went hb3);have RB:=af (QB.out.went FU hb3);have RL:=af hr;have RN:=af (show∀b o,a3=some ⟨b,o,none⟩->¬b=d from fun b o e=>by have:=hn _ e;have:=QB.out.fr.size;dsimp only at*;omega);clear hr hn hb3 QM QB))
  clear HN HO;have PS:=af (Part.start (K:=dD G (aQ G (x0,x1))) hx (fun y=>(Iff.rfl:(X y\/y=(x0,x1))↔_)));have HK:=af (fun j (hj:j<(dD G (aQ G (x0,x1))).length)=>show(oC G (aQ G (x0,x1)))[j]'(by rw[Gr.GF];exact hj)=(((dD G (aQ G (x0,x1)))[j]:Nat):Int)by simp[oC,Gr.km,dD]);have hkl:=Gr.GF G (aQ G (x0,x1))
  have hsm:(dD G (aQ G (x0,x1))).length<=300:=by
   have:=Gr.YQ G.rules (aQ G (x0,x1)) G.rules.length;rw[←hkl];exact Nat.le_trans this hr3
  rw[hkl];go_loopw [24] (fun i wr=>∃j:Nat,j<=(dD G (aQ G (x0,x1))).length/\i=.int .i64 j/\Bo w h G (x0,x1) d wr/\Sep.Reads a3 (aN (oC G (aQ G (x0,x1)))) wr/\∃Z,Part G X (x0,x1) (dD G (aQ G (x0,x1))) j Z/\MS d (allI G).length Z wr) (fun i _=>(dD G (aQ G (x0,x1))).length-(intOf i).toNat)
  case atStart=>exact⟨0,Nat.zero_le _,rfl,RB.out,RL.out,_,PS.out,RM.out⟩
  case round=>
   obtain⟨j,hj,rfl,hB,hL,Z,hP,hZ⟩:=hrel;clear RB RL RM PS;obtain⟨⟨g0,g1,g2,g3⟩,y0,y1⟩:=(⟨hB.box,hB.i0,hB.i1⟩:_/\_/\_);have B:=af hB;have L:=af hL;have PZ:=af hP;have MZ:=af hZ
   by_cases hlt:j<(dD G (aQ G (x0,x1))).length
   ·obtain⟨b,o,rfl,hc⟩:=hL j (by simp[aN];omega)
    have hk:(aN (oC G (aQ G (x0,x1))))[j]'(by simp[aN];omega)=.int .i64 (((dD G (aQ G (x0,x1)))[j]:Nat):Int):=by
     simp only[aN,List.getElem_map,Gr.iv];rw[HK.out j hlt]
    rw[hk]at hc;have PST:=af (fun(Y:au->Prop)=>Part.step (Y:=Y) hv hx hP hlt);have hkr:bo G ((((dD G (aQ G (x0,x1)))[j]:Nat):Int),0)=true:=wC (Nat.le_of_lt (zLm (List.getElem_mem hlt)));have C:=af (IH.out _ Z wr (HB.out _ hB.fr) hkr (hP.right hX) hP.old hP.own hZ);clear hk hL hP hZ hB hkr;generalize (dD G (aQ G (x0,x1)))[j]=r at*;go_wp2_with (go_at_call 179;refine C.out.mono ?_;rintro e w4 ⟨rfl,Y,hs,hm,hf⟩;have MY:=af hm;have PY:=af (PST.out Y hs);have BY:=af (B.out.later FU hf);have LY:=af (zRY L.out hf RN.out);clear hs hm hf);go_roundw
    case rel=>exact⟨j+1,by omega,by go_num,BY.out,LY.out,Y,PY.out,MY.out⟩
    case measure=>simp[intOf];omega
   ·have hE:j=(dD G (aQ G (x0,x1))).length:=by omega
    subst hE;go_wp2;go_end0;exact⟨rfl,Z,PZ.out.done,MZ.out,B.out.fr⟩
end Im
namespace Au
open Gr (ai checkN Ms oI fo top dD)
open Im
def AK(G:ai)(out:List au):List au:=out.foldl (fun o y=>if aZ G y then adds o (dD G (aQ G y))else o) out
theorem Wx{G}{L}:∀(l out:List au),Mid G L out->(∀y∈l,cM G L y)->Mid G L (l.foldl (fun o y=>if aZ G y then adds o (dD G (aQ G y))else o) out)
 |[],out,h,_=>h
 |y::l,out,h,k=>by
  rw[List.foldl_cons];refine Wx l _ ?_ fun z hz=>k z (List.mem_cons_of_mem _ hz)
  split
  ·rename_i hb;exact h.adds (k y (List.mem_cons_self ..)) hb
  ·exact h
theorem zN0{G}{L out}(h:Mid G L out):Mid G L (AK G out):=Wx out out h fun y hy=>h.sub y hy
def kK(G:ai):Nat->List au->List au
 |0,out=>out
 |n+1,out=>kK G n (AK G out)
theorem Uu{G}{L}:∀(n:Nat) (out:List au),Mid G L out->Mid G L (kK G n out)
 |0,_,h=>h
 |n+1,_,h=>Uu n _ (zN0 h)
def Zl(G:ai)(out:List au):Bool:=out.all fun y=> !aZ G y||(dD G (aQ G y)).all fun r=>decide (((r:Int),(0:Int))∈out)
theorem zUQ{G}{out}(h:Zl G out=true):Im.Shut G out:=fun y hy hb r hr=>by
 have h1:=List.all_eq_true.1 h y hy;rw[hb,Bool.not_true,Bool.false_or]at h1;exact of_decide_eq_true (List.all_eq_true.1 h1 r hr)
def Du(l:List au):Bool:=decide (l.Pairwise gH)
theorem Il{l}(h:Du l=true):iG l:=of_decide_eq_true (p:=l.Pairwise gH) h
theorem sL{G}{L}(n)(h1:Du L=true)(h2:(L.all fun x=>bo G x)=true)(h3:Zl G (kK G n L)=true):Is (kK G n L) (cM G L):=
 (Uu n L (.start ⟨Il h1,fun x=>⟨fun h=>⟨h,List.all_eq_true.1 h2 x h⟩,fun h=>h.1⟩⟩)).done (zUQ h3)
def OT(G:ai)(c:List au)(s:Nat)(p:Half):Half:=
 if jR G c s=[]then p else(if jR G c s∈p.1 then p.1 else p.1++[jR G c s],p.2++[((s:Int),((p.1++[jR G c s]).idxOf (jR G c s):Int))])
def Aa(G:ai)(c:List au):Nat->Half->Half
 |0,p=>p
 |n+1,p=>OT G c (n+1) (Aa G c n p)
theorem XZ{G}{c}(h:iG c)(p):∀n,mQ G c n p=Aa G c n p
 |0=>rfl
 |n+1=>by
  rw[DZ,XZ h p n];show gW G c (n+1) (Aa G c n p)=OT G c (n+1) (Aa G c n p);unfold gW OT;rw[WZ h]
theorem Fb{G}{t}{q}{C}(hq)(hC:Is C (cM G q.1[q.2.length])):nz G t q=((Aa G C t (q.1,[])).1,q.2++[(Aa G C t (q.1,[])).2]):=by
 rw[Ik hq,(sQ G q.1[q.2.length]).uniq hC,XZ hC.1]
def GB:ai:={terms:=[⟨#[65]⟩,⟨#[66]⟩],ah:=[⟨#[115]⟩],rules:=[(3,[1,3]),(3,[2])],start:=3}
theorem zO:checkN GB=0:=by
 refine Ms (by decide+kernel) ?_ (by decide+kernel) (by decide+kernel) (by decide+kernel) (by decide+kernel);have h1:fo ⟨#[65]⟩=true:=by decide+kernel
 have h2:fo ⟨#[66]⟩=true:=by decide+kernel
 have h3:fo ⟨#[115]⟩=true:=by decide+kernel
 simp[oI,GB,h1,h2,h3]
abbrev k0:List au:=[(2,0)]
abbrev k1:List au:=[(0,1)]
abbrev k2:List au:=[(1,1)]
abbrev k3:List au:=[(2,1)]
abbrev k4:List au:=[(0,2)]
abbrev t0:List (Int×Int):=[(1,1),(2,2),(3,3)]
abbrev t1:List (Int×Int):=[(1,1),(2,2),(3,4)]
theorem Sq:runs GB (top GB) 0=([k0],[]):=rfl
theorem Sr:runs GB (top GB) 1=([k0,k1,k2,k3],[t0]):=by
 show nz GB (top GB) (runs GB (top GB) 0)= _;rw[Sq,Fb (by decide) (sL (L:=k0) 4 (by decide+kernel) (by decide+kernel) (by decide+kernel))]
 decide+kernel
theorem Ss:runs GB (top GB) 2=([k0,k1,k2,k3,k4],[t0,t1]):=by
 show nz GB (top GB) (runs GB (top GB) 1)= _;rw[Sr,Fb (by decide) (sL (L:=k1) 4 (by decide+kernel) (by decide+kernel) (by decide+kernel))]
 decide+kernel
theorem Su:runs GB (top GB) 3=([k0,k1,k2,k3,k4],[t0,t1,[]]):=by
 show nz GB (top GB) (runs GB (top GB) 2)= _;rw[Ss,Fb (by decide) (sL (L:=k2) 4 (by decide+kernel) (by decide+kernel) (by decide+kernel))]
 decide+kernel
theorem Sv:runs GB (top GB) 4=([k0,k1,k2,k3,k4],[t0,t1,[],[]]):=by
 show nz GB (top GB) (runs GB (top GB) 3)= _;rw[Su,Fb (by decide) (sL (L:=k3) 4 (by decide+kernel) (by decide+kernel) (by decide+kernel))]
 decide+kernel
theorem LW:runs GB (top GB) 5=([k0,k1,k2,k3,k4],[t0,t1,[],[],[]]):=by
 show nz GB (top GB) (runs GB (top GB) 4)= _;rw[Sv,Fb (by decide) (sL (L:=k4) 4 (by decide+kernel) (by decide+kernel) (by decide+kernel))]
 decide+kernel
def XB:List (List au×List (Int×Int)):=[(k0,t0),(k1,t1),(k2,[]),(k3,[]),(k4,[])]
theorem Xp:bE GB 0 XB:=by
 have h:=bE.all (G:=GB) (n:=5) zO ⟨.inr (by rw[LW];rfl),fun m hm=>by
  have:m=0\/m=1\/m=2\/m=3\/m=4:=by omega
  unfold Stop;rcases this with rfl|rfl|rfl|rfl|rfl
  ·rw[Sq];decide
  ·rw[Sr];decide
  ·rw[Ss];decide
  ·rw[Su];decide
  ·rw[Sv];decide⟩ (by rw[LW];decide)
 rw[LW]at h;exact h
