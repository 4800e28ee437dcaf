/- Proof. -/
import Derived.Deep.RegionWith
import Derived.Test.YtegeamggbglneaaGreatDoorPk25
import Derived.Test.YtegeamggbglneaaGreatDoorPk07
set_option maxHeartbeats 8000000
set_option linter.unusedVariables false
namespace Go.Proofs.YtegeamggbglneaaGreatDoor
namespace Gr
open Go.RowKit Go.Maps
def gY(G:ai)(x:Int):Bool:=decide (1<=x/\x<=(top G:Int))
def wO(G:ai)(r:Int×List Int):Bool:=cp G r.1&&r.2.all (gY G)
theorem zQc(G):iE G=(cp G G.start&&G.rules.all (wO G)):=rfl
theorem Xc{G}{x}:gY G x=true↔1<=x/\x<=(top G:Int):=by
 unfold gY;rw[decide_eq_true_iff]
theorem Xd{G}{x}:gY G x=false↔x<1\/(top G:Int)<x:=by
 rw[←Bool.not_eq_true,Xc];omega
theorem wN{L}{a}{w}(h:Sep.Reads a (aN L) w){k}(hk):∃b o,a=some ⟨b,o,none⟩/\w.cell? ⟨b,o+k,none⟩=some (.int .i64 L[k]):=
 zS h (by simp[aN]) hk (by simp[aN,iv,hk])
theorem zFO(h)(G)(w)(k:bI h G w):
  Calls Tryz.prog 127 #[gv h G] w (Is (.bool (!iE G)) w):=by
 have hc3:=k.r2;obtain⟨a1,c1,a2,c2,a3,c3⟩:=h;have X:=af (Bx.start ⟨a1,c1,a2,c2,a3,c3⟩ G w 47);have N:=af (fun s w1 (b:Below w.heap.size w w1)=>Xq ⟨a1,c1,a2,c2,a3,c3⟩ G s w1 (k.went b));have T:=af (fun w1 (b:Below w.heap.size w w1)=>sD ⟨a1,c1,a2,c2,a3,c3⟩ G w1 (k.went b));have K:=af (fun w1 (b:Below w.heap.size w w1)=>(k.went b).rules);clear k;have E:=af (zQc G);unfold gv;dsimp only;cases h0:cp G G.start with
 |false=>
  rw[h0,Bool.false_and]at E;have NS:=af (show∀w1,Below w.heap.size w w1->Calls _ _ _ w1 (Is (.bool false) w1)from fun w1 b=>by have:=N.out G.start w1 b;rw[h0]at this;exact this);clear h0;go_enter Tryz.func127,Tryz.ntmps127;go_wp2_with (go_at_call 153;refine(NS.out _ X.out.below).mono ?_;rintro e w1 ⟨rfl,hb⟩;have X:=af (X.out.went hb);clear hb);go_ret;exact⟨aU (by rw[E.out];rfl),X.out.below⟩
 |true=>
  rw[h0,Bool.true_and]at E;have NS:=af (show∀w1,Below w.heap.size w w1->Calls _ _ _ w1 (Is (.bool true) w1)from fun w1 b=>by have:=N.out G.start w1 b;rw[h0]at this;exact this);clear h0;go_enter Tryz.func127,Tryz.ntmps127;go_wp2_with (go_at_call 153;refine(NS.out _ X.out.below).mono ?_;rintro e w1 ⟨rfl,hb⟩;have X:=af (X.out.went hb);obtain⟨x0,x1,x2,x3⟩:=X.out.box;clear hb);clear NS x0 x1 x2 x3;go_loopw [15] (fun i wr=>∃j:Nat,j<=G.rules.length/\i=.int .i64 j/\wP (wO G) G.rules j/\Bx w ⟨a1,c1,a2,c2,a3,c3⟩ G wr) (fun i _=>G.rules.length-(intOf i).toNat)
  case atStart=>exact⟨0,Nat.zero_le _,rfl,GC _ _,X.out⟩
  case round=>
   clear X;obtain⟨j,hj,rfl,hA,hX⟩:=hrel;have A:=af hA;have X:=af hX;obtain⟨x0,x1,x2,x3⟩:=hX.box;clear hA hX
   by_cases hlt:j<G.rules.length
   ·obtain⟨b,o,ra,rc,e,h1,h2,h3,h4,h5⟩:=K.out _ X.out.below j hlt
    try dsimp only at e
    subst e;have hsz:w.heap.size<wr.heap.size:=X.out.size;have AE:=af (fun he=>GA A.out hlt he);have AF:=af (fun he=>kq (p:=wO G) hlt he);generalize G.rules[j]=r at h1 h2 h3 h4 h5 AE AF;have NL:=af (N.out r.1);have HR:=af (show∀w1,Below wr.heap.size wr w1->Sep.Reads ra (aN r.2) w1 from fun w1 b=>Sep.Reads.below h3 b (Nat.le_refl _));have hrl:r.2.length<=17592186044416:=by omega
    clear h3 h4 h5;cases hn:cp G r.1 with
    |false=>
     have F:=af (AF.out (by simp[wO,hn]));have NL:=af (show∀w1,Below w.heap.size w w1->Calls _ _ _ w1 (Is (.bool false) w1)from fun w1 b=>by have:=NL.out w1 b;rw[hn]at this;exact this);clear hn AE AF;go_wp2_with (go_at_call 153;refine(NL.out _ (X.out.alloc _).below).mono ?_;rintro e w1 ⟨rfl,hb⟩;have X:=af ((X.out.alloc _).went hb);clear hb);go_ret;exact⟨aU (by rw[E.out,F.out];rfl),X.out.below⟩
    |true=>
     have AE:=af (fun(hr:r.2.all (gY G)=true)=>AE.out (show wO G r=true by unfold wO;rw[hn,hr];rfl));have AF:=af (fun(hr:r.2.all (gY G)=false)=>AF.out (show wO G r=false by unfold wO;rw[hn,hr];rfl));have NL:=af (show∀w1,Below w.heap.size w w1->Calls _ _ _ w1 (Is (.bool true) w1)from fun w1 b=>by have:=NL.out w1 b;rw[hn]at this;exact this);clear hn;go_wp2_with (go_at_call 153;refine(NL.out _ (X.out.alloc _).below).mono ?_;rintro e w1 ⟨rfl,hb⟩;have X:=af ((X.out.alloc _).went hb);obtain⟨x0,x1,x2,x3⟩:=X.out.box;have r1:w1.cell? ⟨wr.heap.size,1,none⟩=some (.slice ra r.2.length rc):=cell_later hb (bg rfl rfl);have HR:=af (fun w2 (b:Below w1.heap.size w1 w2)=>HR.out w2 (step (boxed _ _) (step hb b)));clear hb);clear NL x0 x1 x2 x3 r1;have X0:=X;clear X;go_loopw [27] (fun i wt=>∃m:Nat,m<=r.2.length/\i=.int .i64 m/\wP (gY G) r.2 m/\Bx w ⟨a1,c1,a2,c2,some ⟨b,o,none⟩,c3⟩ G wt/\Below w1.heap.size w1 wt) (fun i _=>r.2.length-(intOf i).toNat)
     case atStart=>exact⟨0,Nat.zero_le _,rfl,GC _ _,X0.out,.refl _ _⟩
     case round=>
      clear X0;obtain⟨m,hm,rfl,hS,hX,hB⟩:=hrel;have S:=af hS;have X:=af hX;have B:=af hB;obtain⟨x0,x1,x2,x3⟩:=hX.box;clear hS hX hB
      by_cases hlm:m<r.2.length
      ·obtain⟨b2,o2,rfl,hc⟩:=wN (HR.out _ B.out) hlm;have SE:=af (fun he=>GA S.out hlm he);have SF:=af (fun he=>kq (p:=gY G) hlm he);generalize r.2[m]=x at hc SE SF
       by_cases hx1:x<1
       ·have F:=af (AF.out (SF.out (Xd.2 (.inl hx1))));go_wp2;go_ret;exact⟨aU (by rw[E.out,F.out];rfl),X.out.below⟩
       ·by_cases hx2:(top G:Int)<x
        ·have F:=af (AF.out (SF.out (Xd.2 (.inr hx2))));go_wp2_with (go_at_call 134;refine(T.out _ X.out.below).mono ?_;rintro e w2 ⟨rfl,hb⟩;have X:=af (X.out.went hb);clear hb);go_ret;exact⟨aU (by rw[E.out,F.out];rfl),X.out.below⟩
        ·have S2:=af (SE.out (Xc.2 ⟨by omega,by omega⟩));go_wp2_with (go_at_call 134;refine(T.out _ X.out.below).mono ?_;rintro e w2 ⟨rfl,hb⟩;have X:=af (X.out.went hb);have B:=af (step B.out hb);clear hb);go_roundw
         case rel=>exact⟨m+1,by omega,by go_num,S2.out,X.out,B.out⟩
         case measure=>simp[intOf];omega
      ·have A2:=af (AE.out (ku S.out hlm));go_wp2;go_roundw
       case rel=>exact⟨j+1,by omega,by go_num,A2.out,X.out⟩
       case measure=>simp[intOf];omega
   ·have F:=af (ku A.out hlt);go_wp2;go_ret;exact⟨aU (by rw[E.out,F.out];rfl),X.out.below⟩
