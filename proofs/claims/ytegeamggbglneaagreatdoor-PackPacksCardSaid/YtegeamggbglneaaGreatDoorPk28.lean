/- A part of the proof. -/
import Derived.Deep.RegionWith
import Derived.Test.YtegeamggbglneaaGreatDoorPk26
import Derived.Test.YtegeamggbglneaaGreatDoorPk24
set_option maxHeartbeats 8000000
set_option linter.unusedVariables false
namespace Go.Proofs.YtegeamggbglneaaGreatDoor
namespace Gr
open Go.RowKit Go.Maps
def symB(G:Gram)(x:Int):Bool:=decide (1<=x/\x<=(top G:Int))
def zEd(G:Gram)(r:Int×List Int):Bool:=nonB G r.1&&r.2.all (symB G)
theorem zP7(G):zA2 G=(nonB G G.start&&G.rules.all (zEd G)):=rfl
theorem zKm{G}{x}:symB G x=true↔1<=x/\x<=(top G:Int):=by
 unfold symB;rw[decide_eq_true_iff]
theorem zKn{G}{x}:symB G x=false↔x<1\/(top G:Int)<x:=by
 rw[←Bool.not_eq_true,zKm];omega
theorem zEZ{L}{a}{w}(h:Sep.Reads a (ivs L) w){k}(hk):∃b o,a=some ⟨b,o,none⟩/\w.cell? ⟨b,o+k,none⟩=some (.int .i64 L[k]):=
 zCL h (by simp[ivs]) hk (by simp[ivs,iv,hk])
theorem zFS(h)(G)(w)(k:GAt h G w):
  Calls Tryz.prog 127 #[gv h G] w (Is (.bool (!zA2 G)) w):=by
 have hc3:=k.r2;obtain⟨a1,c1,a2,c2,a3,c3⟩:=h;have X:=zV7 (Bx.start ⟨a1,c1,a2,c2,a3,c3⟩ G w 47);have N:=zV7 (fun s w1 (b:Below w.heap.size w w1)=>zNo ⟨a1,c1,a2,c2,a3,c3⟩ G s w1 (k.went b));have T:=zV7 (fun w1 (b:Below w.heap.size w w1)=>zB8 ⟨a1,c1,a2,c2,a3,c3⟩ G w1 (k.went b));have K:=zV7 (fun w1 (b:Below w.heap.size w w1)=>(k.went b).rules);clear k;have E:=zV7 (zP7 G);unfold gv;dsimp only;cases h0:nonB G G.start with
 |false=>
  rw[h0,Bool.false_and]at E;have NS:=zV7 (show∀w1,Below w.heap.size w w1->Calls _ _ _ w1 (Is (.bool false) w1)from fun w1 b=>by have:=N.out G.start w1 b;rw[h0]at this;exact this);clear h0;go_enter Tryz.func127,Tryz.ntmps127;go_wp2_with (go_at_call 153;refine(NS.out _ X.out.below).mono ?_;rintro e w1 ⟨rfl,hb⟩;have X:=zV7 (X.out.went hb);clear hb);go_ret;exact⟨zAD (by rw[E.out];rfl),X.out.below⟩
 |true=>
  rw[h0,Bool.true_and]at E;have NS:=zV7 (show∀w1,Below w.heap.size w w1->Calls _ _ _ w1 (Is (.bool true) w1)from fun w1 b=>by have:=N.out G.start w1 b;rw[h0]at this;exact this);clear h0;go_enter Tryz.func127,Tryz.ntmps127;go_wp2_with (go_at_call 153;refine(NS.out _ X.out.below).mono ?_;rintro e w1 ⟨rfl,hb⟩;have X:=zV7 (X.out.went hb);obtain⟨x0,x1,x2,x3⟩:=X.out.box;clear hb);clear NS x0 x1 x2 x3;go_loopw [15] (fun i wr=>∃j:Nat,j<=G.rules.length/\i=.int .i64 j/\zHT (zEd G) G.rules j/\Bx w ⟨a1,c1,a2,c2,a3,c3⟩ G wr) (fun i _=>G.rules.length-(intOf i).toNat)
  case atStart=>exact⟨0,Nat.zero_le _,rfl,zC3 _ _,X.out⟩
  case round=>
   clear X;obtain⟨j,hj,rfl,hA,hX⟩:=hrel;have A:=zV7 hA;have X:=zV7 hX;obtain⟨x0,x1,x2,x3⟩:=hX.box;clear hA hX
   by_cases hlt:j<G.rules.length
   ·obtain⟨b,o,ra,rc,e,h1,h2,h3,h4,h5⟩:=K.out _ X.out.below j hlt
    try dsimp only at e
    subst e;have hsz:w.heap.size<wr.heap.size:=X.out.size;have AE:=zV7 (fun he=>zC2 A.out hlt he);have AF:=zV7 (fun he=>zAc (p:=zEd G) hlt he);generalize G.rules[j]=r at h1 h2 h3 h4 h5 AE AF;have NL:=zV7 (N.out r.1);have HR:=zV7 (show∀w1,Below wr.heap.size wr w1->Sep.Reads ra (ivs r.2) w1 from fun w1 b=>Sep.Reads.below h3 b (Nat.le_refl _));have hrl:r.2.length<=17592186044416:=by omega
    clear h3 h4 h5;cases hn:nonB G r.1 with
    |false=>
     have F:=zV7 (AF.out (by simp[zEd,hn]));have NL:=zV7 (show∀w1,Below w.heap.size w w1->Calls _ _ _ w1 (Is (.bool false) w1)from fun w1 b=>by have:=NL.out w1 b;rw[hn]at this;exact this);clear hn AE AF;go_wp2_with (go_at_call 153;refine(NL.out _ (X.out.alloc _).below).mono ?_;rintro e w1 ⟨rfl,hb⟩;have X:=zV7 ((X.out.alloc _).went hb);clear hb);go_ret;exact⟨zAD (by rw[E.out,F.out];rfl),X.out.below⟩
    |true=>
     have AE:=zV7 (fun(hr:r.2.all (symB G)=true)=>AE.out (show zEd G r=true by unfold zEd;rw[hn,hr];rfl));have AF:=zV7 (fun(hr:r.2.all (symB G)=false)=>AF.out (show zEd G r=false by unfold zEd;rw[hn,hr];rfl));have NL:=zV7 (show∀w1,Below w.heap.size w w1->Calls _ _ _ w1 (Is (.bool true) w1)from fun w1 b=>by have:=NL.out w1 b;rw[hn]at this;exact this);clear hn;go_wp2_with (go_at_call 153;refine(NL.out _ (X.out.alloc _).below).mono ?_;rintro e w1 ⟨rfl,hb⟩;have X:=zV7 ((X.out.alloc _).went hb);obtain⟨x0,x1,x2,x3⟩:=X.out.box;have r1:w1.cell? ⟨wr.heap.size,1,none⟩=some (.slice ra r.2.length rc):=cell_later hb (zAC rfl rfl);have HR:=zV7 (fun w2 (b:Below w1.heap.size w1 w2)=>HR.out w2 (step (boxed _ _) (step hb b)));clear hb);clear NL x0 x1 x2 x3 r1;have X0:=X;clear X;go_loopw [27] (fun i wt=>∃m:Nat,m<=r.2.length/\i=.int .i64 m/\zHT (symB G) r.2 m/\Bx w ⟨a1,c1,a2,c2,some ⟨b,o,none⟩,c3⟩ G wt/\Below w1.heap.size w1 wt) (fun i _=>r.2.length-(intOf i).toNat)
     case atStart=>exact⟨0,Nat.zero_le _,rfl,zC3 _ _,X0.out,.refl _ _⟩
     case round=>
      clear X0;obtain⟨m,hm,rfl,hS,hX,hB⟩:=hrel;have S:=zV7 hS;have X:=zV7 hX;have B:=zV7 hB;obtain⟨x0,x1,x2,x3⟩:=hX.box;clear hS hX hB
      by_cases hlm:m<r.2.length
      ·obtain⟨b2,o2,rfl,hc⟩:=zEZ (HR.out _ B.out) hlm;have SE:=zV7 (fun he=>zC2 S.out hlm he);have SF:=zV7 (fun he=>zAc (p:=symB G) hlm he);generalize r.2[m]=x at hc SE SF
       by_cases hx1:x<1
       ·have F:=zV7 (AF.out (SF.out (zKn.2 (.inl hx1))));go_wp2;go_ret;exact⟨zAD (by rw[E.out,F.out];rfl),X.out.below⟩
       ·by_cases hx2:(top G:Int)<x
        ·have F:=zV7 (AF.out (SF.out (zKn.2 (.inr hx2))));go_wp2_with (go_at_call 134;refine(T.out _ X.out.below).mono ?_;rintro e w2 ⟨rfl,hb⟩;have X:=zV7 (X.out.went hb);clear hb);go_ret;exact⟨zAD (by rw[E.out,F.out];rfl),X.out.below⟩
        ·have S2:=zV7 (SE.out (zKm.2 ⟨by omega,by omega⟩));go_wp2_with (go_at_call 134;refine(T.out _ X.out.below).mono ?_;rintro e w2 ⟨rfl,hb⟩;have X:=zV7 (X.out.went hb);have B:=zV7 (step B.out hb);clear hb);go_roundw
         case rel=>exact⟨m+1,by omega,by go_num,S2.out,X.out,B.out⟩
         case measure=>simp[intOf];omega
      ·have A2:=zV7 (AE.out (zAt S.out hlm));go_wp2;go_roundw
       case rel=>exact⟨j+1,by omega,by go_num,A2.out,X.out⟩
       case measure=>simp[intOf];omega
   ·have F:=zV7 (zAt A.out hlt);go_wp2;go_ret;exact⟨zAD (by rw[E.out,F.out];rfl),X.out.below⟩
