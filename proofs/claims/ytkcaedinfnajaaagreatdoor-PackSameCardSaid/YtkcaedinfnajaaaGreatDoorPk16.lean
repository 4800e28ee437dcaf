/- A part of the proof. -/
import Derived.Deep.RegionWith
import Derived.Test.YtkcaedinfnajaaaGreatDoorPk14
import Derived.Test.YtkcaedinfnajaaaGreatDoorPk15
set_option maxHeartbeats 8000000
set_option maxRecDepth 100000
set_option linter.unusedVariables false
namespace Go.Proofs.YtkcaedinfnajaaaGreatDoor
open Go.RowKit Go.Maps
namespace Gr
def symB(G:Gram)(x:Int):Bool:=decide (1<=x/\x<=(top G:Int))
def zEB(G:Gram)(r:Int×List Int):Bool:=nonB G r.1&&r.2.all (symB G)
theorem zPc(G:Gram):zAs G=(nonB G G.start&&G.rules.all (zEB G)):=rfl
theorem zKG{G:Gram}{x:Int}:symB G x=true↔1<=x/\x<=(top G:Int):=by
 unfold symB;rw[decide_eq_true_iff]
theorem zKH{G:Gram}{x:Int}:symB G x=false↔x<1\/(top G:Int)<x:=by
 rw[←Bool.not_eq_true,zKG];omega
theorem zEA{L:List Int}{a:Option Addr}{w:World}(h:Sep.Reads a (ivs L) w){k:Nat}(hk:k<L.length):∃b o,a=some ⟨b,o,none⟩/\w.cell? ⟨b,o+k,none⟩=some (.int .i64 L[k]):=
 zDa h (by simp[ivs]) hk (by simp[ivs,iv,hk])
theorem zEy(h:Sh)(G:Gram)(w:World)(k:GAt h G w):
  Calls Tryz.prog 100 #[gv h G] w (Is (.bool (!zAs G)) w):=by
 have hc3:=k.r2;obtain⟨a1,c1,a2,c2,a3,c3⟩:=h;have X:=zVZ (Bx.start ⟨a1,c1,a2,c2,a3,c3⟩ G w 41);have N:=zVZ (fun s w1 (b:Below w.heap.size w w1)=>zNS ⟨a1,c1,a2,c2,a3,c3⟩ G s w1 (k.went b));have T:=zVZ (fun w1 (b:Below w.heap.size w w1)=>zB0 ⟨a1,c1,a2,c2,a3,c3⟩ G w1 (k.went b));have K:=zVZ (fun w1 (b:Below w.heap.size w w1)=>(k.went b).rules);clear k;have E:=zVZ (zPc G);unfold gv;dsimp only;cases h0:nonB G G.start with
 |false=>
  rw[h0,Bool.false_and]at E;have NS:=zVZ (show∀w1,Below w.heap.size w w1->Calls _ _ _ w1 (Is (.bool false) w1)from fun w1 b=>by have:=N.out G.start w1 b;rw[h0]at this;exact this);clear h0;go_enter Tryz.func100,Tryz.ntmps100;go_wp2_with (go_at_call 126;refine(NS.out _ X.out.below).mono ?_;rintro e w1 ⟨rfl,hb⟩;have X:=zVZ (X.out.went hb);clear hb);go_ret;exact⟨zAF (by rw[E.out];rfl),X.out.below⟩
 |true=>
  rw[h0,Bool.true_and]at E;have NS:=zVZ (show∀w1,Below w.heap.size w w1->Calls _ _ _ w1 (Is (.bool true) w1)from fun w1 b=>by have:=N.out G.start w1 b;rw[h0]at this;exact this);clear h0;go_enter Tryz.func100,Tryz.ntmps100;go_wp2_with (go_at_call 126;refine(NS.out _ X.out.below).mono ?_;rintro e w1 ⟨rfl,hb⟩;have X:=zVZ (X.out.went hb);obtain⟨x0,x1,x2,x3⟩:=X.out.box;clear hb);clear NS x0 x1 x2 x3;go_loopw [15] (fun i wr=>∃j:Nat,j<=G.rules.length/\i=.int .i64 j/\zGx (zEB G) G.rules j/\Bx w ⟨a1,c1,a2,c2,a3,c3⟩ G wr) (fun i _=>G.rules.length-(intOf i).toNat)
  case atStart=>exact⟨0,Nat.zero_le _,rfl,zCk _ _,X.out⟩
  case round=>
   clear X;obtain⟨j,hj,rfl,hA,hX⟩:=hrel;have A:=zVZ hA;have X:=zVZ hX;obtain⟨x0,x1,x2,x3⟩:=hX.box;clear hA hX
   by_cases hlt:j<G.rules.length
   ·obtain⟨b,o,ra,rc,e,h1,h2,h3,h4,h5⟩:=K.out _ X.out.below j hlt
    try dsimp only at e
    subst e;have hsz:w.heap.size<wr.heap.size:=X.out.size;have AE:=zVZ (fun he=>zCj A.out hlt he);have AF:=zVZ (fun he=>zAq (p:=zEB G) hlt he);generalize G.rules[j]=r at h1 h2 h3 h4 h5 AE AF;have NL:=zVZ (N.out r.1);have HR:=zVZ (show∀w1,Below wr.heap.size wr w1->Sep.Reads ra (ivs r.2) w1 from fun w1 b=>Sep.Reads.below h3 b (Nat.le_refl _));have hrl:r.2.length<=17592186044416:=by omega
    clear h3 h4 h5;cases hn:nonB G r.1 with
    |false=>
     have F:=zVZ (AF.out (by simp[zEB,hn]));have NL:=zVZ (show∀w1,Below w.heap.size w w1->Calls _ _ _ w1 (Is (.bool false) w1)from fun w1 b=>by have:=NL.out w1 b;rw[hn]at this;exact this);clear hn AE AF;go_wp2_with (go_at_call 126;refine(NL.out _ (X.out.alloc _).below).mono ?_;rintro e w1 ⟨rfl,hb⟩;have X:=zVZ ((X.out.alloc _).went hb);clear hb);go_ret;exact⟨zAF (by rw[E.out,F.out];rfl),X.out.below⟩
    |true=>
     have AE:=zVZ (fun(hr:r.2.all (symB G)=true)=>AE.out (show zEB G r=true by unfold zEB;rw[hn,hr];rfl));have AF:=zVZ (fun(hr:r.2.all (symB G)=false)=>AF.out (show zEB G r=false by unfold zEB;rw[hn,hr];rfl));have NL:=zVZ (show∀w1,Below w.heap.size w w1->Calls _ _ _ w1 (Is (.bool true) w1)from fun w1 b=>by have:=NL.out w1 b;rw[hn]at this;exact this);clear hn;go_wp2_with (go_at_call 126;refine(NL.out _ (X.out.alloc _).below).mono ?_;rintro e w1 ⟨rfl,hb⟩;have X:=zVZ ((X.out.alloc _).went hb);obtain⟨x0,x1,x2,x3⟩:=X.out.box;have r1:w1.cell? ⟨wr.heap.size,1,none⟩=some (.slice ra r.2.length rc):=cell_later hb (zAC rfl rfl);have HR:=zVZ (fun w2 (b:Below w1.heap.size w1 w2)=>HR.out w2 (step (boxed _ _) (step hb b)));clear hb);clear NL x0 x1 x2 x3 r1;have X0:=X;clear X;go_loopw [27] (fun i wt=>∃m:Nat,m<=r.2.length/\i=.int .i64 m/\zGx (symB G) r.2 m/\Bx w ⟨a1,c1,a2,c2,some ⟨b,o,none⟩,c3⟩ G wt/\Below w1.heap.size w1 wt) (fun i _=>r.2.length-(intOf i).toNat)
     case atStart=>exact⟨0,Nat.zero_le _,rfl,zCk _ _,X0.out,.refl _ _⟩
     case round=>
      clear X0;obtain⟨m,hm,rfl,hS,hX,hB⟩:=hrel;have S:=zVZ hS;have X:=zVZ hX;have B:=zVZ hB;obtain⟨x0,x1,x2,x3⟩:=hX.box;clear hS hX hB
      by_cases hlm:m<r.2.length
      ·obtain⟨b2,o2,rfl,hc⟩:=zEA (HR.out _ B.out) hlm;have SE:=zVZ (fun he=>zCj S.out hlm he);have SF:=zVZ (fun he=>zAq (p:=symB G) hlm he);generalize r.2[m]=x at hc SE SF
       by_cases hx1:x<1
       ·have F:=zVZ (AF.out (SF.out (zKH.2 (.inl hx1))));go_wp2;go_ret;exact⟨zAF (by rw[E.out,F.out];rfl),X.out.below⟩
       ·by_cases hx2:(top G:Int)<x
        ·have F:=zVZ (AF.out (SF.out (zKH.2 (.inr hx2))));go_wp2_with (go_at_call 107;refine(T.out _ X.out.below).mono ?_;rintro e w2 ⟨rfl,hb⟩;have X:=zVZ (X.out.went hb);clear hb);go_ret;exact⟨zAF (by rw[E.out,F.out];rfl),X.out.below⟩
        ·have S2:=zVZ (SE.out (zKG.2 ⟨by omega,by omega⟩));go_wp2_with (go_at_call 107;refine(T.out _ X.out.below).mono ?_;rintro e w2 ⟨rfl,hb⟩;have X:=zVZ (X.out.went hb);have B:=zVZ (step B.out hb);clear hb);go_roundw
         case rel=>exact⟨m+1,by omega,by go_num,S2.out,X.out,B.out⟩
         case measure=>simp[intOf];omega
      ·have A2:=zVZ (AE.out (zBC S.out hlm));go_wp2;go_roundw
       case rel=>exact⟨j+1,by omega,by go_num,A2.out,X.out⟩
       case measure=>simp[intOf];omega
   ·have F:=zVZ (zBC A.out hlt);go_wp2;go_ret;exact⟨zAF (by rw[E.out,F.out];rfl),X.out.below⟩
end Gr
namespace Fi
open Gr (step ivs zEA)
structure LOk (L:List Int) (c:Nat):Prop where
 fit:∀x∈L,x<=9223372036854775807
 len:L.length<=17592186044416
 cap:L.length<=c
theorem LOk.at{L:List Int}{c:Nat}(h:LOk L c){k:Nat}(hk:k<L.length):L[k]<=9223372036854775807:=h.fit _ (List.getElem_mem hk)
def zC9(C:Int->Bool)(L:List Int)(a:Option Addr)(c:Nat)(w:World)(e:Ending)(w':World):Prop:=
 e=.returned (.tuple #[.slice a (zBf C L) c,.bool (allC C L)])/\Below w.heap.size w w'
def zUt(C:Int->Bool)(L:List Int)(W:World)(i:Value)(w:World):Prop:=
 ∃k:Nat,k<=L.length/\i=.int .i64 k/\(∀j (h:j<L.length),j<k->C L[j]=true)/\Below W.heap.size W w
theorem zDB{I:Ix->Prop}{P D:Ix->Nat}{p q1 q2 t n:Nat}{C:Int->Bool}{F B:Int->Int->Bool}{O:Nat->Bool}(w:World)(h:SAt I P D p q1 q2 t n (tv C F B O) w)(hC:Rng C n)(L:List Int)(a:Option Addr)(c:Nat)(hR:Sep.Reads a (ivs L) w)(hL:LOk L c):
  Calls Tryz.prog 156 #[.pointer (some ⟨p,0,none⟩),.slice a L.length c] w (zC9 C L a c w):=by
 have EM:=zVZ (fun x hx w1 (b:Below w.heap.size w w1)=>zO4 w1 (h.went b) hC x hx);have RR:=zVZ (fun w1 (b:Below w.heap.size w w1)=>Sep.Reads.below hR b (Nat.le_refl _));have LO:=zVZ hL;have hl:=hL.len;have hcap:=hL.cap;clear h hR hL hC;go_enter Tryz.func156,Tryz.ntmps156;go_wp2;go_loopw [10] (fun i wr=>zUt C L w i wr) (fun i _=>L.length-(intOf i).toNat)
 case atStart=>exact⟨0,Nat.zero_le _,rfl,(fun j _ hj=>absurd hj (by omega)),.refl _ _⟩
 case round=>
  obtain⟨k,hk,rfl,hP,hb⟩:=hrel;have B:=zVZ hb;have PP:=zVZ hP;clear hb hP
  by_cases hlt:k<L.length
  ·obtain⟨b,o,rfl,hc⟩:=zEA (RR.out _ B.out) hlt;have E1:=zVZ (EM.out L[k] (LO.out.at hlt) _ B.out);cases hz:C L[k]with
   |true=>
    have P2:=zVZ (show∀j (h:j<L.length),j<k+1->C L[j]=true from fun j h hj=>by
     by_cases e:j=k
     ·subst e;exact hz
     ·exact PP.out j h (by omega))
    rw[hz]at E1;clear hz;generalize L[k]=s at*;go_wp2_with (go_at_call 193;refine E1.out.mono ?_;rintro e w1 ⟨rfl,hb⟩;have B1:=zVZ (Gr.step B.out hb);clear hb);go_roundw
    case rel=>exact⟨k+1,by omega,by go_num,P2.out,B1.out⟩
    case measure=>simp[intOf];omega
   |false=>
    obtain⟨h1,h2⟩:=zHW hlt PP.out hz;have H1:=zVZ h1;have H2:=zVZ h2;rw[hz]at E1;clear hz h1 h2;generalize L[k]=s at*;go_wp2_with (go_at_call 193;refine E1.out.mono ?_;rintro e w1 ⟨rfl,hb⟩;have B1:=zVZ (Gr.step B.out hb);clear hb);go_ret2;refine⟨?_,B1.out⟩;rw[H1.out,H2.out]
    first|rfl|(congr 1;omega)
  ·obtain⟨h1,h2⟩:=zHV (C:=C) (l:=L) fun j hj=>PP.out j hj (by omega)
   have H1:=zVZ h1;have H2:=zVZ h2;clear h1 h2;go_wp2;go_ret2;refine⟨?_,B.out⟩;rw[H1.out,H2.out]
   rfl
