/- Proof. -/
import Derived.Test.YtegeamggbglneaaGreatDoorPk36
set_option maxHeartbeats 8000000
set_option maxRecDepth 100000
set_option linter.unusedVariables false
namespace Go.Proofs.YtegeamggbglneaaGreatDoor
open Go.RowKit Go.Maps
namespace Im
open Gr (ai Sh gv bI Bx checkN yw)
theorem zJS{P}{w w'}(h:∀x,¬P x)(hb:Below w.heap.size w w'):uK P w (.returned (.slice none 0 0)) w':=⟨[],none,0,rfl,Is.nil h,bw.nil _ _ _,hb⟩
theorem UN(h:Sh)(G:ai)(w:World)(k:bI h G w):
  Calls Tryz.prog 109 #[gv h G] w (uK (fun x=>checkN G=0/\x=((G.rules.length:Int),0)) w):=by
 have C:=af (fun w1 (b:Below w.heap.size w w1)=>yw h G w1 (k.went b));have A:=af (fun w1 (b:Below w.heap.size w w1)=>zGs h G w1 (k.went b));clear k;have X:=af (Bx.start h G w 47);unfold gv at*
 by_cases hc:checkN G=0
 ·rw[hc]at C;go_enter Tryz.func109,Tryz.ntmps109
  go_wp2_with (first
   |(go_at_call 107;refine(C.out _ X.out.below).mono ?_;rintro e w1 ⟨rfl,hb⟩;have X1:=af (X.out.went hb);obtain⟨g0,g1,g2,g3⟩:=X1.out.box;clear hb)
   | (go_at_call 131;refine(A.out _ X1.out.below).mono ?_;rintro e w2 ⟨rfl,hb⟩;have X2:=af (X1.out.went hb);clear hb))
  go_ret;have hB:=X2.out.below.size;exact⟨[((G.rules.length:Int),0)],_,_,rfl,⟨ED _,fun x=>by rw[List.mem_singleton];exact⟨fun e=>⟨hc,e⟩,fun e=>e.2⟩⟩,Hj 181 w.heap.size w2.heap.size ((G.rules.length:Int),0) w2 rfl hB,(X2.out.alloc _).below⟩
 ·have hcb:(checkN G==0)=false:=by simpa using hc
  go_enter Tryz.func109,Tryz.ntmps109;go_wp2_with (go_at_call 107;refine(C.out _ X.out.below).mono ?_;rintro e w1 ⟨rfl,hb⟩;have X1:=af (X.out.went hb);clear hb);go_ret;exact zJS (fun x k=>hc k.1) X1.out.below
end Im
namespace Im
open Gr (Fits)
def lw(W:World):World:=
 ((((W.alloc (.cells #[.string ⟨#[65]⟩,.string ⟨#[66]⟩] 9)).alloc (.cells #[.string ⟨#[115]⟩,.string ⟨#[116]⟩] 9)).alloc (.cells #[.int .i64 4,.int .i64 1] 3)).alloc (.cells #[.int .i64 2] 3)).alloc
  (.cells #[.int .i64 3,.slice (some ⟨W.heap.size+1+1,0,none⟩) 2 2,.int .i64 4,.slice (some ⟨W.heap.size+1+1+1,0,none⟩) 1 1] 55)
theorem oV(x)(h: -1000<=x)(k:x<=1000):Fits x:=⟨by omega,by omega⟩
end Im
namespace Gr
def Jm(G:ai)(w:World)(e:Ending)(w':World):Prop:=∃n:Int,e=.returned (.int .i64 n)/\(G.terms.length:Int)+G.ah.length+G.rules.length<=n/\Below w.heap.size w w'
theorem Wz(h:Sh)(G:ai)(w:World)(k:bI h G w):
  Calls Tryz.prog 21 #[gv h G] w (Jm G w):=by
 have t:=k.t2;have n:=k.n2;have r:=k.r2;obtain⟨a1,c1,a2,c2,a3,c3⟩:=h;have X:=af (boxed w (.cells #[.slice a1 G.terms.length c1,.slice a2 G.ah.length c2,.slice a3 G.rules.length c3,.int .i64 G.start] 47));have HT:=af (show Sep.Reads a1 (G.terms.map .string) (w.alloc (.cells #[.slice a1 G.terms.length c1,.slice a2 G.ah.length c2,.slice a3 G.rules.length c3,.int .i64 G.start] 47))from(k.went X.out).terms);have HN:=af (show Sep.Reads a2 (G.ah.map .string) (w.alloc (.cells #[.slice a1 G.terms.length c1,.slice a2 G.ah.length c2,.slice a3 G.rules.length c3,.int .i64 G.start] 47))from(k.went X.out).ah);have HR:=af (show pE a3 G.rules (w.alloc (.cells #[.slice a1 G.terms.length c1,.slice a2 G.ah.length c2,.slice a3 G.rules.length c3,.int .i64 G.start] 47))from(k.went X.out).rules);have TS:=af k.ok.terms;have NS:=af k.ok.ah;clear k;unfold gv;dsimp only;obtain⟨S,hS⟩:∃S:Int,S=(G.terms.length:Int)+G.ah.length+G.rules.length:=⟨_,rfl⟩;have hS0:0<=S:=by omega
 have hS1:S<=35184372088832:=by omega
 have HS:=af hS;go_enter Tryz.func21,Tryz.ntmps21;go_wp2;go_loop [3,4] (fun v i=>∃j:Nat,∃m:Int,j<=G.terms.length/\j<=200/\i=.int .i64 j/\v=.int .i64 m/\S<=m/\m<=S+j*8796093022208) (fun _ i=>200-(intOf i).toNat)
 case atStart=>exact⟨0,S,Nat.zero_le _,by omega,rfl,by first|rfl|(rw[HS.out])|go_num,by omega,by omega⟩
 case round=>
  obtain⟨j,m,hj,ki,rfl,rfl,oq,hm2⟩:=hrel
  by_cases hlt:j<G.terms.length/\j<200
  ·obtain⟨iJ,hl2⟩:=hlt;obtain⟨b,o,e,hc⟩:=Io HT.out iJ;have hs:=TS.out _ (List.getElem_mem iJ);subst e;generalize G.terms[j]=s at hc hs;clear hS;go_wp2;go_round
   case rel=>exact⟨j+1,m+(s.size:Int) / 20,by omega,by omega,by go_num,by go_num,by omega,by omega⟩
   case measure=>simp[intOf];omega
  ·have hb2:m<=S+1759218604441600:=by omega
   clear hm2
   have l9:∀(P:Prop),(¬j<G.terms.length->P)->(j<G.terms.length->¬j<200->P)->P:=fun P f g=>by
    by_cases h1:j<G.terms.length
    ·exact g h1 (fun h2=>hlt ⟨h1,h2⟩)
    ·exact f h1
   have mI:=af l9;clear l9 hlt ki hj;refine mI.out _ (fun h1=>?_) (fun h1 h2=>?_)
   all_goals
    clear hS;go_wp2;clear h1
    try clear h2
    go_loop [3,5] (fun v i=>∃j:Nat,∃m:Int,j<=G.ah.length/\j<=200/\i=.int .i64 j/\v=.int .i64 m/\S<=m/\m<=S+1759218604441600+j*8796093022208) (fun _ i=>200-(intOf i).toNat)
    case atStart=>exact⟨0,m,Nat.zero_le _,by omega,rfl,rfl,by omega,by omega⟩
    case round=>
     clear oq hb2 mI;obtain⟨j,m,hj,ki,rfl,rfl,oq,hm2⟩:=hrel
     by_cases hlt:j<G.ah.length/\j<200
     ·obtain⟨iJ,hl2⟩:=hlt;obtain⟨b,o,e,hc⟩:=Io HN.out iJ;have hs:=NS.out _ (List.getElem_mem iJ);subst e;generalize G.ah[j]=s at hc hs;go_wp2;go_round
      case rel=>exact⟨j+1,m+(s.size:Int) / 20,by omega,by omega,by go_num,by go_num,by omega,by omega⟩
      case measure=>simp[intOf];omega
     ·have hb2:m<=S+3518437208883200:=by omega
      clear hm2
      have l9:∀(P:Prop),(¬j<G.ah.length->P)->(j<G.ah.length->¬j<200->P)->P:=fun P f g=>by
       by_cases h1:j<G.ah.length
       ·exact g h1 (fun h2=>hlt ⟨h1,h2⟩)
       ·exact f h1
      have mI:=af l9;clear l9 hlt ki hj;refine mI.out _ (fun h1=>?_) (fun h1 h2=>?_)
      all_goals
       go_wp2;clear h1
       try clear h2
       go_loop [3,6] (fun v i=>∃j:Nat,∃m:Int,j<=G.rules.length/\j<=400/\i=.int .i64 j/\v=.int .i64 m/\S<=m/\m<=S+3518437208883200+j*8796093022208) (fun _ i=>400-(intOf i).toNat)
       case atStart=>exact⟨0,m,Nat.zero_le _,by omega,rfl,rfl,by omega,by omega⟩
       case round=>
        clear oq hb2 mI;obtain⟨j,m,hj,ki,rfl,rfl,oq,hm2⟩:=hrel
        by_cases hlt:j<G.rules.length/\j<400
        ·obtain⟨iJ,hl2⟩:=hlt;obtain⟨b,o,ra,rc,e,g1,g2,g3,g4,g5⟩:=HR.out j iJ;subst e;generalize G.rules[j].2=rr at g2 g3 g4 g5;clear g1 g3;have ub:rr.length<=17592186044416:=by omega
         go_wp2;go_round
         case rel=>exact⟨j+1,m+(rr.length:Int) / 9,by omega,by omega,by go_num,by go_num,by omega,by omega⟩
         case measure=>simp[intOf];omega
        ·have l9:∀(P:Prop),(¬j<G.rules.length->P)->(j<G.rules.length->¬j<400->P)->P:=fun P f g=>by
          by_cases h1:j<G.rules.length
          ·exact g h1 (fun h2=>hlt ⟨h1,h2⟩)
          ·exact f h1
         have mI:=af l9;clear l9 hlt ki hj hm2;refine mI.out _ (fun h1=>?_) (fun h1 h2=>?_)
         all_goals
          go_wp2;go_ret;exact⟨_,rfl,by rw[←HS.out];exact oq,X.out⟩
end Gr
namespace Im
def ou(x:au)(E:List au)(k:Nat):Bool:=decide (x∈E.take k)
def Stop(X:List au)(x:au)(j:Nat):Prop:=∀h:j<X.length,¬gH X[j] x
end Im
namespace Lk
open Gr (aN)
theorem zWP:Tryz.prog.underlying 29=some (.slice (Tryz.prog.elem 29)):=by kernel_rfl
theorem zWo(w):(sizeOf (Tryz.prog.elem 29)).run Tryz.prog w=.ok 1 w:=by kernel_rfl
theorem zQW(X)(k):aN (X.drop k)=(aN X).drop k:=by simp[aN]
theorem XG(X):(aN X).length=X.length:=by simp[aN]
