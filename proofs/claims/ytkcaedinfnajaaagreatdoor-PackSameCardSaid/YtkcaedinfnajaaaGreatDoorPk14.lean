/- A part of the proof. -/
import Derived.Test.YtkcaedinfnajaaaGreatDoorPk12
import Derived.Test.YtkcaedinfnajaaaGreatDoorPk13
set_option maxHeartbeats 4000000
set_option linter.unusedVariables false
namespace Go.Proofs.YtkcaedinfnajaaaGreatDoor
open Go.RowKit Go.Maps
namespace Gr
def zEE(s:ByteArray):Bool:=s.data.toList.head?==some 39
theorem zPM{s:ByteArray}(h:zEE s=true):∃h:0<s.size,(s[0]'h).toNat=39:=by
 rcases s with⟨⟨l⟩⟩
 cases l with
 |nil=>simp[zEE]at h
 |cons b r=>
  simp[zEE]at h;subst h;exact⟨by simp[ByteArray.size],rfl⟩
theorem zSQ{s:ByteArray}(h:zEE s=false):¬∃h:0<s.size,(s[0]'h).toNat=39:=by
 rintro⟨h0,h1⟩;rcases s with⟨⟨l⟩⟩
 cases l with
 |nil=>simp[ByteArray.size]at h0
 |cons b r=>
  simp[zEE]at h;exact h (UInt8.toNat_inj.mp h1)
theorem zPL(s:ByteArray):((s.extract 0 1).toList==[39])=zEE s:=by
 rw[ByteArray.toList_eq,Ch.zOK];rcases s with⟨⟨l⟩⟩
 cases l with
 |nil=>rfl
 |cons b r=>simp[zEE]
theorem zLI(s:ByteArray)(w:World):Calls Tryz.prog 182 #[.string s,.string ⟨#[39]⟩] w fun e w'=>e=.returned (.bool (zEE s))/\w=w':=by
 by_cases h0:0<s.size
 ·have E:=zVZ (zPL s);go_enter Tryz.func182,Tryz.ntmps182;go_wp2;go_ret;exact⟨zAF E.out.symm,rfl⟩
 ·have E:=zVZ (show zEE s=false by
   have:s.data.toList=[]:=by
    have:s.data.toList.length=s.size:=rfl;exact List.eq_nil_of_length_eq_zero (by omega)
   unfold zEE
   rw[this];rfl)
  go_enter Tryz.func182,Tryz.ntmps182;go_wp2;go_ret;exact⟨zAF E.out,rfl⟩
theorem zGT(s:ByteArray)(w:World):Calls Tryz.prog 147 #[.string s,.string ⟨#[39]⟩] w fun e w'=>e=.returned (.bool (zEE s))/\w=w':=by
 have H:=zVZ (zLI s w);go_enter Tryz.func147,Tryz.ntmps147;go_wp2_with (go_at_call 182;refine H.out.mono ?_;rintro e w' ⟨rfl,rfl⟩);go_ret;exact⟨rfl,rfl⟩
theorem zDV(e at_:Int)(w:World)(hne:¬e=0):Calls Tryz.prog 184 #[.int .i64 e,.int .i64 at_] w fun x w'=>x=.returned (.iface 272 (.agg #[.int .i64 e,.int .i64 at_]))/\w=w':=by
 go_enter Tryz.func184,Tryz.ntmps184;go_wp2;go_ret;exact⟨rfl,rfl⟩
def zTl(w:World)(e:Ending)(w':World):Prop:=∃x,e=.returned (.tuple #[.int .i64 0,.int .i64 0,.iface 272 x])/\w=w'
theorem zFR(s:ByteArray)(at_:Int)(w:World):Calls Tryz.prog 183 #[.string s,.int .i64 at_] w (zTl w):=by
 go_enter Tryz.func183,Tryz.ntmps183;go_wp2_with (go_at_call 184;refine(zDV _ _ _ (by decide)).mono ?_;rintro e w' ⟨rfl,rfl⟩);go_ret3;exact⟨_,rfl,rfl⟩
theorem zLL(s:ByteArray)(k:Nat)(w:World)(hc:Closes s k)(hs:s.size<=140737488355328):
  Calls Tryz.prog 148 #[.string s,.int .i64 0] w fun e w'=>e=.returned (.tuple #[.int .i64 2,.int .i64 ((k:Int)+1),.nilIface])/\w=w':=by
 have C:=zVZ hc;obtain⟨h2,h24,_,hk,h39⟩:=hc;have h39':((s[k]'hk).toNat:Int)=39:=by omega
 clear h39;go_enter Tryz.func148,Tryz.ntmps148;go_wp2;go_loop [7] (fun i=>∃j:Nat,1<=j/\j<=k/\i=.int .i64 j) (fun i=>k-(intOf i).toNat)
 case atStart=>exact⟨1,by omega,by omega,by go_num⟩
 case round=>
  obtain⟨j,hj1,hj2,rfl⟩:=hrel
  by_cases e:j=k
  ·subst e;go_wp2;go_ret3;exact⟨rfl,rfl⟩
  ·have hjs:j<s.size:=by omega
   have hi:=zKi C.out hjs hj1 (by omega);simp only[insB,decide_eq_true_eq]at hi;obtain⟨i1,i2,i3⟩:=hi;go_wp2;go_round
   case rel=>exact⟨j+1,by omega,by omega,by go_num⟩
   case measure=>simp[intOf];omega
theorem zNq(s:ByteArray)(w:World)(hc:¬∃k,Closes s k)(hs:s.size<=140737488355328):
  Calls Tryz.prog 148 #[.string s,.int .i64 0] w (zTl w):=by
 have C:=zVZ hc;clear hc;go_enter Tryz.func148,Tryz.ntmps148;go_wp2;go_loop [7] (fun i=>∃j:Nat,1<=j/\j<=24/\i=.int .i64 j/\InTo s j) (fun i=>25-(intOf i).toNat)
 case atStart=>exact⟨1,by omega,by omega,by go_num,zPQ s⟩
 case round=>
  obtain⟨j,hj1,hj2,rfl,hI⟩:=hrel;have I:=zVZ hI;clear hI
  by_cases hlt:j<s.size
  ·by_cases e1:((s[j]'hlt).toNat:Int)<33
   ·have e39:¬((s[j]'hlt).toNat:Int)=39:=by omega
    go_wp2_with (go_at_call 183;refine(zFR _ _ _).mono ?_;rintro e w' ⟨x,rfl,rfl⟩);go_ret3;exact⟨_,rfl,rfl⟩
   ·by_cases e2:126<((s[j]'hlt).toNat:Int)
    ·have e39:¬((s[j]'hlt).toNat:Int)=39:=by omega
     go_wp2_with (go_at_call 183;refine(zFR _ _ _).mono ?_;rintro e w' ⟨x,rfl,rfl⟩);go_ret3;exact⟨_,rfl,rfl⟩
    ·by_cases e3:((s[j]'hlt).toNat:Int)=39
     ·by_cases e4:j=1
      ·subst e4;go_wp2_with (go_at_call 183;refine(zFR _ _ _).mono ?_;rintro e w' ⟨x,rfl,rfl⟩);go_ret3;exact⟨_,rfl,rfl⟩
      ·by_cases e5:24<=j
       ·clear e1 e2;have e6:¬(j:Int)=1:=by omega
        go_wp2_with (go_at_call 184;refine(zDV _ _ _ (by decide)).mono ?_;rintro e w' ⟨rfl,rfl⟩);go_ret3;exact⟨_,rfl,rfl⟩
       ·exact absurd ⟨j,by omega,by omega,I.out,hlt,by omega⟩ C.out
     ·by_cases e5:24<=j
      ·go_wp2_with (go_at_call 184;refine(zDV _ _ _ (by decide)).mono ?_;rintro e w' ⟨rfl,rfl⟩);go_ret3;exact⟨_,rfl,rfl⟩
      ·have I2:=zVZ (zMp I.out hlt (by simp only[insB,decide_eq_true_eq];omega));go_wp2;go_round
       case rel=>exact⟨j+1,by omega,by omega,by go_num,I2.out⟩
       case measure=>simp[intOf];omega
  ·go_wp2_with (go_at_call 184;refine(zDV _ _ _ (by decide)).mono ?_;rintro e w' ⟨rfl,rfl⟩);go_ret3;exact⟨_,rfl,rfl⟩
theorem zIa(s:ByteArray)(w:World)(hs:s.size<=140737488355328):Calls Tryz.prog 124 #[.string s] w fun e w'=>e=.returned (.bool (quoS s))/\w=w':=by
 have P:=zVZ (zGT s w);cases h0:zEE s with
 |false=>
  rw[h0]at P;have E:=zVZ (zUW (zSQ h0));go_enter Tryz.func124,Tryz.ntmps124;go_wp2_with (go_at_call 147;refine P.out.mono ?_;rintro e w' ⟨rfl,rfl⟩);go_ret;exact⟨zAF E.out,rfl⟩
 |true=>
  rw[h0]at P
  by_cases hc:∃k,Closes s k
  ·obtain⟨k,hc⟩:=hc;have E:=zVZ (zQO (zPM h0) hc);have Q:=zVZ (zLL s k w hc hs)
   by_cases e:k+1=s.size
   ·rw[decide_eq_true e]at E;have e':((k:Int)+1)=(s.size:Int):=by omega
    rw[e']at Q;clear hc e e';go_enter Tryz.func124,Tryz.ntmps124;go_wp2_with (first|(go_at_call 147;refine P.out.mono ?_;rintro e w' ⟨rfl,rfl⟩)|(go_at_call 148;refine Q.out.mono ?_;rintro e w' ⟨rfl,rfl⟩));go_ret;exact⟨zAF E.out,rfl⟩
   ·rw[decide_eq_false e]at E
    have e':(((k:Int)+1)==(s.size:Int))=false:=by
     rw[beq_eq_false_iff_ne];omega
    clear hc e;go_enter Tryz.func124,Tryz.ntmps124;go_wp2_with (first|(go_at_call 147;refine P.out.mono ?_;rintro e w' ⟨rfl,rfl⟩)|(go_at_call 148;refine Q.out.mono ?_;rintro e w' ⟨rfl,rfl⟩));go_ret;exact⟨zAF E.out,rfl⟩
  ·have E:=zVZ (zQN hc);have Q:=zVZ (zNq s w hc hs);clear hc;go_enter Tryz.func124,Tryz.ntmps124;go_wp2_with (first|(go_at_call 147;refine P.out.mono ?_;rintro e w' ⟨rfl,rfl⟩)|(go_at_call 148;refine Q.out.mono ?_;rintro e w' ⟨x,rfl,rfl⟩));go_ret;exact⟨zAF E.out,rfl⟩
theorem zHf(s:ByteArray)(w:World)(hs:s.size<=140737488355328):Calls Tryz.prog 123 #[.string s] w (Is (.bool (plnS s)) w):=by
 have N:=zVZ (Ch.zGf s w)
 by_cases h:s.size<=24
 ·have E:=zVZ (show plnS s=Ch.namB s.data.toList by simp[plnS,h]);go_enter Tryz.func123,Tryz.ntmps123;go_wp2_with (go_at_call 146;refine N.out.mono ?_;rintro e w' ⟨rfl,hb⟩;have HB:=zVZ hb;clear hb);go_ret;exact⟨zAF E.out,HB.out⟩
 ·have E:=zVZ (show plnS s=false by simp[plnS,h]);go_enter Tryz.func123,Tryz.ntmps123;go_wp2;go_ret;exact⟨zAF E.out,.refl _ _⟩
def zGx{α:Type}(p:α->Bool)(L:List α)(k:Nat):Prop:=∀j (h:j<L.length),j<k->p L[j]=true
theorem zCk{α:Type}(p:α->Bool)(L:List α):zGx p L 0:=fun _ _ h=>absurd h (by omega)
theorem zCj{α:Type}{p:α->Bool}{L:List α}{k:Nat}(h:zGx p L k)(hk:k<L.length)(e:p L[k]=true):zGx p L (k+1):=fun j hj hl=>by
 by_cases he:j=k
 ·subst he;exact e
 ·exact h j hj (by omega)
theorem zBC{α:Type}{p:α->Bool}{L:List α}{k:Nat}(h:zGx p L k)(hk:¬k<L.length):L.all p=true:=by
 rw[List.all_eq_true];intro x hx;obtain⟨j,hj,rfl⟩:=List.mem_iff_getElem.1 hx;exact h j hj (by omega)
theorem zAq{α:Type}{p:α->Bool}{L:List α}{k:Nat}(hk:k<L.length)(e:p L[k]=false):L.all p=false:=by
 rw[List.all_eq_false];exact⟨_,List.getElem_mem hk,by simp[e]⟩
noncomputable def tokS(s:ByteArray):Bool:=plnS s||quoS s
theorem zSB(G:Gram):zDM G=(G.terms.all tokS&&G.nons.all plnS):=rfl
theorem zKF{L:List ByteArray}{a:Option Addr}{w:World}(h:Sep.Reads a (L.map .string) w){k:Nat}(hk:k<L.length):∃b o,a=some ⟨b,o,none⟩/\w.cell? ⟨b,o+k,none⟩=some (.string L[k]):=
 zDa h (by simp) hk (by simp[hk])
theorem zHd(h:Sh)(G:Gram)(w:World)(k:GAt h G w):
  Calls Tryz.prog 98 #[gv h G] w (Is (.bool (!zDM G)) w):=by
 have t:=k.t2;have n:=k.n2;have TS:=zVZ k.ok.terms;have NS:=zVZ k.ok.nons;obtain⟨a1,c1,a2,c2,a3,c3⟩:=h;have X:=zVZ (Bx.start ⟨a1,c1,a2,c2,a3,c3⟩ G w 41);have HT:=zVZ (show∀w1,Below w.heap.size w w1->Sep.Reads a1 (G.terms.map .string) w1 from fun w1 (b:Below w.heap.size w w1)=>(k.went b).terms);have HN:=zVZ (show∀w1,Below w.heap.size w w1->Sep.Reads a2 (G.nons.map .string) w1 from fun w1 (b:Below w.heap.size w w1)=>(k.went b).nons);clear k;have E:=zVZ (zSB G);unfold gv;dsimp only;go_enter Tryz.func98,Tryz.ntmps98;go_wp2;go_loopw [10] (fun i wr=>∃j:Nat,j<=G.terms.length/\i=.int .i64 j/\zGx tokS G.terms j/\Bx w ⟨a1,c1,a2,c2,a3,c3⟩ G wr) (fun i _=>G.terms.length-(intOf i).toNat)
 case atStart=>exact⟨0,Nat.zero_le _,rfl,zCk _ _,X.out⟩
 case round=>
  clear X;obtain⟨j,hj,rfl,hA,hX⟩:=hrel;have A:=zVZ hA;have X:=zVZ hX;clear hA hX
  by_cases hlt:j<G.terms.length
  ·obtain⟨b,o,rfl,hc⟩:=zKF (HT.out _ X.out.below) hlt;have hs:=TS.out _ (List.getElem_mem hlt);have AE:=zVZ (fun he=>zCj A.out hlt he);have AF:=zVZ (fun he=>zAq (p:=tokS) hlt he);generalize G.terms[j]=s at hc hs AE AF;have P:=zVZ (fun w1=>zHf s w1 hs);have Q:=zVZ (fun w1=>zIa s w1 hs);cases hp:plnS s with
   |true=>
    rw[hp]at P;have A2:=zVZ (AE.out (by simp[tokS,hp]));clear hp;go_wp2_with (go_at_call 123;refine(P.out _).mono ?_;rintro e w1 ⟨rfl,hb⟩;have X:=zVZ (X.out.went hb);clear hb);go_roundw
    case rel=>exact⟨j+1,by omega,by go_num,A2.out,X.out⟩
    case measure=>simp[intOf];omega
   |false=>
    rw[hp]at P;cases hq:quoS s with
    |true=>
     rw[hq]at Q;have A2:=zVZ (AE.out (by simp[tokS,hq]));clear hp hq
     go_wp2_with (first
      |(go_at_call 123;refine(P.out _).mono ?_;rintro e w1 ⟨rfl,hb⟩;have X:=zVZ (X.out.went hb);clear hb)
      | (go_at_call 124;refine(Q.out _).mono ?_;rintro e w2 ⟨rfl,rfl⟩))
     go_roundw
     case rel=>exact⟨j+1,by omega,by go_num,A2.out,X.out⟩
     case measure=>simp[intOf];omega
    |false=>
     rw[hq]at Q;have F:=zVZ (AF.out (by simp[tokS,hp,hq]));clear hp hq
     go_wp2_with (first
      |(go_at_call 123;refine(P.out _).mono ?_;rintro e w1 ⟨rfl,hb⟩;have X:=zVZ (X.out.went hb);clear hb)
      | (go_at_call 124;refine(Q.out _).mono ?_;rintro e w2 ⟨rfl,rfl⟩))
     go_ret;exact⟨zAF (by rw[E.out,F.out];rfl),X.out.below⟩
  ·have F1:=zVZ (zBC A.out hlt);rw[F1.out,Bool.true_and]at E;obtain⟨x0,x1,x2,x3⟩:=X.out.box;clear A F1 HT hj;go_wp2;clear x0 x1 x2 x3 hlt;go_loopw [26] (fun i wr=>∃j:Nat,j<=G.nons.length/\i=.int .i64 j/\zGx plnS G.nons j/\Bx w ⟨a1,c1,a2,c2,a3,c3⟩ G wr) (fun i _=>G.nons.length-(intOf i).toNat)
   case atStart=>exact⟨0,Nat.zero_le _,rfl,zCk _ _,X.out⟩
   case round=>
    clear X;obtain⟨j,hj,rfl,hA,hX⟩:=hrel;have A:=zVZ hA;have X:=zVZ hX;clear hA hX
    by_cases hlt:j<G.nons.length
    ·obtain⟨b,o,rfl,hc⟩:=zKF (HN.out _ X.out.below) hlt;have hs:=NS.out _ (List.getElem_mem hlt);have AE:=zVZ (fun he=>zCj A.out hlt he);have AF:=zVZ (fun he=>zAq (p:=plnS) hlt he);generalize G.nons[j]=s at hc hs AE AF;have P:=zVZ (fun w1=>zHf s w1 hs);cases hp:plnS s with
     |true=>
      rw[hp]at P;have A2:=zVZ (AE.out hp);clear hp;go_wp2_with (go_at_call 123;refine(P.out _).mono ?_;rintro e w1 ⟨rfl,hb⟩;have X:=zVZ (X.out.went hb);clear hb);go_roundw
      case rel=>exact⟨j+1,by omega,by go_num,A2.out,X.out⟩
      case measure=>simp[intOf];omega
     |false=>
      rw[hp]at P;have F:=zVZ (AF.out hp);clear hp;go_wp2_with (go_at_call 123;refine(P.out _).mono ?_;rintro e w1 ⟨rfl,hb⟩;have X:=zVZ (X.out.went hb);clear hb);go_ret;exact⟨zAF (by rw[E.out,F.out];rfl),X.out.below⟩
    ·have F:=zVZ (zBC A.out hlt);go_wp2;go_ret;exact⟨zAF (by rw[E.out,F.out];rfl),X.out.below⟩
