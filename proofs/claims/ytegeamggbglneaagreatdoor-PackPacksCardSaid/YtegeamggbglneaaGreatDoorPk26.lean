/- A part of the proof. -/
import Derived.Test.YtegeamggbglneaaGreatDoorPk25
import Derived.Test.YtegeamggbglneaaGreatDoorPk05
set_option maxHeartbeats 4000000
set_option linter.unusedVariables false
namespace Go.Proofs.YtegeamggbglneaaGreatDoor
open Go.RowKit Go.Maps
namespace Gr
def zEj(s:ByteArray):Bool:=s.data.toList.head?==some 39
theorem zPs{s}(h:zEj s=true):∃h:0<s.size,(s[0]'h).toNat=39:=by
 rcases s with⟨⟨l⟩⟩
 cases l with
 |nil=>simp[zEj]at h
 |cons b r=>
  simp[zEj]at h;subst h;exact⟨by simp[ByteArray.size],rfl⟩
theorem zSu{s}(h:zEj s=false):¬∃h:0<s.size,(s[0]'h).toNat=39:=by
 rintro⟨h0,h1⟩;rcases s with⟨⟨l⟩⟩
 cases l with
 |nil=>simp[ByteArray.size]at h0
 |cons b r=>
  simp[zEj]at h;exact h (UInt8.toNat_inj.mp h1)
theorem zPr(s):((s.extract 0 1).toList==[39])=zEj s:=by
 rw[ByteArray.toList_eq,Ch.zOo];rcases s with⟨⟨l⟩⟩
 cases l with
 |nil=>rfl
 |cons b r=>simp[zEj]
theorem zLk(s)(w):Calls Tryz.prog 209 #[.string s,.string ⟨#[39]⟩] w fun e w'=>e=.returned (.bool (zEj s))/\w=w':=by
 by_cases h0:0<s.size
 ·have E:=zV7 (zPr s);go_enter Tryz.func209,Tryz.ntmps209;go_wp2;go_ret;exact⟨zAD E.out.symm,rfl⟩
 ·have E:=zV7 (show zEj s=false by
   have:s.data.toList=[]:=by
    have:s.data.toList.length=s.size:=rfl;exact List.eq_nil_of_length_eq_zero (by omega)
   unfold zEj
   rw[this];rfl)
  go_enter Tryz.func209,Tryz.ntmps209;go_wp2;go_ret;exact⟨zAD E.out,rfl⟩
theorem zGz(s)(w):Calls Tryz.prog 174 #[.string s,.string ⟨#[39]⟩] w fun e w'=>e=.returned (.bool (zEj s))/\w=w':=by
 have H:=zV7 (zLk s w);go_enter Tryz.func174,Tryz.ntmps174;go_wp2_with (go_at_call 209;refine H.out.mono ?_;rintro e w' ⟨rfl,rfl⟩);go_ret;exact⟨rfl,rfl⟩
theorem zDr(e at_)(w)(hne:¬e=0):Calls Tryz.prog 211 #[.int .i64 e,.int .i64 at_] w fun x w'=>x=.returned (.iface 299 (.agg #[.int .i64 e,.int .i64 at_]))/\w=w':=by
 go_enter Tryz.func211,Tryz.ntmps211;go_wp2;go_ret;exact⟨rfl,rfl⟩
def zUG(w:World)(e:Ending)(w':World):Prop:=∃x,e=.returned (.tuple #[.int .i64 0,.int .i64 0,.iface 299 x])/\w=w'
theorem zFv(s)(at_)(w):Calls Tryz.prog 210 #[.string s,.int .i64 at_] w (zUG w):=by
 go_enter Tryz.func210,Tryz.ntmps210;go_wp2_with (go_at_call 211;refine(zDr _ _ _ (by decide)).mono ?_;rintro e w' ⟨rfl,rfl⟩);go_ret3;exact⟨_,rfl,rfl⟩
theorem zLm(s)(k)(w)(hc:Closes s k)(hs:s.size<=140737488355328):
  Calls Tryz.prog 175 #[.string s,.int .i64 0] w fun e w'=>e=.returned (.tuple #[.int .i64 2,.int .i64 ((k:Int)+1),.nilIface])/\w=w':=by
 have C:=zV7 hc;obtain⟨h2,h24,_,hk,h39⟩:=hc;have h39':((s[k]'hk).toNat:Int)=39:=by omega
 clear h39;go_enter Tryz.func175,Tryz.ntmps175;go_wp2;go_loop [7] (fun i=>∃j:Nat,1<=j/\j<=k/\i=.int .i64 j) (fun i=>k-(intOf i).toNat)
 case atStart=>exact⟨1,by omega,by omega,by go_num⟩
 case round=>
  obtain⟨j,hj1,hj2,rfl⟩:=hrel
  by_cases e:j=k
  ·subst e;go_wp2;go_ret3;exact⟨rfl,rfl⟩
  ·have hjs:j<s.size:=by omega
   have hi:=zLB C.out hjs hj1 (by omega);simp only[insB,decide_eq_true_eq]at hi;obtain⟨i1,i2,i3⟩:=hi;go_wp2;go_round
   case rel=>exact⟨j+1,by omega,by omega,by go_num⟩
   case measure=>simp[intOf];omega
theorem zOI(s)(w)(hc:¬∃k,Closes s k)(hs:s.size<=140737488355328):
  Calls Tryz.prog 175 #[.string s,.int .i64 0] w (zUG w):=by
 have C:=zV7 hc;clear hc;go_enter Tryz.func175,Tryz.ntmps175;go_wp2;go_loop [7] (fun i=>∃j:Nat,1<=j/\j<=24/\i=.int .i64 j/\InTo s j) (fun i=>25-(intOf i).toNat)
 case atStart=>exact⟨1,by omega,by omega,by go_num,zPw s⟩
 case round=>
  obtain⟨j,hj1,hj2,rfl,hI⟩:=hrel;have I:=zV7 hI;clear hI
  by_cases hlt:j<s.size
  ·by_cases e1:((s[j]'hlt).toNat:Int)<33
   ·have e39:¬((s[j]'hlt).toNat:Int)=39:=by omega
    go_wp2_with (go_at_call 210;refine(zFv _ _ _).mono ?_;rintro e w' ⟨x,rfl,rfl⟩);go_ret3;exact⟨_,rfl,rfl⟩
   ·by_cases e2:126<((s[j]'hlt).toNat:Int)
    ·have e39:¬((s[j]'hlt).toNat:Int)=39:=by omega
     go_wp2_with (go_at_call 210;refine(zFv _ _ _).mono ?_;rintro e w' ⟨x,rfl,rfl⟩);go_ret3;exact⟨_,rfl,rfl⟩
    ·by_cases e3:((s[j]'hlt).toNat:Int)=39
     ·by_cases e4:j=1
      ·subst e4;go_wp2_with (go_at_call 210;refine(zFv _ _ _).mono ?_;rintro e w' ⟨x,rfl,rfl⟩);go_ret3;exact⟨_,rfl,rfl⟩
      ·by_cases e5:24<=j
       ·clear e1 e2;have e6:¬(j:Int)=1:=by omega
        go_wp2_with (go_at_call 211;refine(zDr _ _ _ (by decide)).mono ?_;rintro e w' ⟨rfl,rfl⟩);go_ret3;exact⟨_,rfl,rfl⟩
       ·exact absurd ⟨j,by omega,by omega,I.out,hlt,by omega⟩ C.out
     ·by_cases e5:24<=j
      ·go_wp2_with (go_at_call 211;refine(zDr _ _ _ (by decide)).mono ?_;rintro e w' ⟨rfl,rfl⟩);go_ret3;exact⟨_,rfl,rfl⟩
      ·have I2:=zV7 (zNC I.out hlt (by simp only[insB,decide_eq_true_eq];omega));go_wp2;go_round
       case rel=>exact⟨j+1,by omega,by omega,by go_num,I2.out⟩
       case measure=>simp[intOf];omega
  ·go_wp2_with (go_at_call 211;refine(zDr _ _ _ (by decide)).mono ?_;rintro e w' ⟨rfl,rfl⟩);go_ret3;exact⟨_,rfl,rfl⟩
theorem zI4(s)(w)(hs:s.size<=140737488355328):Calls Tryz.prog 151 #[.string s] w fun e w'=>e=.returned (.bool (quoS s))/\w=w':=by
 have P:=zV7 (zGz s w);cases h0:zEj s with
 |false=>
  rw[h0]at P;have E:=zV7 (zU1 (zSu h0));go_enter Tryz.func151,Tryz.ntmps151;go_wp2_with (go_at_call 174;refine P.out.mono ?_;rintro e w' ⟨rfl,rfl⟩);go_ret;exact⟨zAD E.out,rfl⟩
 |true=>
  rw[h0]at P
  by_cases hc:∃k,Closes s k
  ·obtain⟨k,hc⟩:=hc;have E:=zV7 (zQw (zPs h0) hc);have Q:=zV7 (zLm s k w hc hs)
   by_cases e:k+1=s.size
   ·rw[decide_eq_true e]at E;have e':((k:Int)+1)=(s.size:Int):=by omega
    rw[e']at Q;clear hc e e';go_enter Tryz.func151,Tryz.ntmps151;go_wp2_with (first|(go_at_call 174;refine P.out.mono ?_;rintro e w' ⟨rfl,rfl⟩)|(go_at_call 175;refine Q.out.mono ?_;rintro e w' ⟨rfl,rfl⟩));go_ret;exact⟨zAD E.out,rfl⟩
   ·rw[decide_eq_false e]at E
    have e':(((k:Int)+1)==(s.size:Int))=false:=by
     rw[beq_eq_false_iff_ne];omega
    clear hc e;go_enter Tryz.func151,Tryz.ntmps151;go_wp2_with (first|(go_at_call 174;refine P.out.mono ?_;rintro e w' ⟨rfl,rfl⟩)|(go_at_call 175;refine Q.out.mono ?_;rintro e w' ⟨rfl,rfl⟩));go_ret;exact⟨zAD E.out,rfl⟩
  ·have E:=zV7 (zQv hc);have Q:=zV7 (zOI s w hc hs);clear hc;go_enter Tryz.func151,Tryz.ntmps151;go_wp2_with (first|(go_at_call 174;refine P.out.mono ?_;rintro e w' ⟨rfl,rfl⟩)|(go_at_call 175;refine Q.out.mono ?_;rintro e w' ⟨x,rfl,rfl⟩));go_ret;exact⟨zAD E.out,rfl⟩
theorem zIC(s)(w)(hs:s.size<=140737488355328):Calls Tryz.prog 150 #[.string s] w (Is (.bool (plnS s)) w):=by
 have N:=zV7 (Ch.zHB s w)
 by_cases h:s.size<=24
 ·have E:=zV7 (show plnS s=Ch.namB s.data.toList by simp[plnS,h]);go_enter Tryz.func150,Tryz.ntmps150;go_wp2_with (go_at_call 173;refine N.out.mono ?_;rintro e w' ⟨rfl,hb⟩;have HB:=zV7 hb;clear hb);go_ret;exact⟨zAD E.out,HB.out⟩
 ·have E:=zV7 (show plnS s=false by simp[plnS,h]);go_enter Tryz.func150,Tryz.ntmps150;go_wp2;go_ret;exact⟨zAD E.out,.refl _ _⟩
def zHT{α:Type}(p:α->Bool)(L:List α)(k:Nat):Prop:=∀j (h:j<L.length),j<k->p L[j]=true
theorem zC3{α}(p)(L:List α):zHT p L 0:=fun _ _ h=>absurd h (by omega)
theorem zC2{α}{p}{L:List α}{k}(h:zHT p L k)(hk)(e:p L[k]=true):zHT p L (k+1):=fun j hj hl=>by
 by_cases he:j=k
 ·subst he;exact e
 ·exact h j hj (by omega)
theorem zAt{α}{p}{L:List α}{k}(h:zHT p L k)(hk:¬k<L.length):L.all p=true:=by
 rw[List.all_eq_true];intro x hx;obtain⟨j,hj,rfl⟩:=List.mem_iff_getElem.1 hx;exact h j hj (by omega)
theorem zAc{α:Type}{p}{L:List α}{k}(hk:k<L.length)(e:p L[k]=false):L.all p=false:=by
 rw[List.all_eq_false];exact⟨_,List.getElem_mem hk,by simp[e]⟩
noncomputable def tokS(s:ByteArray):Bool:=plnS s||quoS s
theorem zSh(G):zDg G=(G.terms.all tokS&&G.nons.all plnS):=rfl
theorem zRx{L:List ByteArray}{a}{w}(h:Sep.Reads a (L.map .string) w){k}(hk):∃b o,a=some ⟨b,o,none⟩/\w.cell? ⟨b,o+k,none⟩=some (.string L[k]):=
 zCL h (by simp) hk (by simp[hk])
theorem zIA(h)(G)(w)(k:GAt h G w):
  Calls Tryz.prog 125 #[gv h G] w (Is (.bool (!zDg G)) w):=by
 have t:=k.t2;have n:=k.n2;have TS:=zV7 k.ok.terms;have NS:=zV7 k.ok.nons;obtain⟨a1,c1,a2,c2,a3,c3⟩:=h;have X:=zV7 (Bx.start ⟨a1,c1,a2,c2,a3,c3⟩ G w 47);have HT:=zV7 (show∀w1,Below w.heap.size w w1->Sep.Reads a1 (G.terms.map .string) w1 from fun w1 (b:Below w.heap.size w w1)=>(k.went b).terms);have HN:=zV7 (show∀w1,Below w.heap.size w w1->Sep.Reads a2 (G.nons.map .string) w1 from fun w1 (b:Below w.heap.size w w1)=>(k.went b).nons);clear k;have E:=zV7 (zSh G);unfold gv;dsimp only;go_enter Tryz.func125,Tryz.ntmps125;go_wp2;go_loopw [10] (fun i wr=>∃j:Nat,j<=G.terms.length/\i=.int .i64 j/\zHT tokS G.terms j/\Bx w ⟨a1,c1,a2,c2,a3,c3⟩ G wr) (fun i _=>G.terms.length-(intOf i).toNat)
 case atStart=>exact⟨0,Nat.zero_le _,rfl,zC3 _ _,X.out⟩
 case round=>
  clear X;obtain⟨j,hj,rfl,hA,hX⟩:=hrel;have A:=zV7 hA;have X:=zV7 hX;clear hA hX
  by_cases hlt:j<G.terms.length
  ·obtain⟨b,o,rfl,hc⟩:=zRx (HT.out _ X.out.below) hlt;have hs:=TS.out _ (List.getElem_mem hlt);have AE:=zV7 (fun he=>zC2 A.out hlt he);have AF:=zV7 (fun he=>zAc (p:=tokS) hlt he);generalize G.terms[j]=s at hc hs AE AF;have P:=zV7 (fun w1=>zIC s w1 hs);have Q:=zV7 (fun w1=>zI4 s w1 hs);cases hp:plnS s with
   |true=>
    rw[hp]at P;have A2:=zV7 (AE.out (by simp[tokS,hp]));clear hp;go_wp2_with (go_at_call 150;refine(P.out _).mono ?_;rintro e w1 ⟨rfl,hb⟩;have X:=zV7 (X.out.went hb);clear hb);go_roundw
    case rel=>exact⟨j+1,by omega,by go_num,A2.out,X.out⟩
    case measure=>simp[intOf];omega
   |false=>
    rw[hp]at P;cases hq:quoS s with
    |true=>
     rw[hq]at Q;have A2:=zV7 (AE.out (by simp[tokS,hq]));clear hp hq
     go_wp2_with (first
      |(go_at_call 150;refine(P.out _).mono ?_;rintro e w1 ⟨rfl,hb⟩;have X:=zV7 (X.out.went hb);clear hb)
      | (go_at_call 151;refine(Q.out _).mono ?_;rintro e w2 ⟨rfl,rfl⟩))
     go_roundw
     case rel=>exact⟨j+1,by omega,by go_num,A2.out,X.out⟩
     case measure=>simp[intOf];omega
    |false=>
     rw[hq]at Q;have F:=zV7 (AF.out (by simp[tokS,hp,hq]));clear hp hq
     go_wp2_with (first
      |(go_at_call 150;refine(P.out _).mono ?_;rintro e w1 ⟨rfl,hb⟩;have X:=zV7 (X.out.went hb);clear hb)
      | (go_at_call 151;refine(Q.out _).mono ?_;rintro e w2 ⟨rfl,rfl⟩))
     go_ret;exact⟨zAD (by rw[E.out,F.out];rfl),X.out.below⟩
  ·have F1:=zV7 (zAt A.out hlt);rw[F1.out,Bool.true_and]at E;obtain⟨x0,x1,x2,x3⟩:=X.out.box;clear A F1 HT hj;go_wp2;clear x0 x1 x2 x3 hlt;go_loopw [26] (fun i wr=>∃j:Nat,j<=G.nons.length/\i=.int .i64 j/\zHT plnS G.nons j/\Bx w ⟨a1,c1,a2,c2,a3,c3⟩ G wr) (fun i _=>G.nons.length-(intOf i).toNat)
   case atStart=>exact⟨0,Nat.zero_le _,rfl,zC3 _ _,X.out⟩
   case round=>
    clear X;obtain⟨j,hj,rfl,hA,hX⟩:=hrel;have A:=zV7 hA;have X:=zV7 hX;clear hA hX
    by_cases hlt:j<G.nons.length
    ·obtain⟨b,o,rfl,hc⟩:=zRx (HN.out _ X.out.below) hlt;have hs:=NS.out _ (List.getElem_mem hlt);have AE:=zV7 (fun he=>zC2 A.out hlt he);have AF:=zV7 (fun he=>zAc (p:=plnS) hlt he);generalize G.nons[j]=s at hc hs AE AF;have P:=zV7 (fun w1=>zIC s w1 hs);cases hp:plnS s with
     |true=>
      rw[hp]at P;have A2:=zV7 (AE.out hp);clear hp;go_wp2_with (go_at_call 150;refine(P.out _).mono ?_;rintro e w1 ⟨rfl,hb⟩;have X:=zV7 (X.out.went hb);clear hb);go_roundw
      case rel=>exact⟨j+1,by omega,by go_num,A2.out,X.out⟩
      case measure=>simp[intOf];omega
     |false=>
      rw[hp]at P;have F:=zV7 (AF.out hp);clear hp;go_wp2_with (go_at_call 150;refine(P.out _).mono ?_;rintro e w1 ⟨rfl,hb⟩;have X:=zV7 (X.out.went hb);clear hb);go_ret;exact⟨zAD (by rw[E.out,F.out];rfl),X.out.below⟩
    ·have F:=zV7 (zAt A.out hlt);go_wp2;go_ret;exact⟨zAD (by rw[E.out,F.out];rfl),X.out.below⟩
