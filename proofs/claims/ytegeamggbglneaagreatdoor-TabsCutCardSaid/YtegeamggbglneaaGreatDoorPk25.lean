/- Proof. -/
import Derived.Test.YtegeamggbglneaaGreatDoorPk24
import Derived.Test.YtegeamggbglneaaGreatDoorPk04
set_option maxHeartbeats 4000000
set_option linter.unusedVariables false
namespace Go.Proofs.YtegeamggbglneaaGreatDoor
open Go.RowKit Go.Maps
namespace Gr
def qa(s:ByteArray):Bool:=s.data.toList.head?==some 39
theorem zQM{s}(h:qa s=true):∃h:0<s.size,(s[0]'h).toNat=39:=by
 rcases s with⟨⟨l⟩⟩
 cases l with
 |nil=>simp[qa]at h
 |cons b r=>
  simp[qa]at h;subst h;exact⟨by simp[ByteArray.size],rfl⟩
theorem zTU{s}(h:qa s=false):¬∃h:0<s.size,(s[0]'h).toNat=39:=by
 rintro⟨h0,h1⟩;rcases s with⟨⟨l⟩⟩
 cases l with
 |nil=>simp[ByteArray.size]at h0
 |cons b r=>
  simp[qa]at h;exact h (UInt8.toNat_inj.mp h1)
theorem zQL(s):((s.extract 0 1).toList==[39])=qa s:=by
 rw[ByteArray.toList_eq,Ch.zPG];rcases s with⟨⟨l⟩⟩
 cases l with
 |nil=>rfl
 |cons b r=>simp[qa]
theorem zLv(s)(w):Calls Tryz.prog 209 #[.string s,.string ⟨#[39]⟩] w fun e w'=>e=.returned (.bool (qa s))/\w=w':=by
 by_cases h0:0<s.size
 ·have E:=af (zQL s);go_enter Tryz.func209,Tryz.ntmps209;go_wp2;go_ret;exact⟨aU E.out.symm,rfl⟩
 ·have E:=af (show qa s=false by
   have:s.data.toList=[]:=by
    have:s.data.toList.length=s.size:=rfl;exact List.eq_nil_of_length_eq_zero (by omega)
   unfold qa
   rw[this];rfl)
  go_enter Tryz.func209,Tryz.ntmps209;go_wp2;go_ret;exact⟨aU E.out,rfl⟩
theorem zG4(s)(w):Calls Tryz.prog 174 #[.string s,.string ⟨#[39]⟩] w fun e w'=>e=.returned (.bool (qa s))/\w=w':=by
 have H:=af (zLv s w);go_enter Tryz.func174,Tryz.ntmps174;go_wp2_with (go_at_call 209;refine H.out.mono ?_;rintro e w' ⟨rfl,rfl⟩);go_ret;exact⟨rfl,rfl⟩
theorem G5(e at_)(w)(hne:¬e=0):Calls Tryz.prog 211 #[.int .i64 e,.int .i64 at_] w fun x w'=>x=.returned (.iface 299 (.agg #[.int .i64 e,.int .i64 at_]))/\w=w':=by
 go_enter Tryz.func211,Tryz.ntmps211;go_wp2;go_ret;exact⟨rfl,rfl⟩
def Zc(w:World)(e:Ending)(w':World):Prop:=∃x,e=.returned (.tuple #[.int .i64 0,.int .i64 0,.iface 299 x])/\w=w'
theorem M8(s)(at_)(w):Calls Tryz.prog 210 #[.string s,.int .i64 at_] w (Zc w):=by
 go_enter Tryz.func210,Tryz.ntmps210;go_wp2_with (go_at_call 211;refine(G5 _ _ _ (by decide)).mono ?_;rintro e w' ⟨rfl,rfl⟩);go_ret3;exact⟨_,rfl,rfl⟩
theorem zLw(s)(k)(w)(hc:Closes s k)(hs:s.size<=140737488355328):
  Calls Tryz.prog 175 #[.string s,.int .i64 0] w fun e w'=>e=.returned (.tuple #[.int .i64 2,.int .i64 ((k:Int)+1),.nilIface])/\w=w':=by
 have C:=af hc;obtain⟨h2,h24,_,hk,h39⟩:=hc;have aay:((s[k]'hk).toNat:Int)=39:=by omega
 clear h39;go_enter Tryz.func175,Tryz.ntmps175;go_wp2;go_loop [7] (fun i=>∃j:Nat,1<=j/\j<=k/\i=.int .i64 j) (fun i=>k-(intOf i).toNat)
 case atStart=>exact⟨1,by omega,by omega,by go_num⟩
 case round=>
  obtain⟨j,iU,ki,rfl⟩:=hrel
  by_cases e:j=k
  ·subst e;go_wp2;go_ret3;exact⟨rfl,rfl⟩
  ·have hjs:j<s.size:=by omega
   have hi:=zLM C.out hjs iU (by omega);simp only[nj,decide_eq_true_eq]at hi;obtain⟨i1,i2,i3⟩:=hi;go_wp2;go_round
   case rel=>exact⟨j+1,by omega,by omega,by go_num⟩
   case measure=>simp[intOf];omega
theorem zOZ(s)(w)(hc:¬∃k,Closes s k)(hs:s.size<=140737488355328):
  Calls Tryz.prog 175 #[.string s,.int .i64 0] w (Zc w):=by
 have C:=af hc;clear hc;go_enter Tryz.func175,Tryz.ntmps175;go_wp2;go_loop [7] (fun i=>∃j:Nat,1<=j/\j<=24/\i=.int .i64 j/\qg s j) (fun i=>25-(intOf i).toNat)
 case atStart=>exact⟨1,by omega,by omega,by go_num,zQQ s⟩
 case round=>
  obtain⟨j,iU,ki,rfl,hI⟩:=hrel;have I:=af hI;clear hI
  by_cases hlt:j<s.size
  ·by_cases e1:((s[j]'hlt).toNat:Int)<33
   ·have e39:¬((s[j]'hlt).toNat:Int)=39:=by omega
    go_wp2_with (go_at_call 210;refine(M8 _ _ _).mono ?_;rintro e w' ⟨x,rfl,rfl⟩);go_ret3;exact⟨_,rfl,rfl⟩
   ·by_cases e2:126<((s[j]'hlt).toNat:Int)
    ·have e39:¬((s[j]'hlt).toNat:Int)=39:=by omega
     go_wp2_with (go_at_call 210;refine(M8 _ _ _).mono ?_;rintro e w' ⟨x,rfl,rfl⟩);go_ret3;exact⟨_,rfl,rfl⟩
    ·by_cases e3:((s[j]'hlt).toNat:Int)=39
     ·by_cases e4:j=1
      ·subst e4;go_wp2_with (go_at_call 210;refine(M8 _ _ _).mono ?_;rintro e w' ⟨x,rfl,rfl⟩);go_ret3;exact⟨_,rfl,rfl⟩
      ·by_cases e5:24<=j
       ·clear e1 e2;have e6:¬(j:Int)=1:=by omega
        go_wp2_with (go_at_call 211;refine(G5 _ _ _ (by decide)).mono ?_;rintro e w' ⟨rfl,rfl⟩);go_ret3;exact⟨_,rfl,rfl⟩
       ·exact absurd ⟨j,by omega,by omega,I.out,hlt,by omega⟩ C.out
     ·by_cases e5:24<=j
      ·go_wp2_with (go_at_call 211;refine(G5 _ _ _ (by decide)).mono ?_;rintro e w' ⟨rfl,rfl⟩);go_ret3;exact⟨_,rfl,rfl⟩
      ·have I2:=af (zNV I.out hlt (by simp only[nj,decide_eq_true_eq];omega));go_wp2;go_round
       case rel=>exact⟨j+1,by omega,by omega,by go_num,I2.out⟩
       case measure=>simp[intOf];omega
  ·go_wp2_with (go_at_call 211;refine(G5 _ _ _ (by decide)).mono ?_;rintro e w' ⟨rfl,rfl⟩);go_ret3;exact⟨_,rfl,rfl⟩
theorem zJE(s)(w)(hs:s.size<=140737488355328):Calls Tryz.prog 151 #[.string s] w fun e w'=>e=.returned (.bool (jH s))/\w=w':=by
 have P:=af (zG4 s w);cases h0:qa s with
 |false=>
  rw[h0]at P;have E:=af (zVg (zTU h0));go_enter Tryz.func151,Tryz.ntmps151;go_wp2_with (go_at_call 174;refine P.out.mono ?_;rintro e w' ⟨rfl,rfl⟩);go_ret;exact⟨aU E.out,rfl⟩
 |true=>
  rw[h0]at P
  by_cases hc:∃k,Closes s k
  ·obtain⟨k,hc⟩:=hc;have E:=af (zRT (zQM h0) hc);have Q:=af (zLw s k w hc hs)
   by_cases e:k+1=s.size
   ·rw[decide_eq_true e]at E;have e':((k:Int)+1)=(s.size:Int):=by omega
    rw[e']at Q;clear hc e e';go_enter Tryz.func151,Tryz.ntmps151;go_wp2_with (first|(go_at_call 174;refine P.out.mono ?_;rintro e w' ⟨rfl,rfl⟩)|(go_at_call 175;refine Q.out.mono ?_;rintro e w' ⟨rfl,rfl⟩));go_ret;exact⟨aU E.out,rfl⟩
   ·rw[decide_eq_false e]at E
    have e':(((k:Int)+1)==(s.size:Int))=false:=by
     rw[beq_eq_false_iff_ne];omega
    clear hc e;go_enter Tryz.func151,Tryz.ntmps151;go_wp2_with (first|(go_at_call 174;refine P.out.mono ?_;rintro e w' ⟨rfl,rfl⟩)|(go_at_call 175;refine Q.out.mono ?_;rintro e w' ⟨rfl,rfl⟩));go_ret;exact⟨aU E.out,rfl⟩
  ·have E:=af (zRS hc);have Q:=af (zOZ s w hc hs);clear hc;go_enter Tryz.func151,Tryz.ntmps151;go_wp2_with (first|(go_at_call 174;refine P.out.mono ?_;rintro e w' ⟨rfl,rfl⟩)|(go_at_call 175;refine Q.out.mono ?_;rintro e w' ⟨x,rfl,rfl⟩));go_ret;exact⟨aU E.out,rfl⟩
theorem Vj(s)(w)(hs:s.size<=140737488355328):Calls Tryz.prog 150 #[.string s] w (Is (.bool (fo s)) w):=by
 have N:=af (Ch.Nu s w)
 by_cases h:s.size<=24
 ·have E:=af (show fo s=Ch.nt s.data.toList by simp[fo,h]);go_enter Tryz.func150,Tryz.ntmps150;go_wp2_with (go_at_call 173;refine N.out.mono ?_;rintro e w' ⟨rfl,hb⟩;have HB:=af hb;clear hb);go_ret;exact⟨aU E.out,HB.out⟩
 ·have E:=af (show fo s=false by simp[fo,h]);go_enter Tryz.func150,Tryz.ntmps150;go_wp2;go_ret;exact⟨aU E.out,.refl _ _⟩
def wP{α:Type}(p:α->Bool)(L:List α)(k:Nat):Prop:=∀j (h:j<L.length),j<k->p L[j]=true
theorem GC{α}(p)(L:List α):wP p L 0:=fun _ _ h=>absurd h (by omega)
theorem GA{α}{p}{L:List α}{k}(h:wP p L k)(hk)(e:p L[k]=true):wP p L (k+1):=fun j hj hl=>by
 by_cases he:j=k
 ·subst he;exact e
 ·exact h j hj (by omega)
theorem ku{α}{p}{L:List α}{k}(h:wP p L k)(hk:¬k<L.length):L.all p=true:=by
 rw[List.all_eq_true];intro x hx;obtain⟨j,hj,rfl⟩:=List.mem_iff_getElem.1 hx;exact h j hj (by omega)
theorem kq{α:Type}{p}{L:List α}{k}(hk:k<L.length)(e:p L[k]=false):L.all p=false:=by
 rw[List.all_eq_false];exact⟨_,List.getElem_mem hk,by simp[e]⟩
noncomputable def pA(s:ByteArray):Bool:=fo s||jH s
theorem zTG(G):oI G=(G.terms.all pA&&G.ah.all fo):=rfl
theorem Io{L:List ByteArray}{a}{w}(h:Sep.Reads a (L.map .string) w){k}(hk):∃b o,a=some ⟨b,o,none⟩/\w.cell? ⟨b,o+k,none⟩=some (.string L[k]):=
 zS h (by simp) hk (by simp[hk])
theorem zIQ(h)(G)(w)(k:bI h G w):
  Calls Tryz.prog 125 #[gv h G] w (Is (.bool (!oI G)) w):=by
 have t:=k.t2;have n:=k.n2;have TS:=af k.ok.terms;have NS:=af k.ok.ah;obtain⟨a1,c1,a2,c2,a3,c3⟩:=h;have X:=af (Bx.start ⟨a1,c1,a2,c2,a3,c3⟩ G w 47);have HT:=af (show∀w1,Below w.heap.size w w1->Sep.Reads a1 (G.terms.map .string) w1 from fun w1 (b:Below w.heap.size w w1)=>(k.went b).terms);have HN:=af (show∀w1,Below w.heap.size w w1->Sep.Reads a2 (G.ah.map .string) w1 from fun w1 (b:Below w.heap.size w w1)=>(k.went b).ah);clear k;have E:=af (zTG G);unfold gv;dsimp only;go_enter Tryz.func125,Tryz.ntmps125;go_wp2;go_loopw [10] (fun i wr=>∃j:Nat,j<=G.terms.length/\i=.int .i64 j/\wP pA G.terms j/\Bx w ⟨a1,c1,a2,c2,a3,c3⟩ G wr) (fun i _=>G.terms.length-(intOf i).toNat)
 case atStart=>exact⟨0,Nat.zero_le _,rfl,GC _ _,X.out⟩
 case round=>
  clear X;obtain⟨j,hj,rfl,hA,hX⟩:=hrel;have A:=af hA;have X:=af hX;clear hA hX
  by_cases hlt:j<G.terms.length
  ·obtain⟨b,o,rfl,hc⟩:=Io (HT.out _ X.out.below) hlt;have hs:=TS.out _ (List.getElem_mem hlt);have AE:=af (fun he=>GA A.out hlt he);have AF:=af (fun he=>kq (p:=pA) hlt he);generalize G.terms[j]=s at hc hs AE AF;have P:=af (fun w1=>Vj s w1 hs);have Q:=af (fun w1=>zJE s w1 hs);cases hp:fo s with
   |true=>
    rw[hp]at P;have A2:=af (AE.out (by simp[pA,hp]));clear hp;go_wp2_with (go_at_call 150;refine(P.out _).mono ?_;rintro e w1 ⟨rfl,hb⟩;have X:=af (X.out.went hb);clear hb);go_roundw
    case rel=>exact⟨j+1,by omega,by go_num,A2.out,X.out⟩
    case measure=>simp[intOf];omega
   |false=>
    rw[hp]at P;cases hq:jH s with
    |true=>
     rw[hq]at Q;have A2:=af (AE.out (by simp[pA,hq]));clear hp hq
     go_wp2_with (first
      |(go_at_call 150;refine(P.out _).mono ?_;rintro e w1 ⟨rfl,hb⟩;have X:=af (X.out.went hb);clear hb)
      | (go_at_call 151;refine(Q.out _).mono ?_;rintro e w2 ⟨rfl,rfl⟩))
     go_roundw
     case rel=>exact⟨j+1,by omega,by go_num,A2.out,X.out⟩
     case measure=>simp[intOf];omega
    |false=>
     rw[hq]at Q;have F:=af (AF.out (by simp[pA,hp,hq]));clear hp hq
     go_wp2_with (first
      |(go_at_call 150;refine(P.out _).mono ?_;rintro e w1 ⟨rfl,hb⟩;have X:=af (X.out.went hb);clear hb)
      | (go_at_call 151;refine(Q.out _).mono ?_;rintro e w2 ⟨rfl,rfl⟩))
     go_ret;exact⟨aU (by rw[E.out,F.out];rfl),X.out.below⟩
  ·have F1:=af (ku A.out hlt);rw[F1.out,Bool.true_and]at E;obtain⟨x0,x1,x2,x3⟩:=X.out.box;clear A F1 HT hj;go_wp2;clear x0 x1 x2 x3 hlt;go_loopw [26] (fun i wr=>∃j:Nat,j<=G.ah.length/\i=.int .i64 j/\wP fo G.ah j/\Bx w ⟨a1,c1,a2,c2,a3,c3⟩ G wr) (fun i _=>G.ah.length-(intOf i).toNat)
   case atStart=>exact⟨0,Nat.zero_le _,rfl,GC _ _,X.out⟩
   case round=>
    clear X;obtain⟨j,hj,rfl,hA,hX⟩:=hrel;have A:=af hA;have X:=af hX;clear hA hX
    by_cases hlt:j<G.ah.length
    ·obtain⟨b,o,rfl,hc⟩:=Io (HN.out _ X.out.below) hlt;have hs:=NS.out _ (List.getElem_mem hlt);have AE:=af (fun he=>GA A.out hlt he);have AF:=af (fun he=>kq (p:=fo) hlt he);generalize G.ah[j]=s at hc hs AE AF;have P:=af (fun w1=>Vj s w1 hs);cases hp:fo s with
     |true=>
      rw[hp]at P;have A2:=af (AE.out hp);clear hp;go_wp2_with (go_at_call 150;refine(P.out _).mono ?_;rintro e w1 ⟨rfl,hb⟩;have X:=af (X.out.went hb);clear hb);go_roundw
      case rel=>exact⟨j+1,by omega,by go_num,A2.out,X.out⟩
      case measure=>simp[intOf];omega
     |false=>
      rw[hp]at P;have F:=af (AF.out hp);clear hp;go_wp2_with (go_at_call 150;refine(P.out _).mono ?_;rintro e w1 ⟨rfl,hb⟩;have X:=af (X.out.went hb);clear hb);go_ret;exact⟨aU (by rw[E.out,F.out];rfl),X.out.below⟩
    ·have F:=af (ku A.out hlt);go_wp2;go_ret;exact⟨aU (by rw[E.out,F.out];rfl),X.out.below⟩
