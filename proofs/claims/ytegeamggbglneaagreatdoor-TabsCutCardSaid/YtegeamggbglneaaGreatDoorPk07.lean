/- Proof. -/
import Derived.Laws.BitsAllLaws
import Derived.Deep.DeepCutAuto
import Derived.Test.YtegeamggbglneaaGreatDoorPk06
import Derived.Shelf.SlSortCmp.QuietGrown
set_option maxHeartbeats 2000000
set_option maxRecDepth 100000
set_option linter.unusedVariables false
namespace Go.Proofs.YtegeamggbglneaaGreatDoor
open Go.RowKit Go.Maps
namespace Pk
open Gr (boxed)
abbrev av(x:Int×Int):Value:=.agg #[.int .i64 x.1,.int .i64 x.2]
theorem zVa(a b:Nat)(ha:a<1000000)(hb:b<1000000):bits .or .i64 (a:Int) (b:Int)=((a|||b:Nat):Int):=by
 have hx:a|||b<2^20:=Nat.or_lt_two_pow (by omega) (by omega)
 have h1:(BitVec.ofInt 64 (a:Int)).toNat=a:=by
  rw[BitVec.ofInt_natCast,BitVec.toNat_ofNat];exact Nat.mod_eq_of_lt (by omega)
 have h2:(BitVec.ofInt 64 (b:Int)).toNat=b:=by
  rw[BitVec.ofInt_natCast,BitVec.toNat_ofNat];exact Nat.mod_eq_of_lt (by omega)
 show IntKind.i64.wrap ((BitVec.ofInt 64 (a:Int)|||BitVec.ofInt 64 (b:Int)).toNat:Int)= _;rw[BitVec.toNat_or,h1,h2,IntKind.wrap_i64];omega
theorem zT3(k n:Nat)(hk:k<=3)(hn:n<16384):bits .or .i64 ((16384*k:Nat):Int) (n:Int)=((16384*k+n:Nat):Int):=by
 rw[zVa _ _ (by omega) (by omega)];have:=Nat.two_pow_add_eq_or_of_lt (i:=14) (b:=n) (by omega) k;rw[show(16384:Nat)=2^14 by decide,←this]
theorem zSp(c:Nat)(hc:c<65536):bits .and .u16 (c:Int) 16383=((c % 16384:Nat):Int):=by
 have h1:(BitVec.ofInt 16 (c:Int)).toNat=c:=by
  rw[BitVec.ofInt_natCast,BitVec.toNat_ofNat];exact Nat.mod_eq_of_lt (by omega)
 have h2:(BitVec.ofInt 16 (16383:Int)).toNat=16383:=by decide
 show IntKind.u16.wrap ((BitVec.ofInt 16 (c:Int)&&& BitVec.ofInt 16 (16383:Int)).toNat:Int)= _;rw[BitVec.toNat_and,h1,h2,show(16383:Nat)=2^14-1 by decide,Nat.and_two_pow_sub_one_eq_mod,IntKind.wrap_u16];omega
theorem Tz(x)(h:0<=x.1/\x.1<=3/\0<=x.2/\x.2<16384)(w):
  Calls Tryz.prog 30 #[av x] w (Gr.Is (.int .u16 (ia x)) w):=by
 obtain⟨x1,x2⟩:=x;dsimp only at h;obtain⟨k,rfl⟩:∃k:Nat,x1=(k:Int):=⟨x1.toNat,by omega⟩;obtain⟨n,rfl⟩:∃n:Nat,x2=(n:Int):=⟨x2.toNat,by omega⟩;have B:=af (boxed w (.cells #[.int .i64 (k:Int),.int .i64 (n:Int)] 57));have hor:=zT3 k n (by omega) (by omega);have E:=af (show((16384*k+n:Nat):Int)=ia ((k:Int),(n:Int))by unfold ia;dsimp only;omega)
 have hs:Op.shift BinOp.shl IntKind.i64 (k:Int) IntKind.u64 14=pure (.int .i64 ((16384*k:Nat):Int)):=by
  rcases(by omega:k=0\/k=1\/k=2\/k=3)with rfl|rfl|rfl|rfl<;>rfl
 have hl:((16384*k+n:Nat):Int)<=65535:=by omega
 generalize ia ((k:Int),(n:Int))=c at*;generalize 16384*k+n=m at*;generalize 16384*k=j at*;go_enter Tryz.func30,Tryz.ntmps30;go_wp2;go_ret;exact⟨by rw[E.out];rfl,B.out⟩
theorem zID(x)(h: -1<=x/\x<65535)(w):
  Calls Tryz.prog 32 #[.int .i64 x] w (fun e w'=>e=.returned (.int .u16 (lj x))/\w'=w):=by
 unfold lj;have h1:IntKind.i64.wrap (x+1)=x+1:=by rw[IntKind.wrap_i64];omega
 have h2:IntKind.u16.wrap (x+1)=x+1:=by rw[IntKind.wrap_u16];omega
 go_enter Tryz.func32,Tryz.ntmps32;go_wp2;go_ret;exact⟨rfl,rfl⟩
theorem zMC(c)(h:Cd c)(w):
  Calls Tryz.prog 45 #[.int .u16 c] w (fun e w'=>e=.returned (.int .i64 (jL c))/\w'=w):=by
 unfold jL;unfold Cd at h;obtain⟨ha,hb⟩:=h;go_enter Tryz.func45,Tryz.ntmps45;go_wp2;go_ret;exact⟨rfl,rfl⟩
theorem zK3(c:Int)(h:Cd c)(w:World):
  Calls Tryz.prog 43 #[.int .u16 c] w (Gr.Is (av (fX c)) w):=by
 unfold Cd at h;obtain⟨n,rfl⟩:∃n:Nat,c=(n:Int):=⟨c.toNat,by omega⟩;have hn:n<65536:=by omega
 have ha:=zSp n hn;have BB:=af (fun(o o':Obj)=>Gr.step (boxed w o) (boxed (w.alloc o) o'))
 by_cases hm:(n:Int) % 16384=0
 ·have e:fX (n:Int)=((n:Int) / 16384,0):=by
   unfold fX;rw[if_neg (by omega),hm]
  rw[e];clear e;go_enter Tryz.func43,Tryz.ntmps43;go_wp2;exact bodyPost_ret (v:=.agg #[.int .i64 ((n:Int) / 16384),.int .i64 0]) (by simp[results,Tryz.results43,go_sem]) rfl ⟨rfl,BB.out _ _⟩
 ·have hb:((n:Int) % 16384 != 0)=true:=by rw[bne_iff_ne];exact hm
  by_cases hk:(n:Int) / 16384=0
  ·have e:fX (n:Int)=(0,0):=by
    unfold fX;rw[if_pos ⟨hm,.inl hk⟩]
   rw[e];clear e;go_enter Tryz.func43,Tryz.ntmps43;go_wp2;exact bodyPost_ret (v:=.agg #[.int .i64 0,.int .i64 0]) (by simp[results,Tryz.results43,go_sem]) rfl ⟨rfl,BB.out _ _⟩
  ·by_cases hk3:(n:Int) / 16384=3
   ·have e:fX (n:Int)=(0,0):=by
     unfold fX;rw[if_pos ⟨hm,.inr hk3⟩]
    rw[e];clear e;go_enter Tryz.func43,Tryz.ntmps43;go_wp2;exact bodyPost_ret (v:=.agg #[.int .i64 0,.int .i64 0]) (by simp[results,Tryz.results43,go_sem]) rfl ⟨rfl,BB.out _ _⟩
   ·have e:fX (n:Int)=((n:Int) / 16384,(n:Int) % 16384):=by
     unfold fX;rw[if_neg (by omega)]
    have hb0:((n:Int) / 16384==0)=false:=by rw[beq_eq_false_iff_ne];exact hk
    have hb3:((n:Int) / 16384==3)=false:=by rw[beq_eq_false_iff_ne];exact hk3
    rw[e];clear e;go_enter Tryz.func43,Tryz.ntmps43;go_wp2;exact bodyPost_ret (v:=.agg #[.int .i64 ((n:Int) / 16384),.int .i64 ((n:Int) % 16384)]) (by simp[results,Tryz.results43,go_sem]) rfl ⟨rfl,BB.out _ _⟩
end Pk
namespace Pk
open Gr (Gz Gy Gx GQ GY aU cell_later)
def uN(L M:List Int):Bool:=decide (L=M)
theorem Uz(L M)(a b)(c d)(w)(ha:fy a L w)(hb:fy b M w)(hl:L.length<=35184372088832)(hm:M.length<=35184372088832):
  Calls Tryz.prog 37 #[.slice a L.length c,.slice b M.length d] w (Gr.Is (.bool (uN L M)) w):=by
 have HA:=af ha;have HB:=af hb;clear ha hb
 by_cases hlen:L.length=M.length
 ·have HL:=af hlen;have hle:M.length<=L.length:=by omega
  have Cc:L.length<=M.length:=by omega
  have hlb:((L.length:Int) != (M.length:Int))=false:=by simp[hlen]
  clear hlen;go_enter Tryz.func37,Tryz.ntmps37;go_wp2;go_loopw [5] (fun i wr=>∃k:Nat,k<=L.length/\i=.int .i64 k/\Gr.Alike L M k/\Below w.heap.size w wr) (fun i _=>L.length-(intOf i).toNat)
  case atStart=>exact⟨0,Nat.zero_le _,rfl,Gz _ _,.refl _ _⟩
  case round=>
   obtain⟨k,hk,rfl,hA,hW⟩:=hrel;have A:=af hA;have HW:=af hW;clear hA
   by_cases hlt:k<L.length
   ·have hlm:k<M.length:=by omega
    obtain⟨b1,o1,rfl,h1⟩:=HA.out.at hlt;obtain⟨b2,o2,rfl,h2⟩:=HB.out.at hlm;have k1:=cell_later hW h1;have k2:=cell_later hW h2;clear h1 h2 hW
    by_cases he:L[k]=M[k]
    ·have A2:=af (Gy A.out hlt hlm he);rw[he]at k1;clear he;generalize M[k]=y at k1 k2;go_wp2;go_quiet (fail);go_wp2;go_roundw
     case rel=>exact⟨k+1,by omega,by go_num,A2.out,HW.out.trans ⟨rfl,rfl,rfl,Nat.le_refl _,fun _ _=>rfl⟩⟩
     case measure=>simp[intOf];omega
    ·have F:=af (show uN L M=false by simpa[uN]using Gx hlt hlm he);have E:=(show(L[k] != M[k])=true by simpa using he);clear he;generalize L[k]=x at k1 E;generalize M[k]=y at k2 E;go_wp2;go_quiet (fail);go_wp2;go_ret;exact⟨aU F.out,HW.out.trans ⟨rfl,rfl,rfl,Nat.le_refl _,fun _ _=>rfl⟩⟩
   ·have F:=af (show uN L M=true by simpa[uN]using GQ A.out HL.out hlt);clear hW;go_wp2;go_ret;exact⟨aU F.out,HW.out⟩
 ·have F:=af (show uN L M=false by simpa[uN]using GY hlen);have hlb:((L.length:Int) != (M.length:Int))=true:=by simpa using fun h=>hlen (by omega)
  clear hlen;go_enter Tryz.func37,Tryz.ntmps37;go_wp2;go_ret;exact⟨aU F.out,.refl _ _⟩
def Gw(w w':World):Prop:=∃n os,w'=Go.Sort.grow (w.drewN n) os
theorem Gw.below{w w1}(h:Gw w w1):Below w.heap.size w w1:=by
 obtain⟨n,os,rfl⟩:=h;refine⟨rfl,rfl,rfl,?_,fun k hk=>?_⟩
 ·rw[Go.Sort.size_grow];exact Nat.le_add_right _ _
 ·show(w.heap++os)[k]?=w.heap[k]?;rw[Array.getElem?_append_left hk]
theorem zWT{P}{f}{args}{w}{v}(h:Calls P f args w (fun e w'=>e=.returned v/\w'=w)):Calls P f args w (fun e w'=>e=.returned v/\Gw w w'):=h.mono fun e w' h=>⟨h.1,0,#[],by rw[Go.Sort.grow_empty];exact h.2⟩
end Pk
namespace Gr
theorem zOt(r q)(a b)(c d)(w)(ha:Sep.Reads a (aN r.2) w)(hb:Sep.Reads b (aN q.2) w)(hl:r.2.length<=17592186044416)(hm:q.2.length<=17592186044416):
  Calls Tryz.prog 155 #[.agg #[.int .i64 r.1,.slice a r.2.length c],.agg #[.int .i64 q.1,.slice b q.2.length d]] w (Is (.bool (iF r q)) w):=by
 have H:=af (fun w1 (k:Below w.heap.size w w1)=>zTD r.2 q.2 a b c d w1 (ha.below k (Nat.le_refl _)) (hb.below k (Nat.le_refl _)) hl hm);have X:=af (fun o1 o2=>step (boxed w o1) (boxed (w.alloc o1) o2));clear ha hb
 by_cases h1:r.1=q.1
 ·have E:=af (show iF r q=jw r.2 q.2 by simp[iF,h1,jw]);rw[h1];clear h1;go_enter Tryz.func155,Tryz.ntmps155;go_wp2_with (go_at_call 177;refine(H.out _ (X.out _ _)).mono ?_;rintro e w1 ⟨rfl,rfl⟩);go_ret;exact⟨aU E.out,X.out _ _⟩
 ·have E:=af (show iF r q=false by simp[iF,h1]);have h2:(r.1==q.1)=false:=by simpa using h1
  clear h1;go_enter Tryz.func155,Tryz.ntmps155;go_wp2;go_ret;exact⟨aU E.out,X.out _ _⟩
theorem UA(r q)(a b)(c d)(w)(ha:Sep.Reads a (aN r.2) w)(hb:Sep.Reads b (aN q.2) w)(hl:r.2.length<=17592186044416)(hm:q.2.length<=17592186044416):
  Calls Tryz.prog 36 #[.agg #[.int .i64 r.1,.slice a r.2.length c],.agg #[.int .i64 q.1,.slice b q.2.length d]] w (Is (.bool (iF r q)) w):=by
 have H:=af (fun w1 (k:Below w.heap.size w w1)=>Hq r.2 q.2 a b c d w1 (ha.below k (Nat.le_refl _)) (hb.below k (Nat.le_refl _)) hl hm);have X:=af (fun o1 o2=>step (boxed w o1) (boxed (w.alloc o1) o2));clear ha hb
 by_cases h1:r.1=q.1
 ·have E:=af (show iF r q=jw r.2 q.2 by simp[iF,h1,jw]);rw[h1];clear h1;go_enter Tryz.func36,Tryz.ntmps36;go_wp2_with (go_at_call 35;refine(H.out _ (X.out _ _)).mono ?_;rintro e w1 ⟨rfl,hb⟩;have HB:=af (step (X.out _ _) hb);clear hb);go_ret;exact⟨aU E.out,HB.out⟩
 ·have E:=af (show iF r q=false by simp[iF,h1]);have h2:(r.1==q.1)=false:=by simpa using h1
  clear h1;go_enter Tryz.func36,Tryz.ntmps36;go_wp2;go_ret;exact⟨aU E.out,X.out _ _⟩
structure B2 (W:World) (h l:Sh) (G H:ai) (w:World):Prop where
 below:Below W.heap.size W w
 b1:oJ W.heap.size h G w
 b2:oJ (W.heap.size+1) l H w
