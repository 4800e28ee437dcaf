/- Proof. -/
import Derived.Test.YtegeamggbglneaaGreatDoorPk07
set_option maxHeartbeats 4000000
set_option maxRecDepth 100000
set_option linter.unusedVariables false
namespace Go.Proofs.YtegeamggbglneaaGreatDoor
open Go.RowKit Go.Maps
namespace Pk
open Gr (boxed)
theorem zY{α:Type}{X:List (List α)}{n}(h:∀r∈X,r.length<=n){i}(hi:i<X.length):X[i].length<=n:=h _ (List.getElem_mem hi)
theorem zIh(T:Tb)(aR:Option Addr)(cR:Nat)(aA:Option Addr)(cA:Nat)(aG:Option Addr)(cG:Nat)(w:World)(S:lF T)(x:Int×Int):
  Calls Tryz.prog 100 #[.agg (dI T aR cR aA cA aG cG),av x] w (Gr.Is (.bool (kQ T.acts.length T.rules.length x)) w):=by
 obtain⟨x1,x2⟩:=x;have b1:=boxed w (.cells (dI T aR cR aA cA aG cG) 26);have b2:=boxed (w.alloc (.cells (dI T aR cR aA cA aG cG) 26)) (.cells #[.int .i64 x1,.int .i64 x2] 57);have B2:=af (Gr.step b1 b2);obtain⟨z0,z1,z2,z3,z4⟩:=(sx (T:=T) (aR:=aR) (cR:=cR) (aA:=aA) (cA:=cA) (aG:=aG) (cG:=cG) w 26).went b2;have Y:=gJ (w.alloc (.cells (dI T aR cR aA cA aG cG) 26)) (.cells #[.int .i64 x1,.int .i64 x2] 57);rw[World.size_alloc]at Y;have y0:=aF Y (k:=0) (by simp);have y1:=aF Y (k:=1) (by simp);have h1:=S.rl;have h2:=S.al;have hw:IntKind.i64.wrap ((T.rules.length:Int)-1)=(T.rules.length:Int)-1:=by rw[IntKind.wrap_i64];omega
 clear b1 b2 Y S;unfold dI at*;go_enter Tryz.func100,Tryz.ntmps100;go_wp2
 all_goals
  go_ret;refine⟨Gr.aU ?_,B2.out⟩;go_light;unfold kQ;dsimp only;simp only[beq_iff_eq,beq_eq_false_iff_ne,ne_eq]at*
  try rw[hw]
  first|(rw[decide_eq_true_iff];omega)|(rw[decide_eq_false_iff_not];omega)|(rw[Bool.eq_iff_iff];simp only[decide_eq_true_eq,beq_iff_eq];omega)
theorem zHT(T:Tb)(aR:Option Addr)(cR:Nat)(aA:Option Addr)(cA:Nat)(aG:Option Addr)(cG:Nat)(w:World)(D:nW T aR cR aA cA aG cG w)(S:lF T):
  Calls Tryz.prog 70 #[.agg (dI T aR cR aA cA aG cG)] w (Gr.Is (.bool (pZ T)) w):=by
 have B1:=af (boxed w (.cells (dI T aR cR aA cA aG cG) 26));have Z1:=af (sx (T:=T) (aR:=aR) (cR:=cR) (aA:=aA) (cA:=cA) (aG:=aG) (cG:=cG) w 26);have RA:=af (fun w1 x=>zIh T aR cR aA cA aG cG w1 S x);have DD:=af (fun w1 (b:Below w.heap.size w w1)=>(D.went b).acts);have FT:=af (fun i (hi:i<T.acts.length) (e:mP T.acts.length T.rules.length T.terms T.acts[i]=false)=>(show pZ T=false from kq hi e));have FE:=af (fun i (h:(T.acts.take i).all (mP T.acts.length T.rules.length T.terms)=true) (hi:¬i<T.acts.length)=>(show pZ T=true from ku h hi));have HL:=af (fun i (hi:i<T.acts.length)=>zY S.ar hi);have hal:=S.al;have hrl:=S.rl;generalize pZ T=g at*;clear D S;obtain⟨z0,z1,z2,z3,z4⟩:=Z1.out;unfold dI at*;go_enter Tryz.func70,Tryz.ntmps70;go_wp2_with fail;generalize w.alloc (.cells #[.slice aR T.rules.length cR,.int .i64 T.terms,.int .i64 T.ah,.slice aA T.acts.length cA,.slice aG T.goto.length cG] 26)=w2 at*;clear z0 z1 z2 z3 z4;go_loopw [10] (fun v wr=>∃i:Nat,v=.int .i64 (i:Int)/\i<=T.acts.length/\(T.acts.take i).all (mP T.acts.length T.rules.length T.terms)=true/\Below w2.heap.size w2 wr) (fun v _=>T.acts.length-(intOf v).toNat)
 case atStart=>exact⟨0,rfl,Nat.zero_le _,nI _ _,.refl _ _⟩
 case round=>
  obtain⟨i,rfl,hi,hA,hB⟩:=hrel;have A:=af hA;have B:=af hB;clear hB hA
  by_cases hlt:i<T.acts.length
  ·have BW:=af (Gr.step B1.out B.out);obtain⟨b,o,ra,c,rfl,p0,p1,_,_⟩:=DD.out wr BW.out i hlt;obtain⟨z0,z1,z2,z3,z4⟩:=Z1.out.went B.out;have hil:(i:Int)<(T.acts.length:Int):=by omega
   have ed:=af (FT.out i hlt);have AS:=af (fun e=>nG A.out hlt e);have hlen:=HL.out i hlt;have PP:=af p1;clear p1;generalize T.acts[i]=row at*;have hw:IntKind.i64.wrap ((row.length:Int)-1)=(row.length:Int)-1:=by rw[IntKind.wrap_i64];omega
   by_cases hr:(row.length:Int)-1=T.terms
   ·have FX:=af (fun k (hk:k<row.length) (e:kQ T.acts.length T.rules.length row[k]=false)=>(show g=false from ed.out (by unfold mP;rw[kq hk e,Bool.and_false])));have AX:=af (fun k (h:(row.take k).all (kQ T.acts.length T.rules.length)=true) (hk:¬k<row.length)=>AS.out (by unfold mP;rw[ku h hk,Bool.and_true,decide_eq_true_eq];exact hr));go_wp2_with fail;generalize wr=w5 at*;clear z0 z1 z2 z3 z4 p0 ed AS;go_loopw [22] (fun v wz=>∃t:Nat,v=.int .i64 (t:Int)/\t<=row.length/\(row.take t).all (kQ T.acts.length T.rules.length)=true/\Below w5.heap.size w5 wz) (fun v _=>row.length-(intOf v).toNat)
    case atStart=>exact⟨0,rfl,Nat.zero_le _,nI _ _,.refl _ _⟩
    case round=>
     obtain⟨t,rfl,htl,hT,jm⟩:=hrel;have K:=af jm;have TT:=af hT;clear jm hT
     by_cases cx:t<row.length
     ·obtain⟨rb,ro,rfl,p0,p1⟩:=(PP.out.went K.out).at t cx;have nP:=af (FX.out t cx);have TS:=af (fun e=>nG TT.out cx e);generalize row[t]=x at*;obtain⟨x1,x2⟩:=x;dsimp only at p0 p1;have BN:=af (Gr.step K.out (boxed wr (.cells #[.int .i64 x1,.int .i64 x2] 57)));obtain⟨z0,z1,z2,z3,z4⟩:=Z1.out.went (Gr.step B.out BN.out);have xU:(t:Int)<(row.length:Int):=by omega
      have RX:=af (fun w1=>RA.out w1 (x1,x2));cases hok:kQ T.acts.length T.rules.length (x1,x2)with
      |true=>
       have T2:=af (TS.out hok);rw[hok]at RX;clear hok nP TS;go_wp2_with (go_at_call 100;refine(RX.out _).mono ?_;rintro e w6 ⟨rfl,fw⟩;have K6:=af (Gr.step BN.out fw);clear fw);go_roundw
       case rel=>exact⟨t+1,by go_num,by omega,T2.out,K6.out⟩
       case measure=>first|(simp[intOf];omega)|omega
      |false=>
       have F2:=af (nP.out hok);rw[hok]at RX;clear hok nP TS;go_wp2_with (go_at_call 100;refine(RX.out _).mono ?_;rintro e w6 ⟨rfl,fw⟩;have K6:=af (Gr.step BW.out (Gr.step BN.out fw));clear fw);go_ret;exact⟨Gr.aU F2.out,K6.out⟩
     ·obtain rfl:t=row.length:=by omega
      have A2:=af (AX.out _ TT.out (by omega));go_wp2_with fail;go_roundw
      case rel=>exact⟨i+1,by go_num,by omega,A2.out,Gr.step B.out K.out⟩
      case measure=>first|(simp[intOf];omega)|omega
   ·have F2:=af (ed.out (by unfold mP;rw[decide_eq_false hr];rfl));go_wp2_with fail;go_ret;exact⟨Gr.aU F2.out,BW.out⟩
  ·have F2:=af (FE.out i A.out hlt);obtain rfl:i=T.acts.length:=by omega
   go_wp2;go_ret;exact⟨Gr.aU F2.out,Gr.step B1.out B.out⟩
end Pk
namespace Pk
open Gr (boxed)
theorem zEY(T:Tb)(aR:Option Addr)(cR:Nat)(aA:Option Addr)(cA:Nat)(aG:Option Addr)(cG:Nat)(w:World)(D:nW T aR cR aA cA aG cG w)(S:lF T):
  Calls Tryz.prog 71 #[.agg (dI T aR cR aA cA aG cG)] w (Gr.Is (.bool (p9 T)) w):=by
 have B1:=af (boxed w (.cells (dI T aR cR aA cA aG cG) 26));have Z1:=af (sx (T:=T) (aR:=aR) (cR:=cR) (aA:=aA) (cA:=cA) (aG:=aG) (cG:=cG) w 26);have DD:=af (fun w1 (b:Below w.heap.size w w1)=>(D.went b).goto);have FT:=af (fun i (hi:i<T.goto.length) (e:fV T.acts.length T.ah T.goto[i]=false)=>(show p9 T=false from kq hi e));have FE:=af (fun i (h:(T.goto.take i).all (fV T.acts.length T.ah)=true) (hi:¬i<T.goto.length)=>(show p9 T=true from ku h hi));have HL:=af (fun i (hi:i<T.goto.length)=>zY S.gr hi);have hal:=S.al;have hgl:=S.gl;generalize p9 T=g at*;clear D S;obtain⟨z0,z1,z2,z3,z4⟩:=Z1.out;unfold dI at*;go_enter Tryz.func71,Tryz.ntmps71;go_wp2_with fail;generalize w.alloc (.cells #[.slice aR T.rules.length cR,.int .i64 T.terms,.int .i64 T.ah,.slice aA T.acts.length cA,.slice aG T.goto.length cG] 26)=w2 at*;clear z0 z1 z2 z3 z4;go_loopw [10] (fun v wr=>∃i:Nat,v=.int .i64 (i:Int)/\i<=T.goto.length/\(T.goto.take i).all (fV T.acts.length T.ah)=true/\Below w2.heap.size w2 wr) (fun v _=>T.goto.length-(intOf v).toNat)
 case atStart=>exact⟨0,rfl,Nat.zero_le _,nI _ _,.refl _ _⟩
 case round=>
  obtain⟨i,rfl,hi,hA,hB⟩:=hrel;have A:=af hA;have B:=af hB;clear hB hA
  by_cases hlt:i<T.goto.length
  ·have BW:=af (Gr.step B1.out B.out);obtain⟨b,o,ra,c,rfl,p0,p1,_,_⟩:=DD.out wr BW.out i hlt;obtain⟨z0,z1,z2,z3,z4⟩:=Z1.out.went B.out;have hil:(i:Int)<(T.goto.length:Int):=by omega
   have ed:=af (FT.out i hlt);have AS:=af (fun e=>nG A.out hlt e);have hlen:=HL.out i hlt;have PP:=af p1;clear p1;generalize T.goto[i]=row at*
   by_cases hr:(row.length:Int)=T.ah
   ·have FX:=af (fun k (hk:k<row.length) (e:nu T.acts.length row[k]=false)=>(show g=false from ed.out (by unfold fV;rw[kq hk e,Bool.and_false])));have AX:=af (fun k (h:(row.take k).all (nu T.acts.length)=true) (hk:¬k<row.length)=>AS.out (by unfold fV;rw[ku h hk,Bool.and_true,decide_eq_true_eq];exact hr));go_wp2_with fail;generalize wr=w5 at*;clear z0 z1 z2 z3 z4 p0 ed AS;go_loopw [21] (fun v wz=>∃t:Nat,v=.int .i64 (t:Int)/\t<=row.length/\(row.take t).all (nu T.acts.length)=true/\Below w5.heap.size w5 wz) (fun v _=>row.length-(intOf v).toNat)
    case atStart=>exact⟨0,rfl,Nat.zero_le _,nI _ _,.refl _ _⟩
    case round=>
     obtain⟨t,rfl,htl,hT,jm⟩:=hrel;have K:=af jm;have TT:=af hT;clear jm hT
     by_cases cx:t<row.length
     ·obtain⟨rb,ro,rfl,p0⟩:=(PP.out.went K.out).at cx;have nP:=af (FX.out t cx);have TS:=af (fun e=>nG TT.out cx e);generalize row[t]=x at*;obtain⟨z0,z1,z2,z3,z4⟩:=Z1.out.went (Gr.step B.out K.out);have xU:(t:Int)<(row.length:Int):=by omega
      by_cases hx1:x< -1
      ·have F2:=af (nP.out (decide_eq_false (by omega)));have K6:=af (Gr.step BW.out K.out);clear nP TS;go_wp2_with fail;go_ret;exact⟨Gr.aU F2.out,K6.out⟩
      ·by_cases hx2:(T.acts.length:Int)<=x
       ·have F2:=af (nP.out (decide_eq_false (by omega)));have K6:=af (Gr.step BW.out K.out);clear nP TS;go_wp2_with fail;go_ret;exact⟨Gr.aU F2.out,K6.out⟩
       ·have T2:=af (TS.out (decide_eq_true (by omega)));clear nP TS;go_wp2_with fail;go_roundw
        case rel=>exact⟨t+1,by go_num,by omega,T2.out,K.out⟩
        case measure=>first|(simp[intOf];omega)|omega
     ·obtain rfl:t=row.length:=by omega
      have A2:=af (AX.out _ TT.out (by omega));go_wp2_with fail;go_roundw
      case rel=>exact⟨i+1,by go_num,by omega,A2.out,Gr.step B.out K.out⟩
      case measure=>first|(simp[intOf];omega)|omega
   ·have F2:=af (ed.out (by unfold fV;rw[decide_eq_false hr];rfl));go_wp2_with fail;go_ret;exact⟨Gr.aU F2.out,BW.out⟩
  ·have F2:=af (FE.out i A.out hlt);obtain rfl:i=T.goto.length:=by omega
   go_wp2;go_ret;exact⟨Gr.aU F2.out,Gr.step B1.out B.out⟩
end Pk
namespace Pk
open Gr (Fits boxed)
theorem zGD(T:Tb)(aR:Option Addr)(cR:Nat)(aA:Option Addr)(cA:Nat)(aG:Option Addr)(cG:Nat)(w:World)(D:nW T aR cR aA cA aG cG w)(S:lF T)(h0:0<T.rules.length)(ht:0<=T.terms):
  Calls Tryz.prog 72 #[.agg (dI T aR cR aA cA aG cG)] w (Gr.Is (.bool (oG T)) w):=by
 have B1:=af (boxed w (.cells (dI T aR cR aA cA aG cG) 26));have Z1:=af (sx (T:=T) (aR:=aR) (cR:=cR) (aA:=aA) (cA:=cA) (aG:=aG) (cG:=cG) w 26);obtain⟨bR,oR,_,_,rfl,_⟩:=D.rules 0 h0;have DD:=af (fun w1 (b:Below w.heap.size w w1)=>(D.went b).rules);obtain⟨m,hm⟩:∃m,T.rules.length=m+1:=⟨T.rules.length-1,by omega⟩;have FT:=af (fun i (hi:i<m) (e:eV T.terms T.ah (T.rules[i]'(by rw[hm];omega))=false)=>(show oG T=false from kq (L:=T.rules.take (T.rules.length-1)) (i:=i) (by rw[List.length_take];omega) (by rw[List.getElem_take];exact e)));have FE:=af (fun i (h:((T.rules.take (T.rules.length-1)).take i).all (eV T.terms T.ah)=true) (hi:¬i<m)=>(show oG T=true from ku h (by rw[List.length_take];omega)));have ST:=af (fun i (h:((T.rules.take (T.rules.length-1)).take i).all (eV T.terms T.ah)=true) (hi:i<m) (e:eV T.terms T.ah (T.rules[i]'(by rw[hm];omega))=true)=>nG h (i:=i) (by rw[List.length_take];omega) (by rw[List.getElem_take];exact e));have Z0:=af (nI (eV T.terms T.ah) (T.rules.take (T.rules.length-1)));have HF:=af (fun i (hi:i<T.rules.length)=>D.fit.left _ (List.getElem_mem hi));obtain⟨Q,hQ⟩:∃Q,T.rules.take (T.rules.length-1)=Q:=⟨_,rfl⟩;rw[hQ]at FE ST Z0;clear hQ;generalize oG T=g at*;have hrl:=S.rl;have hc:=D.rc;have hw:IntKind.i64.wrap ((T.rules.length:Int)-1)=(m:Int):=by rw[IntKind.wrap_i64];omega
 have hc2:(m:Int)<=(cR:Int):=by omega
 have hc3:m<=cR:=by omega
 have hlI:(T.rules.length:Int)=(m:Int)+1:=by omega
 have hnf:=D.fit.n;clear D S;have ZQ:=af (fun w' (b:Below (w.alloc (.cells (dI T (some ⟨bR,oR,none⟩) cR aA cA aG cG) 26)).heap.size (w.alloc (.cells (dI T (some ⟨bR,oR,none⟩) cR aA cA aG cG) 26)) w')=>Z1.out.went b);unfold qo at Z1 ZQ;unfold dI at*;rw[hm]at B1 Z1⊢;simp only[hm]at ZQ;obtain⟨z0,z1,z2,z3,z4⟩:=Z1.out;go_enter Tryz.func72,Tryz.ntmps72;go_wp2_with fail;generalize w.alloc (.cells #[.slice (some ⟨bR,oR,none⟩) (m+1) cR,.int .i64 T.terms,.int .i64 T.ah,.slice aA T.acts.length cA,.slice aG T.goto.length cG] 26)=w2 at*;clear z0 z1 z2 z3 z4;go_loopw [13] (fun v wr=>∃i:Nat,v=.int .i64 (i:Int)/\i<=m/\(Q.take i).all (eV T.terms T.ah)=true/\Below w2.heap.size w2 wr) (fun v _=>m-(intOf v).toNat)
 case atStart=>exact⟨0,rfl,Nat.zero_le _,Z0.out,.refl _ _⟩
 case round=>
  obtain⟨i,rfl,hi,hA,hB⟩:=hrel;have A:=af hA;have B:=af hB;clear hB hA
  by_cases hlt:i<m
  ·have BW:=af (Gr.step B1.out B.out);obtain⟨b,o,a3,c3,e,p0,p1,_,_⟩:=DD.out wr BW.out i (by omega);simp only[Option.some.injEq,Addr.mk.injEq,and_true]at e;obtain⟨rfl,rfl⟩:=e;have hil:(i:Int)<(m:Int):=by omega
   have ed:=af (FT.out i hlt);have gG:=af (ST.out i A.out hlt);have hf:=HF.out i (by omega);generalize T.rules[i]=r at*;obtain⟨x,l⟩:=r;dsimp only at p0 p1 hf;have BN:=af (Gr.step B.out (boxed wr (.cells #[.int .i64 x,.slice a3 l.length c3] 55)));obtain⟨z0,z1,z2,z3,z4⟩:=ZQ.out _ BN.out;have BE:=af (Gr.step B1.out BN.out);unfold Fits at hf
   by_cases h1:x<=T.terms
   ·have F2:=af (ed.out (decide_eq_false (by dsimp only;omega)));clear ed gG;go_wp2_with fail;go_ret;exact⟨Gr.aU F2.out,BE.out⟩
   ·have h4:IntKind.i64.wrap (x-T.terms)=x-T.terms:=by rw[IntKind.wrap_i64];omega
    by_cases h5:T.ah<x-T.terms
    ·have F2:=af (ed.out (decide_eq_false (by dsimp only;omega)));clear ed gG;go_wp2_with fail;go_ret;exact⟨Gr.aU F2.out,BE.out⟩
    ·have S2:=af (gG.out (decide_eq_true (by dsimp only;omega)));clear ed gG;go_wp2_with fail;go_roundw
     case rel=>exact⟨i+1,by go_num,by omega,S2.out,BN.out⟩
     case measure=>first|(simp[intOf];omega)|omega
  ·have F2:=af (FE.out i A.out hlt);obtain rfl:i=m:=by omega
   go_wp2;go_ret;exact⟨Gr.aU F2.out,Gr.step B1.out B.out⟩
end Pk
namespace Pk
open Gr (boxed)
theorem zOi(T:Tb)(aR:Option Addr)(cR:Nat)(aA:Option Addr)(cA:Nat)(aG:Option Addr)(cG:Nat)(w:World)(D:nW T aR cR aA cA aG cG w)(S:lF T):
  Calls Tryz.prog 26 #[.agg (dI T aR cR aA cA aG cG)] w (Gr.Is (.bool (bo T)) w):=by
 have B1:=af (boxed w (.cells (dI T aR cR aA cA aG cG) 26));have Z1:=af (sx (T:=T) (aR:=aR) (cR:=cR) (aA:=aA) (cA:=cA) (aG:=aG) (cG:=cG) w 26);have R1:=af (fun w1 (b:Below w.heap.size w w1)=>zHT T aR cR aA cA aG cG w1 (D.went b) S);have R2:=af (fun w1 (b:Below w.heap.size w w1)=>zEY T aR cR aA cA aG cG w1 (D.went b) S);have R3:=af (fun(h0:0<T.rules.length) (ht:0<=T.terms) w1 (b:Below w.heap.size w w1)=>zGD T aR cR aA cA aG cG w1 (D.went b) S h0 ht);have RB:=af (show bo T=(sO T&&(pZ T&&(p9 T&&oG T)))from rfl);have hrl:=S.rl;have hal:=S.al;have hgl:=S.gl;generalize bo T=g at*;clear D S;obtain⟨z0,z1,z2,z3,z4⟩:=Z1.out;have bad:sO T=false->g=false:=fun h=>by rw[RB.out,h];rfl
 have HD:=af (fun(h:¬(0<T.rules.length/\0<T.acts.length/\T.goto.length=T.acts.length/\0<=T.terms/\0<=T.ah))=>bad (decide_eq_false h));clear bad
 by_cases h1:T.rules.length=0
 ·have F2:=af (HD.out (by omega));have g0:((T.rules.length:Int)==0)=true:=by rw[beq_iff_eq];omega
  clear h1;unfold dI at*;go_enter Tryz.func26,Tryz.ntmps26;go_wp2_with fail;go_ret;exact⟨Gr.aU F2.out,B1.out⟩
 have g0:((T.rules.length:Int)==0)=false:=by rw[beq_eq_false_iff_ne];omega
 by_cases h2:T.acts.length=0
 ·have F2:=af (HD.out (by omega));have g1:((T.acts.length:Int)==0)=true:=by rw[beq_iff_eq];omega
  clear h1 h2;unfold dI at*;go_enter Tryz.func26,Tryz.ntmps26;go_wp2_with fail;go_ret;exact⟨Gr.aU F2.out,B1.out⟩
 have g1:((T.acts.length:Int)==0)=false:=by rw[beq_eq_false_iff_ne];omega
 by_cases h3:T.goto.length=T.acts.length
 rotate_left
 ·have F2:=af (HD.out (by omega));have g2:((T.goto.length:Int) != (T.acts.length:Int))=true:=by rw[bne_iff_ne];omega
  clear h1 h2 h3;unfold dI at*;go_enter Tryz.func26,Tryz.ntmps26;go_wp2_with fail;go_ret;exact⟨Gr.aU F2.out,B1.out⟩
 have g2:((T.goto.length:Int) != (T.acts.length:Int))=false:=by rw[h3];simp
 have H3:=af h3;clear h3
 by_cases h4:T.terms<0
 ·have F2:=af (HD.out (by omega));unfold dI at*;go_enter Tryz.func26,Tryz.ntmps26;go_wp2_with fail;go_ret;exact⟨Gr.aU F2.out,B1.out⟩
 by_cases h5:T.ah<0
 ·have F2:=af (HD.out (by omega));unfold dI at*;go_enter Tryz.func26,Tryz.ntmps26;go_wp2_with fail;go_ret;exact⟨Gr.aU F2.out,B1.out⟩
 have RR:=af (R3.out (by omega) (by omega));have RC:=af (show g=(pZ T&&(p9 T&&oG T))by rw[RB.out,show sO T=true from decide_eq_true ⟨by omega,by omega,H3.out,by omega,by omega⟩];rfl);generalize pZ T=ga at*;generalize p9 T=gg at*;generalize oG T=gr at*;clear RB HD R3;unfold dI at*;go_enter Tryz.func26,Tryz.ntmps26;go_wp2_with fail;generalize w.alloc (.cells #[.slice aR T.rules.length cR,.int .i64 T.terms,.int .i64 T.ah,.slice aA T.acts.length cA,.slice aG T.goto.length cG] 26)=w2 at*;refine(R1.out _ B1.out).mono ?_;rintro e w3 ⟨rfl,hb3⟩;have B3:=af (Gr.step B1.out hb3);have Z3:=af (Z1.out.went hb3);clear z0 z1 z2 z3 z4 hb3 Z1 B1 R1;obtain⟨z0,z1,z2,z3,z4⟩:=Z3.out;cases ga with
 |false=>
  have F2:=af (show g=false by rw[RC.out];rfl);go_wp2_with fail;go_ret;exact⟨Gr.aU F2.out,B3.out⟩
 |true=>
  go_wp2_with fail;refine(R2.out _ B3.out).mono ?_;rintro e w4 ⟨rfl,hb4⟩;have B4:=af (Gr.step B3.out hb4);have Z4:=af (Z3.out.went hb4);clear z0 z1 z2 z3 z4 hb4 Z3 B3 R2;obtain⟨z0,z1,z2,z3,z4⟩:=Z4.out;cases gg with
  |false=>
   have F2:=af (show g=false by rw[RC.out];rfl);go_wp2_with fail;go_ret;exact⟨Gr.aU F2.out,B4.out⟩
  |true=>
   go_wp2_with fail;refine(RR.out _ B4.out).mono ?_;rintro e w5 ⟨rfl,fg⟩;have B5:=af (Gr.step B4.out fg);have F2:=af (show g=gr by rw[RC.out];rfl);clear fg;go_wp2;go_ret;exact⟨Gr.aU F2.out,B5.out⟩
end Pk
namespace Pk
open Gr (Fits cell_later boxed)
theorem zIx{c}(h:Cd c):0<=(fX c).1/\(fX c).1<=3/\0<=(fX c).2/\(fX c).2<16384:=by
 unfold Cd at h;unfold fX;split<;>dsimp only<;>omega
theorem zHQ(P:Pd)(aR:Option Addr)(cR:Nat)(aW:Option Addr)(cW:Nat)(aX:Option Addr)(cX:Nat)(aG:Option Addr)(cG:Nat)(aH:Option Addr)(cH:Nat)(w:World)(hw1:P.row.length<=17592186044416)(hr1:P.rules.length<=4398046511104)(c:Int)(hc:Cd c):
  Calls Tryz.prog 82 #[.agg (bU P aR cR aW cW aX cX aG cG aH cH),.int .u16 c] w (Gr.Is (.bool (ja P.row.length P.rules.length c)) w):=by
 have B1:=af (boxed w (.cells (bU P aR cR aW cW aX cX aG cG aH cH) 32));have Z1:=af (nJ (P:=P) (aR:=aR) (cR:=cR) (aW:=aW) (cW:=cW) (aX:=aX) (cX:=cX) (aG:=aG) (cG:=cG) (aH:=aH) (cH:=cH) w 32);have AC:=af (fun w1=>zK3 c hc w1);have hs:=zIx hc;have CO:=af (fun w1=>Tz (fX c) hs w1);have OC:=af (show ja P.row.length P.rules.length c=if(fX c).1=1 then decide ((fX c).2<(P.row.length:Int))else if(fX c).1=2 then decide ((fX c).2<(P.rules.length:Int)-1)else decide (ia (fX c)=c)from rfl);generalize ja P.row.length P.rules.length c=g at*;have hw:IntKind.i64.wrap ((P.rules.length:Int)-1)=(P.rules.length:Int)-1:=by rw[IntKind.wrap_i64];omega
 generalize ia (fX c)=cc at*;generalize fX c=x at*;obtain⟨k,n⟩:=x;dsimp only at OC hs;clear hs;obtain⟨z0,z1,z2,z3,z4,z5,z6⟩:=Z1.out;unfold bU at*;go_enter Tryz.func82,Tryz.ntmps82;go_wp2_with fail;generalize w.alloc (.cells #[.slice aR P.rules.length cR,.int .i64 P.terms,.int .i64 P.ah,.slice aW P.row.length cW,.slice aX P.rows.length cX,.slice aG P.bj.length cG,.slice aH P.aj.length cH] 32)=w2 at*;refine(AC.out _).mono ?_;rintro e w3 ⟨rfl,hb3⟩;have b4:=boxed w3 (.cells #[.int .i64 k,.int .i64 n] 57);have B4:=af (Gr.step B1.out (Gr.step hb3 b4));have Z4:=af (Z1.out.went (Gr.step hb3 b4));have Y4:=gJ w3 (.cells #[.int .i64 k,.int .i64 n] 57);have y0:=aF Y4 (k:=0) (by simp);have y1:=aF Y4 (k:=1) (by simp);simp only[List.getElem_toArray,List.getElem_cons_zero,List.getElem_cons_succ]at y0 y1;clear z0 z1 z2 z3 z4 z5 z6 hb3 b4 Z1 B1 Y4 AC;obtain⟨z0,z1,z2,z3,z4,z5,z6⟩:=Z4.out
 by_cases h1:k=1
 ·have G2:=af (show g=decide (n<(P.row.length:Int))by rw[OC.out,if_pos h1]);subst h1;clear OC CO;go_wp2_with fail;go_ret;exact⟨Gr.aU G2.out,B4.out⟩
 have hb1:(k==1)=false:=by rw[beq_eq_false_iff_ne];exact h1
 by_cases h2:k=2
 ·have G2:=af (show g=decide (n<(P.rules.length:Int)-1)by rw[OC.out,if_neg h1,if_pos h2]);subst h2;clear OC CO;go_wp2_with fail;go_ret;exact⟨Gr.aU G2.out,B4.out⟩
 have hb2:(k==2)=false:=by rw[beq_eq_false_iff_ne];exact h2
 have G2:=af (show g=decide (cc=c)by rw[OC.out,if_neg h1,if_neg h2]);clear OC;go_wp2_with fail;generalize w3.alloc (.cells #[.int .i64 k,.int .i64 n] 57)=w4 at*;refine(CO.out _).mono ?_;rintro e w5 ⟨rfl,fg⟩;have B5:=af (Gr.step B4.out fg);clear fg;go_wp2_with fail;go_ret;refine⟨Gr.aU ?_,B5.out⟩;rw[G2.out,Bool.eq_iff_iff,decide_eq_true_iff,beq_iff_eq]
theorem zOs(P:Pd)(aR:Option Addr)(cR:Nat)(aW:Option Addr)(cW:Nat)(aX:Option Addr)(cX:Nat)(aG:Option Addr)(cG:Nat)(aH:Option Addr)(cH b:Nat)(w:World)(Z:fK P aR cR aW cW aX cX aG cG aH cH b w)(ht:0<=P.terms)(x:Int)(l:List Int)(a:Option Addr)(c:Nat)(hx:x<=9223372036854775807):
  Calls Tryz.prog 79 #[.agg #[.int .i64 x,.slice a l.length c],.pointer (some ⟨b,0,none⟩)] w (Gr.Is (.bool (!eV P.terms P.ah (x,l))) w):=by
 have b1:=boxed w (.cells #[.int .i64 x,.slice a l.length c] 55);have B1:=af b1;obtain⟨z0,z1,z2,z3,z4,z5,z6⟩:=Z.went b1;clear b1 Z;have OL:=af (show eV P.terms P.ah (x,l)=decide (P.terms<x/\x-P.terms<=P.ah)from rfl);generalize eV P.terms P.ah (x,l)=g at*
 by_cases h1:x<=P.terms
 ·have G2:=af (show(!g)=true by rw[OL.out,decide_eq_false (by omega)];rfl);clear OL;go_enter Tryz.func79,Tryz.ntmps79;go_wp2_with fail;go_ret;exact⟨Gr.aU G2.out,B1.out⟩
 have hw:IntKind.i64.wrap (x-P.terms)=x-P.terms:=by rw[IntKind.wrap_i64];omega
 have G2:=af (show(!g)=decide (P.ah<x-P.terms)by
  rw[OL.out]
  by_cases h2:x-P.terms<=P.ah
  ·rw[decide_eq_true (by omega),decide_eq_false (by omega)];rfl
  ·rw[decide_eq_false (by omega),decide_eq_true (by omega)];rfl)
 clear OL;go_enter Tryz.func79,Tryz.ntmps79;go_wp2_with fail;go_ret;exact⟨Gr.aU G2.out,B1.out⟩
theorem zMx(P:Pd)(aR:Option Addr)(cR:Nat)(aW:Option Addr)(cW:Nat)(aX:Option Addr)(cX:Nat)(aG:Option Addr)(cG:Nat)(aH:Option Addr)(cH b:Nat)(w:World)(Z:fK P aR cR aW cW aX cX aG cG aH cH b w)(hw1:P.row.length<=17592186044416)(hr1:P.rules.length<=4398046511104)(c:Int)(hc:Cd c):
  Calls Tryz.prog 81 #[.int .u16 c,.pointer (some ⟨b,0,none⟩)] w (Gr.Is (.bool (!ja P.row.length P.rules.length c)) w):=by
 have RA:=af (fun w1=>zHQ P aR cR aW cW aX cX aG cG aH cH w1 hw1 hr1 c hc);generalize ja P.row.length P.rules.length c=g at*;obtain⟨z0,z1,z2,z3,z4,z5,z6⟩:=Z;unfold bU at*;go_enter Tryz.func81,Tryz.ntmps81;go_wp2_with fail;refine(RA.out _).mono ?_;rintro e w5 ⟨rfl,fg⟩;have B5:=af fg;clear fg;go_wp2_with fail;go_ret;exact⟨rfl,B5.out⟩
theorem zNJ(P:Pd)(aR:Option Addr)(cR:Nat)(aW:Option Addr)(cW:Nat)(aX:Option Addr)(cX:Nat)(aG:Option Addr)(cG:Nat)(aH:Option Addr)(cH b:Nat)(w:World)(Z:fK P aR cR aW cW aX cX aG cG aH cH b w)(hw1:P.row.length<=17592186044416)(c:Int)(hc:Cd c):
  Calls Tryz.prog 83 #[.int .u16 c,.pointer (some ⟨b,0,none⟩)] w (Gr.Is (.bool (!jE P.row.length c)) w):=by
 have TA:=af (fun w1=>zWT (zMC c hc w1))
 have G2:=af (show(!jE P.row.length c)=decide ((P.row.length:Int)<=jL c)by
  unfold jE
  by_cases h2:jL c<(P.row.length:Int)
  ·rw[decide_eq_true h2,decide_eq_false (by omega)];rfl
  ·rw[decide_eq_false h2,decide_eq_true (by omega)];rfl)
 generalize (!jE P.row.length c)=g at*;generalize jL c=x at*;have mixed:Tryz.prog.follows .mixedOrders=true:=by kernel_rfl
 obtain⟨z0,z1,z2,z3,z4,z5,z6⟩:=Z;have JV:∀m os,Gw w (Go.Sort.grow (w.drewN m) os):=fun m os=>⟨m,os,rfl⟩
 have k3:∀m os,(Go.Sort.grow (w.drewN m) os).cell? ⟨b,3,none⟩=some (.slice aW P.row.length cW):=fun m os=>cell_later (JV m os).below z3
 have TAG:=af (fun m os=>TA.out (Go.Sort.grow (w.drewN m) os));go_enter Tryz.func83,Tryz.ntmps83;go_wp2_with fail;refine wp_region_quiet_grown (by assumption) (by kernel_rfl) ?_
 repeat(first|go_big_quiet_skip|(go_big_quiet_want;go_big_quiet_op;first|go_big_quiet_on|go_big_quiet_call (first|(go_at_call 45;refine Calls.grown_of (TAG.out _ _))))|quiet_step (first|(go_at_call 45;refine Calls.grown_of (TAG.out _ _))))
 refine wpQuiet_nil ?_;intro _ hw';obtain⟨⟨nq,osq⟩,hw''⟩:=hw';subst hw'';have BE:=af (JV nq osq).below;clear JV k3 TAG;generalize Go.Sort.grow (w.drewN nq) osq=w4 at*;go_wp2_with fail;go_ret;exact⟨Gr.aU G2.out,BE.out⟩
def wY(b:Bool)(w:World)(e:Ending)(w':World):Prop:=∃z:Int,e=.returned (.int .i64 z)/\decide (0<=z)= !b/\Below w.heap.size w w'
theorem zJJ(P:Pd)(aR:Option Addr)(cR:Nat)(aW:Option Addr)(cW:Nat)(aX:Option Addr)(cX:Nat)(aG:Option Addr)(cG:Nat)(aH:Option Addr)(cH b:Nat)(w:World)(Z:fK P aR cR aW cW aX cX aG cG aH cH b w)(ht:0<=P.terms)(L:List (Int×List Int))(a:Option Addr)(c:Nat)(h:eZ a L w)(hl:L.length<=17592186044416)(hp:∀x∈L,Fits x.1):
  Calls Tryz.prog 101 #[.slice a L.length c,.func (.func 79) #[] #[.pointer (some ⟨b,0,none⟩)]] w (wY (L.all (eV P.terms P.ah)) w):=by
 have HR:=af (fun w1 (b:Below w.heap.size w w1)=>h.went b);have HZ:=af (fun w1 (b:Below w.heap.size w w1)=>Z.went b);have HP:=af hp;have FT:=af (fun i (hi:i<L.length) (e:eV P.terms P.ah L[i]=false)=>(show L.all (eV P.terms P.ah)=false from kq hi e));have FE:=af (fun i (h:(L.take i).all (eV P.terms P.ah)=true) (hi:¬i<L.length)=>(show L.all (eV P.terms P.ah)=true from ku h hi));have ST:=af (fun i (h:(L.take i).all (eV P.terms P.ah)=true) (hi:i<L.length) (e:eV P.terms P.ah L[i]=true)=>(show(L.take (i+1)).all (eV P.terms P.ah)=true from nG h hi e));have Z0:=af (nI (eV P.terms P.ah) L);generalize L.all (eV P.terms P.ah)=g at*;clear h Z hp;go_enter Tryz.func101,Tryz.ntmps101;go_wp2_with fail;go_loopw [8] (fun v wr=>∃i:Nat,v=.int .i64 (i:Int)/\i<=L.length/\(L.take i).all (eV P.terms P.ah)=true/\Below w.heap.size w wr) (fun v _=>L.length-(intOf v).toNat)
 case atStart=>exact⟨0,rfl,Nat.zero_le _,Z0.out,.refl _ _⟩
 case round=>
  obtain⟨i,rfl,hi,hA,hB⟩:=hrel;have A:=af hA;have B:=af hB;clear hA hB
  by_cases hlt:i<L.length
  ·obtain⟨rb,ro,ra,rc,rfl,p0,p1,_,_⟩:=HR.out wr B.out i hlt;have ed:=af (FT.out i hlt);have gG:=af (ST.out i A.out hlt);have hx:=HP.out _ (List.getElem_mem hlt);generalize L[i]=x at*;obtain⟨y,l⟩:=x;dsimp only at p0 p1 hx;unfold Fits at hx;have hil:(i:Int)<(L.length:Int):=by omega
   have CL:=af (fun w1 (bb:Below w.heap.size w w1)=>zOs P aR cR aW cW aX cX aG cG aH cH b w1 (HZ.out w1 bb) ht y l ra rc hx.2);cases hok:eV P.terms P.ah (y,l)with
   |true=>
    have S2:=af (gG.out hok);rw[hok]at CL;clear hok ed gG hx;go_wp2_with fail;refine(CL.out _ B.out).mono ?_;rintro e w3 ⟨rfl,hb3⟩;have B3:=af (Gr.step B.out hb3);clear hb3;go_wp2_with fail;go_roundw
    case rel=>exact⟨i+1,by go_num,by omega,S2.out,B3.out⟩
    case measure=>first|(simp[intOf];omega)|omega
   |false=>
    have F2:=af (ed.out hok);rw[hok]at CL;clear hok ed gG hx;go_wp2_with fail;refine(CL.out _ B.out).mono ?_;rintro e w3 ⟨rfl,hb3⟩;have B3:=af (Gr.step B.out hb3);clear hb3;go_wp2_with fail;go_ret;exact⟨(i:Int),rfl,by rw[F2.out,decide_eq_true (by omega)];rfl,B3.out⟩
  ·have F2:=af (FE.out i A.out hlt);obtain rfl:i=L.length:=by omega
   go_wp2;go_ret;exact⟨-1,rfl,by rw[F2.out];decide,B.out⟩
theorem zF5(P)(aR)(cR)(aW)(cW)(aX)(cX)(aG)(cG)(aH)(cH b)(w)(Z:fK P aR cR aW cW aX cX aG cG aH cH b w)(ht:0<=P.terms)(L)(a)(c)(h:eZ a L w)(hl:L.length<=17592186044416)(hp:∀x∈L,Fits x.1):
  Calls Tryz.prog 78 #[.slice a L.length c,.func (.func 79) #[] #[.pointer (some ⟨b,0,none⟩)]] w (Gr.Is (.bool (!L.all (eV P.terms P.ah))) w):=by
 have IX:=af (zJJ P aR cR aW cW aX cX aG cG aH cH b w Z ht L a c h hl hp);generalize (L.all (eV P.terms P.ah))=g at*;clear h Z hp;go_enter Tryz.func78,Tryz.ntmps78;go_wp2_with fail;refine IX.out.mono ?_;rintro e w3 ⟨z,rfl,hz,hb3⟩;have B3:=af hb3;have HZ:=af hz;clear hb3 hz;go_wp2_with fail;go_ret;exact⟨Gr.aU HZ.out.symm,B3.out⟩
theorem zJH(P:Pd)(aR:Option Addr)(cR:Nat)(aW:Option Addr)(cW:Nat)(aX:Option Addr)(cX:Nat)(aG:Option Addr)(cG:Nat)(aH:Option Addr)(cH b:Nat)(w:World)(Z:fK P aR cR aW cW aX cX aG cG aH cH b w)(hw1:P.row.length<=17592186044416)(hr1:P.rules.length<=4398046511104)(L:List Int)(a:Option Addr)(c:Nat)(h:fy a L w)(hl:L.length<=17592186044416)(hp:∀x∈L,Cd x):
  Calls Tryz.prog 102 #[.slice a L.length c,.func (.func 81) #[] #[.pointer (some ⟨b,0,none⟩)]] w (wY (L.all (ja P.row.length P.rules.length)) w):=by
 have HR:=af (fun w1 (b:Below w.heap.size w w1)=>h.went b);have HZ:=af (fun w1 (b:Below w.heap.size w w1)=>Z.went b);have HP:=af hp;have FT:=af (fun i (hi:i<L.length) (e:ja P.row.length P.rules.length L[i]=false)=>(show L.all (ja P.row.length P.rules.length)=false from kq hi e));have FE:=af (fun i (h:(L.take i).all (ja P.row.length P.rules.length)=true) (hi:¬i<L.length)=>(show L.all (ja P.row.length P.rules.length)=true from ku h hi));have ST:=af (fun i (h:(L.take i).all (ja P.row.length P.rules.length)=true) (hi:i<L.length) (e:ja P.row.length P.rules.length L[i]=true)=>(show(L.take (i+1)).all (ja P.row.length P.rules.length)=true from nG h hi e));have Z0:=af (nI (ja P.row.length P.rules.length) L);generalize L.all (ja P.row.length P.rules.length)=g at*;clear h Z hp;go_enter Tryz.func102,Tryz.ntmps102;go_wp2_with fail;go_loopw [8] (fun v wr=>∃i:Nat,v=.int .i64 (i:Int)/\i<=L.length/\(L.take i).all (ja P.row.length P.rules.length)=true/\Below w.heap.size w wr) (fun v _=>L.length-(intOf v).toNat)
 case atStart=>exact⟨0,rfl,Nat.zero_le _,Z0.out,.refl _ _⟩
 case round=>
  obtain⟨i,rfl,hi,hA,hB⟩:=hrel;have A:=af hA;have B:=af hB;clear hA hB
  by_cases hlt:i<L.length
  ·obtain⟨rb,ro,rfl,p0⟩:=(HR.out wr B.out).at hlt;have ed:=af (FT.out i hlt);have gG:=af (ST.out i A.out hlt);have hx:=HP.out _ (List.getElem_mem hlt);generalize L[i]=x at*
   skip
   have hil:(i:Int)<(L.length:Int):=by omega
   have CL:=af (fun w1 (bb:Below w.heap.size w w1)=>zMx P aR cR aW cW aX cX aG cG aH cH b w1 (HZ.out w1 bb) hw1 hr1 x hx);cases hok:ja P.row.length P.rules.length x with
   |true=>
    have S2:=af (gG.out hok);rw[hok]at CL;clear hok ed gG hx;go_wp2_with fail;refine(CL.out _ B.out).mono ?_;rintro e w3 ⟨rfl,hb3⟩;have B3:=af (Gr.step B.out hb3);clear hb3;go_wp2_with fail;go_roundw
    case rel=>exact⟨i+1,by go_num,by omega,S2.out,B3.out⟩
    case measure=>first|(simp[intOf];omega)|omega
   |false=>
    have F2:=af (ed.out hok);rw[hok]at CL;clear hok ed gG hx;go_wp2_with fail;refine(CL.out _ B.out).mono ?_;rintro e w3 ⟨rfl,hb3⟩;have B3:=af (Gr.step B.out hb3);clear hb3;go_wp2_with fail;go_ret;exact⟨(i:Int),rfl,by rw[F2.out,decide_eq_true (by omega)];rfl,B3.out⟩
  ·have F2:=af (FE.out i A.out hlt);obtain rfl:i=L.length:=by omega
   go_wp2;go_ret;exact⟨-1,rfl,by rw[F2.out];decide,B.out⟩
theorem zF3(P)(aR)(cR)(aW)(cW)(aX)(cX)(aG)(cG)(aH)(cH b)(w)(Z:fK P aR cR aW cW aX cX aG cG aH cH b w)(hw1:P.row.length<=17592186044416)(hr1:P.rules.length<=4398046511104)(L)(a)(c)(h:fy a L w)(hl:L.length<=17592186044416)(hp:∀x∈L,Cd x):
  Calls Tryz.prog 80 #[.slice a L.length c,.func (.func 81) #[] #[.pointer (some ⟨b,0,none⟩)]] w (Gr.Is (.bool (!L.all (ja P.row.length P.rules.length))) w):=by
 have IX:=af (zJH P aR cR aW cW aX cX aG cG aH cH b w Z hw1 hr1 L a c h hl hp);generalize (L.all (ja P.row.length P.rules.length))=g at*;clear h Z hp;go_enter Tryz.func80,Tryz.ntmps80;go_wp2_with fail;refine IX.out.mono ?_;rintro e w3 ⟨z,rfl,hz,hb3⟩;have B3:=af hb3;have HZ:=af hz;clear hb3 hz;go_wp2_with fail;go_ret;exact⟨Gr.aU HZ.out.symm,B3.out⟩
theorem zJI(P:Pd)(aR:Option Addr)(cR:Nat)(aW:Option Addr)(cW:Nat)(aX:Option Addr)(cX:Nat)(aG:Option Addr)(cG:Nat)(aH:Option Addr)(cH b:Nat)(w:World)(Z:fK P aR cR aW cW aX cX aG cG aH cH b w)(hw1:P.row.length<=17592186044416)(L:List Int)(a:Option Addr)(c:Nat)(h:fy a L w)(hl:L.length<=17592186044416)(hp:∀x∈L,Cd x):
  Calls Tryz.prog 102 #[.slice a L.length c,.func (.func 83) #[] #[.pointer (some ⟨b,0,none⟩)]] w (wY (L.all (jE P.row.length)) w):=by
 have HR:=af (fun w1 (b:Below w.heap.size w w1)=>h.went b);have HZ:=af (fun w1 (b:Below w.heap.size w w1)=>Z.went b);have HP:=af hp;have FT:=af (fun i (hi:i<L.length) (e:jE P.row.length L[i]=false)=>(show L.all (jE P.row.length)=false from kq hi e));have FE:=af (fun i (h:(L.take i).all (jE P.row.length)=true) (hi:¬i<L.length)=>(show L.all (jE P.row.length)=true from ku h hi));have ST:=af (fun i (h:(L.take i).all (jE P.row.length)=true) (hi:i<L.length) (e:jE P.row.length L[i]=true)=>(show(L.take (i+1)).all (jE P.row.length)=true from nG h hi e));have Z0:=af (nI (jE P.row.length) L);generalize L.all (jE P.row.length)=g at*;clear h Z hp;go_enter Tryz.func102,Tryz.ntmps102;go_wp2_with fail;go_loopw [8] (fun v wr=>∃i:Nat,v=.int .i64 (i:Int)/\i<=L.length/\(L.take i).all (jE P.row.length)=true/\Below w.heap.size w wr) (fun v _=>L.length-(intOf v).toNat)
 case atStart=>exact⟨0,rfl,Nat.zero_le _,Z0.out,.refl _ _⟩
 case round=>
  obtain⟨i,rfl,hi,hA,hB⟩:=hrel;have A:=af hA;have B:=af hB;clear hA hB
  by_cases hlt:i<L.length
  ·obtain⟨rb,ro,rfl,p0⟩:=(HR.out wr B.out).at hlt;have ed:=af (FT.out i hlt);have gG:=af (ST.out i A.out hlt);have hx:=HP.out _ (List.getElem_mem hlt);generalize L[i]=x at*
   skip
   have hil:(i:Int)<(L.length:Int):=by omega
   have CL:=af (fun w1 (bb:Below w.heap.size w w1)=>zNJ P aR cR aW cW aX cX aG cG aH cH b w1 (HZ.out w1 bb) hw1 x hx);cases hok:jE P.row.length x with
   |true=>
    have S2:=af (gG.out hok);rw[hok]at CL;clear hok ed gG hx;go_wp2_with fail;refine(CL.out _ B.out).mono ?_;rintro e w3 ⟨rfl,hb3⟩;have B3:=af (Gr.step B.out hb3);clear hb3;go_wp2_with fail;go_roundw
    case rel=>exact⟨i+1,by go_num,by omega,S2.out,B3.out⟩
    case measure=>first|(simp[intOf];omega)|omega
   |false=>
    have F2:=af (ed.out hok);rw[hok]at CL;clear hok ed gG hx;go_wp2_with fail;refine(CL.out _ B.out).mono ?_;rintro e w3 ⟨rfl,hb3⟩;have B3:=af (Gr.step B.out hb3);clear hb3;go_wp2_with fail;go_ret;exact⟨(i:Int),rfl,by rw[F2.out,decide_eq_true (by omega)];rfl,B3.out⟩
  ·have F2:=af (FE.out i A.out hlt);obtain rfl:i=L.length:=by omega
   go_wp2;go_ret;exact⟨-1,rfl,by rw[F2.out];decide,B.out⟩
theorem zF4(P)(aR)(cR)(aW)(cW)(aX)(cX)(aG)(cG)(aH)(cH b)(w)(Z:fK P aR cR aW cW aX cX aG cG aH cH b w)(hw1:P.row.length<=17592186044416)(L)(a)(c)(h:fy a L w)(hl:L.length<=17592186044416)(hp:∀x∈L,Cd x):
  Calls Tryz.prog 80 #[.slice a L.length c,.func (.func 83) #[] #[.pointer (some ⟨b,0,none⟩)]] w (Gr.Is (.bool (!L.all (jE P.row.length))) w):=by
 have IX:=af (zJI P aR cR aW cW aX cX aG cG aH cH b w Z hw1 L a c h hl hp);generalize (L.all (jE P.row.length))=g at*;clear h Z hp;go_enter Tryz.func80,Tryz.ntmps80;go_wp2_with fail;refine IX.out.mono ?_;rintro e w3 ⟨z,rfl,hz,hb3⟩;have B3:=af hb3;have HZ:=af hz;clear hb3 hz;go_wp2_with fail;go_ret;exact⟨Gr.aU HZ.out.symm,B3.out⟩
