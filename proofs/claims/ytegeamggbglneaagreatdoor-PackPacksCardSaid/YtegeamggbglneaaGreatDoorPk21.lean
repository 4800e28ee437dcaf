/- A part of the proof. -/
import Derived.Test.YtegeamggbglneaaGreatDoorPk20
import Derived.Test.YtegeamggbglneaaGreatDoorPk14
import Derived.Shelf.SlicesG.SearchI
import Derived.Test.YtegeamggbglneaaGreatDoorActsLay
set_option maxHeartbeats 16000000
set_option maxRecDepth 100000
set_option linter.unusedVariables false
namespace Go.Proofs.YtegeamggbglneaaGreatDoor
namespace Pk
open Go.RowKit Go.Maps
open Gr (boxed)
theorem zEk(T:Tb)(aR:Option Addr)(cR:Nat)(aA:Option Addr)(cA:Nat)(aG:Option Addr)(cG:Nat)(w:World)(D:TAt T aR cR aA cA aG cG w)(S:TSm T):
  Calls Tryz.prog 71 #[.agg (tvs T aR cR aA cA aG cG)] w (Gr.Is (.bool (zEi T)) w):=by
 have B1:=zV7 (boxed w (.cells (tvs T aR cR aA cA aG cG) 26));have Z1:=zV7 (zAp (T:=T) (aR:=aR) (cR:=cR) (aA:=aA) (cA:=cA) (aG:=aG) (cG:=cG) w 26);have DD:=zV7 (fun w1 (b:Below w.heap.size w w1)=>(D.went b).goto);have FT:=zV7 (fun i (hi:i<T.goto.length) (e:okTo T.acts.length T.nons T.goto[i]=false)=>(show zEi T=false from zAc hi e));have FE:=zV7 (fun i (h:(T.goto.take i).all (okTo T.acts.length T.nons)=true) (hi:¬i<T.goto.length)=>(show zEi T=true from zAt h hi));have HL:=zV7 (fun i (hi:i<T.goto.length)=>zEI S.gr hi);have hal:=S.al;have hgl:=S.gl;generalize zEi T=g at*;clear D S;obtain⟨z0,z1,z2,z3,z4⟩:=Z1.out;unfold tvs at*;go_enter Tryz.func71,Tryz.ntmps71;go_wp2_with fail;generalize w.alloc (.cells #[.slice aR T.rules.length cR,.int .i64 T.terms,.int .i64 T.nons,.slice aA T.acts.length cA,.slice aG T.goto.length cG] 26)=w2 at*;clear z0 z1 z2 z3 z4;go_loopw [10] (fun v wr=>∃i:Nat,v=.int .i64 (i:Int)/\i<=T.goto.length/\(T.goto.take i).all (okTo T.acts.length T.nons)=true/\Below w2.heap.size w2 wr) (fun v _=>T.goto.length-(intOf v).toNat)
 case atStart=>exact⟨0,rfl,Nat.zero_le _,zAz _ _,.refl _ _⟩
 case round=>
  obtain⟨i,rfl,hi,hA,hB⟩:=hrel;have A:=zV7 hA;have B:=zV7 hB;clear hB hA
  by_cases hlt:i<T.goto.length
  ·have BW:=zV7 (Gr.step B1.out B.out);obtain⟨b,o,ra,c,rfl,p0,p1,_,_⟩:=DD.out wr BW.out i hlt;obtain⟨z0,z1,z2,z3,z4⟩:=Z1.out.went B.out;have hil:(i:Int)<(T.goto.length:Int):=by omega
   have FTi:=zV7 (FT.out i hlt);have AS:=zV7 (fun e=>zAy A.out hlt e);have hlen:=HL.out i hlt;have PP:=zV7 p1;clear p1;generalize T.goto[i]=row at*
   by_cases hr:(row.length:Int)=T.nons
   ·have FX:=zV7 (fun k (hk:k<row.length) (e:okT T.acts.length row[k]=false)=>(show g=false from FTi.out (by unfold okTo;rw[zAc hk e,Bool.and_false])));have AX:=zV7 (fun k (h:(row.take k).all (okT T.acts.length)=true) (hk:¬k<row.length)=>AS.out (by unfold okTo;rw[zAt h hk,Bool.and_true,decide_eq_true_eq];exact hr));go_wp2_with fail;generalize wr=w5 at*;clear z0 z1 z2 z3 z4 p0 FTi AS;go_loopw [21] (fun v wz=>∃t:Nat,v=.int .i64 (t:Int)/\t<=row.length/\(row.take t).all (okT T.acts.length)=true/\Below w5.heap.size w5 wz) (fun v _=>row.length-(intOf v).toNat)
    case atStart=>exact⟨0,rfl,Nat.zero_le _,zAz _ _,.refl _ _⟩
    case round=>
     obtain⟨t,rfl,htl,hT,hB2⟩:=hrel;have K:=zV7 hB2;have TT:=zV7 hT;clear hB2 hT
     by_cases hlt2:t<row.length
     ·obtain⟨rb,ro,rfl,p0⟩:=(PP.out.went K.out).at hlt2;have FXt:=zV7 (FX.out t hlt2);have TS:=zV7 (fun e=>zAy TT.out hlt2 e);generalize row[t]=x at*;obtain⟨z0,z1,z2,z3,z4⟩:=Z1.out.went (Gr.step B.out K.out);have htl2:(t:Int)<(row.length:Int):=by omega
      by_cases hx1:x< -1
      ·have F2:=zV7 (FXt.out (decide_eq_false (by omega)));have K6:=zV7 (Gr.step BW.out K.out);clear FXt TS;go_wp2_with fail;go_ret;exact⟨Gr.zAD F2.out,K6.out⟩
      ·by_cases hx2:(T.acts.length:Int)<=x
       ·have F2:=zV7 (FXt.out (decide_eq_false (by omega)));have K6:=zV7 (Gr.step BW.out K.out);clear FXt TS;go_wp2_with fail;go_ret;exact⟨Gr.zAD F2.out,K6.out⟩
       ·have T2:=zV7 (TS.out (decide_eq_true (by omega)));clear FXt TS;go_wp2_with fail;go_roundw
        case rel=>exact⟨t+1,by go_num,by omega,T2.out,K.out⟩
        case measure=>first|(simp[intOf];omega)|omega
     ·obtain rfl:t=row.length:=by omega
      have A2:=zV7 (AX.out _ TT.out (by omega));go_wp2_with fail;go_roundw
      case rel=>exact⟨i+1,by go_num,by omega,A2.out,Gr.step B.out K.out⟩
      case measure=>first|(simp[intOf];omega)|omega
   ·have F2:=zV7 (FTi.out (by unfold okTo;rw[decide_eq_false hr];rfl));go_wp2_with fail;go_ret;exact⟨Gr.zAD F2.out,BW.out⟩
  ·have F2:=zV7 (FE.out i A.out hlt);obtain rfl:i=T.goto.length:=by omega
   go_wp2;go_ret;exact⟨Gr.zAD F2.out,Gr.step B1.out B.out⟩
end Pk
namespace Pk
open Go.RowKit Go.Maps
open Gr (Fits boxed)
theorem zF8(T:Tb)(aR:Option Addr)(cR:Nat)(aA:Option Addr)(cA:Nat)(aG:Option Addr)(cG:Nat)(w:World)(D:TAt T aR cR aA cA aG cG w)(S:TSm T)(h0:0<T.rules.length)(ht:0<=T.terms):
  Calls Tryz.prog 72 #[.agg (tvs T aR cR aA cA aG cG)] w (Gr.Is (.bool (zB4 T)) w):=by
 have B1:=zV7 (boxed w (.cells (tvs T aR cR aA cA aG cG) 26));have Z1:=zV7 (zAp (T:=T) (aR:=aR) (cR:=cR) (aA:=aA) (cA:=cA) (aG:=aG) (cG:=cG) w 26);obtain⟨bR,oR,_,_,rfl,_⟩:=D.rules 0 h0;have DD:=zV7 (fun w1 (b:Below w.heap.size w w1)=>(D.went b).rules);obtain⟨m,hm⟩:∃m,T.rules.length=m+1:=⟨T.rules.length-1,by omega⟩;have FT:=zV7 (fun i (hi:i<m) (e:okL T.terms T.nons (T.rules[i]'(by rw[hm];omega))=false)=>(show zB4 T=false from zAc (L:=T.rules.take (T.rules.length-1)) (i:=i) (by rw[List.length_take];omega) (by rw[List.getElem_take];exact e)));have FE:=zV7 (fun i (h:((T.rules.take (T.rules.length-1)).take i).all (okL T.terms T.nons)=true) (hi:¬i<m)=>(show zB4 T=true from zAt h (by rw[List.length_take];omega)));have ST:=zV7 (fun i (h:((T.rules.take (T.rules.length-1)).take i).all (okL T.terms T.nons)=true) (hi:i<m) (e:okL T.terms T.nons (T.rules[i]'(by rw[hm];omega))=true)=>zAy h (i:=i) (by rw[List.length_take];omega) (by rw[List.getElem_take];exact e));have Z0:=zV7 (zAz (okL T.terms T.nons) (T.rules.take (T.rules.length-1)));have HF:=zV7 (fun i (hi:i<T.rules.length)=>D.fit.left _ (List.getElem_mem hi));obtain⟨Q,hQ⟩:∃Q,T.rules.take (T.rules.length-1)=Q:=⟨_,rfl⟩;rw[hQ]at FE ST Z0;clear hQ;generalize zB4 T=g at*;have hrl:=S.rl;have hc:=D.rc;have hw:IntKind.i64.wrap ((T.rules.length:Int)-1)=(m:Int):=by rw[IntKind.wrap_i64];omega
 have hc2:(m:Int)<=(cR:Int):=by omega
 have hc3:m<=cR:=by omega
 have hlI:(T.rules.length:Int)=(m:Int)+1:=by omega
 have hnf:=D.fit.n;clear D S;have ZQ:=zV7 (fun w' (b:Below (w.alloc (.cells (tvs T (some ⟨bR,oR,none⟩) cR aA cA aG cG) 26)).heap.size (w.alloc (.cells (tvs T (some ⟨bR,oR,none⟩) cR aA cA aG cG) 26)) w')=>Z1.out.went b);unfold TBox at Z1 ZQ;unfold tvs at*;rw[hm]at B1 Z1⊢;simp only[hm]at ZQ;obtain⟨z0,z1,z2,z3,z4⟩:=Z1.out;go_enter Tryz.func72,Tryz.ntmps72;go_wp2_with fail;generalize w.alloc (.cells #[.slice (some ⟨bR,oR,none⟩) (m+1) cR,.int .i64 T.terms,.int .i64 T.nons,.slice aA T.acts.length cA,.slice aG T.goto.length cG] 26)=w2 at*;clear z0 z1 z2 z3 z4;go_loopw [13] (fun v wr=>∃i:Nat,v=.int .i64 (i:Int)/\i<=m/\(Q.take i).all (okL T.terms T.nons)=true/\Below w2.heap.size w2 wr) (fun v _=>m-(intOf v).toNat)
 case atStart=>exact⟨0,rfl,Nat.zero_le _,Z0.out,.refl _ _⟩
 case round=>
  obtain⟨i,rfl,hi,hA,hB⟩:=hrel;have A:=zV7 hA;have B:=zV7 hB;clear hB hA
  by_cases hlt:i<m
  ·have BW:=zV7 (Gr.step B1.out B.out);obtain⟨b,o,a3,c3,e,p0,p1,_,_⟩:=DD.out wr BW.out i (by omega);simp only[Option.some.injEq,Addr.mk.injEq,and_true]at e;obtain⟨rfl,rfl⟩:=e;have hil:(i:Int)<(m:Int):=by omega
   have FTi:=zV7 (FT.out i hlt);have STi:=zV7 (ST.out i A.out hlt);have hf:=HF.out i (by omega);generalize T.rules[i]=r at*;obtain⟨x,l⟩:=r;dsimp only at p0 p1 hf;have BN:=zV7 (Gr.step B.out (boxed wr (.cells #[.int .i64 x,.slice a3 l.length c3] 55)));obtain⟨z0,z1,z2,z3,z4⟩:=ZQ.out _ BN.out;have BE:=zV7 (Gr.step B1.out BN.out);unfold Fits at hf
   by_cases h1:x<=T.terms
   ·have F2:=zV7 (FTi.out (decide_eq_false (by dsimp only;omega)));clear FTi STi;go_wp2_with fail;go_ret;exact⟨Gr.zAD F2.out,BE.out⟩
   ·have h4:IntKind.i64.wrap (x-T.terms)=x-T.terms:=by rw[IntKind.wrap_i64];omega
    by_cases h5:T.nons<x-T.terms
    ·have F2:=zV7 (FTi.out (decide_eq_false (by dsimp only;omega)));clear FTi STi;go_wp2_with fail;go_ret;exact⟨Gr.zAD F2.out,BE.out⟩
    ·have S2:=zV7 (STi.out (decide_eq_true (by dsimp only;omega)));clear FTi STi;go_wp2_with fail;go_roundw
     case rel=>exact⟨i+1,by go_num,by omega,S2.out,BN.out⟩
     case measure=>first|(simp[intOf];omega)|omega
  ·have F2:=zV7 (FE.out i A.out hlt);obtain rfl:i=m:=by omega
   go_wp2;go_ret;exact⟨Gr.zAD F2.out,Gr.step B1.out B.out⟩
end Pk
namespace Pk
open Go.RowKit Go.Maps
open Gr (boxed)
theorem zIV(T:Tb)(aR:Option Addr)(cR:Nat)(aA:Option Addr)(cA:Nat)(aG:Option Addr)(cG:Nat)(w:World)(D:TAt T aR cR aA cA aG cG w)(S:TSm T):
  Calls Tryz.prog 26 #[.agg (tvs T aR cR aA cA aG cG)] w (Gr.Is (.bool (zAI T)) w):=by
 have B1:=zV7 (boxed w (.cells (tvs T aR cR aA cA aG cG) 26));have Z1:=zV7 (zAp (T:=T) (aR:=aR) (cR:=cR) (aA:=aA) (cA:=cA) (aG:=aG) (cG:=cG) w 26);have R1:=zV7 (fun w1 (b:Below w.heap.size w w1)=>zHK T aR cR aA cA aG cG w1 (D.went b) S);have R2:=zV7 (fun w1 (b:Below w.heap.size w w1)=>zEk T aR cR aA cA aG cG w1 (D.went b) S);have R3:=zV7 (fun(h0:0<T.rules.length) (ht:0<=T.terms) w1 (b:Below w.heap.size w w1)=>zF8 T aR cR aA cA aG cG w1 (D.went b) S h0 ht);have RB:=zV7 (show zAI T=(zF3 T&&(zEg T&&(zEi T&&zB4 T)))from rfl);have hrl:=S.rl;have hal:=S.al;have hgl:=S.gl;generalize zAI T=g at*;clear D S;obtain⟨z0,z1,z2,z3,z4⟩:=Z1.out;have bad:zF3 T=false->g=false:=fun h=>by rw[RB.out,h];rfl
 have HD:=zV7 (fun(h:¬(0<T.rules.length/\0<T.acts.length/\T.goto.length=T.acts.length/\0<=T.terms/\0<=T.nons))=>bad (decide_eq_false h));clear bad
 by_cases h1:T.rules.length=0
 ·have F2:=zV7 (HD.out (by omega));have g0:((T.rules.length:Int)==0)=true:=by rw[beq_iff_eq];omega
  clear h1;unfold tvs at*;go_enter Tryz.func26,Tryz.ntmps26;go_wp2_with fail;go_ret;exact⟨Gr.zAD F2.out,B1.out⟩
 have g0:((T.rules.length:Int)==0)=false:=by rw[beq_eq_false_iff_ne];omega
 by_cases h2:T.acts.length=0
 ·have F2:=zV7 (HD.out (by omega));have g1:((T.acts.length:Int)==0)=true:=by rw[beq_iff_eq];omega
  clear h1 h2;unfold tvs at*;go_enter Tryz.func26,Tryz.ntmps26;go_wp2_with fail;go_ret;exact⟨Gr.zAD F2.out,B1.out⟩
 have g1:((T.acts.length:Int)==0)=false:=by rw[beq_eq_false_iff_ne];omega
 by_cases h3:T.goto.length=T.acts.length
 rotate_left
 ·have F2:=zV7 (HD.out (by omega));have g2:((T.goto.length:Int) != (T.acts.length:Int))=true:=by rw[bne_iff_ne];omega
  clear h1 h2 h3;unfold tvs at*;go_enter Tryz.func26,Tryz.ntmps26;go_wp2_with fail;go_ret;exact⟨Gr.zAD F2.out,B1.out⟩
 have g2:((T.goto.length:Int) != (T.acts.length:Int))=false:=by rw[h3];simp
 have H3:=zV7 h3;clear h3
 by_cases h4:T.terms<0
 ·have F2:=zV7 (HD.out (by omega));unfold tvs at*;go_enter Tryz.func26,Tryz.ntmps26;go_wp2_with fail;go_ret;exact⟨Gr.zAD F2.out,B1.out⟩
 by_cases h5:T.nons<0
 ·have F2:=zV7 (HD.out (by omega));unfold tvs at*;go_enter Tryz.func26,Tryz.ntmps26;go_wp2_with fail;go_ret;exact⟨Gr.zAD F2.out,B1.out⟩
 have RR:=zV7 (R3.out (by omega) (by omega));have RC:=zV7 (show g=(zEg T&&(zEi T&&zB4 T))by rw[RB.out,show zF3 T=true from decide_eq_true ⟨by omega,by omega,H3.out,by omega,by omega⟩];rfl);generalize zEg T=ga at*;generalize zEi T=gg at*;generalize zB4 T=gr at*;clear RB HD R3;unfold tvs at*;go_enter Tryz.func26,Tryz.ntmps26;go_wp2_with fail;generalize w.alloc (.cells #[.slice aR T.rules.length cR,.int .i64 T.terms,.int .i64 T.nons,.slice aA T.acts.length cA,.slice aG T.goto.length cG] 26)=w2 at*;refine(R1.out _ B1.out).mono ?_;rintro e w3 ⟨rfl,hb3⟩;have B3:=zV7 (Gr.step B1.out hb3);have Z3:=zV7 (Z1.out.went hb3);clear z0 z1 z2 z3 z4 hb3 Z1 B1 R1;obtain⟨z0,z1,z2,z3,z4⟩:=Z3.out;cases ga with
 |false=>
  have F2:=zV7 (show g=false by rw[RC.out];rfl);go_wp2_with fail;go_ret;exact⟨Gr.zAD F2.out,B3.out⟩
 |true=>
  go_wp2_with fail;refine(R2.out _ B3.out).mono ?_;rintro e w4 ⟨rfl,hb4⟩;have B4:=zV7 (Gr.step B3.out hb4);have Z4:=zV7 (Z3.out.went hb4);clear z0 z1 z2 z3 z4 hb4 Z3 B3 R2;obtain⟨z0,z1,z2,z3,z4⟩:=Z4.out;cases gg with
  |false=>
   have F2:=zV7 (show g=false by rw[RC.out];rfl);go_wp2_with fail;go_ret;exact⟨Gr.zAD F2.out,B4.out⟩
  |true=>
   go_wp2_with fail;refine(RR.out _ B4.out).mono ?_;rintro e w5 ⟨rfl,hb5⟩;have B5:=zV7 (Gr.step B4.out hb5);have F2:=zV7 (show g=gr by rw[RC.out];rfl);clear hb5;go_wp2;go_ret;exact⟨Gr.zAD F2.out,B5.out⟩
end Pk
namespace Pk
open Go.RowKit Go.Maps
open Gr (boxed)
open Go.Proofs.YtegeamggbglneaaGreatDoor.Sep (Fr)
def zAm(T:Tb)(w:World)(e:Ending)(w':World):Prop:=
 ∃aR cR aW cW aX cX aG cG aH cH,e=.returned (.tuple #[.agg (pvs (zBm T).1 aR cR aW cW aX cX aG cG aH cH),.bool (zBm T).2])/\PAt (zBm T).1 aR cR aW cW aX cX aG cG aH cH w'/\Below w.heap.size w w'
def nils:Array Value:=#[.slice none 0 0,.int .i64 0,.int .i64 0,.slice none 0 0,.slice none 0 0,.slice none 0 0,.slice none 0 0]
theorem pat0(w):PAt pd0 none 0 none 0 none 0 none 0 none 0 w:=by
 refine⟨fun i hi=>absurd hi (Nat.not_lt_zero _),.nil _ _,.nil _ _ _,.nil _ _,.nil _ _ _,?_,?_,?_,?_,?_,?_,?_,?_,?_,?_,⟨?_,?_,?_,?_,?_,?_,?_,?_⟩⟩
 all_goals first|(simp[pd0];done)|(unfold Gr.Fits pd0;dsimp only;omega)
theorem zNn{T}(h:mayP T=false){w w'}(hb:Below w.heap.size w w'):zAm T w (.returned (.tuple #[.agg nils,.bool false])) w':=by
 have e:zBm T=(pd0,false):=if_neg (by rw[h];decide);rw[zAm,e];exact⟨none,0,none,0,none,0,none,0,none,0,rfl,pat0 w',hb⟩
def set7(w:World)(p:Nat)(v0 v1 v2 v3 v4 v5 v6:Value):World:=((((((w.setCell ⟨p,0,none⟩ v0).setCell ⟨p,1,none⟩ v1).setCell ⟨p,2,none⟩ v2).setCell ⟨p,3,none⟩ v3).setCell ⟨p,4,none⟩ v4).setCell ⟨p,5,none⟩ v5).setCell ⟨p,6,none⟩ v6
theorem zIZ{w:World}{p}{u0 u1 u2 u3 u4 u5 u6 v0 v1 v2 v3 v4 v5 v6}{T}(h:w.heap[p]?=some (.cells #[u0,u1,u2,u3,u4,u5,u6] T (0,0))):
  (((((((w.setCell ⟨p,0,none⟩ v0).setCell ⟨p,1,none⟩ v1).setCell ⟨p,2,none⟩ v2).setCell ⟨p,3,none⟩ v3).setCell ⟨p,4,none⟩ v4).setCell ⟨p,5,none⟩ v5).setCell ⟨p,6,none⟩ v6).heap[p]?=some (.cells #[v0,v1,v2,v3,v4,v5,v6] T (0,0)):=by
 rw[zAU (k:=6) (zAU (k:=5) (zAU (k:=4) (zAU (k:=3) (zAU (k:=2) (zAU (k:=1) (zAU (k:=0) h _) _) _) _) _) _)]
 rfl
theorem zDD{w}{p}{u0 u1 u2 u3 u4 u5 u6}{T}(h:w.heap[p]?=some (.cells #[u0,u1,u2,u3,u4,u5,u6] T (0,0)))(v0 v1 v2 v3 v4 v5 v6):
  (set7 w p v0 v1 v2 v3 v4 v5 v6).cell? ⟨p,0,none⟩=some v0/\(set7 w p v0 v1 v2 v3 v4 v5 v6).cell? ⟨p,1,none⟩=some v1/\(set7 w p v0 v1 v2 v3 v4 v5 v6).cell? ⟨p,2,none⟩=some v2/\(set7 w p v0 v1 v2 v3 v4 v5 v6).cell? ⟨p,3,none⟩=some v3/\
   (set7 w p v0 v1 v2 v3 v4 v5 v6).cell? ⟨p,4,none⟩=some v4/\(set7 w p v0 v1 v2 v3 v4 v5 v6).cell? ⟨p,5,none⟩=some v5/\(set7 w p v0 v1 v2 v3 v4 v5 v6).cell? ⟨p,6,none⟩=some v6:=by
 have hh:(set7 w p v0 v1 v2 v3 v4 v5 v6).heap[p]?=some (.cells #[v0,v1,v2,v3,v4,v5,v6] T (0,0)):=zIZ h;exact⟨zAA hh (k:=0) (by simp),zAA hh (k:=1) (by simp),zAA hh (k:=2) (by simp),zAA hh (k:=3) (by simp),zAA hh (k:=4) (by simp),zAA hh (k:=5) (by simp),zAA hh (k:=6) (by simp)⟩
theorem zHN(w)(p)(v0 v1 v2 v3 v4 v5 v6):Fr (fun x=>x=p) w (((((((w.setCell ⟨p,0,none⟩ v0).setCell ⟨p,1,none⟩ v1).setCell ⟨p,2,none⟩ v2).setCell ⟨p,3,none⟩ v3).setCell ⟨p,4,none⟩ v4).setCell ⟨p,5,none⟩ v5).setCell ⟨p,6,none⟩ v6):=
 (((((((Fr.refl (fun x=>x=p) w).setCell ⟨p,0,none⟩ rfl _).setCell ⟨p,1,none⟩ rfl _).setCell ⟨p,2,none⟩ rfl _).setCell ⟨p,3,none⟩ rfl _).setCell ⟨p,4,none⟩ rfl _).setCell ⟨p,5,none⟩ rfl _).setCell ⟨p,6,none⟩ rfl _
theorem zBp{q}{W X}(h:Below W.heap.size W X)(hq:W.heap.size<=q)(v0 v1 v2 v3 v4 v5 v6):Below W.heap.size W (((((((X.setCell ⟨q,0,none⟩ v0).setCell ⟨q,1,none⟩ v1).setCell ⟨q,2,none⟩ v2).setCell ⟨q,3,none⟩ v3).setCell ⟨q,4,none⟩ v4).setCell ⟨q,5,none⟩ v5).setCell ⟨q,6,none⟩ v6):=
 h.trans ((zHN X q v0 v1 v2 v3 v4 v5 v6).below (fun x hx=>by omega) h.size)
theorem kept_alloc{w wa:World}{cs}{T}(h:Below (w.alloc (.cells cs T)).drew.heap.size (w.alloc (.cells cs T)).drew wa):wa.heap[w.heap.size]?=some (.cells cs T (0,0)):=
 (h.block w.heap.size (by change w.heap.size<(w.alloc (.cells cs T)).heap.size;rw[World.size_alloc];exact Nat.lt_succ_self _)).trans (zAd w _)
structure PkB (T:Tb) (W:World) (b p:Nat) (w5:World):Prop where
 box:w5.heap[p]?=some (.cells (pkc (.slice (some ⟨b,0,none⟩) T.rules.length T.rules.length) (.int .i64 T.terms) (.int .i64 T.nons) fun _=> .slice none 0 0) 32 (0,0))
 pl:p<w5.heap.size
 lo:W.heap.size<=p
 below:Below W.heap.size W w5
 rules:∀w',Fr (fun x=>x=p\/x<W.heap.size) w5 w'->RulA (some ⟨b,0,none⟩) T.rules w'
theorem PkB.after{T}{W w1 we:World}{b}(h:Below W.heap.size W we)(hw:W.heap.size<=w1.heap.size)(hr:∀w2,(∀g,w1.heap.size<=g->g<we.heap.size->w2.heap[g]?=we.heap[g]?)->RulA (some ⟨b,0,none⟩) T.rules w2):
  PkB T W b we.heap.size (we.alloc (.cells #[.slice (some ⟨b,0,none⟩) T.rules.length T.rules.length,.int .i64 T.terms,.int .i64 T.nons,.slice none 0 0,.slice none 0 0,.slice none 0 0,.slice none 0 0] 32)):=by
 refine⟨zAd _ _,?_,h.size,Gr.step h (boxed _ _),fun w' hf=>hr w' fun g h1 h2=>?_⟩
 ·rw[World.size_alloc];exact Nat.lt_succ_self _
 ·refine(hf.block g (by rw[World.size_alloc];omega) (by omega)).trans ?_;exact(boxed we _).block g h2
theorem PkB.ahead{T}{W w1 we:World}{b}{u0 u1 u2 u3 u4 u5 u6}(h:Below W.heap.size W we)(hw:W.heap.size<w1.heap.size)(kb:we.heap[W.heap.size]?=some (.cells #[u0,u1,u2,u3,u4,u5,u6] 32 (0,0)))(hr:∀w2,(∀g,w1.heap.size<=g->g<we.heap.size->w2.heap[g]?=we.heap[g]?)->RulA (some ⟨b,0,none⟩) T.rules w2):
  PkB T W b W.heap.size (((((((we.setCell ⟨W.heap.size,0,none⟩ (.slice (some ⟨b,0,none⟩) T.rules.length T.rules.length)).setCell ⟨W.heap.size,1,none⟩ (.int .i64 T.terms)).setCell ⟨W.heap.size,2,none⟩ (.int .i64 T.nons)).setCell ⟨W.heap.size,3,none⟩ (.slice none 0 0)).setCell ⟨W.heap.size,4,none⟩ (.slice none 0 0)).setCell ⟨W.heap.size,5,none⟩ (.slice none 0 0)).setCell ⟨W.heap.size,6,none⟩ (.slice none 0 0)):=by
 have f:=zHN we W.heap.size (.slice (some ⟨b,0,none⟩) T.rules.length T.rules.length) (.int .i64 T.terms) (.int .i64 T.nons) (.slice none 0 0) (.slice none 0 0) (.slice none 0 0) (.slice none 0 0);refine⟨zIZ kb,Nat.lt_of_lt_of_le (Array.getElem?_eq_some_iff.1 kb).1 f.size,Nat.le_refl _,zBp h (Nat.le_refl _) _ _ _ _ _ _ _,fun w' hf=>hr w' fun g h1 h2=>?_⟩;exact(hf.block g (Nat.lt_of_lt_of_le h2 f.size) (by omega)).trans (f.block g h2 (by omega))
theorem zCD(T):(zAJ T).length=T.acts.length:=by simp[zAJ]
theorem zCE(T):(zAL T).length=T.goto.length:=by simp[zAL]
theorem zSR{T}(h:Pt T)(S:TSm T){i}(hi:i<T.acts.length):CdR (T.acts[i].map zAw):=by
 have hm:=List.getElem_mem hi;refine⟨fun c hc=>?_,by rw[List.length_map];exact S.ar _ hm⟩;obtain⟨x,hx,rfl⟩:=List.mem_map.1 hc;exact(zCy ((h.acts _ hm).2 x hx) h.a1 h.r1).2.1
theorem zSS{T}(h:Pt T)(S:TSm T){i}(hi:i<T.goto.length):CdR (T.goto[i].map zBF):=by
 have hm:=List.getElem_mem hi;refine⟨fun c hc=>?_,by rw[List.length_map];exact S.gr _ hm⟩;obtain⟨x,hx,rfl⟩:=List.mem_map.1 hc;exact(zHE ((h.goto _ hm).2 x hx) h.a1).1
theorem zOE{T}{W w5}{b p}(h:PkB T W b p w5){wa wb}(hs:wa=w5.alloc (.map #[] 0))(hb:wb=wa.alloc (.cells #[.map (some w5.heap.size),.slice none 0 0,.slice none 0 0] 64)):
  PkI w5 p (w5.heap.size+1) w5.heap.size (.slice (some ⟨b,0,none⟩) T.rules.length T.rules.length) (.int .i64 T.terms) (.int .i64 T.nons) (LX T 0 0) (fun _=> .slice none 0 0) (fun _=>[]) (fun _=> .slice none 0 0) (IX T 0 0) wb:=by
 subst hs hb;have hs1:(w5.alloc (.map #[] 0)).heap.size=w5.heap.size+1:=World.size_alloc _ _;have b1:=boxed w5 (.map #[] 0);have b2:=boxed (w5.alloc (.map #[] 0)) (.cells #[.map (some w5.heap.size),.slice none 0 0,.slice none 0 0] 64);have hpl:=h.pl;refine⟨((Gr.step b1 b2).block p hpl).trans h.box,hpl,⟨?_,⟨0,fun _=>none,Nat.zero_le _,?_,?_⟩,fun k hk=>?_,fun g e=>(by cases e),by omega,Nat.le_refl _⟩,fun k hk=>?_,fun g e=>(by cases e),fun k hk=>?_,.of_below (Gr.step b1 b2)⟩
 ·have:=zAd (w5.alloc (.map #[] 0)) (.cells #[.map (some w5.heap.size),.slice none 0 0,.slice none 0 0] 64)
  rwa [hs1]at this
 ·exact(RMap.made w5 _ _ _).keep (b2.block _ (by omega))
 ·rw[zEo,zEo];exact told_none
 ·rw[zEo];exact World.ownsRow_nil _ _ _ _
 ·rw[zO5];exact World.ownsRow_nil _ _ _ _
 ·rw[zEo];exact⟨rfl,fun j hj=>absurd hj (Nat.not_lt_zero _)⟩
end Pk
namespace Pk
open Go.RowKit Go.Maps
open Gr (cell_later boxed drawn)
theorem zQy(T:Tb)(aR:Option Addr)(cR:Nat)(aA:Option Addr)(cA:Nat)(aG:Option Addr)(cG:Nat)(w:World)(S:TSm T)(x:Int×Int):
  Calls Tryz.prog 65 #[.agg (tvs T aR cR aA cA aG cG),av x] w (Gr.Is (.bool (okA T.acts.length T.rules.length x)) w):=by
 obtain⟨x1,x2⟩:=x;have b1:=boxed w (.cells (tvs T aR cR aA cA aG cG) 26);have b2:=boxed (w.alloc (.cells (tvs T aR cR aA cA aG cG) 26)) (.cells #[.int .i64 x1,.int .i64 x2] 57);have B2:=zV7 (Gr.step b1 b2);obtain⟨z0,z1,z2,z3,z4⟩:=(zAp (T:=T) (aR:=aR) (cR:=cR) (aA:=aA) (cA:=cA) (aG:=aG) (cG:=cG) w 26).went b2;have Y:=zAd (w.alloc (.cells (tvs T aR cR aA cA aG cG) 26)) (.cells #[.int .i64 x1,.int .i64 x2] 57);rw[World.size_alloc]at Y;have y0:=zAA Y (k:=0) (by simp);have y1:=zAA Y (k:=1) (by simp);have h1:=S.rl;have h2:=S.al;have hw:IntKind.i64.wrap ((T.rules.length:Int)-1)=(T.rules.length:Int)-1:=by rw[IntKind.wrap_i64];omega
 clear b1 b2 Y S;unfold tvs at*
 have key:x1=0\/x1=3\/x1=1\/x1=2\/((x1==0)=false/\(x1==3)=false/\(x1==1)=false/\(x1==2)=false):=by
  simp only[beq_eq_false_iff_ne,ne_eq];omega
 rcases key with rfl|rfl|rfl|rfl|⟨e0,e3,e1,e2⟩
 all_goals
  go_enter Tryz.func65,Tryz.ntmps65;go_wp2
  all_goals
   go_ret;refine⟨Gr.zAD ?_,B2.out⟩;go_light;unfold okA;dsimp only
   try simp only[beq_eq_false_iff_ne,ne_eq,true_or,or_true,true_and]at*
   try rw[hw]
   first|(rw[decide_eq_true_iff];omega)|(rw[decide_eq_false_iff_not];omega)|(rw[Bool.eq_iff_iff];simp only[decide_eq_true_eq,beq_iff_eq];omega)
theorem zDB{T}(h:zF3 T=false\/zEg T=false\/zEi T=false\/zB4 T=false):zAI T=false:=by
 unfold zAI;rcases h with h|h|h|h<;>rw[h]<;>simp
theorem zON{T}(h1:zF3 T=true)(h2:zEg T=true)(h3:zEi T=true)(h4:zB4 T=true):zAI T=true:=by
 unfold zAI;rw[h1,h2,h3,h4]
 rfl
theorem zOS{T:Tb}{i:Nat}(hi:i<T.rules.length-1):(T.rules.take (T.rules.length-1))[i]'(by rw[List.length_take];omega)=T.rules[i]'(by omega):=by
 rw[List.getElem_take]
theorem zGd(T:Tb)(aR:Option Addr)(cR:Nat)(aA:Option Addr)(cA:Nat)(aG:Option Addr)(cG:Nat)(w:World)(D:TAt T aR cR aA cA aG cG w)(S:TSm T):
  Calls Tryz.prog 23 #[.agg (tvs T aR cR aA cA aG cG)] w (Gr.Is (.bool (zAI T)) w):=by
 have B1:=zV7 (boxed w (.cells (tvs T aR cR aA cA aG cG) 26));have Z1:=zV7 (zAp (T:=T) (aR:=aR) (cR:=cR) (aA:=aA) (cA:=cA) (aG:=aG) (cG:=cG) w 26);have DD:=zV7 (fun w1 (b:Below w.heap.size w w1)=>D.went b);have RA:=zV7 (fun w1 x=>zQy T aR cR aA cA aG cG w1 S x);have FR:=zV7 (fun i (hi:i<T.rules.length-1) (e:okL T.terms T.nons (T.rules[i]'(by omega))=false)=>(show zAI T=false from zDB (.inr (.inr (.inr (zAc (i:=i) (by rw[List.length_take];omega) (by rw[zOS hi];exact e)))))));have SR:=zV7 (fun i (h:((T.rules.take (T.rules.length-1)).take i).all (okL T.terms T.nons)=true) (hi:i<T.rules.length-1) (e:okL T.terms T.nons (T.rules[i]'(by omega))=true)=>zAy (i:=i) h (by rw[List.length_take];omega) (by rw[zOS hi];exact e));have ER:=zV7 (fun i (h:((T.rules.take (T.rules.length-1)).take i).all (okL T.terms T.nons)=true) (hi:¬i<T.rules.length-1)=>(show zB4 T=true from zAt h (by rw[List.length_take];omega)));have FA:=zV7 (fun i (hi:i<T.acts.length) (e:zDJ T.acts.length T.rules.length T.terms T.acts[i]=false)=>(show zAI T=false from zDB (.inr (.inl (zAc hi e)))));have FG:=zV7 (fun i (hi:i<T.goto.length) (e:okTo T.acts.length T.nons T.goto[i]=false)=>(show zAI T=false from zDB (.inr (.inr (.inl (zAc hi e))))));have EA:=zV7 (fun(h4:zB4 T=true) (h0:zF3 T=true) (hg:T.goto.length=T.acts.length) i (ha:(T.acts.take i).all (zDJ T.acts.length T.rules.length T.terms)=true) (hb:(T.goto.take i).all (okTo T.acts.length T.nons)=true) (hi:¬i<T.acts.length)=>(show zAI T=true from zON h0 (zAt ha hi) (zAt hb (by omega)) h4));have HA:=zV7 (fun i (hi:i<T.acts.length)=>zEI S.ar hi);have HG:=zV7 (fun i (hi:i<T.goto.length)=>zEI S.gr hi);have HD:=zV7 (fun(h:¬(0<T.rules.length/\0<T.acts.length/\T.goto.length=T.acts.length/\0<=T.terms/\0<=T.nons))=>(show zAI T=false from zDB (.inl (decide_eq_false h))));have HE:=zV7 (fun(h:0<T.rules.length/\0<T.acts.length/\T.goto.length=T.acts.length/\0<=T.terms/\0<=T.nons)=>(show zF3 T=true from decide_eq_true h));have FT:=zV7 D.fit;have hrl:=S.rl;have hal:=S.al;have hgl:=S.gl;have hcr:=D.rc;generalize zAI T=g at*;clear D S;obtain⟨z0,z1,z2,z3,z4⟩:=Z1.out;unfold tvs at*
 by_cases h1:T.rules.length=0
 ·have F2:=zV7 (HD.out (by omega));have g0:((T.rules.length:Int)==0)=true:=by rw[beq_iff_eq];omega
  clear h1;go_enter Tryz.func23,Tryz.ntmps23;go_wp2_with fail;go_ret;exact⟨Gr.zAD F2.out,B1.out⟩
 have g0:((T.rules.length:Int)==0)=false:=by rw[beq_eq_false_iff_ne];omega
 by_cases h2:T.acts.length=0
 ·have F2:=zV7 (HD.out (by omega));have g1:((T.acts.length:Int)==0)=true:=by rw[beq_iff_eq];omega
  clear h1 h2;go_enter Tryz.func23,Tryz.ntmps23;go_wp2_with fail;go_ret;exact⟨Gr.zAD F2.out,B1.out⟩
 have g1:((T.acts.length:Int)==0)=false:=by rw[beq_eq_false_iff_ne];omega
 by_cases h3:T.goto.length=T.acts.length
 rotate_left
 ·have F2:=zV7 (HD.out (by omega));have g2:((T.goto.length:Int) != (T.acts.length:Int))=true:=by rw[bne_iff_ne];omega
  clear h1 h2 h3;go_enter Tryz.func23,Tryz.ntmps23;go_wp2_with fail;go_ret;exact⟨Gr.zAD F2.out,B1.out⟩
 have g2:((T.goto.length:Int) != (T.acts.length:Int))=false:=by rw[h3];simp
 have H3:=zV7 h3;clear h3
 by_cases h4:T.terms<0
 ·have F2:=zV7 (HD.out (by omega));go_enter Tryz.func23,Tryz.ntmps23;go_wp2_with fail;go_ret;exact⟨Gr.zAD F2.out,B1.out⟩
 by_cases h5:T.nons<0
 ·have F2:=zV7 (HD.out (by omega));go_enter Tryz.func23,Tryz.ntmps23;go_wp2_with fail;go_ret;exact⟨Gr.zAD F2.out,B1.out⟩
 have HT:=zV7 (HE.out ⟨by omega,by omega,H3.out,by omega,by omega⟩);clear HD HE;have hwr:IntKind.i64.wrap ((T.rules.length:Int)-1)=(T.rules.length:Int)-1:=by rw[IntKind.wrap_i64];omega
 go_enter Tryz.func23,Tryz.ntmps23;go_wp2_with fail;generalize w.alloc (.cells #[.slice aR T.rules.length cR,.int .i64 T.terms,.int .i64 T.nons,.slice aA T.acts.length cA,.slice aG T.goto.length cG] 26)=w2 at*;clear z0 z1 z2 z3 z4 g0 g1 g2;go_loopw [3] (fun v wr=>∃i:Nat,v=.int .i64 (i:Int)/\i<=T.rules.length-1/\((T.rules.take (T.rules.length-1)).take i).all (okL T.terms T.nons)=true/\Below w2.heap.size w2 wr) (fun v _=>T.rules.length-(intOf v).toNat)
 case atStart=>exact⟨0,rfl,Nat.zero_le _,zAz _ _,.refl _ _⟩
 case round=>
  obtain⟨i,rfl,hi,hA,hB⟩:=hrel;have A:=zV7 hA;have B:=zV7 hB;have BW:=zV7 (Gr.step B1.out hB);clear hB hA;obtain⟨z0,z1,z2,z3,z4⟩:=Z1.out.went B.out
  by_cases hlt:i<T.rules.length-1
  ·obtain⟨b,o,ra,c,rfl,p0,p1,_,_⟩:=(DD.out wr BW.out).rules i (by omega);have hil:(i:Int)<(T.rules.length:Int)-1:=by omega
   have hil2:(i:Int)<(T.rules.length:Int):=by omega
   have FX:=zV7 (FR.out i hlt);have SX:=zV7 (SR.out i A.out hlt);have hfit:Gr.Fits (T.rules[i]'(by omega)).1:=FT.out.left _ (List.getElem_mem _);have hft:=FT.out.t;generalize T.rules[i]'(by omega)=r at*;obtain⟨l,rr⟩:=r;dsimp only at p0 p1 hfit;unfold Gr.Fits at hfit hft
   by_cases c1:l<=T.terms
   ·have F2:=zV7 (FX.out (by unfold okL;rw[decide_eq_false_iff_not];dsimp only;omega));have d1:decide (l<=T.terms)=true:=decide_eq_true c1;clear hfit hft;go_wp2_with fail;go_quiet (fail);go_wp2_with fail;go_ret;exact⟨Gr.zAD F2.out,BW.out.trans ⟨rfl,rfl,rfl,Nat.le_refl _,fun _ _=>rfl⟩⟩
   ·have d1:decide (l<=T.terms)=false:=decide_eq_false c1;have hw:IntKind.i64.wrap (l-T.terms)=l-T.terms:=by rw[IntKind.wrap_i64];omega
    by_cases c2:T.nons<l-T.terms
    ·have F2:=zV7 (FX.out (by unfold okL;rw[decide_eq_false_iff_not];dsimp only;omega));clear hfit hft;go_wp2_with fail;go_quiet (fail);go_wp2_with fail;go_ret;exact⟨Gr.zAD F2.out,BW.out.trans ⟨rfl,rfl,rfl,Nat.le_refl _,fun _ _=>rfl⟩⟩
    ·have A2:=zV7 (SX.out (by unfold okL;rw[decide_eq_true_iff];dsimp only;omega));clear hfit hft;go_wp2_with fail;go_quiet (fail);go_wp2_with fail;go_roundw
     case rel=>exact⟨i+1,by go_num,by omega,A2.out,B.out.trans ⟨rfl,rfl,rfl,Nat.le_refl _,fun _ _=>rfl⟩⟩
     case measure=>first|(simp[intOf];omega)|omega
  ·have R4:=zV7 (ER.out i A.out hlt);have hil:¬(i:Int)<(T.rules.length:Int)-1:=by omega
   go_wp2_with fail;generalize wr=w3 at*;clear z0 z1 z2 z3 z4 FR SR ER hwr hil hi hlt A;have EAx:=zV7 (EA.out R4.out HT.out H3.out);clear EA;go_loopw [4] (fun v wr=>∃i:Nat,v=.int .i64 (i:Int)/\i<=T.acts.length/\(T.acts.take i).all (zDJ T.acts.length T.rules.length T.terms)=true/\(T.goto.take i).all (okTo T.acts.length T.nons)=true/\Below w3.heap.size w3 wr) (fun v _=>T.acts.length-(intOf v).toNat)
   case atStart=>exact⟨0,rfl,Nat.zero_le _,zAz _ _,zAz _ _,.refl _ _⟩
   case round=>
    obtain⟨i,rfl,hi,hA,hG,hB⟩:=hrel;have A:=zV7 hA;have G:=zV7 hG;have B3:=zV7 hB;have BA:=zV7 (Gr.step B.out hB);have BW:=zV7 (Gr.step B1.out BA.out);clear hB hA hG;obtain⟨z0,z1,z2,z3,z4⟩:=Z1.out.went BA.out
    by_cases hlt:i<T.acts.length
    ·have hlg:i<T.goto.length:=by have:=H3.out;omega
     obtain⟨b,o,ra,c,eaA,p0,p1,_,_⟩:=(DD.out wr BW.out).acts i hlt;obtain⟨b',o',rb,d,eaG,q0,q1,_,_⟩:=(DD.out wr BW.out).goto i hlg;have hil:(i:Int)<(T.acts.length:Int):=by omega
     have hig:(i:Int)<(T.goto.length:Int):=by omega
     have FX:=zV7 (FA.out i hlt);have GX:=zV7 (FG.out i hlg);have AS:=zV7 (fun e=>zAy A.out hlt e);have GS:=zV7 (fun e=>zAy G.out hlg e);have hl1:=HA.out i hlt;have hl2:=HG.out i hlg;have PP:=zV7 p1;have QQ:=zV7 q1;subst eaA eaG;clear p1 q1;generalize T.acts[i]=row at*;generalize T.goto[i]=col at*;have hw:IntKind.i64.wrap ((row.length:Int)-1)=(row.length:Int)-1:=by rw[IntKind.wrap_i64];omega
     by_cases c1:(row.length:Int)<1
     ·have F2:=zV7 (FX.out (by unfold zDJ;rw[decide_eq_false (by omega)];rfl));have d1:decide ((row.length:Int)<1)=true:=decide_eq_true c1;clear hl1 hl2;go_wp2_with fail;go_quiet (fail);go_wp2_with fail;go_ret;exact⟨Gr.zAD F2.out,BW.out.trans ⟨rfl,rfl,rfl,Nat.le_refl _,fun _ _=>rfl⟩⟩
     have d1:decide ((row.length:Int)<1)=false:=decide_eq_false c1
     by_cases c2:(row.length:Int)-1=T.terms
     rotate_left
     ·have F2:=zV7 (FX.out (by unfold zDJ;rw[decide_eq_false c2];rfl));have d2:((row.length:Int)-1 != T.terms)=true:=by rw[bne_iff_ne];exact c2
      clear hl1 hl2;go_wp2_with fail;go_quiet (fail);go_wp2_with fail;go_ret;exact⟨Gr.zAD F2.out,BW.out.trans ⟨rfl,rfl,rfl,Nat.le_refl _,fun _ _=>rfl⟩⟩
     have d2:((row.length:Int)-1 != T.terms)=false:=by rw[c2];simp
     by_cases c3:(col.length:Int)=T.nons
     rotate_left
     ·have F2:=zV7 (GX.out (by unfold okTo;rw[decide_eq_false c3];rfl));have d3:((col.length:Int) != T.nons)=true:=by rw[bne_iff_ne];exact c3
      have C2:=zV7 c2;clear hl1 hl2 c2;go_wp2_with fail;go_quiet (fail);go_wp2_with fail;go_ret;exact⟨Gr.zAD F2.out,BW.out.trans ⟨rfl,rfl,rfl,Nat.le_refl _,fun _ _=>rfl⟩⟩
     have d3:((col.length:Int) != T.nons)=false:=by rw[c3];simp
     have C2:=zV7 c2;have C3:=zV7 c3;clear c2 c3;go_wp2_with fail;go_quiet (fail);have BQ:=zV7 (show Below wr.heap.size wr (wr.drewN nq)from⟨rfl,rfl,rfl,Nat.le_refl _,fun _ _=>rfl⟩);go_wp2_with fail;generalize wr.drewN nq=w5 at*;have D5:=zV7 (Gr.step BA.out BQ.out);have E5:=zV7 (Gr.step B3.out BQ.out);have W5:=zV7 (Gr.step BW.out BQ.out);have p5:=cell_later BQ.out p0;have q5:=cell_later BQ.out q0;have AX:=zV7 (fun k (h:(row.take k).all (okA T.acts.length T.rules.length)=true) (hk:¬k<row.length)=>AS.out (by unfold zDJ;rw[zAt h hk,Bool.and_true,decide_eq_true_eq];exact C2.out));have GX2:=zV7 (fun k (h:(col.take k).all (okT T.acts.length)=true) (hk:¬k<col.length)=>GS.out (by unfold okTo;rw[zAt h hk,Bool.and_true,decide_eq_true_eq];exact C3.out));have FXk:=zV7 (fun k (hk:k<row.length) (e:okA T.acts.length T.rules.length row[k]=false)=>(show g=false from FX.out (by unfold zDJ;rw[zAc hk e,Bool.and_false])));have GXk:=zV7 (fun k (hk:k<col.length) (e:okT T.acts.length col[k]=false)=>(show g=false from GX.out (by unfold okTo;rw[zAc hk e,Bool.and_false])));have PP5:=zV7 (PP.out.went BQ.out);have QQ5:=zV7 (QQ.out.went BQ.out);clear z0 z1 z2 z3 z4 p0 q0 d1 d2 d3 hw BQ FX GX AS GS PP QQ c1 FA FG;go_loopw [5] (fun v wz=>∃t:Nat,v=.int .i64 (t:Int)/\t<=row.length/\(row.take t).all (okA T.acts.length T.rules.length)=true/\Below w5.heap.size w5 wz) (fun v _=>row.length-(intOf v).toNat)
     case atStart=>exact⟨0,rfl,Nat.zero_le _,zAz _ _,.refl _ _⟩
     case round=>
      obtain⟨t,rfl,htl,hT,hB2⟩:=hrel;have K:=zV7 hB2;have TT:=zV7 hT;have WK:=zV7 (Gr.step W5.out hB2);clear hT;have p6:=cell_later hB2 p5;have q6:=cell_later hB2 q5;obtain⟨z0,z1,z2,z3,z4⟩:=Z1.out.went (Gr.step D5.out hB2)
      by_cases hlt2:t<row.length
      ·obtain⟨r1,o1,rfl,m0,m1⟩:=(PP5.out.went hB2).at t hlt2;have htl2:(t:Int)<(row.length:Int):=by omega
       have FXt:=zV7 (FXk.out t hlt2);have TS:=zV7 (fun e=>zAy TT.out hlt2 e);clear hB2;generalize row[t]=x at*;obtain⟨x1,x2⟩:=x;dsimp only at m0 m1;have RX:=zV7 (fun w1=>RA.out w1 (x1,x2))
       have HQ:=zV7 (show∀w',Below wr.heap.size wr w'->w'.cell? ⟨w.heap.size,0,none⟩=some (.slice aR T.rules.length cR)/\w'.cell? ⟨w.heap.size,1,none⟩=some (.int .i64 T.terms)/\w'.cell? ⟨w.heap.size,2,none⟩=some (.int .i64 T.nons)/\w'.cell? ⟨w.heap.size,3,none⟩=some (.slice (some ⟨b,o,none⟩) T.acts.length cA)/\w'.cell? ⟨w.heap.size,4,none⟩=some (.slice (some ⟨b',o',none⟩) T.goto.length cG)/\
         w'.cell? ⟨b,o+i,none⟩=some (.slice (some ⟨r1,o1,none⟩) row.length c)/\w'.cell? ⟨r1,o1+t*2,none⟩=some (.int .i64 x1)/\w'.cell? ⟨r1,o1+t*2+1,none⟩=some (.int .i64 x2)/\Below wr.heap.size wr w' from
        fun w' hb=>⟨cell_later hb z0,cell_later hb z1,cell_later hb z2,cell_later hb z3,cell_later hb z4,cell_later hb p6,cell_later hb m0,cell_later hb m1,hb⟩)
       have hbd:=drawn wr;have HL:=zV7 hlt2;have HL1:=zV7 hl1;clear q6 hlt2 hl1 hl2;generalize hok:okA T.acts.length T.rules.length (x1,x2)=ok at*;have HOK:=zV7 hok;clear hok;go_wp2_with fail
       go_region_held3 (fun w'=>w'.cell? ⟨w.heap.size,0,none⟩=some (.slice aR T.rules.length cR)/\w'.cell? ⟨w.heap.size,1,none⟩=some (.int .i64 T.terms)/\w'.cell? ⟨w.heap.size,2,none⟩=some (.int .i64 T.nons)/\w'.cell? ⟨w.heap.size,3,none⟩=some (.slice (some ⟨b,o,none⟩) T.acts.length cA)/\w'.cell? ⟨w.heap.size,4,none⟩=some (.slice (some ⟨b',o',none⟩) T.goto.length cG)/\
         w'.cell? ⟨b,o+i,none⟩=some (.slice (some ⟨r1,o1,none⟩) row.length c)/\w'.cell? ⟨r1,o1+t*2,none⟩=some (.int .i64 x1)/\w'.cell? ⟨r1,o1+t*2+1,none⟩=some (.int .i64 x2)/\Below wr.heap.size wr w')
        (exact HQ.out _ (by with_reducible assumption))
        (first
         |(go_at_call 65;refine(RX.out _).mono ?_;rintro e wn ⟨rfl,hb⟩;have kB:Below wr.heap.size wr wn:=Gr.step (by with_reducible assumption) hb;clear hb)
         |fail)
       cases ok with
       |true=>
        have T2:=zV7 (TS.out rfl);go_wp2_with fail;go_roundw
        case rel=>exact⟨t+1,by go_num,HL.out,T2.out,Gr.step K.out (by with_reducible assumption)⟩
        case measure=>have:=HL.out;first|(simp[intOf];omega)|omega
       |false=>
        have F2:=zV7 (FXt.out rfl);go_wp2_with fail;go_ret;exact⟨Gr.zAD F2.out,Gr.step WK.out (by with_reducible assumption)⟩
      ·have A2:=zV7 (AX.out _ TT.out hlt2);obtain rfl:t=row.length:=by omega
       clear hB2;go_wp2_with fail;generalize wr=w6 at*;clear z0 z1 z2 z3 z4 p6 p5 AX FXk PP5;go_loopw [6] (fun v wz=>∃t:Nat,v=.int .i64 (t:Int)/\t<=col.length/\(col.take t).all (okT T.acts.length)=true/\Below w6.heap.size w6 wz) (fun v _=>col.length-(intOf v).toNat)
       case atStart=>exact⟨0,rfl,Nat.zero_le _,zAz _ _,.refl _ _⟩
       case round=>
        obtain⟨t,rfl,htl,hT,hB2⟩:=hrel;have K6:=zV7 (Gr.step K.out hB2);have L6:=zV7 hB2;have TT6:=zV7 hT;have WK6:=zV7 (Gr.step WK.out hB2);clear hT;have q7:=cell_later hB2 q6;obtain⟨z0,z1,z2,z3,z4⟩:=Z1.out.went (Gr.step D5.out K6.out)
        by_cases hlt2:t<col.length
        ·obtain⟨r1,o1,rfl,m0⟩:=((QQ5.out.went K.out).went hB2).at hlt2;have htl2:(t:Int)<(col.length:Int):=by omega
         have FXt:=zV7 (GXk.out t hlt2);have TS:=zV7 (fun e=>zAy TT6.out hlt2 e);clear hB2;generalize col[t]=y at*
         by_cases y1:y< -1
         ·have F2:=zV7 (FXt.out (by unfold okT;rw[decide_eq_false_iff_not];omega));have d1:decide (y< -1)=true:=decide_eq_true y1;go_wp2_with fail;go_quiet (fail);go_wp2_with fail;go_ret;exact⟨Gr.zAD F2.out,WK6.out.trans ⟨rfl,rfl,rfl,Nat.le_refl _,fun _ _=>rfl⟩⟩
         have d1:decide (y< -1)=false:=decide_eq_false y1
         by_cases y2:(T.acts.length:Int)<=y
         ·have F2:=zV7 (FXt.out (by unfold okT;rw[decide_eq_false_iff_not];omega));go_wp2_with fail;go_quiet (fail);go_wp2_with fail;go_ret;exact⟨Gr.zAD F2.out,WK6.out.trans ⟨rfl,rfl,rfl,Nat.le_refl _,fun _ _=>rfl⟩⟩
         have T2:=zV7 (TS.out (by unfold okT;rw[decide_eq_true_iff];omega));go_wp2_with fail;go_quiet (fail);go_wp2_with fail;go_roundw
         case rel=>exact⟨t+1,by go_num,by omega,T2.out,L6.out.trans ⟨rfl,rfl,rfl,Nat.le_refl _,fun _ _=>rfl⟩⟩
         case measure=>first|(simp[intOf];omega)|omega
        ·have G2:=zV7 (GX2.out _ TT6.out hlt2);obtain rfl:t=col.length:=by omega
         clear hB2;go_wp2_with fail;go_roundw
         case rel=>exact⟨i+1,by go_num,by omega,A2.out,G2.out,Gr.step E5.out K6.out⟩
         case measure=>first|(simp[intOf];omega)|omega
    ·have F2:=zV7 (EAx.out i A.out G.out hlt);obtain rfl:i=T.acts.length:=by omega
     go_wp2_with fail;go_ret;exact⟨Gr.zAD F2.out,BW.out⟩
end Pk
namespace Pk
open Go.RowKit Go.Maps
open Gr (cell_later boxed)
theorem zCP{P}(w){ops}{rest}{o}{a}{Q}(hgd:o.guard=none)(s x)(t)
  (ho:o.op=.call {callee:=.builtin .append,args:=#[s,x],argTypes:=#[t,t]})
  (base) (e) (i) (z) (size bytes) (ht:P.underlying t=some (.slice e)) (hi:P.info? e=some i) (hz:i.zero=some z)
  (hsize:i.size=size) (hby:i.bytes=bytes) (hzs:z.cells.size=size) (hpos:0<size) (v) (n) (xs) (hs:a.eval s=v) (hown:w.ownsRow base e size v n xs)
  (ad) (m c) (news) (hx:a.eval x=.slice ad m c) (hl:news.length=m*size) (hr:∀p,ad=some p->∀j u,news[j]?=some u->w.cell? (p.add j)=some u) (hn:ad=none->m=0) (h1:∀u∈news,u.oneCell'=true)
  (h63:n+m<=maxLen) (hbytes:(n+m)*bytes<=140737488355328) (hbase:base<=w.heap.size)
  (h:∀v' w',w'.ownsRow base e size v' (n+m) (xs++news)->w.grownBy w' v.ownBlock->(v'.ownBlock=v.ownBlock\/v'.ownBlock=some w.heap.size)->wpList P ops Q rest (a.put o.dst v') w'):wpList P ops Q (o::rest) a w:=
 wpList_plain hgd fun K hK=>Rw.zHS w s x t ho base e i z size bytes ht hi hz hsize hby hzs hpos v n xs hs hown ad m c news hx hl hr hn h1 h63 hbytes hbase fun v' w' a1 a2 a3=>hK _ _ (h v' w' a1 a2 a3)
theorem zK2(w):(Instr.buildSlice 30 0 #[]).run Tryz.prog w=.ok (.slice (some ⟨w.heap.size,0,none⟩) 0 0) (w.alloc (.cells #[] 66)):=by kernel_rfl
theorem zLp{R}{a}{X:List (List Int)}{w}(h:zEf R a X w):∃vs:List Value,vs.length=X.length/\(∀v∈vs,v.oneCell'=true)/\(∀b o,a=some ⟨b,o,none⟩->∀j (u:Value),vs[j]?=some u->w.cell? ⟨b,o+j,none⟩=some u)/\
  ∀j (hj:j<X.length),∃ra rc,vs[j]?=some (.slice ra X[j].length rc)/\R ra X[j] w/\X[j].length<=rc/\X[j].length<=35184372088832:=by
 have hf:∀j,∃v:Value,∀(hj:j<X.length),∃ra rc,v=.slice ra X[j].length rc/\(∃b o,a=some ⟨b,o,none⟩/\w.cell? ⟨b,o+j,none⟩=some v)/\R ra X[j] w/\X[j].length<=rc/\X[j].length<=35184372088832:=by
  intro j
  by_cases hj:j<X.length
  ·obtain⟨b,o,ra,rc,e,h1,h2,h3,h4⟩:=h j hj;exact⟨_,fun _=>⟨ra,rc,rfl,⟨b,o,e,h1⟩,h2,h3,h4⟩⟩
  ·exact⟨.bool false,fun k=>absurd k hj⟩
 obtain⟨f,hf⟩:=Classical.axiomOfChoice hf;refine⟨(List.range X.length).map f,by simp,fun v hv=>?_,fun b o e j u hu=>?_,fun j hj=>?_⟩
 ·obtain⟨j,hj,rfl⟩:=List.mem_map.1 hv;obtain⟨ra,rc,e,_⟩:=hf j (List.mem_range.1 hj);rw[e]
  rfl
 ·have hj:j<X.length:=by
   have:=(List.getElem?_eq_some_iff.1 hu).1
   simpa using this
  rw[List.getElem?_map,List.getElem?_range hj]at hu;obtain rfl:=Option.some.inj hu;obtain⟨ra,rc,_,⟨b',o',e',h1⟩,_⟩:=hf j hj;rw[e]at e';simp only[Option.some.injEq,Addr.mk.injEq,and_true]at e';obtain⟨rfl,rfl⟩:=e';exact h1
 ·obtain⟨ra,rc,e,_,h2⟩:=hf j hj;refine⟨ra,rc,?_,h2⟩;rw[List.getElem?_map,List.getElem?_range hj,←e]
  rfl
theorem zTm{R}{a}{c}{X:List (List Int)}{vs}{base}{w}(hl:vs.length=X.length)(hown:w.ownsRow base 66 1 (.slice a X.length c) X.length vs)(h:∀j (hj:j<X.length),∃ra rc,vs[j]?=some (.slice ra X[j].length rc)/\R ra X[j] w/\X[j].length<=rc/\X[j].length<=35184372088832):zEf R a X w:=fun j hj=>by
 obtain⟨ra,rc,e,h1⟩:=h j hj;obtain⟨b,rfl⟩:=zBW hown (by omega);have t0:=World.ownsRow.cells hown (g:=b) rfl j _ e;rw[WideShapes.add_plain]at t0;exact⟨b,0,ra,rc,rfl,t0,h1⟩
theorem zTF{a}{p:Addr}{vs:List Value}{w1:World}(e:a=some p)(h:∀b o,a=some ⟨b,o,none⟩->∀j (u:Value),vs[j]?=some u->w1.cell? ⟨b,o+j,none⟩=some u){j}{u}(hu:vs[j]?=some u)
  (hx:j<vs.length->∃b o,∃(ra:Option Addr) (rc:Nat),a=some ⟨b,o,none⟩/\∃P:Prop,P):(w1.alloc (.cells #[] 66)).cell? (p.add j)=some u:=by
 obtain⟨b,o,_,_,e2,_⟩:=hx (List.getElem?_eq_some_iff.1 hu).1;have:=h b o e2 j u hu;rw[e]at e2;obtain rfl:=Option.some.inj e2;rw[WideShapes.add_plain];exact cell_later (boxed w1 _) this
theorem zQW{R}{a}{X:List (List Int)}{w}(h:zEf R a X w)(e:a=none):X.length=0:=by
 by_cases h0:0<X.length
 ·obtain⟨b,o,_,_,e2,_⟩:=h 0 h0;rw[e]at e2;cases e2
 ·omega
theorem zUw(w:World)(v):∀p,some (⟨w.heap.size,0,none⟩:Addr)=some p->∀j u,[v][j]?=some u->(w.alloc (.cells #[v] 66)).cell? (p.add j)=some u:=by
 intro p e j u hu;obtain rfl:=Option.some.inj e
 have hj:j=0:=by
  have:=(List.getElem?_eq_some_iff.1 hu).1;simp at this;omega
 subst hj;obtain rfl:=Option.some.inj hu;rw[WideShapes.add_plain];exact Gr.zAC (by simp) rfl
theorem zJu{w:World}{base n c size}{T}{a}{xs}(h:w.ownsRow base T size (.slice a n c) n xs):n<=c:=by
 rcases h.2 with⟨h1,h2⟩|⟨g,cap,cur,h1,_,_,h2,_⟩
 ·omega
 ·simp only[Value.slice.injEq]at h1;omega
def CodT(a:Option Addr)(r:List Int)(w:World):Prop:=CodA a r w/\∀b o,a=some ⟨b,o,none⟩->0<r.length->Ty b 48 w
def zCj(a:Option Addr)(X:List (List Int))(w:World):Prop:=zEf CodT a X w/\∀b o,a=some ⟨b,o,none⟩->0<X.length->Ty b 66 w
theorem CodT.went{a}{r}{w w'}(h:CodT a r w)(hb:Below w.heap.size w w'):CodT a r w':=⟨h.1.went hb,fun b o e hl=>(h.2 b o e hl).went hb⟩
theorem zCj.went{a}{X}{w w'}(h:zCj a X w)(hb:Below w.heap.size w w'):zCj a X w':=⟨h.1.went (fun k=>k.went) hb,fun b o e hl=>(h.2 b o e hl).went hb⟩
theorem zCj.plain{a}{X}{w}(h:zCj a X w):zGi a X w:=fun i hi=>by
 obtain⟨b,o,ra,rc,e,h1,h2,h3⟩:=h.1 i hi;exact⟨b,o,ra,rc,e,h1,h2.1,h3⟩
theorem zCj.nil(w):zCj none [] w:=⟨.nil _ _ _,fun b o e=>by cases e⟩
theorem CodT.kept{a}{r}{w w'}{x}{U}(h:CodT a r w)(hx:Ty x U w)(hU:48≠U)(hg:w.grownBy w' (some x)):CodT a r w':=by
 refine⟨fun i hi=>?_,fun b o e hl=>(h.2 b o e hl).kept' hx hU hg⟩;obtain⟨b,o,e,h1⟩:=h.1 i hi
 have hl:0<r.length:=by
  rw[List.length_map]at hi;omega
 have hb:=(h.2 b o e hl).kept hx hU hg;exact⟨b,o,e,(World.cell?_of_block hb).trans h1⟩
theorem zCj.kept{a}{X}{w w'}{x}{U}(h:zCj a X w)(hx:Ty x U w)(hU:48≠U)(hV:66≠U)(hg:w.grownBy w' (some x)):zCj a X w':=by
 refine⟨fun i hi=>?_,fun b o e hl=>(h.2 b o e hl).kept' hx hV hg⟩;obtain⟨b,o,ra,rc,e,h1,h2,h3⟩:=h.1 i hi;have hb:=(h.2 b o e (by omega)).kept hx hV hg;exact⟨b,o,ra,rc,e,(World.cell?_of_block hb).trans h1,h2.kept hx hU hg,h3⟩
def zIi(X:List (List Int))(r:List Int)(w:World)(e:Ending)(w':World):Prop:=
 ∃a c,e=.returned (.tuple #[.slice a (putR X r).length c,.int .i64 (plc X r:Int)])/\zCj a (putR X r) w'/\(putR X r).length<=c/\Below w.heap.size w w'
theorem zJR(X)(r):(∃k:Nat,plcI X r=(k:Int)/\k=plc X r/\putR X r=X)\/(plcI X r= -1/\plc X r=X.length/\putR X r=X++[r]):=by
 by_cases h:r∈X
 ·exact .inl ⟨_,if_pos h,(zCi h).2.1.symm,(zCi h).1⟩
 ·exact .inr ⟨if_neg h,(zBL h).2,(zBL h).1⟩
theorem zKe(X:List (List Int))(r:List Int)(a b:Option Addr)(c d:Nat)(w:World)(hX:zCj a X w)(hr:CodT b r w)(hc:X.length<=c)(hd:r.length<=d)(hl:X.length<=100000)(hm:r.length<=100000):
  Calls Tryz.prog 34 #[.slice a X.length c,.slice b r.length d] w (zIi X r w):=by
 obtain⟨i0,hi0,hz0,hz1,hz2⟩:=info_parts zDn;have HP:=zV7 (zLq X r a b c d w hX.plain hr.1 (by omega) (by omega));have HX:=zV7 (fun w1 (b:Below w.heap.size w w1)=>hX.went b);have HR:=zV7 (fun w1 (b:Below w.heap.size w w1)=>hr.went b);have hb:=zK2;clear hX hr;rcases zJR X r with⟨k,e1,e2,e3⟩|⟨e1,e2,e3⟩
 ·have FIN:=zV7 (fun w1 (bb:Below w.heap.size w w1)=>(show zIi X r w (.returned (.tuple #[.slice a X.length c,.int .i64 (k:Int)])) w1 from⟨a,c,by rw[e3,e2],by rw[e3];exact HX.out w1 bb,by rw[e3];exact hc,bb⟩));rw[e1]at HP;have hk0:(0:Int)<=(k:Int):=by omega
  clear e1 e2 e3;go_enter Tryz.func34,Tryz.ntmps34;go_wp2_with (go_at_call 77;refine HP.out.mono ?_;rintro e w1 ⟨rfl,hb1⟩;have B1:=zV7 hb1;clear hb1);go_ret2;exact FIN.out _ B1.out
 ·rw[e1]at HP;have FIN:=zV7 (fun w1 a' c' (bb:Below w.heap.size w w1) (h:zCj a' (X++[r]) w1) (hc':X.length+1<=c')=>(show zIi X r w (.returned (.tuple #[.slice a' (X.length+1) c',.int .i64 (X.length:Int)])) w1 from⟨a',c',by rw[e3,e2];simp,by rw[e3];exact h,by rw[e3];simpa using hc',bb⟩));clear e1 e2 e3;go_enter Tryz.func34,Tryz.ntmps34
  go_wp2_with (first
   |(go_at_call 77;refine HP.out.mono ?_;rintro e w1 ⟨rfl,hb1⟩;have B1:=zV7 hb1;clear hb1;obtain⟨vs,q1,q2,q3,q4⟩:=zLp (HX.out w1 B1.out).1;have HV:=zV7 q1;have HO:=zV7 q2;have HN:=zV7 (show∀p,a=some p->∀j u,vs[j]?=some u->(w1.alloc (.cells #[] 66)).cell? (p.add j)=some u from fun p e j u hu=>(zTF e q3 hu (fun hj=>by obtain⟨b,o,ra,rc,e1,_⟩:=(HX.out w1 B1.out).1 j (by rw[←q1];exact hj);exact⟨b,o,ra,rc,e1,True,trivial⟩)));have HV4:=zV7 q4;have HM:=zV7 (show a=none->X.length=0 from fun e=>zQW (HX.out w1 B1.out).1 e);clear q1 q2 q3 q4)
   |(at_builtin;refine zCP _ rfl (.tmp 14) (.tmp 15) 30 rfl w1.heap.size 66 i0 (.slice none 0 0) 1 24 Tryz.underlying30 hi0 hz0 hz1 hz2 rfl (by decide) _ 0 [] rfl (Rw.zQ6 (zAd _ _) (Nat.le_refl _)) a X.length c vs rfl (by rw[HV.out,Nat.mul_one]) HN.out HM.out HO.out (by unfold maxLen;omega) (by omega) (by simp) ?_;intro v7 w7 hown7 hg7 _;rw[Nat.zero_add,List.nil_append]at hown7;obtain⟨a7,c7,rfl⟩:=Rw.zAG hown7;have HO7:=zV7 hown7;have B7:=zV7 (Below.grown (boxed w1 (.cells #[] 66)) hg7 (boxed w1 (.cells #[] 66)).size (fun k hk=>by cases hk;exact Nat.le_refl _));clear hown7 hg7)
   | (at_builtin;refine zCP _ rfl (.tmp 16) (.tmp 18) 30 rfl w1.heap.size 66 i0 (.slice none 0 0) 1 24 Tryz.underlying30 hi0 hz0 hz1 hz2 rfl (by decide) _ X.length vs rfl (HO7.out.alloc _) (some ⟨w7.heap.size,0,none⟩) 1 1 [.slice b r.length d] rfl rfl (zUw _ _) (fun e=>by cases e) (by simp[Value.oneCell']) (by unfold maxLen;omega) (by omega) (by have:=B7.out.size;simp;omega) ?_;intro v8 w8 hown8 hg8 _;obtain⟨a8,c8,rfl⟩:=Rw.zAG hown8;have HO8:=zV7 hown8;have C8:=zV7 (Below.grown (Gr.step B7.out (boxed w7 (.cells #[.slice b r.length d] 66))) hg8 (Gr.step B7.out (boxed w7 (.cells #[.slice b r.length d] 66))).size (fun k hk=>(HO7.out.lt k hk).1));clear hown8 hg8))
  go_ret2;have hlen:(vs++[Value.slice b r.length d]).length=(X++[r]).length:=by simp[HV.out]
  refine FIN.out w8 a8 c8 (Gr.step B1.out C8.out) ⟨zTm (base:=w1.heap.size) hlen (by have h:=HO8.out;rw[show X.length+1=(X++[r]).length by simp]at h;exact h) fun j hj=>?_,fun b' o' e' _=>zDy HO8.out (by rw[e'];rfl)⟩ (zJu HO8.out)
  by_cases hjl:j<X.length
  ·obtain⟨ra,rc,e,h1,h2,h3⟩:=HV4.out j hjl;have ej:(X++[r])[j]=X[j]:=List.getElem_append_left hjl;rw[ej];exact⟨ra,rc,by rw[List.getElem?_append_left (by rw[HV.out];exact hjl)];exact e,h1.went C8.out,h2,h3⟩
  ·obtain rfl:j=X.length:=by simp at hj;omega
   have ej:(X++[r])[X.length]'hj=r:=by simp
   rw[ej];exact⟨b,d,by rw[←HV.out];simp,HR.out w8 (Gr.step B1.out C8.out),hd,by omega⟩
end Pk
namespace Pk
open Go.RowKit Go.Maps Go.WideShapes
open Go.Proofs.YtegeamggbglneaaGreatDoor.Sep (zAE)
section
variable {w w':World} {base s n:Nat} {E:TypeId} {v:Value} {xs:List Value}
theorem zB3{x}{U}(h:w.ownsRow base E s v n xs)(hx:Ty x U w)(hE:E≠U)(hg:w.grownBy w' (some x)):w'.ownsRow base E s v n xs:=zAE h fun g e=>(zDy h e).kept hx hE hg
theorem zN4{o}(h:w.ownsRow base E s v n xs)(hg:w.grownBy w' o)(hne:∀g,v.ownBlock=some g->some g≠o):w'.ownsRow base E s v n xs:=zAE h fun g e=>hg.block g (World.ownsRow.lt h g e).2 (hne g e)
theorem zHG(h:w.ownsRow base E s v n xs)(hb:Below w.heap.size w w'):w'.ownsRow base E s v n xs:=zAE h fun g e=>hb.block g (World.ownsRow.lt h g e).2
theorem zPW{a}{r}{c}(h:w.ownsRow base 48 1 (.slice a r.length c) r.length (r.map (.int .u16))):CodT a r w:=by
 refine⟨fun i hi=>?_,fun b o e _=>zDy h (by rw[e];rfl)⟩;rw[List.length_map]at hi;obtain⟨b,rfl⟩:=zBW h (by omega);have t0:=World.ownsRow.cells h (g:=b) rfl i (.int .u16 r[i]) (by simp[hi]);rw[WideShapes.add_plain]at t0;exact⟨b,0,rfl,by simpa using t0⟩
theorem zDf{a}{X}{u}{m}{ys}(h:zCj a X w)(hu:w.ownsRow base 3 1 u m ys)(hg:w.grownBy w' u.ownBlock):zCj a X w':=by
 cases ho:u.ownBlock with
 |none=>
  rw[ho]at hg;exact h.went ⟨hg.os,hg.tape,hg.output,hg.size,fun x hx=>hg.block x hx (by simp)⟩
 |some g=>
  rw[ho]at hg;exact h.kept (zDy hu ho) (by decide) (by decide) hg
end
structure RPk (T:Tb) (aR:Option Addr) (cR:Nat) (w4:World) (p:Nat) (L1:List Int) (X1:List (List Int)) (L2:List Int) (X2:List (List Int)) (vr vg:Value) (aX:Option Addr) (cX:Nat) (aH:Option Addr) (cH:Nat) (wr:World):Prop where
 box:wr.heap[p]?=some (.cells #[.slice aR T.rules.length cR,.int .i64 T.terms,.int .i64 T.nons,vr,.slice aX X1.length cX,vg,.slice aH X2.length cH] 32 (0,0))
 row:wr.ownsRow w4.heap.size 3 1 vr L1.length (L1.map (.int .i64))
 gow:wr.ownsRow w4.heap.size 3 1 vg L2.length (L2.map (.int .i64))
 rows:zCj aX X1 wr
 gows:zCj aH X2 wr
 rc:X1.length<=cX
 gc:X2.length<=cH
 apart:∀g,vr.ownBlock=some g->vg.ownBlock≠some g
 fr:Sep.Fr (fun x=>x=p) w4 wr
 pl:p<w4.heap.size
section
variable {T:Tb} {aR:Option Addr} {cR:Nat} {w4:World} {p:Nat} {L1:List Int} {X1:List (List Int)} {L2:List Int} {X2:List (List Int)} {vr vg v':Value} {aX:Option Addr} {cX:Nat} {aH:Option Addr} {cH:Nat} {w w':World}
theorem RPk.ty(r:RPk T aR cR w4 p L1 X1 L2 X2 vr vg aX cX aH cH w):Ty p 32 w:=⟨_,_,r.box⟩
theorem RPk.went(r:RPk T aR cR w4 p L1 X1 L2 X2 vr vg aX cX aH cH w)(hb:Below w.heap.size w w'):RPk T aR cR w4 p L1 X1 L2 X2 vr vg aX cX aH cH w':=
 ⟨(hb.block p (Array.getElem?_eq_some_iff.1 r.box).1).trans r.box,zHG r.row hb,zHG r.gow hb,r.rows.went hb,r.gows.went hb,r.rc,r.gc,r.apart,r.fr.trans (.of_below hb) (fun x hx=> .inl hx),r.pl⟩
theorem RPk.setX(r:RPk T aR cR w4 p L1 X1 L2 X2 vr vg aX cX aH cH w){X}{a}{c}(h:zCj a X w)(hc:X.length<=c):RPk T aR cR w4 p L1 X L2 X2 vr vg a c aH cH (w.setCell ⟨p,4,none⟩ (.slice a X.length c)):=by
 have g:=Rg.zAj w p 4 (.slice a X.length c);refine⟨?_,zB3 r.row r.ty (by decide) g,zB3 r.gow r.ty (by decide) g,h.kept r.ty (by decide) (by decide) g,r.gows.kept r.ty (by decide) (by decide) g,hc,r.gc,r.apart,r.fr.setCell ⟨p,4,none⟩ rfl _,r.pl⟩;rw[Rg.zAR r.box (k:=4)]
 rfl
theorem RPk.setY(r:RPk T aR cR w4 p L1 X1 L2 X2 vr vg aX cX aH cH w){X}{a}{c}(h:zCj a X w)(hc:X.length<=c):RPk T aR cR w4 p L1 X1 L2 X vr vg aX cX a c (w.setCell ⟨p,6,none⟩ (.slice a X.length c)):=by
 have g:=Rg.zAj w p 6 (.slice a X.length c);refine⟨?_,zB3 r.row r.ty (by decide) g,zB3 r.gow r.ty (by decide) g,r.rows.kept r.ty (by decide) (by decide) g,h.kept r.ty (by decide) (by decide) g,r.rc,hc,r.apart,r.fr.setCell ⟨p,6,none⟩ rfl _,r.pl⟩;rw[Rg.zAR r.box (k:=6)]
 rfl
theorem RPk.setL(r:RPk T aR cR w4 p L1 X1 L2 X2 vr vg aX cX aH cH w){k}(hown:w'.ownsRow w4.heap.size 3 1 v' (L1.length+1) (L1.map (.int .i64)++[.int .i64 k]))(hg:w.grownBy w' vr.ownBlock)(hl:v'.ownBlock=vr.ownBlock\/v'.ownBlock=some w.heap.size):
  RPk T aR cR w4 p (L1++[k]) X1 L2 X2 v' vg aX cX aH cH (w'.setCell ⟨p,3,none⟩ v'):=by
 have hpw:=(Array.getElem?_eq_some_iff.1 r.box).1;have hbx:=(hg.block p hpw (fun e=>by have:=(World.ownsRow.lt r.row p e.symm).1;have:=r.pl;omega)).trans r.box;have ht:Ty p 32 w':=⟨_,_,hbx⟩;have g:=Rg.zAj w' p 3 v';refine⟨?_,?_,zB3 (zN4 r.gow hg fun x e=>fun e2=>r.apart x e2.symm e) ht (by decide) g,(zDf r.rows r.row hg).kept ht (by decide) (by decide) g,(zDf r.gows r.row hg).kept ht (by decide) (by decide) g,r.rc,r.gc,fun x e e2=>?_,(r.fr.grown hg fun x e=> .inr (World.ownsRow.lt r.row x e).1).setCell ⟨p,3,none⟩ rfl _,r.pl⟩
 ·rw[Rg.zAR hbx (k:=3)]
  rfl
 ·have h2:w'.ownsRow w4.heap.size 3 1 v' (L1++[k]).length ((L1++[k]).map (.int .i64)):=by simpa using hown
  exact zB3 h2 ht (by decide) g
 ·rcases hl with h|h
  ·exact r.apart x (h▸e) e2
  ·rw[h]at e;obtain rfl:=Option.some.inj e;have:=(World.ownsRow.lt r.gow _ e2).2;omega
theorem RPk.setM(r:RPk T aR cR w4 p L1 X1 L2 X2 vr vg aX cX aH cH w){k}(hown:w'.ownsRow w4.heap.size 3 1 v' (L2.length+1) (L2.map (.int .i64)++[.int .i64 k]))(hg:w.grownBy w' vg.ownBlock)(hl:v'.ownBlock=vg.ownBlock\/v'.ownBlock=some w.heap.size):
  RPk T aR cR w4 p L1 X1 (L2++[k]) X2 vr v' aX cX aH cH (w'.setCell ⟨p,5,none⟩ v'):=by
 have hpw:=(Array.getElem?_eq_some_iff.1 r.box).1;have hbx:=(hg.block p hpw (fun e=>by have:=(World.ownsRow.lt r.gow p e.symm).1;have:=r.pl;omega)).trans r.box;have ht:Ty p 32 w':=⟨_,_,hbx⟩;have g:=Rg.zAj w' p 5 v';refine⟨?_,zB3 (zN4 r.row hg fun x e=>fun e2=>r.apart x e e2.symm) ht (by decide) g,?_,(zDf r.rows r.gow hg).kept ht (by decide) (by decide) g,(zDf r.gows r.gow hg).kept ht (by decide) (by decide) g,r.rc,r.gc,fun x e e2=>?_,(r.fr.grown hg fun x e=> .inr (World.ownsRow.lt r.gow x e).1).setCell ⟨p,5,none⟩ rfl _,r.pl⟩
 ·rw[Rg.zAR hbx (k:=5)]
  rfl
 ·have h2:w'.ownsRow w4.heap.size 3 1 v' (L2++[k]).length ((L2++[k]).map (.int .i64)):=by simpa using hown
  exact zB3 h2 ht (by decide) g
 ·rcases hl with h|h
  ·exact r.apart x e (h▸e2)
  ·rw[h]at e2;obtain rfl:=Option.some.inj e2;have:=(World.ownsRow.lt r.row _ e).2;omega
theorem RPk.start(w4){p}(hp:p<w4.heap.size)(hb:w4.heap[p]?=some (.cells #[.slice aR T.rules.length cR,.int .i64 T.terms,.int .i64 T.nons,.slice none 0 0,.slice none 0 0,.slice none 0 0,.slice none 0 0] 32 (0,0))):
  RPk T aR cR w4 p [] [] [] [] (.slice none 0 0) (.slice none 0 0) none 0 none 0 w4:=
 ⟨hb,World.ownsRow_nil _ _ _ _,World.ownsRow_nil _ _ _ _,.nil _,.nil _,Nat.le_refl _,Nat.le_refl _,(fun g e=>nomatch e),.refl _ _,hp⟩
end
end Pk
namespace Ac
open Go.RowKit Go.Maps
open Gr (Gram Sh)
open Lk (nivs)
open Au
structure Am where
 h:Sh
 G:Gram
 aS:Option Addr
 nS:Nat
 cS:Nat
 aL:Option Addr
 nL:Nat
 cL:Nat
def amc(m:Am):Array Value:=#[.slice m.h.a1 m.G.terms.length m.h.c1,.slice m.h.a2 m.G.nons.length m.h.c2,.slice m.h.a3 m.G.rules.length m.h.c3,.int .i64 m.G.start,.slice m.aS m.nS m.cS,.slice m.aL m.nL m.cL]
def acv(x:Ac2):Value:=.agg #[.int .i64 x.1,.int .i64 x.2]
theorem zTg(m)(k:Nat)(w)(hk:k<=m.G.rules.length):
  Calls Tryz.prog 122 #[.agg (amc m),.int .i64 (k:Int)] w fun e w'=>e=.returned (acv (redA m.G.rules.length k))/\Below w.heap.size w w':=by
 have X:=zV7 (show Below w.heap.size w (w.alloc (.cells (amc m) 104))from(Below.refl _ w).alloc (Nat.le_refl _) _);unfold amc at*
 by_cases h:k=m.G.rules.length
 ·have hi:(k:Int)=(m.G.rules.length:Int):=by omega
  unfold redA;rw[if_pos h];go_enter Tryz.func122,Tryz.ntmps122;go_wp2;exact bodyPost_ret (v:=.agg #[.int .i64 3,.int .i64 0]) (by simp[results,Tryz.results122,go_sem]) rfl ⟨rfl,X.out.alloc X.out.size _⟩
 ·have hi:¬((k:Int)=(m.G.rules.length:Int)):=by omega
  unfold redA;rw[if_neg h];go_enter Tryz.func122,Tryz.ntmps122;go_wp2;exact bodyPost_ret (v:=.agg #[.int .i64 2,.int .i64 (k:Int)]) (by simp[results,Tryz.results122,go_sem]) rfl ⟨rfl,X.out.alloc X.out.size _⟩
def zHR(m:Am)(i t:Nat)(w:World):World:=((w.alloc (.cells (amc m) 104)).alloc (.cells #[.int .i64 (i:Int)] 3)).alloc (.cells #[.int .i64 (t:Int)] 3)
theorem zKY(m)(i t:Nat)(w):
  Calls Tryz.prog 97 #[.agg (amc m),.int .i64 (i:Int),.int .i64 (t:Int)] w fun e w'=>
   e=.returned (.func (.func 120) #[] #[.pointer (some ⟨w.heap.size,0,none⟩),.pointer (some ⟨w.heap.size+1,0,none⟩),.pointer (some ⟨w.heap.size+1+1,0,none⟩)])/\w'=zHR m i t w:=by
 unfold zHR amc;go_enter Tryz.func97,Tryz.ntmps97;go_wp2;go_ret;exact⟨rfl,rfl⟩
theorem zIt(m)(w):
  Calls Tryz.prog 61 #[.agg (amc m)] w fun e w'=>
   e=.returned (.func (.func 96) #[] #[.pointer (some ⟨w.heap.size,0,none⟩)])/\w'=w.alloc (.cells (amc m) 104):=by
 unfold amc;go_enter Tryz.func61,Tryz.ntmps61;go_wp2;go_ret;exact⟨rfl,rfl⟩
theorem zUN(a)(c t:Nat)(w):
  Calls Tryz.prog 121 #[.slice a 0 c,.int .i64 (t:Int)] w fun e w'=>e=.returned (.tuple #[.int .i64 0,.bool false])/\w'=w:=by
 go_enter Tryz.func121,Tryz.ntmps121;go_wp2;go_loopw [7,8] (fun s7 s8 wr=>s7=.int .i64 0/\s8=.int .i64 0/\wr=w) (fun _ _ _=>0)
 case atStart=>exact⟨rfl,rfl,rfl⟩
 case round=>
  obtain⟨rfl,rfl,rfl⟩:=hrel;go_wp2;go_ret2;exact⟨rfl,rfl⟩
theorem zUM(l)(a)(c t:Nat)(w)(h:Sep.Reads a (nivs l) w)(hs:l.Pairwise (· < ·))(hl:l.length<=1000000):
  Calls Tryz.prog 121 #[.slice a l.length c,.int .i64 (t:Int)] w fun e w'=>∃p:Int,e=.returned (.tuple #[.int .i64 p,.bool (decide (t∈l))])/\Below w.heap.size w w':=by
 cases l with
 |nil=>
  refine(zUN a c t w).mono ?_;rintro e w' ⟨rfl,rfl⟩;exact⟨0,by simp,.refl _ _⟩
 |cons x l=>
  obtain⟨b,o,e,_⟩:=h 0 (by simp[nivs]);subst e
  have hc:∀j,j<((x::l).map fun k:Nat=>(k:Int)).length->w.cell? ⟨b,o+j,none⟩=some (.int .i64 (((x::l).map fun k:Nat=>(k:Int)).getD j 0)):=by
   intro j hj;rw[List.length_map]at hj;obtain⟨b',o',e,h2⟩:=h j (by simpa[nivs]using hj);simp only[Option.some.injEq,Addr.mk.injEq,and_true]at e;obtain⟨rfl,rfl⟩:=e;rw[h2];rw[List.getD_eq_getElem?_getD,List.getElem?_map,List.getElem?_eq_getElem hj];simp only[nivs,List.getElem_map,Option.map_some,Option.getD_some]
  have hcon:=AnyG.slices_BinarySearch_int Tryz.bsInt b o (x::l).length c ((x::l).map fun k:Nat=>(k:Int)) (t:Int) w (by simp) (by omega) hc (by
   rw[List.take_of_length_le (by simp),List.pairwise_map]
   exact hs.imp fun {a b} hab=>by omega)
  change Calls Tryz.prog 121 _ _ _ at hcon;refine hcon.mono ?_;rintro e w' ⟨he,q,rfl⟩
  have hb:((x::l).map fun k:Nat=>(k:Int)).contains (t:Int)=decide (t∈x::l):=by
   rw[Bool.eq_iff_iff,List.contains_iff_mem,decide_eq_true_iff,List.mem_map];constructor
   ·rintro⟨k,hk,e⟩;obtain rfl:k=t:=by omega
    exact hk
   ·exact fun hk=>⟨t,hk,rfl⟩
  rw[List.take_of_length_le (by simp),hb]at he;exact⟨_,he,⟨rfl,rfl,rfl,Nat.le_refl _,fun _ _=>rfl⟩⟩
end Ac
namespace Ac
open Gr (Gram)
open Au
section
variable {α:Type}
def upTo(f:Nat->List α)(n:Nat):List α:=(List.range n).flatMap f
theorem zFs(f:Nat->List α)(n):upTo f (n+1)=upTo f n++f n:=by
 unfold upTo;rw[List.range_succ,List.flatMap_append];simp
theorem zOv{f:Nat->List α}{n i j}(hi:i<n)(hj):(upTo f n)[(upTo f i).length+j]?=some (f i)[j]:=by
 induction n with
 |zero=>omega
 |succ n ih=>
  rw[zFs]
  by_cases h:i<n
  ·have:=ih h;rw[List.getElem?_append_left (List.getElem?_eq_some_iff.1 this).1,this]
  ·obtain rfl:i=n:=by omega
   rw[List.getElem?_append_right (by omega),Nat.add_sub_cancel_left,List.getElem?_eq_getElem hj]
end
section
variable {G:Gram} {q:Whole}
noncomputable def cI(G:Gram)(q:Whole)(i:Nat):Nat:=(upTo (rowC G q) i).length
noncomputable def cT(G:Gram)(q:Whole)(i t:Nat):Nat:=cI G q i+(upTo (cellC G q i) t).length
theorem zSO(i):cT G q i (G.terms.length+1)=cI G q (i+1):=by
 unfold cT cI;rw[zFs (rowC G q),List.length_append]
 rfl
theorem zJv(i t):(cellC G q i t).length=(actL G q i t).length-1:=by
 unfold cellC;rw[List.length_map,List.length_tail]
theorem zSP(i t):cT G q i (t+1)=cT G q i t+((actL G q i t).length-1):=by
 unfold cT;rw[zFs,List.length_append,zJv,Nat.add_assoc]
theorem zSN:cI G q q.1.length=(zBP G q).length:=rfl
theorem zJw{i t j}(hi:i<q.1.length)(ht:t<G.terms.length+1){a b}(ha:(actL G q i t)[0]?=some a)(hb:(actL G q i t)[j+1]?=some b):
  (zBP G q)[cT G q i t+j]?=some ((i:Int),(t:Int),a,b):=by
 obtain⟨hl,hb⟩:=List.getElem?_eq_some_iff.1 hb;have hj:j<(cellC G q i t).length:=by rw[zJv];omega
 have h1:=zOv (f:=cellC G q i) ht hj;obtain⟨h2,h3⟩:=List.getElem?_eq_some_iff.1 h1;have h4:=zOv (f:=rowC G q) (n:=q.1.length) (i:=i) (j:=(upTo (cellC G q i) t).length+j) hi h2;unfold cT cI;rw[Nat.add_assoc];show(upTo (rowC G q) q.1.length)[_]?= _;rw[h4];have h5:(rowC G q i)[(upTo (cellC G q i) t).length+j]=(cellC G q i t)[j]:=h3
 have hf:fstA G q i t=a:=by
  unfold fstA;rcases hA:actL G q i t with _|⟨x,l⟩
  ·rw[hA]at ha;cases ha
  ·rw[hA]at ha;injection ha with ha
 have h6:(cellC G q i t)[j]?=some ((i:Int),(t:Int),a,b):=by
  unfold cellC;rw[hf,List.getElem?_map,List.getElem?_tail,List.getElem?_eq_getElem hl,hb]
  rfl
 rw[List.getElem?_eq_getElem hj]at h6;rw[h5,h6]
theorem zPC{i t k:Nat}{x}(h:(actL G q i t)[k]?=some x):x.1=1\/x.1=2\/x.1=3:=by
 have hm:=List.mem_of_getElem? h;unfold actL zBY accL redL at hm;rw[List.mem_append,List.mem_append]at hm;rcases hm with(h|h)|h
 ·split at h
  ·rw[List.mem_singleton]at h;subst h;exact .inl rfl
  ·cases h
 ·split at h
  ·rw[List.mem_singleton]at h;subst h;exact .inr (.inr rfl)
  ·cases h
 ·obtain⟨k,_,rfl⟩:=List.mem_map.1 h;exact .inr (.inl rfl)
end
end Ac
namespace Pk
open Go.RowKit Go.Maps
open Gr (boxed)
def zCm{α:Type}(X:List (List α))(n:Nat):Prop:=∀j (h:j<X.length),j<n->X[j].length<=60
theorem zCm.all{α}{X:List (List α)}(h:zCm X X.length):∀r∈X,r.length<=100000:=fun r hr=>by
 obtain⟨j,hj,rfl⟩:=List.getElem_of_mem hr;have:=h j hj hj;omega
theorem zCm.step{α}{X:List (List α)}{n}(h:zCm X n)(hn)(e:X[n].length<=60):zCm X (n+1):=fun j hj hl=>by
 by_cases k:j=n
 ·subst k;exact e
 ·exact h j hj (by omega)
theorem zCm.zero{α}(X:List (List α)):zCm X 0:=fun j _ h=>absurd h (Nat.not_lt_zero j)
def zUF(T:Tb)(w:World)(e:Ending)(w':World):Prop:=∃b,e=.returned (.bool b)/\(b=true->TSm T/\T.acts.length<=60/\T.rules.length<=60)/\Below w.heap.size w w'
theorem zIa(T:Tb)(aR:Option Addr)(cR:Nat)(aA:Option Addr)(cA:Nat)(aG:Option Addr)(cG:Nat)(w:World)(D:TAt T aR cR aA cA aG cG w):
  Calls Tryz.prog 7 #[.agg (tvs T aR cR aA cA aG cG)] w (zUF T w):=by
 have B1:=zV7 (boxed w (.cells (tvs T aR cR aA cA aG cG) 26));have Z1:=zV7 (zAp (T:=T) (aR:=aR) (cR:=cR) (aA:=aA) (cA:=cA) (aG:=aG) (cG:=cG) w 26);have DD:=zV7 (fun w1 (b:Below w.heap.size w w1)=>D.went b);have hrl:=D.rl;have hal:=D.al;have hgl:=D.gl;clear D;obtain⟨z0,z1,z2,z3,z4⟩:=Z1.out;unfold tvs at*
 by_cases h1:(60:Int)<(T.acts.length:Int)
 ·go_enter Tryz.func7,Tryz.ntmps7;go_wp2_with fail;go_ret;exact⟨false,rfl,(fun e=>nomatch e),B1.out⟩
 by_cases h2:(60:Int)<(T.goto.length:Int)
 ·go_enter Tryz.func7,Tryz.ntmps7;go_wp2_with fail;go_ret;exact⟨false,rfl,(fun e=>nomatch e),B1.out⟩
 by_cases h3:(60:Int)<(T.rules.length:Int)
 ·go_enter Tryz.func7,Tryz.ntmps7;go_wp2_with fail;go_ret;exact⟨false,rfl,(fun e=>nomatch e),B1.out⟩
 go_enter Tryz.func7,Tryz.ntmps7;go_wp2_with fail;generalize w.alloc (.cells #[.slice aR T.rules.length cR,.int .i64 T.terms,.int .i64 T.nons,.slice aA T.acts.length cA,.slice aG T.goto.length cG] 26)=w2 at*;clear z0 z1 z2 z3 z4;go_loopw [3] (fun v wr=>∃i:Nat,v=.int .i64 (i:Int)/\i<=T.acts.length/\zCm T.acts i/\Below w2.heap.size w2 wr) (fun v _=>T.acts.length-(intOf v).toNat)
 case atStart=>exact⟨0,rfl,Nat.zero_le _,.zero _,.refl _ _⟩
 case round=>
  obtain⟨i,rfl,hi,hA,hB⟩:=hrel;have A:=zV7 hA;have B:=zV7 hB;clear hB hA;obtain⟨z0,z1,z2,z3,z4⟩:=Z1.out.went B.out
  by_cases hlt:i<T.acts.length
  ·have BW:=zV7 (Gr.step B1.out B.out);obtain⟨b,o,ra,c,rfl,p0,_,_,_⟩:=(DD.out wr BW.out).acts i hlt;have hil:(i:Int)<(T.acts.length:Int):=by omega
   have AS:=zV7 (fun e=>A.out.step hlt e);generalize T.acts[i]=row at*
   by_cases hr:(60:Int)<(row.length:Int)
   ·go_wp2_with fail;go_ret;exact⟨false,rfl,(fun e=>nomatch e),BW.out⟩
   ·have A2:=zV7 (AS.out (by omega));go_wp2_with fail;go_roundw
    case rel=>exact⟨i+1,by go_num,by omega,A2.out,B.out⟩
    case measure=>first|(simp[intOf];omega)|omega
  ·obtain rfl:i=T.acts.length:=by omega
   go_wp2_with fail;generalize wr=w5 at*;clear z0 z1 z2 z3 z4;go_loopw [4] (fun v wr=>∃i:Nat,v=.int .i64 (i:Int)/\i<=T.goto.length/\zCm T.goto i/\Below w5.heap.size w5 wr) (fun v _=>T.goto.length-(intOf v).toNat)
   case atStart=>exact⟨0,rfl,Nat.zero_le _,.zero _,.refl _ _⟩
   case round=>
    obtain⟨i,rfl,hi,hA,hB⟩:=hrel;have A3:=zV7 hA;have B3:=zV7 (Gr.step B.out hB);have C3:=zV7 hB;clear hB hA;obtain⟨z0,z1,z2,z3,z4⟩:=Z1.out.went B3.out
    by_cases hlt:i<T.goto.length
    ·have BW:=zV7 (Gr.step B1.out B3.out);obtain⟨b,o,ra,c,rfl,p0,_,_,_⟩:=(DD.out wr BW.out).goto i hlt;have hil:(i:Int)<(T.goto.length:Int):=by omega
     have AS:=zV7 (fun e=>A3.out.step hlt e);generalize T.goto[i]=row at*
     by_cases hr:(60:Int)<(row.length:Int)
     ·go_wp2_with fail;go_ret;exact⟨false,rfl,(fun e=>nomatch e),BW.out⟩
     ·have A2:=zV7 (AS.out (by omega));go_wp2_with fail;go_roundw
      case rel=>exact⟨i+1,by go_num,by omega,A2.out,C3.out⟩
      case measure=>first|(simp[intOf];omega)|omega
    ·obtain rfl:i=T.goto.length:=by omega
     go_wp2_with fail;generalize wr=w6 at*;clear z0 z1 z2 z3 z4;go_loopw [5] (fun v wr=>∃i:Nat,v=.int .i64 (i:Int)/\i<=T.rules.length/\zCm (T.rules.map (·.2)) i/\Below w6.heap.size w6 wr) (fun v _=>T.rules.length-(intOf v).toNat)
     case atStart=>exact⟨0,rfl,Nat.zero_le _,.zero _,.refl _ _⟩
     case round=>
      obtain⟨i,rfl,hi,hA,hB⟩:=hrel;have A4:=zV7 hA;have B4:=zV7 (Gr.step B3.out hB);have C4:=zV7 hB;clear hB hA;obtain⟨z0,z1,z2,z3,z4⟩:=Z1.out.went B4.out;have BW:=zV7 (Gr.step B1.out B4.out)
      by_cases hlt:i<T.rules.length
      ·obtain⟨b,o,ra,c,rfl,p0,p1,_,_⟩:=(DD.out wr BW.out).rules i hlt;have hil:(i:Int)<(T.rules.length:Int):=by omega
       have AS:=zV7 (fun e=>A4.out.step (by rw[List.length_map];exact hlt) (by rw[List.getElem_map];exact e));generalize T.rules[i]=row at*;obtain⟨rl,rr⟩:=row;dsimp only at p0 p1
       by_cases hr:(60:Int)<(rr.length:Int)
       ·go_wp2_with fail;go_ret;exact⟨false,rfl,(fun e=>nomatch e),BW.out⟩
       ·have A2:=zV7 (AS.out (by dsimp only;omega));go_wp2_with fail;go_roundw
        case rel=>exact⟨i+1,by go_num,by omega,A2.out,C4.out⟩
        case measure=>first|(simp[intOf];omega)|omega
      ·obtain rfl:i=T.rules.length:=by omega
       have SM:=zV7 (show TSm T/\T.acts.length<=60/\T.rules.length<=60 from⟨⟨by omega,by omega,by omega,fun r hr=>(show zCm (T.rules.map (·.2)) (T.rules.map (·.2)).length by rw[List.length_map];exact A4.out).all r.2 (List.mem_map_of_mem hr),A.out.all,A3.out.all⟩,by omega,by omega⟩);go_wp2_with fail;go_ret;exact⟨true,rfl,fun _=>SM.out,BW.out⟩
