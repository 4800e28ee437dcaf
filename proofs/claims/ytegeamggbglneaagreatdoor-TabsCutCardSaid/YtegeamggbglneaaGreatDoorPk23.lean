/- Proof. -/
import Derived.Test.YtegeamggbglneaaGreatDoorPk22
import Derived.Lib.SlBytesConst
set_option maxHeartbeats 8000000
set_option maxRecDepth 100000
set_option linter.unusedVariables false
namespace Go.Proofs.YtegeamggbglneaaGreatDoor
open Go.RowKit Go.Maps
namespace Pk
open Go.Proofs.YtegeamggbglneaaGreatDoor.Sep (Fr)
theorem zJB{n nx}{L:List Int}{i}(hi):ji n nx (L.drop i)=if L[i]<0\/nx<L[i]then false else ji n (max nx (L[i]+1)) (L.drop (i+1)):=by
 rw[List.drop_eq_getElem_cons hi]
 rfl
theorem zLU{n nx}{L:List Int}{i}(hi:¬i<L.length):ji n nx (L.drop i)=decide (nx=n):=by
 rw[List.drop_of_length_le (by omega)]
 rfl
theorem Uk(L:List Int)(a:Option Addr)(c:Nat)(n:Int)(w:World)(h:dW a L w)(hl:L.length<=17592186044416):
  Calls Tryz.prog 84 #[.slice a L.length c,.int .i64 n] w (Gr.Is (.bool (ji n 0 L)) w):=by
 have HR:=af (fun w1 (b:Below w.heap.size w w1)=>h.went b);have E0:=af (show ji n 0 (L.drop 0)=ji n 0 L by rw[List.drop_zero]);generalize ji n 0 L=g at*;have ST:=af (fun nx i (hi:i<L.length) (e:ji n nx (L.drop i)=g)=>(show g=if L[i]<0\/nx<L[i]then false else ji n (max nx (L[i]+1)) (L.drop (i+1))by rw[←e];exact zJB hi));have EN:=af (fun nx i (hi:¬i<L.length) (e:ji n nx (L.drop i)=g)=>(show g=decide (nx=n)by rw[←e];exact zLU hi));clear h;go_enter Tryz.func84,Tryz.ntmps84;go_wp2_with fail;go_loopw [5,10] (fun u v wr=>∃(i nx:Nat),u=.int .i64 (nx:Int)/\v=.int .i64 (i:Int)/\i<=L.length/\nx<=i/\ji n (nx:Int) (L.drop i)=g/\Below w.heap.size w wr) (fun _ v _=>L.length-(intOf v).toNat)
 case atStart=>exact⟨0,0,rfl,rfl,Nat.zero_le _,Nat.le_refl _,E0.out,.refl _ _⟩
 case round=>
  obtain⟨i,nx,rfl,rfl,hi,hn,hF,hB⟩:=hrel;have B:=af hB;have FF:=af hF;clear hF hB
  by_cases hlt:i<L.length
  ·obtain⟨b,o,rfl,p0⟩:=(HR.out wr B.out).at hlt;have hil:(i:Int)<(L.length:Int):=by omega
   have S:=af (ST.out nx i hlt FF.out);generalize L[i]=x at*
   by_cases h1:x<0
   ·have G2:=af (show g=false by rw[S.out,if_pos (.inl h1)]);clear S FF;go_wp2_with fail;go_ret;exact⟨Gr.aU G2.out,B.out⟩
   by_cases h2:(nx:Int)<x
   ·have G2:=af (show g=false by rw[S.out,if_pos (.inr h2)]);clear S FF;go_wp2_with fail;go_ret;exact⟨Gr.aU G2.out,B.out⟩
   obtain⟨y,rfl⟩:∃y:Nat,x=(y:Int):=⟨x.toNat,by omega⟩;have hm:max (nx:Int) ((y:Int)+1)=((max nx (y+1):Nat):Int):=by omega
   have G2:=af (show ji n ((max nx (y+1):Nat):Int) (L.drop (i+1))=g by rw[S.out,if_neg (by omega),hm]);have hmb:max nx (y+1)<=i+1:=by omega
   have hw1:IntKind.i64.wrap ((y:Int)+1)=(y:Int)+1:=by rw[IntKind.wrap_i64];omega
   clear S FF;generalize hmx:max nx (y+1)=mx at*
   by_cases h3:(nx:Int)<(y:Int)+1
   ·have Ks:mx=y+1:=by omega
    subst Ks;clear hmx hm;go_wp2_with fail;go_roundw
    case rel=>exact⟨i+1,y+1,by go_num,by go_num,by omega,hmb,G2.out,B.out⟩
    case measure=>first|(simp[intOf];omega)|omega
   ·have Ks:mx=nx:=by omega
    subst Ks;clear hmx hm;go_wp2_with fail;go_roundw
    case rel=>exact⟨i+1,mx,by go_num,by go_num,by omega,hmb,G2.out,B.out⟩
    case measure=>first|(simp[intOf];omega)|omega
  ·have G2:=af (EN.out nx i hlt FF.out);obtain rfl:i=L.length:=by omega
   go_wp2;go_ret;refine⟨Gr.aU ?_,B.out⟩;rw[G2.out,Bool.eq_iff_iff,decide_eq_true_iff,beq_iff_eq]
def OH(lo ps bm:Nat)(L:Nat->List (List Int))(k:Nat)(X:List (List Int))(w:World)(e:Ending)(w':World):Prop:=
 e=.returned (.bool (decide X.Nodup))/\(X.Nodup->∃v' vs',bH lo ps bm (upd L k X) v' vs' w')/\Below lo w w'
theorem zLp{X:List (List Int)}{i}(hi)(h:(X.take i).Nodup)(hn:X[i]∉X.take i):(X.take (i+1)).Nodup:=by
 have:=Vq (r:=X[i]) h;rw[(sA hn).1]at this;rw[List.take_succ_eq_append_getElem hi];exact this
theorem zP2{X:List (List Int)}{i}(hi)(hn:X[i]∈X.take i):¬X.Nodup:=fun h=>by
 obtain⟨j,hj,e⟩:=List.mem_iff_getElem.1 hn;rw[List.length_take]at hj;rw[List.getElem_take]at e;have:=List.nodup_iff_pairwise_ne.1 h;have:=(List.pairwise_iff_getElem.1 this) j i (by omega) hi (by omega);exact this e
theorem Tv{lo ps bm:Nat}{L:Nat->List (List Int)}{v:Nat->Value}{vs:Nat->List Value}(w:World)(h:bH lo ps bm L v vs w)(k:Nat)(hk:k<2)(he:L k=[])(hl:∀j,j<2->(L j).length<=100000)(X:List (List Int))(a:Option Addr)(c:Nat)
  (hR:∀w1,Below lo w w1->wQ a X w1) (hX:X.length<=100000) (hc:∀r∈X,mH r):
  Calls Tryz.prog 85 #[.pointer (some ⟨ps,0,none⟩),.int .i64 (k:Int),.slice a X.length c] w (OH lo ps bm L k X w):=by
 have hlo:lo<=w.heap.size:=Nat.le_trans h.lp (Nat.le_of_lt h.lt);have HC:=af hc;have HR:=af hR
 have HL:=af (fun i j (hj:j<2)=>(show(upd L k (X.take i) j).length<=100000 by
  unfold upd;split
  ·rw[List.length_take];omega
  ·exact hl j hj))
 have S0:=af (show bH lo ps bm (upd L k (X.take 0)) v vs w by
  rw[List.take_zero,←he,Ef]
  exact h)
 clear h hc hR hl he;go_enter Tryz.func85,Tryz.ntmps85;go_wp2_with fail;go_loopw [11] (fun u wr=>∃(i:Nat) (v:Nat->Value) (vs:Nat->List Value),u=.int .i64 (i:Int)/\i<=X.length/\(X.take i).Nodup/\bH lo ps bm (upd L k (X.take i)) v vs wr/\Below lo w wr) (fun u _=>X.length-(intOf u).toNat)
 case atStart=>exact⟨0,v,vs,rfl,Nat.zero_le _,List.nodup_nil,S0.out,.refl _ _⟩
 case round=>
  obtain⟨i,v,vs,rfl,hi,hN,hS,hB⟩:=hrel;have B:=af hB;have N:=af hN;have S:=af hS;clear hN hS hB S0
  by_cases hlt:i<X.length
  ·obtain⟨b,o,ra,rc,rfl,p0,hr,_,_⟩:=HR.out wr B.out i hlt;have hil:(i:Int)<(X.length:Int):=by omega
   have PL:=af (MP wr S.out k hk X[i] ra rc hr (HC.out _ (List.getElem_mem hlt)) (HL.out i));unfold Ie at PL;rw[upd_same]at PL;have Gc:(X.take i).length=i:=by rw[List.length_take];omega
   have Q4:=af (fun(w':World) (f:Fr (r9 ps bm v) wr w')=>(show Below lo w w' from B.out.trans (f.below (fun x hx=>S.out.ow hx) (Nat.le_trans S.out.lp (Nat.le_of_lt S.out.lt)))))
   by_cases hin:X[i]∈X.take i
   ·have cx:=(yS hin).2.2;rw[Gc]at cx;have ND:=af (zP2 hlt hin);generalize X[i]=r at*;generalize eQ (X.take i) r=z at*;have hne:((z:Int) != (i:Int))=true:=by rw[bne_iff_ne];omega
    clear hin hr Gc cx;go_wp2_with fail;refine PL.out.mono ?_;rintro e w3 ⟨rfl,v',_,hf,_⟩;have B3:=af (Q4.out w3 hf);clear hf;go_wp2_with fail;go_ret;exact⟨Gr.aU (decide_eq_false ND.out),fun hn=>absurd hn ND.out,B3.out⟩
   ·have hz:=(sA hin).2;have hput:=(sA hin).1;rw[Gc]at hz;have N2:=af (zLp hlt N.out hin)
    have E2:=af (show upd (upd L k (X.take i)) k (bZ (X.take i) X[i])=upd L k (X.take (i+1))by
     rw[hput,List.take_succ_eq_append_getElem hlt]
     funext j
     unfold upd
     split<;>rfl)
    rw[E2.out,hz]at PL;generalize X[i]=r at*;have hne:((i:Int) != (i:Int))=false:=by simp
    clear hin hr Gc hz hput E2;go_wp2_with fail;refine PL.out.mono ?_;rintro e w3 ⟨rfl,v',hs,hf,_⟩;have B3:=af (Q4.out w3 hf);have S3:=af hs;clear hf hs;go_wp2_with fail;go_roundw
    case rel=>exact⟨i+1,v',_,by go_num,by omega,N2.out,S3.out,B3.out⟩
    case measure=>first|(simp[intOf];omega)|omega
  ·obtain rfl:i=X.length:=by omega
   have N2:=N.out;have S2:=S.out;rw[List.take_length]at N2 S2;have N3:=af N2;have S3:=af S2;clear N2 S2;go_wp2;go_ret;exact⟨Gr.aU (decide_eq_true N3.out),fun _=>⟨v,vs,S3.out⟩,B.out⟩
end Pk
namespace Pk
open Gr (boxed)
theorem zFd(P:Pd)(aR:Option Addr)(cR:Nat)(aW:Option Addr)(cW:Nat)(aX:Option Addr)(cX:Nat)(aG:Option Addr)(cG:Nat)(aH:Option Addr)(cH:Nat)(w:World)(D:dX P aR cR aW cW aX cX aG cG aH cH w)(h0:0<P.rules.length)(ht:0<=P.terms):
  Calls Tryz.prog 38 #[.agg (bU P aR cR aW cW aX cX aG cG aH cH)] w (Gr.Is (.bool (yT P)) w):=by
 have b1:=boxed w (.cells (bU P aR cR aW cW aX cX aG cG aH cH) 32);have B1:=af b1;have Z1:=af (nJ (P:=P) (aR:=aR) (cR:=cR) (aW:=aW) (cW:=cW) (aX:=aX) (cX:=cX) (aG:=aG) (cG:=cG) (aH:=aH) (cH:=cH) w 32);obtain⟨bR,oR,_,_,rfl, -⟩:=D.rules 0 h0;obtain⟨m,hm⟩:∃m,P.rules.length=m+1:=⟨P.rules.length-1,by omega⟩;have hlm:(P.rules.take (P.rules.length-1)).length=m:=by rw[List.length_take];omega
 have hrl:=D.rl;have hc:=D.rc
 have hrt:eZ (some ⟨bR,oR,none⟩) (P.rules.take (P.rules.length-1)) w:=fun i hi=>by
  have hi':i<P.rules.length:=by omega
  obtain⟨b,o,ra,rc,e,h1,h2,h3,h4⟩:=D.rules i hi';rw[List.getElem_take];exact⟨b,o,ra,rc,e,h1,h2,h3,h4⟩
 have CT:=af (zF5 P (some ⟨bR,oR,none⟩) cR aW cW aX cX aG cG aH cH w.heap.size _ Z1.out ht (P.rules.take (P.rules.length-1)) (some ⟨bR,oR,none⟩) cR (hrt.went b1) (by omega) (fun x hx=>D.fit.left _ (List.mem_of_mem_take hx)));have RP:=af (show yT P=(P.rules.take (P.rules.length-1)).all (eV P.terms P.ah)from rfl);rw[hlm]at CT;generalize yT P=g at*;generalize (P.rules.take (P.rules.length-1)).all (eV P.terms P.ah)=al at*;have hw:IntKind.i64.wrap ((P.rules.length:Int)-1)=(m:Int):=by rw[IntKind.wrap_i64];omega
 have hc2:(m:Int)<=(cR:Int):=by omega
 have hc3:m<=cR:=by omega
 clear D hrt b1 hlm hm hc hrl h0;unfold bU at*;obtain⟨z0,z1,z2,z3,z4,z5,z6⟩:=Z1.out;go_enter Tryz.func38,Tryz.ntmps38;go_wp2_with fail;refine CT.out.mono ?_;rintro e w3 ⟨rfl,hb3⟩;have B3:=af (Gr.step B1.out hb3);clear hb3;go_wp2_with fail;go_ret;exact⟨Gr.aU RP.out,B3.out⟩
theorem zFb(P:Pd)(aR:Option Addr)(cR:Nat)(aW:Option Addr)(cW:Nat)(aX:Option Addr)(cX:Nat)(aG:Option Addr)(cG:Nat)(aH:Option Addr)(cH:Nat)(w:World)(D:dX P aR cR aW cW aX cX aG cG aH cH w)(S:uT P):
  Calls Tryz.prog 39 #[.agg (bU P aR cR aW cW aX cX aG cG aH cH)] w (Gr.Is (.bool (rL P)) w):=by
 have B1:=af (boxed w (.cells (bU P aR cR aW cW aX cX aG cG aH cH) 32));have Z1:=af (nJ (P:=P) (aR:=aR) (cR:=cR) (aW:=aW) (cW:=cW) (aX:=aX) (cX:=cX) (aG:=aG) (cG:=cG) (aH:=aH) (cH:=cH) w 32);have DX:=af (fun w1 (b:Below w.heap.size w w1)=>(D.went b).rows);have DH:=af (fun w1 (b:Below w.heap.size w w1)=>(D.went b).aj);have CX:=af (fun b w1 Z L a c h hl hp=>zF3 P aR cR aW cW aX cX aG cG aH cH b w1 Z D.wl D.rl L a c h hl hp);have CH:=af (fun b w1 Z L a c h hl hp=>zF4 P aR cR aW cW aX cX aG cG aH cH b w1 Z D.wl L a c h hl hp);have FX:=af (fun i (hi:i<P.rows.length)=>D.fit.rows _ (List.getElem_mem hi));have FH:=af (fun i (hi:i<P.aj.length)=>D.fit.aj _ (List.getElem_mem hi));have SX:=af (fun i (hi:i<P.rows.length)=>zY S.wr hi);have SH:=af (fun i (hi:i<P.aj.length)=>zY S.gr hi);have hxl:=S.zJ;have Rq:=S.zh;have CP:=af (show rL P=(P.rows.all (jb P.row.length P.rules.length P.terms)&&P.aj.all (fU P.row.length P.ah))from rfl);have FT:=af (fun i (hi:i<P.rows.length) (e:jb P.row.length P.rules.length P.terms P.rows[i]=false)=>(show rL P=false by rw[CP.out,kq hi e];rfl));have FE:=af (fun i (h:(P.rows.take i).all (jb P.row.length P.rules.length P.terms)=true) (hi:¬i<P.rows.length)=>(show rL P=P.aj.all (fU P.row.length P.ah)by rw[CP.out,ku h hi];rfl));have ST:=af (fun i (h:(P.rows.take i).all (jb P.row.length P.rules.length P.terms)=true) (hi:i<P.rows.length) (e:jb P.row.length P.rules.length P.terms P.rows[i]=true)=>nG h hi e);have Z0:=af (nI (jb P.row.length P.rules.length P.terms) P.rows);have GT:=af (fun i (hi:i<P.aj.length) (e:fU P.row.length P.ah P.aj[i]=false)=>(show P.aj.all (fU P.row.length P.ah)=false from kq hi e));have GE:=af (fun i (h:(P.aj.take i).all (fU P.row.length P.ah)=true) (hi:¬i<P.aj.length)=>(show P.aj.all (fU P.row.length P.ah)=true from ku h hi));have GS:=af (fun i (h:(P.aj.take i).all (fU P.row.length P.ah)=true) (hi:i<P.aj.length) (e:fU P.row.length P.ah P.aj[i]=true)=>nG h hi e);have G0:=af (nI (fU P.row.length P.ah) P.aj);generalize rL P=g at*;generalize P.aj.all (fU P.row.length P.ah)=gg at*;clear D S CP;obtain⟨z0,z1,z2,z3,z4,z5,z6⟩:=Z1.out;unfold bU at*;go_enter Tryz.func39,Tryz.ntmps39;go_wp2_with fail;generalize w.alloc (.cells #[.slice aR P.rules.length cR,.int .i64 P.terms,.int .i64 P.ah,.slice aW P.row.length cW,.slice aX P.rows.length cX,.slice aG P.bj.length cG,.slice aH P.aj.length cH] 32)=w2 at*;clear z0 z1 z2 z3 z4 z5 z6;go_loopw [10] (fun v wr=>∃i:Nat,v=.int .i64 (i:Int)/\i<=P.rows.length/\(P.rows.take i).all (jb P.row.length P.rules.length P.terms)=true/\Below w2.heap.size w2 wr) (fun v _=>P.rows.length-(intOf v).toNat)
 case atStart=>exact⟨0,rfl,Nat.zero_le _,Z0.out,.refl _ _⟩
 case round=>
  obtain⟨i,rfl,hi,hA,hB⟩:=hrel;have A:=af hA;have B:=af hB;clear hB hA Z0
  by_cases hlt:i<P.rows.length
  ·have BW:=af (Gr.step B1.out B.out);obtain⟨b,o,ra,c,rfl,p0,p1,_,_⟩:=DX.out wr BW.out i hlt;obtain⟨z0,z1,z2,z3,z4,z5,z6⟩:=Z1.out.went B.out;have hil:(i:Int)<(P.rows.length:Int):=by omega
   have ed:=af (FT.out i hlt);have gG:=af (ST.out i A.out hlt);have hlen:=SX.out i hlt;have CT:=af (CX.out _ wr (Z1.out.went B.out) P.rows[i] ra c p1 (by omega) (FX.out i hlt));clear p1;unfold jb at ed gG;generalize P.rows[i]=row at*;have hw:IntKind.i64.wrap ((row.length:Int)-1)=(row.length:Int)-1:=by rw[IntKind.wrap_i64];omega
   by_cases hr:(row.length:Int)-1=P.terms
   ·have vp:((row.length:Int)-1 != P.terms)=false:=by rw[hr];simp
    have HR:=af hr;clear hr;cases hok:row.all (ja P.row.length P.rules.length)with
    |true=>
     have S2:=af (gG.out (by rw[hok,decide_eq_true HR.out];rfl));rw[hok]at CT;clear hok ed gG;go_wp2_with fail;refine CT.out.mono ?_;rintro e w6 ⟨rfl,fw⟩;have K6:=af (Gr.step B.out fw);clear fw;go_wp2_with fail;go_roundw
     case rel=>exact⟨i+1,by go_num,by omega,S2.out,K6.out⟩
     case measure=>first|(simp[intOf];omega)|omega
    |false=>
     have F2:=af (ed.out (by rw[hok,Bool.and_false]));rw[hok]at CT;clear hok ed gG;go_wp2_with fail;refine CT.out.mono ?_;rintro e w6 ⟨rfl,fw⟩;have K6:=af (Gr.step BW.out fw);clear fw;go_wp2_with fail;go_ret;exact⟨Gr.aU F2.out,K6.out⟩
   ·have F2:=af (ed.out (by rw[decide_eq_false hr];rfl));have vp:((row.length:Int)-1 != P.terms)=true:=by rw[bne_iff_ne];exact hr
    clear ed gG CT;go_wp2_with fail;go_ret;exact⟨Gr.aU F2.out,BW.out⟩
  ·have F1:=af (FE.out i A.out hlt);obtain rfl:i=P.rows.length:=by omega
   obtain⟨z0,z1,z2,z3,z4,z5,z6⟩:=Z1.out.went B.out;have Z5:=af (Z1.out.went B.out);have B5:=af (Gr.step B1.out B.out);clear FT FE ST CX FX SX A DX Z1 B1 B;go_wp2_with fail;generalize wr=w5 at*;clear z0 z1 z2 z3 z4 z5 z6;go_loopw [29] (fun v wz=>∃i:Nat,v=.int .i64 (i:Int)/\i<=P.aj.length/\(P.aj.take i).all (fU P.row.length P.ah)=true/\Below w5.heap.size w5 wz) (fun v _=>P.aj.length-(intOf v).toNat)
   case atStart=>exact⟨0,rfl,Nat.zero_le _,G0.out,.refl _ _⟩
   case round=>
    obtain⟨i,rfl,hi,hA,hB⟩:=hrel;have A:=af hA;have B:=af hB;clear hB hA G0
    by_cases hlt:i<P.aj.length
    ·have BW:=af (Gr.step B5.out B.out);obtain⟨b,o,ra,c,rfl,p0,p1,_,_⟩:=DH.out wr BW.out i hlt;obtain⟨z0,z1,z2,z3,z4,z5,z6⟩:=Z5.out.went B.out;have hil:(i:Int)<(P.aj.length:Int):=by omega
     have ed:=af (GT.out i hlt);have gG:=af (GS.out i A.out hlt);have hlen:=SH.out i hlt;have CT:=af (CH.out _ wr (Z5.out.went B.out) P.aj[i] ra c p1 (by omega) (FH.out i hlt));clear p1;unfold fU at ed gG;generalize P.aj[i]=row at*
     by_cases hr:(row.length:Int)=P.ah
     ·have vp:((row.length:Int) != P.ah)=false:=by rw[hr];simp
      have HR:=af hr;clear hr;cases hok:row.all (jE P.row.length)with
      |true=>
       have S2:=af (gG.out (by rw[hok,decide_eq_true HR.out];rfl));rw[hok]at CT;clear hok ed gG;go_wp2_with fail;refine CT.out.mono ?_;rintro e w6 ⟨rfl,fw⟩;have K6:=af (Gr.step B.out fw);clear fw;go_wp2_with fail;go_roundw
       case rel=>exact⟨i+1,by go_num,by omega,S2.out,K6.out⟩
       case measure=>first|(simp[intOf];omega)|omega
      |false=>
       have F2:=af (ed.out (by rw[hok,Bool.and_false]));rw[hok]at CT;clear hok ed gG;go_wp2_with fail;refine CT.out.mono ?_;rintro e w6 ⟨rfl,fw⟩;have K6:=af (Gr.step BW.out fw);clear fw;go_wp2_with fail;go_ret;exact⟨Gr.aU (by rw[F1.out,F2.out]),K6.out⟩
     ·have F2:=af (ed.out (by rw[decide_eq_false hr];rfl));have vp:((row.length:Int) != P.ah)=true:=by rw[bne_iff_ne];exact hr
      clear ed gG CT;go_wp2_with fail;go_ret;exact⟨Gr.aU (by rw[F1.out,F2.out]),BW.out⟩
    ·have F2:=af (GE.out i A.out hlt);obtain rfl:i=P.aj.length:=by omega
     go_wp2;go_ret;exact⟨Gr.aU (by rw[F1.out,F2.out]),Gr.step B5.out B.out⟩
theorem zT6{P}{aR}{cR}{aW}{cW}{aX}{cX}{aG}{cG}{aH}{cH b}{w w'}(h:fK P aR cR aW cW aX cX aG cG aH cH b w)(hb:Below (b+1) w w'):fK P aR cR aW cW aX cX aG cG aH cH b w':=by
 obtain⟨h0,h1,h2,h3,h4,h5,h6⟩:=h;exact⟨(hb.cell (Nat.lt_succ_self _)).trans h0,(hb.cell (Nat.lt_succ_self _)).trans h1,(hb.cell (Nat.lt_succ_self _)).trans h2,(hb.cell (Nat.lt_succ_self _)).trans h3,(hb.cell (Nat.lt_succ_self _)).trans h4,(hb.cell (Nat.lt_succ_self _)).trans h5,(hb.cell (Nat.lt_succ_self _)).trans h6⟩
theorem zRr(w:World):bH w.heap.size (w.heap.size+1) w.heap.size (fun _=>[]) (fun _=> .slice none 0 0) (fun _=>[]) ((w.alloc (.map #[] 0)).alloc (.cells #[.map (some w.heap.size),.slice none 0 0,.slice none 0 0] 64)):=by
 have hs1:(w.alloc (.map #[] 0)).heap.size=w.heap.size+1:=World.size_alloc _ _;have b2:=boxed (w.alloc (.map #[] 0)) (.cells #[.map (some w.heap.size),.slice none 0 0,.slice none 0 0] 64);refine⟨?_,⟨0,fun _=>none,Nat.zero_le _,(fM.made w _ _ _).keep (b2.block _ (by omega)),told_none⟩,fun k hk=>World.ownsRow_nil _ _ _ _,fun g e=>(by cases e),by omega,Nat.le_refl _⟩;have:=gJ (w.alloc (.map #[] 0)) (.cells #[.map (some w.heap.size),.slice none 0 0,.slice none 0 0] 64)
 rwa [hs1]at this
theorem zFc(P:Pd)(aR:Option Addr)(cR:Nat)(aW:Option Addr)(cW:Nat)(aX:Option Addr)(cX:Nat)(aG:Option Addr)(cG:Nat)(aH:Option Addr)(cH:Nat)(w:World)(D:dX P aR cR aW cW aX cX aG cG aH cH w)(S:uT P):
  Calls Tryz.prog 40 #[.agg (bU P aR cR aW cW aX cX aG cG aH cH)] w (Gr.Is (.bool (uJ P)) w):=by
 have B1:=af (boxed w (.cells (bU P aR cR aW cW aX cX aG cG aH cH) 32));have Z1:=af (nJ (P:=P) (aR:=aR) (cR:=cR) (aW:=aW) (cW:=cW) (aX:=aX) (cX:=cX) (aG:=aG) (cG:=cG) (aH:=aH) (cH:=cH) w 32);have FR:=af (fun n w1 (b:Below w.heap.size w w1)=>Uk P.row aW cW n w1 (D.went b).row D.wl);have FG:=af (fun n w1 (b:Below w.heap.size w w1)=>Uk P.bj aG cG n w1 (D.went b).bj D.gl);have DX:=af (fun w1 (b:Below w.heap.size w w1)=>(D.went b).rows);have DH:=af (fun w1 (b:Below w.heap.size w w1)=>(D.went b).aj);have hxl:=S.zJ;have Rq:=S.zh;have CX:=af (show∀r∈P.rows,mH r from fun r hr=>⟨D.fit.rows r hr,S.wr r hr⟩);have CH:=af (show∀r∈P.aj,mH r from fun r hr=>⟨D.fit.aj r hr,S.gr r hr⟩);have OP:=af (show uJ P=(ji (P.rows.length:Int) 0 P.row&&(ji (P.aj.length:Int) 0 P.bj&&(decide P.rows.Nodup&&decide P.aj.Nodup)))from rfl);generalize uJ P=g at*;have Po:=af (FR.out (P.rows.length:Int));have Pj:=af (FG.out (P.aj.length:Int));generalize ji (P.rows.length:Int) 0 P.row=f1 at*;generalize ji (P.aj.length:Int) 0 P.bj=f2 at*;have hmm:=Wv;have S0:=zRr (w.alloc (.cells (bU P aR cR aW cW aX cX aG cG aH cH) 32));rw[World.size_alloc]at S0;have S3:=af S0;have hb2:=Gr.step (boxed (w.alloc (.cells (bU P aR cR aW cW aX cX aG cG aH cH) 32)) (.map #[] 0)) (boxed _ (.cells #[.map (some (w.heap.size+1)),.slice none 0 0,.slice none 0 0] 64));have B3:=af (Gr.step B1.out hb2);have Z3:=af (Z1.out.went hb2);clear D S FR FG hb2 S0;obtain⟨z0,z1,z2,z3,z4,z5,z6⟩:=Z1.out;unfold bU at*;go_enter Tryz.func40,Tryz.ntmps40;go_wp2_with fail;generalize ((w.alloc (.cells #[.slice aR P.rules.length cR,.int .i64 P.terms,.int .i64 P.ah,.slice aW P.row.length cW,.slice aX P.rows.length cX,.slice aG P.bj.length cG,.slice aH P.aj.length cH] 32)).alloc (.map #[] 0)).alloc (.cells #[.map (some (w.heap.size+1)),.slice none 0 0,.slice none 0 0] 64)=w3 at*;clear z0 z1 z2 z3 z4 z5 z6 Z1 B1 hmm;refine(Po.out _ B3.out).mono ?_;rintro e w4 ⟨rfl,hb4⟩;have B4:=af (Gr.step B3.out hb4);have Z4:=af (Z3.out.went hb4);have S4:=af (S3.out.went hb4);clear hb4 Z3 S3 B3 Po;obtain⟨z0,z1,z2,z3,z4,z5,z6⟩:=Z4.out;cases f1 with
 |false=>
  have G2:=af (show g=false by rw[OP.out];rfl);clear OP;go_wp2_with fail;go_ret;exact⟨Gr.aU G2.out,B4.out⟩
 |true=>
  go_wp2_with fail;refine(Pj.out _ B4.out).mono ?_;rintro e w5 ⟨rfl,fg⟩;have B5:=af (Gr.step B4.out fg);have Z5:=af (Z4.out.went fg);have S5:=af (S4.out.went fg);clear fg Z4 S4 B4 Pj z0 z1 z2 z3 z4 z5 z6;obtain⟨z0,z1,z2,z3,z4,z5,z6⟩:=Z5.out;cases f2 with
  |false=>
   have G2:=af (show g=false by rw[OP.out];rfl);clear OP;go_wp2_with fail;go_ret;exact⟨Gr.aU G2.out,B5.out⟩
  |true=>
   have D1:=af (Tv w5 S5.out 0 (by decide) rfl (fun j _=>Nat.zero_le _) P.rows aX cX (fun w1 b=>DX.out w1 (B5.out.trans (b.mono (Nat.le_succ _)))) hxl CX.out);unfold OH at D1
   by_cases hn:P.rows.Nodup
   ·have hd:=decide_eq_true hn;rw[hd]at D1 OP;have HN:=af hn;clear hd hn;go_wp2_with fail;refine D1.out.mono ?_;rintro e w6 ⟨rfl,fx,fw⟩;obtain⟨v',vs',xO⟩:=fx HN.out;have S6:=af xO;have B6:=af (B5.out.trans (fw.mono (Nat.le_succ _)));have Z6:=af (zT6 Z5.out fw);have D2:=af (Tv w6 xO 1 (by decide) rfl (fun j hj=>by unfold upd;split;exact hxl;exact Nat.zero_le _) P.aj aH cH (fun w1 b=>DH.out w1 (B6.out.trans (b.mono (Nat.le_succ _)))) Rq CH.out);unfold OH at D2;have G2:=af (show g=decide P.aj.Nodup by rw[OP.out];rfl);clear fx xO fw z0 z1 z2 z3 z4 z5 z6 OP D1 HN;generalize decide P.aj.Nodup=gn at*;obtain⟨z0,z1,z2,z3,z4,z5,z6⟩:=Z6.out;go_wp2_with fail;refine D2.out.mono ?_;rintro e w7 ⟨rfl,_,Bn⟩;have B7:=af (B6.out.trans (Bn.mono (Nat.le_succ _)));clear Bn;go_wp2_with fail;go_ret;exact⟨Gr.aU G2.out,B7.out⟩
   ·have hd:=decide_eq_false hn;rw[hd]at D1 OP;have G2:=af (show g=false by rw[OP.out];rfl);clear OP hd hn;go_wp2_with fail;refine D1.out.mono ?_;rintro e w6 ⟨rfl,_,fw⟩;have B6:=af (B5.out.trans (fw.mono (Nat.le_succ _)));clear fw;go_wp2_with fail;go_ret;exact⟨Gr.aU G2.out,B6.out⟩
theorem D4(P:Pd)(aR:Option Addr)(cR:Nat)(aW:Option Addr)(cW:Nat)(aX:Option Addr)(cX:Nat)(aG:Option Addr)(cG:Nat)(aH:Option Addr)(cH:Nat)(w:World)(D:dX P aR cR aW cW aX cX aG cG aH cH w)(S:uT P):
  Calls Tryz.prog 12 #[.agg (bU P aR cR aW cW aX cX aG cG aH cH)] w (Gr.Is (.bool (jQ P)) w):=by
 have B1:=af (boxed w (.cells (bU P aR cR aW cW aX cX aG cG aH cH) 32));have Z1:=af (nJ (P:=P) (aR:=aR) (cR:=cR) (aW:=aW) (cW:=cW) (aX:=aX) (cX:=cX) (aG:=aG) (cG:=cG) (aH:=aH) (cH:=cH) w 32);have R1:=af (fun(h0:0<P.rules.length) (ht:0<=P.terms) w1 (b:Below w.heap.size w w1)=>zFd P aR cR aW cW aX cX aG cG aH cH w1 (D.went b) h0 ht);have R2:=af (fun w1 (b:Below w.heap.size w w1)=>zFb P aR cR aW cW aX cX aG cG aH cH w1 (D.went b) S);have R3:=af (fun w1 (b:Below w.heap.size w w1)=>zFc P aR cR aW cW aX cX aG cG aH cH w1 (D.went b) S);have RB:=af (show jQ P=(Ad P&&(yT P&&(rL P&&uJ P)))from rfl);have hrl:=S.rl;have hwl:=S.wl;have hgl:=S.gl;generalize jQ P=g at*;clear D S;obtain⟨z0,z1,z2,z3,z4,z5,z6⟩:=Z1.out;have HD:=af (fun(h:¬(0<P.row.length/\P.row.length<=16383/\P.bj.length=P.row.length/\0<P.rules.length/\P.rules.length<=16383/\0<=P.terms/\0<=P.ah))=>(show g=false by rw[RB.out,show Ad P=false from decide_eq_false h];rfl))
 by_cases h1:P.row.length=0
 ·have F2:=af (HD.out (by omega));have g0:((P.row.length:Int)==0)=true:=by rw[beq_iff_eq];omega
  clear h1;unfold bU at*;go_enter Tryz.func12,Tryz.ntmps12;go_wp2_with fail;go_ret;exact⟨Gr.aU F2.out,B1.out⟩
 have g0:((P.row.length:Int)==0)=false:=by rw[beq_eq_false_iff_ne];omega
 by_cases h2:16383<P.row.length
 ·have F2:=af (HD.out (by omega));have h2':(16383:Int)<(P.row.length:Int):=by omega
  unfold bU at*;go_enter Tryz.func12,Tryz.ntmps12;go_wp2_with fail;go_ret;exact⟨Gr.aU F2.out,B1.out⟩
 have h2':¬(16383:Int)<(P.row.length:Int):=by omega
 by_cases h3:P.bj.length=P.row.length
 rotate_left
 ·have F2:=af (HD.out (by omega));have g2:((P.bj.length:Int) != (P.row.length:Int))=true:=by rw[bne_iff_ne];omega
  clear h3;unfold bU at*;go_enter Tryz.func12,Tryz.ntmps12;go_wp2_with fail;go_ret;exact⟨Gr.aU F2.out,B1.out⟩
 have g2:((P.bj.length:Int) != (P.row.length:Int))=false:=by rw[h3];simp
 have H3:=af h3;clear h3
 by_cases h4:P.rules.length=0
 ·have F2:=af (HD.out (by omega));have g4:((P.rules.length:Int)==0)=true:=by rw[beq_iff_eq];omega
  clear h4;unfold bU at*;go_enter Tryz.func12,Tryz.ntmps12;go_wp2_with fail;go_ret;exact⟨Gr.aU F2.out,B1.out⟩
 have g4:((P.rules.length:Int)==0)=false:=by rw[beq_eq_false_iff_ne];omega
 by_cases h5:16383<P.rules.length
 ·have F2:=af (HD.out (by omega));have h5':(16383:Int)<(P.rules.length:Int):=by omega
  unfold bU at*;go_enter Tryz.func12,Tryz.ntmps12;go_wp2_with fail;go_ret;exact⟨Gr.aU F2.out,B1.out⟩
 have h5':¬(16383:Int)<(P.rules.length:Int):=by omega
 by_cases h6:P.terms<0
 ·have F2:=af (HD.out (by omega));unfold bU at*;go_enter Tryz.func12,Tryz.ntmps12;go_wp2_with fail;go_ret;exact⟨Gr.aU F2.out,B1.out⟩
 by_cases h7:P.ah<0
 ·have F2:=af (HD.out (by omega));unfold bU at*;go_enter Tryz.func12,Tryz.ntmps12;go_wp2_with fail;go_ret;exact⟨Gr.aU F2.out,B1.out⟩
 have RR:=af (R1.out (by omega) (by omega));have RC:=af (show g=(yT P&&(rL P&&uJ P))by rw[RB.out,show Ad P=true from decide_eq_true ⟨by omega,by omega,H3.out,by omega,by omega,by omega,by omega⟩];rfl);generalize yT P=ga at*;generalize rL P=gg at*;generalize uJ P=gr at*;clear RB HD R1;unfold bU at*;go_enter Tryz.func12,Tryz.ntmps12;go_wp2_with fail;generalize w.alloc (.cells #[.slice aR P.rules.length cR,.int .i64 P.terms,.int .i64 P.ah,.slice aW P.row.length cW,.slice aX P.rows.length cX,.slice aG P.bj.length cG,.slice aH P.aj.length cH] 32)=w2 at*;refine(RR.out _ B1.out).mono ?_;rintro e w3 ⟨rfl,hb3⟩;have B3:=af (Gr.step B1.out hb3);have Z3:=af (Z1.out.went hb3);clear z0 z1 z2 z3 z4 z5 z6 hb3 Z1 B1 RR;obtain⟨z0,z1,z2,z3,z4,z5,z6⟩:=Z3.out;cases ga with
 |false=>
  have F2:=af (show g=false by rw[RC.out];rfl);go_wp2_with fail;go_ret;exact⟨Gr.aU F2.out,B3.out⟩
 |true=>
  go_wp2_with fail;refine(R2.out _ B3.out).mono ?_;rintro e w4 ⟨rfl,hb4⟩;have B4:=af (Gr.step B3.out hb4);have Z4:=af (Z3.out.went hb4);clear z0 z1 z2 z3 z4 z5 z6 hb4 Z3 B3 R2;obtain⟨z0,z1,z2,z3,z4,z5,z6⟩:=Z4.out;cases gg with
  |false=>
   have F2:=af (show g=false by rw[RC.out];rfl);go_wp2_with fail;go_ret;exact⟨Gr.aU F2.out,B4.out⟩
  |true=>
   go_wp2_with fail;refine(R3.out _ B4.out).mono ?_;rintro e w5 ⟨rfl,fg⟩;have B5:=af (Gr.step B4.out fg);have F2:=af (show g=gr by rw[RC.out];rfl);clear fg;go_wp2;go_ret;exact⟨Gr.aU F2.out,B5.out⟩
end Pk
namespace Ts
open Pk
open Gr (cell_later boxed)
def nU(L:List Int)(w:World)(e:Ending)(w':World):Prop:=
 ∃aR cR aW cW aX cX aG cG aH cH,e=.returned (.tuple #[.agg (bU (ko L).1 aR cR aW cW aX cX aG cG aH cH),.int .i64 (ko L).2])/\dX (ko L).1 aR cR aW cW aX cX aG cG aH cH w'/\Below w.heap.size w w'
theorem H8{L:List Int}{k:Int}(h:ko L=(kT,k)){w w':World}(hb:Below w.heap.size w w'):nU L w (.returned (.tuple #[.agg #[.slice none 0 0,.int .i64 0,.int .i64 0,.slice none 0 0,.slice none 0 0,.slice none 0 0,.slice none 0 0],.int .i64 k])) w':=by
 rw[nU,h];exact⟨none,0,none,0,none,0,none,0,none,0,rfl,LP w',hb⟩
theorem zTx{L:List Int}(h:jk L≠0):ko L=(kT,jk L):=if_pos h
theorem zVY{L:List Int}(h:jk L=0){q:Pd×St}(hq:table (L.drop 3,false)=q)(hb:q.2.2=true):ko L=(kT,4):=by
 unfold ko;rw[if_neg (by rw[h];simp),hq,if_pos hb]
theorem XU{L:List Int}(h:jk L=0){q:Pd×St}(hq:table (L.drop 3,false)=q)(hb:q.2.2=false)(hf:q.2.1≠[]\/jQ q.1=false):ko L=(kT,10):=by
 unfold ko;rw[if_neg (by rw[h];simp),hq,if_neg (by rw[hb];decide),if_pos hf]
theorem zTw{L:List Int}(h:jk L=0){q:Pd×St}(hq:table (L.drop 3,false)=q)(hb:q.2.2=false)(hl:q.2.1=[])(hr:jQ q.1=true):ko L=(q.1,0):=by
 unfold ko;rw[if_neg (by rw[h];simp),hq,if_neg (by rw[hb];decide),if_neg (by rw[hl,hr];simp)]
theorem Ek{L:List Int}(h:jk L=0):3<=L.length:=by
 have e:L=head++L.drop 3:=zQK h;rw[e,List.length_append];have:head.length=3:=rfl;omega
theorem Ij{T:TypeId}{b o c:Nat}{L:List Int}{w:World}(h:dS (some ⟨b,o,none⟩) c L w)(h3:3<=L.length){o' c':Nat}(ho:0<L.length-3->o'=o+3)(hc:L.length-3<=c'):
  aT T w.heap.size b (L.drop 3,false) (w.alloc (.cells #[.slice (some ⟨b,o',none⟩) (L.length-3) c',.bool false] T)):=by
 have hl:(L.drop 3).length=L.length-3:=List.length_drop;refine⟨⟨some ⟨b,o',none⟩,c',by rw[hl];exact gJ _ _,by rw[hl];exact hc,fun i hi=>?_⟩,fun x hx=>h.j0 x (List.mem_of_mem_drop hx),by rw[hl];have:=h.len;omega,fun h0=>?_⟩
 ·dsimp only at hi⊢;rw[hl]at hi;obtain⟨b2,o2,e,h1⟩:=h.at_ (i+3) (by omega)
  simp only[Option.some.injEq,Addr.mk.injEq,and_true]at e;obtain⟨rfl,rfl⟩:=e;obtain rfl:=ho (by omega);refine⟨_,rfl,?_⟩;rw[show o+3+i=o+(i+3)by omega];have e2:(L.drop 3)[i]=L[i+3]'(by omega):=by rw[List.getElem_drop];congr 1;omega
  rw[e2];exact cell_later (boxed w _) h1
 ·obtain⟨b2,o2,e,h1⟩:=h.at_ 0 (by omega)
  simp only[Option.some.injEq,Addr.mk.injEq,and_true]at e;obtain⟨rfl,rfl⟩:=e;exact World.block_lt_of_cell? _ _ h1
theorem zVW{a:Option Addr}{c:Nat}{L:List Int}{w:World}(h:dS a c L w)(h1:jk L≠0):Calls Tryz.prog 19 #[.slice a L.length c] w (nU L w):=by
 have B1:=boxed w (.cells dH 32);have HE:=af (DT (h.went B1));have Y1:=af (gJ w (.cells dH 32));have BB:=af B1
 ·have NO:=af (fun(w':World) (hb:Below w.heap.size w w')=>H8 (zTx h1) hb);have hne:(jk L != 0)=true:=by simpa using h1
  generalize jk L=k at*;clear h B1;unfold dH at*;go_enter Tryz.func19,Tryz.ntmps19;go_wp2_with (go_at_call 55;refine(HE.out).mono ?_;rintro e w1 ⟨rfl,hb⟩;have B2:=af (Gr.step BB.out hb);have Y2:=(hb.block _ (Array.getElem?_eq_some_iff.1 Y1.out).1).trans Y1.out;have YY:=af Y2;obtain⟨y0,y1,y2,y3,y4,y5,y6,gz⟩:=oU Y2;clear hb Y2);have EE:=af (yt YY.out (.slice none 0 0) (.int .i64 0) (.int .i64 0) (.slice none 0 0) (.slice none 0 0) (.slice none 0 0) (.slice none 0 0));have E2:=af (NO.out (cK w1 w.heap.size (.slice none 0 0) (.int .i64 0) (.int .i64 0) (.slice none 0 0) (.slice none 0 0) (.slice none 0 0) (.slice none 0 0)) (wA B2.out (Nat.le_refl _) _ _ _ _ _ _ _));clear y0 y1 y2 y3 y4 y5 y6 gz YY NO;change bodyPost _ _ _ _ _ (cK w1 w.heap.size (.slice none 0 0) (.int .i64 0) (.int .i64 0) (.slice none 0 0) (.slice none 0 0) (.slice none 0 0) (.slice none 0 0));obtain⟨e0,e1,e2,e3,e4,e5,e6⟩:=EE.out;generalize cK w1 w.heap.size (.slice none 0 0) (.int .i64 0) (.int .i64 0) (.slice none 0 0) (.slice none 0 0) (.slice none 0 0) (.slice none 0 0)=wE at*;exact bodyPost_ret (v:=.tuple #[.agg #[.slice none 0 0,.int .i64 0,.int .i64 0,.slice none 0 0,.slice none 0 0,.slice none 0 0,.slice none 0 0],.int .i64 k]) (by simp[results,Tryz.results19,go_sem,e0,e1,e2,e3,e4,e5,e6]) rfl E2.out
end Ts
namespace Ts
open Pk
open Gr (cell_later boxed)
theorem Hs{α:Type}(L:List α)(k)(h:¬k<L.length):L.take k=L:=List.take_of_length_le (by omega)
theorem Hc{α:Type}{L:List α}{k}(h):L.take (k+1)=L.take k++[L[k]]:=List.take_succ_eq_append_getElem h
theorem M7{p}{N L}{w0 w}{a}{c}(h:bJ w0.heap.size p N w)(hb0:Below w0.heap.size w0 w)(hL:dW a L w0)(hl:N.length+L.length<=1000000000000):
  Calls Tryz.prog 48 #[.pointer (some ⟨p,0,none⟩),.slice a L.length c] w (nZ w0.heap.size p (N++L) w):=by
 have H:=af h;have HL:=af (fun w' (b:Below w0.heap.size w w')=>hL.went (hb0.trans b));clear h hL;go_enter Tryz.func48,Tryz.ntmps48;go_wp2;go_loopw [8] (fun i wr=>∃k:Nat,i=.int .i64 (k:Int)/\k<=L.length/\bJ w0.heap.size p (N++L.take k) wr/\iN w0.heap.size w wr) (fun i _=>L.length-(intOf i).toNat)
 case atStart=>exact⟨0,rfl,Nat.zero_le _,by rw[List.take_zero,List.append_nil];exact H.out,.refl _⟩
 case round=>
  obtain⟨k,rfl,hk,hW,hF⟩:=hrel;have W:=af hW;have F:=af hF;clear hW hF
  by_cases hlt:k<L.length
  ·have hkn:(k:Int)<(L.length:Int):=by omega
   obtain⟨b1,o1,rfl,c1⟩:=(HL.out _ F.out.below).at hlt;have WN:=af (yq L[k] W.out (by rw[List.length_append,List.length_take];omega));have E:=af (show N++L.take (k+1)=N++L.take k++[L[k]]by rw[Hc hlt,List.append_assoc]);generalize L[k]=x at*;unfold nZ at WN;go_wp2_with (go_at_call 46;refine(WN.out).mono ?_;rintro e w1 ⟨rfl,h1,h2⟩;have W1:=af h1;have F1:=af (F.out.trans h2);clear h1 h2);go_roundw
   case rel=>exact⟨k+1,by go_num,by omega,by rw[E.out];exact W1.out,F1.out⟩
   case measure=>first|(simp[intOf];omega)|omega
  ·have E:=af (Hs L k hlt);have hkn:¬(k:Int)<(L.length:Int):=by omega
   go_wp2;exact bodyPost_ret (v:=.tuple #[]) (by simp[results,Tryz.results48,go_sem]) rfl ⟨rfl,by rw[←E.out];exact W.out,F.out⟩
theorem zMJ{p}{N L}{w0 w}{a}{c}(h:bJ w0.heap.size p N w)(hb0:Below w0.heap.size w0 w)(hL:fy a L w0)(hC:∀x∈L,Cd x)(hl:N.length+L.length<=1000000000000):
  Calls Tryz.prog 86 #[.pointer (some ⟨p,0,none⟩),.slice a L.length c] w (nZ w0.heap.size p (N++L) w):=by
 have H:=af h;have HL:=af (fun w' (b:Below w0.heap.size w w')=>hL.went (hb0.trans b));have HC:=af hC;clear h hL hC;go_enter Tryz.func86,Tryz.ntmps86;go_wp2;go_loopw [8] (fun i wr=>∃k:Nat,i=.int .i64 (k:Int)/\k<=L.length/\bJ w0.heap.size p (N++L.take k) wr/\iN w0.heap.size w wr) (fun i _=>L.length-(intOf i).toNat)
 case atStart=>exact⟨0,rfl,Nat.zero_le _,by rw[List.take_zero,List.append_nil];exact H.out,.refl _⟩
 case round=>
  obtain⟨k,rfl,hk,hW,hF⟩:=hrel;have W:=af hW;have F:=af hF;clear hW hF
  by_cases hlt:k<L.length
  ·have hkn:(k:Int)<(L.length:Int):=by omega
   obtain⟨b1,o1,rfl,c1⟩:=(HL.out _ F.out.below).at hlt;have WN:=af (yq L[k] W.out (by rw[List.length_append,List.length_take];omega));have E:=af (show N++L.take (k+1)=N++L.take k++[L[k]]by rw[Hc hlt,List.append_assoc]);have hx:=HC.out _ (List.getElem_mem hlt);generalize L[k]=x at*;unfold Cd at hx;have hw:IntKind.i64.wrap x=x:=by rw[IntKind.wrap_i64];omega
   unfold nZ at WN;go_wp2_with (go_at_call 46;refine(WN.out).mono ?_;rintro e w1 ⟨rfl,h1,h2⟩;have W1:=af h1;have F1:=af (F.out.trans h2);clear h1 h2);go_roundw
   case rel=>exact⟨k+1,by go_num,by omega,by rw[E.out];exact W1.out,F1.out⟩
   case measure=>first|(simp[intOf];omega)|omega
  ·have E:=af (Hs L k hlt);have hkn:¬(k:Int)<(L.length:Int):=by omega
   go_wp2;exact bodyPost_ret (v:=.tuple #[]) (by simp[results,Tryz.results86,go_sem]) rfl ⟨rfl,by rw[←E.out];exact W.out,F.out⟩
theorem Es{X:List (List Int)}(k m)(h:∀r∈X,r.length<=m):(X.take k).flatten.length<=X.length*m:=by
 have:∀Y:List (List Int),(∀r∈Y,r.length<=m)->Y.flatten.length<=Y.length*m:=by
  intro Y hY
  induction Y with
  |nil=>simp
  |cons y l ih=>
   rw[List.flatten_cons,List.length_append,List.length_cons,Nat.succ_mul];have h1:=hY y (by simp);have h2:=ih fun r hr=>hY r (by simp[hr])
   omega
 have h1:=this (X.take k) fun r hr=>h r (List.mem_of_mem_take hr)
 have h2:(X.take k).length*m<=X.length*m:=Nat.mul_le_mul_right _ (by rw[List.length_take];omega);omega
theorem VD{p}{N}{X}{w0 w}{a}{c}(h:bJ w0.heap.size p N w)(hb0:Below w0.heap.size w0 w)(hX:wQ a X w0)(hC:∀r∈X,r.length<=100000/\∀x∈r,Cd x)(hl:X.length<=100000)(hN:N.length<=900000000000):
  Calls Tryz.prog 49 #[.pointer (some ⟨p,0,none⟩),.slice a X.length c] w (nZ w0.heap.size p (N++(X.length:Int)::X.flatten) w):=by
 have xp:=af (yq (X.length:Int) h (by omega));have HX:=af hX;have HB:=af hb0;have HC:=af hC;have FL:=af (fun k=>Es (X:=X) k 100000 fun r hr=>(hC r hr).1);clear h hX hC;unfold nZ at xp;go_enter Tryz.func49,Tryz.ntmps49;go_wp2_with (go_at_call 46;refine(xp.out).mono ?_;rintro e wz ⟨rfl,h1,h2⟩;have W0:=af h1;have F0:=af h2;clear h1 h2 xp);go_loopw [12] (fun i wr=>∃k:Nat,i=.int .i64 (k:Int)/\k<=X.length/\bJ w0.heap.size p (N++[(X.length:Int)]++(X.take k).flatten) wr/\iN w0.heap.size w wr) (fun i _=>X.length-(intOf i).toNat)
 case atStart=>exact⟨0,rfl,Nat.zero_le _,by rw[List.take_zero,List.flatten_nil,List.append_nil];exact W0.out,F0.out⟩
 case round=>
  obtain⟨k,rfl,hk,hW,hF⟩:=hrel;have W:=af hW;have F:=af hF;clear hW hF
  by_cases hlt:k<X.length
  ·have hkn:(k:Int)<(X.length:Int):=by omega
   obtain⟨b1,o1,ra,rc,rfl,c1,hr,_,_⟩:=HX.out k hlt;have c2:=cell_later (HB.out.trans F.out.below) c1;have hc:=HC.out _ (List.getElem_mem hlt);have hf:=FL.out k;have WR:=af (zMJ (a:=ra) (c:=rc) W.out (HB.out.trans F.out.below) hr hc.2 (by rw[List.length_append,List.length_append];simp only[List.length_cons,List.length_nil];have:=hc.1;omega));clear c1 hr;have E:=af (show N++[(X.length:Int)]++(X.take (k+1)).flatten=N++[(X.length:Int)]++(X.take k).flatten++X[k]by rw[Hc hlt,List.flatten_append];simp);generalize X[k]=x at*;unfold nZ at WR;go_wp2_with (go_at_call 86;refine(WR.out).mono ?_;rintro e w1 ⟨rfl,h1,h2⟩;have W1:=af h1;have F1:=af (F.out.trans h2);clear h1 h2);go_roundw
   case rel=>exact⟨k+1,by go_num,by omega,by rw[E.out];exact W1.out,F1.out⟩
   case measure=>first|(simp[intOf];omega)|omega
  ·have E:=af (Hs X k hlt);have hkn:¬(k:Int)<(X.length:Int):=by omega
   go_wp2;exact bodyPost_ret (v:=.tuple #[]) (by simp[results,Tryz.results49,go_sem]) rfl ⟨rfl,by have h:=W.out;rw[E.out,List.append_assoc]at h;exact h,F.out⟩
theorem Nv{R:List (Int×List Int)}(k m)(h:∀r∈R,r.2.length<=m):((R.take k).flatMap jT).length<=R.length*(m+2):=by
 have:∀Y:List (Int×List Int),(∀r∈Y,r.2.length<=m)->(Y.flatMap jT).length<=Y.length*(m+2):=by
  intro Y hY
  induction Y with
  |nil=>simp
  |cons y l ih=>
   rw[List.flatMap_cons,List.length_append,List.length_cons,Nat.succ_mul];have h1:=hY y (by simp);have h2:=ih fun r hr=>hY r (by simp[hr])
   have h3:(jT y).length=y.2.length+2:=by simp[jT]
   omega
 have h1:=this (R.take k) fun r hr=>h r (List.mem_of_mem_take hr)
 have h2:(R.take k).length*(m+2)<=R.length*(m+2):=Nat.mul_le_mul_right _ (by rw[List.length_take];omega);omega
theorem zMK{p:Nat}{N:List Int}{R:List (Int×List Int)}{w0 w:World}{a:Option Addr}{c:Nat}(h:bJ w0.heap.size p N w)(hb0:Below w0.heap.size w0 w)(hR:eZ a R w0)(hC:∀r∈R,r.2.length<=100000)(hl:R.length<=100000)(hN:N.length<=900000000000):
  Calls Tryz.prog 47 #[.pointer (some ⟨p,0,none⟩),.slice a R.length c] w (nZ w0.heap.size p (N++(R.length:Int)::R.flatMap jT) w):=by
 have xp:=af (yq (R.length:Int) h (by omega));have HR:=af hR;have HB:=af hb0;have HC:=af hC;have FL:=af (fun k=>Nv (R:=R) k 100000 hC);have hbl:=h.iH;clear h hR hb0 hC;unfold nZ at xp;go_enter Tryz.func47,Tryz.ntmps47;go_wp2_with (go_at_call 46;refine(xp.out).mono ?_;rintro e wz ⟨rfl,h1,h2⟩;have W0:=af h1;have F0:=af h2;clear h1 h2 xp);go_loopw [12] (fun i wr=>∃k:Nat,i=.int .i64 (k:Int)/\k<=R.length/\bJ w0.heap.size p (N++[(R.length:Int)]++(R.take k).flatMap jT) wr/\iN w0.heap.size w wr) (fun i _=>R.length-(intOf i).toNat)
 case atStart=>exact⟨0,rfl,Nat.zero_le _,by rw[List.take_zero,List.flatMap_nil,List.append_nil];exact W0.out,F0.out⟩
 case round=>
  obtain⟨k,rfl,hk,hW,hF⟩:=hrel;have W:=af hW;have F:=af hF;clear hW hF
  by_cases hlt:k<R.length
  ·have hkn:(k:Int)<(R.length:Int):=by omega
   obtain⟨b1,o1,ra,rc,rfl,c1,c2,hr,_⟩:=HR.out k hlt;have d1:=cell_later (HB.out.trans F.out.below) c1;have d2:=cell_later (HB.out.trans F.out.below) c2;have hc:=HC.out _ (List.getElem_mem hlt);have hf:=FL.out k;have E:=af (show N++[(R.length:Int)]++(R.take (k+1)).flatMap jT=N++[(R.length:Int)]++(R.take k).flatMap jT++[R[k].1]++[(R[k].2.length:Int)]++R[k].2 by rw[Hc hlt,List.flatMap_append];simp[jT]);have hNl:(N++[(R.length:Int)]++(R.take k).flatMap jT).length<=990000000000:=by rw[List.length_append,List.length_append];simp only[List.length_cons,List.length_nil];omega
   generalize N++[(R.length:Int)]++(R.take k).flatMap jT=M at*;have hRI:=af hr;clear c1 c2 hr;generalize R[k]=r at*;obtain⟨x,l⟩:=r;dsimp only at*;have bb:=boxed wr (.cells #[.int .i64 x,.slice ra l.length rc] 55);have HQ:=af (gJ wr (.cells #[.int .i64 x,.slice ra l.length rc] 55));have FA:=af (F.out.trans (.of_below bb W.out.iH));have Jy:=af (yq x (W.out.went bb) (by omega));have Jo:=af (fun w1 (h1:bJ w0.heap.size p (M++[x]) w1)=>yq (l.length:Int) h1 (by rw[List.length_append];simp only[List.length_cons,List.length_nil];omega));have Jp:=af (fun w2 (h1:bJ w0.heap.size p (M++[x]++[(l.length:Int)]) w2) (hb:Below w0.heap.size w0 w2)=>M7 (a:=ra) (c:=rc) h1 hb hRI.out (by rw[List.length_append,List.length_append];simp only[List.length_cons,List.length_nil];omega));unfold nZ at Jy Jo Jp;clear bb
   go_wp2_with (first
    |(go_at_call 46;(with_reducible refine(Jy.out).mono ?_);rintro e w1 ⟨rfl,h1,h2⟩;have W1:=af h1;have F1:=af (FA.out.trans h2);have H1:=af ((h2.keep _ _ ⟨_,_,HQ.out⟩ (by decide) (by decide)).trans HQ.out);have e1:=aF H1.out (k:=1) (by simp);have NB:=af (Jo.out _ W1.out);clear h1 h2 Jy Jo)
    |(go_at_call 46;(with_reducible refine(NB.out).mono ?_);rintro e w2 ⟨rfl,h1,h2⟩;have W2:=af h1;have F2:=af (F1.out.trans h2);have H2:=af ((h2.keep _ _ ⟨_,_,H1.out⟩ (by decide) (by decide)).trans H1.out);have e2:=aF H2.out (k:=1) (by simp);have NC:=af (Jp.out _ W2.out (HB.out.trans F2.out.below));clear h1 h2 NB Jp)
    |(go_at_call 48;(with_reducible refine(NC.out).mono ?_);rintro e w3 ⟨rfl,h1,h2⟩;have W3:=af h1;have F3:=af (F2.out.trans h2);clear h1 h2 NC)
    |fail)
   go_roundw
   case rel=>exact⟨k+1,by go_num,by omega,by rw[E.out];exact W3.out,F3.out⟩
   case measure=>first|(simp[intOf];omega)|omega
  ·have E:=af (Hs R k hlt);have hkn:¬(k:Int)<(R.length:Int):=by omega
   go_wp2;exact bodyPost_ret (v:=.tuple #[]) (by simp[results,Tryz.results47,go_sem]) rfl ⟨rfl,by have h:=W.out;rw[E.out,List.append_assoc]at h;exact h,F.out⟩
end Ts
namespace Ts
open Pk
open Gr (boxed)
def yP(P:Pd)(w:World)(e:Ending)(w':World):Prop:=∃a c,e=.returned (.slice a (gm P).length c)/\dS a c (gm P) w'/\Below w.heap.size w w'
theorem Ug{P}(h:gm P=[]){w w'}(hb:Below w.heap.size w w'):yP P w (.returned (.slice none 0 0)) w':=by
 rw[yP,h];exact⟨none,0,rfl,⟨fun i hi=>absurd hi (Nat.not_lt_zero _),(fun x hx=>by cases hx),Nat.zero_le _,Nat.zero_le _⟩,hb⟩
theorem Wb(P):iz P=(nums P).all iw:=rfl
theorem zMo{P}(h:jQ P=false):gm P=[]:=if_neg (by rw[h];simp)
theorem zLG{P}(h:(nums P).all iw=false):gm P=[]:=if_neg (by rw[Wb,h,Bool.and_false];simp)
theorem zMl{P}(hr:jQ P=true)(h:(nums P).all iw=true):gm P=head++txt (nums P):=by
 rw[←Hf];exact if_pos (by rw[Wb,hr,h];rfl)
theorem zLO(w:World):Sem.run Tryz.prog (convert 39 39 (.slice (some ⟨w.heap.size,0,none⟩) 3 3)) (w.alloc (.cells #[.int .u8 76,.int .u8 84,.int .u8 49] 5))=.ok (.slice (some ⟨w.heap.size,0,none⟩) 3 3) (w.alloc (.cells #[.int .u8 76,.int .u8 84,.int .u8 49] 5 (3,4))):=
 Lib.run_convert_bytes_const w 39 5 #[.int .u8 76,.int .u8 84,.int .u8 49] 3 3 Tryz.underlying39 Tryz.underlying5
section
variable {base p:Nat} {N:List Int} {w:World}
theorem bJ.wide(h:bJ base p N w):w.cell? ⟨p,1,none⟩=some (.bool (!N.all iw)):=by
 obtain⟨v,h1,_⟩:=h.ex;exact aF h1 (k:=1) (by simp)
theorem bJ.result(h:bJ base p N w)(hN:N.all iw=true)(hl:N.length<=1000000000000):∃a c,w.cell? ⟨p,0,none⟩=some (.slice a (head++txt N).length c)/\dS a c (head++txt N) w:=by
 obtain⟨v,h1,h2⟩:=h.ex;have h2:=h2 hN;obtain⟨a,c,rfl⟩:=Rw.cu h2;have hr:=Sep.Reads.dQ h2;refine⟨a,c,aF h1 (k:=0) (by simp),fun i hi=>?_,?_,wM h2,?_⟩
 ·obtain⟨b,o,e,k⟩:=hr i (by simpa[bv]using hi);exact⟨b,o,e,by rw[k];simp only[bv,List.getElem_map]⟩
 ·intro x hx;rcases List.mem_append.1 hx with hx|hx
  ·have:x=76\/x=84\/x=49:=by simpa[head]using hx
   omega
  ·refine Ht (fun c hc=>?_) x hx;have:=List.all_eq_true.1 hN c hc;unfold iw at this;exact of_decide_eq_true (p:=0<=c/\c<=65535) this
 ·rw[List.length_append,sF];have:head.length=3:=rfl;omega
theorem Ml(w)(o):Below w.heap.size w (w.alloc o):=⟨rfl,rfl,rfl,by rw[World.size_alloc];omega,fun k hk=>by
 show(w.heap.push o)[k]?= _;rw[Array.getElem?_push]
 simp[Nat.ne_of_lt hk]⟩
theorem zV0{w0 w3}(hb:Below w0.heap.size w0 w3):rV w0.heap.size (w3.heap.size+1) w3.heap.size ((w3.alloc (.cells #[.int .u8 76,.int .u8 84,.int .u8 49] 5 (3,4))).alloc (.cells #[.slice (some ⟨w3.heap.size,0,none⟩) 3 3,.bool false] 82)):=by
 have hh:=gJ (w3.alloc (.cells #[.int .u8 76,.int .u8 84,.int .u8 49] 5 (3,4))) (.cells #[.slice (some ⟨w3.heap.size,0,none⟩) 3 3,.bool false] 82);rw[World.size_alloc]at hh;have hs:=hb.size;exact⟨hh,((Ml _ _).block _ (by rw[World.size_alloc];omega)).trans (gJ w3 _),by omega⟩
end
theorem UT(P:Pd)(aR:Option Addr)(cR:Nat)(aW:Option Addr)(cW:Nat)(aX:Option Addr)(cX:Nat)(aG:Option Addr)(cG:Nat)(aH:Option Addr)(cH:Nat)(w:World)(D:dX P aR cR aW cW aX cX aG cG aH cH w)(S:uT P):
    Calls Tryz.prog 17 #[.agg (bU P aR cR aW cW aX cX aG cG aH cH)] w (yP P w):=by
  have B1:=boxed w (.cells (bU P aR cR aW cW aX cX aG cG aH cH) 32);have Z1:=af (nJ (P:=P) (aR:=aR) (cR:=cR) (aW:=aW) (cW:=cW) (aX:=aX) (cX:=cX) (aG:=aG) (cG:=cG) (aH:=aH) (cH:=cH) w 32);have RI:=af (D4 P aR cR aW cW aX cX aG cG aH cH _ (D.went B1) S);have BB:=af B1;cases hr:jQ P with
  |false=>
    rw[hr]at RI;have NO:=af (fun(w':World) (hb:Below w.heap.size w w')=>Ug (zMo hr) hb);clear D S B1 hr;obtain⟨z0,z1,z2,z3,z4,z5,z6⟩:=Z1.out;unfold bU at*;go_enter Tryz.func17,Tryz.ntmps17;go_wp2_with (go_at_call 12;refine(RI.out).mono ?_;rintro e w3 ⟨rfl,hb⟩;have B3:=af (Gr.step BB.out hb);clear hb);go_ret;exact NO.out _ B3.out
  |true=>
    rw[hr]at RI;have DD:=af (D.went B1);have lR:=Nv (R:=P.rules) P.rules.length 100000 S.rr;have lX:=Es (X:=P.rows) P.rows.length 100000 S.wr;have lH:=Es (X:=P.aj) P.aj.length 100000 S.gr;rw[List.take_length]at lR lX lH;have s1:=S.rl;have s2:=S.wl;have s3:=S.gl;have s4:=S.zJ;have s5:=S.zh;have SS:=af S;have FF:=af D.fit;have EN:=af (show[]++[P.terms]++[P.ah]++((P.rules.length:Int)::P.rules.flatMap jT)++[(P.row.length:Int)]++P.row++((P.rows.length:Int)::P.rows.flatten)++P.bj++((P.aj.length:Int)::P.aj.flatten)=nums P by unfold nums;simp);have LN:=af (show(nums P).length<=1000000000000 by rw[←EN.out];simp only[List.length_append,List.length_cons,List.length_nil];omega);have OFF:=af (fun(w':World) (hb:Below w.heap.size w w') (h:(nums P).all iw=false)=>Ug (zLG h) hb)
    have YES:=af (fun(w':World) a c (hb:Below w.heap.size w w') (h:(nums P).all iw=true) (hy:dS a c (head++txt (nums P)) w')=>(show yP P w (.returned (.slice a (head++txt (nums P)).length c)) w' from by
      rw[yP,zMl hr h]
      exact⟨a,c,rfl,hy,hb⟩))
    clear D S B1 hr;obtain⟨z0,z1,z2,z3,z4,z5,z6⟩:=Z1.out;have START:=af (fun w3 (hb:Below (w.alloc (.cells (bU P aR cR aW cW aX cX aG cG aH cH) 32)).heap.size (w.alloc (.cells (bU P aR cR aW cW aX cX aG cG aH cH) 32)) w3)=>And.intro (zV0 hb) (Gr.step (Gr.step hb (Ml w3 (.cells #[.int .u8 76,.int .u8 84,.int .u8 49] 5 (3,4)))) (boxed (w3.alloc (.cells #[.int .u8 76,.int .u8 84,.int .u8 49] 5 (3,4))) (.cells #[.slice (some ⟨w3.heap.size,0,none⟩) 3 3,.bool false] 82))));unfold bU at*;go_enter Tryz.func17,Tryz.ntmps17;go_wp2_with fail;generalize w.alloc (.cells #[.slice aR P.rules.length cR,.int .i64 P.terms,.int .i64 P.ah,.slice aW P.row.length cW,.slice aX P.rows.length cX,.slice aG P.bj.length cG,.slice aH P.aj.length cH] 32)=w0 at*;refine(RI.out).mono ?_;rintro e w3 ⟨rfl,hb⟩;obtain⟨vE,fg⟩:=START.out w3 hb;have B5:=af fg;have N1:=af (zHb P.terms vE);obtain⟨u0,u1,u2,u3,u4,u5,u6⟩:=Z1.out.went fg;unfold nZ at N1;have hcv:=zLO;have C1:=af (fun wk N (h1:bJ w0.heap.size (w3.heap.size+1) N wk) (n:Int) (hl:N.length<=1000000000000)=>yq n h1 hl);have C2:=af (fun wk N (h1:bJ w0.heap.size (w3.heap.size+1) N wk) (hb:Below w0.heap.size w0 wk) (hl:N.length<=900000000000)=>zMK (c:=cR) h1 hb DD.out.rules SS.out.rr SS.out.rl hl);have C3:=af (fun wk N (h1:bJ w0.heap.size (w3.heap.size+1) N wk) (hb:Below w0.heap.size w0 wk) (hl:N.length<=900000000000)=>M7 (c:=cW) h1 hb DD.out.row (by omega));have C4:=af (fun wk N (h1:bJ w0.heap.size (w3.heap.size+1) N wk) (hb:Below w0.heap.size w0 wk) (hl:N.length<=900000000000)=>VD (c:=cX) h1 hb DD.out.rows (fun r hr=>⟨SS.out.wr r hr,FF.out.rows r hr⟩) SS.out.zJ hl);have C5:=af (fun wk N (h1:bJ w0.heap.size (w3.heap.size+1) N wk) (hb:Below w0.heap.size w0 wk) (hl:N.length<=900000000000)=>M7 (c:=cG) h1 hb DD.out.bj (by omega));have C6:=af (fun wk N (h1:bJ w0.heap.size (w3.heap.size+1) N wk) (hb:Below w0.heap.size w0 wk) (hl:N.length<=900000000000)=>VD (c:=cH) h1 hb DD.out.aj (fun r hr=>⟨SS.out.gr r hr,FF.out.aj r hr⟩) SS.out.zh hl);unfold nZ at C1 C2 C3 C4 C5 C6;clear hb vE fg z0 z1 z2 z3 z4 z5 z6 RI START DD SS FF;rcases Bool.eq_false_or_eq_true ((nums P).all iw)with hall|hall
    all_goals
     go_wp2_with (first
      |(go_at_call 46;(with_reducible refine(N1.out).mono ?_);rintro e w6 ⟨rfl,h1,h2⟩;have W6:=af h1;have B6:=af (B5.out.trans h2.below);obtain⟨u0,u1,u2,u3,u4,u5,u6⟩:=Z1.out.went B6.out;have N2:=af (C1.out _ _ W6.out P.ah (by simp only[List.length_append,List.length_cons,List.length_nil];omega));clear h1 h2 N1)
      |(go_at_call 46;(with_reducible refine(N2.out).mono ?_);rintro e w7 ⟨rfl,h1,h2⟩;have W7:=af h1;have B7:=af (B6.out.trans h2.below);obtain⟨u0,u1,u2,u3,u4,u5,u6⟩:=Z1.out.went B7.out;have N3:=af (C2.out _ _ W7.out B7.out (by simp only[List.length_append,List.length_cons,List.length_nil];omega));clear h1 h2 N2)
      |(go_at_call 47;(with_reducible refine(N3.out).mono ?_);rintro e w8 ⟨rfl,h1,h2⟩;have W8:=af h1;have B8:=af (B7.out.trans h2.below);obtain⟨u0,u1,u2,u3,u4,u5,u6⟩:=Z1.out.went B8.out;have N4:=af (C1.out _ _ W8.out (P.row.length:Int) (by simp only[List.length_append,List.length_cons,List.length_nil];omega));clear h1 h2 N3)
      |(go_at_call 46;(with_reducible refine(N4.out).mono ?_);rintro e w9 ⟨rfl,h1,h2⟩;have W9:=af h1;have B9:=af (B8.out.trans h2.below);obtain⟨u0,u1,u2,u3,u4,u5,u6⟩:=Z1.out.went B9.out;have N5:=af (C3.out _ _ W9.out B9.out (by simp only[List.length_append,List.length_cons,List.length_nil];omega));clear h1 h2 N4)
      |(go_at_call 48;(with_reducible refine(N5.out).mono ?_);rintro e mB ⟨rfl,h1,h2⟩;have W10:=af h1;have IL:=af (B9.out.trans h2.below);obtain⟨u0,u1,u2,u3,u4,u5,u6⟩:=Z1.out.went IL.out;have N6:=af (C4.out _ _ W10.out IL.out (by simp only[List.length_append,List.length_cons,List.length_nil];omega));clear h1 h2 N5)
      |(go_at_call 49;(with_reducible refine(N6.out).mono ?_);rintro e pT ⟨rfl,h1,h2⟩;have W11:=af h1;have IM:=af (IL.out.trans h2.below);obtain⟨u0,u1,u2,u3,u4,u5,u6⟩:=Z1.out.went IM.out;have N7:=af (C5.out _ _ W11.out IM.out (by simp only[List.length_append,List.length_cons,List.length_nil];omega));clear h1 h2 N6)
      |(go_at_call 48;(with_reducible refine(N7.out).mono ?_);rintro e w12 ⟨rfl,h1,h2⟩;have W12:=af h1;have wT:=af (IM.out.trans h2.below);obtain⟨u0,u1,u2,u3,u4,u5,u6⟩:=Z1.out.went wT.out;have N8:=af (C6.out _ _ W12.out wT.out (by simp only[List.length_append,List.length_cons,List.length_nil];omega));clear h1 h2 N7)
      |(go_at_call 49;(with_reducible refine(N8.out).mono ?_);rintro e Ta ⟨rfl,h1,h2⟩;have W13:=af h1;have Ff:=af (wT.out.trans h2.below);obtain⟨u0,u1,u2,u3,u4,u5,u6⟩:=Z1.out.went Ff.out;have W:=W13.out;rw[EN.out]at W;have Da:=W.wide;rw[hall]at Da;first|(obtain⟨ra,rc,hc0,hy⟩:=W.result hall LN.out;have Y:=af (YES.out Ta ra rc (Gr.step BB.out Ff.out) hall hy);clear hy;generalize (head++txt (nums P)).length=nl at hc0 Y)|(have Y:=af (OFF.out Ta (Gr.step BB.out Ff.out) hall));clear W;clear h1 h2 N8)
      |fail)
    all_goals
      go_wp2_with fail;go_ret;exact Y.out
end Ts
namespace Pk
open Im (ic)
def AX(P:Pd)(k:Nat):List (Nat×List Value):=(((P.row.map fun i=>(P.rows.getD i.toNat []).map fX).take k).map fun y=>(y.length,y.flatMap ic))
def GX(P:Pd)(k:Nat):List (Nat×List Value):=(((P.bj.map fun i=>(P.aj.getD i.toNat []).map jL).take k).map fun y=>(y.length,y.map (Value.int .i64)))
end Pk
namespace Pk
open Gr (Fits)
theorem Mf(w):nW Dv none 0 none 0 none 0 w:=by
 refine⟨fun i hi=>absurd hi (Nat.not_lt_zero _),.nil _ _ _,.nil _ _ _,?_,?_,?_,?_,⟨?_,?_,?_,?_,?_,?_⟩⟩
 all_goals first|(simp[Dv];done)|(unfold Fits Dv;dsimp only;omega)
