/- A part of the proof. -/
import Derived.Test.YtkcaedinfnajaaaGreatDoorPk16
set_option maxHeartbeats 16000000
set_option maxRecDepth 100000
set_option linter.unusedVariables false
namespace Go.Proofs.YtkcaedinfnajaaaGreatDoor
open Go.RowKit Go.Maps
namespace Fi
open Gr (Is step ivs zEA)
open Bt (SetAt Keeps OtherV gains)
theorem zGV{d:Nat}{w w':World}(h:Below w.heap.size w w'):Keeps d w w':=⟨h.os,h.tape,h.output,h.size,fun k hk _=>h.block k hk⟩
theorem zEY{W0 w w':World}{d:Nat}(h:Below W0.heap.size W0 w)(hd:W0.heap.size<=d)(k:Keeps d w w'):Below W0.heap.size W0 w':=h.trans (k.below hd h.size)
def zLl(p d m:Nat)(V:Nat->Bool)(F:Int->Int->Bool)(X:List Int)(w:World)(e:Ending)(w':World):Prop:=
 ∃b,e=.returned (.bool b)/\Gn V F X b/\SetAt p d m (jn V F X) w'/\Keeps d w w'
def zUu(I:Ix->Prop)(P D:Ix->Nat)(p q1 q2 t n:Nat)(T:Ix->Nat->Bool)(F:Int->Int->Bool)(k:Ix)(X:List Int)(W:World)(m i:Value)(w:World):Prop:=
 ∃(j:Nat) (b:Bool),j<=X.length/\i=.int .i64 j/\m=.bool b/\Gn (T k) F (X.take j) b/\SAt I P D p q1 q2 t n (upd T k (jn (T k) F (X.take j))) w/\Keeps (D k) W w
theorem zOL{X:List Int}{j:Nat}(h:j<X.length):X.take (j+1)=X.take j++[X[j]]:=by rw[List.take_succ_eq_append_getElem h]
theorem zTH{F:Int->Int->Bool}{n:Nat}(h2:∀x i,F x i=true->0<=x/\x<(n:Int)){y:Int}(hy:¬(0<=y/\y<(n:Int))):rw' (F y)=fun _=>false:=by
 funext i
 unfold rw';cases e:F y (i:Int)with
 |false=>rfl
 |true=>exact absurd (h2 _ _ e) hy
theorem SAt.otherV{I:Ix->Prop}{P D:Ix->Nat}{p q1 q2 t n:Nat}{C:Int->Bool}{F B:Int->Int->Bool}{O V:Nat->Bool}{k:Ix}{w:World}(h:SAt I P D p q1 q2 t n (upd (tv C F B O) k V) w)(hk:I k)(h2:∀x i,F x i=true->0<=x/\x<(n:Int))(y:Int)(hne:0<=y->y<(n:Int)->k≠.f y.toNat):
  ∃m,OtherV (D k) (fptr P n y) m (rw' (F y)) w:=by
 unfold fptr
 by_cases hy:0<=y/\y<(n:Int)
 ·rw[if_pos hy];replace hne:=hne hy.1 hy.2;have:=h.fam.other hk (h.if_ y.toNat (by omega)) (fun e=>hne e.symm);rw[zAf _ _ (fun e=>hne e.symm)]at this;refine⟨t+1,?_⟩;have e:((y.toNat:Nat):Int)=y:=by omega
  have e2:tv C F B O (.f y.toNat)=rw' (F y):=by show rw' (F ((y.toNat:Nat):Int))= _;rw[e]
  rw[e2]at this;exact this
 ·rw[if_neg hy,zTH h2 hy];exact⟨0,.nil _⟩
theorem SAt.wrote2{I:Ix->Prop}{P D:Ix->Nat}{p q1 q2 t n:Nat}{T:Ix->Nat->Bool}{V B:Nat->Bool}{k:Ix}{w w':World}(h:SAt I P D p q1 q2 t n (upd T k V) w)(hk:I k)(hm:rm t n k=t+1)(hs:SetAt (P k) (D k) (t+1) B w')(hK:Keeps (D k) w w'):SAt I P D p q1 q2 t n (upd T k B) w':=by
 have:=h.wrote hk (B:=B) (by rw[hm];exact hs) hK
 rwa [zOR]at this
theorem SAt.target{I:Ix->Prop}{P D:Ix->Nat}{p q1 q2 t n:Nat}{T:Ix->Nat->Bool}{V:Nat->Bool}{k:Ix}{w:World}(h:SAt I P D p q1 q2 t n (upd T k V) w)(hk:I k)(hm:rm t n k=t+1):SetAt (P k) (D k) (t+1) V w:=by
 have:=h.fam.at_ k hk
 rw[zB2,hm]at this;exact this
theorem zIk{I:Ix->Prop}{P D:Ix->Nat}{p q1 q2 t n:Nat}{C:Int->Bool}{F B:Int->Int->Bool}{O:Nat->Bool}(W0 w:World)(h:SAt I P D p q1 q2 t n (tv C F B O) w)(hT:TOk t n C F B)(k:Ix)(hk:I k)(hm:rm t n k=t+1)(hb0:Below W0.heap.size W0 w)(hd:W0.heap.size<=D k)
  (X:List Int) (a:Option Addr) (c:Nat) (hR:Sep.Reads a (ivs X) W0) (hL:LOk X c):
  Calls Tryz.prog 157 #[.pointer (some ⟨p,0,none⟩),.pointer (some ⟨P k,0,none⟩),.slice a X.length c] w (zLl (P k) (D k) (t+1) (tv C F B O k) F X w):=by
 have FI:=zVZ (fun T w1 (b:SAt I P D p q1 q2 t n T w1) x=>zGO w1 b x);have RR:=zVZ (fun w1 (b:Below W0.heap.size W0 w1)=>Sep.Reads.below hR b (Nat.le_refl _));have HK:=zVZ hk;have HM:=zVZ hm;have HD:=zVZ hd;have TO:=zVZ hT;have B0:=zVZ hb0;have S0:=zVZ (show SAt I P D p q1 q2 t n (upd (tv C F B O) k (jn (tv C F B O k) F (X.take 0))) w by rw[List.take_zero,zUG,upd_same];exact h);have G0:=zVZ (show Gn (tv C F B O k) F (X.take 0) false from by rw[List.take_zero];exact zUB _ _);have LO:=zVZ hL;have hl:=hL.len;have hcap:=hL.cap
 have SELF:=zVZ (show∀y:Int,0<=y->k=.f y.toNat->tv C F B O k=rw' (F y)/\fptr P n y=fptr P n y from fun y hy e=>by
  subst e;refine⟨?_,rfl⟩;show rw' (F ((y.toNat:Nat):Int))= _
  rw[show((y.toNat:Nat):Int)=y from by omega])
 clear h hR hL hT hk hm hb0 hd;go_enter Tryz.func157,Tryz.ntmps157;go_wp2;go_loopw [7,12] (fun m i wr=>zUu I P D p q1 q2 t n (tv C F B O) F k X w m i wr) (fun _ i _=>X.length-(intOf i).toNat)
 case atStart=>exact⟨0,false,Nat.zero_le _,rfl,rfl,G0.out,S0.out,.refl _ _⟩
 case round=>
  clear S0 G0;obtain⟨j,b,hj,rfl,rfl,hG,hS,hKp⟩:=hrel;have GG:=zVZ hG;have S:=zVZ hS;have KP:=zVZ hKp;clear hG hS hKp
  by_cases hlt:j<X.length
  ·obtain⟨bb,o,rfl,hc⟩:=zEA (RR.out _ (zEY B0.out HD.out KP.out)) hlt;have TN:=zVZ (zOL hlt);have FC:=zVZ (FI.out _ _ S.out X[j]);have hfy:=LO.out.at hlt
   by_cases hself:0<=X[j]/\X[j]<(n:Int)/\k=.f X[j].toNat
   ·obtain⟨hs0,hs1,hs2⟩:=hself;have E1:=(SELF.out X[j] hs0 hs2).1;have EP:=zVZ (show fptr P n X[j]=.pointer (some ⟨P k,0,none⟩)by unfold fptr;rw[if_pos ⟨hs0,hs1⟩,hs2]);have GN:=zVZ (show Gn (tv C F B O k) F (X.take (j+1)) b by rw[TN.out];exact zSL (fun i hi=>by rw[E1];exact hi) GG.out)
    have SN:=zVZ (show∀w',SAt I P D p q1 q2 t n (upd (tv C F B O) k (jn (tv C F B O k) F (X.take j))) w'->SAt I P D p q1 q2 t n (upd (tv C F B O) k (jn (tv C F B O k) F (X.take (j+1)))) w' from fun w' h=>by
     rw[TN.out,←zSc (X.take j) E1]
     exact h)
    have OS:=zVZ (fun w1 (hS:SAt I P D p q1 q2 t n (upd (tv C F B O) k (jn (tv C F B O k) F (X.take j))) w1)=>Bt.zIv w1 (hS.target HK.out HM.out));rw[EP.out]at FC;clear E1 hs2 EP SELF GG;generalize X[j]=y at*
    go_wp2_with (first
     |(go_at_call 158;refine FC.out.mono ?_;rintro e w1 ⟨rfl,hb⟩;have S1:=zVZ (S.out.went hb);have K1:=zVZ (KP.out.trans (zGV hb));clear hb)
     | (go_at_call 137;refine(OS.out _ S1.out).mono ?_;rintro e w2 ⟨rfl,hs,hk⟩;have S2:=zVZ (SN.out _ (S1.out.wrote2 HK.out HM.out hs hk));have K2:=zVZ (K1.out.trans hk);clear hs hk))
    go_roundw
    case rel=>exact⟨j+1,b,by omega,by go_num,rfl,GN.out,S2.out,K2.out⟩
    case measure=>simp[intOf];omega
   ·have OC:=zVZ (show∀w1,SAt I P D p q1 q2 t n (upd (tv C F B O) k (jn (tv C F B O k) F (X.take j))) w1->Calls Tryz.prog 137 #[.pointer (some ⟨P k,0,none⟩),fptr P n X[j]] w1 (Bt.Wrote (gains (jn (tv C F B O k) F (X.take j)) (t+1) (rw' (F X[j]))) (P k) (D k) (t+1) (jn (tv C F B O k) F (X.take (j+1))) w1)from fun w1 hS=>by
     obtain⟨m,ho⟩:=hS.otherV HK.out TO.out.f2 X[j] (fun h0 h1 e=>hself ⟨h0,h1,e⟩);have:=Bt.zHm w1 (hS.target HK.out HM.out) ho
     rwa [zSd (X.take j) (TO.out.f1 X[j]),←TN.out]at this)
    have GN:=zVZ (show Gn (tv C F B O k) F (X.take (j+1)) (b||gains (jn (tv C F B O k) F (X.take j)) (t+1) (rw' (F X[j])))by rw[TN.out];exact zSM (TO.out.f1 X[j]) GG.out);clear hself SELF GG TN;generalize gains (jn (tv C F B O k) F (X.take j)) (t+1) (rw' (F X[j]))=g at*;generalize fptr P n X[j]=u at*;generalize X[j]=y at*;cases g with
    |false=>
     rw[Bool.or_false]at GN
     go_wp2_with (first
      |(go_at_call 158;refine FC.out.mono ?_;rintro e w1 ⟨rfl,hb⟩;have S1:=zVZ (S.out.went hb);have K1:=zVZ (KP.out.trans (zGV hb));clear hb)
      | (go_at_call 137;refine(OC.out _ S1.out).mono ?_;rintro e w2 ⟨rfl,hs,hk⟩;have S2:=zVZ (S1.out.wrote2 HK.out HM.out hs hk);have K2:=zVZ (K1.out.trans hk);clear hs hk))
     go_roundw
     case rel=>exact⟨j+1,b,by omega,by go_num,rfl,GN.out,S2.out,K2.out⟩
     case measure=>simp[intOf];omega
    |true=>
     rw[Bool.or_true]at GN
     go_wp2_with (first
      |(go_at_call 158;refine FC.out.mono ?_;rintro e w1 ⟨rfl,hb⟩;have S1:=zVZ (S.out.went hb);have K1:=zVZ (KP.out.trans (zGV hb));clear hb)
      | (go_at_call 137;refine(OC.out _ S1.out).mono ?_;rintro e w2 ⟨rfl,hs,hk⟩;have S2:=zVZ (S1.out.wrote2 HK.out HM.out hs hk);have K2:=zVZ (K1.out.trans hk);clear hs hk))
     go_roundw
     case rel=>exact⟨j+1,true,by omega,by go_num,rfl,GN.out,S2.out,K2.out⟩
     case measure=>simp[intOf];omega
  ·have E:X.take j=X:=List.take_of_length_le (by omega);have T1:=zVZ (S.out.target HK.out HM.out);rw[E]at T1 GG;clear E;go_wp2;go_ret;exact⟨b,rfl,GG.out,T1.out,KP.out⟩
theorem zMz{I:Ix->Prop}{P D:Ix->Nat}{p q1 q2 t n:Nat}{V:Ix->Nat->Bool}(w:World)(h:SAt I P D p q1 q2 t n V w)(X:List Int)(a:Option Addr)(c:Nat)(hR:Sep.Reads a (ivs X) w)(hL:LOk X c):
  Calls Tryz.prog 157 #[.pointer (some ⟨p,0,none⟩),.pointer none,.slice a X.length c] w (Is (.bool false) w):=by
 have FI:=zVZ (fun w1 (b:Below w.heap.size w w1) x=>zGO w1 (h.went b) x);have RR:=zVZ (fun w1 (b:Below w.heap.size w w1)=>Sep.Reads.below hR b (Nat.le_refl _));have OR:=zVZ (fun u w1=>Bt.zRL (u:=u) w1);have LO:=zVZ hL;have hl:=hL.len;have hcap:=hL.cap;clear h hR hL;go_enter Tryz.func157,Tryz.ntmps157;go_wp2;go_loopw [7,12] (fun m i wr=>∃j:Nat,j<=X.length/\i=.int .i64 j/\m=.bool false/\Below w.heap.size w wr) (fun _ i _=>X.length-(intOf i).toNat)
 case atStart=>exact⟨0,Nat.zero_le _,rfl,rfl,.refl _ _⟩
 case round=>
  obtain⟨j,hj,rfl,rfl,hb⟩:=hrel;have B:=zVZ hb;clear hb
  by_cases hlt:j<X.length
  ·obtain⟨bb,o,rfl,hc⟩:=zEA (RR.out _ B.out) hlt;have FC:=zVZ (FI.out _ B.out X[j]);generalize fptr P n X[j]=u at*;generalize X[j]=y at*
   go_wp2_with (first
    |(go_at_call 158;refine FC.out.mono ?_;rintro e w1 ⟨rfl,hb⟩;have B1:=zVZ (Gr.step B.out hb);clear hb)
    | (go_at_call 137;refine(OR.out _ _).mono ?_;rintro e w2 ⟨rfl,rfl⟩))
   go_roundw
   case rel=>exact⟨j+1,by omega,by go_num,rfl,B1.out⟩
   case measure=>simp[intOf];omega
  ·go_wp2;go_ret;exact⟨rfl,B.out⟩
end Fi
namespace Fi
open Gr (boxed step ivs drawn)
open Bt (Keeps putR putI)
open Rw (Bk)
def Ds(I:Ix->Prop)(D:Ix->Nat):Nat->Prop:=fun b=>∃k,I k/\b=D k
theorem zEL{I:Ix->Prop}{D:Ix->Nat}{k:Ix}(hk:I k){w w':World}(h:Keeps (D k) w w'):Sep.Fr (Ds I D) w w':=
 ⟨h.os,h.tape,h.output,h.size,fun i hi hS=>h.block i hi fun e=>hS ⟨k,hk,e⟩⟩
theorem zOn{I:Ix->Prop}{D:Ix->Nat}{W0 w w':World}(hb:Below W0.heap.size W0 w)(hD:∀k,I k->W0.heap.size<=D k)(h:Sep.Fr (Ds I D) w w'):Below W0.heap.size W0 w':=
 hb.trans (h.below (fun b ⟨k,hk,e⟩=>e▸hD k hk) hb.size)
theorem zQU{C:Int->Bool}{n:Nat}(h:Rng C n){r:Int×List Int}(h0:0<=r.1)(h1:r.1<(n:Int)):Rng (addC C r) n:=fun x k=>by
 unfold addC at k;rw[Bool.or_eq_true,Bool.and_eq_true,decide_eq_true_iff]at k;rcases k with k|⟨e,_⟩
 ·exact h x k
 ·subst e;exact⟨h0,h1⟩
theorem zQK{C:Int->Bool}{n s:Nat}{R:List Int}(hs:s<n)(ha:allC C R=true):putI (rw' C) n (s:Int)=rw' (addC C ((s:Int),R))/\putR (rw' C) n (s:Int)= !C (s:Int):=by
 constructor
 ·unfold putI;rw[if_pos (by omega)]
  funext i
  unfold Bt.put rw' addC;dsimp only;rw[ha,Bool.and_true]
  congr 1
  rw[decide_eq_decide];omega
 ·unfold putR;simp[rw',hs]
theorem zCc{C:Int->Bool}{F:Int->Int->Bool}{m:Nat}(h:∀x,Rng (F x) m)(l:List Int):Rng (zAe C F l) m:=fun t k=>by
 obtain⟨_,y,_,_,_,h3⟩:=zB6.1 k;exact h y t h3
theorem zSb{C:Int->Bool}{F:Int->Int->Bool}{s:Nat}{R:List Int}:jn (rw' (F (s:Int))) F (R.take (zBf C R))=rw' (addF C F ((s:Int),R) (s:Int)):=by
 funext i
 unfold jn rw' addF;dsimp only;rw[zB5,decide_eq_true rfl,Bool.true_and]
theorem zMd{C:Int->Bool}{F:Int->Int->Bool}{V:Nat->Bool}{R:List Int}{b:Bool}(h:Gn V F (R.take (zBf C R)) b):b=true↔∃i:Nat,zAe C F R (i:Int)=true/\V i=false:=by
 unfold Gn at h;rw[h];constructor
 ·rintro⟨i,⟨y,hy,h1⟩,h2⟩;refine⟨i,?_,h2⟩;rw[←zB5,List.any_eq_true];exact⟨y,hy,h1⟩
 ·rintro⟨i,h1,h2⟩;rw[←zB5,List.any_eq_true]at h1;obtain⟨y,hy,h3⟩:=h1;exact⟨i,⟨y,hy,h3⟩,h2⟩
theorem zT3{Q:Int->Prop}{m:Nat}(h:∀t,Q t->0<=t):(∃t,Q t)↔∃i:Nat,Q (i:Int):=
 ⟨fun⟨t,ht⟩=>⟨t.toNat,by rw[show((t.toNat:Nat):Int)=t from by have:=h t ht;omega];exact ht⟩,fun⟨i,hi⟩=>⟨i,hi⟩⟩
theorem LOk.take{L:List Int}{c:Nat}(h:LOk L c)(m:Nat):LOk (L.take m) c:=
 ⟨fun x hx=>h.fit x (List.mem_of_mem_take hx),Nat.le_trans (List.length_take_le' _ _) h.len,Nat.le_trans (List.length_take_le' _ _) h.cap⟩
theorem zCr{L:List Int}{a:Option Addr}{w:World}(h:Sep.Reads a (ivs L) w)(m:Nat):Sep.Reads a (ivs (L.take m)) w:=by
 have e:ivs (L.take m)=(ivs L).take m:=by unfold ivs;rw[List.map_take]
 rw[e];intro i hi
 have hi2:i<(ivs L).length:=by
  rw[List.length_take]at hi;omega
 obtain⟨b,o,e,hc⟩:=h i hi2;refine⟨b,o,e,?_⟩;rw[hc,List.getElem_take]
theorem take_len{C:Int->Bool}(L:List Int):(L.take (zBf C L)).length=zBf C L:=by
 rw[List.length_take];have:=zPK C L;omega
def AddE(I:Ix->Prop)(P D:Ix->Nat)(p q1 q2 t n:Nat)(C:Int->Bool)(F B:Int->Int->Bool)(O:Nat->Bool)(r:Int×List Int)(w:World)(e:Ending)(w':World):Prop:=
 ∃b,e=.returned (.bool b)/\(b=true↔allC C r.2=true/\C r.1=false)/\SAt I P D p q1 q2 t n (tv (addC C r) F B O) w'/\Sep.Fr (Ds I D) w w'
def AddF(I:Ix->Prop)(P D:Ix->Nat)(p q1 q2 t n:Nat)(C:Int->Bool)(F B:Int->Int->Bool)(O:Nat->Bool)(r:Int×List Int)(w:World)(e:Ending)(w':World):Prop:=
 ∃b,e=.returned (.bool b)/\(b=true↔∃t,zAe C F r.2 t=true/\F r.1 t=false)/\SAt I P D p q1 q2 t n (tv C (addF C F r) B O) w'/\Sep.Fr (Ds I D) w w'
theorem zRh{I:Ix->Prop}{P D:Ix->Nat}{p q1 q2 t n:Nat}{C:Int->Bool}{F B:Int->Int->Bool}{O:Nat->Bool}(w:World)(h:SAt I P D p q1 q2 t n (tv C F B O) w)(hT:TOk t n C F B)
  (s:Nat) (hs:s<n) (R:List Int) (a:Option Addr) (c:Nat) (hR:Sep.Reads a (ivs R) w) (hL:LOk R c):
  Calls Tryz.prog 133 #[.pointer (some ⟨p,0,none⟩),.agg #[.int .i64 (s:Int),.slice a R.length c]] w (AddE I P D p q1 q2 t n C F B O ((s:Int),R) w):=by
 have bx:=boxed w (.cells #[.int .i64 (s:Int),.slice a R.length c] 55);have BX:=zVZ bx;have Q0:=zVZ (Bk.new w #[.int .i64 (s:Int),.slice a R.length c] 55 _ rfl);have S0:=zVZ (h.went bx);have HD:=zVZ (zDB _ S0.out hT.c R a c (Sep.Reads.below hR bx (Nat.le_refl _)) hL);have hn:=h.n4;have HDp:=zVZ (h.off .e h.ie);have HIE:=zVZ h.ie;have hdl:D .e<w.heap.size:=(h.fam.at_ .e h.ie).ind;have hdp:=(h.off .e h.ie).1;clear h hR hL bx;cases ha:allC C R with
 |false=>
  have E:=zVZ (show addC C ((s:Int),R)=C from zG0 fun k=>by rw[show allC C ((s:Int),R).2=false from ha]at k;cases k);have EB:=zVZ (show((false=true)↔allC C ((s:Int),R).2=true/\C ((s:Int),R).1=false)from⟨(fun k=>by cases k),(fun k=>by rw[show allC C ((s:Int),R).2=false from ha]at k;cases k.1)⟩);unfold zC9 at HD;rw[ha]at HD;clear ha hT;go_enter Tryz.func133,Tryz.ntmps133;go_wp2_with (go_at_call 156;refine HD.out.mono ?_;rintro e w1 ⟨rfl,hb⟩;have B1:=zVZ (Gr.step BX.out hb);have S1:=zVZ (S0.out.went hb);clear hb);go_quiet (fail);go_wp2;go_ret;refine⟨false,rfl,EB.out,by rw[E.out];exact S1.out.went (zIR _ _),Sep.Fr.of_below (Gr.step B1.out (zIR _ _))⟩
 |true=>
  obtain⟨p1,p2⟩:=zQK hs ha;have E1:=zVZ p1;have E2:=zVZ p2;have EB:=zVZ (show((!C (s:Int))=true↔allC C ((s:Int),R).2=true/\C ((s:Int),R).1=false)by simp[ha]);unfold zC9 at HD;rw[ha]at HD;have PU:=zVZ (fun w1 (k:SAt I P D p q1 q2 t n (tv C F B O) w1)=>Bt.zCd w1 (k.fam.at_ .e k.ie) (s:Int) (by omega));clear ha hT p1 p2;go_enter Tryz.func133,Tryz.ntmps133;go_wp2_with (go_at_call 156;refine HD.out.mono ?_;rintro e w1 ⟨rfl,hb⟩;have B1:=zVZ (Gr.step BX.out hb);have S1:=zVZ (S0.out.went hb);have Q1:=zVZ (Q0.out.went hb);clear hb);obtain⟨y0,y1,yf⟩:=Q1.out.two;obtain⟨x0,x1,x2,x3,x4⟩:=Bk.five S1.out.box
  have HQ:=zVZ (show∀w',Sep.Fr (fun b=>b=D .e) w1 w'->w'.cell? ⟨w.heap.size,0,none⟩=some (.int .i64 (s:Int))/\w'.cell? ⟨p,2,none⟩=some (.pointer (some ⟨P .e,0,none⟩))/\Sep.Fr (fun b=>b=D .e) w1 w' from
   fun w' hF=>⟨hF.cell y0 (by simp;omega),hF.cell x2 (by simp;omega),hF⟩)
  have hF1:Sep.Fr (fun b=>b=D .e) w1 w1.drew:=(Sep.Fr.refl _ _).drew;clear y1 yf x0 x1 x3 x4
  go_region_held3 (fun w'=>w'.cell? ⟨w.heap.size,0,none⟩=some (.int .i64 (s:Int))/\w'.cell? ⟨p,2,none⟩=some (.pointer (some ⟨P .e,0,none⟩))/\Sep.Fr (fun b=>b=D .e) w1 w')
   (exact HQ.out _ (by assumption))
   (first
    |(go_at_call 139;refine(PU.out _ (S1.out.went (drawn _))).mono ?_;rintro e w2 ⟨rfl,hs2,hk2⟩;have S2:=zVZ ((S1.out.went (drawn _)).wrote HIE.out hs2 hk2);have K2:=zVZ hk2;have hF2:Sep.Fr (fun b=>b=D .e) w1 w2:=hF1.trans ⟨hk2.os,hk2.tape,hk2.output,hk2.size,fun i hi hb=>hk2.block i hi hb⟩ (fun _ h=> .inl h);clear hs2 hk2)
    |fail)
  go_wp2;go_ret;refine⟨_,rfl,?_,?_,(Sep.Fr.of_below (Gr.step B1.out (drawn _))).trans (zEL HIE.out K2.out) fun _ h=> .inl h⟩
  ·rw[show putR (tv C F B O .e) (rm t n .e) (s:Int)= !C (s:Int)from E2.out];exact EB.out
  ·have:=S2.out
   rwa [tv_e (D:=addC C ((s:Int),R)) (show putI (tv C F B O .e) (rm t n .e) (s:Int)=rw' (addC C ((s:Int),R))from E1.out)]at this
theorem zRi{I:Ix->Prop}{P D:Ix->Nat}{p q1 q2 t n:Nat}{C:Int->Bool}{F B:Int->Int->Bool}{O:Nat->Bool}(W0 w:World)(h:SAt I P D p q1 q2 t n (tv C F B O) w)(hT:TOk t n C F B)(hb0:Below W0.heap.size W0 w)(hD:∀k,I k->W0.heap.size<=D k)
  (s:Nat) (hs:s<n) (R:List Int) (a:Option Addr) (c:Nat) (hR:Sep.Reads a (ivs R) W0) (hL:LOk R c):
  Calls Tryz.prog 134 #[.pointer (some ⟨p,0,none⟩),.agg #[.int .i64 (s:Int),.slice a R.length c]] w (AddF I P D p q1 q2 t n C F B O ((s:Int),R) w):=by
 have bx:=boxed w (.cells #[.int .i64 (s:Int),.slice a R.length c] 55);have BX:=zVZ bx;have Q0:=zVZ (Bk.new w #[.int .i64 (s:Int),.slice a R.length c] 55 _ rfl);have S0:=zVZ (h.went bx);have HD:=zVZ (zDB _ S0.out hT.c R a c (Sep.Reads.below hR (Gr.step hb0 bx) (Nat.le_refl _)) hL);have hn:=h.n4;have FI:=zVZ (fun w1 (b:SAt I P D p q1 q2 t n (tv C F B O) w1)=>zGO w1 b (s:Int));have EP:=zVZ (show fptr P n (s:Int)=.pointer (some ⟨P (.f s),0,none⟩)by unfold fptr;rw[if_pos (by omega)];rfl);have JO:=zVZ (fun w1 (k:SAt I P D p q1 q2 t n (tv C F B O) w1) (hb:Below W0.heap.size W0 w1)=>zIk W0 w1 k hT (.f s) (k.if_ s hs) rfl hb (hD _ (k.if_ s hs)) (R.take (zBf C R)) a c (zCr hR _) (hL.take _));rw[take_len]at JO;rw[EP.out]at FI;have HIF:=zVZ (h.if_ s hs);have HB0:=zVZ hb0;have RG:=zVZ (zCc (C:=C) hT.f1 R);clear h hR hL bx hT hb0 hD EP;unfold zC9 at HD;go_enter Tryz.func134,Tryz.ntmps134
 go_wp2_with (first
  |(go_at_call 156;refine HD.out.mono ?_;rintro e w1 ⟨rfl,hb⟩;have B1:=zVZ (Gr.step BX.out hb);have S1:=zVZ (S0.out.went hb);have Q1:=zVZ (Q0.out.went hb);clear hb;obtain⟨y0,y1,yf⟩:=Q1.out.two)
  |(go_at_call 158;refine(FI.out _ S1.out).mono ?_;rintro e w2 ⟨rfl,hb⟩;have B2:=zVZ (Gr.step B1.out hb);have S2:=zVZ (S1.out.went hb);clear hb)
  | (go_at_call 157;refine(JO.out _ S2.out (Gr.step HB0.out B2.out)).mono ?_;rintro e w3 ⟨b,rfl,hg,hs3,hk3⟩;have G3:=zVZ hg;have S3:=zVZ (S2.out.wrote HIF.out hs3 hk3);have K3:=zVZ hk3;clear hg hs3 hk3))
 go_ret;refine⟨b,rfl,?_,?_,(Sep.Fr.of_below B2.out).trans (zEL HIF.out K3.out) fun _ h=> .inl h⟩
 ·rw[zMd G3.out,zT3 (m:=0) (fun t ht=>(RG.out t ht.1).1)];exact Iff.rfl
 ·have:=S3.out
  rwa [tv_f (H:=addF C F ((s:Int),R)) (show jn (tv C F B O (.f s)) F (R.take (zBf C R))=rw' (addF C F ((s:Int),R) (s:Int))from zSb) (fun x hx=>by funext t;unfold addF;dsimp only;rw[decide_eq_false hx];simp)]at this
end Fi
namespace Fi
open Gr (Gram nonB step ivs)
open Bt (SetAt Keeps orr gains)
open Rw (Bk)
theorem zLM{L:List Int}{b o:Nat}{w:World}(h:Sep.Reads (some ⟨b,o,none⟩) (ivs L) w)(m:Nat):Sep.Reads (some ⟨b,o+m,none⟩) (ivs (L.drop m)) w:=by
 have e:ivs (L.drop m)=(ivs L).drop m:=by unfold ivs;rw[List.map_drop]
 rw[e];intro i hi
 have hi2:m+i<(ivs L).length:=by
  rw[List.length_drop]at hi;omega
 obtain⟨b',o',e,hc⟩:=h (m+i) hi2;injection e with e
 injection e with e1 e2 _
 subst e1;subst e2;refine⟨b,o+m,rfl,?_⟩;rw[List.getElem_drop,Nat.add_assoc];exact hc
theorem LOk.drop{L:List Int}{c:Nat}(h:LOk L c)(m:Nat):LOk (L.drop m) (c-m):=
 ⟨fun x hx=>h.fit x (List.mem_of_mem_drop hx),by rw[List.length_drop];have:=h.len;omega,by rw[List.length_drop];have:=h.cap;omega⟩
def zUx(p d m:Nat)(V U:Nat->Bool)(w:World)(e:Ending)(w':World):Prop:=
 ∃g,e=.returned (.bool g)/\(g=true↔∃i:Nat,U i=true/\V i=false)/\SetAt p d m (fun i=>V i||U i) w'/\Keeps d w w'
theorem zUT{I:Ix->Prop}{P D:Ix->Nat}{p q1 q2 t n:Nat}{C:Int->Bool}{F B:Int->Int->Bool}{O V:Nat->Bool}{s x:Nat}(w:World)(h:SAt I P D p q1 q2 t n (upd (tv C F B O) (.g x) V) w)(hx:t<x/\x<n)(hs:t<s/\s<n)(hr:Rng (B (s:Int)) (t+1))(he:s=x->∀i:Nat,B (s:Int) (i:Int)=true->V i=true):
  Calls Tryz.prog 137 #[.pointer (some ⟨P (.g x),0,none⟩),.pointer (some ⟨P (.g s),0,none⟩)] w (zUx (P (.g x)) (D (.g x)) (t+1) V (rw' (B (s:Int))) w):=by
 have hk:=h.ig x hx.1 hx.2;have ht:=h.target hk rfl
 by_cases e:s=x
 ·subst e;refine(Bt.zIv w ht).mono ?_;rintro e w' ⟨rfl,h1,h2⟩
  have E:(fun i=>V i||rw' (B (s:Int)) i)=V:=by
   funext i
   unfold rw';cases k:B (s:Int) (i:Int)with
   |false=>simp
   |true=>rw[he rfl i k];rfl
  refine⟨false,rfl,⟨(fun k=>by cases k),fun⟨i,k1,k2⟩=>?_⟩,by rw[E];exact h1,h2⟩;rw[he rfl i k1]at k2;cases k2
 ·have ho:=h.fam.other hk (h.ig s hs.1 hs.2) (fun k=>e (by injection k));rw[zAf _ _ (fun k=>e (by injection k))]at ho;refine(Bt.zHm w ht ho).mono ?_;rintro e w' ⟨rfl,h1,h2⟩
  have E:orr V (t+1) (tv C F B O (.g s))=fun i=>V i||rw' (B (s:Int)) i:=by
   funext i
   unfold orr;show(V i||(rw' (B (s:Int)) i&&_))= _;cases k:rw' (B (s:Int)) i with
   |false=>simp
   |true=>
    have:=(hr _ k).2;have h3:i<t+1:=by omega
    simp[h3]
  refine⟨_,rfl,?_,by rw[←E];exact h1,h2⟩;unfold gains;rw[List.any_eq_true];constructor
  ·rintro⟨i,_,k⟩;rw[Bool.and_eq_true]at k;exact⟨i,k.1,by simpa using k.2⟩
  ·rintro⟨i,k1,k2⟩;refine⟨i,List.mem_range.2 (by have:=(hr _ k1).2;omega),?_⟩;rw[Bool.and_eq_true];exact⟨k1,by rw[k2];rfl⟩
theorem zQs{t n:Nat}{C:Int->Bool}{F B:Int->Int->Bool}(h:TOk t n C F B)(r:Int×List Int)(k:Nat){x:Int}(h0:(t:Int)<x)(h1:x<(n:Int)):TOk t n C F (addB C F B r k x):=by
 refine⟨h.c,h.f1,h.f2,fun y i e=>?_,fun y i e=>?_⟩
 ·unfold addB behP at e;simp only[Bool.or_eq_true,Bool.and_eq_true,decide_eq_true_iff]at e;rcases e with e|⟨_,e|⟨_,e⟩⟩
  ·exact h.b1 y i e
  ·exact zCc h.f1 _ i e
  ·exact h.b1 _ i e
 ·unfold addB at e;simp only[Bool.or_eq_true,Bool.and_eq_true,decide_eq_true_iff]at e;rcases e with e|⟨e,_⟩
  ·exact h.b2 y i e
  ·subst e;exact⟨h0,h1⟩
theorem zPD{G:Gram}{n t:Nat}{B0 B:Int->Int->Bool}{j k:Nat}{b0 b b1 g:Bool}(h:TriedB G n (canB G) (fstB G) B0 j k B (b0||b))(hT:TOk t n (canB G) (fstB G) B)(hj:j<G.rules.length)(hk:k<G.rules[j].2.length)(hn:nonB G G.rules[j].2[k]=true)(h0:0<=G.rules[j].2[k])(h1:G.rules[j].2[k]<(n:Int))
  (e1:b1=true↔∃i:Nat,zAe (canB G) (fstB G) (G.rules[j].2.drop (k+1)) (i:Int)=true/\B G.rules[j].2[k] (i:Int)=false)
  (e2:g=true↔allC (canB G) (G.rules[j].2.drop (k+1))=true/\∃i:Nat,B G.rules[j].1 (i:Int)=true/\(B G.rules[j].2[k] (i:Int)||zAe (canB G) (fstB G) (G.rules[j].2.drop (k+1)) (i:Int))=false) (m:Bool) (hm:m=(b||b1||g)):
  TriedB G n (canB G) (fstB G) B0 j (k+1) (addB (canB G) (fstB G) B G.rules[j] k G.rules[j].2[k]) (b0||m):=by
 have:=h.step (c:=b1||g) (zRB G) hj hk hn h0 h1 ?_
 ·rw[hm,←Bool.or_assoc,←Bool.or_assoc];rw[←Bool.or_assoc]at this;exact this
 ·rw[Bool.or_eq_true,e1,e2];constructor
  ·rintro(⟨i,k1,k2⟩|⟨ka,i,k1,k2⟩)
   ·refine⟨(i:Int),?_,k2⟩;unfold behP;rw[k1]
    rfl
   ·rw[Bool.or_eq_false_iff]at k2;refine⟨(i:Int),?_,k2.1⟩;unfold behP;rw[ka,k1];simp
  ·rintro⟨t',k1,k2⟩
   have hr:0<=t':=by
    unfold behP at k1;simp only[Bool.or_eq_true,Bool.and_eq_true]at k1;rcases k1 with k1|⟨_,k1⟩
    ·exact(zCc hT.f1 _ t' k1).1
    ·exact(hT.b1 _ t' k1).1
   obtain⟨i,rfl⟩:∃i:Nat,t'=(i:Int):=⟨t'.toNat,by omega⟩;unfold behP at k1;cases hl:zAe (canB G) (fstB G) (G.rules[j].2.drop (k+1)) (i:Int)with
   |true=>exact .inl ⟨i,hl,k2⟩
   |false=>
    rw[hl,Bool.false_or,Bool.and_eq_true]at k1;exact .inr ⟨k1.1,i,k1.2,by rw[k2,hl];rfl⟩
def AddB(I:Ix->Prop)(P D:Ix->Nat)(p q1 q2 t n:Nat)(G:Gram)(B0:Int->Int->Bool)(j:Nat)(b0:Bool)(O:Nat->Bool)(w:World)(e:Ending)(w':World):Prop:=
 ∃b B,e=.returned (.bool b)/\TriedB G n (canB G) (fstB G) B0 (j+1) 0 B (b0||b)/\TOk t n (canB G) (fstB G) B/\SAt I P D p q1 q2 t n (tv (canB G) (fstB G) B O) w'/\Sep.Fr (Ds I D) w w'
structure FSt (I:Ix->Prop) (P D:Ix->Nat) (p q1 q2 t n:Nat) (G:Gram) (B0:Int->Int->Bool) (j k:Nat) (b0 b:Bool) (O:Nat->Bool) (B:Int->Int->Bool) (W:World) (u0 u1:Value) (w:World):Prop where
 tr:TriedB G n (canB G) (fstB G) B0 j k B (b0||b)
 ok:TOk t n (canB G) (fstB G) B
 s:SAt I P D p q1 q2 t n (tv (canB G) (fstB G) B O) w
 fr:Sep.Fr (Ds I D) W w
 box:Bk W.heap.size #[u0,u1] 55 w
def zUs(I:Ix->Prop)(P D:Ix->Nat)(p q1 q2 t n:Nat)(G:Gram)(B0:Int->Int->Bool)(j:Nat)(b0:Bool)(O:Nat->Bool)(W:World)(u0 u1:Value)(l:Nat)(m i:Value)(w:World):Prop:=
 ∃(k:Nat) (b:Bool) (B:Int->Int->Bool),k<=l/\i=.int .i64 k/\m=.bool b/\FSt I P D p q1 q2 t n G B0 j k b0 b O B W u0 u1 w
theorem zU5{I:Ix->Prop}{P D:Ix->Nat}{p q1 q2 t n:Nat}{V:Ix->Nat->Bool}{w:World}(h:SAt I P D p q1 q2 t n V w):¬Ds I D w.heap.size:=fun⟨k,hk,e⟩=>by
 have:=(h.fam.at_ k hk).ind;omega
theorem FSt.went{I:Ix->Prop}{P D:Ix->Nat}{p q1 q2 t n:Nat}{G:Gram}{B0:Int->Int->Bool}{j k:Nat}{b0 b:Bool}{O:Nat->Bool}{B:Int->Int->Bool}{W:World}{u0 u1:Value}{w w':World}(h:FSt I P D p q1 q2 t n G B0 j k b0 b O B W u0 u1 w)(hb:Below w.heap.size w w'):FSt I P D p q1 q2 t n G B0 j k b0 b O B W u0 u1 w':=
 ⟨h.tr,h.ok,h.s.went hb,Rw.zDr h.fr hb,h.box.went hb⟩
end Fi
namespace Fi
open Gr (Gram nonB top zAa boxed ivs zEA)
open Bt (SetAt Keeps)
open Rw (Bk)
def BehA(a:Option Addr)(cc bb o k l c:Nat):Prop:=(a=some ⟨bb,o+(k+1),none⟩/\cc=c-(k+1))\/(a=some ⟨bb,o,none⟩/\cc=0/\l<=k+1)
theorem zHw{L:List Int}{a:Option Addr}{cc bb o k c:Nat}{w:World}(h:Sep.Reads (some ⟨bb,o,none⟩) (ivs L) w)(ha:BehA a cc bb o k L.length c):Sep.Reads a (ivs (L.drop (k+1))) w:=by
 rcases ha with⟨rfl,_⟩|⟨rfl,_,hl⟩
 ·exact zLM h (k+1)
 ·rw[List.drop_of_length_le hl];exact .nil _ _
theorem zGY{L:List Int}{a:Option Addr}{cc bb o k c:Nat}(h:LOk L c)(ha:BehA a cc bb o k L.length c):LOk (L.drop (k+1)) cc:=by
 rcases ha with⟨_,rfl⟩|⟨_,rfl,hl⟩
 ·exact h.drop (k+1)
 ·rw[List.drop_of_length_le hl];exact⟨(fun x hx=>by cases hx),by simp,by simp⟩
theorem zMY{G:Gram}{n t:Nat}{B0 B:Int->Int->Bool}{j k:Nat}{b0 b:Bool}(h:TriedB G n (canB G) (fstB G) B0 j k B (b0||b))(hT:TOk t n (canB G) (fstB G) B)(hj:j<G.rules.length){s:Int}{R:List Int}(hr:G.rules[j]=(s,R))(hk:k<R.length){x:Int}(hx:R[k]=x)(hn:nonB G x=true)(h0:0<=x)(h1:x<(n:Int)):
  ∀b1 g m:Bool,(b1=true↔∃i:Nat,zAe (canB G) (fstB G) (R.drop (k+1)) (i:Int)=true/\B x (i:Int)=false)->
   (g=true↔allC (canB G) (R.drop (k+1))=true/\∃i:Nat,B s (i:Int)=true/\(B x (i:Int)||zAe (canB G) (fstB G) (R.drop (k+1)) (i:Int))=false)->m=(b||b1||g)->
   TriedB G n (canB G) (fstB G) B0 j (k+1) (addB (canB G) (fstB G) B (s,R) k x) (b0||m):=by
 intro b1 g m e1 e2 hm;subst hx;have e:R=G.rules[j].2:=by rw[hr]
 have es:s=G.rules[j].1:=by rw[hr]
 subst es;subst e;exact zPD h hT hj hk hn h0 h1 e1 e2 m hm
theorem skip'{G:Gram}{n:Nat}{B0 B:Int->Int->Bool}{j k:Nat}{b:Bool}(h:TriedB G n (canB G) (fstB G) B0 j k B b)(hj:j<G.rules.length){s:Int}{R:List Int}(hr:G.rules[j]=(s,R))(hs:∀hk:k<R.length,nonB G R[k]=false):TriedB G n (canB G) (fstB G) B0 j (k+1) B b:=by
 have e:R=G.rules[j].2:=by rw[hr]
 subst e;exact h.skip hj hs
theorem next'{G:Gram}{n:Nat}{B0 B:Int->Int->Bool}{j k:Nat}{b:Bool}(h:TriedB G n (canB G) (fstB G) B0 j k B b)(hj:j<G.rules.length){s:Int}{R:List Int}(hr:G.rules[j]=(s,R))(hk:¬k<R.length):TriedB G n (canB G) (fstB G) B0 (j+1) 0 B b:=by
 have e:R=G.rules[j].2:=by rw[hr]
 subst e;exact h.next hj hk
theorem zLu{C:Int->Bool}{F B:Int->Int->Bool}{s x:Int}{R:List Int}{k:Nat}(ha:allC C (R.drop (k+1))=false):(fun i:Nat=>B x (i:Int)||zAe C F (R.drop (k+1)) (i:Int))=rw' (addB C F B (s,R) k x x):=by
 funext i
 unfold rw' addB behP;dsimp only;rw[ha];simp
theorem zLv{C:Int->Bool}{F B:Int->Int->Bool}{s x:Int}{R:List Int}{k:Nat}(ha:allC C (R.drop (k+1))=true):(fun i:Nat=>(B x (i:Int)||zAe C F (R.drop (k+1)) (i:Int))||rw' (B s) i)=rw' (addB C F B (s,R) k x x):=by
 funext i
 unfold rw' addB behP;dsimp only;rw[ha];simp[Bool.or_assoc]
theorem zKO{C:Int->Bool}{F B:Int->Int->Bool}{r:Int×List Int}{k:Nat}{x:Int}(y:Int)(h:y≠x):addB C F B r k x y=B y:=by
 funext t
 unfold addB;rw[decide_eq_false h];simp
theorem zUH{C:Int->Bool}{F:Int->Int->Bool}{Q:Int->Bool}{L:List Int}:jn (rw' Q) F (L.take (zBf C L))=fun i:Nat=>Q (i:Int)||zAe C F L (i:Int):=by
 funext i
 unfold jn rw';rw[zB5]
structure JSt (I:Ix->Prop) (P D:Ix->Nat) (p q1 q2 t n:Nat) (C:Int->Bool) (F B:Int->Int->Bool) (O:Nat->Bool) (x:Nat) (V:Nat->Bool) (W:World) (u0 u1:Value) (w:World):Prop where
 s:SAt I P D p q1 q2 t n (upd (tv C F B O) (.g x) V) w
 fr:Sep.Fr (Ds I D) W w
 box:Bk W.heap.size #[u0,u1] 55 w
theorem JSt.went{I:Ix->Prop}{P D:Ix->Nat}{p q1 q2 t n:Nat}{C:Int->Bool}{F B:Int->Int->Bool}{O:Nat->Bool}{x:Nat}{V:Nat->Bool}{W:World}{u0 u1:Value}{w w':World}(h:JSt I P D p q1 q2 t n C F B O x V W u0 u1 w)(hb:Below w.heap.size w w'):JSt I P D p q1 q2 t n C F B O x V W u0 u1 w':=
 ⟨h.s.went hb,Rw.zDr h.fr hb,h.box.went hb⟩
theorem JSt.put{I:Ix->Prop}{P D:Ix->Nat}{p q1 q2 t n:Nat}{C:Int->Bool}{F B:Int->Int->Bool}{O:Nat->Bool}{x:Nat}{V U:Nat->Bool}{W:World}{u0 u1:Value}{w w':World}(h:JSt I P D p q1 q2 t n C F B O x V W u0 u1 w)(hD:¬Ds I D W.heap.size)(hx:t<x/\x<n)(hs:SetAt (P (.g x)) (D (.g x)) (t+1) U w')(hk:Keeps (D (.g x)) w w'):JSt I P D p q1 q2 t n C F B O x U W u0 u1 w':=by
 have hg:=h.s.ig x hx.1 hx.2;exact⟨h.s.wrote2 hg rfl hs hk,h.fr.trans (zEL hg hk) fun _ h=> .inl h,h.box.fr (zEL hg hk) hD⟩
theorem FSt.j{I:Ix->Prop}{P D:Ix->Nat}{p q1 q2 t n:Nat}{G:Gram}{B0:Int->Int->Bool}{j k:Nat}{b0 b:Bool}{O:Nat->Bool}{B:Int->Int->Bool}{W:World}{u0 u1:Value}{w:World}(h:FSt I P D p q1 q2 t n G B0 j k b0 b O B W u0 u1 w)(x:Nat):
  JSt I P D p q1 q2 t n (canB G) (fstB G) B O x (rw' (B (x:Int))) W u0 u1 w:=
 ⟨by rw[show rw' (B (x:Int))=tv (canB G) (fstB G) B O (.g x)from rfl,upd_same];exact h.s,h.fr,h.box⟩
theorem JSt.fst{I:Ix->Prop}{P D:Ix->Nat}{p q1 q2 t n:Nat}{G:Gram}{B0:Int->Int->Bool}{j k k':Nat}{b0 b:Bool}{O:Nat->Bool}{B:Int->Int->Bool}{x:Nat}{V:Nat->Bool}{W:World}{u0 u1:Value}{w:World}{r:Int×List Int}(h:JSt I P D p q1 q2 t n (canB G) (fstB G) B O x V W u0 u1 w)
  (hV:V=rw' (addB (canB G) (fstB G) B r k (x:Int) (x:Int))) (hT:TOk t n (canB G) (fstB G) (addB (canB G) (fstB G) B r k (x:Int))) (hTr:TriedB G n (canB G) (fstB G) B0 j k' (addB (canB G) (fstB G) B r k (x:Int)) (b0||b)):
  FSt I P D p q1 q2 t n G B0 j k' b0 b O (addB (canB G) (fstB G) B r k (x:Int)) W u0 u1 w:=
 ⟨hTr,hT,by have:=h.s;rwa [tv_g hV fun y hy=>zKO y hy]at this,h.fr,h.box⟩
theorem zRf{I:Ix->Prop}{P D:Ix->Nat}{p q1 q2 t n:Nat}{G:Gram}{B0 B:Int->Int->Bool}{O:Nat->Bool}(W0 w:World)(h:SAt I P D p q1 q2 t n (tv (canB G) (fstB G) B O) w)(hT:TOk t n (canB G) (fstB G) B)(hb0:Below W0.heap.size W0 w)(hD:∀k,I k->W0.heap.size<=D k)
  (ht:t=G.terms.length) (hn:n=top G+1) (j:Nat) (hj:j<G.rules.length) (b0:Bool) (hTr:TriedB G n (canB G) (fstB G) B0 j 0 B b0) (s:Nat) (R:List Int) (hr:G.rules[j]=((s:Int),R)) (hs:t<s/\s<n) (a:Option Addr) (c:Nat) (hR:Sep.Reads a (ivs R) W0) (hL:LOk R c):
  Calls Tryz.prog 135 #[.pointer (some ⟨p,0,none⟩),.agg #[.int .i64 (s:Int),.slice a R.length c]] w (AddB I P D p q1 q2 t n G B0 j b0 O w):=by
 have bx:=boxed w (.cells #[.int .i64 (s:Int),.slice a R.length c] 55)
 have F0:=zVZ (show FSt I P D p q1 q2 t n G B0 j 0 b0 false O B w (.int .i64 (s:Int)) (.slice a R.length c) (w.alloc (.cells #[.int .i64 (s:Int),.slice a R.length c] 55))from
  ⟨by rw[Bool.or_false];exact hTr,hT,h.went bx,Sep.Fr.of_below bx,Bk.new w _ _ _ rfl⟩)
 have h4:=h.n4;have DL:=zVZ (zU5 h);have RR:=zVZ (fun w1 (b:Below W0.heap.size W0 w1)=>Sep.Reads.below hR b (Nat.le_refl _));have LO:=zVZ hL;have BB:=zVZ (fun w' (f:Sep.Fr (Ds I D) w w')=>zOn hb0 hD f);have HDD:=zVZ hD;have hl:=hL.len;have hcap:=hL.cap
 have NB:=zVZ (show∀x:Int,nonB G x=decide ((t:Int)<x/\x<(n:Int))from fun x=>by
  have e:top G=G.terms.length+G.nons.length:=rfl;rw[Bool.eq_iff_iff,zAa,decide_eq_true_iff,ht,hn]
  omega)
 have RJ:=zVZ hr;have HJ:=zVZ hj;obtain⟨hs1,hs2⟩:=hs;have FO:=zVZ (fun T w1 (b:SAt I P D p q1 q2 t n T w1) x=>zMZ w1 b x);have GS:=zVZ (show gptr P t n (s:Int)=.pointer (some ⟨P (.g s),0,none⟩)by unfold gptr;rw[if_pos (by omega)];rfl);clear h hT hb0 hD ht hn hTr hr hR hL bx;have h0:=F0.out.box.two.2.1;go_enter Tryz.func135,Tryz.ntmps135;go_wp2;clear h0;go_loopw [5,14] (fun m i wr=>zUs I P D p q1 q2 t n G B0 j b0 O w (.int .i64 (s:Int)) (.slice a R.length c) R.length m i wr) (fun _ i _=>R.length-(intOf i).toNat)
 case atStart=>exact⟨0,false,B,Nat.zero_le _,rfl,rfl,F0.out⟩
 case round=>
  clear F0;obtain⟨k,b,H,hk,rfl,rfl,hF⟩:=hrel;have F:=zVZ hF;clear hF
  by_cases hlt:k<R.length
  ·obtain⟨bb,o,rfl,hc⟩:=zEA (RR.out _ (BB.out _ F.out.fr)) hlt;obtain⟨y0,y1,yf⟩:=F.out.box.two;have FC:=zVZ (FO.out _ _ F.out.s R[k])
   by_cases hx:(t:Int)<R[k]/\R[k]<(n:Int)
   ·obtain⟨xn,hxn⟩:∃m:Nat,R[k]=(m:Int):=⟨R[k].toNat,by omega⟩;have hxr:t<xn/\xn<n:=by omega
    have EU:=zVZ (show gptr P t n R[k]=.pointer (some ⟨P (.g xn),0,none⟩)by unfold gptr;rw[if_pos hx,hxn];rfl);have FN:=zVZ (zMY F.out.tr F.out.ok HJ.out RJ.out hlt hxn (by rw[NB.out,decide_eq_true_iff];omega) (by omega) (by omega));have OK2:=zVZ (zQs F.out.ok ((s:Int),R) k (x:=(xn:Int)) (by omega) (by omega));have HA:=zVZ (fun A cc (hA:BehA A cc bb o k R.length c) w' (hb:Below W0.heap.size W0 w')=>zHw (RR.out w' hb) hA);have HDC:=zVZ (fun A cc (hA:BehA A cc bb o k R.length c) w' (hS:SAt I P D p q1 q2 t n (tv (canB G) (fstB G) H O) w') (hb:Below W0.heap.size W0 w')=>zDB w' hS F.out.ok.c (R.drop (k+1)) A cc (HA.out A cc hA w' hb) (zGY LO.out hA));have JOC:=zVZ (fun A cc (hA:BehA A cc bb o k R.length c) w' (hS:SAt I P D p q1 q2 t n (tv (canB G) (fstB G) H O) w') (hb:Below W0.heap.size W0 w')=>zIk W0 w' hS F.out.ok (.g xn) (hS.ig xn hxr.1 hxr.2) rfl hb (HDD.out _ (hS.ig xn hxr.1 hxr.2)) ((R.drop (k+1)).take (zBf (canB G) (R.drop (k+1)))) A cc (zCr (HA.out A cc hA W0 (.refl _ _)) _) ((zGY LO.out hA).take _));rw[List.length_drop]at HDC;rw[take_len,show tv (canB G) (fstB G) H O (.g xn)=rw' (H (xn:Int))from rfl]at JOC;unfold zLl at JOC;rw[zUH]at JOC;have GL:=zVZ (fun b1 (h:Gn (rw' (H (xn:Int))) (fstB G) ((R.drop (k+1)).take (zBf (canB G) (R.drop (k+1)))) b1)=>zMd h);have RG:=zVZ (F.out.ok.b1 (s:Int));unfold zC9 at HDC;have BW:=zVZ (show∀w',Sep.Fr (Ds I D) w w'->Below W0.heap.size W0 w' from BB.out);rw[EU.out]at FC;have A1:=zVZ (show BehA (some ⟨bb,o+(k+1),none⟩) (c-(k+1)) bb o k R.length c from .inl ⟨rfl,rfl⟩);have A2:=zVZ (fun(h:c=k+1)=>show BehA (some ⟨bb,o,none⟩) 0 bb o k R.length c from .inr ⟨rfl,rfl,by omega⟩);clear EU hx;generalize R[k]=x at*;subst hxn;cases hall:allC (canB G) (R.drop (k+1))with
    |false=>
     have AR:=zVZ (zLu (F:=fstB G) (B:=H) (s:=(s:Int)) (x:=(xn:Int)) hall);have G0:=zVZ (show(false=true↔allC (canB G) (R.drop (k+1))=true/\∃i:Nat,H (s:Int) (i:Int)=true/\(H (xn:Int) (i:Int)||zAe (canB G) (fstB G) (R.drop (k+1)) (i:Int))=false)from⟨(fun h=>by cases h),(fun h=>by rw[hall]at h;cases h.1)⟩);rw[hall]at HDC;clear hall
     go_wp2_with (first
      |(go_at_call 159;refine FC.out.mono ?_;rintro e w1 ⟨rfl,hb⟩;have F1:=zVZ (F.out.went hb);clear y0 y1 yf;obtain⟨y0,y1,yf⟩:=F1.out.box.two;clear hb)
      | (go_at_call 156;(first|(with_reducible refine(HDC.out _ _ A1.out _ F1.out.s (BW.out _ F1.out.fr)).mono ?_)|(with_reducible refine(HDC.out _ _ (A2.out (by omega)) _ F1.out.s (BW.out _ F1.out.fr)).mono ?_));rintro e w2 ⟨rfl,hb⟩;have F2:=zVZ (F1.out.went hb);clear hb y0 y1 yf))
     all_goals(first|(with_reducible refine(JOC.out _ _ A1.out _ F2.out.s (BW.out _ F2.out.fr)).mono ?_)|(with_reducible refine(JOC.out _ _ (A2.out (by omega)) _ F2.out.s (BW.out _ F2.out.fr)).mono ?_))
     all_goals try(have hcc:c=k+1:=(by assumption);subst hcc)
     all_goals
      rintro e w3 ⟨b1,rfl,hg,hs3,hk3⟩;have J3:=zVZ ((F2.out.j xn).put DL.out hxr hs3 hk3);have G1:=zVZ (GL.out b1 hg);have FE:=zVZ (fun m hm=>J3.out.fst AR.out OK2.out (FN.out b1 false m G1.out G0.out hm));clear hg hs3 hk3;cases b1
      ·go_wp2;go_roundw
       case rel=>exact⟨k+1,b,_,by omega,by go_num,rfl,FE.out b (by simp)⟩
       case measure=>simp[intOf];omega
      ·go_wp2;go_roundw
       case rel=>exact⟨k+1,true,_,by omega,by go_num,rfl,FE.out true (by simp)⟩
       case measure=>simp[intOf];omega
    |true=>
     have AR:=zVZ (zLv (F:=fstB G) (B:=H) (s:=(s:Int)) (x:=(xn:Int)) hall);have G0:=zVZ (fun g (h:g=true↔∃i:Nat,rw' (H (s:Int)) i=true/\(H (xn:Int) (i:Int)||zAe (canB G) (fstB G) (R.drop (k+1)) (i:Int))=false)=>show(g=true↔allC (canB G) (R.drop (k+1))=true/\∃i:Nat,H (s:Int) (i:Int)=true/\(H (xn:Int) (i:Int)||zAe (canB G) (fstB G) (R.drop (k+1)) (i:Int))=false)from h.trans ⟨(fun h=>⟨hall,h⟩),(fun h=>h.2)⟩);have SE:=zVZ (show s=xn->∀i:Nat,H (s:Int) (i:Int)=true->(H (xn:Int) (i:Int)||zAe (canB G) (fstB G) (R.drop (k+1)) (i:Int))=true from fun e i hi=>by subst e;rw[hi];rfl);rw[hall]at HDC;clear hall
     go_wp2_with (first
      |(go_at_call 159;refine FC.out.mono ?_;rintro e w1 ⟨rfl,hb⟩;have F1:=zVZ (F.out.went hb);clear y0 y1 yf;obtain⟨y0,y1,yf⟩:=F1.out.box.two;clear hb)
      | (go_at_call 156;(first|(with_reducible refine(HDC.out _ _ A1.out _ F1.out.s (BW.out _ F1.out.fr)).mono ?_)|(with_reducible refine(HDC.out _ _ (A2.out (by omega)) _ F1.out.s (BW.out _ F1.out.fr)).mono ?_));rintro e w2 ⟨rfl,hb⟩;have F2:=zVZ (F1.out.went hb);clear hb y0 y1 yf))
     all_goals(first|(with_reducible refine(JOC.out _ _ A1.out _ F2.out.s (BW.out _ F2.out.fr)).mono ?_)|(with_reducible refine(JOC.out _ _ (A2.out (by omega)) _ F2.out.s (BW.out _ F2.out.fr)).mono ?_))
     all_goals try(have hcc:c=k+1:=(by assumption);subst hcc)
     all_goals
      rintro e w3 ⟨b1,rfl,hg,hs3,hk3⟩;have J3:=zVZ ((F2.out.j xn).put DL.out hxr hs3 hk3);have G1:=zVZ (GL.out b1 hg);have FC2:=zVZ (FO.out _ _ J3.out.s (s:Int));rw[GS.out]at FC2;have FN1:=zVZ (fun g h2 m hm=>FN.out b1 g m G1.out h2 hm);have OC2:=zVZ (fun w' (hJ:SAt I P D p q1 q2 t n (upd (tv (canB G) (fstB G) H O) (.g xn) (fun i:Nat=>H (xn:Int) (i:Int)||zAe (canB G) (fstB G) (R.drop (k+1)) (i:Int))) w')=>zUT w' hJ hxr ⟨hs1,hs2⟩ RG.out SE.out);obtain⟨y0,y1,yf⟩:=J3.out.box.two;clear hg hs3 hk3 FN G1;cases b1
      ·go_wp2_with (go_at_call 159;refine FC2.out.mono ?_;rintro e w4 ⟨rfl,hb⟩;have J4:=zVZ (J3.out.went hb);clear hb y0 y1 yf);refine(OC2.out _ J4.out.s).mono ?_;rintro e w5 ⟨g,rfl,hg,hs5,hk5⟩;have FE:=zVZ (fun m hm=>(J4.out.put DL.out hxr hs5 hk5).fst AR.out OK2.out (FN1.out g (G0.out g hg) m hm));clear hg hs5 hk5;cases g
       ·go_wp2;go_roundw
        case rel=>exact⟨k+1,b,_,by omega,by go_num,rfl,FE.out b (by simp)⟩
        case measure=>simp[intOf];omega
       ·go_wp2;go_roundw
        case rel=>exact⟨k+1,true,_,by omega,by go_num,rfl,FE.out true (by simp)⟩
        case measure=>simp[intOf];omega
      ·go_wp2_with (go_at_call 159;refine FC2.out.mono ?_;rintro e w4 ⟨rfl,hb⟩;have J4:=zVZ (J3.out.went hb);clear hb y0 y1 yf);refine(OC2.out _ J4.out.s).mono ?_;rintro e w5 ⟨g,rfl,hg,hs5,hk5⟩;have FE:=zVZ (fun m hm=>(J4.out.put DL.out hxr hs5 hk5).fst AR.out OK2.out (FN1.out g (G0.out g hg) m hm));clear hg hs5 hk5;cases g
       ·go_wp2;go_roundw
        case rel=>exact⟨k+1,true,_,by omega,by go_num,rfl,FE.out true (by simp)⟩
        case measure=>simp[intOf];omega
       ·go_wp2;go_roundw
        case rel=>exact⟨k+1,true,_,by omega,by go_num,rfl,FE.out true (by simp)⟩
        case measure=>simp[intOf];omega
   ·have EU:=zVZ (show gptr P t n R[k]=.pointer none by unfold gptr;rw[if_neg hx]);have SK:=zVZ (skip' F.out.tr HJ.out RJ.out fun _=>by rw[NB.out,decide_eq_false_iff_not];exact hx);have HA:=zVZ (fun A cc (hA:BehA A cc bb o k R.length c) w' (hb:Below W0.heap.size W0 w')=>zHw (RR.out w' hb) hA);have HDC:=zVZ (fun A cc (hA:BehA A cc bb o k R.length c) w' (hS:SAt I P D p q1 q2 t n (tv (canB G) (fstB G) H O) w') (hb:Below W0.heap.size W0 w')=>zDB w' hS F.out.ok.c (R.drop (k+1)) A cc (HA.out A cc hA w' hb) (zGY LO.out hA));have JOC:=zVZ (fun A cc (hA:BehA A cc bb o k R.length c) w' (hS:SAt I P D p q1 q2 t n (tv (canB G) (fstB G) H O) w') (hb:Below W0.heap.size W0 w')=>zMz w' hS ((R.drop (k+1)).take (zBf (canB G) (R.drop (k+1)))) A cc (zCr (HA.out A cc hA w' hb) _) ((zGY LO.out hA).take _));rw[List.length_drop]at HDC;rw[take_len]at JOC;unfold zC9 at HDC;have BW:=zVZ (show∀w',Sep.Fr (Ds I D) w w'->Below W0.heap.size W0 w' from BB.out);rw[EU.out]at FC;have A1:=zVZ (show BehA (some ⟨bb,o+(k+1),none⟩) (c-(k+1)) bb o k R.length c from .inl ⟨rfl,rfl⟩);have A2:=zVZ (fun(h:c=k+1)=>show BehA (some ⟨bb,o,none⟩) 0 bb o k R.length c from .inr ⟨rfl,rfl,by omega⟩);have ON:=zVZ (fun u w'=>Bt.zRL (u:=u) w');clear EU hx;generalize R[k]=x at*;generalize allC (canB G) (R.drop (k+1))=al at*;cases al with
    |false=>
     go_wp2_with (first
      |(go_at_call 159;refine FC.out.mono ?_;rintro e w1 ⟨rfl,hb⟩;have F1:=zVZ (F.out.went hb);clear y0 y1 yf;obtain⟨y0,y1,yf⟩:=F1.out.box.two;clear hb)
      |(go_at_call 156;(first|(with_reducible refine(HDC.out _ _ A1.out _ F1.out.s (BW.out _ F1.out.fr)).mono ?_)|(with_reducible refine(HDC.out _ _ (A2.out (by omega)) _ F1.out.s (BW.out _ F1.out.fr)).mono ?_));rintro e w2 ⟨rfl,hb⟩;have F2:=zVZ (F1.out.went hb);clear hb y0 y1 yf)
      | (go_at_call 157;(first|(with_reducible refine(JOC.out _ _ A1.out _ F2.out.s (BW.out _ F2.out.fr)).mono ?_)|(with_reducible refine(JOC.out _ _ (A2.out (by omega)) _ F2.out.s (BW.out _ F2.out.fr)).mono ?_));rintro e w3 ⟨rfl,hb⟩;have F3:=zVZ (F2.out.went hb);clear hb))
     all_goals try(have hcc:c=k+1:=(by assumption);subst hcc)
     all_goals
      have F4:=zVZ (FSt.mk SK.out F3.out.ok F3.out.s F3.out.fr F3.out.box);go_roundw
      case rel=>exact⟨k+1,b,H,by omega,by go_num,rfl,F4.out⟩
      case measure=>simp[intOf];omega
    |true=>
     go_wp2_with (first
      |(go_at_call 159;(with_reducible refine FC.out.mono ?_);rintro e w1 ⟨rfl,hb⟩;have F1:=zVZ (F.out.went hb);clear y0 y1 yf;obtain⟨y0,y1,yf⟩:=F1.out.box.two;clear hb)
      |(go_at_call 156;(first|(with_reducible refine(HDC.out _ _ A1.out _ F1.out.s (BW.out _ F1.out.fr)).mono ?_)|(with_reducible refine(HDC.out _ _ (A2.out (by omega)) _ F1.out.s (BW.out _ F1.out.fr)).mono ?_));rintro e w2 ⟨rfl,hb⟩;have F2:=zVZ (F1.out.went hb);clear hb y0 y1 yf)
      |(go_at_call 157;(first|(with_reducible refine(JOC.out _ _ A1.out _ F2.out.s (BW.out _ F2.out.fr)).mono ?_)|(with_reducible refine(JOC.out _ _ (A2.out (by omega)) _ F2.out.s (BW.out _ F2.out.fr)).mono ?_));rintro e w3 ⟨rfl,hb⟩;have F3:=zVZ (F2.out.went hb);obtain⟨y0,y1,yf⟩:=F3.out.box.two;have FC2:=zVZ (FO.out _ _ F3.out.s (s:Int));clear hb FC)
      |(go_at_call 159;(with_reducible refine FC2.out.mono ?_);rintro e w4 ⟨rfl,hb⟩;have F5:=zVZ (F3.out.went hb);clear hb y0 y1 yf)
      | (go_at_call 137;refine(ON.out _ _).mono ?_;rintro e w5 ⟨rfl,rfl⟩))
     all_goals try(have hcc:c=k+1:=(by assumption);subst hcc)
     all_goals
      have F4:=zVZ (FSt.mk SK.out F5.out.ok F5.out.s F5.out.fr F5.out.box);go_roundw
      case rel=>exact⟨k+1,b,H,by omega,by go_num,rfl,F4.out⟩
      case measure=>simp[intOf];omega
  ·have E:=zVZ (next' F.out.tr HJ.out RJ.out hlt);go_wp2;go_ret;exact⟨b,H,rfl,E.out,F.out.ok,F.out.s,F.out.fr⟩
