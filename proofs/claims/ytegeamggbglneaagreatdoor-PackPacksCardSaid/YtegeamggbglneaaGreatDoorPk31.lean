/- A part of the proof. -/
import Derived.Test.YtegeamggbglneaaGreatDoorPk30
import Derived.Test.YtegeamggbglneaaGreatDoorPk29
set_option maxHeartbeats 16000000
set_option maxRecDepth 100000
set_option linter.unusedVariables false
namespace Go.Proofs.YtegeamggbglneaaGreatDoor
open Go.RowKit Go.Maps
namespace Fi
open Gr (Gram nonB top zAa boxed ivs zEZ)
open Bt (SetAt Keeps)
open Rw (Bk)
def BehA(a:Option Addr)(cc bb o k l c:Nat):Prop:=(a=some ⟨bb,o+(k+1),none⟩/\cc=c-(k+1))\/(a=some ⟨bb,o,none⟩/\cc=0/\l<=k+1)
theorem zIS{L}{a}{cc bb o k c}{w}(h:Sep.Reads (some ⟨bb,o,none⟩) (ivs L) w)(ha:BehA a cc bb o k L.length c):Sep.Reads a (ivs (L.drop (k+1))) w:=by
 rcases ha with⟨rfl,_⟩|⟨rfl,_,hl⟩
 ·exact zLn h (k+1)
 ·rw[List.drop_of_length_le hl];exact .nil _ _
theorem zG4{L}{a}{cc bb o k c}(h:LOk L c)(ha:BehA a cc bb o k L.length c):LOk (L.drop (k+1)) cc:=by
 rcases ha with⟨_,rfl⟩|⟨_,rfl,hl⟩
 ·exact h.drop (k+1)
 ·rw[List.drop_of_length_le hl];exact⟨(fun x hx=>by cases hx),by simp,by simp⟩
theorem zMv{G}{n t}{B0 B}{j k}{b0 b}(h:TriedB G n (canB G) (fstB G) B0 j k B (b0||b))(hT:TOk t n (canB G) (fstB G) B)(hj){s}{R}(hr:G.rules[j]=(s,R))(hk){x}(hx:R[k]=x)(hn:nonB G x=true)(h0:0<=x)(h1:x<(n:Int)):
  ∀b1 g m:Bool,(b1=true↔∃i:Nat,zAg (canB G) (fstB G) (R.drop (k+1)) (i:Int)=true/\B x (i:Int)=false)->
   (g=true↔allC (canB G) (R.drop (k+1))=true/\∃i:Nat,B s (i:Int)=true/\(B x (i:Int)||zAg (canB G) (fstB G) (R.drop (k+1)) (i:Int))=false)->m=(b||b1||g)->
   TriedB G n (canB G) (fstB G) B0 j (k+1) (addB (canB G) (fstB G) B (s,R) k x) (b0||m):=by
 intro b1 g m e1 e2 hm;subst hx;have e:R=G.rules[j].2:=by rw[hr]
 have es:s=G.rules[j].1:=by rw[hr]
 subst es;subst e;exact zPi h hT hj hk hn h0 h1 e1 e2 m hm
theorem skip'{G}{n}{B0 B}{j k}{b}(h:TriedB G n (canB G) (fstB G) B0 j k B b)(hj){s}{R}(hr:G.rules[j]=(s,R))(hs:∀hk:k<R.length,nonB G R[k]=false):TriedB G n (canB G) (fstB G) B0 j (k+1) B b:=by
 have e:R=G.rules[j].2:=by rw[hr]
 subst e;exact h.skip hj hs
theorem next'{G}{n}{B0 B}{j k}{b}(h:TriedB G n (canB G) (fstB G) B0 j k B b)(hj){s}{R}(hr:G.rules[j]=(s,R))(hk:¬k<R.length):TriedB G n (canB G) (fstB G) B0 (j+1) 0 B b:=by
 have e:R=G.rules[j].2:=by rw[hr]
 subst e;exact h.next hj hk
theorem zML{C}{F B}{s x}{R}{k}(ha:allC C (R.drop (k+1))=false):(fun i:Nat=>B x (i:Int)||zAg C F (R.drop (k+1)) (i:Int))=rw' (addB C F B (s,R) k x x):=by
 funext i
 unfold rw' addB behP;dsimp only;rw[ha];simp
theorem zMM{C}{F B}{s x}{R}{k}(ha:allC C (R.drop (k+1))=true):(fun i:Nat=>(B x (i:Int)||zAg C F (R.drop (k+1)) (i:Int))||rw' (B s) i)=rw' (addB C F B (s,R) k x x):=by
 funext i
 unfold rw' addB behP;dsimp only;rw[ha];simp[Bool.or_assoc]
theorem zKu{C}{F B}{r}{k}{x}(y)(h:y≠x):addB C F B r k x y=B y:=by
 funext t
 unfold addB;rw[decide_eq_false h];simp
theorem zUl{C}{F}{Q}{L}:jn (rw' Q) F (L.take (zBl C L))=fun i:Nat=>Q (i:Int)||zAg C F L (i:Int):=by
 funext i
 unfold jn rw';rw[zCF]
structure JSt (I:Ix->Prop) (P D:Ix->Nat) (p q1 q2 t n:Nat) (C:Int->Bool) (F B:Int->Int->Bool) (O:Nat->Bool) (x:Nat) (V:Nat->Bool) (W:World) (u0 u1:Value) (w:World):Prop where
 s:SAt I P D p q1 q2 t n (upd (tv C F B O) (.g x) V) w
 fr:Sep.Fr (Ds I D) W w
 box:Bk W.heap.size #[u0,u1] 55 w
theorem JSt.went{I}{P D}{p q1 q2 t n}{C}{F B}{O}{x}{V}{W}{u0 u1}{w w'}(h:JSt I P D p q1 q2 t n C F B O x V W u0 u1 w)(hb:Below w.heap.size w w'):JSt I P D p q1 q2 t n C F B O x V W u0 u1 w':=
 ⟨h.s.went hb,Rw.zED h.fr hb,h.box.went hb⟩
theorem JSt.put{I}{P D}{p q1 q2 t n}{C}{F B}{O}{x}{V U}{W}{u0 u1}{w w'}(h:JSt I P D p q1 q2 t n C F B O x V W u0 u1 w)(hD:¬Ds I D W.heap.size)(hx:t<x/\x<n)(hs:SetAt (P (.g x)) (D (.g x)) (t+1) U w')(hk:Keeps (D (.g x)) w w'):JSt I P D p q1 q2 t n C F B O x U W u0 u1 w':=by
 have hg:=h.s.ig x hx.1 hx.2;exact⟨h.s.wrote2 hg rfl hs hk,h.fr.trans (zEq hg hk) fun _ h=> .inl h,h.box.fr (zEq hg hk) hD⟩
theorem FSt.j{I}{P D}{p q1 q2 t n}{G}{B0}{j k}{b0 b}{O}{B}{W}{u0 u1}{w}(h:FSt I P D p q1 q2 t n G B0 j k b0 b O B W u0 u1 w)(x):
  JSt I P D p q1 q2 t n (canB G) (fstB G) B O x (rw' (B (x:Int))) W u0 u1 w:=
 ⟨by rw[show rw' (B (x:Int))=tv (canB G) (fstB G) B O (.g x)from rfl,upd_same];exact h.s,h.fr,h.box⟩
theorem JSt.fst{I}{P D}{p q1 q2 t n}{G}{B0}{j k k'}{b0 b}{O}{B}{x}{V}{W}{u0 u1}{w}{r}(h:JSt I P D p q1 q2 t n (canB G) (fstB G) B O x V W u0 u1 w)
  (hV:V=rw' (addB (canB G) (fstB G) B r k (x:Int) (x:Int))) (hT:TOk t n (canB G) (fstB G) (addB (canB G) (fstB G) B r k (x:Int))) (hTr:TriedB G n (canB G) (fstB G) B0 j k' (addB (canB G) (fstB G) B r k (x:Int)) (b0||b)):
  FSt I P D p q1 q2 t n G B0 j k' b0 b O (addB (canB G) (fstB G) B r k (x:Int)) W u0 u1 w:=
 ⟨hTr,hT,by have:=h.s;rwa [tv_g hV fun y hy=>zKu y hy]at this,h.fr,h.box⟩
theorem zSA{I:Ix->Prop}{P D:Ix->Nat}{p q1 q2 t n:Nat}{G:Gram}{B0 B:Int->Int->Bool}{O:Nat->Bool}(W0 w:World)(h:SAt I P D p q1 q2 t n (tv (canB G) (fstB G) B O) w)(hT:TOk t n (canB G) (fstB G) B)(hb0:Below W0.heap.size W0 w)(hD:∀k,I k->W0.heap.size<=D k)
  (ht:t=G.terms.length) (hn:n=top G+1) (j:Nat) (hj:j<G.rules.length) (b0:Bool) (hTr:TriedB G n (canB G) (fstB G) B0 j 0 B b0) (s:Nat) (R:List Int) (hr:G.rules[j]=((s:Int),R)) (hs:t<s/\s<n) (a:Option Addr) (c:Nat) (hR:Sep.Reads a (ivs R) W0) (hL:LOk R c):
  Calls Tryz.prog 162 #[.pointer (some ⟨p,0,none⟩),.agg #[.int .i64 (s:Int),.slice a R.length c]] w (AddB I P D p q1 q2 t n G B0 j b0 O w):=by
 have bx:=boxed w (.cells #[.int .i64 (s:Int),.slice a R.length c] 55)
 have F0:=zV7 (show FSt I P D p q1 q2 t n G B0 j 0 b0 false O B w (.int .i64 (s:Int)) (.slice a R.length c) (w.alloc (.cells #[.int .i64 (s:Int),.slice a R.length c] 55))from
  ⟨by rw[Bool.or_false];exact hTr,hT,h.went bx,Sep.Fr.of_below bx,Bk.new w _ _ _ rfl⟩)
 have h4:=h.n4;have DL:=zV7 (zVc h);have RR:=zV7 (fun w1 (b:Below W0.heap.size W0 w1)=>Sep.Reads.below hR b (Nat.le_refl _));have LO:=zV7 hL;have BB:=zV7 (fun w' (f:Sep.Fr (Ds I D) w w')=>zPI hb0 hD f);have HDD:=zV7 hD;have hl:=hL.len;have hcap:=hL.cap
 have NB:=zV7 (show∀x:Int,nonB G x=decide ((t:Int)<x/\x<(n:Int))from fun x=>by
  have e:top G=G.terms.length+G.nons.length:=rfl;rw[Bool.eq_iff_iff,zAa,decide_eq_true_iff,ht,hn]
  omega)
 have RJ:=zV7 hr;have HJ:=zV7 hj;obtain⟨hs1,hs2⟩:=hs;have FO:=zV7 (fun T w1 (b:SAt I P D p q1 q2 t n T w1) x=>zMw w1 b x);have GS:=zV7 (show gptr P t n (s:Int)=.pointer (some ⟨P (.g s),0,none⟩)by unfold gptr;rw[if_pos (by omega)];rfl);clear h hT hb0 hD ht hn hTr hr hR hL bx;have h0:=F0.out.box.two.2.1;go_enter Tryz.func162,Tryz.ntmps162;go_wp2;clear h0;go_loopw [5,14] (fun m i wr=>zVO I P D p q1 q2 t n G B0 j b0 O w (.int .i64 (s:Int)) (.slice a R.length c) R.length m i wr) (fun _ i _=>R.length-(intOf i).toNat)
 case atStart=>exact⟨0,false,B,Nat.zero_le _,rfl,rfl,F0.out⟩
 case round=>
  clear F0;obtain⟨k,b,H,hk,rfl,rfl,hF⟩:=hrel;have F:=zV7 hF;clear hF
  by_cases hlt:k<R.length
  ·obtain⟨bb,o,rfl,hc⟩:=zEZ (RR.out _ (BB.out _ F.out.fr)) hlt;obtain⟨y0,y1,yf⟩:=F.out.box.two;have FC:=zV7 (FO.out _ _ F.out.s R[k])
   by_cases hx:(t:Int)<R[k]/\R[k]<(n:Int)
   ·obtain⟨xn,hxn⟩:∃m:Nat,R[k]=(m:Int):=⟨R[k].toNat,by omega⟩;have hxr:t<xn/\xn<n:=by omega
    have EU:=zV7 (show gptr P t n R[k]=.pointer (some ⟨P (.g xn),0,none⟩)by unfold gptr;rw[if_pos hx,hxn];rfl);have FN:=zV7 (zMv F.out.tr F.out.ok HJ.out RJ.out hlt hxn (by rw[NB.out,decide_eq_true_iff];omega) (by omega) (by omega));have OK2:=zV7 (zRR F.out.ok ((s:Int),R) k (x:=(xn:Int)) (by omega) (by omega));have HA:=zV7 (fun A cc (hA:BehA A cc bb o k R.length c) w' (hb:Below W0.heap.size W0 w')=>zIS (RR.out w' hb) hA);have HDC:=zV7 (fun A cc (hA:BehA A cc bb o k R.length c) w' (hS:SAt I P D p q1 q2 t n (tv (canB G) (fstB G) H O) w') (hb:Below W0.heap.size W0 w')=>zDU w' hS F.out.ok.c (R.drop (k+1)) A cc (HA.out A cc hA w' hb) (zG4 LO.out hA));have JOC:=zV7 (fun A cc (hA:BehA A cc bb o k R.length c) w' (hS:SAt I P D p q1 q2 t n (tv (canB G) (fstB G) H O) w') (hb:Below W0.heap.size W0 w')=>zJF W0 w' hS F.out.ok (.g xn) (hS.ig xn hxr.1 hxr.2) rfl hb (HDD.out _ (hS.ig xn hxr.1 hxr.2)) ((R.drop (k+1)).take (zBl (canB G) (R.drop (k+1)))) A cc (zDA (HA.out A cc hA W0 (.refl _ _)) _) ((zG4 LO.out hA).take _));rw[List.length_drop]at HDC;rw[take_len,show tv (canB G) (fstB G) H O (.g xn)=rw' (H (xn:Int))from rfl]at JOC;unfold zMC at JOC;rw[zUl]at JOC;have GL:=zV7 (fun b1 (h:Gn (rw' (H (xn:Int))) (fstB G) ((R.drop (k+1)).take (zBl (canB G) (R.drop (k+1)))) b1)=>zM0 h);have RG:=zV7 (F.out.ok.b1 (s:Int));unfold zDR at HDC;have BW:=zV7 (show∀w',Sep.Fr (Ds I D) w w'->Below W0.heap.size W0 w' from BB.out);rw[EU.out]at FC;have A1:=zV7 (show BehA (some ⟨bb,o+(k+1),none⟩) (c-(k+1)) bb o k R.length c from .inl ⟨rfl,rfl⟩);have A2:=zV7 (fun(h:c=k+1)=>show BehA (some ⟨bb,o,none⟩) 0 bb o k R.length c from .inr ⟨rfl,rfl,by omega⟩);clear EU hx;generalize R[k]=x at*;subst hxn;cases hall:allC (canB G) (R.drop (k+1))with
    |false=>
     have AR:=zV7 (zML (F:=fstB G) (B:=H) (s:=(s:Int)) (x:=(xn:Int)) hall);have G0:=zV7 (show(false=true↔allC (canB G) (R.drop (k+1))=true/\∃i:Nat,H (s:Int) (i:Int)=true/\(H (xn:Int) (i:Int)||zAg (canB G) (fstB G) (R.drop (k+1)) (i:Int))=false)from⟨(fun h=>by cases h),(fun h=>by rw[hall]at h;cases h.1)⟩);rw[hall]at HDC;clear hall
     go_wp2_with (first
      |(go_at_call 186;refine FC.out.mono ?_;rintro e w1 ⟨rfl,hb⟩;have F1:=zV7 (F.out.went hb);clear y0 y1 yf;obtain⟨y0,y1,yf⟩:=F1.out.box.two;clear hb)
      | (go_at_call 183;(first|(with_reducible refine(HDC.out _ _ A1.out _ F1.out.s (BW.out _ F1.out.fr)).mono ?_)|(with_reducible refine(HDC.out _ _ (A2.out (by omega)) _ F1.out.s (BW.out _ F1.out.fr)).mono ?_));rintro e w2 ⟨rfl,hb⟩;have F2:=zV7 (F1.out.went hb);clear hb y0 y1 yf))
     all_goals(first|(with_reducible refine(JOC.out _ _ A1.out _ F2.out.s (BW.out _ F2.out.fr)).mono ?_)|(with_reducible refine(JOC.out _ _ (A2.out (by omega)) _ F2.out.s (BW.out _ F2.out.fr)).mono ?_))
     all_goals try(have hcc:c=k+1:=(by assumption);subst hcc)
     all_goals
      rintro e w3 ⟨b1,rfl,hg,hs3,hk3⟩;have J3:=zV7 ((F2.out.j xn).put DL.out hxr hs3 hk3);have G1:=zV7 (GL.out b1 hg);have FE:=zV7 (fun m hm=>J3.out.fst AR.out OK2.out (FN.out b1 false m G1.out G0.out hm));clear hg hs3 hk3;cases b1
      ·go_wp2;go_roundw
       case rel=>exact⟨k+1,b,_,by omega,by go_num,rfl,FE.out b (by simp)⟩
       case measure=>simp[intOf];omega
      ·go_wp2;go_roundw
       case rel=>exact⟨k+1,true,_,by omega,by go_num,rfl,FE.out true (by simp)⟩
       case measure=>simp[intOf];omega
    |true=>
     have AR:=zV7 (zMM (F:=fstB G) (B:=H) (s:=(s:Int)) (x:=(xn:Int)) hall);have G0:=zV7 (fun g (h:g=true↔∃i:Nat,rw' (H (s:Int)) i=true/\(H (xn:Int) (i:Int)||zAg (canB G) (fstB G) (R.drop (k+1)) (i:Int))=false)=>show(g=true↔allC (canB G) (R.drop (k+1))=true/\∃i:Nat,H (s:Int) (i:Int)=true/\(H (xn:Int) (i:Int)||zAg (canB G) (fstB G) (R.drop (k+1)) (i:Int))=false)from h.trans ⟨(fun h=>⟨hall,h⟩),(fun h=>h.2)⟩);have SE:=zV7 (show s=xn->∀i:Nat,H (s:Int) (i:Int)=true->(H (xn:Int) (i:Int)||zAg (canB G) (fstB G) (R.drop (k+1)) (i:Int))=true from fun e i hi=>by subst e;rw[hi];rfl);rw[hall]at HDC;clear hall
     go_wp2_with (first
      |(go_at_call 186;refine FC.out.mono ?_;rintro e w1 ⟨rfl,hb⟩;have F1:=zV7 (F.out.went hb);clear y0 y1 yf;obtain⟨y0,y1,yf⟩:=F1.out.box.two;clear hb)
      | (go_at_call 183;(first|(with_reducible refine(HDC.out _ _ A1.out _ F1.out.s (BW.out _ F1.out.fr)).mono ?_)|(with_reducible refine(HDC.out _ _ (A2.out (by omega)) _ F1.out.s (BW.out _ F1.out.fr)).mono ?_));rintro e w2 ⟨rfl,hb⟩;have F2:=zV7 (F1.out.went hb);clear hb y0 y1 yf))
     all_goals(first|(with_reducible refine(JOC.out _ _ A1.out _ F2.out.s (BW.out _ F2.out.fr)).mono ?_)|(with_reducible refine(JOC.out _ _ (A2.out (by omega)) _ F2.out.s (BW.out _ F2.out.fr)).mono ?_))
     all_goals try(have hcc:c=k+1:=(by assumption);subst hcc)
     all_goals
      rintro e w3 ⟨b1,rfl,hg,hs3,hk3⟩;have J3:=zV7 ((F2.out.j xn).put DL.out hxr hs3 hk3);have G1:=zV7 (GL.out b1 hg);have FC2:=zV7 (FO.out _ _ J3.out.s (s:Int));rw[GS.out]at FC2;have FN1:=zV7 (fun g h2 m hm=>FN.out b1 g m G1.out h2 hm);have OC2:=zV7 (fun w' (hJ:SAt I P D p q1 q2 t n (upd (tv (canB G) (fstB G) H O) (.g xn) (fun i:Nat=>H (xn:Int) (i:Int)||zAg (canB G) (fstB G) (R.drop (k+1)) (i:Int))) w')=>zUy w' hJ hxr ⟨hs1,hs2⟩ RG.out SE.out);obtain⟨y0,y1,yf⟩:=J3.out.box.two;clear hg hs3 hk3 FN G1;cases b1
      ·go_wp2_with (go_at_call 186;refine FC2.out.mono ?_;rintro e w4 ⟨rfl,hb⟩;have J4:=zV7 (J3.out.went hb);clear hb y0 y1 yf);refine(OC2.out _ J4.out.s).mono ?_;rintro e w5 ⟨g,rfl,hg,hs5,hk5⟩;have FE:=zV7 (fun m hm=>(J4.out.put DL.out hxr hs5 hk5).fst AR.out OK2.out (FN1.out g (G0.out g hg) m hm));clear hg hs5 hk5;cases g
       ·go_wp2;go_roundw
        case rel=>exact⟨k+1,b,_,by omega,by go_num,rfl,FE.out b (by simp)⟩
        case measure=>simp[intOf];omega
       ·go_wp2;go_roundw
        case rel=>exact⟨k+1,true,_,by omega,by go_num,rfl,FE.out true (by simp)⟩
        case measure=>simp[intOf];omega
      ·go_wp2_with (go_at_call 186;refine FC2.out.mono ?_;rintro e w4 ⟨rfl,hb⟩;have J4:=zV7 (J3.out.went hb);clear hb y0 y1 yf);refine(OC2.out _ J4.out.s).mono ?_;rintro e w5 ⟨g,rfl,hg,hs5,hk5⟩;have FE:=zV7 (fun m hm=>(J4.out.put DL.out hxr hs5 hk5).fst AR.out OK2.out (FN1.out g (G0.out g hg) m hm));clear hg hs5 hk5;cases g
       ·go_wp2;go_roundw
        case rel=>exact⟨k+1,true,_,by omega,by go_num,rfl,FE.out true (by simp)⟩
        case measure=>simp[intOf];omega
       ·go_wp2;go_roundw
        case rel=>exact⟨k+1,true,_,by omega,by go_num,rfl,FE.out true (by simp)⟩
        case measure=>simp[intOf];omega
   ·have EU:=zV7 (show gptr P t n R[k]=.pointer none by unfold gptr;rw[if_neg hx]);have SK:=zV7 (skip' F.out.tr HJ.out RJ.out fun _=>by rw[NB.out,decide_eq_false_iff_not];exact hx);have HA:=zV7 (fun A cc (hA:BehA A cc bb o k R.length c) w' (hb:Below W0.heap.size W0 w')=>zIS (RR.out w' hb) hA);have HDC:=zV7 (fun A cc (hA:BehA A cc bb o k R.length c) w' (hS:SAt I P D p q1 q2 t n (tv (canB G) (fstB G) H O) w') (hb:Below W0.heap.size W0 w')=>zDU w' hS F.out.ok.c (R.drop (k+1)) A cc (HA.out A cc hA w' hb) (zG4 LO.out hA));have JOC:=zV7 (fun A cc (hA:BehA A cc bb o k R.length c) w' (hS:SAt I P D p q1 q2 t n (tv (canB G) (fstB G) H O) w') (hb:Below W0.heap.size W0 w')=>zNM w' hS ((R.drop (k+1)).take (zBl (canB G) (R.drop (k+1)))) A cc (zDA (HA.out A cc hA w' hb) _) ((zG4 LO.out hA).take _));rw[List.length_drop]at HDC;rw[take_len]at JOC;unfold zDR at HDC;have BW:=zV7 (show∀w',Sep.Fr (Ds I D) w w'->Below W0.heap.size W0 w' from BB.out);rw[EU.out]at FC;have A1:=zV7 (show BehA (some ⟨bb,o+(k+1),none⟩) (c-(k+1)) bb o k R.length c from .inl ⟨rfl,rfl⟩);have A2:=zV7 (fun(h:c=k+1)=>show BehA (some ⟨bb,o,none⟩) 0 bb o k R.length c from .inr ⟨rfl,rfl,by omega⟩);have ON:=zV7 (fun u w'=>Bt.zRu (u:=u) w');clear EU hx;generalize R[k]=x at*;generalize allC (canB G) (R.drop (k+1))=al at*;cases al with
    |false=>
     go_wp2_with (first
      |(go_at_call 186;refine FC.out.mono ?_;rintro e w1 ⟨rfl,hb⟩;have F1:=zV7 (F.out.went hb);clear y0 y1 yf;obtain⟨y0,y1,yf⟩:=F1.out.box.two;clear hb)
      |(go_at_call 183;(first|(with_reducible refine(HDC.out _ _ A1.out _ F1.out.s (BW.out _ F1.out.fr)).mono ?_)|(with_reducible refine(HDC.out _ _ (A2.out (by omega)) _ F1.out.s (BW.out _ F1.out.fr)).mono ?_));rintro e w2 ⟨rfl,hb⟩;have F2:=zV7 (F1.out.went hb);clear hb y0 y1 yf)
      | (go_at_call 184;(first|(with_reducible refine(JOC.out _ _ A1.out _ F2.out.s (BW.out _ F2.out.fr)).mono ?_)|(with_reducible refine(JOC.out _ _ (A2.out (by omega)) _ F2.out.s (BW.out _ F2.out.fr)).mono ?_));rintro e w3 ⟨rfl,hb⟩;have F3:=zV7 (F2.out.went hb);clear hb))
     all_goals try(have hcc:c=k+1:=(by assumption);subst hcc)
     all_goals
      have F4:=zV7 (FSt.mk SK.out F3.out.ok F3.out.s F3.out.fr F3.out.box);go_roundw
      case rel=>exact⟨k+1,b,H,by omega,by go_num,rfl,F4.out⟩
      case measure=>simp[intOf];omega
    |true=>
     go_wp2_with (first
      |(go_at_call 186;(with_reducible refine FC.out.mono ?_);rintro e w1 ⟨rfl,hb⟩;have F1:=zV7 (F.out.went hb);clear y0 y1 yf;obtain⟨y0,y1,yf⟩:=F1.out.box.two;clear hb)
      |(go_at_call 183;(first|(with_reducible refine(HDC.out _ _ A1.out _ F1.out.s (BW.out _ F1.out.fr)).mono ?_)|(with_reducible refine(HDC.out _ _ (A2.out (by omega)) _ F1.out.s (BW.out _ F1.out.fr)).mono ?_));rintro e w2 ⟨rfl,hb⟩;have F2:=zV7 (F1.out.went hb);clear hb y0 y1 yf)
      |(go_at_call 184;(first|(with_reducible refine(JOC.out _ _ A1.out _ F2.out.s (BW.out _ F2.out.fr)).mono ?_)|(with_reducible refine(JOC.out _ _ (A2.out (by omega)) _ F2.out.s (BW.out _ F2.out.fr)).mono ?_));rintro e w3 ⟨rfl,hb⟩;have F3:=zV7 (F2.out.went hb);obtain⟨y0,y1,yf⟩:=F3.out.box.two;have FC2:=zV7 (FO.out _ _ F3.out.s (s:Int));clear hb FC)
      |(go_at_call 186;(with_reducible refine FC2.out.mono ?_);rintro e w4 ⟨rfl,hb⟩;have F5:=zV7 (F3.out.went hb);clear hb y0 y1 yf)
      | (go_at_call 164;refine(ON.out _ _).mono ?_;rintro e w5 ⟨rfl,rfl⟩))
     all_goals try(have hcc:c=k+1:=(by assumption);subst hcc)
     all_goals
      have F4:=zV7 (FSt.mk SK.out F5.out.ok F5.out.s F5.out.fr F5.out.box);go_roundw
      case rel=>exact⟨k+1,b,H,by omega,by go_num,rfl,F4.out⟩
      case measure=>simp[intOf];omega
  ·have E:=zV7 (next' F.out.tr HJ.out RJ.out hlt);go_wp2;go_ret;exact⟨b,H,rfl,E.out,F.out.ok,F.out.s,F.out.fr⟩
end Fi
namespace Fi
open Gr
structure Pass (G:Gram) (α:Type) where
 Inv:α->Prop
 Tr:α->Nat->α->Bool->Prop
 ms:α->Nat
 Fin:α->Prop
 zero:∀T,Inv T->Tr T 0 T false
 inv:∀T0 j T b,Tr T0 j T b->Inv T
 yes:∀T0 j T,Tr T0 j T true->ms T<ms T0
 fin:∀T0 j T,Tr T0 j T false->¬j<G.rules.length->Fin T
def Trd{G}{α}(Y:Pass G α)(St:α->World->Prop)(S:Nat->Prop)(T0:α)(j:Nat)(b0:Bool)(w:World)(e:Ending)(w':World):Prop:=
 ∃b T,e=.returned (.bool b)/\Y.Tr T0 (j+1) T (b0||b)/\St T w'/\Sep.Fr S w w'
def Setl{G}{α}(Y:Pass G α)(St:α->World->Prop)(S:Nat->Prop)(w:World)(e:Ending)(w':World):Prop:=
 ∃v T,e=.returned v/\Y.Fin T/\St T w'/\Sep.Fr S w w'
def zR6{G}{α}(Y:Pass G α)(St:α->World->Prop)(S:Nat->Prop)(W:World)(g:Nat)(m:Value)(w:World):Prop:=
 ∃(T:α) (b:Bool),m=.bool b/\St T w/\Y.Inv T/\Sep.Fr S W w/\(b=true->Y.ms T+1<=g)/\(b=false->Y.Fin T)
def SlIn{G}{α}(Y:Pass G α)(St:α->World->Prop)(S:Nat->Prop)(W:World)(T0:α)(m i:Value)(w:World):Prop:=
 ∃(j:Nat) (T:α) (b:Bool),j<=G.rules.length/\i=.int .i64 j/\m=.bool b/\St T w/\Y.Tr T0 j T b/\Sep.Fr S W w
theorem zRC(p:Nat)(W0 w:World)(h:Sh)(G:Gram)(k:GAt h G W0){α:Type}(Y:Pass G α)(St:α->World->Prop)(S:Nat->Prop)(T0:α)
  (hr:G.rules.length<=300) (hb0:Below W0.heap.size W0 w) (hS:∀b,S b->W0.heap.size<=b)
  (hSt:∀T w1 w2,St T w1->Below w1.heap.size w1 w2->St T w2)
  (add:∀T0 T j b0 w1 ra rc (hj:j<G.rules.length),St T w1->Y.Tr T0 j T b0->Below W0.heap.size W0 w1->Sep.Reads ra (ivs G.rules[j].2) W0->G.rules[j].2.length<=rc->
   Calls Tryz.prog 160 #[.pointer (some ⟨p,0,none⟩),.agg #[.int .i64 G.rules[j].1,.slice ra G.rules[j].2.length rc]] w1 (Trd Y St S T0 j b0 w1))
  (h0:St T0 w) (hI:Y.Inv T0):
  Calls Tryz.prog 159 #[.slice h.a3 G.rules.length h.c3,.func (.func 160) #[.pointer (some ⟨p,0,none⟩)] #[]] w (Setl Y St S w):=by
 obtain⟨a1,c1,a2,c2,a3,c3⟩:=h;dsimp only;have KG:=zV7 k;have H0:=zV7 h0;have I0:=zV7 hI;have AD:=zV7 add;have ST:=zV7 hSt;have BB:=zV7 (show∀w',Sep.Fr S w w'->Below W0.heap.size W0 w' from fun w' f=>hb0.trans (f.below hS hb0.size));clear k hb0 hS hSt add h0 hI;go_enter Tryz.func159,Tryz.ntmps159;go_wp2;go_loopg [4] (Y.ms T0+2) (fun g m wr=>zR6 Y St S w g m wr)
 case atStart=>exact⟨T0,true,rfl,H0.out,I0.out,.refl _ _,fun _=>by omega,fun h=>by cases h⟩
 case round=>
  clear H0 I0;obtain⟨T,b,rfl,hs,hi,hf,hg,hn⟩:=hrel;have S1:=zV7 hs;have I1:=zV7 hi;have F1:=zV7 hf;cases b with
  |false=>
   have N:=zV7 (hn rfl);clear hs hi hf hg hn;go_wp2;go_end0;exact⟨_,T,rfl,N.out,S1.out,F1.out⟩
  |true=>
   have GG:=zV7 (hg rfl);have Z:=zV7 (Y.zero T hi);clear hs hi hf hg hn;go_wp2;go_loopw [4,10] (fun m i wr=>SlIn Y St S w T m i wr) (fun _ i _=>G.rules.length-(intOf i).toNat)
   case atStart=>exact⟨0,T,false,Nat.zero_le _,rfl,rfl,S1.out,Z.out,F1.out⟩
   case round=>
    clear S1 I1 F1 Z;obtain⟨j,U,b,hj,rfl,rfl,hs,ht,hf⟩:=hrel;have S1:=zV7 hs;have R1:=zV7 ht;have F1:=zV7 hf;clear hs ht hf
    by_cases hlt:j<G.rules.length
    ·obtain⟨bb,o,ra,rc,e,h1,h2,h3,h4,h5⟩:=KG.out.rules j hlt;dsimp only at e;subst e;have g1:=(BB.out _ F1.out).cell (p:=⟨bb,o+j*2,none⟩) (World.block_lt_of_cell? _ _ h1) |>.trans h1;have g2:=(BB.out _ F1.out).cell (p:=⟨bb,o+j*2+1,none⟩) (World.block_lt_of_cell? _ _ h2) |>.trans h2;have AC:=zV7 (fun w1 hs hb=>AD.out T U j b w1 ra rc hlt hs R1.out hb h3 h4);have hr1:=KG.out.r1;clear h1 h2 h3 h4 h5;generalize G.rules[j]=r at*;obtain⟨left,R⟩:=r;dsimp only at g1 g2 AC;have bx:=boxed wr (.cells #[.int .i64 left,.slice ra R.length rc] 55);have S2:=zV7 (ST.out _ _ _ S1.out bx);have F2:=zV7 (Rw.zED F1.out bx);clear bx;go_wp2_with fail;refine(AC.out _ S2.out (BB.out _ F2.out)).mono ?_;rintro e w3 ⟨b1,U2,rfl,ht3,hs3,hf3⟩;have S3:=zV7 hs3;have R3:=zV7 ht3;have F3:=zV7 (F2.out.trans hf3 fun _ h=> .inl h);clear ht3 hs3 hf3;cases b1 with
     |false=>
      have R4:=zV7 (show Y.Tr T (j+1) U2 b by have:=R3.out;rwa [Bool.or_false]at this);clear R3;go_wp2;go_roundw
      case rel=>exact⟨j+1,U2,b,by omega,by go_num,rfl,S3.out,R4.out,F3.out⟩
      case measure=>simp[intOf];omega
     |true=>
      have R4:=zV7 (show Y.Tr T (j+1) U2 true by have:=R3.out;rwa [Bool.or_true]at this);clear R3;go_wp2;go_roundw
      case rel=>exact⟨j+1,U2,true,by omega,by go_num,rfl,S3.out,R4.out,F3.out⟩
      case measure=>simp[intOf];omega
    ·have I2:=zV7 (Y.inv _ _ _ _ R1.out);have YS:=zV7 (show b=true->Y.ms U<Y.ms T from fun e=>by subst e;exact Y.yes _ _ _ R1.out);have NO:=zV7 (show b=false->Y.Fin U from fun e=>by subst e;exact Y.fin _ _ _ R1.out hlt);have hgg:=GG.out;go_wp2;go_roundg (Y.ms T)
     case measure=>omega
     case rel=>exact⟨U,b,rfl,S1.out,I2.out,F1.out,fun e=>by have:=YS.out e;omega,NO.out⟩
theorem zRD(p:Nat)(W0 w:World)(h:Sh)(G:Gram)(k:GAt h G W0){α:Type}(Y:Pass G α)(St:α->World->Prop)(S:Nat->Prop)(T0:α)
  (hr:G.rules.length<=300) (hb0:Below W0.heap.size W0 w) (hS:∀b,S b->W0.heap.size<=b)
  (hSt:∀T w1 w2,St T w1->Below w1.heap.size w1 w2->St T w2)
  (add:∀T0 T j b0 w1 ra rc (hj:j<G.rules.length),St T w1->Y.Tr T0 j T b0->Below W0.heap.size W0 w1->Sep.Reads ra (ivs G.rules[j].2) W0->G.rules[j].2.length<=rc->
   Calls Tryz.prog 161 #[.pointer (some ⟨p,0,none⟩),.agg #[.int .i64 G.rules[j].1,.slice ra G.rules[j].2.length rc]] w1 (Trd Y St S T0 j b0 w1))
  (h0:St T0 w) (hI:Y.Inv T0):
  Calls Tryz.prog 159 #[.slice h.a3 G.rules.length h.c3,.func (.func 161) #[.pointer (some ⟨p,0,none⟩)] #[]] w (Setl Y St S w):=by
 obtain⟨a1,c1,a2,c2,a3,c3⟩:=h;dsimp only;have KG:=zV7 k;have H0:=zV7 h0;have I0:=zV7 hI;have AD:=zV7 add;have ST:=zV7 hSt;have BB:=zV7 (show∀w',Sep.Fr S w w'->Below W0.heap.size W0 w' from fun w' f=>hb0.trans (f.below hS hb0.size));clear k hb0 hS hSt add h0 hI;go_enter Tryz.func159,Tryz.ntmps159;go_wp2;go_loopg [4] (Y.ms T0+2) (fun g m wr=>zR6 Y St S w g m wr)
 case atStart=>exact⟨T0,true,rfl,H0.out,I0.out,.refl _ _,fun _=>by omega,fun h=>by cases h⟩
 case round=>
  clear H0 I0;obtain⟨T,b,rfl,hs,hi,hf,hg,hn⟩:=hrel;have S1:=zV7 hs;have I1:=zV7 hi;have F1:=zV7 hf;cases b with
  |false=>
   have N:=zV7 (hn rfl);clear hs hi hf hg hn;go_wp2;go_end0;exact⟨_,T,rfl,N.out,S1.out,F1.out⟩
  |true=>
   have GG:=zV7 (hg rfl);have Z:=zV7 (Y.zero T hi);clear hs hi hf hg hn;go_wp2;go_loopw [4,10] (fun m i wr=>SlIn Y St S w T m i wr) (fun _ i _=>G.rules.length-(intOf i).toNat)
   case atStart=>exact⟨0,T,false,Nat.zero_le _,rfl,rfl,S1.out,Z.out,F1.out⟩
   case round=>
    clear S1 I1 F1 Z;obtain⟨j,U,b,hj,rfl,rfl,hs,ht,hf⟩:=hrel;have S1:=zV7 hs;have R1:=zV7 ht;have F1:=zV7 hf;clear hs ht hf
    by_cases hlt:j<G.rules.length
    ·obtain⟨bb,o,ra,rc,e,h1,h2,h3,h4,h5⟩:=KG.out.rules j hlt;dsimp only at e;subst e;have g1:=(BB.out _ F1.out).cell (p:=⟨bb,o+j*2,none⟩) (World.block_lt_of_cell? _ _ h1) |>.trans h1;have g2:=(BB.out _ F1.out).cell (p:=⟨bb,o+j*2+1,none⟩) (World.block_lt_of_cell? _ _ h2) |>.trans h2;have AC:=zV7 (fun w1 hs hb=>AD.out T U j b w1 ra rc hlt hs R1.out hb h3 h4);have hr1:=KG.out.r1;clear h1 h2 h3 h4 h5;generalize G.rules[j]=r at*;obtain⟨left,R⟩:=r;dsimp only at g1 g2 AC;have bx:=boxed wr (.cells #[.int .i64 left,.slice ra R.length rc] 55);have S2:=zV7 (ST.out _ _ _ S1.out bx);have F2:=zV7 (Rw.zED F1.out bx);clear bx;go_wp2_with fail;refine(AC.out _ S2.out (BB.out _ F2.out)).mono ?_;rintro e w3 ⟨b1,U2,rfl,ht3,hs3,hf3⟩;have S3:=zV7 hs3;have R3:=zV7 ht3;have F3:=zV7 (F2.out.trans hf3 fun _ h=> .inl h);clear ht3 hs3 hf3;cases b1 with
     |false=>
      have R4:=zV7 (show Y.Tr T (j+1) U2 b by have:=R3.out;rwa [Bool.or_false]at this);clear R3;go_wp2;go_roundw
      case rel=>exact⟨j+1,U2,b,by omega,by go_num,rfl,S3.out,R4.out,F3.out⟩
      case measure=>simp[intOf];omega
     |true=>
      have R4:=zV7 (show Y.Tr T (j+1) U2 true by have:=R3.out;rwa [Bool.or_true]at this);clear R3;go_wp2;go_roundw
      case rel=>exact⟨j+1,U2,true,by omega,by go_num,rfl,S3.out,R4.out,F3.out⟩
      case measure=>simp[intOf];omega
    ·have I2:=zV7 (Y.inv _ _ _ _ R1.out);have YS:=zV7 (show b=true->Y.ms U<Y.ms T from fun e=>by subst e;exact Y.yes _ _ _ R1.out);have NO:=zV7 (show b=false->Y.Fin U from fun e=>by subst e;exact Y.fin _ _ _ R1.out hlt);have hgg:=GG.out;go_wp2;go_roundg (Y.ms T)
     case measure=>omega
     case rel=>exact⟨U,b,rfl,S1.out,I2.out,F1.out,fun e=>by have:=YS.out e;omega,NO.out⟩
theorem zRB(p:Nat)(W0 w:World)(h:Sh)(G:Gram)(k:GAt h G W0){α:Type}(Y:Pass G α)(St:α->World->Prop)(S:Nat->Prop)(T0:α)
  (hr:G.rules.length<=300) (hb0:Below W0.heap.size W0 w) (hS:∀b,S b->W0.heap.size<=b)
  (hSt:∀T w1 w2,St T w1->Below w1.heap.size w1 w2->St T w2)
  (add:∀T0 T j b0 w1 ra rc (hj:j<G.rules.length),St T w1->Y.Tr T0 j T b0->Below W0.heap.size W0 w1->Sep.Reads ra (ivs G.rules[j].2) W0->G.rules[j].2.length<=rc->
   Calls Tryz.prog 162 #[.pointer (some ⟨p,0,none⟩),.agg #[.int .i64 G.rules[j].1,.slice ra G.rules[j].2.length rc]] w1 (Trd Y St S T0 j b0 w1))
  (h0:St T0 w) (hI:Y.Inv T0):
  Calls Tryz.prog 159 #[.slice h.a3 G.rules.length h.c3,.func (.func 162) #[.pointer (some ⟨p,0,none⟩)] #[]] w (Setl Y St S w):=by
 obtain⟨a1,c1,a2,c2,a3,c3⟩:=h;dsimp only;have KG:=zV7 k;have H0:=zV7 h0;have I0:=zV7 hI;have AD:=zV7 add;have ST:=zV7 hSt;have BB:=zV7 (show∀w',Sep.Fr S w w'->Below W0.heap.size W0 w' from fun w' f=>hb0.trans (f.below hS hb0.size));clear k hb0 hS hSt add h0 hI;go_enter Tryz.func159,Tryz.ntmps159;go_wp2;go_loopg [4] (Y.ms T0+2) (fun g m wr=>zR6 Y St S w g m wr)
 case atStart=>exact⟨T0,true,rfl,H0.out,I0.out,.refl _ _,fun _=>by omega,fun h=>by cases h⟩
 case round=>
  clear H0 I0;obtain⟨T,b,rfl,hs,hi,hf,hg,hn⟩:=hrel;have S1:=zV7 hs;have I1:=zV7 hi;have F1:=zV7 hf;cases b with
  |false=>
   have N:=zV7 (hn rfl);clear hs hi hf hg hn;go_wp2;go_end0;exact⟨_,T,rfl,N.out,S1.out,F1.out⟩
  |true=>
   have GG:=zV7 (hg rfl);have Z:=zV7 (Y.zero T hi);clear hs hi hf hg hn;go_wp2;go_loopw [4,10] (fun m i wr=>SlIn Y St S w T m i wr) (fun _ i _=>G.rules.length-(intOf i).toNat)
   case atStart=>exact⟨0,T,false,Nat.zero_le _,rfl,rfl,S1.out,Z.out,F1.out⟩
   case round=>
    clear S1 I1 F1 Z;obtain⟨j,U,b,hj,rfl,rfl,hs,ht,hf⟩:=hrel;have S1:=zV7 hs;have R1:=zV7 ht;have F1:=zV7 hf;clear hs ht hf
    by_cases hlt:j<G.rules.length
    ·obtain⟨bb,o,ra,rc,e,h1,h2,h3,h4,h5⟩:=KG.out.rules j hlt;dsimp only at e;subst e;have g1:=(BB.out _ F1.out).cell (p:=⟨bb,o+j*2,none⟩) (World.block_lt_of_cell? _ _ h1) |>.trans h1;have g2:=(BB.out _ F1.out).cell (p:=⟨bb,o+j*2+1,none⟩) (World.block_lt_of_cell? _ _ h2) |>.trans h2;have AC:=zV7 (fun w1 hs hb=>AD.out T U j b w1 ra rc hlt hs R1.out hb h3 h4);have hr1:=KG.out.r1;clear h1 h2 h3 h4 h5;generalize G.rules[j]=r at*;obtain⟨left,R⟩:=r;dsimp only at g1 g2 AC;have bx:=boxed wr (.cells #[.int .i64 left,.slice ra R.length rc] 55);have S2:=zV7 (ST.out _ _ _ S1.out bx);have F2:=zV7 (Rw.zED F1.out bx);clear bx;go_wp2_with fail;refine(AC.out _ S2.out (BB.out _ F2.out)).mono ?_;rintro e w3 ⟨b1,U2,rfl,ht3,hs3,hf3⟩;have S3:=zV7 hs3;have R3:=zV7 ht3;have F3:=zV7 (F2.out.trans hf3 fun _ h=> .inl h);clear ht3 hs3 hf3;cases b1 with
     |false=>
      have R4:=zV7 (show Y.Tr T (j+1) U2 b by have:=R3.out;rwa [Bool.or_false]at this);clear R3;go_wp2;go_roundw
      case rel=>exact⟨j+1,U2,b,by omega,by go_num,rfl,S3.out,R4.out,F3.out⟩
      case measure=>simp[intOf];omega
     |true=>
      have R4:=zV7 (show Y.Tr T (j+1) U2 true by have:=R3.out;rwa [Bool.or_true]at this);clear R3;go_wp2;go_roundw
      case rel=>exact⟨j+1,U2,true,by omega,by go_num,rfl,S3.out,R4.out,F3.out⟩
      case measure=>simp[intOf];omega
    ·have I2:=zV7 (Y.inv _ _ _ _ R1.out);have YS:=zV7 (show b=true->Y.ms U<Y.ms T from fun e=>by subst e;exact Y.yes _ _ _ R1.out);have NO:=zV7 (show b=false->Y.Fin U from fun e=>by subst e;exact Y.fin _ _ _ R1.out hlt);have hgg:=GG.out;go_wp2;go_roundg (Y.ms T)
     case measure=>omega
     case rel=>exact⟨U,b,rfl,S1.out,I2.out,F1.out,fun e=>by have:=YS.out e;omega,NO.out⟩
end Fi
namespace Fi
open Gr (Gram Bx checkN cell_later zA2 zB1 zAl)
open Bt (SetAt Keeps)
open Rw (Bk)
structure Sml (G:Gram):Prop where
 t:G.terms.length<=120
 n:G.nons.length<=120
 r:G.rules.length<=300
 known:zA2 G=true
 w:∀r∈G.rules,r.2.length<=8
theorem zBG{G}(h:checkN G=0):Sml G:=by
 obtain⟨h1,_,_,h4,_,_⟩:=zAl h;unfold zB1 at h1;simp only[Bool.or_eq_false_iff,decide_eq_false_iff_not,List.any_eq_false,decide_eq_true_eq]at h1;exact⟨by omega,by omega,by omega,h4,fun r hr=>by have:=h1.2 r hr;omega⟩
theorem zGp{W w w'}{h}{G}{S}(k:Bx W h G w)(hF:Sep.Fr S w w')(hS:∀k,S k->W.heap.size<k):Bx W h G w':=by
 have e:w'.heap[W.heap.size]?=w.heap[W.heap.size]?:=hF.block _ (World.block_lt_of_cell? w ⟨W.heap.size,0,none⟩ k.box.x0) (fun e=>by have:=hS _ e;omega);refine⟨k.below.trans (hF.below (fun k hk=>Nat.le_of_lt (hS k hk)) k.below.size),?_⟩
 exact⟨(World.cell?_of_block (a:=⟨W.heap.size,0,none⟩) e).trans k.box.x0,(World.cell?_of_block (a:=⟨W.heap.size,1,none⟩) e).trans k.box.x1,
  (World.cell?_of_block (a:=⟨W.heap.size,2,none⟩) e).trans k.box.x2,(World.cell?_of_block (a:=⟨W.heap.size,3,none⟩) e).trans k.box.x3⟩
open Classical in
noncomputable def updN(P:Ix->Nat)(k:Ix)(x:Nat):Ix->Nat:=fun j=>if j=k then x else P j
theorem zAs(P)(k)(x):updN P k x k=x:=by unfold updN;rw[if_pos rfl]
theorem zAV(P){j k}(x)(h:j≠k):updN P k x j=P j:=by unfold updN;rw[if_neg h]
theorem Fam.add{I J}{P D R}{V}{w w'}(h:Fam I P D R V w)(hb:Below w.heap.size w w'){k}{po d}{B}(hs:SetAt po d (R k) B w')(hp:w.heap.size<=po)(hd:w.heap.size<=d)(hJ:∀j,J j->I j\/j=k)(hI:¬I k):
  Fam J (updN P k po) (updN D k d) R (upd V k B) w':=by
 have lt1:∀j,I j->D j<w.heap.size:=fun j hj=>(h.at_ j hj).ind
 have lt2:∀j,I j->P j<w.heap.size:=fun j hj=>(h.at_ j hj).inp
 have ne:∀j,I j->j≠k:=fun j hj e=>hI (e▸hj)
 refine⟨fun j hj=>?_,fun i j hi hj e=>?_,fun i j hi hj=>?_⟩
 ·rcases hJ j hj with h1|rfl
  ·rw[zAV _ _ (ne j h1),zAV _ _ (ne j h1),zAh _ _ (ne j h1)];exact(h.went hb).at_ j h1
  ·rw[zAs,zAs,zCA];exact hs
 ·rcases hJ i hi with h1|rfl
  ·rcases hJ j hj with h2|rfl
   ·rw[zAV _ _ (ne i h1),zAV _ _ (ne j h2)]at e;exact h.inj i j h1 h2 e
   ·rw[zAV _ _ (ne i h1),zAs]at e;have:=lt1 i h1;omega
  ·rcases hJ j hj with h2|rfl
   ·rw[zAs,zAV _ _ (ne j h2)]at e;have:=lt1 j h2;omega
   ·rfl
 ·rcases hJ i hi with h1|rfl
  ·rcases hJ j hj with h2|rfl
   ·rw[zAV _ _ (ne i h1),zAV _ _ (ne j h2)];exact h.off i j h1 h2
   ·rw[zAV _ _ (ne i h1),zAs];have:=lt1 i h1;omega
  ·rcases hJ j hj with h2|rfl
   ·rw[zAs,zAV _ _ (ne j h2)];have:=lt2 j h2;omega
   ·rw[zAs,zAs];exact hs.apart.symm
theorem Fam.fr{I}{P D R}{V}{S}{w w'}(h:Fam I P D R V w)(hF:Sep.Fr S w w')(hS:∀k,I k->¬S (P k)/\¬S (D k)):Fam I P D R V w':=
 ⟨fun k hk=>(h.at_ k hk).keep hF.size (hF.block _ (h.at_ k hk).inp (hS k hk).1) (hF.block _ (h.at_ k hk).ind (hS k hk).2),h.inj,h.off⟩
def Iab(t a b:Nat):Ix->Prop
 | .e=>True
 | .f s=>s<a
 | .g s=>t<s/\s<b
 | .o=>False
structure PAt (P D:Ix->Nat) (p q1 q2 t n a b:Nat) (V:Ix->Nat->Bool) (w:World):Prop where
 box:Bk p #[.int .i64 (t:Int),.int .i64 (n:Int),.pointer (some ⟨P .e,0,none⟩),.slice (some ⟨q1,0,none⟩) n n,.slice (some ⟨q2,0,none⟩) n n] 258 w
 firsts:∀s,s<n->w.cell? ⟨q1,s,none⟩=some (if s<a then .pointer (some ⟨P (.f s),0,none⟩)else .pointer none)
 follows:∀s,s<n->w.cell? ⟨q2,s,none⟩=some (if t<s/\s<b then .pointer (some ⟨P (.g s),0,none⟩)else .pointer none)
 free1:∀s,w.frozen? ⟨q1,s,none⟩=false
 free2:∀s,w.frozen? ⟨q2,s,none⟩=false
 l1:q1<w.heap.size
 l2:q2<w.heap.size
 fam:Fam (Iab t a b) P D (rm t n) V w
 off:∀k,Iab t a b k->D k≠p/\D k≠q1/\D k≠q2/\P k≠q1/\P k≠q2
 n1:p≠q1
 n2:p≠q2
 n3:q1≠q2
 tn:t<n
 n4:n<=4000
theorem PAt.went{P D}{p q1 q2 t n a b}{V}{w w'}(h:PAt P D p q1 q2 t n a b V w)(hb:Below w.heap.size w w'):PAt P D p q1 q2 t n a b V w':=
 ⟨h.box.went hb,fun s hs=>cell_later hb (h.firsts s hs),fun s hs=>cell_later hb (h.follows s hs),fun s=>(hb.frozen (p:=⟨q1,s,none⟩) h.l1).trans (h.free1 s),fun s=>(hb.frozen (p:=⟨q2,s,none⟩) h.l2).trans (h.free2 s),
  Nat.lt_of_lt_of_le h.l1 hb.size,Nat.lt_of_lt_of_le h.l2 hb.size,h.fam.went hb,h.off,h.n1,h.n2,h.n3,h.tn,h.n4⟩
theorem PAt.wrote{P D}{p q1 q2 t n a b}{V}{w w'}(h:PAt P D p q1 q2 t n a b V w){k}(hk:Iab t a b k){B}(hs:SetAt (P k) (D k) (rm t n k) B w')(hK:Keeps (D k) w w'):PAt P D p q1 q2 t n a b (upd V k B) w':=by
 have ho:=h.off k hk;have hF:Sep.Fr (fun b=>b=D k) w w':=⟨hK.os,hK.tape,hK.output,hK.size,fun i hi hb=>hK.block i hi hb⟩
 exact⟨h.box.fr hF (fun e=>ho.1 e.symm),fun s hs=>hF.cell (h.firsts s hs) (fun e=>ho.2.1 e.symm),fun s hs=>hF.cell (h.follows s hs) (fun e=>ho.2.2.1 e.symm),
  fun s=>(World.frozen?_of_block (a:=⟨q1,s,none⟩) (hF.block _ h.l1 fun e=>ho.2.1 e.symm)).trans (h.free1 s),fun s=>(World.frozen?_of_block (a:=⟨q2,s,none⟩) (hF.block _ h.l2 fun e=>ho.2.2.1 e.symm)).trans (h.free2 s),
  Nat.lt_of_lt_of_le h.l1 hF.size,Nat.lt_of_lt_of_le h.l2 hF.size,h.fam.wrote hk hs hK,h.off,h.n1,h.n2,h.n3,h.tn,h.n4⟩
theorem PAt.fill1{P D}{p q1 q2 t n a b}{V}{w w'}(h:PAt P D p q1 q2 t n a b V w)(ha:a<n)(hb:Below w.heap.size w w'){po d}{B}(hs:SetAt po d (t+1) B w')(hp:w.heap.size<=po)(hd:w.heap.size<=d):
  PAt (updN P (.f a) po) (updN D (.f a) d) p q1 q2 t n (a+1) b (upd V (.f a) B) (w'.setCell ⟨q1,a,none⟩ (.pointer (some ⟨po,0,none⟩))):=by
 have k:=h.went hb;have hF:Sep.Fr (fun i=>i=q1) w' (w'.setCell ⟨q1,a,none⟩ (.pointer (some ⟨po,0,none⟩))):=(Sep.Fr.refl (fun i=>i=q1) w').setCell ⟨q1,a,none⟩ rfl _;have hp0:=h.box.lt;have hq1:=h.l1;have hq2:=h.l2;have oth:∀s,s≠a->(Ix.f s)≠.f a:=fun s e k=>e (by injection k)
 have hm:∀j,Iab t (a+1) b j->Iab t a b j\/j=.f a:=by
  rintro(_|s|s|_) hj
  ·exact .inl trivial
  ·by_cases e:s=a
   ·exact .inr (by rw[e])
   ·have:s<a+1:=hj;exact .inl (show s<a by omega)
  ·exact .inl hj
  ·exact hj.elim
 have ni:¬Iab t a b (.f a):=Nat.lt_irrefl a;have hfa:=h.fam.add (J:=Iab t (a+1) b) (k:=.f a) hb hs hp hd hm ni
 have ho:∀j,Iab t (a+1) b j->updN D (.f a) d j≠p/\updN D (.f a) d j≠q1/\updN D (.f a) d j≠q2/\updN P (.f a) po j≠q1/\updN P (.f a) po j≠q2:=fun j hj=>by
  rcases hm j hj with h1|rfl
  ·have ne:j≠.f a:=fun e=>ni (e▸h1)
   rw[zAV _ _ ne,zAV _ _ ne];exact h.off j h1
  ·rw[zAs,zAs];omega
 refine⟨?_,fun s hs=>?_,fun s hs=>?_,fun s=>?_,fun s=>?_,?_,?_,hfa.fr hF fun j hj=>⟨(ho j hj).2.2.2.1,(ho j hj).2.1⟩,ho,h.n1,h.n2,h.n3,h.tn,h.n4⟩
 ·rw[zAV _ _ (by intro e;cases e)];exact k.box.fr hF h.n1
 ·by_cases e:s=a
  ·subst e;rw[World.cell?_setCell_same _ _ _ (k.firsts s hs),if_pos (by omega),zAs]
  ·rw[World.cell?_setCell_other _ _ _ _ (by intro e2;exact e (congrArg Addr.off e2).symm),k.firsts s hs,zAV _ _ (oth s e)]
   by_cases e3:s<a
   ·rw[if_pos e3,if_pos (by omega)]
   ·rw[if_neg e3,if_neg (by omega)]
 ·rw[zAV _ _ (by intro e;cases e)];exact hF.cell (k.follows s hs) (fun e=>h.n3 e.symm)
 ·rw[World.frozen?_setCell];exact k.free1 s
 ·rw[World.frozen?_setCell];exact k.free2 s
 ·rw[Rw.zD1];exact k.l1
 ·rw[Rw.zD1];exact k.l2
theorem PAt.fill2{P D}{p q1 q2 t n a b}{V}{w w'}(h:PAt P D p q1 q2 t n a b V w)(hbn:b<n)(htb:t<b)(hb:Below w.heap.size w w'){po d}{B}(hs:SetAt po d (t+1) B w')(hp:w.heap.size<=po)(hd:w.heap.size<=d):
  PAt (updN P (.g b) po) (updN D (.g b) d) p q1 q2 t n a (b+1) (upd V (.g b) B) (w'.setCell ⟨q2,b,none⟩ (.pointer (some ⟨po,0,none⟩))):=by
 have k:=h.went hb;have hF:Sep.Fr (fun i=>i=q2) w' (w'.setCell ⟨q2,b,none⟩ (.pointer (some ⟨po,0,none⟩))):=(Sep.Fr.refl (fun i=>i=q2) w').setCell ⟨q2,b,none⟩ rfl _;have hp0:=h.box.lt;have hq1:=h.l1;have hq2:=h.l2;have oth:∀s,s≠b->(Ix.g s)≠.g b:=fun s e k=>e (by injection k)
 have hm:∀j,Iab t a (b+1) j->Iab t a b j\/j=.g b:=by
  rintro(_|s|s|_) hj
  ·exact .inl trivial
  ·exact .inl hj
  ·by_cases e:s=b
   ·exact .inr (by rw[e])
   ·have h1:t<s/\s<b+1:=hj;exact .inl (show t<s/\s<b by omega)
  ·exact hj.elim
 have ni:¬Iab t a b (.g b):=fun hh=>Nat.lt_irrefl b hh.2
 have hfa:=h.fam.add (J:=Iab t a (b+1)) (k:=.g b) hb hs hp hd hm ni
 have ho:∀j,Iab t a (b+1) j->updN D (.g b) d j≠p/\updN D (.g b) d j≠q1/\updN D (.g b) d j≠q2/\updN P (.g b) po j≠q1/\updN P (.g b) po j≠q2:=fun j hj=>by
  rcases hm j hj with h1|rfl
  ·have ne:j≠.g b:=fun e=>ni (e▸h1)
   rw[zAV _ _ ne,zAV _ _ ne];exact h.off j h1
  ·rw[zAs,zAs];omega
 refine⟨?_,fun s hs=>?_,fun s hs=>?_,fun s=>?_,fun s=>?_,?_,?_,hfa.fr hF fun j hj=>⟨(ho j hj).2.2.2.2,(ho j hj).2.2.1⟩,ho,h.n1,h.n2,h.n3,h.tn,h.n4⟩
 ·rw[zAV _ _ (by intro e;cases e)];exact k.box.fr hF h.n2
 ·rw[zAV _ _ (by intro e;cases e)];exact hF.cell (k.firsts s hs) h.n3
 ·by_cases e:s=b
  ·subst e;rw[World.cell?_setCell_same _ _ _ (k.follows s hs),if_pos (by omega),zAs]
  ·rw[World.cell?_setCell_other _ _ _ _ (by intro e2;exact e (congrArg Addr.off e2).symm),k.follows s hs,zAV _ _ (oth s e)]
   by_cases e3:t<s/\s<b
   ·rw[if_pos e3,if_pos (by omega)]
   ·rw[if_neg e3,if_neg (by omega)]
 ·rw[World.frozen?_setCell];exact k.free1 s
 ·rw[World.frozen?_setCell];exact k.free2 s
 ·rw[Rw.zD1];exact k.l1
 ·rw[Rw.zD1];exact k.l2
theorem PAt.skip2{P D}{p q1 q2 t n a b}{V}{w}(h:PAt P D p q1 q2 t n a b V w)(hb:b<=t):PAt P D p q1 q2 t n a (b+1) V w:=by
 have hm:∀j,Iab t a (b+1) j->Iab t a b j:=by
  rintro(_|s|s|_) hj
  ·exact trivial
  ·exact hj
  ·have h1:t<s/\s<b+1:=hj;omega
  ·exact hj
 refine⟨h.box,h.firsts,fun s hs=>?_,h.free1,h.free2,h.l1,h.l2,⟨fun k hk=>h.fam.at_ k (hm k hk),fun j k hj hk=>h.fam.inj j k (hm j hj) (hm k hk),fun j k hj hk=>h.fam.off j k (hm j hj) (hm k hk)⟩,fun k hk=>h.off k (hm k hk),h.n1,h.n2,h.n3,h.tn,h.n4⟩;rw[h.follows s hs]
 by_cases e3:t<s/\s<b
 ·rw[if_pos e3,if_pos (by omega)]
 ·rw[if_neg e3,if_neg (by omega)]
theorem PAt.full{P D}{p q1 q2 t n}{V}{w}(h:PAt P D p q1 q2 t n n n V w):SAt (Iab t n n) P D p q1 q2 t n V w:=
 ⟨h.box,fun s hs=>by rw[h.firsts s hs,if_pos hs],fun s hs=>by
   rw[h.follows s hs]
   by_cases e:t<s
   ·rw[if_pos ⟨e,hs⟩,if_pos e]
   ·rw[if_neg (fun k=>e k.1),if_neg e],h.fam,fun k hk=>⟨(h.off k hk).1,(h.off k hk).2.1,(h.off k hk).2.2.1⟩,trivial,fun s hs=>hs,fun s h1 h2=>⟨h1,h2⟩,h.tn,h.n4⟩
