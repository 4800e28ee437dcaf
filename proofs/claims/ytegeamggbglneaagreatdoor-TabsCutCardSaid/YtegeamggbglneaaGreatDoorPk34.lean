/- Proof. -/
import Derived.RegionTactic
import Derived.BigRegion
import Derived.Test.YtegeamggbglneaaGreatDoorPk31
set_option maxHeartbeats 16000000
set_option maxRecDepth 100000
set_option linter.unusedVariables false
namespace Go.Proofs.YtegeamggbglneaaGreatDoor
open Go.RowKit Go.Maps
namespace Fi
open Gr
open Bt (az aO cE)
open Rw (Bk)
theorem zQR:(Tryz.prog.info? 210).map (fun i=>(i.zero,i.size,i.bytes))=some (some (.pointer none),1,8):=by kernel_rfl
theorem zNy(n:Nat)(hn:n<=10000)(w):
  (Instr.makeSlice 256 (.int .i64 (n:Int)) (.int .i64 (n:Int))).run Tryz.prog w=.ok (.slice (some ⟨w.heap.size,0,none⟩) n n) (w.alloc (.cells (madeCells #[.pointer none] n) 210)):=
 run_make_row' 256 210 (.pointer none) 8 Tryz.underlying256 zQR rfl .i64 .i64 n (by omega) (by omega) w
theorem Xf{p t:Nat}(w)(h:w.cell? ⟨p,0,none⟩=some (.int .i64 (t:Int)))(ht:t<=4000):
  Calls Tryz.prog 181 #[.pointer (some ⟨p,0,none⟩)] w (Bt.Made (t+1) w):=by
 have hcap:Bt.cap ((t:Int)+1)=t+1:=by unfold Bt.cap;omega
 have N:=af (Bt.H7 ((t:Int)+1) w);rw[hcap]at N;clear hcap;go_enter Tryz.func181,Tryz.ntmps181;go_wp2_with (go_at_call 165;refine N.out.mono ?_;rintro e w2 ⟨p,d,rfl,hM⟩;have M:=af hM;clear hM);go_ret;exact⟨p,d,rfl,M.out⟩
abbrev mn:Nat->Bool:=fun _=>false
noncomputable abbrev V0(G:ai):Ix->Nat->Bool:=tv uP (mF G) (fun _ _=>false) mn
structure jW (W:World) (h:Sh) (G:ai) (P D:Ix->Nat) (p q1 q2 t n a b:Nat) (V:Ix->Nat->Bool) (w:World):Prop where
 x:Bx W h G w
 s:dX P D p q1 q2 t n a b V w
 lo:∀k,eH t a b k->W.heap.size<D k
 zB:W.heap.size<q1
 zC:W.heap.size<q2
def Mid(W:World)(h:Sh)(G:ai)(t n a b:Nat)(V:Ix->Nat->Bool)(s:Value)(w:World):Prop:=∃P D p q1 q2,s=.pointer (some ⟨p,0,none⟩)/\jW W h G P D p q1 q2 t n a b V w
theorem jW.went{W}{h}{G}{P D}{p q1 q2 t n a b}{V}{w w'}(k:jW W h G P D p q1 q2 t n a b V w)(hb:Below w.heap.size w w'):jW W h G P D p q1 q2 t n a b V w':=⟨k.x.went hb,k.s.went hb,k.lo,k.zB,k.zC⟩
theorem zVS{W}{h}{G}{t n pe de q1 q2}{w}(hA:Bk q1 (madeCells #[.pointer none] n) 210 w)(hB:Bk q2 (madeCells #[.pointer none] n) 210 w)(hS:az pe de n mn w)(hX:Bx W h G w)(h1:W.heap.size<q1)(h2:W.heap.size<q2)(h3:W.heap.size<de)(e1:q1≠q2)(e2:pe≠q1)(e3:pe≠q2)(e4:de≠q1)(e5:de≠q2)(ht:t<n)(hn:n<=4000)(N)(hN:N=(n:Int))(q)(hq:q=w.heap.size):
  Mid W h G t n 0 0 (V0 G) (.pointer (some ⟨q,0,none⟩)) (w.alloc (.cells #[.int .i64 (t:Int),.int .i64 N,.pointer (some ⟨pe,0,none⟩),.slice (some ⟨q1,0,none⟩) n n,.slice (some ⟨q2,0,none⟩) n n] 258)):=by
 subst hN;subst hq;have bx:=boxed w (.cells #[.int .i64 (t:Int),.int .i64 (n:Int),.pointer (some ⟨pe,0,none⟩),.slice (some ⟨q1,0,none⟩) n n,.slice (some ⟨q2,0,none⟩) n n] 258);have hA':=hA.went bx;have hB':=hB.went bx;have la:=hA.lt;have lb:=hB.lt;have le:=hS.inp;have ld:=hS.ind
 have hi:∀k,eH t 0 0 k->k=.e:=by
  rintro(_|s|s|_) hk
  ·rfl
  ·exact absurd hk (Nat.not_lt_zero s)
  ·exact absurd hk.2 (Nat.not_lt_zero s)
  ·exact hk.elim
 refine⟨fun _=>pe,fun _=>de,w.heap.size,q1,q2,rfl,hX.went bx,⟨Bk.new w _ _ _ rfl,fun s hs=>?_,fun s hs=>?_,fun s=>hA'.free s,fun s=>hB'.free s,hA'.lt,hB'.lt,⟨fun k hk=>?_,fun j k hj hk _=>(hi j hj).trans (hi k hk).symm,fun _ _ _ _=>hS.apart.symm⟩,fun k hk=>⟨by omega,e4,e5,e2,e3⟩,by omega,by omega,e1,ht,hn⟩,fun k hk=>h3,h1,h2⟩
 ·rw[if_neg (Nat.not_lt_zero s)];exact hA'.cell (Bt.MJ n s hs _)
 ·rw[if_neg (fun k=>Nat.not_lt_zero s k.2)];exact hB'.cell (Bt.MJ n s hs _)
 ·obtain rfl:=hi k hk;exact M3 hS bx
theorem jW.qw{W}{h}{G}{P D}{p q1 q2 t n a b}{V}{w w'}(k:jW W h G P D p q1 q2 t n a b V w)(ha:a<n)(hb:Below w.heap.size w w'){po d}{B}(hs:az po d (t+1) B w')(hp:w.heap.size<=po)(hd:w.heap.size<=d):
  jW W h G (dB P (.f a) po) (dB D (.f a) d) p q1 q2 t n (a+1) b (upd V (.f a) B) (w'.setCell ⟨q1,a,none⟩ (.pointer (some ⟨po,0,none⟩))):=by
 have hsz:=k.x.size;refine⟨uL (k.x.went hb) ((Sep.Fr.refl (fun i=>i=q1) w').setCell ⟨q1,a,none⟩ rfl _) (fun i hi=>by have:=k.zB;omega),k.s.qw ha hb hs hp hd,fun j hj=>?_,k.zB,k.zC⟩
 by_cases e:j=.f a
 ·subst e;rw[mL];omega
 ·rw[ju _ _ e];refine k.lo j ?_
  revert hj e
  rcases j with _|s|s|_
  ·exact fun _ _=>trivial
  ·intro hj e;have h1:s<a+1:=hj;have h2:s≠a:=fun e2=>e (by rw[e2])
   exact(show s<a by omega)
  ·exact fun hj _=>hj
  ·exact fun hj _=>hj
theorem jW.qx{W}{h}{G}{P D}{p q1 q2 t n a b}{V}{w w'}(k:jW W h G P D p q1 q2 t n a b V w)(vp:b<n)(Sa:t<b)(hb:Below w.heap.size w w'){po d}{B}(hs:az po d (t+1) B w')(hp:w.heap.size<=po)(hd:w.heap.size<=d):
  jW W h G (dB P (.g b) po) (dB D (.g b) d) p q1 q2 t n a (b+1) (upd V (.g b) B) (w'.setCell ⟨q2,b,none⟩ (.pointer (some ⟨po,0,none⟩))):=by
 have hsz:=k.x.size;refine⟨uL (k.x.went hb) ((Sep.Fr.refl (fun i=>i=q2) w').setCell ⟨q2,b,none⟩ rfl _) (fun i hi=>by have:=k.zC;omega),k.s.qx vp Sa hb hs hp hd,fun j hj=>?_,k.zB,k.zC⟩
 by_cases e:j=.g b
 ·subst e;rw[mL];omega
 ·rw[ju _ _ e];refine k.lo j ?_
  revert hj e
  rcases j with _|s|s|_
  ·exact fun _ _=>trivial
  ·exact fun hj _=>hj
  ·intro hj e;have h1:t<s/\s<b+1:=hj;have h2:s≠b:=fun e2=>e (by rw[e2])
   exact(show t<s/\s<b by omega)
  ·exact fun hj _=>hj
theorem jW.rh{W}{h}{G}{P D}{p q1 q2 t n a b}{V}{w}(k:jW W h G P D p q1 q2 t n a b V w)(hb:b<=t):jW W h G P D p q1 q2 t n a (b+1) V w:=by
 refine⟨k.x,k.s.rh hb,?_,k.zB,k.zC⟩;rintro(_|s|s|_) hj
 ·exact k.lo .e trivial
 ·exact k.lo (.f s) hj
 ·have h1:t<s/\s<b+1:=hj;omega
 ·exact hj.elim
theorem jW.wrote{W}{h}{G}{P D}{p q1 q2 t n a b}{V}{w w'}(l:jW W h G P D p q1 q2 t n a b V w){k}(hk:eH t a b k){B}(hs:az (P k) (D k) (rm t n k) B w')(hK:aO (D k) w w'):jW W h G P D p q1 q2 t n a b (upd V k B) w':=
 ⟨uL l.x (S:=fun i=>i=D k) ⟨hK.os,hK.tape,hK.output,hK.size,fun i hi hb=>hK.block i hi hb⟩ (fun i hi=>by have:=l.lo k hk;omega),l.s.wrote hk hs hK,l.lo,l.zB,l.zC⟩
theorem jW.eq{W}{h}{G}{P D}{p q1 q2 t n a b}{V U}{w}(l:jW W h G P D p q1 q2 t n a b V w)(e:V=U):jW W h G P D p q1 q2 t n a b U w:=e▸l
theorem zVr{G}{j}(h:G.terms.length<j):upd (V0 G) (.f j) mn=V0 G:=by
 have e:V0 G (.f j)=mn:=by
  funext i
  show decide ((j:Int)=(i:Int)/\0<=(j:Int)/\(j:Int)<=(G.terms.length:Int))=false;rw[decide_eq_false_iff_not];omega
 rw[←e,upd_same]
theorem zUc{G}{j}(h:j<=G.terms.length):upd (upd (V0 G) (.f j) mn) (.f j) (cE mn (G.terms.length+1) (j:Int))=V0 G:=by
 have e:V0 G (.f j)=cE mn (G.terms.length+1) (j:Int):=by
  unfold cE;rw[if_pos (by omega)]
  funext i
  show decide ((j:Int)=(i:Int)/\0<=(j:Int)/\(j:Int)<=(G.terms.length:Int))=(false||decide (i=(j:Int).toNat));rw[Bool.false_or,decide_eq_decide];omega
 rw[Yp,←e,upd_same]
theorem zVq{G}(j):upd (V0 G) (.g j) mn=V0 G:=by
 have e:V0 G (.g j)=mn:=rfl;rw[←e,upd_same]
theorem zR6{G}{s:Nat}(h:G.start=(s:Int)):upd (V0 G) (.g s) (cE mn (G.terms.length+1) 0)=tv uP (mF G) (lO G) mn:=by
 refine Dw ?_ fun x hx=>?_
 ·unfold cE;rw[if_pos (by omega)]
  funext i
  show(false||decide (i=(0:Int).toNat))=decide ((s:Int)=G.start/\(i:Int)=0);rw[Bool.false_or,decide_eq_decide];omega
 ·funext i
  show decide (x=G.start/\i=0)=false;rw[decide_eq_false_iff_not];omega
end Fi
namespace Fi
open Gr
open Rw (Bk)
theorem NU{q}{a w}(h:Sep.Fr (fun b=>b=q) a w)(j)(u):Sep.Fr (fun b=>b=q) a (w.setCell ⟨q,j,none⟩ u):=h.setCell ⟨q,j,none⟩ rfl u
def Started(G:ai)(t n:Nat)(w:World)(e:Ending)(w':World):Prop:=
 ∃P D p q1 q2,e=.returned (.pointer (some ⟨p,0,none⟩))/\cP (eH t n n) P D p q1 q2 t n (tv uP (mF G) (lO G) mn) w'/\(∀k,eH t n n k->w.heap.size<=D k)/\Below w.heap.size w w'
def zWK(W:World)(h:Sh)(G:ai)(p q1 q2 t n:Nat)(i:Value)(w:World):Prop:=
 ∃(j:Nat) (P D:Ix->Nat),j<=n/\i=.int .i64 j/\jW W h G P D p q1 q2 t n j j (V0 G) w
theorem zO2(h:Sh)(G:ai)(w:World)(k:bI h G w)(hs:y7 G):
  Calls Tryz.prog 158 #[gv h G] w (Started G G.terms.length (top G+1) w):=by
 obtain⟨a1,c1,a2,c2,a3,c3⟩:=h;have X:=af (Bx.start ⟨a1,c1,a2,c2,a3,c3⟩ G w 47);have T1:=af (fun w1 (b:Below w.heap.size w w1)=>sD ⟨a1,c1,a2,c2,a3,c3⟩ G w1 (k.went b));obtain⟨x0,x1,x2,x3⟩:=X.out.box
 try dsimp only at x0 x1 x2 x3
 have ht:=hs.t;have hn:=hs.n;have TP:=af (show top G=G.terms.length+G.ah.length from rfl);have htop:top G<=240:=by have:=TP.out;omega
 have HST:=af (show cp G G.start=true from by have:=hs.known;unfold iE at this;rw[Bool.and_eq_true]at this;exact this.1);have HS:=af (show∃s:Nat,G.start=(s:Int)/\G.terms.length<s/\s<top G+1 from⟨G.start.toNat,by have:=jN.1 HST.out;omega,by have:=jN.1 HST.out;omega,by have:=jN.1 HST.out;have:=TP.out;omega⟩);have hcap:Bt.cap ((top G:Int)+1)=top G+1:=by unfold Bt.cap;omega
 have N:=af (fun w1=>Bt.H7 ((top G:Int)+1) w1);rw[hcap]at N;have oq:=fun w=>show(Instr.makeSlice 256 (.int .i64 ((top G:Int)+1)) (.int .i64 ((top G:Int)+1))).run Tryz.prog w= _ from zNy (top G+1) (by omega) w
 clear k hs hcap;unfold gv;dsimp only;go_enter Tryz.func158,Tryz.ntmps158;go_upto_region 2 with(go_at_call 134;refine(T1.out _ X.out.below).mono ?_;rintro e w2 ⟨rfl,hb⟩;have X2:=af (X.out.went hb);clear hb x0 x1 x2 x3;obtain⟨x0,x1,x2,x3⟩:=X2.out.box;try dsimp only at x0 x1 x2 x3)
 go_cut [4] (fun s wx=>Mid w ⟨a1,c1,a2,c2,a3,c3⟩ G G.terms.length (top G+1) 0 0 (V0 G) s wx)
 case first=>
  have hq2:w.heap.size<w2.heap.size:=X2.out.size;have gh:=drawn w2;have HQ:=af (fun w' (b:Below w2.heap.size w2 w')=>And.intro (cell_later b x0) b)
  go_region_held3 (fun w'=>w'.cell? ⟨w.heap.size,0,none⟩=some (.slice a1 G.terms.length c1)/\Below w2.heap.size w2 w')
   (exact HQ.out _ (by repeat(first|assumption|(with_reducible exact Below.refl _ _)|(with_reducible refine Below.drew ?_)|(with_reducible refine Gr.step ?_ (Gr.boxed _ _)))))
   (first
    |(go_at_call 165;(with_reducible refine(N.out _).mono ?_);rintro e w3 ⟨pe,de,rfl,hpe,BD,KT,hb3,_⟩;have kB:Below w2.heap.size w2 w3:=Gr.step (by repeat(first|assumption|(with_reducible exact Below.refl _ _)|(with_reducible refine Below.drew ?_)|(with_reducible refine Gr.step ?_ (Gr.boxed _ _)))) hb3)
    |fail)
  all_goals
   go_wp2_with fail;go_meet
   case rel=>
    have htp:=TP.out;have hdr:∀u:World,u.drew.heap.size=u.heap.size:=fun _=>rfl
    have hsz1:=KT.inp;have xP:=KT.ind;have xQ:=hb3.size;refine zVS (pe:=pe) (de:=de) (n:=top G+1) (?_) (?_) (?_) (?_) (?_) (?_) (?_) (?_) (?_) (?_) (?_) (?_) (?_) (?_) _ rfl _ (?_)
    ·repeat(first|exact Bk.new _ _ _ _ rfl|(refine Bk.new _ _ _ _ ?_;simp;done)|refine Bk.went ?_ (boxed _ _)|refine Bk.went ?_ hb3|refine Bk.went ?_ (drawn _))
    ·repeat(first|exact Bk.new _ _ _ _ rfl|(refine Bk.new _ _ _ _ ?_;simp;done)|refine Bk.went ?_ (boxed _ _)|refine Bk.went ?_ hb3|refine Bk.went ?_ (drawn _))
    ·repeat(first|exact KT|refine M3 ?_ (boxed _ _))
    ·repeat(first|exact X2.out|refine Bx.went ?_ (boxed _ _)|refine Bx.went ?_ hb3|refine Bx.went ?_ (drawn _))
    all_goals try rw[hdr]at hpe BD xQ
    all_goals first|omega|(simp at hpe BD hsz1 xP xQ⊢<;>omega)
 case rest=>
  obtain⟨P,D,p,q1,q2,rfl,hL⟩:=hcut;have L0:=af hL;clear hL X X2 T1 N oq x0 x1 x2 x3;go_wp2;go_loopw [23] (fun i wr=>zWK w ⟨a1,c1,a2,c2,a3,c3⟩ G p q1 q2 G.terms.length (top G+1) i wr) (fun i _=>top G+1-(intOf i).toNat)
  case atStart=>exact⟨0,P,D,Nat.zero_le _,rfl,L0.out⟩
  case round=>
   clear L0 P D;obtain⟨j,P,D,hj,rfl,hL⟩:=hrel;have L:=af hL;clear hL;obtain⟨y0,y1,y2,y3,y4⟩:=Bk.five L.out.s.box
   by_cases hlt:j<top G+1
   ·have TC:=af (fun w1 (b:Below wr.heap.size wr w1)=>Xf w1 (cell_later b y0) (by omega));have gh:=drawn wr;have np:=L.out.s.n1;have HQ:=af (fun w' (f:Sep.Fr (fun b=>b=q1) wr w')=>And.intro (f.cell y3 np) f);have FZ:Sep.Fr (fun b=>b=q1) wr wr.drew:=(Sep.Fr.refl _ _).drew;have NC:=af (fun w1=>YN G.terms.length (top G+1) (j:Int) w1 (by omega));have i0:(0:Int)<=(j:Int):=by omega
    have i1:(j:Int)<(top G:Int)+1:=by omega
    go_wp2
    go_region_held3 (fun w'=>w'.cell? ⟨p,3,none⟩=some (.slice (some ⟨q1,0,none⟩) (top G+1) (top G+1))/\Sep.Fr (fun b=>b=q1) wr w')
     (exact HQ.out _ (by repeat(first|assumption|(with_reducible exact Sep.Fr.refl _ _)|(with_reducible refine Sep.Fr.drew ?_)|(with_reducible refine Sep.Fr.alloc ?_ _)|(with_reducible refine NU ?_ _ _))))
     (first
      |(go_at_call 181;(with_reducible refine(TC.out _ (by repeat(first|assumption|(with_reducible exact Below.refl _ _)|(with_reducible refine Below.drew ?_)|(with_reducible refine Gr.step ?_ (Gr.boxed _ _))))).mono ?_);rintro e w3 ⟨pN,dN,rfl,Gf,hd3,hs3,hb3,_⟩;have kB:Below wr.heap.size wr w3:=Gr.step (by repeat(first|assumption|(with_reducible exact Below.refl _ _)|(with_reducible refine Below.drew ?_)|(with_reducible refine Gr.step ?_ (Gr.boxed _ _)))) hb3;have kF:Sep.Fr (fun b=>b=q1) wr w3:=Sep.Fr.of_below kB;have LS:=af ((L.out.went (by repeat(first|assumption|(with_reducible exact Below.refl _ _)|(with_reducible refine Below.drew ?_)|(with_reducible refine Gr.step ?_ (Gr.boxed _ _))))).qw hlt hb3 hs3 Gf hd3);have zf:=(L.out.went kB).s.j4;have z:=(L.out.went kB).s.bN j hlt)
      |fail)
    clear y0 y1 y2 y3 y4 z zf HQ FZ kF kB Gf hd3 hs3 hb3 TC gh;generalize w3.setCell ⟨q1,j,none⟩ (.pointer (some ⟨pN,0,none⟩))=w4 at*;obtain⟨y0,y1,y2,y3,y4⟩:=Bk.five LS.out.s.box
    by_cases hnt:G.terms.length<j
    ·have hnb:zD G.terms.length (top G+1) (j:Int)=true:=decide_eq_true (by omega);rw[hnb]at NC;have L4:=af (LS.out.eq (zVr hnt));clear LS hnb L;go_wp2_with (go_at_call 182;refine(NC.out _).mono ?_;rintro e w5 ⟨rfl,hb⟩;have L5:=af (L4.out.went hb);clear hb y0 y1 y2 y3 y4;obtain⟨y0,y1,y2,y3,y4⟩:=Bk.five L5.out.s.box);clear L4;have TC:=af (fun w1 (b:Below w5.heap.size w5 w1)=>Xf w1 (cell_later b y0) (by omega));have gh:=drawn w5;have np:=L5.out.s.n2;have HQ:=af (fun w' (f:Sep.Fr (fun b=>b=q2) w5 w')=>And.intro (f.cell y4 np) f);have FZ:Sep.Fr (fun b=>b=q2) w5 w5.drew:=(Sep.Fr.refl _ _).drew
     go_region_held3 (fun w'=>w'.cell? ⟨p,4,none⟩=some (.slice (some ⟨q2,0,none⟩) (top G+1) (top G+1))/\Sep.Fr (fun b=>b=q2) w5 w')
      (exact HQ.out _ (by repeat(first|assumption|(with_reducible exact Sep.Fr.refl _ _)|(with_reducible refine Sep.Fr.drew ?_)|(with_reducible refine Sep.Fr.alloc ?_ _)|(with_reducible refine NU ?_ _ _))))
      (first
       |(go_at_call 181;(with_reducible refine(TC.out _ (by repeat(first|assumption|(with_reducible exact Below.refl _ _)|(with_reducible refine Below.drew ?_)|(with_reducible refine Gr.step ?_ (Gr.boxed _ _))))).mono ?_);rintro e w6 ⟨pM,dM,rfl,Kw,hd6,fx,fw,_⟩;have kB:Below w5.heap.size w5 w6:=Gr.step (by repeat(first|assumption|(with_reducible exact Below.refl _ _)|(with_reducible refine Below.drew ?_)|(with_reducible refine Gr.step ?_ (Gr.boxed _ _)))) fw;have kF:Sep.Fr (fun b=>b=q2) w5 w6:=Sep.Fr.of_below kB;have LS:=af ((L5.out.went (by repeat(first|assumption|(with_reducible exact Below.refl _ _)|(with_reducible refine Below.drew ?_)|(with_reducible refine Gr.step ?_ (Gr.boxed _ _))))).qx hlt hnt fw fx Kw hd6);have zf:=(L5.out.went kB).s.j5;have z:=(L5.out.went kB).s.follows j hlt)
       |fail)
     have L7:=af (LS.out.eq (zVq j));go_wp2;go_roundw
     case rel=>exact⟨j+1,_,_,by omega,by go_num,L7.out⟩
     case measure=>simp[intOf];omega
    ·have hnb:zD G.terms.length (top G+1) (j:Int)=false:=decide_eq_false (by omega);rw[hnb]at NC;have L4:=af (LS.out.rh (by omega));have hjt:j<=G.terms.length:=by omega
     clear LS hnb L;have PU:=af (fun w1 (b:Below w4.heap.size w4 w1)=>Bt.wL w1 ((L4.out.went b).s.dG.at_ (.f j) (Nat.lt_succ_self j)) (j:Int) (by omega));have z0:=L4.out.s.bN j hlt;rw[if_pos (Nat.lt_succ_self j)]at z0;have Z0:=af z0;clear z0;rw[sJ]at PU
     go_wp2_with (first
      |(go_at_call 182;refine(NC.out _).mono ?_;rintro e w5 ⟨rfl,hb⟩;have L5:=af (L4.out.went hb);have z:=cell_later hb Z0.out;have PC:=af (PU.out _ hb);clear hb y0 y1 y2 y3 y4;obtain⟨y0,y1,y2,y3,y4⟩:=Bk.five L5.out.s.box)
      | (go_at_call 166;refine PC.out.mono ?_;rintro e w6 ⟨rfl,fx,rY⟩;have L6:=af (L5.out.wrote (k:=.f j) (Nat.lt_succ_self j) fx rY);clear fx rY))
     have L7:=af (L6.out.eq (zUc hjt));go_roundw
     case rel=>exact⟨j+1,_,_,by omega,by go_num,L7.out⟩
     case measure=>simp[intOf];omega
   ·have hE:j=top G+1:=by omega
    subst hE;obtain⟨s,hs1,hs2,hs3⟩:=HS.out;obtain⟨x0,x1,x2,x3⟩:=L.out.x.box
    try dsimp only at x0 x1 x2 x3
    have EV:=af (zR6 hs1);have z:=L.out.s.follows s hs3;rw[if_pos ⟨hs2,hs3⟩]at z;have PU:=af (fun w1 (b:Below wr.heap.size wr w1)=>Bt.wL w1 ((L.out.went b).s.dG.at_ (.g s) ⟨hs2,hs3⟩) 0 (by omega));have I7:=af (show eH G.terms.length (top G+1) (top G+1) (.g s)from⟨hs2,hs3⟩);have nd:=L.out.s.off (.g s) I7.out;have ld:=L.out.lo (.g s) I7.out;have nd1:=nd.1;have nd2:=nd.2.2.1;clear nd;rw[hs1]at x3;have i0:(0:Int)<=(s:Int):=by omega
    have i1:(s:Int)<(top G:Int)+1:=by omega
    have HQ:=af (fun w' (f:Sep.Fr (fun b=>b=D (.g s)) wr w')=>And.intro (f.cell y4 (show¬p=D (.g s)from fun e=>nd1 e.symm)) (And.intro (f.cell x3 (show¬w.heap.size=D (.g s)by omega)) (And.intro (f.cell z (show¬q2=D (.g s)from fun e=>nd2 e.symm)) f)));have FZ:Sep.Fr (fun b=>b=D (.g s)) wr wr.drew:=(Sep.Fr.refl _ _).drew;have gh:=drawn wr;go_wp2
    go_region_held3 (fun w'=>w'.cell? ⟨p,4,none⟩=some (.slice (some ⟨q2,0,none⟩) (top G+1) (top G+1))/\w'.cell? ⟨w.heap.size,3,none⟩=some (.int .i64 (s:Int))/\w'.cell? ⟨q2,s,none⟩=some (.pointer (some ⟨P (.g s),0,none⟩))/\Sep.Fr (fun b=>b=D (.g s)) wr w')
     (exact HQ.out _ (by repeat(first|assumption|(with_reducible exact Sep.Fr.refl _ _)|(with_reducible refine Sep.Fr.drew ?_)|(with_reducible refine Sep.Fr.alloc ?_ _)|(with_reducible refine NU ?_ _ _))))
     (first
      |(go_at_call 166;(with_reducible refine(PU.out _ (by repeat(first|assumption|(with_reducible exact Below.refl _ _)|(with_reducible refine Below.drew ?_)|(with_reducible refine Gr.step ?_ (Gr.boxed _ _))))).mono ?_);rintro e w6 ⟨rfl,fx,rY⟩;have L6:=af ((L.out.went (by repeat(first|assumption|(with_reducible exact Below.refl _ _)|(with_reducible refine Below.drew ?_)|(with_reducible refine Gr.step ?_ (Gr.boxed _ _))))).wrote (k:=.g s) I7.out fx rY);have kF:Sep.Fr (fun b=>b=D (.g s)) wr w6:=FZ.trans ⟨rY.os,rY.tape,rY.output,rY.size,fun i hi hb=>rY.block i hi hb⟩ (fun _ h=> .inl h);clear fx rY)
      |fail)
    have L7:=af (L6.out.eq EV.out);go_wp2;go_ret;exact⟨P,D,p,q1,q2,rfl,L7.out.s.full,fun k hk=>Nat.le_of_lt (L7.out.lo k hk),L7.out.x.below⟩
