/- A part of the proof. -/
import Derived.RegionTactic
import Derived.BigRegion
import Derived.Test.YtegeamggbglneaaGreatDoorPk31
set_option maxHeartbeats 16000000
set_option maxRecDepth 100000
set_option linter.unusedVariables false
namespace Go.Proofs.YtegeamggbglneaaGreatDoor
open Go.RowKit Go.Maps
namespace Fi
open Gr
open Bt (SetAt Keeps putI)
open Rw (Bk)
theorem zPx:(Tryz.prog.info? 210).map (fun i=>(i.zero,i.size,i.bytes))=some (some (.pointer none),1,8):=by kernel_rfl
theorem zNe(n:Nat)(hn:n<=10000)(w):
  (Instr.makeSlice 256 (.int .i64 (n:Int)) (.int .i64 (n:Int))).run Tryz.prog w=.ok (.slice (some ⟨w.heap.size,0,none⟩) n n) (w.alloc (.cells (madeCells #[.pointer none] n) 210)):=
 run_make_row' 256 210 (.pointer none) 8 Tryz.underlying256 zPx rfl .i64 .i64 n (by omega) (by omega) w
theorem zKp{p t:Nat}(w)(h:w.cell? ⟨p,0,none⟩=some (.int .i64 (t:Int)))(ht:t<=4000):
  Calls Tryz.prog 181 #[.pointer (some ⟨p,0,none⟩)] w (Bt.Made (t+1) w):=by
 have hcap:Bt.cap ((t:Int)+1)=t+1:=by unfold Bt.cap;omega
 have N:=zV7 (Bt.zHC ((t:Int)+1) w);rw[hcap]at N;clear hcap;go_enter Tryz.func181,Tryz.ntmps181;go_wp2_with (go_at_call 165;refine N.out.mono ?_;rintro e w2 ⟨p,d,rfl,hM⟩;have M:=zV7 hM;clear hM);go_ret;exact⟨p,d,rfl,M.out⟩
abbrev no0:Nat->Bool:=fun _=>false
noncomputable abbrev V0(G:Gram):Ix->Nat->Bool:=tv zHQ (zCv G) (fun _ _=>false) no0
structure LSt (W:World) (h:Sh) (G:Gram) (P D:Ix->Nat) (p q1 q2 t n a b:Nat) (V:Ix->Nat->Bool) (w:World):Prop where
 x:Bx W h G w
 s:PAt P D p q1 q2 t n a b V w
 lo:∀k,Iab t a b k->W.heap.size<D k
 lq1:W.heap.size<q1
 lq2:W.heap.size<q2
def Mid(W:World)(h:Sh)(G:Gram)(t n a b:Nat)(V:Ix->Nat->Bool)(s:Value)(w:World):Prop:=∃P D p q1 q2,s=.pointer (some ⟨p,0,none⟩)/\LSt W h G P D p q1 q2 t n a b V w
theorem LSt.went{W}{h}{G}{P D}{p q1 q2 t n a b}{V}{w w'}(k:LSt W h G P D p q1 q2 t n a b V w)(hb:Below w.heap.size w w'):LSt W h G P D p q1 q2 t n a b V w':=⟨k.x.went hb,k.s.went hb,k.lo,k.lq1,k.lq2⟩
theorem zUr{W}{h}{G}{t n pe de q1 q2}{w}(hA:Bk q1 (madeCells #[.pointer none] n) 210 w)(hB:Bk q2 (madeCells #[.pointer none] n) 210 w)(hS:SetAt pe de n no0 w)(hX:Bx W h G w)(h1:W.heap.size<q1)(h2:W.heap.size<q2)(h3:W.heap.size<de)(e1:q1≠q2)(e2:pe≠q1)(e3:pe≠q2)(e4:de≠q1)(e5:de≠q2)(ht:t<n)(hn:n<=4000)(N)(hN:N=(n:Int))(q)(hq:q=w.heap.size):
  Mid W h G t n 0 0 (V0 G) (.pointer (some ⟨q,0,none⟩)) (w.alloc (.cells #[.int .i64 (t:Int),.int .i64 N,.pointer (some ⟨pe,0,none⟩),.slice (some ⟨q1,0,none⟩) n n,.slice (some ⟨q2,0,none⟩) n n] 258)):=by
 subst hN;subst hq;have bx:=boxed w (.cells #[.int .i64 (t:Int),.int .i64 (n:Int),.pointer (some ⟨pe,0,none⟩),.slice (some ⟨q1,0,none⟩) n n,.slice (some ⟨q2,0,none⟩) n n] 258);have hA':=hA.went bx;have hB':=hB.went bx;have la:=hA.lt;have lb:=hB.lt;have le:=hS.inp;have ld:=hS.ind
 have hi:∀k,Iab t 0 0 k->k=.e:=by
  rintro(_|s|s|_) hk
  ·rfl
  ·exact absurd hk (Nat.not_lt_zero s)
  ·exact absurd hk.2 (Nat.not_lt_zero s)
  ·exact hk.elim
 refine⟨fun _=>pe,fun _=>de,w.heap.size,q1,q2,rfl,hX.went bx,⟨Bk.new w _ _ _ rfl,fun s hs=>?_,fun s hs=>?_,fun s=>hA'.free s,fun s=>hB'.free s,hA'.lt,hB'.lt,⟨fun k hk=>?_,fun j k hj hk _=>(hi j hj).trans (hi k hk).symm,fun _ _ _ _=>hS.apart.symm⟩,fun k hk=>⟨by omega,e4,e5,e2,e3⟩,by omega,by omega,e1,ht,hn⟩,fun k hk=>h3,h1,h2⟩
 ·rw[if_neg (Nat.not_lt_zero s)];exact hA'.cell (Bt.zFP n s hs _)
 ·rw[if_neg (fun k=>Nat.not_lt_zero s k.2)];exact hB'.cell (Bt.zFP n s hs _)
 ·obtain rfl:=hi k hk;exact zFn hS bx
theorem LSt.fill1{W}{h}{G}{P D}{p q1 q2 t n a b}{V}{w w'}(k:LSt W h G P D p q1 q2 t n a b V w)(ha:a<n)(hb:Below w.heap.size w w'){po d}{B}(hs:SetAt po d (t+1) B w')(hp:w.heap.size<=po)(hd:w.heap.size<=d):
  LSt W h G (updN P (.f a) po) (updN D (.f a) d) p q1 q2 t n (a+1) b (upd V (.f a) B) (w'.setCell ⟨q1,a,none⟩ (.pointer (some ⟨po,0,none⟩))):=by
 have hsz:=k.x.size;refine⟨zGp (k.x.went hb) ((Sep.Fr.refl (fun i=>i=q1) w').setCell ⟨q1,a,none⟩ rfl _) (fun i hi=>by have:=k.lq1;omega),k.s.fill1 ha hb hs hp hd,fun j hj=>?_,k.lq1,k.lq2⟩
 by_cases e:j=.f a
 ·subst e;rw[zAs];omega
 ·rw[zAV _ _ e];refine k.lo j ?_
  revert hj e
  rcases j with _|s|s|_
  ·exact fun _ _=>trivial
  ·intro hj e;have h1:s<a+1:=hj;have h2:s≠a:=fun e2=>e (by rw[e2])
   exact(show s<a by omega)
  ·exact fun hj _=>hj
  ·exact fun hj _=>hj
theorem LSt.fill2{W}{h}{G}{P D}{p q1 q2 t n a b}{V}{w w'}(k:LSt W h G P D p q1 q2 t n a b V w)(hbn:b<n)(htb:t<b)(hb:Below w.heap.size w w'){po d}{B}(hs:SetAt po d (t+1) B w')(hp:w.heap.size<=po)(hd:w.heap.size<=d):
  LSt W h G (updN P (.g b) po) (updN D (.g b) d) p q1 q2 t n a (b+1) (upd V (.g b) B) (w'.setCell ⟨q2,b,none⟩ (.pointer (some ⟨po,0,none⟩))):=by
 have hsz:=k.x.size;refine⟨zGp (k.x.went hb) ((Sep.Fr.refl (fun i=>i=q2) w').setCell ⟨q2,b,none⟩ rfl _) (fun i hi=>by have:=k.lq2;omega),k.s.fill2 hbn htb hb hs hp hd,fun j hj=>?_,k.lq1,k.lq2⟩
 by_cases e:j=.g b
 ·subst e;rw[zAs];omega
 ·rw[zAV _ _ e];refine k.lo j ?_
  revert hj e
  rcases j with _|s|s|_
  ·exact fun _ _=>trivial
  ·exact fun hj _=>hj
  ·intro hj e;have h1:t<s/\s<b+1:=hj;have h2:s≠b:=fun e2=>e (by rw[e2])
   exact(show t<s/\s<b by omega)
  ·exact fun hj _=>hj
theorem LSt.skip2{W}{h}{G}{P D}{p q1 q2 t n a b}{V}{w}(k:LSt W h G P D p q1 q2 t n a b V w)(hb:b<=t):LSt W h G P D p q1 q2 t n a (b+1) V w:=by
 refine⟨k.x,k.s.skip2 hb,?_,k.lq1,k.lq2⟩;rintro(_|s|s|_) hj
 ·exact k.lo .e trivial
 ·exact k.lo (.f s) hj
 ·have h1:t<s/\s<b+1:=hj;omega
 ·exact hj.elim
theorem LSt.wrote{W}{h}{G}{P D}{p q1 q2 t n a b}{V}{w w'}(l:LSt W h G P D p q1 q2 t n a b V w){k}(hk:Iab t a b k){B}(hs:SetAt (P k) (D k) (rm t n k) B w')(hK:Keeps (D k) w w'):LSt W h G P D p q1 q2 t n a b (upd V k B) w':=
 ⟨zGp l.x (S:=fun i=>i=D k) ⟨hK.os,hK.tape,hK.output,hK.size,fun i hi hb=>hK.block i hi hb⟩ (fun i hi=>by have:=l.lo k hk;omega),l.s.wrote hk hs hK,l.lo,l.lq1,l.lq2⟩
theorem LSt.eq{W}{h}{G}{P D}{p q1 q2 t n a b}{V U}{w}(l:LSt W h G P D p q1 q2 t n a b V w)(e:V=U):LSt W h G P D p q1 q2 t n a b U w:=e▸l
theorem zVC{G}{j}(h:G.terms.length<j):upd (V0 G) (.f j) no0=V0 G:=by
 have e:V0 G (.f j)=no0:=by
  funext i
  show decide ((j:Int)=(i:Int)/\0<=(j:Int)/\(j:Int)<=(G.terms.length:Int))=false;rw[decide_eq_false_iff_not];omega
 rw[←e,upd_same]
theorem zT2{G}{j}(h:j<=G.terms.length):upd (upd (V0 G) (.f j) no0) (.f j) (putI no0 (G.terms.length+1) (j:Int))=V0 G:=by
 have e:V0 G (.f j)=putI no0 (G.terms.length+1) (j:Int):=by
  unfold putI;rw[if_pos (by omega)]
  funext i
  show decide ((j:Int)=(i:Int)/\0<=(j:Int)/\(j:Int)<=(G.terms.length:Int))=(false||decide (i=(j:Int).toNat));rw[Bool.false_or,decide_eq_decide];omega
 rw[zOw,←e,upd_same]
theorem zVB{G}(j):upd (V0 G) (.g j) no0=V0 G:=by
 have e:V0 G (.g j)=no0:=rfl;rw[←e,upd_same]
theorem zRX{G}{s:Nat}(h:G.start=(s:Int)):upd (V0 G) (.g s) (putI no0 (G.terms.length+1) 0)=tv zHQ (zCv G) (zCk G) no0:=by
 refine tv_g ?_ fun x hx=>?_
 ·unfold putI;rw[if_pos (by omega)]
  funext i
  show(false||decide (i=(0:Int).toNat))=decide ((s:Int)=G.start/\(i:Int)=0);rw[Bool.false_or,decide_eq_decide];omega
 ·funext i
  show decide (x=G.start/\i=0)=false;rw[decide_eq_false_iff_not];omega
end Fi
namespace Fi
open Gr
open Rw (Bk)
theorem zI3{q}{a w}(h:Sep.Fr (fun b=>b=q) a w)(j)(u):Sep.Fr (fun b=>b=q) a (w.setCell ⟨q,j,none⟩ u):=h.setCell ⟨q,j,none⟩ rfl u
def Started(G:Gram)(t n:Nat)(w:World)(e:Ending)(w':World):Prop:=
 ∃P D p q1 q2,e=.returned (.pointer (some ⟨p,0,none⟩))/\SAt (Iab t n n) P D p q1 q2 t n (tv zHQ (zCv G) (zCk G) no0) w'/\(∀k,Iab t n n k->w.heap.size<=D k)/\Below w.heap.size w w'
def zVY(W:World)(h:Sh)(G:Gram)(p q1 q2 t n:Nat)(i:Value)(w:World):Prop:=
 ∃(j:Nat) (P D:Ix->Nat),j<=n/\i=.int .i64 j/\LSt W h G P D p q1 q2 t n j j (V0 G) w
theorem zOd(h:Sh)(G:Gram)(w:World)(k:GAt h G w)(hs:Sml G):
  Calls Tryz.prog 158 #[gv h G] w (Started G G.terms.length (top G+1) w):=by
 obtain⟨a1,c1,a2,c2,a3,c3⟩:=h;have X:=zV7 (Bx.start ⟨a1,c1,a2,c2,a3,c3⟩ G w 47);have T1:=zV7 (fun w1 (b:Below w.heap.size w w1)=>zB8 ⟨a1,c1,a2,c2,a3,c3⟩ G w1 (k.went b));obtain⟨x0,x1,x2,x3⟩:=X.out.box
 try dsimp only at x0 x1 x2 x3
 have ht:=hs.t;have hn:=hs.n;have TP:=zV7 (show top G=G.terms.length+G.nons.length from rfl);have htop:top G<=240:=by have:=TP.out;omega
 have HST:=zV7 (show nonB G G.start=true from by have:=hs.known;unfold zA2 at this;rw[Bool.and_eq_true]at this;exact this.1);have HS:=zV7 (show∃s:Nat,G.start=(s:Int)/\G.terms.length<s/\s<top G+1 from⟨G.start.toNat,by have:=zAa.1 HST.out;omega,by have:=zAa.1 HST.out;omega,by have:=zAa.1 HST.out;have:=TP.out;omega⟩);have hcap:Bt.cap ((top G:Int)+1)=top G+1:=by unfold Bt.cap;omega
 have N:=zV7 (fun w1=>Bt.zHC ((top G:Int)+1) w1);rw[hcap]at N;have hm1:=fun w=>show(Instr.makeSlice 256 (.int .i64 ((top G:Int)+1)) (.int .i64 ((top G:Int)+1))).run Tryz.prog w= _ from zNe (top G+1) (by omega) w
 clear k hs hcap;unfold gv;dsimp only;go_enter Tryz.func158,Tryz.ntmps158;go_upto_region 2 with(go_at_call 134;refine(T1.out _ X.out.below).mono ?_;rintro e w2 ⟨rfl,hb⟩;have X2:=zV7 (X.out.went hb);clear hb x0 x1 x2 x3;obtain⟨x0,x1,x2,x3⟩:=X2.out.box;try dsimp only at x0 x1 x2 x3)
 go_cut [4] (fun s wx=>Mid w ⟨a1,c1,a2,c2,a3,c3⟩ G G.terms.length (top G+1) 0 0 (V0 G) s wx)
 case first=>
  have hq2:w.heap.size<w2.heap.size:=X2.out.size;have hbd:=drawn w2;have HQ:=zV7 (fun w' (b:Below w2.heap.size w2 w')=>And.intro (cell_later b x0) b)
  go_region_held3 (fun w'=>w'.cell? ⟨w.heap.size,0,none⟩=some (.slice a1 G.terms.length c1)/\Below w2.heap.size w2 w')
   (exact HQ.out _ (by repeat(first|assumption|(with_reducible exact Below.refl _ _)|(with_reducible refine Below.drew ?_)|(with_reducible refine Gr.step ?_ (Gr.boxed _ _)))))
   (first
    |(go_at_call 165;(with_reducible refine(N.out _).mono ?_);rintro e w3 ⟨pe,de,rfl,hpe,hde,hse,hb3,_⟩;have kB:Below w2.heap.size w2 w3:=Gr.step (by repeat(first|assumption|(with_reducible exact Below.refl _ _)|(with_reducible refine Below.drew ?_)|(with_reducible refine Gr.step ?_ (Gr.boxed _ _)))) hb3)
    |fail)
  all_goals
   go_wp2_with fail;go_meet
   case rel=>
    have htp:=TP.out;have hdr:∀u:World,u.drew.heap.size=u.heap.size:=fun _=>rfl
    have hsz1:=hse.inp;have hsz2:=hse.ind;have hsz3:=hb3.size;refine zUr (pe:=pe) (de:=de) (n:=top G+1) (?_) (?_) (?_) (?_) (?_) (?_) (?_) (?_) (?_) (?_) (?_) (?_) (?_) (?_) _ rfl _ (?_)
    ·repeat(first|exact Bk.new _ _ _ _ rfl|(refine Bk.new _ _ _ _ ?_;simp;done)|refine Bk.went ?_ (boxed _ _)|refine Bk.went ?_ hb3|refine Bk.went ?_ (drawn _))
    ·repeat(first|exact Bk.new _ _ _ _ rfl|(refine Bk.new _ _ _ _ ?_;simp;done)|refine Bk.went ?_ (boxed _ _)|refine Bk.went ?_ hb3|refine Bk.went ?_ (drawn _))
    ·repeat(first|exact hse|refine zFn ?_ (boxed _ _))
    ·repeat(first|exact X2.out|refine Bx.went ?_ (boxed _ _)|refine Bx.went ?_ hb3|refine Bx.went ?_ (drawn _))
    all_goals try rw[hdr]at hpe hde hsz3
    all_goals first|omega|(simp at hpe hde hsz1 hsz2 hsz3⊢<;>omega)
 case rest=>
  obtain⟨P,D,p,q1,q2,rfl,hL⟩:=hcut;have L0:=zV7 hL;clear hL X X2 T1 N hm1 x0 x1 x2 x3;go_wp2;go_loopw [23] (fun i wr=>zVY w ⟨a1,c1,a2,c2,a3,c3⟩ G p q1 q2 G.terms.length (top G+1) i wr) (fun i _=>top G+1-(intOf i).toNat)
  case atStart=>exact⟨0,P,D,Nat.zero_le _,rfl,L0.out⟩
  case round=>
   clear L0 P D;obtain⟨j,P,D,hj,rfl,hL⟩:=hrel;have L:=zV7 hL;clear hL;obtain⟨y0,y1,y2,y3,y4⟩:=Bk.five L.out.s.box
   by_cases hlt:j<top G+1
   ·have TC:=zV7 (fun w1 (b:Below wr.heap.size wr w1)=>zKp w1 (cell_later b y0) (by omega));have hbd:=drawn wr;have np:=L.out.s.n1;have HQ:=zV7 (fun w' (f:Sep.Fr (fun b=>b=q1) wr w')=>And.intro (f.cell y3 np) f);have hf0:Sep.Fr (fun b=>b=q1) wr wr.drew:=(Sep.Fr.refl _ _).drew;have NC:=zV7 (fun w1=>zRr G.terms.length (top G+1) (j:Int) w1 (by omega));have i0:(0:Int)<=(j:Int):=by omega
    have i1:(j:Int)<(top G:Int)+1:=by omega
    go_wp2
    go_region_held3 (fun w'=>w'.cell? ⟨p,3,none⟩=some (.slice (some ⟨q1,0,none⟩) (top G+1) (top G+1))/\Sep.Fr (fun b=>b=q1) wr w')
     (exact HQ.out _ (by repeat(first|assumption|(with_reducible exact Sep.Fr.refl _ _)|(with_reducible refine Sep.Fr.drew ?_)|(with_reducible refine Sep.Fr.alloc ?_ _)|(with_reducible refine zI3 ?_ _ _))))
     (first
      |(go_at_call 181;(with_reducible refine(TC.out _ (by repeat(first|assumption|(with_reducible exact Below.refl _ _)|(with_reducible refine Below.drew ?_)|(with_reducible refine Gr.step ?_ (Gr.boxed _ _))))).mono ?_);rintro e w3 ⟨pN,dN,rfl,hp3,hd3,hs3,hb3,_⟩;have kB:Below wr.heap.size wr w3:=Gr.step (by repeat(first|assumption|(with_reducible exact Below.refl _ _)|(with_reducible refine Below.drew ?_)|(with_reducible refine Gr.step ?_ (Gr.boxed _ _)))) hb3;have kF:Sep.Fr (fun b=>b=q1) wr w3:=Sep.Fr.of_below kB;have LS:=zV7 ((L.out.went (by repeat(first|assumption|(with_reducible exact Below.refl _ _)|(with_reducible refine Below.drew ?_)|(with_reducible refine Gr.step ?_ (Gr.boxed _ _))))).fill1 hlt hb3 hs3 hp3 hd3);have zf:=(L.out.went kB).s.free1;have z:=(L.out.went kB).s.firsts j hlt)
      |fail)
    clear y0 y1 y2 y3 y4 z zf HQ hf0 kF kB hp3 hd3 hs3 hb3 TC hbd;generalize w3.setCell ⟨q1,j,none⟩ (.pointer (some ⟨pN,0,none⟩))=w4 at*;obtain⟨y0,y1,y2,y3,y4⟩:=Bk.five LS.out.s.box
    by_cases hnt:G.terms.length<j
    ·have hnb:ntB G.terms.length (top G+1) (j:Int)=true:=decide_eq_true (by omega);rw[hnb]at NC;have L4:=zV7 (LS.out.eq (zVC hnt));clear LS hnb L;go_wp2_with (go_at_call 182;refine(NC.out _).mono ?_;rintro e w5 ⟨rfl,hb⟩;have L5:=zV7 (L4.out.went hb);clear hb y0 y1 y2 y3 y4;obtain⟨y0,y1,y2,y3,y4⟩:=Bk.five L5.out.s.box);clear L4;have TC:=zV7 (fun w1 (b:Below w5.heap.size w5 w1)=>zKp w1 (cell_later b y0) (by omega));have hbd:=drawn w5;have np:=L5.out.s.n2;have HQ:=zV7 (fun w' (f:Sep.Fr (fun b=>b=q2) w5 w')=>And.intro (f.cell y4 np) f);have hf0:Sep.Fr (fun b=>b=q2) w5 w5.drew:=(Sep.Fr.refl _ _).drew
     go_region_held3 (fun w'=>w'.cell? ⟨p,4,none⟩=some (.slice (some ⟨q2,0,none⟩) (top G+1) (top G+1))/\Sep.Fr (fun b=>b=q2) w5 w')
      (exact HQ.out _ (by repeat(first|assumption|(with_reducible exact Sep.Fr.refl _ _)|(with_reducible refine Sep.Fr.drew ?_)|(with_reducible refine Sep.Fr.alloc ?_ _)|(with_reducible refine zI3 ?_ _ _))))
      (first
       |(go_at_call 181;(with_reducible refine(TC.out _ (by repeat(first|assumption|(with_reducible exact Below.refl _ _)|(with_reducible refine Below.drew ?_)|(with_reducible refine Gr.step ?_ (Gr.boxed _ _))))).mono ?_);rintro e w6 ⟨pM,dM,rfl,hp6,hd6,hs6,hb6,_⟩;have kB:Below w5.heap.size w5 w6:=Gr.step (by repeat(first|assumption|(with_reducible exact Below.refl _ _)|(with_reducible refine Below.drew ?_)|(with_reducible refine Gr.step ?_ (Gr.boxed _ _)))) hb6;have kF:Sep.Fr (fun b=>b=q2) w5 w6:=Sep.Fr.of_below kB;have LS:=zV7 ((L5.out.went (by repeat(first|assumption|(with_reducible exact Below.refl _ _)|(with_reducible refine Below.drew ?_)|(with_reducible refine Gr.step ?_ (Gr.boxed _ _))))).fill2 hlt hnt hb6 hs6 hp6 hd6);have zf:=(L5.out.went kB).s.free2;have z:=(L5.out.went kB).s.follows j hlt)
       |fail)
     have L7:=zV7 (LS.out.eq (zVB j));go_wp2;go_roundw
     case rel=>exact⟨j+1,_,_,by omega,by go_num,L7.out⟩
     case measure=>simp[intOf];omega
    ·have hnb:ntB G.terms.length (top G+1) (j:Int)=false:=decide_eq_false (by omega);rw[hnb]at NC;have L4:=zV7 (LS.out.skip2 (by omega));have hjt:j<=G.terms.length:=by omega
     clear LS hnb L;have PU:=zV7 (fun w1 (b:Below w4.heap.size w4 w1)=>Bt.zCs w1 ((L4.out.went b).s.fam.at_ (.f j) (Nat.lt_succ_self j)) (j:Int) (by omega));have z0:=L4.out.s.firsts j hlt;rw[if_pos (Nat.lt_succ_self j)]at z0;have Z0:=zV7 z0;clear z0;rw[zCA]at PU
     go_wp2_with (first
      |(go_at_call 182;refine(NC.out _).mono ?_;rintro e w5 ⟨rfl,hb⟩;have L5:=zV7 (L4.out.went hb);have z:=cell_later hb Z0.out;have PC:=zV7 (PU.out _ hb);clear hb y0 y1 y2 y3 y4;obtain⟨y0,y1,y2,y3,y4⟩:=Bk.five L5.out.s.box)
      | (go_at_call 166;refine PC.out.mono ?_;rintro e w6 ⟨rfl,hs6,hk6⟩;have L6:=zV7 (L5.out.wrote (k:=.f j) (Nat.lt_succ_self j) hs6 hk6);clear hs6 hk6))
     have L7:=zV7 (L6.out.eq (zT2 hjt));go_roundw
     case rel=>exact⟨j+1,_,_,by omega,by go_num,L7.out⟩
     case measure=>simp[intOf];omega
   ·have hE:j=top G+1:=by omega
    subst hE;obtain⟨s,hs1,hs2,hs3⟩:=HS.out;obtain⟨x0,x1,x2,x3⟩:=L.out.x.box
    try dsimp only at x0 x1 x2 x3
    have EV:=zV7 (zRX hs1);have z:=L.out.s.follows s hs3;rw[if_pos ⟨hs2,hs3⟩]at z;have PU:=zV7 (fun w1 (b:Below wr.heap.size wr w1)=>Bt.zCs w1 ((L.out.went b).s.fam.at_ (.g s) ⟨hs2,hs3⟩) 0 (by omega));have HIg:=zV7 (show Iab G.terms.length (top G+1) (top G+1) (.g s)from⟨hs2,hs3⟩);have nd:=L.out.s.off (.g s) HIg.out;have ld:=L.out.lo (.g s) HIg.out;have nd1:=nd.1;have nd2:=nd.2.2.1;clear nd;rw[hs1]at x3;have i0:(0:Int)<=(s:Int):=by omega
    have i1:(s:Int)<(top G:Int)+1:=by omega
    have HQ:=zV7 (fun w' (f:Sep.Fr (fun b=>b=D (.g s)) wr w')=>And.intro (f.cell y4 (show¬p=D (.g s)from fun e=>nd1 e.symm)) (And.intro (f.cell x3 (show¬w.heap.size=D (.g s)by omega)) (And.intro (f.cell z (show¬q2=D (.g s)from fun e=>nd2 e.symm)) f)));have hf0:Sep.Fr (fun b=>b=D (.g s)) wr wr.drew:=(Sep.Fr.refl _ _).drew;have hbd:=drawn wr;go_wp2
    go_region_held3 (fun w'=>w'.cell? ⟨p,4,none⟩=some (.slice (some ⟨q2,0,none⟩) (top G+1) (top G+1))/\w'.cell? ⟨w.heap.size,3,none⟩=some (.int .i64 (s:Int))/\w'.cell? ⟨q2,s,none⟩=some (.pointer (some ⟨P (.g s),0,none⟩))/\Sep.Fr (fun b=>b=D (.g s)) wr w')
     (exact HQ.out _ (by repeat(first|assumption|(with_reducible exact Sep.Fr.refl _ _)|(with_reducible refine Sep.Fr.drew ?_)|(with_reducible refine Sep.Fr.alloc ?_ _)|(with_reducible refine zI3 ?_ _ _))))
     (first
      |(go_at_call 166;(with_reducible refine(PU.out _ (by repeat(first|assumption|(with_reducible exact Below.refl _ _)|(with_reducible refine Below.drew ?_)|(with_reducible refine Gr.step ?_ (Gr.boxed _ _))))).mono ?_);rintro e w6 ⟨rfl,hs6,hk6⟩;have L6:=zV7 ((L.out.went (by repeat(first|assumption|(with_reducible exact Below.refl _ _)|(with_reducible refine Below.drew ?_)|(with_reducible refine Gr.step ?_ (Gr.boxed _ _))))).wrote (k:=.g s) HIg.out hs6 hk6);have kF:Sep.Fr (fun b=>b=D (.g s)) wr w6:=hf0.trans ⟨hk6.os,hk6.tape,hk6.output,hk6.size,fun i hi hb=>hk6.block i hi hb⟩ (fun _ h=> .inl h);clear hs6 hk6)
      |fail)
    have L7:=zV7 (L6.out.eq EV.out);go_wp2;go_ret;exact⟨P,D,p,q1,q2,rfl,L7.out.s.full,fun k hk=>Nat.le_of_lt (L7.out.lo k hk),L7.out.x.below⟩
end Fi
namespace Fi
open Gr
theorem zKF{G}(h:zA2 G=true){r}(hr:r∈G.rules):nonB G r.1=true:=by
 unfold zA2 at h;simp only[Bool.and_eq_true,List.all_eq_true]at h;exact(h.2 r hr).1
theorem zKa{G}(h:zA2 G=true){r}(hr:r∈G.rules){y}(hy:y∈r.2):1<=y/\y<=(top G:Int):=by
 unfold zA2 at h;simp only[Bool.and_eq_true,List.all_eq_true]at h;have:=(h.2 r hr).2 y hy
 simpa using this
theorem zIc{G}(h:zA2 G=true):nonB G G.start=true:=by
 unfold zA2 at h;rw[Bool.and_eq_true]at h;exact h.1
theorem zDp{G}(h:zA2 G=true):zO6 G (top G+1):=fun r hr=>by
 have:=zAa.1 (zKF h hr);have e:top G=G.terms.length+G.nons.length:=rfl;omega
theorem tok0{G}(h:zA2 G=true){C}(hC:Rng C (top G+1)):TOk G.terms.length (top G+1) C (zCv G) (zCk G):=by
 have e:top G=G.terms.length+G.nons.length:=rfl;have hs:=zAa.1 (zIc h);refine⟨hC,fun x i hi=>?_,fun x i hi=>?_,fun x i hi=>?_,fun x i hi=>?_⟩
 ·unfold zCv at hi;rw[decide_eq_true_iff]at hi;omega
 ·unfold zCv at hi;rw[decide_eq_true_iff]at hi;omega
 ·unfold zCk at hi;rw[decide_eq_true_iff]at hi;omega
 ·unfold zCk at hi;rw[decide_eq_true_iff]at hi;omega
theorem TOk.addF{t n}{C}{F B}(h:TOk t n C F B){r}(h0:0<=r.1)(h1:r.1<(n:Int)):TOk t n C (addF C F r) B:=by
 refine⟨h.c,fun x i e=>?_,fun x i e=>?_,h.b1,h.b2⟩
 ·unfold Fi.addF at e;simp only[Bool.or_eq_true,Bool.and_eq_true,decide_eq_true_iff]at e;rcases e with e|⟨_,e⟩
  ·exact h.f1 x i e
  ·exact zCq h.f1 _ i e
 ·unfold Fi.addF at e;simp only[Bool.or_eq_true,Bool.and_eq_true,decide_eq_true_iff]at e;rcases e with e|⟨e,_⟩
  ·exact h.f2 x i e
  ·subst e;exact⟨h0,h1⟩
noncomputable def zVu(G)(n)(hn:zO6 G n):Pass G (Int->Bool) where
 Inv C:=∀x,C x=true->Can G x
 Tr C0 j C b:=TriedE G n C0 j C b
 ms C:=zDH C n
 Fin C:=C=canB G
 zero _ h:=zJe h
 inv _ _ _ _ h:=h.snd
 yes _ _ _ h:=h.yes rfl
 fin _ _ _ h hj:=h.all hj
noncomputable def zVv(G)(n:Nat):Pass G (Int->Int->Bool) where
 Inv F:=Snd G (canB G) F/\Leaf G F
 Tr F0 j F b:=TriedG G n F0 j F b
 ms F:=zDI F (G.terms.length+1) n
 Fin F:=F=fstB G
 zero _ h:=zJf h.1 h.2
 inv _ _ _ _ h:=⟨h.snd,h.leaf⟩
 yes _ _ _ h:=h.yes rfl
 fin _ _ _ h hj:=h.all hj
noncomputable def zVt(G)(n:Nat):Pass G (Int->Int->Bool) where
 Inv B:=BSnd G B/\B G.start 0=true
 Tr B0 j B b:=TriedB G n (canB G) (fstB G) B0 j 0 B b
 ms B:=zDI B (G.terms.length+1) n
 Fin B:=B=folB G
 zero _ h:=zJd h.1 h.2
 inv _ _ _ _ h:=⟨h.snd,h.start⟩
 yes _ _ _ h:=h.yes rfl
 fin _ _ _ h hj:=zUa (h.all (zRk G) hj)
def Sts(P D:Ix->Nat)(p q1 q2 t n:Nat)(C:Int->Bool)(F B:Int->Int->Bool)(w:World):Prop:=TOk t n C F B/\SAt (Iab t n n) P D p q1 q2 t n (tv C F B no0) w
theorem Sts.went{P D}{p q1 q2 t n}{C}{F B}{w w'}(h:Sts P D p q1 q2 t n C F B w)(hb:Below w.heap.size w w'):Sts P D p q1 q2 t n C F B w':=⟨h.1,h.2.went hb⟩
theorem zG5{G}(h:Sml G){j}(hj:j<G.rules.length){c}(hc:G.rules[j].2.length<=c):LOk G.rules[j].2 c:=by
 have hm:=List.getElem_mem hj;refine⟨fun x hx=>?_,by have:=h.w _ hm;omega,hc⟩;have h1:=zKa h.known hm hx;have e:top G=G.terms.length+G.nons.length:=rfl;have:=h.t;have:=h.n;omega
theorem zLv(p)(W0 w)(h)(G)(k:GAt h G W0)(hs:Sml G)(hb0:Below W0.heap.size W0 w){P D}{q1 q2}(hD:∀k,Iab G.terms.length (top G+1) (top G+1) k->W0.heap.size<=D k)
  (hS:Sts P D p q1 q2 G.terms.length (top G+1) zHQ (zCv G) (zCk G) w):
  Calls Tryz.prog 159 #[.slice h.a3 G.rules.length h.c3,.func (.func 160) #[.pointer (some ⟨p,0,none⟩)] #[]] w
   (fun e w'=>∃v,e=.returned v/\Sts P D p q1 q2 G.terms.length (top G+1) (canB G) (zCv G) (zCk G) w'/\Sep.Fr (Ds (Iab G.terms.length (top G+1) (top G+1)) D) w w'):=by
 refine(zRC p W0 w h G k (zVu G (top G+1) (zDp hs.known)) (fun C w=>Sts P D p q1 q2 G.terms.length (top G+1) C (zCv G) (zCk G) w) (Ds (Iab G.terms.length (top G+1) (top G+1)) D) zHQ hs.r hb0 (fun b ⟨k,hk,e⟩=>e▸hD k hk) (fun T w1 w2 h hb=>h.went hb) ?_ hS (zOk G)).mono ?_
 ·intro C0 C j b0 w1 ra rc hj hst htr hb hrd hrc;have hl:=zDp hs.known _ (List.getElem_mem hj);have hlk:=zG5 hs hj hrc;obtain⟨s,hsn⟩:∃s:Nat,G.rules[j].1=(s:Int):=⟨G.rules[j].1.toNat,by omega⟩;have:=zSC w1 hst.2 hst.1 s (by omega) G.rules[j].2 ra rc (Sep.Reads.below hrd hb (Nat.le_refl _)) hlk;rw[←hsn]at this;refine this.mono ?_;rintro e w' ⟨b,rfl,hbb,hs1,hf⟩;exact⟨b,addC C G.rules[j],rfl,htr.step (zDp hs.known) hj hbb,⟨⟨zQ3 hst.1.c hl.1 hl.2,hst.1.f1,hst.1.f2,hst.1.b1,hst.1.b2⟩,hs1⟩,hf⟩
 ·rintro e w' ⟨v,C,rfl,hfin,hst,hf⟩;have e:C=canB G:=hfin;subst e;exact⟨v,rfl,hst,hf⟩
theorem zLw(p)(W0 w)(h)(G)(k:GAt h G W0)(hs:Sml G)(hb0:Below W0.heap.size W0 w){P D}{q1 q2}(hD:∀k,Iab G.terms.length (top G+1) (top G+1) k->W0.heap.size<=D k)
  (hS:Sts P D p q1 q2 G.terms.length (top G+1) (canB G) (zCv G) (zCk G) w):
  Calls Tryz.prog 159 #[.slice h.a3 G.rules.length h.c3,.func (.func 161) #[.pointer (some ⟨p,0,none⟩)] #[]] w
   (fun e w'=>∃v,e=.returned v/\Sts P D p q1 q2 G.terms.length (top G+1) (canB G) (fstB G) (zCk G) w'/\Sep.Fr (Ds (Iab G.terms.length (top G+1) (top G+1)) D) w w'):=by
 refine(zRD p W0 w h G k (zVv G (top G+1)) (fun F w=>Sts P D p q1 q2 G.terms.length (top G+1) (canB G) F (zCk G) w) (Ds (Iab G.terms.length (top G+1) (top G+1)) D) (zCv G) hs.r hb0 (fun b ⟨k,hk,e⟩=>e▸hD k hk) (fun T w1 w2 h hb=>h.went hb) ?_ hS ⟨zV1 G,zVr G⟩).mono ?_
 ·intro F0 F j b0 w1 ra rc hj hst htr hb hrd hrc;have hl:=zDp hs.known _ (List.getElem_mem hj);have hlk:=zG5 hs hj hrc;obtain⟨s,hsn⟩:∃s:Nat,G.rules[j].1=(s:Int):=⟨G.rules[j].1.toNat,by omega⟩;have:=zSD W0 w1 hst.2 hst.1 hb hD s (by omega) G.rules[j].2 ra rc hrd hlk;rw[←hsn]at this;refine this.mono ?_;rintro e w' ⟨b,rfl,hbb,hs1,hf⟩;exact⟨b,addF (canB G) F G.rules[j],rfl,htr.step (zDp hs.known) hj hbb,⟨hst.1.addF hl.1 hl.2,hs1⟩,hf⟩
 ·rintro e w' ⟨v,F,rfl,hfin,hst,hf⟩;have e:F=fstB G:=hfin;subst e;exact⟨v,rfl,hst,hf⟩
theorem zLu(p)(W0 w)(h)(G)(k:GAt h G W0)(hs:Sml G)(hb0:Below W0.heap.size W0 w){P D}{q1 q2}(hD:∀k,Iab G.terms.length (top G+1) (top G+1) k->W0.heap.size<=D k)
  (hS:Sts P D p q1 q2 G.terms.length (top G+1) (canB G) (fstB G) (zCk G) w):
  Calls Tryz.prog 159 #[.slice h.a3 G.rules.length h.c3,.func (.func 162) #[.pointer (some ⟨p,0,none⟩)] #[]] w
   (fun e w'=>∃v,e=.returned v/\Sts P D p q1 q2 G.terms.length (top G+1) (canB G) (fstB G) (folB G) w'/\Sep.Fr (Ds (Iab G.terms.length (top G+1) (top G+1)) D) w w'):=by
 refine(zRB p W0 w h G k (zVt G (top G+1)) (fun B w=>Sts P D p q1 q2 G.terms.length (top G+1) (canB G) (fstB G) B w) (Ds (Iab G.terms.length (top G+1) (top G+1)) D) (zCk G) hs.r hb0 (fun b ⟨k,hk,e⟩=>e▸hD k hk) (fun T w1 w2 h hb=>h.went hb) ?_ hS (zVa G)).mono ?_
 ·intro B0 B j b0 w1 ra rc hj hst htr hb hrd hrc;have hl:=zAa.1 (zKF hs.known (List.getElem_mem hj));have e2:top G=G.terms.length+G.nons.length:=rfl;have hlk:=zG5 hs hj hrc;obtain⟨s,hsn⟩:∃s:Nat,G.rules[j].1=(s:Int):=⟨G.rules[j].1.toNat,by omega⟩;have:=zSA W0 w1 hst.2 hst.1 hb hD rfl rfl j hj b0 htr s G.rules[j].2 (by rw[←hsn]) (by omega) ra rc hrd hlk;rw[←hsn]at this;refine this.mono ?_;rintro e w' ⟨b,B',rfl,ht,hok,hs1,hf⟩;exact⟨b,B',rfl,ht,⟨hok,hs1⟩,hf⟩
 ·rintro e w' ⟨v,B,rfl,hfin,hst,hf⟩;have e:B=folB G:=hfin;subst e;exact⟨v,rfl,hst,hf⟩
noncomputable def nlB(G:Gram):Bool:= !decide (checkN G=0)
noncomputable def ansC(G:Gram):Int->Bool:=if checkN G=0 then canB G else fun _=>false
noncomputable def ansF(G:Gram):Int->Int->Bool:=if checkN G=0 then fstB G else fun _ _=>false
noncomputable def ansB(G:Gram):Int->Int->Bool:=if checkN G=0 then folB G else fun _ _=>false
def zVT(G:Gram)(w:World)(e:Ending)(w':World):Prop:=
 ∃v P D,e=.returned v/\VS (nlB G) (Iab G.terms.length (top G+1) (top G+1)) P D v G.terms.length (top G+1) (ansC G) (ansF G) (ansB G) no0 w'/\(nlB G=false->TOk G.terms.length (top G+1) (ansC G) (ansF G) (ansB G))/\Below w.heap.size w w'
theorem zEa(h:Sh)(G:Gram)(w:World)(k:GAt h G w):
  Calls Tryz.prog 135 #[gv h G] w (zVT G w):=by
 obtain⟨a1,c1,a2,c2,a3,c3⟩:=h;have hmf:∀(fn:Fn) (first cap:Array Value) (w:World),(Instr.makeFunc fn first cap).run Tryz.prog w=.ok (.func fn first cap) w:=fun _ _ _ _=>rfl
 have X:=zV7 (Bx.start ⟨a1,c1,a2,c2,a3,c3⟩ G w 47);have C:=zV7 (fun w1 (b:Below w.heap.size w w1)=>zBs ⟨a1,c1,a2,c2,a3,c3⟩ G w1 (k.went b));obtain⟨x0,x1,x2,x3⟩:=X.out.box
 try dsimp only at x0 x1 x2 x3
 by_cases hc:checkN G=0
 ·have SM:=zV7 (zBG hc);have ST:=zV7 (fun w1 (b:Below w.heap.size w w1)=>zOd ⟨a1,c1,a2,c2,a3,c3⟩ G w1 (k.went b) SM.out);have SE:=zV7 (fun p w1 (b:Below w.heap.size w w1) P D q1 q2 hD hS=>zLv p w w1 ⟨a1,c1,a2,c2,a3,c3⟩ G k SM.out b (P:=P) (D:=D) (q1:=q1) (q2:=q2) hD hS);have SF:=zV7 (fun p w1 (b:Below w.heap.size w w1) P D q1 q2 hD hS=>zLw p w w1 ⟨a1,c1,a2,c2,a3,c3⟩ G k SM.out b (P:=P) (D:=D) (q1:=q1) (q2:=q2) hD hS);have SB:=zV7 (fun p w1 (b:Below w.heap.size w w1) P D q1 q2 hD hS=>zLu p w w1 ⟨a1,c1,a2,c2,a3,c3⟩ G k SM.out b (P:=P) (D:=D) (q1:=q1) (q2:=q2) hD hS);have AN:=zV7 (show nlB G=false/\ansC G=canB G/\ansF G=fstB G/\ansB G=folB G from⟨by unfold nlB;rw[decide_eq_true hc];rfl,by unfold ansC;rw[if_pos hc],by unfold ansF;rw[if_pos hc],by unfold ansB;rw[if_pos hc]⟩);have T0:=zV7 (tok0 SM.out.known (C:=zHQ) (fun x h=>by cases h));rw[hc]at C;dsimp only at SE SF SB;clear k hc;unfold gv;dsimp only;go_enter Tryz.func135,Tryz.ntmps135
  go_wp2_with (first
   |(go_at_call 107;refine(C.out _ X.out.below).mono ?_;rintro e w1 ⟨rfl,hb⟩;have X1:=zV7 (X.out.went hb);clear hb x0 x1 x2 x3;obtain⟨x0,x1,x2,x3⟩:=X1.out.box;try dsimp only at x0 x1 x2 x3)
   |(go_at_call 158;refine(ST.out _ X1.out.below).mono ?_;rintro e w2 ⟨P,D,p,q1,q2,rfl,hs2,hd2,hb⟩;have X2:=zV7 (X1.out.went hb);have hsz:=X1.out.size;have DD:=zV7 (show∀k,Iab G.terms.length (top G+1) (top G+1) k->w.heap.size<D k from fun k hk=>Nat.lt_of_lt_of_le (by omega) (hd2 k hk));have S2:=zV7 (show Sts P D p q1 q2 G.terms.length (top G+1) zHQ (zCv G) (zCk G) w2 from⟨T0.out,hs2⟩);clear hb hs2 hd2 hsz x0 x1 x2 x3;obtain⟨x0,x1,x2,x3⟩:=X2.out.box;try dsimp only at x0 x1 x2 x3)
   |(go_at_call 159;(with_reducible refine(SE.out _ _ X2.out.below _ _ _ _ (fun k hk=>Nat.le_of_lt (DD.out k hk)) S2.out).mono ?_);rintro e w3 ⟨v3,rfl,hs3,hf3⟩;have S3:=zV7 hs3;have X3:=zV7 (zGp X2.out hf3 (fun b ⟨k,hk,e⟩=>e▸DD.out k hk));clear hs3 hf3 x0 x1 x2 x3;obtain⟨x0,x1,x2,x3⟩:=X3.out.box;try dsimp only at x0 x1 x2 x3)
   |(go_at_call 159;(with_reducible refine(SF.out _ _ X3.out.below _ _ _ _ (fun k hk=>Nat.le_of_lt (DD.out k hk)) S3.out).mono ?_);rintro e w4 ⟨v4,rfl,hs4,hf4⟩;have S4:=zV7 hs4;have X4:=zV7 (zGp X3.out hf4 (fun b ⟨k,hk,e⟩=>e▸DD.out k hk));clear hs4 hf4 x0 x1 x2 x3;obtain⟨x0,x1,x2,x3⟩:=X4.out.box;try dsimp only at x0 x1 x2 x3)
   | (go_at_call 159;(with_reducible refine(SB.out _ _ X4.out.below _ _ _ _ (fun k hk=>Nat.le_of_lt (DD.out k hk)) S4.out).mono ?_);rintro e w5 ⟨v5,rfl,hs5,hf5⟩;have S5:=zV7 hs5;have X5:=zV7 (zGp X4.out hf5 (fun b ⟨k,hk,e⟩=>e▸DD.out k hk));clear hs5 hf5 x0 x1 x2 x3))
  go_ret;refine⟨_,P,D,rfl,.inr ⟨AN.out.1,p,q1,q2,rfl,?_⟩,fun _=>?_,X5.out.below⟩
  ·rw[AN.out.2.1,AN.out.2.2.1,AN.out.2.2.2];exact S5.out.2
  ·rw[AN.out.2.1,AN.out.2.2.1,AN.out.2.2.2];exact S5.out.1
 ·have AN:=zV7 (show nlB G=true/\ansC G=(fun _=>false)/\ansF G=(fun _ _=>false)/\ansB G=(fun _ _=>false)from⟨by unfold nlB;rw[decide_eq_false hc];rfl,by unfold ansC;rw[if_neg hc],by unfold ansF;rw[if_neg hc],by unfold ansB;rw[if_neg hc]⟩);have hb:(checkN G != 0)=true:=by simpa using hc
  clear k hc;generalize checkN G=ck at*;unfold gv;dsimp only;go_enter Tryz.func135,Tryz.ntmps135;go_wp2_with (go_at_call 107;refine(C.out _ X.out.below).mono ?_;rintro e w1 ⟨rfl,hb⟩;have X1:=zV7 (X.out.went hb);clear hb);go_ret;exact⟨_,fun _=>0,fun _=>0,rfl,.inl ⟨AN.out.1,rfl,AN.out.2⟩,(fun h=>by rw[AN.out.1]at h;cases h),X1.out.below⟩
end Fi
namespace Fi
open Gr
open Bt (Tab els)
theorem zNY{l}{B}{W w}{e}{w'}(hE:(els B).map Bt.iv=ivs l)(hb:Below W.heap.size W w)(h:Bt.Listed B w e w'):Listed l W e w':=by
 obtain⟨v,rfl,ho,hb2⟩:=h
 have hl:(els B).length=l.length:=by
  have:=congrArg List.length hE
  simpa[ivs]using this
 rw[hE,hl]at ho;obtain⟨a,c,rfl⟩:=Sep.zBC ho;exact⟨a,c,rfl,Sep.Reads.of_row ho,zHL ho hb.size,Gr.step hb hb2⟩
theorem zSb{P}{n}(h:Rng P n)(hn:n<=4096):(els (rw' P)).map Bt.iv=ivs (lst P n):=by
 rw[←zUR h hn];unfold ivs;rw[List.map_map]
 rfl
def zVS(l:List Int)(b:Bool)(w:World)(e:Ending)(w':World):Prop:=
 ∃a c,e=.returned (.tuple #[.slice a l.length c,.bool b])/\Sep.Reads a (ivs l) w'/\New a w/\Below w.heap.size w w'
theorem zP2{C}{F}{L}:jn no0 F (L.take (zBl C L))=rw' (zAg C F L):=by
 funext i
 unfold jn rw';rw[zCF]
 rfl
theorem zJI{C}(l)(t):zAg C (fun _ _=>false) l t=false:=by
 induction l with
 |nil=>rfl
 |cons a l ih=>
  unfold zAg;rw[ih];simp
theorem zVh{t a b}:¬Iab t a b .o:=fun h=>h
theorem zQB{nl:Bool}{t n:Nat}{P D:Ix->Nat}{v:Value}{C:Int->Bool}{F B:Int->Int->Bool}{O:Nat->Bool}(w:World)(h:VS nl (Iab t n n) P D v t n C F B O w)(hT:nl=false->TOk t n C F B)(htab:Tab w)(ht:t<=4000)(L:List Int)(a:Option Addr)(c:Nat)(hR:Sep.Reads a (ivs L) w)(hL:LOk L c):
  Calls Tryz.prog 163 #[v,.slice a L.length c] w (zVS (lst (zAg C F L) (t+1)) (!nl&&allC C L) w):=by
 rcases h with⟨rfl,rfl,rfl,rfl,rfl⟩|⟨rfl,p,q1,q2,rfl,h2⟩
 ·have e:lst (zAg (fun _=>false) (fun _ _=>false) L) (t+1)=[]:=zQH fun i _=>zJI _ _
  rw[e];clear hT htab hR hL;go_enter Tryz.func163,Tryz.ntmps163;go_wp2;go_ret2;exact⟨none,0,rfl,.nil _ _,(fun x h=>by cases h),.refl _ _⟩
 ·have TB:=zV7 (fun w1 (b:Below w.heap.size w w1)=>htab.below b htab.pos);have T:=zV7 (hT rfl);have H:=zV7 h2;have TM:=zV7 (zRO w h2);have HDC:=zV7 (fun w1 (b:Below w.heap.size w w1)=>zDU w1 (h2.went b) T.out.c L a c (Sep.Reads.below hR b (Nat.le_refl _)) hL);have JOC:=zV7 (fun I' P' D' w1 (k:SAt I' P' D' p q1 q2 t n (tv C F B no0) w1) (hk:I' .o) (hb:Below w.heap.size w w1) (hd:w.heap.size<=D' .o)=>zJF w w1 k T.out .o hk rfl hb hd (L.take (zBl C L)) a c (zDA hR _) (hL.take _));rw[take_len]at JOC;unfold zDR at HDC;have E:=zV7 (zSb (zCq (C:=C) T.out.f1 L) (show t+1<=4096 by omega));clear hT htab h2 hR;have hcap:=hL.cap;clear hL;generalize allC C L=al at*;rw[Bool.not_false,Bool.true_and];go_enter Tryz.func163,Tryz.ntmps163
  go_wp2_with (first
   |(go_at_call 181;refine TM.out.mono ?_;rintro e w1 ⟨pN,dN,rfl,hp1,hd1,hs1,hb1,_⟩;have B1:=zV7 hb1;obtain⟨I',P',D',hk',hI',rfl,rfl⟩:=H.out.more zVh hb1 hs1 hp1 hd1;have K1:=zV7 hk';have O1:=zV7 hI';have D1:=zV7 hd1;clear hp1 hd1 hs1 hb1 hk' hI')
   |(go_at_call 183;refine(HDC.out _ B1.out).mono ?_;rintro e w2 ⟨rfl,hb⟩;have B2:=zV7 (Gr.step B1.out hb);have K2:=zV7 (K1.out.went hb);clear hb)
   |(go_at_call 184;refine(JOC.out _ _ _ _ K2.out O1.out B2.out D1.out).mono ?_;rintro e w3 ⟨b,rfl,hg,hs3,hk3⟩;have B3:=zV7 (zE4 B2.out D1.out hk3);have S3:=zV7 hs3;clear hg hs3 hk3)
   | (go_at_call 141;refine(Bt.zEt _ (.at_ S3.out) (TB.out _ B3.out)).mono ?_;rintro e w4 hl;have LL:=zV7 (zNY (l:=lst (zAg C F L) (t+1)) (by rw[show jn (tv C F B no0 .o) F (L.take (zBl C L))=rw' (zAg C F L)from zP2];exact E.out) B3.out hl);obtain⟨v,rfl,_,_⟩:=hl))
  go_ret2;obtain⟨a4,c4,e4,h4⟩:=LL.out;injection e4 with e4
  subst e4;exact⟨a4,c4,rfl,h4⟩
