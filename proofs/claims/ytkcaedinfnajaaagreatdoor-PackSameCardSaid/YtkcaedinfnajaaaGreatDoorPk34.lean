/- A part of the proof. -/
import Derived.RegionTactic
import Derived.BigRegion
import Derived.Test.YtkcaedinfnajaaaGreatDoorPk28
set_option maxHeartbeats 16000000
set_option maxRecDepth 100000
set_option linter.unusedVariables false
namespace Go.Proofs.YtkcaedinfnajaaaGreatDoor
open Go.RowKit Go.Maps
namespace Fi
open Gr
open Bt (SetAt Keeps putI)
open Rw (Bk)
theorem zPR:(Tryz.prog.info? 182).map (fun i=>(i.zero,i.size,i.bytes))=some (some (.pointer none),1,8):=by kernel_rfl
theorem zNI(n:Nat)(hn:n<=10000)(w:World):
  (Instr.makeSlice 229 (.int .i64 (n:Int)) (.int .i64 (n:Int))).run Tryz.prog w=.ok (.slice (some ⟨w.heap.size,0,none⟩) n n) (w.alloc (.cells (madeCells #[.pointer none] n) 182)):=
 run_make_row' 229 182 (.pointer none) 8 Tryz.underlying229 zPR rfl .i64 .i64 n (by omega) (by omega) w
theorem zKJ{p t:Nat}(w:World)(h:w.cell? ⟨p,0,none⟩=some (.int .i64 (t:Int)))(ht:t<=4000):
  Calls Tryz.prog 154 #[.pointer (some ⟨p,0,none⟩)] w (Bt.Made (t+1) w):=by
 have hcap:Bt.cap ((t:Int)+1)=t+1:=by unfold Bt.cap;omega
 have N:=zVZ (Bt.zGg ((t:Int)+1) w);rw[hcap]at N;clear hcap;go_enter Tryz.func154,Tryz.ntmps154;go_wp2_with (go_at_call 138;refine N.out.mono ?_;rintro e w2 ⟨p,d,rfl,hM⟩;have M:=zVZ hM;clear hM);go_ret;exact⟨p,d,rfl,M.out⟩
abbrev no0:Nat->Bool:=fun _=>false
noncomputable abbrev V0(G:Gram):Ix->Nat->Bool:=tv zGt (zCg G) (fun _ _=>false) no0
structure LSt (W:World) (h:Sh) (G:Gram) (P D:Ix->Nat) (p q1 q2 t n a b:Nat) (V:Ix->Nat->Bool) (w:World):Prop where
 x:Bx W h G w
 s:PAt P D p q1 q2 t n a b V w
 lo:∀k,Iab t a b k->W.heap.size<D k
 lq1:W.heap.size<q1
 lq2:W.heap.size<q2
def Mid(W:World)(h:Sh)(G:Gram)(t n a b:Nat)(V:Ix->Nat->Bool)(s:Value)(w:World):Prop:=∃P D p q1 q2,s=.pointer (some ⟨p,0,none⟩)/\LSt W h G P D p q1 q2 t n a b V w
theorem LSt.went{W:World}{h:Sh}{G:Gram}{P D:Ix->Nat}{p q1 q2 t n a b:Nat}{V:Ix->Nat->Bool}{w w':World}(k:LSt W h G P D p q1 q2 t n a b V w)(hb:Below w.heap.size w w'):LSt W h G P D p q1 q2 t n a b V w':=⟨k.x.went hb,k.s.went hb,k.lo,k.lq1,k.lq2⟩
theorem zUN{W:World}{h:Sh}{G:Gram}{t n pe de q1 q2:Nat}{w:World}(hA:Bk q1 (madeCells #[.pointer none] n) 182 w)(hB:Bk q2 (madeCells #[.pointer none] n) 182 w)(hS:SetAt pe de n no0 w)(hX:Bx W h G w)(h1:W.heap.size<q1)(h2:W.heap.size<q2)(h3:W.heap.size<de)(e1:q1≠q2)(e2:pe≠q1)(e3:pe≠q2)(e4:de≠q1)(e5:de≠q2)(ht:t<n)(hn:n<=4000)(N:Int)(hN:N=(n:Int))(q:Nat)(hq:q=w.heap.size):
  Mid W h G t n 0 0 (V0 G) (.pointer (some ⟨q,0,none⟩)) (w.alloc (.cells #[.int .i64 (t:Int),.int .i64 N,.pointer (some ⟨pe,0,none⟩),.slice (some ⟨q1,0,none⟩) n n,.slice (some ⟨q2,0,none⟩) n n] 231)):=by
 subst hN;subst hq;have bx:=boxed w (.cells #[.int .i64 (t:Int),.int .i64 (n:Int),.pointer (some ⟨pe,0,none⟩),.slice (some ⟨q1,0,none⟩) n n,.slice (some ⟨q2,0,none⟩) n n] 231);have hA':=hA.went bx;have hB':=hB.went bx;have la:=hA.lt;have lb:=hB.lt;have le:=hS.inp;have ld:=hS.ind
 have hi:∀k,Iab t 0 0 k->k=.e:=by
  rintro(_|s|s|_) hk
  ·rfl
  ·exact absurd hk (Nat.not_lt_zero s)
  ·exact absurd hk.2 (Nat.not_lt_zero s)
  ·exact hk.elim
 refine⟨fun _=>pe,fun _=>de,w.heap.size,q1,q2,rfl,hX.went bx,⟨Bk.new w _ _ _ rfl,fun s hs=>?_,fun s hs=>?_,fun s=>hA'.free s,fun s=>hB'.free s,hA'.lt,hB'.lt,⟨fun k hk=>?_,fun j k hj hk _=>(hi j hj).trans (hi k hk).symm,fun _ _ _ _=>hS.apart.symm⟩,fun k hk=>⟨by omega,e4,e5,e2,e3⟩,by omega,by omega,e1,ht,hn⟩,fun k hk=>h3,h1,h2⟩
 ·rw[if_neg (Nat.not_lt_zero s)];exact hA'.cell (Bt.zEv n s hs _)
 ·rw[if_neg (fun k=>Nat.not_lt_zero s k.2)];exact hB'.cell (Bt.zEv n s hs _)
 ·obtain rfl:=hi k hk;exact zFI hS bx
theorem LSt.fill1{W:World}{h:Sh}{G:Gram}{P D:Ix->Nat}{p q1 q2 t n a b:Nat}{V:Ix->Nat->Bool}{w w':World}(k:LSt W h G P D p q1 q2 t n a b V w)(ha:a<n)(hb:Below w.heap.size w w'){po d:Nat}{B:Nat->Bool}(hs:SetAt po d (t+1) B w')(hp:w.heap.size<=po)(hd:w.heap.size<=d):
  LSt W h G (updN P (.f a) po) (updN D (.f a) d) p q1 q2 t n (a+1) b (upd V (.f a) B) (w'.setCell ⟨q1,a,none⟩ (.pointer (some ⟨po,0,none⟩))):=by
 have hsz:=k.x.size;refine⟨zGI (k.x.went hb) ((Sep.Fr.refl (fun i=>i=q1) w').setCell ⟨q1,a,none⟩ rfl _) (fun i hi=>by have:=k.lq1;omega),k.s.fill1 ha hb hs hp hd,fun j hj=>?_,k.lq1,k.lq2⟩
 by_cases e:j=.f a
 ·subst e;rw[zAn];omega
 ·rw[zAT _ _ e];refine k.lo j ?_
  revert hj e
  rcases j with _|s|s|_
  ·exact fun _ _=>trivial
  ·intro hj e;have h1:s<a+1:=hj;have h2:s≠a:=fun e2=>e (by rw[e2])
   exact(show s<a by omega)
  ·exact fun hj _=>hj
  ·exact fun hj _=>hj
theorem LSt.fill2{W:World}{h:Sh}{G:Gram}{P D:Ix->Nat}{p q1 q2 t n a b:Nat}{V:Ix->Nat->Bool}{w w':World}(k:LSt W h G P D p q1 q2 t n a b V w)(hbn:b<n)(htb:t<b)(hb:Below w.heap.size w w'){po d:Nat}{B:Nat->Bool}(hs:SetAt po d (t+1) B w')(hp:w.heap.size<=po)(hd:w.heap.size<=d):
  LSt W h G (updN P (.g b) po) (updN D (.g b) d) p q1 q2 t n a (b+1) (upd V (.g b) B) (w'.setCell ⟨q2,b,none⟩ (.pointer (some ⟨po,0,none⟩))):=by
 have hsz:=k.x.size;refine⟨zGI (k.x.went hb) ((Sep.Fr.refl (fun i=>i=q2) w').setCell ⟨q2,b,none⟩ rfl _) (fun i hi=>by have:=k.lq2;omega),k.s.fill2 hbn htb hb hs hp hd,fun j hj=>?_,k.lq1,k.lq2⟩
 by_cases e:j=.g b
 ·subst e;rw[zAn];omega
 ·rw[zAT _ _ e];refine k.lo j ?_
  revert hj e
  rcases j with _|s|s|_
  ·exact fun _ _=>trivial
  ·exact fun hj _=>hj
  ·intro hj e;have h1:t<s/\s<b+1:=hj;have h2:s≠b:=fun e2=>e (by rw[e2])
   exact(show t<s/\s<b by omega)
  ·exact fun hj _=>hj
theorem LSt.skip2{W:World}{h:Sh}{G:Gram}{P D:Ix->Nat}{p q1 q2 t n a b:Nat}{V:Ix->Nat->Bool}{w:World}(k:LSt W h G P D p q1 q2 t n a b V w)(hb:b<=t):LSt W h G P D p q1 q2 t n a (b+1) V w:=by
 refine⟨k.x,k.s.skip2 hb,?_,k.lq1,k.lq2⟩;rintro(_|s|s|_) hj
 ·exact k.lo .e trivial
 ·exact k.lo (.f s) hj
 ·have h1:t<s/\s<b+1:=hj;omega
 ·exact hj.elim
theorem LSt.wrote{W:World}{h:Sh}{G:Gram}{P D:Ix->Nat}{p q1 q2 t n a b:Nat}{V:Ix->Nat->Bool}{w w':World}(l:LSt W h G P D p q1 q2 t n a b V w){k:Ix}(hk:Iab t a b k){B:Nat->Bool}(hs:SetAt (P k) (D k) (rm t n k) B w')(hK:Keeps (D k) w w'):LSt W h G P D p q1 q2 t n a b (upd V k B) w':=
 ⟨zGI l.x (S:=fun i=>i=D k) ⟨hK.os,hK.tape,hK.output,hK.size,fun i hi hb=>hK.block i hi hb⟩ (fun i hi=>by have:=l.lo k hk;omega),l.s.wrote hk hs hK,l.lo,l.lq1,l.lq2⟩
theorem LSt.eq{W:World}{h:Sh}{G:Gram}{P D:Ix->Nat}{p q1 q2 t n a b:Nat}{V U:Ix->Nat->Bool}{w:World}(l:LSt W h G P D p q1 q2 t n a b V w)(e:V=U):LSt W h G P D p q1 q2 t n a b U w:=e▸l
theorem zUh{G:Gram}{j:Nat}(h:G.terms.length<j):upd (V0 G) (.f j) no0=V0 G:=by
 have e:V0 G (.f j)=no0:=by
  funext i
  show decide ((j:Int)=(i:Int)/\0<=(j:Int)/\(j:Int)<=(G.terms.length:Int))=false;rw[decide_eq_false_iff_not];omega
 rw[←e,upd_same]
theorem zTX{G:Gram}{j:Nat}(h:j<=G.terms.length):upd (upd (V0 G) (.f j) no0) (.f j) (putI no0 (G.terms.length+1) (j:Int))=V0 G:=by
 have e:V0 G (.f j)=putI no0 (G.terms.length+1) (j:Int):=by
  unfold putI;rw[if_pos (by omega)]
  funext i
  show decide ((j:Int)=(i:Int)/\0<=(j:Int)/\(j:Int)<=(G.terms.length:Int))=(false||decide (i=(j:Int).toNat));rw[Bool.false_or,decide_eq_decide];omega
 rw[zOR,←e,upd_same]
theorem zUg{G:Gram}(j:Nat):upd (V0 G) (.g j) no0=V0 G:=by
 have e:V0 G (.g j)=no0:=rfl;rw[←e,upd_same]
theorem zQy{G:Gram}{s:Nat}(h:G.start=(s:Int)):upd (V0 G) (.g s) (putI no0 (G.terms.length+1) 0)=tv zGt (zCg G) (zCX G) no0:=by
 refine tv_g ?_ fun x hx=>?_
 ·unfold putI;rw[if_pos (by omega)]
  funext i
  show(false||decide (i=(0:Int).toNat))=decide ((s:Int)=G.start/\(i:Int)=0);rw[Bool.false_or,decide_eq_decide];omega
 ·funext i
  show decide (x=G.start/\i=0)=false;rw[decide_eq_false_iff_not];omega
end Fi
namespace Fi
open Gr
open Rw (Bk)
theorem zIZ{q:Nat}{a w:World}(h:Sep.Fr (fun b=>b=q) a w)(j:Nat)(u:Value):Sep.Fr (fun b=>b=q) a (w.setCell ⟨q,j,none⟩ u):=h.setCell ⟨q,j,none⟩ rfl u
def Started(G:Gram)(t n:Nat)(w:World)(e:Ending)(w':World):Prop:=
 ∃P D p q1 q2,e=.returned (.pointer (some ⟨p,0,none⟩))/\SAt (Iab t n n) P D p q1 q2 t n (tv zGt (zCg G) (zCX G) no0) w'/\(∀k,Iab t n n k->w.heap.size<=D k)/\Below w.heap.size w w'
def zU1(W:World)(h:Sh)(G:Gram)(p q1 q2 t n:Nat)(i:Value)(w:World):Prop:=
 ∃(j:Nat) (P D:Ix->Nat),j<=n/\i=.int .i64 j/\LSt W h G P D p q1 q2 t n j j (V0 G) w
theorem zN8(h:Sh)(G:Gram)(w:World)(k:GAt h G w)(hs:Sml G):
  Calls Tryz.prog 131 #[gv h G] w (Started G G.terms.length (top G+1) w):=by
 obtain⟨a1,c1,a2,c2,a3,c3⟩:=h;have X:=zVZ (Bx.start ⟨a1,c1,a2,c2,a3,c3⟩ G w 41);have T1:=zVZ (fun w1 (b:Below w.heap.size w w1)=>zB0 ⟨a1,c1,a2,c2,a3,c3⟩ G w1 (k.went b));obtain⟨x0,x1,x2,x3⟩:=X.out.box
 try dsimp only at x0 x1 x2 x3
 have ht:=hs.t;have hn:=hs.n;have TP:=zVZ (show top G=G.terms.length+G.nons.length from rfl);have htop:top G<=240:=by have:=TP.out;omega
 have HST:=zVZ (show nonB G G.start=true from by have:=hs.known;unfold zAs at this;rw[Bool.and_eq_true]at this;exact this.1);have HS:=zVZ (show∃s:Nat,G.start=(s:Int)/\G.terms.length<s/\s<top G+1 from⟨G.start.toNat,by have:=zAa.1 HST.out;omega,by have:=zAa.1 HST.out;omega,by have:=zAa.1 HST.out;have:=TP.out;omega⟩);have hcap:Bt.cap ((top G:Int)+1)=top G+1:=by unfold Bt.cap;omega
 have N:=zVZ (fun w1=>Bt.zGg ((top G:Int)+1) w1);rw[hcap]at N;have hm1:=fun w=>show(Instr.makeSlice 229 (.int .i64 ((top G:Int)+1)) (.int .i64 ((top G:Int)+1))).run Tryz.prog w= _ from zNI (top G+1) (by omega) w
 clear k hs hcap;unfold gv;dsimp only;go_enter Tryz.func131,Tryz.ntmps131;go_upto_region 2 with(go_at_call 107;refine(T1.out _ X.out.below).mono ?_;rintro e w2 ⟨rfl,hb⟩;have X2:=zVZ (X.out.went hb);clear hb x0 x1 x2 x3;obtain⟨x0,x1,x2,x3⟩:=X2.out.box;try dsimp only at x0 x1 x2 x3)
 go_cut [4] (fun s wx=>Mid w ⟨a1,c1,a2,c2,a3,c3⟩ G G.terms.length (top G+1) 0 0 (V0 G) s wx)
 case first=>
  have hq2:w.heap.size<w2.heap.size:=X2.out.size;have hbd:=drawn w2;have HQ:=zVZ (fun w' (b:Below w2.heap.size w2 w')=>And.intro (cell_later b x0) b)
  go_region_held3 (fun w'=>w'.cell? ⟨w.heap.size,0,none⟩=some (.slice a1 G.terms.length c1)/\Below w2.heap.size w2 w')
   (exact HQ.out _ (by repeat(first|assumption|(with_reducible exact Below.refl _ _)|(with_reducible refine Below.drew ?_)|(with_reducible refine Gr.step ?_ (Gr.boxed _ _)))))
   (first
    |(go_at_call 138;(with_reducible refine(N.out _).mono ?_);rintro e w3 ⟨pe,de,rfl,hpe,hde,hse,hb3,_⟩;have kB:Below w2.heap.size w2 w3:=Gr.step (by repeat(first|assumption|(with_reducible exact Below.refl _ _)|(with_reducible refine Below.drew ?_)|(with_reducible refine Gr.step ?_ (Gr.boxed _ _)))) hb3)
    |fail)
  all_goals
   go_wp2_with fail;go_meet
   case rel=>
    have htp:=TP.out;have hdr:∀u:World,u.drew.heap.size=u.heap.size:=fun _=>rfl
    have hsz1:=hse.inp;have hsz2:=hse.ind;have hsz3:=hb3.size;refine zUN (pe:=pe) (de:=de) (n:=top G+1) (?_) (?_) (?_) (?_) (?_) (?_) (?_) (?_) (?_) (?_) (?_) (?_) (?_) (?_) _ rfl _ (?_)
    ·repeat(first|exact Bk.new _ _ _ _ rfl|(refine Bk.new _ _ _ _ ?_;simp;done)|refine Bk.went ?_ (boxed _ _)|refine Bk.went ?_ hb3|refine Bk.went ?_ (drawn _))
    ·repeat(first|exact Bk.new _ _ _ _ rfl|(refine Bk.new _ _ _ _ ?_;simp;done)|refine Bk.went ?_ (boxed _ _)|refine Bk.went ?_ hb3|refine Bk.went ?_ (drawn _))
    ·repeat(first|exact hse|refine zFI ?_ (boxed _ _))
    ·repeat(first|exact X2.out|refine Bx.went ?_ (boxed _ _)|refine Bx.went ?_ hb3|refine Bx.went ?_ (drawn _))
    all_goals try rw[hdr]at hpe hde hsz3
    all_goals first|omega|(simp at hpe hde hsz1 hsz2 hsz3⊢<;>omega)
 case rest=>
  obtain⟨P,D,p,q1,q2,rfl,hL⟩:=hcut;have L0:=zVZ hL;clear hL X X2 T1 N hm1 x0 x1 x2 x3;go_wp2;go_loopw [23] (fun i wr=>zU1 w ⟨a1,c1,a2,c2,a3,c3⟩ G p q1 q2 G.terms.length (top G+1) i wr) (fun i _=>top G+1-(intOf i).toNat)
  case atStart=>exact⟨0,P,D,Nat.zero_le _,rfl,L0.out⟩
  case round=>
   clear L0 P D;obtain⟨j,P,D,hj,rfl,hL⟩:=hrel;have L:=zVZ hL;clear hL;obtain⟨y0,y1,y2,y3,y4⟩:=Bk.five L.out.s.box
   by_cases hlt:j<top G+1
   ·have TC:=zVZ (fun w1 (b:Below wr.heap.size wr w1)=>zKJ w1 (cell_later b y0) (by omega));have hbd:=drawn wr;have np:=L.out.s.n1;have HQ:=zVZ (fun w' (f:Sep.Fr (fun b=>b=q1) wr w')=>And.intro (f.cell y3 np) f);have hf0:Sep.Fr (fun b=>b=q1) wr wr.drew:=(Sep.Fr.refl _ _).drew;have NC:=zVZ (fun w1=>zRI G.terms.length (top G+1) (j:Int) w1 (by omega));have i0:(0:Int)<=(j:Int):=by omega
    have i1:(j:Int)<(top G:Int)+1:=by omega
    go_wp2
    go_region_held3 (fun w'=>w'.cell? ⟨p,3,none⟩=some (.slice (some ⟨q1,0,none⟩) (top G+1) (top G+1))/\Sep.Fr (fun b=>b=q1) wr w')
     (exact HQ.out _ (by repeat(first|assumption|(with_reducible exact Sep.Fr.refl _ _)|(with_reducible refine Sep.Fr.drew ?_)|(with_reducible refine Sep.Fr.alloc ?_ _)|(with_reducible refine zIZ ?_ _ _))))
     (first
      |(go_at_call 154;(with_reducible refine(TC.out _ (by repeat(first|assumption|(with_reducible exact Below.refl _ _)|(with_reducible refine Below.drew ?_)|(with_reducible refine Gr.step ?_ (Gr.boxed _ _))))).mono ?_);rintro e w3 ⟨pN,dN,rfl,hp3,hd3,hs3,hb3,_⟩;have kB:Below wr.heap.size wr w3:=Gr.step (by repeat(first|assumption|(with_reducible exact Below.refl _ _)|(with_reducible refine Below.drew ?_)|(with_reducible refine Gr.step ?_ (Gr.boxed _ _)))) hb3;have kF:Sep.Fr (fun b=>b=q1) wr w3:=Sep.Fr.of_below kB;have LS:=zVZ ((L.out.went (by repeat(first|assumption|(with_reducible exact Below.refl _ _)|(with_reducible refine Below.drew ?_)|(with_reducible refine Gr.step ?_ (Gr.boxed _ _))))).fill1 hlt hb3 hs3 hp3 hd3);have zf:=(L.out.went kB).s.free1;have z:=(L.out.went kB).s.firsts j hlt)
      |fail)
    clear y0 y1 y2 y3 y4 z zf HQ hf0 kF kB hp3 hd3 hs3 hb3 TC hbd;generalize w3.setCell ⟨q1,j,none⟩ (.pointer (some ⟨pN,0,none⟩))=w4 at*;obtain⟨y0,y1,y2,y3,y4⟩:=Bk.five LS.out.s.box
    by_cases hnt:G.terms.length<j
    ·have hnb:ntB G.terms.length (top G+1) (j:Int)=true:=decide_eq_true (by omega);rw[hnb]at NC;have L4:=zVZ (LS.out.eq (zUh hnt));clear LS hnb L;go_wp2_with (go_at_call 155;refine(NC.out _).mono ?_;rintro e w5 ⟨rfl,hb⟩;have L5:=zVZ (L4.out.went hb);clear hb y0 y1 y2 y3 y4;obtain⟨y0,y1,y2,y3,y4⟩:=Bk.five L5.out.s.box);clear L4;have TC:=zVZ (fun w1 (b:Below w5.heap.size w5 w1)=>zKJ w1 (cell_later b y0) (by omega));have hbd:=drawn w5;have np:=L5.out.s.n2;have HQ:=zVZ (fun w' (f:Sep.Fr (fun b=>b=q2) w5 w')=>And.intro (f.cell y4 np) f);have hf0:Sep.Fr (fun b=>b=q2) w5 w5.drew:=(Sep.Fr.refl _ _).drew
     go_region_held3 (fun w'=>w'.cell? ⟨p,4,none⟩=some (.slice (some ⟨q2,0,none⟩) (top G+1) (top G+1))/\Sep.Fr (fun b=>b=q2) w5 w')
      (exact HQ.out _ (by repeat(first|assumption|(with_reducible exact Sep.Fr.refl _ _)|(with_reducible refine Sep.Fr.drew ?_)|(with_reducible refine Sep.Fr.alloc ?_ _)|(with_reducible refine zIZ ?_ _ _))))
      (first
       |(go_at_call 154;(with_reducible refine(TC.out _ (by repeat(first|assumption|(with_reducible exact Below.refl _ _)|(with_reducible refine Below.drew ?_)|(with_reducible refine Gr.step ?_ (Gr.boxed _ _))))).mono ?_);rintro e w6 ⟨pM,dM,rfl,hp6,hd6,hs6,hb6,_⟩;have kB:Below w5.heap.size w5 w6:=Gr.step (by repeat(first|assumption|(with_reducible exact Below.refl _ _)|(with_reducible refine Below.drew ?_)|(with_reducible refine Gr.step ?_ (Gr.boxed _ _)))) hb6;have kF:Sep.Fr (fun b=>b=q2) w5 w6:=Sep.Fr.of_below kB;have LS:=zVZ ((L5.out.went (by repeat(first|assumption|(with_reducible exact Below.refl _ _)|(with_reducible refine Below.drew ?_)|(with_reducible refine Gr.step ?_ (Gr.boxed _ _))))).fill2 hlt hnt hb6 hs6 hp6 hd6);have zf:=(L5.out.went kB).s.free2;have z:=(L5.out.went kB).s.follows j hlt)
       |fail)
     have L7:=zVZ (LS.out.eq (zUg j));go_wp2;go_roundw
     case rel=>exact⟨j+1,_,_,by omega,by go_num,L7.out⟩
     case measure=>simp[intOf];omega
    ·have hnb:ntB G.terms.length (top G+1) (j:Int)=false:=decide_eq_false (by omega);rw[hnb]at NC;have L4:=zVZ (LS.out.skip2 (by omega));have hjt:j<=G.terms.length:=by omega
     clear LS hnb L;have PU:=zVZ (fun w1 (b:Below w4.heap.size w4 w1)=>Bt.zCd w1 ((L4.out.went b).s.fam.at_ (.f j) (Nat.lt_succ_self j)) (j:Int) (by omega));have z0:=L4.out.s.firsts j hlt;rw[if_pos (Nat.lt_succ_self j)]at z0;have Z0:=zVZ z0;clear z0;rw[zB2]at PU
     go_wp2_with (first
      |(go_at_call 155;refine(NC.out _).mono ?_;rintro e w5 ⟨rfl,hb⟩;have L5:=zVZ (L4.out.went hb);have z:=cell_later hb Z0.out;have PC:=zVZ (PU.out _ hb);clear hb y0 y1 y2 y3 y4;obtain⟨y0,y1,y2,y3,y4⟩:=Bk.five L5.out.s.box)
      | (go_at_call 139;refine PC.out.mono ?_;rintro e w6 ⟨rfl,hs6,hk6⟩;have L6:=zVZ (L5.out.wrote (k:=.f j) (Nat.lt_succ_self j) hs6 hk6);clear hs6 hk6))
     have L7:=zVZ (L6.out.eq (zTX hjt));go_roundw
     case rel=>exact⟨j+1,_,_,by omega,by go_num,L7.out⟩
     case measure=>simp[intOf];omega
   ·have hE:j=top G+1:=by omega
    subst hE;obtain⟨s,hs1,hs2,hs3⟩:=HS.out;obtain⟨x0,x1,x2,x3⟩:=L.out.x.box
    try dsimp only at x0 x1 x2 x3
    have EV:=zVZ (zQy hs1);have z:=L.out.s.follows s hs3;rw[if_pos ⟨hs2,hs3⟩]at z;have PU:=zVZ (fun w1 (b:Below wr.heap.size wr w1)=>Bt.zCd w1 ((L.out.went b).s.fam.at_ (.g s) ⟨hs2,hs3⟩) 0 (by omega));have HIg:=zVZ (show Iab G.terms.length (top G+1) (top G+1) (.g s)from⟨hs2,hs3⟩);have nd:=L.out.s.off (.g s) HIg.out;have ld:=L.out.lo (.g s) HIg.out;have nd1:=nd.1;have nd2:=nd.2.2.1;clear nd;rw[hs1]at x3;have i0:(0:Int)<=(s:Int):=by omega
    have i1:(s:Int)<(top G:Int)+1:=by omega
    have HQ:=zVZ (fun w' (f:Sep.Fr (fun b=>b=D (.g s)) wr w')=>And.intro (f.cell y4 (show¬p=D (.g s)from fun e=>nd1 e.symm)) (And.intro (f.cell x3 (show¬w.heap.size=D (.g s)by omega)) (And.intro (f.cell z (show¬q2=D (.g s)from fun e=>nd2 e.symm)) f)));have hf0:Sep.Fr (fun b=>b=D (.g s)) wr wr.drew:=(Sep.Fr.refl _ _).drew;have hbd:=drawn wr;go_wp2
    go_region_held3 (fun w'=>w'.cell? ⟨p,4,none⟩=some (.slice (some ⟨q2,0,none⟩) (top G+1) (top G+1))/\w'.cell? ⟨w.heap.size,3,none⟩=some (.int .i64 (s:Int))/\w'.cell? ⟨q2,s,none⟩=some (.pointer (some ⟨P (.g s),0,none⟩))/\Sep.Fr (fun b=>b=D (.g s)) wr w')
     (exact HQ.out _ (by repeat(first|assumption|(with_reducible exact Sep.Fr.refl _ _)|(with_reducible refine Sep.Fr.drew ?_)|(with_reducible refine Sep.Fr.alloc ?_ _)|(with_reducible refine zIZ ?_ _ _))))
     (first
      |(go_at_call 139;(with_reducible refine(PU.out _ (by repeat(first|assumption|(with_reducible exact Below.refl _ _)|(with_reducible refine Below.drew ?_)|(with_reducible refine Gr.step ?_ (Gr.boxed _ _))))).mono ?_);rintro e w6 ⟨rfl,hs6,hk6⟩;have L6:=zVZ ((L.out.went (by repeat(first|assumption|(with_reducible exact Below.refl _ _)|(with_reducible refine Below.drew ?_)|(with_reducible refine Gr.step ?_ (Gr.boxed _ _))))).wrote (k:=.g s) HIg.out hs6 hk6);have kF:Sep.Fr (fun b=>b=D (.g s)) wr w6:=hf0.trans ⟨hk6.os,hk6.tape,hk6.output,hk6.size,fun i hi hb=>hk6.block i hi hb⟩ (fun _ h=> .inl h);clear hs6 hk6)
      |fail)
    have L7:=zVZ (L6.out.eq EV.out);go_wp2;go_ret;exact⟨P,D,p,q1,q2,rfl,L7.out.s.full,fun k hk=>Nat.le_of_lt (L7.out.lo k hk),L7.out.x.below⟩
