/- Proof. -/
import Derived.Test.YtegeamggbglneaaGreatDoorPk27
import Derived.Test.YtegeamggbglneaaGreatDoorPk26
set_option maxHeartbeats 16000000
set_option maxRecDepth 100000
set_option linter.unusedVariables false
namespace Go.Proofs.YtegeamggbglneaaGreatDoor
open Go.RowKit Go.Maps
namespace Fi
open Bt (az aO cO)
open Rw (Bk)
inductive Ix:Type
 |e:Ix
 |f:Nat->Ix
 |g:Nat->Ix
 |o:Ix
structure fY (I:Ix->Prop) (P D:Ix->Nat) (R:Ix->Nat) (V:Ix->Nat->Bool) (w:World):Prop where
 at_:∀k,I k->az (P k) (D k) (R k) (V k) w
 inj:∀j k,I j->I k->D j=D k->j=k
 off:∀j k,I j->I k->D j≠P k
theorem M3{p d n}{B}{w w'}(h:az p d n B w)(hb:Below w.heap.size w w'):az p d n B w':=h.below hb h.inp h.ind
theorem fY.went{I}{P D R}{V}{w w'}(h:fY I P D R V w)(hb:Below w.heap.size w w'):fY I P D R V w':=⟨fun k hk=>M3 (h.at_ k hk) hb,h.inj,h.off⟩
open Classical in
noncomputable def upd(V:Ix->Nat->Bool)(k:Ix)(B:Nat->Bool):Ix->Nat->Bool:=fun j=>if j=k then B else V j
theorem sJ(V)(k)(B):upd V k B k=B:=by unfold upd;rw[if_pos rfl]
theorem lh(V){j k}(B)(h:j≠k):upd V k B j=V j:=by unfold upd;rw[if_neg h]
theorem upd_same(V)(k):upd V k (V k)=V:=by
 funext j
 by_cases h:j=k
 ·subst h;rw[sJ]
 ·rw[lh _ _ h]
theorem Yp(V)(k)(B C):upd (upd V k B) k C=upd V k C:=by
 funext j
 by_cases h:j=k
 ·subst h;rw[sJ,sJ]
 ·rw[lh _ _ h,lh _ _ h,lh _ _ h]
theorem fY.wrote{I}{P D R}{V}{w w'}(h:fY I P D R V w){k}(hk:I k){B}(hs:az (P k) (D k) (R k) B w')(hK:aO (D k) w w'):fY I P D R (upd V k B) w':=by
 refine⟨fun j hj=>?_,h.inj,h.off⟩
 by_cases e:j=k
 ·subst e;rw[sJ];exact hs
 ·rw[lh _ _ e];exact(h.at_ j hj).keeps hK (fun e2=>h.off k j hk hj e2.symm) (fun e2=>e (h.inj j k hj hk e2))
theorem fY.other{I}{P D R}{V}{w}(h:fY I P D R V w){j k}(hk:I k)(hj:I j)(hne:j≠k):cO (D k) (.pointer (some ⟨P j,0,none⟩)) (R j) (V j) w:=
 .at_ (h.at_ j hj) (fun e=>h.off k j hk hj e.symm) (fun e=>hne (h.inj j k hj hk e))
def rm(t n:Nat):Ix->Nat
 | .e=>n
 |_=>t+1
structure cP (I:Ix->Prop) (P D:Ix->Nat) (p q1 q2 t n:Nat) (V:Ix->Nat->Bool) (w:World):Prop where
 box:Bk p #[.int .i64 (t:Int),.int .i64 (n:Int),.pointer (some ⟨P .e,0,none⟩),.slice (some ⟨q1,0,none⟩) n n,.slice (some ⟨q2,0,none⟩) n n] 258 w
 bN:∀s,s<n->w.cell? ⟨q1,s,none⟩=some (.pointer (some ⟨P (.f s),0,none⟩))
 follows:∀s,s<n->w.cell? ⟨q2,s,none⟩=some (if t<s then .pointer (some ⟨P (.g s),0,none⟩)else .pointer none)
 dG:fY I P D (rm t n) V w
 off:∀k,I k->D k≠p/\D k≠q1/\D k≠q2
 ie:I .e
 vJ:∀s,s<n->I (.f s)
 ig:∀s,t<s->s<n->I (.g s)
 tn:t<n
 n4:n<=4000
theorem cP.went{I}{P D}{p q1 q2 t n}{V}{w w'}(h:cP I P D p q1 q2 t n V w)(hb:Below w.heap.size w w'):cP I P D p q1 q2 t n V w':=
 ⟨h.box.went hb,fun s hs=>Gr.cell_later hb (h.bN s hs),fun s hs=>Gr.cell_later hb (h.follows s hs),h.dG.went hb,h.off,h.ie,h.vJ,h.ig,h.tn,h.n4⟩
theorem cP.wrote{I}{P D}{p q1 q2 t n}{V}{w w'}(h:cP I P D p q1 q2 t n V w){k}(hk:I k){B}(hs:az (P k) (D k) (rm t n k) B w')(hK:aO (D k) w w'):cP I P D p q1 q2 t n (upd V k B) w':=by
 have ho:=h.off k hk;have hF:Sep.Fr (fun b=>b=D k) w w':=⟨hK.os,hK.tape,hK.output,hK.size,fun i hi hb=>hK.block i hi hb⟩;exact⟨h.box.fr hF (fun e=>ho.1 e.symm),fun s hs=>hF.cell (h.bN s hs) (fun e=>ho.2.1 e.symm),fun s hs=>hF.cell (h.follows s hs) (fun e=>ho.2.2 e.symm),h.dG.wrote hk hs hK,h.off,h.ie,h.vJ,h.ig,h.tn,h.n4⟩
def tv(C:Int->Bool)(F B:Int->Int->Bool)(O:Nat->Bool):Ix->Nat->Bool
 | .e=>cF C
 | .f s=>cF (F (s:Int))
 | .g s=>cF (B (s:Int))
 | .o=>O
structure jZ (t n:Nat) (C:Int->Bool) (F B:Int->Int->Bool):Prop where
 c:lV C n
 f1:∀x,lV (F x) (t+1)
 f2:∀x i,F x i=true->0<=x/\x<(n:Int)
 b1:∀x,lV (B x) (t+1)
 b2:∀x i,B x i=true->(t:Int)<x/\x<(n:Int)
theorem Mh{C D}{F B}{O}{V}(h:V=cF D):upd (tv C F B O) .e V=tv D F B O:=by
 funext j
 cases j with
 |e=>rw[sJ,h];rfl
 |f s=>rw[lh _ _ (by intro h;cases h)];rfl
 |g s=>rw[lh _ _ (by intro h;cases h)];rfl
 |o=>rw[lh _ _ (by intro h;cases h)];rfl
theorem Mi{C}{F H B}{O}{V}{s:Nat}(h:V=cF (H (s:Int)))(ho:∀x:Int,x≠(s:Int)->H x=F x):upd (tv C F B O) (.f s) V=tv C H B O:=by
 funext j
 cases j with
 |e=>rw[lh _ _ (by intro h;cases h)];rfl
 |f k=>
  by_cases e:k=s
  ·subst e;rw[sJ,h];rfl
  ·rw[lh _ _ (by intro h;injection h with h;exact e h)];show cF (F (k:Int))=cF (H (k:Int));rw[ho _ (by omega)]
 |g s=>rw[lh _ _ (by intro h;cases h)];rfl
 |o=>rw[lh _ _ (by intro h;cases h)];rfl
theorem Dw{C}{F B H}{O}{V}{s:Nat}(h:V=cF (H (s:Int)))(ho:∀x:Int,x≠(s:Int)->H x=B x):upd (tv C F B O) (.g s) V=tv C F H O:=by
 funext j
 cases j with
 |e=>rw[lh _ _ (by intro h;cases h)];rfl
 |f s=>rw[lh _ _ (by intro h;cases h)];rfl
 |g k=>
  by_cases e:k=s
  ·subst e;rw[sJ,h];rfl
  ·rw[lh _ _ (by intro h;injection h with h;exact e h)];show cF (B (k:Int))=cF (H (k:Int));rw[ho _ (by omega)]
 |o=>rw[lh _ _ (by intro h;cases h)];rfl
theorem cP.more{I}{P D}{p q1 q2 t n}{C}{F B}{O}{w w'}(h:cP I P D p q1 q2 t n (tv C F B O) w)(hI:¬I .o)(hb:Below w.heap.size w w'){po d}{N}(hs:az po d (t+1) N w')(hp:w.heap.size<=po)(hd:w.heap.size<=d):
  ∃I' P' D',cP I' P' D' p q1 q2 t n (tv C F B N) w'/\I' .o/\P' .o=po/\D' .o=d:=by
 have hq1:q1<w.heap.size:=World.block_lt_of_cell? w ⟨q1,0,none⟩ (h.bN 0 (by have:=h.tn;omega));have hq2:q2<w.heap.size:=World.block_lt_of_cell? w ⟨q2,0,none⟩ (h.follows 0 (by have:=h.tn;omega));have hp0:=h.box.lt;refine⟨fun k=>I k\/k=.o,fun k=>match k with| .o=>po|k=>P k,fun k=>match k with| .o=>d|k=>D k,⟨(h.went hb).box,?_,?_,⟨?_,?_,?_⟩,?_,.inl h.ie,fun s hs=> .inl (h.vJ s hs),fun s h1 h2=> .inl (h.ig s h1 h2),h.tn,h.n4⟩,.inr rfl,rfl,rfl⟩
 ·exact(h.went hb).bN
 ·exact(h.went hb).follows
 ·rintro(_|s|s|_) hk
  ·exact(h.went hb).dG.at_ .e h.ie
  ·rcases hk with hk|hk
   ·exact(h.went hb).dG.at_ (.f s) hk
   ·cases hk
  ·rcases hk with hk|hk
   ·exact(h.went hb).dG.at_ (.g s) hk
   ·cases hk
  ·exact hs
 ·have key:∀j,I j->D j≠d:=fun j hj e=>by have:=(h.dG.at_ j hj).ind;omega
  rintro(_|s|s|_) (_|s'|s'|_) hj hk he
  all_goals first
   |rfl
   |exact absurd he (key _ (by rcases hj with hj|hj<;>first|exact hj|cases hj))
   |exact absurd he.symm (key _ (by rcases hk with hk|hk<;>first|exact hk|cases hk))
   |exact h.dG.inj _ _ (by rcases hj with hj|hj<;>first|exact hj|cases hj) (by rcases hk with hk|hk<;>first|exact hk|cases hk) he
 ·have k1:∀j,I j->D j≠po:=fun j hj e=>by have:=(h.dG.at_ j hj).ind;omega
  have k2:∀j,I j->d≠P j:=fun j hj e=>by have:=(h.dG.at_ j hj).inp;omega
  rintro(_|s|s|_) (_|s'|s'|_) hj hk
  all_goals first
   |exact hs.apart.symm
   |exact k1 _ (by rcases hj with hj|hj<;>first|exact hj|cases hj)
   |exact k2 _ (by rcases hk with hk|hk<;>first|exact hk|cases hk)
   |exact h.dG.off _ _ (by rcases hj with hj|hj<;>first|exact hj|cases hj) (by rcases hk with hk|hk<;>first|exact hk|cases hk)
 ·rintro(_|s|s|_) hk
  ·exact h.off .e h.ie
  ·rcases hk with hk|hk
   ·exact h.off _ hk
   ·cases hk
  ·rcases hk with hk|hk
   ·exact h.off _ hk
   ·cases hk
  ·show d≠p/\d≠q1/\d≠q2;omega
def VS(nl:Bool)(I:Ix->Prop)(P D:Ix->Nat)(v:Value)(t n:Nat)(C:Int->Bool)(F B:Int->Int->Bool)(O:Nat->Bool)(w:World):Prop:=
 (nl=true/\v=.pointer none/\C=(fun _=>false)/\F=(fun _ _=>false)/\B=(fun _ _=>false))\/(nl=false/\∃p q1 q2,v=.pointer (some ⟨p,0,none⟩)/\cP I P D p q1 q2 t n (tv C F B O) w)
theorem VS.went{nl}{I}{P D}{v}{t n}{C}{F B}{O}{w w'}(h:VS nl I P D v t n C F B O w)(hb:Below w.heap.size w w'):VS nl I P D v t n C F B O w':=by
 rcases h with h|⟨h1,p,q1,q2,h2,h3⟩
 ·exact .inl h
 ·exact .inr ⟨h1,p,q1,q2,h2,h3.went hb⟩
end Fi
namespace Fi
open Gr (Is boxed cell_later aU)
open Bt (has)
open Rw (Bk)
theorem Bk.five{q}{a b c d e}{T}{w}(h:Bk q #[a,b,c,d,e] T w):w.cell? ⟨q,0,none⟩=some a/\w.cell? ⟨q,1,none⟩=some b/\w.cell? ⟨q,2,none⟩=some c/\w.cell? ⟨q,3,none⟩=some d/\w.cell? ⟨q,4,none⟩=some e:=
 ⟨h.cell rfl,h.cell rfl,h.cell rfl,h.cell rfl,h.cell rfl⟩
def gY(n:Nat)(x:Int):Bool:=decide (0<=x/\x<(n:Int))
def zD(t n:Nat)(x:Int):Bool:=decide ((t:Int)<x/\x<(n:Int))
theorem zMA(t n:Nat)(x)(w)(hn:n<=4000):
  Calls Tryz.prog 221 #[.agg #[.int .i64 (t:Int),.int .i64 (n:Int)],.int .i64 x] w (Is (.bool (gY n x)) w):=by
 go_enter Tryz.func221,Tryz.ntmps221;go_wp2
 all_goals
  go_ret;refine⟨aU ?_,boxed _ _⟩;go_light;unfold gY
  first|(rw[decide_eq_true_iff];omega)|(rw[decide_eq_false_iff_not];omega)|(rw[Bool.eq_iff_iff];simp only[decide_eq_true_eq];omega)
theorem YN(t n:Nat)(x)(w)(hn:n<=4000):
  Calls Tryz.prog 182 #[.agg #[.int .i64 (t:Int),.int .i64 (n:Int)],.int .i64 x] w (Is (.bool (zD t n x)) w):=by
 go_enter Tryz.func182,Tryz.ntmps182;go_wp2
 all_goals
  go_ret;refine⟨aU ?_,boxed _ _⟩;go_light;unfold zD
  first|(rw[decide_eq_true_iff];omega)|(rw[decide_eq_false_iff_not];omega)|(rw[Bool.eq_iff_iff];simp only[decide_eq_true_eq];omega)
def fE(P:Ix->Nat)(n:Nat)(x:Int):Value:=if 0<=x/\x<(n:Int)then .pointer (some ⟨P (.f x.toNat),0,none⟩)else .pointer none
def iQ(P:Ix->Nat)(t n:Nat)(x:Int):Value:=if(t:Int)<x/\x<(n:Int)then .pointer (some ⟨P (.g x.toNat),0,none⟩)else .pointer none
theorem Nl{I}{P D}{p q1 q2 t n}{V}(w)(h:cP I P D p q1 q2 t n V w)(x):
  Calls Tryz.prog 185 #[.pointer (some ⟨p,0,none⟩),.int .i64 x] w (Is (fE P n x) w):=by
 have H:=af h;have S:=af (fun w1=>zMA t n x w1 h.n4);have h4:=h.n4;obtain⟨x0,x1,x2,x3,x4⟩:=Bk.five h.box;clear h
 by_cases hx:0<=x/\x<(n:Int)
 ·have e:gY n x=true:=decide_eq_true hx;obtain⟨s,rfl⟩:∃s:Nat,x=(s:Int):=⟨x.toNat,by omega⟩;have EF:=af (show fE P n (s:Int)=.pointer (some ⟨P (.f s),0,none⟩)by unfold fE;rw[if_pos hx];rfl);have hs:s<n:=by omega
  rw[e]at S;clear e;go_enter Tryz.func185,Tryz.ntmps185;go_wp2_with (go_at_call 221;refine(S.out _).mono ?_;rintro e w1 ⟨rfl,hb⟩;have HB:=af hb;have y3:=cell_later hb x3;have z:=cell_later hb (H.out.bN s hs);clear hb x0 x1 x2 x3 x4);go_ret;rw[EF.out];exact⟨rfl,HB.out⟩
 ·have e:gY n x=false:=decide_eq_false hx;have EF:=af (show fE P n x=.pointer none by unfold fE;rw[if_neg hx]);rw[e]at S;clear e hx;go_enter Tryz.func185,Tryz.ntmps185;go_wp2_with (go_at_call 221;refine(S.out _).mono ?_;rintro e w1 ⟨rfl,hb⟩;have HB:=af hb;clear hb);go_ret;rw[EF.out];exact⟨rfl,HB.out⟩
theorem zNE{I}{P D}{p q1 q2 t n}{V}(w)(h:cP I P D p q1 q2 t n V w)(x):
  Calls Tryz.prog 186 #[.pointer (some ⟨p,0,none⟩),.int .i64 x] w (Is (iQ P t n x) w):=by
 have H:=af h;have S:=af (fun w1=>YN t n x w1 h.n4);have h4:=h.n4;obtain⟨x0,x1,x2,x3,x4⟩:=Bk.five h.box;clear h
 by_cases hx:(t:Int)<x/\x<(n:Int)
 ·have e:zD t n x=true:=decide_eq_true hx;obtain⟨s,rfl⟩:∃s:Nat,x=(s:Int):=⟨x.toNat,by omega⟩;have EF:=af (show iQ P t n (s:Int)=.pointer (some ⟨P (.g s),0,none⟩)by unfold iQ;rw[if_pos hx];rfl);have hs:s<n:=by omega
  have hz:=H.out.follows s hs;rw[if_pos (by omega)]at hz;have HZ:=af hz;rw[e]at S;clear e hz;go_enter Tryz.func186,Tryz.ntmps186;go_wp2_with (go_at_call 182;refine(S.out _).mono ?_;rintro e w1 ⟨rfl,hb⟩;have HB:=af hb;have y3:=cell_later hb x4;have z:=cell_later hb HZ.out;clear hb x0 x1 x2 x3 x4);go_ret;rw[EF.out];exact⟨rfl,HB.out⟩
 ·have e:zD t n x=false:=decide_eq_false hx;have EF:=af (show iQ P t n x=.pointer none by unfold iQ;rw[if_neg hx]);rw[e]at S;clear e hx;go_enter Tryz.func186,Tryz.ntmps186;go_wp2_with (go_at_call 182;refine(S.out _).mono ?_;rintro e w1 ⟨rfl,hb⟩;have HB:=af hb;clear hb);go_ret;rw[EF.out];exact⟨rfl,HB.out⟩
theorem NJ(w)(m):Below w.heap.size w (w.drewN m):=⟨rfl,rfl,rfl,Nat.le_refl _,fun _ _=>rfl⟩
theorem zP3{I}{P D}{p q1 q2 t n}{C}{F B}{O}(w)(h:cP I P D p q1 q2 t n (tv C F B O) w)(hC:lV C n)(x)(hx:x<=9223372036854775807):
  Calls Tryz.prog 220 #[.pointer (some ⟨p,0,none⟩),.int .i64 x] w (Is (.bool (C x)) w):=by
 have H:=af (Bt.Xx w (.at_ (h.dG.at_ .e h.ie)) x hx);rw[show has (tv C F B O .e) x=C x from zVI hC x]at H;obtain⟨x0,x1,x2,x3,x4⟩:=Bk.five h.box;clear h;go_enter Tryz.func220,Tryz.ntmps220;go_wp2_with (go_at_call 191;refine H.out.mono ?_;rintro e w1 ⟨rfl,m,rfl⟩);go_ret;exact⟨rfl,NJ _ _⟩
theorem zRx{I}{P D}{p q1 q2 t n}{V}(w)(h:cP I P D p q1 q2 t n V w):
  Calls Tryz.prog 181 #[.pointer (some ⟨p,0,none⟩)] w (Bt.Made (t+1) w):=by
 have hcap:Bt.cap ((t:Int)+1)=t+1:=by have:=h.tn;have:=h.n4;unfold Bt.cap;omega
 have N:=af (Bt.H7 ((t:Int)+1) w);rw[hcap]at N;have ht:=h.tn;have h4:=h.n4;obtain⟨x0,x1,x2,x3,x4⟩:=Bk.five h.box;clear h hcap;go_enter Tryz.func181,Tryz.ntmps181;go_wp2_with (go_at_call 165;refine N.out.mono ?_;rintro e w2 ⟨p,d,rfl,hM⟩;have M:=af hM;clear hM);go_ret;exact⟨p,d,rfl,M.out⟩
end Fi
namespace Fi
open Gr (step aN wN)
structure eT (L:List Int) (c:Nat):Prop where
 fit:∀x∈L,x<=9223372036854775807
 len:L.length<=17592186044416
 cap:L.length<=c
theorem eT.at{L}{c}(h:eT L c){k}(hk:k<L.length):L[k]<=9223372036854775807:=h.fit _ (List.getElem_mem hk)
def yL(C:Int->Bool)(L:List Int)(a:Option Addr)(c:Nat)(w:World)(e:Ending)(w':World):Prop:=
 e=.returned (.tuple #[.slice a (iL C L) c,.bool (bC C L)])/\Below w.heap.size w w'
def zWB(C:Int->Bool)(L:List Int)(W:World)(i:Value)(w:World):Prop:=
 ∃k:Nat,k<=L.length/\i=.int .i64 k/\(∀j (h:j<L.length),j<k->C L[j]=true)/\Below W.heap.size W w
theorem sj{I:Ix->Prop}{P D:Ix->Nat}{p q1 q2 t n:Nat}{C:Int->Bool}{F B:Int->Int->Bool}{O:Nat->Bool}(w:World)(h:cP I P D p q1 q2 t n (tv C F B O) w)(hC:lV C n)(L:List Int)(a:Option Addr)(c:Nat)(hR:Sep.Reads a (aN L) w)(hL:eT L c):
  Calls Tryz.prog 183 #[.pointer (some ⟨p,0,none⟩),.slice a L.length c] w (yL C L a c w):=by
 have EM:=af (fun x hx w1 (b:Below w.heap.size w w1)=>zP3 w1 (h.went b) hC x hx);have RR:=af (fun w1 (b:Below w.heap.size w w1)=>Sep.Reads.below hR b (Nat.le_refl _));have LO:=af hL;have hl:=hL.len;have hcap:=hL.cap;clear h hR hL hC;go_enter Tryz.func183,Tryz.ntmps183;go_wp2;go_loopw [10] (fun i wr=>zWB C L w i wr) (fun i _=>L.length-(intOf i).toNat)
 case atStart=>exact⟨0,Nat.zero_le _,rfl,(fun j _ hj=>absurd hj (by omega)),.refl _ _⟩
 case round=>
  obtain⟨k,hk,rfl,hP,hb⟩:=hrel;have B:=af hb;have PP:=af hP;clear hb hP
  by_cases hlt:k<L.length
  ·obtain⟨b,o,rfl,hc⟩:=wN (RR.out _ B.out) hlt;have E1:=af (EM.out L[k] (LO.out.at hlt) _ B.out);cases hz:C L[k]with
   |true=>
    have P2:=af (show∀j (h:j<L.length),j<k+1->C L[j]=true from fun j h hj=>by
     by_cases e:j=k
     ·subst e;exact hz
     ·exact PP.out j h (by omega))
    rw[hz]at E1;clear hz;generalize L[k]=s at*;go_wp2_with (go_at_call 220;refine E1.out.mono ?_;rintro e w1 ⟨rfl,hb⟩;have B1:=af (Gr.step B.out hb);clear hb);go_roundw
    case rel=>exact⟨k+1,by omega,by go_num,P2.out,B1.out⟩
    case measure=>simp[intOf];omega
   |false=>
    obtain⟨h1,h2⟩:=U8 hlt PP.out hz;have H1:=af h1;have H2:=af h2;rw[hz]at E1;clear hz h1 h2;generalize L[k]=s at*;go_wp2_with (go_at_call 220;refine E1.out.mono ?_;rintro e w1 ⟨rfl,hb⟩;have B1:=af (Gr.step B.out hb);clear hb);go_ret2;refine⟨?_,B1.out⟩;rw[H1.out,H2.out]
    first|rfl|(congr 1;omega)
  ·obtain⟨h1,h2⟩:=U7 (C:=C) (l:=L) fun j hj=>PP.out j hj (by omega)
   have H1:=af h1;have H2:=af h2;clear h1 h2;go_wp2;go_ret2;refine⟨?_,B.out⟩;rw[H1.out,H2.out]
   rfl
end Fi
namespace Fi
open Gr (Is step aN wN)
open Bt (az aO cO gains)
theorem Ng{d}{w w'}(h:Below w.heap.size w w'):aO d w w':=⟨h.os,h.tape,h.output,h.size,fun k hk _=>h.block k hk⟩
theorem TE{W0 w w'}{d}(h:Below W0.heap.size W0 w)(hd:W0.heap.size<=d)(k:aO d w w'):Below W0.heap.size W0 w':=h.trans (k.below hd h.size)
def Xj(p d m:Nat)(V:Nat->Bool)(F:Int->Int->Bool)(X:List Int)(w:World)(e:Ending)(w':World):Prop:=
 ∃b,e=.returned (.bool b)/\Gn V F X b/\az p d m (jn V F X) w'/\aO d w w'
def zWD(I:Ix->Prop)(P D:Ix->Nat)(p q1 q2 t n:Nat)(T:Ix->Nat->Bool)(F:Int->Int->Bool)(k:Ix)(X:List Int)(W:World)(m i:Value)(w:World):Prop:=
 ∃(j:Nat) (b:Bool),j<=X.length/\i=.int .i64 j/\m=.bool b/\Gn (T k) F (X.take j) b/\cP I P D p q1 q2 t n (upd T k (jn (T k) F (X.take j))) w/\aO (D k) W w
theorem zPH{X:List Int}{j}(h):X.take (j+1)=X.take j++[X[j]]:=by rw[List.take_succ_eq_append_getElem h]
theorem zUO{F:Int->Int->Bool}{n:Nat}(h2:∀x i,F x i=true->0<=x/\x<(n:Int)){y}(hy:¬(0<=y/\y<(n:Int))):cF (F y)=fun _=>false:=by
 funext i
 unfold cF;cases e:F y (i:Int)with
 |false=>rfl
 |true=>exact absurd (h2 _ _ e) hy
theorem cP.yg{I}{P D}{p q1 q2 t n}{C}{F B}{O V}{k}{w}(h:cP I P D p q1 q2 t n (upd (tv C F B O) k V) w)(hk:I k)(h2:∀x i,F x i=true->0<=x/\x<(n:Int))(y)(hne:0<=y->y<(n:Int)->k≠.f y.toNat):
  ∃m,cO (D k) (fE P n y) m (cF (F y)) w:=by
 unfold fE
 by_cases hy:0<=y/\y<(n:Int)
 ·rw[if_pos hy];replace hne:=hne hy.1 hy.2;have:=h.dG.other hk (h.vJ y.toNat (by omega)) (fun e=>hne e.symm);rw[lh _ _ (fun e=>hne e.symm)]at this;refine⟨t+1,?_⟩;have e:((y.toNat:Nat):Int)=y:=by omega
  have e2:tv C F B O (.f y.toNat)=cF (F y):=by show cF (F ((y.toNat:Nat):Int))= _;rw[e]
  rw[e2]at this;exact this
 ·rw[if_neg hy,zUO h2 hy];exact⟨0,.nil _⟩
theorem cP.lg{I}{P D}{p q1 q2 t n}{T}{V B}{k}{w w'}(h:cP I P D p q1 q2 t n (upd T k V) w)(hk:I k)(hm:rm t n k=t+1)(hs:az (P k) (D k) (t+1) B w')(hK:aO (D k) w w'):cP I P D p q1 q2 t n (upd T k B) w':=by
 have:=h.wrote hk (B:=B) (by rw[hm];exact hs) hK
 rwa [Yp]at this
theorem cP.target{I}{P D}{p q1 q2 t n}{T}{V}{k}{w}(h:cP I P D p q1 q2 t n (upd T k V) w)(hk:I k)(hm:rm t n k=t+1):az (P k) (D k) (t+1) V w:=by
 have:=h.dG.at_ k hk
 rw[sJ,hm]at this;exact this
theorem NY{I:Ix->Prop}{P D:Ix->Nat}{p q1 q2 t n:Nat}{C:Int->Bool}{F B:Int->Int->Bool}{O:Nat->Bool}(W0 w:World)(h:cP I P D p q1 q2 t n (tv C F B O) w)(hT:jZ t n C F B)(k:Ix)(hk:I k)(hm:rm t n k=t+1)(hb0:Below W0.heap.size W0 w)(hd:W0.heap.size<=D k)
  (X:List Int) (a:Option Addr) (c:Nat) (hR:Sep.Reads a (aN X) W0) (hL:eT X c):
  Calls Tryz.prog 184 #[.pointer (some ⟨p,0,none⟩),.pointer (some ⟨P k,0,none⟩),.slice a X.length c] w (Xj (P k) (D k) (t+1) (tv C F B O k) F X w):=by
 have FI:=af (fun T w1 (b:cP I P D p q1 q2 t n T w1) x=>Nl w1 b x);have RR:=af (fun w1 (b:Below W0.heap.size W0 w1)=>Sep.Reads.below hR b (Nat.le_refl _));have HK:=af hk;have HM:=af hm;have HD:=af hd;have TO:=af hT;have B0:=af hb0;have S0:=af (show cP I P D p q1 q2 t n (upd (tv C F B O) k (jn (tv C F B O k) F (X.take 0))) w by rw[List.take_zero,zVK,upd_same];exact h);have G0:=af (show Gn (tv C F B O k) F (X.take 0) false from by rw[List.take_zero];exact zVF _ _);have LO:=af hL;have hl:=hL.len;have hcap:=hL.cap
 have xg:=af (show∀y:Int,0<=y->k=.f y.toNat->tv C F B O k=cF (F y)/\fE P n y=fE P n y from fun y hy e=>by
  subst e;refine⟨?_,rfl⟩;show cF (F ((y.toNat:Nat):Int))= _
  rw[show((y.toNat:Nat):Int)=y from by omega])
 clear h hR hL hT hk hm hb0 hd;go_enter Tryz.func184,Tryz.ntmps184;go_wp2;go_loopw [7,12] (fun m i wr=>zWD I P D p q1 q2 t n (tv C F B O) F k X w m i wr) (fun _ i _=>X.length-(intOf i).toNat)
 case atStart=>exact⟨0,false,Nat.zero_le _,rfl,rfl,G0.out,S0.out,.refl _ _⟩
 case round=>
  clear S0 G0;obtain⟨j,b,hj,rfl,rfl,hG,hS,oX⟩:=hrel;have GG:=af hG;have S:=af hS;have KP:=af oX;clear hG hS oX
  by_cases hlt:j<X.length
  ·obtain⟨bb,o,rfl,hc⟩:=wN (RR.out _ (TE B0.out HD.out KP.out)) hlt;have TN:=af (zPH hlt);have FC:=af (FI.out _ _ S.out X[j]);have hfy:=LO.out.at hlt
   by_cases qF:0<=X[j]/\X[j]<(n:Int)/\k=.f X[j].toNat
   ·obtain⟨hs0,hs1,hs2⟩:=qF;have E1:=(xg.out X[j] hs0 hs2).1;have EP:=af (show fE P n X[j]=.pointer (some ⟨P k,0,none⟩)by unfold fE;rw[if_pos ⟨hs0,hs1⟩,hs2]);have GN:=af (show Gn (tv C F B O k) F (X.take (j+1)) b by rw[TN.out];exact zTQ (fun i hi=>by rw[E1];exact hi) GG.out)
    have SN:=af (show∀w',cP I P D p q1 q2 t n (upd (tv C F B O) k (jn (tv C F B O k) F (X.take j))) w'->cP I P D p q1 q2 t n (upd (tv C F B O) k (jn (tv C F B O k) F (X.take (j+1)))) w' from fun w' h=>by
     rw[TN.out,←zTg (X.take j) E1]
     exact h)
    have OS:=af (fun w1 (hS:cP I P D p q1 q2 t n (upd (tv C F B O) k (jn (tv C F B O k) F (X.take j))) w1)=>Bt.Og w1 (hS.target HK.out HM.out));rw[EP.out]at FC;clear E1 hs2 EP xg GG;generalize X[j]=y at*
    go_wp2_with (first
     |(go_at_call 185;refine FC.out.mono ?_;rintro e w1 ⟨rfl,hb⟩;have S1:=af (S.out.went hb);have K1:=af (KP.out.trans (Ng hb));clear hb)
     | (go_at_call 164;refine(OS.out _ S1.out).mono ?_;rintro e w2 ⟨rfl,hs,hk⟩;have S2:=af (SN.out _ (S1.out.lg HK.out HM.out hs hk));have K2:=af (K1.out.trans hk);clear hs hk))
    go_roundw
    case rel=>exact⟨j+1,b,by omega,by go_num,rfl,GN.out,S2.out,K2.out⟩
    case measure=>simp[intOf];omega
   ·have OC:=af (show∀w1,cP I P D p q1 q2 t n (upd (tv C F B O) k (jn (tv C F B O k) F (X.take j))) w1->Calls Tryz.prog 164 #[.pointer (some ⟨P k,0,none⟩),fE P n X[j]] w1 (Bt.Wrote (gains (jn (tv C F B O k) F (X.take j)) (t+1) (cF (F X[j]))) (P k) (D k) (t+1) (jn (tv C F B O k) F (X.take (j+1))) w1)from fun w1 hS=>by
     obtain⟨m,ho⟩:=hS.yg HK.out TO.out.f2 X[j] (fun h0 h1 e=>qF ⟨h0,h1,e⟩);have:=Bt.ET w1 (hS.target HK.out HM.out) ho
     rwa [zTh (X.take j) (TO.out.f1 X[j]),←TN.out]at this)
    have GN:=af (show Gn (tv C F B O k) F (X.take (j+1)) (b||gains (jn (tv C F B O k) F (X.take j)) (t+1) (cF (F X[j])))by rw[TN.out];exact zTR (TO.out.f1 X[j]) GG.out);clear qF xg GG TN;generalize gains (jn (tv C F B O k) F (X.take j)) (t+1) (cF (F X[j]))=g at*;generalize fE P n X[j]=u at*;generalize X[j]=y at*;cases g with
    |false=>
     rw[Bool.or_false]at GN
     go_wp2_with (first
      |(go_at_call 185;refine FC.out.mono ?_;rintro e w1 ⟨rfl,hb⟩;have S1:=af (S.out.went hb);have K1:=af (KP.out.trans (Ng hb));clear hb)
      | (go_at_call 164;refine(OC.out _ S1.out).mono ?_;rintro e w2 ⟨rfl,hs,hk⟩;have S2:=af (S1.out.lg HK.out HM.out hs hk);have K2:=af (K1.out.trans hk);clear hs hk))
     go_roundw
     case rel=>exact⟨j+1,b,by omega,by go_num,rfl,GN.out,S2.out,K2.out⟩
     case measure=>simp[intOf];omega
    |true=>
     rw[Bool.or_true]at GN
     go_wp2_with (first
      |(go_at_call 185;refine FC.out.mono ?_;rintro e w1 ⟨rfl,hb⟩;have S1:=af (S.out.went hb);have K1:=af (KP.out.trans (Ng hb));clear hb)
      | (go_at_call 164;refine(OC.out _ S1.out).mono ?_;rintro e w2 ⟨rfl,hs,hk⟩;have S2:=af (S1.out.lg HK.out HM.out hs hk);have K2:=af (K1.out.trans hk);clear hs hk))
     go_roundw
     case rel=>exact⟨j+1,true,by omega,by go_num,rfl,GN.out,S2.out,K2.out⟩
     case measure=>simp[intOf];omega
  ·have E:X.take j=X:=List.take_of_length_le (by omega);have T1:=af (S.out.target HK.out HM.out);rw[E]at T1 GG;clear E;go_wp2;go_ret;exact⟨b,rfl,GG.out,T1.out,KP.out⟩
theorem zNe{I}{P D}{p q1 q2 t n}{V}(w)(h:cP I P D p q1 q2 t n V w)(X)(a)(c)(hR:Sep.Reads a (aN X) w)(hL:eT X c):
  Calls Tryz.prog 184 #[.pointer (some ⟨p,0,none⟩),.pointer none,.slice a X.length c] w (Is (.bool false) w):=by
 have FI:=af (fun w1 (b:Below w.heap.size w w1) x=>Nl w1 (h.went b) x);have RR:=af (fun w1 (b:Below w.heap.size w w1)=>Sep.Reads.below hR b (Nat.le_refl _));have OR:=af (fun u w1=>Bt.YT (u:=u) w1);have LO:=af hL;have hl:=hL.len;have hcap:=hL.cap;clear h hR hL;go_enter Tryz.func184,Tryz.ntmps184;go_wp2;go_loopw [7,12] (fun m i wr=>∃j:Nat,j<=X.length/\i=.int .i64 j/\m=.bool false/\Below w.heap.size w wr) (fun _ i _=>X.length-(intOf i).toNat)
 case atStart=>exact⟨0,Nat.zero_le _,rfl,rfl,.refl _ _⟩
 case round=>
  obtain⟨j,hj,rfl,rfl,hb⟩:=hrel;have B:=af hb;clear hb
  by_cases hlt:j<X.length
  ·obtain⟨bb,o,rfl,hc⟩:=wN (RR.out _ B.out) hlt;have FC:=af (FI.out _ B.out X[j]);generalize fE P n X[j]=u at*;generalize X[j]=y at*
   go_wp2_with (first
    |(go_at_call 185;refine FC.out.mono ?_;rintro e w1 ⟨rfl,hb⟩;have B1:=af (Gr.step B.out hb);clear hb)
    | (go_at_call 164;refine(OR.out _ _).mono ?_;rintro e w2 ⟨rfl,rfl⟩))
   go_roundw
   case rel=>exact⟨j+1,by omega,by go_num,rfl,B1.out⟩
   case measure=>simp[intOf];omega
  ·go_wp2;go_ret;exact⟨rfl,B.out⟩
end Fi
namespace Fi
open Gr (boxed step aN drawn)
open Bt (aO bZ cE)
open Rw (Bk)
def Ds(I:Ix->Prop)(D:Ix->Nat):Nat->Prop:=fun b=>∃k,I k/\b=D k
theorem Hh{I}{D}{k}(hk:I k){w w'}(h:aO (D k) w w'):Sep.Fr (Ds I D) w w':=
 ⟨h.os,h.tape,h.output,h.size,fun i hi hS=>h.block i hi fun e=>hS ⟨k,hk,e⟩⟩
theorem zPj{I}{D}{W0 w w'}(hb:Below W0.heap.size W0 w)(hD:∀k,I k->W0.heap.size<=D k)(h:Sep.Fr (Ds I D) w w'):Below W0.heap.size W0 w':=
 hb.trans (h.below (fun b ⟨k,hk,e⟩=>e▸hD k hk) hb.size)
theorem zRa{C}{n}(h:lV C n){r}(h0:0<=r.1)(h1:r.1<(n:Int)):lV (eu C r) n:=fun x k=>by
 unfold eu at k;rw[Bool.or_eq_true,Bool.and_eq_true,decide_eq_true_iff]at k;rcases k with k|⟨e,_⟩
 ·exact h x k
 ·subst e;exact⟨h0,h1⟩
theorem zRP{C}{n s}{R}(hs:s<n)(ha:bC C R=true):cE (cF C) n (s:Int)=cF (eu C ((s:Int),R))/\bZ (cF C) n (s:Int)= !C (s:Int):=by
 constructor
 ·unfold cE;rw[if_pos (by omega)]
  funext i
  unfold Bt.put cF eu;dsimp only;rw[ha,Bool.and_true]
  congr 1
  rw[decide_eq_decide];omega
 ·unfold bZ;simp[cF,hs]
theorem Ec{C}{F}{m}(h:∀x,lV (F x) m)(l):lV (dz C F l) m:=fun t k=>by
 obtain⟨_,y,_,_,_,h3⟩:=zQ.1 k;exact h y t h3
theorem zTf{C}{F}{s:Nat}{R}:jn (cF (F (s:Int))) F (R.take (iL C R))=cF (dx C F ((s:Int),R) (s:Int)):=by
 funext i
 unfold jn cF dx;dsimp only;rw[zP,decide_eq_true rfl,Bool.true_and]
theorem Xw{C}{F}{V}{R}{b}(h:Gn V F (R.take (iL C R)) b):b=true↔∃i:Nat,dz C F R (i:Int)=true/\V i=false:=by
 unfold Gn at h;rw[h];constructor
 ·rintro⟨i,⟨y,hy,h1⟩,h2⟩;refine⟨i,?_,h2⟩;rw[←zP,List.any_eq_true];exact⟨y,hy,h1⟩
 ·rintro⟨i,h1,h2⟩;rw[←zP,List.any_eq_true]at h1;obtain⟨y,hy,h3⟩:=h1;exact⟨i,⟨y,hy,h3⟩,h2⟩
theorem zU7{Q:Int->Prop}{m:Nat}(h:∀t,Q t->0<=t):(∃t,Q t)↔∃i:Nat,Q (i:Int):=
 ⟨fun⟨t,ht⟩=>⟨t.toNat,by rw[show((t.toNat:Nat):Int)=t from by have:=h t ht;omega];exact ht⟩,fun⟨i,hi⟩=>⟨i,hi⟩⟩
theorem eT.take{L}{c}(h:eT L c)(m):eT (L.take m) c:=
 ⟨fun x hx=>h.fit x (List.mem_of_mem_take hx),Nat.le_trans (List.length_take_le' _ _) h.len,Nat.le_trans (List.length_take_le' _ _) h.cap⟩
theorem GJ{L}{a}{w}(h:Sep.Reads a (aN L) w)(m):Sep.Reads a (aN (L.take m)) w:=by
 have e:aN (L.take m)=(aN L).take m:=by unfold aN;rw[List.map_take]
 rw[e];intro i hi
 have hi2:i<(aN L).length:=by
  rw[List.length_take]at hi;omega
 obtain⟨b,o,e,hc⟩:=h i hi2;refine⟨b,o,e,?_⟩;rw[hc,List.getElem_take]
theorem take_len{C}(L):(L.take (iL C L)).length=iL C L:=by
 rw[List.length_take];have:=zQI C L;omega
def II(I:Ix->Prop)(P D:Ix->Nat)(p q1 q2 t n:Nat)(C:Int->Bool)(F B:Int->Int->Bool)(O:Nat->Bool)(r:Int×List Int)(w:World)(e:Ending)(w':World):Prop:=
 ∃b,e=.returned (.bool b)/\(b=true↔bC C r.2=true/\C r.1=false)/\cP I P D p q1 q2 t n (tv (eu C r) F B O) w'/\Sep.Fr (Ds I D) w w'
def IJ(I:Ix->Prop)(P D:Ix->Nat)(p q1 q2 t n:Nat)(C:Int->Bool)(F B:Int->Int->Bool)(O:Nat->Bool)(r:Int×List Int)(w:World)(e:Ending)(w':World):Prop:=
 ∃b,e=.returned (.bool b)/\(b=true↔∃t,dz C F r.2 t=true/\F r.1 t=false)/\cP I P D p q1 q2 t n (tv C (dx C F r) B O) w'/\Sep.Fr (Ds I D) w w'
theorem zSm{I:Ix->Prop}{P D:Ix->Nat}{p q1 q2 t n:Nat}{C:Int->Bool}{F B:Int->Int->Bool}{O:Nat->Bool}(w:World)(h:cP I P D p q1 q2 t n (tv C F B O) w)(hT:jZ t n C F B)
  (s:Nat) (hs:s<n) (R:List Int) (a:Option Addr) (c:Nat) (hR:Sep.Reads a (aN R) w) (hL:eT R c):
  Calls Tryz.prog 160 #[.pointer (some ⟨p,0,none⟩),.agg #[.int .i64 (s:Int),.slice a R.length c]] w (II I P D p q1 q2 t n C F B O ((s:Int),R) w):=by
 have bx:=boxed w (.cells #[.int .i64 (s:Int),.slice a R.length c] 55);have BX:=af bx;have Q0:=af (Bk.new w #[.int .i64 (s:Int),.slice a R.length c] 55 _ rfl);have S0:=af (h.went bx);have HD:=af (sj _ S0.out hT.c R a c (Sep.Reads.below hR bx (Nat.le_refl _)) hL);have hn:=h.n4;have HDp:=af (h.off .e h.ie);have Px:=af h.ie;have Rk:D .e<w.heap.size:=(h.dG.at_ .e h.ie).ind;have Rl:=(h.off .e h.ie).1;clear h hR hL bx;cases ha:bC C R with
 |false=>
  have E:=af (show eu C ((s:Int),R)=C from UL fun k=>by rw[show bC C ((s:Int),R).2=false from ha]at k;cases k);have EB:=af (show((false=true)↔bC C ((s:Int),R).2=true/\C ((s:Int),R).1=false)from⟨(fun k=>by cases k),(fun k=>by rw[show bC C ((s:Int),R).2=false from ha]at k;cases k.1)⟩);unfold yL at HD;rw[ha]at HD;clear ha hT;go_enter Tryz.func160,Tryz.ntmps160;go_wp2_with (go_at_call 183;refine HD.out.mono ?_;rintro e w1 ⟨rfl,hb⟩;have B1:=af (Gr.step BX.out hb);have S1:=af (S0.out.went hb);clear hb);go_quiet (fail);go_wp2;go_ret;refine⟨false,rfl,EB.out,by rw[E.out];exact S1.out.went (NJ _ _),Sep.Fr.of_below (Gr.step B1.out (NJ _ _))⟩
 |true=>
  obtain⟨p1,p2⟩:=zRP hs ha;have E1:=af p1;have E2:=af p2;have EB:=af (show((!C (s:Int))=true↔bC C ((s:Int),R).2=true/\C ((s:Int),R).1=false)by simp[ha]);unfold yL at HD;rw[ha]at HD;have PU:=af (fun w1 (k:cP I P D p q1 q2 t n (tv C F B O) w1)=>Bt.wL w1 (k.dG.at_ .e k.ie) (s:Int) (by omega));clear ha hT p1 p2;go_enter Tryz.func160,Tryz.ntmps160;go_wp2_with (go_at_call 183;refine HD.out.mono ?_;rintro e w1 ⟨rfl,hb⟩;have B1:=af (Gr.step BX.out hb);have S1:=af (S0.out.went hb);have Q1:=af (Q0.out.went hb);clear hb);obtain⟨y0,y1,yf⟩:=Q1.out.two;obtain⟨x0,x1,x2,x3,x4⟩:=Bk.five S1.out.box
  have HQ:=af (show∀w',Sep.Fr (fun b=>b=D .e) w1 w'->w'.cell? ⟨w.heap.size,0,none⟩=some (.int .i64 (s:Int))/\w'.cell? ⟨p,2,none⟩=some (.pointer (some ⟨P .e,0,none⟩))/\Sep.Fr (fun b=>b=D .e) w1 w' from
   fun w' hF=>⟨hF.cell y0 (by simp;omega),hF.cell x2 (by simp;omega),hF⟩)
  have hF1:Sep.Fr (fun b=>b=D .e) w1 w1.drew:=(Sep.Fr.refl _ _).drew;clear y1 yf x0 x1 x3 x4
  go_region_held3 (fun w'=>w'.cell? ⟨w.heap.size,0,none⟩=some (.int .i64 (s:Int))/\w'.cell? ⟨p,2,none⟩=some (.pointer (some ⟨P .e,0,none⟩))/\Sep.Fr (fun b=>b=D .e) w1 w')
   (exact HQ.out _ (by assumption))
   (first
    |(go_at_call 166;refine(PU.out _ (S1.out.went (drawn _))).mono ?_;rintro e w2 ⟨rfl,hs2,hk2⟩;have S2:=af ((S1.out.went (drawn _)).wrote Px.out hs2 hk2);have K2:=af hk2;have hF2:Sep.Fr (fun b=>b=D .e) w1 w2:=hF1.trans ⟨hk2.os,hk2.tape,hk2.output,hk2.size,fun i hi hb=>hk2.block i hi hb⟩ (fun _ h=> .inl h);clear hs2 hk2)
    |fail)
  go_wp2;go_ret;refine⟨_,rfl,?_,?_,(Sep.Fr.of_below (Gr.step B1.out (drawn _))).trans (Hh Px.out K2.out) fun _ h=> .inl h⟩
  ·rw[show bZ (tv C F B O .e) (rm t n .e) (s:Int)= !C (s:Int)from E2.out];exact EB.out
  ·have:=S2.out
   rwa [Mh (D:=eu C ((s:Int),R)) (show cE (tv C F B O .e) (rm t n .e) (s:Int)=cF (eu C ((s:Int),R))from E1.out)]at this
theorem zSn{I:Ix->Prop}{P D:Ix->Nat}{p q1 q2 t n:Nat}{C:Int->Bool}{F B:Int->Int->Bool}{O:Nat->Bool}(W0 w:World)(h:cP I P D p q1 q2 t n (tv C F B O) w)(hT:jZ t n C F B)(hb0:Below W0.heap.size W0 w)(hD:∀k,I k->W0.heap.size<=D k)
  (s:Nat) (hs:s<n) (R:List Int) (a:Option Addr) (c:Nat) (hR:Sep.Reads a (aN R) W0) (hL:eT R c):
  Calls Tryz.prog 161 #[.pointer (some ⟨p,0,none⟩),.agg #[.int .i64 (s:Int),.slice a R.length c]] w (IJ I P D p q1 q2 t n C F B O ((s:Int),R) w):=by
 have bx:=boxed w (.cells #[.int .i64 (s:Int),.slice a R.length c] 55);have BX:=af bx;have Q0:=af (Bk.new w #[.int .i64 (s:Int),.slice a R.length c] 55 _ rfl);have S0:=af (h.went bx);have HD:=af (sj _ S0.out hT.c R a c (Sep.Reads.below hR (Gr.step hb0 bx) (Nat.le_refl _)) hL);have hn:=h.n4;have FI:=af (fun w1 (b:cP I P D p q1 q2 t n (tv C F B O) w1)=>Nl w1 b (s:Int));have EP:=af (show fE P n (s:Int)=.pointer (some ⟨P (.f s),0,none⟩)by unfold fE;rw[if_pos (by omega)];rfl);have JO:=af (fun w1 (k:cP I P D p q1 q2 t n (tv C F B O) w1) (hb:Below W0.heap.size W0 w1)=>NY W0 w1 k hT (.f s) (k.vJ s hs) rfl hb (hD _ (k.vJ s hs)) (R.take (iL C R)) a c (GJ hR _) (hL.take _));rw[take_len]at JO;rw[EP.out]at FI;have Py:=af (h.vJ s hs);have ZC:=af hb0;have RG:=af (Ec (C:=C) hT.f1 R);clear h hR hL bx hT hb0 hD EP;unfold yL at HD;go_enter Tryz.func161,Tryz.ntmps161
 go_wp2_with (first
  |(go_at_call 183;refine HD.out.mono ?_;rintro e w1 ⟨rfl,hb⟩;have B1:=af (Gr.step BX.out hb);have S1:=af (S0.out.went hb);have Q1:=af (Q0.out.went hb);clear hb;obtain⟨y0,y1,yf⟩:=Q1.out.two)
  |(go_at_call 185;refine(FI.out _ S1.out).mono ?_;rintro e w2 ⟨rfl,hb⟩;have B2:=af (Gr.step B1.out hb);have S2:=af (S1.out.went hb);clear hb)
  | (go_at_call 184;refine(JO.out _ S2.out (Gr.step ZC.out B2.out)).mono ?_;rintro e w3 ⟨b,rfl,hg,hs3,hk3⟩;have G3:=af hg;have S3:=af (S2.out.wrote Py.out hs3 hk3);have K3:=af hk3;clear hg hs3 hk3))
 go_ret;refine⟨b,rfl,?_,?_,(Sep.Fr.of_below B2.out).trans (Hh Py.out K3.out) fun _ h=> .inl h⟩
 ·rw[Xw G3.out,zU7 (m:=0) (fun t ht=>(RG.out t ht.1).1)];exact Iff.rfl
 ·have:=S3.out
  rwa [Mi (H:=dx C F ((s:Int),R)) (show jn (tv C F B O (.f s)) F (R.take (iL C R))=cF (dx C F ((s:Int),R) (s:Int))from zTf) (fun x hx=>by funext t;unfold dx;dsimp only;rw[decide_eq_false hx];simp)]at this
end Fi
namespace Fi
open Gr (ai cp step aN)
open Bt (az aO eP gains)
open Rw (Bk)
theorem zLx{L}{b o}{w}(h:Sep.Reads (some ⟨b,o,none⟩) (aN L) w)(m):Sep.Reads (some ⟨b,o+m,none⟩) (aN (L.drop m)) w:=by
 have e:aN (L.drop m)=(aN L).drop m:=by unfold aN;rw[List.map_drop]
 rw[e];intro i hi
 have hi2:m+i<(aN L).length:=by
  rw[List.length_drop]at hi;omega
 obtain⟨b',o',e,hc⟩:=h (m+i) hi2;injection e with e
 injection e with e1 e2 _
 subst e1;subst e2;refine⟨b,o+m,rfl,?_⟩;rw[List.getElem_drop,Nat.add_assoc];exact hc
theorem eT.drop{L}{c}(h:eT L c)(m):eT (L.drop m) (c-m):=
 ⟨fun x hx=>h.fit x (List.mem_of_mem_drop hx),by rw[List.length_drop];have:=h.len;omega,by rw[List.length_drop];have:=h.cap;omega⟩
def zWG(p d m:Nat)(V U:Nat->Bool)(w:World)(e:Ending)(w':World):Prop:=
 ∃g,e=.returned (.bool g)/\(g=true↔∃i:Nat,U i=true/\V i=false)/\az p d m (fun i=>V i||U i) w'/\aO d w w'
theorem zVb{I}{P D}{p q1 q2 t n}{C}{F B}{O V}{s x}(w)(h:cP I P D p q1 q2 t n (upd (tv C F B O) (.g x) V) w)(hx:t<x/\x<n)(hs:t<s/\s<n)(hr:lV (B (s:Int)) (t+1))(he:s=x->∀i:Nat,B (s:Int) (i:Int)=true->V i=true):
  Calls Tryz.prog 164 #[.pointer (some ⟨P (.g x),0,none⟩),.pointer (some ⟨P (.g s),0,none⟩)] w (zWG (P (.g x)) (D (.g x)) (t+1) V (cF (B (s:Int))) w):=by
 have hk:=h.ig x hx.1 hx.2;have ht:=h.target hk rfl
 by_cases e:s=x
 ·subst e;refine(Bt.Og w ht).mono ?_;rintro e w' ⟨rfl,h1,h2⟩
  have E:(fun i=>V i||cF (B (s:Int)) i)=V:=by
   funext i
   unfold cF;cases k:B (s:Int) (i:Int)with
   |false=>simp
   |true=>rw[he rfl i k];rfl
  refine⟨false,rfl,⟨(fun k=>by cases k),fun⟨i,k1,k2⟩=>?_⟩,by rw[E];exact h1,h2⟩;rw[he rfl i k1]at k2;cases k2
 ·have ho:=h.dG.other hk (h.ig s hs.1 hs.2) (fun k=>e (by injection k));rw[lh _ _ (fun k=>e (by injection k))]at ho;refine(Bt.ET w ht ho).mono ?_;rintro e w' ⟨rfl,h1,h2⟩
  have E:eP V (t+1) (tv C F B O (.g s))=fun i=>V i||cF (B (s:Int)) i:=by
   funext i
   unfold eP;show(V i||(cF (B (s:Int)) i&&_))= _;cases k:cF (B (s:Int)) i with
   |false=>simp
   |true=>
    have:=(hr _ k).2;have h3:i<t+1:=by omega
    simp[h3]
  refine⟨_,rfl,?_,by rw[←E];exact h1,h2⟩;unfold gains;rw[List.any_eq_true];constructor
  ·rintro⟨i,_,k⟩;rw[Bool.and_eq_true]at k;exact⟨i,k.1,by simpa using k.2⟩
  ·rintro⟨i,k1,k2⟩;refine⟨i,List.mem_range.2 (by have:=(hr _ k1).2;omega),?_⟩;rw[Bool.and_eq_true];exact⟨k1,by rw[k2];rfl⟩
theorem zR0{t n}{C}{F B}(h:jZ t n C F B)(r)(k){x}(h0:(t:Int)<x)(h1:x<(n:Int)):jZ t n C F (dF C F B r k x):=by
 refine⟨h.c,h.f1,h.f2,fun y i e=>?_,fun y i e=>?_⟩
 ·unfold dF fP at e;simp only[Bool.or_eq_true,Bool.and_eq_true,decide_eq_true_iff]at e;rcases e with e|⟨_,e|⟨_,e⟩⟩
  ·exact h.b1 y i e
  ·exact Ec h.f1 _ i e
  ·exact h.b1 _ i e
 ·unfold dF at e;simp only[Bool.or_eq_true,Bool.and_eq_true,decide_eq_true_iff]at e;rcases e with e|⟨e,_⟩
  ·exact h.b2 y i e
  ·subst e;exact⟨h0,h1⟩
theorem zQB{G}{n t}{B0 B}{j k}{b0 b b1 g}(h:bc G n (aD G) (aK G) B0 j k B (b0||b))(hT:jZ t n (aD G) (aK G) B)(hj)(hk:k<G.rules[j].2.length)(hn:cp G G.rules[j].2[k]=true)(h0:0<=G.rules[j].2[k])(h1:G.rules[j].2[k]<(n:Int))
  (e1:b1=true↔∃i:Nat,dz (aD G) (aK G) (G.rules[j].2.drop (k+1)) (i:Int)=true/\B G.rules[j].2[k] (i:Int)=false)
  (e2:g=true↔bC (aD G) (G.rules[j].2.drop (k+1))=true/\∃i:Nat,B G.rules[j].1 (i:Int)=true/\(B G.rules[j].2[k] (i:Int)||dz (aD G) (aK G) (G.rules[j].2.drop (k+1)) (i:Int))=false) (m) (hm:m=(b||b1||g)):
  bc G n (aD G) (aK G) B0 j (k+1) (dF (aD G) (aK G) B G.rules[j] k G.rules[j].2[k]) (b0||m):=by
 have:=h.step (c:=b1||g) (YA G) hj hk hn h0 h1 ?_
 ·rw[hm,←Bool.or_assoc,←Bool.or_assoc];rw[←Bool.or_assoc]at this;exact this
 ·rw[Bool.or_eq_true,e1,e2];constructor
  ·rintro(⟨i,k1,k2⟩|⟨ka,i,k1,k2⟩)
   ·refine⟨(i:Int),?_,k2⟩;unfold fP;rw[k1]
    rfl
   ·rw[Bool.or_eq_false_iff]at k2;refine⟨(i:Int),?_,k2.1⟩;unfold fP;rw[ka,k1];simp
  ·rintro⟨t',k1,k2⟩
   have hr:0<=t':=by
    unfold fP at k1;simp only[Bool.or_eq_true,Bool.and_eq_true]at k1;rcases k1 with k1|⟨_,k1⟩
    ·exact(Ec hT.f1 _ t' k1).1
    ·exact(hT.b1 _ t' k1).1
   obtain⟨i,rfl⟩:∃i:Nat,t'=(i:Int):=⟨t'.toNat,by omega⟩;unfold fP at k1;cases hl:dz (aD G) (aK G) (G.rules[j].2.drop (k+1)) (i:Int)with
   |true=>exact .inl ⟨i,hl,k2⟩
   |false=>
    rw[hl,Bool.false_or,Bool.and_eq_true]at k1;exact .inr ⟨k1.1,i,k1.2,by rw[k2,hl];rfl⟩
def IG(I:Ix->Prop)(P D:Ix->Nat)(p q1 q2 t n:Nat)(G:ai)(B0:Int->Int->Bool)(j:Nat)(b0:Bool)(O:Nat->Bool)(w:World)(e:Ending)(w':World):Prop:=
 ∃b B,e=.returned (.bool b)/\bc G n (aD G) (aK G) B0 (j+1) 0 B (b0||b)/\jZ t n (aD G) (aK G) B/\cP I P D p q1 q2 t n (tv (aD G) (aK G) B O) w'/\Sep.Fr (Ds I D) w w'
structure rS (I:Ix->Prop) (P D:Ix->Nat) (p q1 q2 t n:Nat) (G:ai) (B0:Int->Int->Bool) (j k:Nat) (b0 b:Bool) (O:Nat->Bool) (B:Int->Int->Bool) (W:World) (u0 u1:Value) (w:World):Prop where
 tr:bc G n (aD G) (aK G) B0 j k B (b0||b)
 ok:jZ t n (aD G) (aK G) B
 s:cP I P D p q1 q2 t n (tv (aD G) (aK G) B O) w
 fr:Sep.Fr (Ds I D) W w
 box:Bk W.heap.size #[u0,u1] 55 w
def zWA(I:Ix->Prop)(P D:Ix->Nat)(p q1 q2 t n:Nat)(G:ai)(B0:Int->Int->Bool)(j:Nat)(b0:Bool)(O:Nat->Bool)(W:World)(u0 u1:Value)(l:Nat)(m i:Value)(w:World):Prop:=
 ∃(k:Nat) (b:Bool) (B:Int->Int->Bool),k<=l/\i=.int .i64 k/\m=.bool b/\rS I P D p q1 q2 t n G B0 j k b0 b O B W u0 u1 w
theorem zWO{I}{P D}{p q1 q2 t n}{V}{w}(h:cP I P D p q1 q2 t n V w):¬Ds I D w.heap.size:=fun⟨k,hk,e⟩=>by
 have:=(h.dG.at_ k hk).ind;omega
theorem rS.went{I}{P D}{p q1 q2 t n}{G}{B0}{j k}{b0 b}{O}{B}{W}{u0 u1}{w w'}(h:rS I P D p q1 q2 t n G B0 j k b0 b O B W u0 u1 w)(hb:Below w.heap.size w w'):rS I P D p q1 q2 t n G B0 j k b0 b O B W u0 u1 w':=
 ⟨h.tr,h.ok,h.s.went hb,Rw.zU h.fr hb,h.box.went hb⟩
end Fi
namespace Fi
open Gr (ai cp top jN boxed aN wN)
open Bt (az aO)
open Rw (Bk)
def iq(a:Option Addr)(cc bb o k l c:Nat):Prop:=(a=some ⟨bb,o+(k+1),none⟩/\cc=c-(k+1))\/(a=some ⟨bb,o,none⟩/\cc=0/\l<=k+1)
theorem Vs{L}{a}{cc bb o k c}{w}(h:Sep.Reads (some ⟨bb,o,none⟩) (aN L) w)(ha:iq a cc bb o k L.length c):Sep.Reads a (aN (L.drop (k+1))) w:=by
 rcases ha with⟨rfl,_⟩|⟨rfl,_,hl⟩
 ·exact zLx h (k+1)
 ·rw[List.drop_of_length_le hl];exact .nil _ _
theorem Hw{L}{a}{cc bb o k c}(h:eT L c)(ha:iq a cc bb o k L.length c):eT (L.drop (k+1)) cc:=by
 rcases ha with⟨_,rfl⟩|⟨_,rfl,hl⟩
 ·exact h.drop (k+1)
 ·rw[List.drop_of_length_le hl];exact⟨(fun x hx=>by cases hx),by simp,by simp⟩
theorem zND{G}{n t}{B0 B}{j k}{b0 b}(h:bc G n (aD G) (aK G) B0 j k B (b0||b))(hT:jZ t n (aD G) (aK G) B)(hj){s}{R}(hr:G.rules[j]=(s,R))(hk){x}(hx:R[k]=x)(hn:cp G x=true)(h0:0<=x)(h1:x<(n:Int)):
  ∀b1 g m:Bool,(b1=true↔∃i:Nat,dz (aD G) (aK G) (R.drop (k+1)) (i:Int)=true/\B x (i:Int)=false)->
   (g=true↔bC (aD G) (R.drop (k+1))=true/\∃i:Nat,B s (i:Int)=true/\(B x (i:Int)||dz (aD G) (aK G) (R.drop (k+1)) (i:Int))=false)->m=(b||b1||g)->
   bc G n (aD G) (aK G) B0 j (k+1) (dF (aD G) (aK G) B (s,R) k x) (b0||m):=by
 intro b1 g m e1 e2 hm;subst hx;have e:R=G.rules[j].2:=by rw[hr]
 have es:s=G.rules[j].1:=by rw[hr]
 subst es;subst e;exact zQB h hT hj hk hn h0 h1 e1 e2 m hm
theorem skip'{G}{n}{B0 B}{j k}{b}(h:bc G n (aD G) (aK G) B0 j k B b)(hj){s}{R}(hr:G.rules[j]=(s,R))(hs:∀hk:k<R.length,cp G R[k]=false):bc G n (aD G) (aK G) B0 j (k+1) B b:=by
 have e:R=G.rules[j].2:=by rw[hr]
 subst e;exact h.skip hj hs
theorem next'{G}{n}{B0 B}{j k}{b}(h:bc G n (aD G) (aK G) B0 j k B b)(hj){s}{R}(hr:G.rules[j]=(s,R))(hk:¬k<R.length):bc G n (aD G) (aK G) B0 (j+1) 0 B b:=by
 have e:R=G.rules[j].2:=by rw[hr]
 subst e;exact h.next hj hk
theorem zMZ{C}{F B}{s x}{R}{k}(ha:bC C (R.drop (k+1))=false):(fun i:Nat=>B x (i:Int)||dz C F (R.drop (k+1)) (i:Int))=cF (dF C F B (s,R) k x x):=by
 funext i
 unfold cF dF fP;dsimp only;rw[ha];simp
theorem zMa{C}{F B}{s x}{R}{k}(ha:bC C (R.drop (k+1))=true):(fun i:Nat=>(B x (i:Int)||dz C F (R.drop (k+1)) (i:Int))||cF (B s) i)=cF (dF C F B (s,R) k x x):=by
 funext i
 unfold cF dF fP;dsimp only;rw[ha];simp[Bool.or_assoc]
theorem zK4{C}{F B}{r}{k}{x}(y)(h:y≠x):dF C F B r k x y=B y:=by
 funext t
 unfold dF;rw[decide_eq_false h];simp
theorem zVL{C}{F}{Q}{L}:jn (cF Q) F (L.take (iL C L))=fun i:Nat=>Q (i:Int)||dz C F L (i:Int):=by
 funext i
 unfold jn cF;rw[zP]
structure tz (I:Ix->Prop) (P D:Ix->Nat) (p q1 q2 t n:Nat) (C:Int->Bool) (F B:Int->Int->Bool) (O:Nat->Bool) (x:Nat) (V:Nat->Bool) (W:World) (u0 u1:Value) (w:World):Prop where
 s:cP I P D p q1 q2 t n (upd (tv C F B O) (.g x) V) w
 fr:Sep.Fr (Ds I D) W w
 box:Bk W.heap.size #[u0,u1] 55 w
theorem tz.went{I}{P D}{p q1 q2 t n}{C}{F B}{O}{x}{V}{W}{u0 u1}{w w'}(h:tz I P D p q1 q2 t n C F B O x V W u0 u1 w)(hb:Below w.heap.size w w'):tz I P D p q1 q2 t n C F B O x V W u0 u1 w':=
 ⟨h.s.went hb,Rw.zU h.fr hb,h.box.went hb⟩
theorem tz.put{I}{P D}{p q1 q2 t n}{C}{F B}{O}{x}{V U}{W}{u0 u1}{w w'}(h:tz I P D p q1 q2 t n C F B O x V W u0 u1 w)(hD:¬Ds I D W.heap.size)(hx:t<x/\x<n)(hs:az (P (.g x)) (D (.g x)) (t+1) U w')(hk:aO (D (.g x)) w w'):tz I P D p q1 q2 t n C F B O x U W u0 u1 w':=by
 have hg:=h.s.ig x hx.1 hx.2;exact⟨h.s.lg hg rfl hs hk,h.fr.trans (Hh hg hk) fun _ h=> .inl h,h.box.fr (Hh hg hk) hD⟩
theorem rS.j{I}{P D}{p q1 q2 t n}{G}{B0}{j k}{b0 b}{O}{B}{W}{u0 u1}{w}(h:rS I P D p q1 q2 t n G B0 j k b0 b O B W u0 u1 w)(x):
  tz I P D p q1 q2 t n (aD G) (aK G) B O x (cF (B (x:Int))) W u0 u1 w:=
 ⟨by rw[show cF (B (x:Int))=tv (aD G) (aK G) B O (.g x)from rfl,upd_same];exact h.s,h.fr,h.box⟩
theorem tz.fst{I}{P D}{p q1 q2 t n}{G}{B0}{j k k'}{b0 b}{O}{B}{x}{V}{W}{u0 u1}{w}{r}(h:tz I P D p q1 q2 t n (aD G) (aK G) B O x V W u0 u1 w)
  (hV:V=cF (dF (aD G) (aK G) B r k (x:Int) (x:Int))) (hT:jZ t n (aD G) (aK G) (dF (aD G) (aK G) B r k (x:Int))) (FK:bc G n (aD G) (aK G) B0 j k' (dF (aD G) (aK G) B r k (x:Int)) (b0||b)):
  rS I P D p q1 q2 t n G B0 j k' b0 b O (dF (aD G) (aK G) B r k (x:Int)) W u0 u1 w:=
 ⟨FK,hT,by have:=h.s;rwa [Dw hV fun y hy=>zK4 y hy]at this,h.fr,h.box⟩
theorem zSk{I:Ix->Prop}{P D:Ix->Nat}{p q1 q2 t n:Nat}{G:ai}{B0 B:Int->Int->Bool}{O:Nat->Bool}(W0 w:World)(h:cP I P D p q1 q2 t n (tv (aD G) (aK G) B O) w)(hT:jZ t n (aD G) (aK G) B)(hb0:Below W0.heap.size W0 w)(hD:∀k,I k->W0.heap.size<=D k)
  (ht:t=G.terms.length) (hn:n=top G+1) (j:Nat) (hj:j<G.rules.length) (b0:Bool) (FK:bc G n (aD G) (aK G) B0 j 0 B b0) (s:Nat) (R:List Int) (hr:G.rules[j]=((s:Int),R)) (hs:t<s/\s<n) (a:Option Addr) (c:Nat) (hR:Sep.Reads a (aN R) W0) (hL:eT R c):
  Calls Tryz.prog 162 #[.pointer (some ⟨p,0,none⟩),.agg #[.int .i64 (s:Int),.slice a R.length c]] w (IG I P D p q1 q2 t n G B0 j b0 O w):=by
 have bx:=boxed w (.cells #[.int .i64 (s:Int),.slice a R.length c] 55)
 have F0:=af (show rS I P D p q1 q2 t n G B0 j 0 b0 false O B w (.int .i64 (s:Int)) (.slice a R.length c) (w.alloc (.cells #[.int .i64 (s:Int),.slice a R.length c] 55))from
  ⟨by rw[Bool.or_false];exact FK,hT,h.went bx,Sep.Fr.of_below bx,Bk.new w _ _ _ rfl⟩)
 have h4:=h.n4;have DL:=af (zWO h);have RR:=af (fun w1 (b:Below W0.heap.size W0 w1)=>Sep.Reads.below hR b (Nat.le_refl _));have LO:=af hL;have BB:=af (fun w' (f:Sep.Fr (Ds I D) w w')=>zPj hb0 hD f);have ZI:=af hD;have hl:=hL.len;have hcap:=hL.cap
 have NB:=af (show∀x:Int,cp G x=decide ((t:Int)<x/\x<(n:Int))from fun x=>by
  have e:top G=G.terms.length+G.ah.length:=rfl;rw[Bool.eq_iff_iff,jN,decide_eq_true_iff,ht,hn]
  omega)
 have RJ:=af hr;have HJ:=af hj;obtain⟨hs1,hs2⟩:=hs;have FO:=af (fun T w1 (b:cP I P D p q1 q2 t n T w1) x=>zNE w1 b x);have GS:=af (show iQ P t n (s:Int)=.pointer (some ⟨P (.g s),0,none⟩)by unfold iQ;rw[if_pos (by omega)];rfl);clear h hT hb0 hD ht hn FK hr hR hL bx;have h0:=F0.out.box.two.2.1;go_enter Tryz.func162,Tryz.ntmps162;go_wp2;clear h0;go_loopw [5,14] (fun m i wr=>zWA I P D p q1 q2 t n G B0 j b0 O w (.int .i64 (s:Int)) (.slice a R.length c) R.length m i wr) (fun _ i _=>R.length-(intOf i).toNat)
 case atStart=>exact⟨0,false,B,Nat.zero_le _,rfl,rfl,F0.out⟩
 case round=>
  clear F0;obtain⟨k,b,H,hk,rfl,rfl,hF⟩:=hrel;have F:=af hF;clear hF
  by_cases hlt:k<R.length
  ·obtain⟨bb,o,rfl,hc⟩:=wN (RR.out _ (BB.out _ F.out.fr)) hlt;obtain⟨y0,y1,yf⟩:=F.out.box.two;have FC:=af (FO.out _ _ F.out.s R[k])
   by_cases hx:(t:Int)<R[k]/\R[k]<(n:Int)
   ·obtain⟨xn,vF⟩:∃m:Nat,R[k]=(m:Int):=⟨R[k].toNat,by omega⟩;have pQ:t<xn/\xn<n:=by omega
    have EU:=af (show iQ P t n R[k]=.pointer (some ⟨P (.g xn),0,none⟩)by unfold iQ;rw[if_pos hx,vF];rfl);have FN:=af (zND F.out.tr F.out.ok HJ.out RJ.out hlt vF (by rw[NB.out,decide_eq_true_iff];omega) (by omega) (by omega));have Jq:=af (zR0 F.out.ok ((s:Int),R) k (x:=(xn:Int)) (by omega) (by omega));have HA:=af (fun A cc (hA:iq A cc bb o k R.length c) w' (hb:Below W0.heap.size W0 w')=>Vs (RR.out w' hb) hA);have lC:=af (fun A cc (hA:iq A cc bb o k R.length c) w' (hS:cP I P D p q1 q2 t n (tv (aD G) (aK G) H O) w') (hb:Below W0.heap.size W0 w')=>sj w' hS F.out.ok.c (R.drop (k+1)) A cc (HA.out A cc hA w' hb) (Hw LO.out hA));have mJ:=af (fun A cc (hA:iq A cc bb o k R.length c) w' (hS:cP I P D p q1 q2 t n (tv (aD G) (aK G) H O) w') (hb:Below W0.heap.size W0 w')=>NY W0 w' hS F.out.ok (.g xn) (hS.ig xn pQ.1 pQ.2) rfl hb (ZI.out _ (hS.ig xn pQ.1 pQ.2)) ((R.drop (k+1)).take (iL (aD G) (R.drop (k+1)))) A cc (GJ (HA.out A cc hA W0 (.refl _ _)) _) ((Hw LO.out hA).take _));rw[List.length_drop]at lC;rw[take_len,show tv (aD G) (aK G) H O (.g xn)=cF (H (xn:Int))from rfl]at mJ;unfold Xj at mJ;rw[zVL]at mJ;have GL:=af (fun b1 (h:Gn (cF (H (xn:Int))) (aK G) ((R.drop (k+1)).take (iL (aD G) (R.drop (k+1)))) b1)=>Xw h);have RG:=af (F.out.ok.b1 (s:Int));unfold yL at lC;have BW:=af (show∀w',Sep.Fr (Ds I D) w w'->Below W0.heap.size W0 w' from BB.out);rw[EU.out]at FC;have A1:=af (show iq (some ⟨bb,o+(k+1),none⟩) (c-(k+1)) bb o k R.length c from .inl ⟨rfl,rfl⟩);have A2:=af (fun(h:c=k+1)=>show iq (some ⟨bb,o,none⟩) 0 bb o k R.length c from .inr ⟨rfl,rfl,by omega⟩);clear EU hx;generalize R[k]=x at*;subst vF;cases hall:bC (aD G) (R.drop (k+1))with
    |false=>
     have AR:=af (zMZ (F:=aK G) (B:=H) (s:=(s:Int)) (x:=(xn:Int)) hall);have G0:=af (show(false=true↔bC (aD G) (R.drop (k+1))=true/\∃i:Nat,H (s:Int) (i:Int)=true/\(H (xn:Int) (i:Int)||dz (aD G) (aK G) (R.drop (k+1)) (i:Int))=false)from⟨(fun h=>by cases h),(fun h=>by rw[hall]at h;cases h.1)⟩);rw[hall]at lC;clear hall
     go_wp2_with (first
      |(go_at_call 186;refine FC.out.mono ?_;rintro e w1 ⟨rfl,hb⟩;have F1:=af (F.out.went hb);clear y0 y1 yf;obtain⟨y0,y1,yf⟩:=F1.out.box.two;clear hb)
      | (go_at_call 183;(first|(with_reducible refine(lC.out _ _ A1.out _ F1.out.s (BW.out _ F1.out.fr)).mono ?_)|(with_reducible refine(lC.out _ _ (A2.out (by omega)) _ F1.out.s (BW.out _ F1.out.fr)).mono ?_));rintro e w2 ⟨rfl,hb⟩;have F2:=af (F1.out.went hb);clear hb y0 y1 yf))
     all_goals(first|(with_reducible refine(mJ.out _ _ A1.out _ F2.out.s (BW.out _ F2.out.fr)).mono ?_)|(with_reducible refine(mJ.out _ _ (A2.out (by omega)) _ F2.out.s (BW.out _ F2.out.fr)).mono ?_))
     all_goals try(have hcc:c=k+1:=(by assumption);subst hcc)
     all_goals
      rintro e w3 ⟨b1,rfl,hg,hs3,hk3⟩;have J3:=af ((F2.out.j xn).put DL.out pQ hs3 hk3);have G1:=af (GL.out b1 hg);have FE:=af (fun m hm=>J3.out.fst AR.out Jq.out (FN.out b1 false m G1.out G0.out hm));clear hg hs3 hk3;cases b1
      ·go_wp2;go_roundw
       case rel=>exact⟨k+1,b,_,by omega,by go_num,rfl,FE.out b (by simp)⟩
       case measure=>simp[intOf];omega
      ·go_wp2;go_roundw
       case rel=>exact⟨k+1,true,_,by omega,by go_num,rfl,FE.out true (by simp)⟩
       case measure=>simp[intOf];omega
    |true=>
     have AR:=af (zMa (F:=aK G) (B:=H) (s:=(s:Int)) (x:=(xn:Int)) hall);have G0:=af (fun g (h:g=true↔∃i:Nat,cF (H (s:Int)) i=true/\(H (xn:Int) (i:Int)||dz (aD G) (aK G) (R.drop (k+1)) (i:Int))=false)=>show(g=true↔bC (aD G) (R.drop (k+1))=true/\∃i:Nat,H (s:Int) (i:Int)=true/\(H (xn:Int) (i:Int)||dz (aD G) (aK G) (R.drop (k+1)) (i:Int))=false)from h.trans ⟨(fun h=>⟨hall,h⟩),(fun h=>h.2)⟩);have SE:=af (show s=xn->∀i:Nat,H (s:Int) (i:Int)=true->(H (xn:Int) (i:Int)||dz (aD G) (aK G) (R.drop (k+1)) (i:Int))=true from fun e i hi=>by subst e;rw[hi];rfl);rw[hall]at lC;clear hall
     go_wp2_with (first
      |(go_at_call 186;refine FC.out.mono ?_;rintro e w1 ⟨rfl,hb⟩;have F1:=af (F.out.went hb);clear y0 y1 yf;obtain⟨y0,y1,yf⟩:=F1.out.box.two;clear hb)
      | (go_at_call 183;(first|(with_reducible refine(lC.out _ _ A1.out _ F1.out.s (BW.out _ F1.out.fr)).mono ?_)|(with_reducible refine(lC.out _ _ (A2.out (by omega)) _ F1.out.s (BW.out _ F1.out.fr)).mono ?_));rintro e w2 ⟨rfl,hb⟩;have F2:=af (F1.out.went hb);clear hb y0 y1 yf))
     all_goals(first|(with_reducible refine(mJ.out _ _ A1.out _ F2.out.s (BW.out _ F2.out.fr)).mono ?_)|(with_reducible refine(mJ.out _ _ (A2.out (by omega)) _ F2.out.s (BW.out _ F2.out.fr)).mono ?_))
     all_goals try(have hcc:c=k+1:=(by assumption);subst hcc)
     all_goals
      rintro e w3 ⟨b1,rfl,hg,hs3,hk3⟩;have J3:=af ((F2.out.j xn).put DL.out pQ hs3 hk3);have G1:=af (GL.out b1 hg);have Aj:=af (FO.out _ _ J3.out.s (s:Int));rw[GS.out]at Aj;have Pm:=af (fun g h2 m hm=>FN.out b1 g m G1.out h2 hm);have P9:=af (fun w' (hJ:cP I P D p q1 q2 t n (upd (tv (aD G) (aK G) H O) (.g xn) (fun i:Nat=>H (xn:Int) (i:Int)||dz (aD G) (aK G) (R.drop (k+1)) (i:Int))) w')=>zVb w' hJ pQ ⟨hs1,hs2⟩ RG.out SE.out);obtain⟨y0,y1,yf⟩:=J3.out.box.two;clear hg hs3 hk3 FN G1;cases b1
      ·go_wp2_with (go_at_call 186;refine Aj.out.mono ?_;rintro e w4 ⟨rfl,hb⟩;have J4:=af (J3.out.went hb);clear hb y0 y1 yf);refine(P9.out _ J4.out.s).mono ?_;rintro e w5 ⟨g,rfl,hg,hs5,Cb⟩;have FE:=af (fun m hm=>(J4.out.put DL.out pQ hs5 Cb).fst AR.out Jq.out (Pm.out g (G0.out g hg) m hm));clear hg hs5 Cb;cases g
       ·go_wp2;go_roundw
        case rel=>exact⟨k+1,b,_,by omega,by go_num,rfl,FE.out b (by simp)⟩
        case measure=>simp[intOf];omega
       ·go_wp2;go_roundw
        case rel=>exact⟨k+1,true,_,by omega,by go_num,rfl,FE.out true (by simp)⟩
        case measure=>simp[intOf];omega
      ·go_wp2_with (go_at_call 186;refine Aj.out.mono ?_;rintro e w4 ⟨rfl,hb⟩;have J4:=af (J3.out.went hb);clear hb y0 y1 yf);refine(P9.out _ J4.out.s).mono ?_;rintro e w5 ⟨g,rfl,hg,hs5,Cb⟩;have FE:=af (fun m hm=>(J4.out.put DL.out pQ hs5 Cb).fst AR.out Jq.out (Pm.out g (G0.out g hg) m hm));clear hg hs5 Cb;cases g
       ·go_wp2;go_roundw
        case rel=>exact⟨k+1,true,_,by omega,by go_num,rfl,FE.out true (by simp)⟩
        case measure=>simp[intOf];omega
       ·go_wp2;go_roundw
        case rel=>exact⟨k+1,true,_,by omega,by go_num,rfl,FE.out true (by simp)⟩
        case measure=>simp[intOf];omega
   ·have EU:=af (show iQ P t n R[k]=.pointer none by unfold iQ;rw[if_neg hx]);have SK:=af (skip' F.out.tr HJ.out RJ.out fun _=>by rw[NB.out,decide_eq_false_iff_not];exact hx);have HA:=af (fun A cc (hA:iq A cc bb o k R.length c) w' (hb:Below W0.heap.size W0 w')=>Vs (RR.out w' hb) hA);have lC:=af (fun A cc (hA:iq A cc bb o k R.length c) w' (hS:cP I P D p q1 q2 t n (tv (aD G) (aK G) H O) w') (hb:Below W0.heap.size W0 w')=>sj w' hS F.out.ok.c (R.drop (k+1)) A cc (HA.out A cc hA w' hb) (Hw LO.out hA));have mJ:=af (fun A cc (hA:iq A cc bb o k R.length c) w' (hS:cP I P D p q1 q2 t n (tv (aD G) (aK G) H O) w') (hb:Below W0.heap.size W0 w')=>zNe w' hS ((R.drop (k+1)).take (iL (aD G) (R.drop (k+1)))) A cc (GJ (HA.out A cc hA w' hb) _) ((Hw LO.out hA).take _));rw[List.length_drop]at lC;rw[take_len]at mJ;unfold yL at lC;have BW:=af (show∀w',Sep.Fr (Ds I D) w w'->Below W0.heap.size W0 w' from BB.out);rw[EU.out]at FC;have A1:=af (show iq (some ⟨bb,o+(k+1),none⟩) (c-(k+1)) bb o k R.length c from .inl ⟨rfl,rfl⟩);have A2:=af (fun(h:c=k+1)=>show iq (some ⟨bb,o,none⟩) 0 bb o k R.length c from .inr ⟨rfl,rfl,by omega⟩);have ON:=af (fun u w'=>Bt.YT (u:=u) w');clear EU hx;generalize R[k]=x at*;generalize bC (aD G) (R.drop (k+1))=al at*;cases al with
    |false=>
     go_wp2_with (first
      |(go_at_call 186;refine FC.out.mono ?_;rintro e w1 ⟨rfl,hb⟩;have F1:=af (F.out.went hb);clear y0 y1 yf;obtain⟨y0,y1,yf⟩:=F1.out.box.two;clear hb)
      |(go_at_call 183;(first|(with_reducible refine(lC.out _ _ A1.out _ F1.out.s (BW.out _ F1.out.fr)).mono ?_)|(with_reducible refine(lC.out _ _ (A2.out (by omega)) _ F1.out.s (BW.out _ F1.out.fr)).mono ?_));rintro e w2 ⟨rfl,hb⟩;have F2:=af (F1.out.went hb);clear hb y0 y1 yf)
      | (go_at_call 184;(first|(with_reducible refine(mJ.out _ _ A1.out _ F2.out.s (BW.out _ F2.out.fr)).mono ?_)|(with_reducible refine(mJ.out _ _ (A2.out (by omega)) _ F2.out.s (BW.out _ F2.out.fr)).mono ?_));rintro e w3 ⟨rfl,hb⟩;have F3:=af (F2.out.went hb);clear hb))
     all_goals try(have hcc:c=k+1:=(by assumption);subst hcc)
     all_goals
      have F4:=af (rS.mk SK.out F3.out.ok F3.out.s F3.out.fr F3.out.box);go_roundw
      case rel=>exact⟨k+1,b,H,by omega,by go_num,rfl,F4.out⟩
      case measure=>simp[intOf];omega
    |true=>
     go_wp2_with (first
      |(go_at_call 186;(with_reducible refine FC.out.mono ?_);rintro e w1 ⟨rfl,hb⟩;have F1:=af (F.out.went hb);clear y0 y1 yf;obtain⟨y0,y1,yf⟩:=F1.out.box.two;clear hb)
      |(go_at_call 183;(first|(with_reducible refine(lC.out _ _ A1.out _ F1.out.s (BW.out _ F1.out.fr)).mono ?_)|(with_reducible refine(lC.out _ _ (A2.out (by omega)) _ F1.out.s (BW.out _ F1.out.fr)).mono ?_));rintro e w2 ⟨rfl,hb⟩;have F2:=af (F1.out.went hb);clear hb y0 y1 yf)
      |(go_at_call 184;(first|(with_reducible refine(mJ.out _ _ A1.out _ F2.out.s (BW.out _ F2.out.fr)).mono ?_)|(with_reducible refine(mJ.out _ _ (A2.out (by omega)) _ F2.out.s (BW.out _ F2.out.fr)).mono ?_));rintro e w3 ⟨rfl,hb⟩;have F3:=af (F2.out.went hb);obtain⟨y0,y1,yf⟩:=F3.out.box.two;have Aj:=af (FO.out _ _ F3.out.s (s:Int));clear hb FC)
      |(go_at_call 186;(with_reducible refine Aj.out.mono ?_);rintro e w4 ⟨rfl,hb⟩;have F5:=af (F3.out.went hb);clear hb y0 y1 yf)
      | (go_at_call 164;refine(ON.out _ _).mono ?_;rintro e w5 ⟨rfl,rfl⟩))
     all_goals try(have hcc:c=k+1:=(by assumption);subst hcc)
     all_goals
      have F4:=af (rS.mk SK.out F5.out.ok F5.out.s F5.out.fr F5.out.box);go_roundw
      case rel=>exact⟨k+1,b,H,by omega,by go_num,rfl,F4.out⟩
      case measure=>simp[intOf];omega
  ·have E:=af (next' F.out.tr HJ.out RJ.out hlt);go_wp2;go_ret;exact⟨b,H,rfl,E.out,F.out.ok,F.out.s,F.out.fr⟩
