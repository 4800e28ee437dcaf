/- A part of the proof. -/
import Derived.Test.YtegeamggbglneaaGreatDoorPk22
import Derived.Test.YtegeamggbglneaaGreatDoorPk28
set_option maxHeartbeats 8000000
set_option maxRecDepth 100000
set_option linter.unusedVariables false
namespace Go.Proofs.YtegeamggbglneaaGreatDoor
open Go.RowKit Go.Maps
namespace Fi
open Bt (SetAt Keeps OtherV)
open Rw (Bk)
inductive Ix:Type
 |e:Ix
 |f:Nat->Ix
 |g:Nat->Ix
 |o:Ix
structure Fam (I:Ix->Prop) (P D:Ix->Nat) (R:Ix->Nat) (V:Ix->Nat->Bool) (w:World):Prop where
 at_:∀k,I k->SetAt (P k) (D k) (R k) (V k) w
 inj:∀j k,I j->I k->D j=D k->j=k
 off:∀j k,I j->I k->D j≠P k
theorem zFn{p d n}{B}{w w'}(h:SetAt p d n B w)(hb:Below w.heap.size w w'):SetAt p d n B w':=h.below hb h.inp h.ind
theorem Fam.went{I}{P D R}{V}{w w'}(h:Fam I P D R V w)(hb:Below w.heap.size w w'):Fam I P D R V w':=⟨fun k hk=>zFn (h.at_ k hk) hb,h.inj,h.off⟩
open Classical in
noncomputable def upd(V:Ix->Nat->Bool)(k:Ix)(B:Nat->Bool):Ix->Nat->Bool:=fun j=>if j=k then B else V j
theorem zCA(V)(k)(B):upd V k B k=B:=by unfold upd;rw[if_pos rfl]
theorem zAh(V){j k}(B)(h:j≠k):upd V k B j=V j:=by unfold upd;rw[if_neg h]
theorem upd_same(V)(k):upd V k (V k)=V:=by
 funext j
 by_cases h:j=k
 ·subst h;rw[zCA]
 ·rw[zAh _ _ h]
theorem zOw(V)(k)(B C):upd (upd V k B) k C=upd V k C:=by
 funext j
 by_cases h:j=k
 ·subst h;rw[zCA,zCA]
 ·rw[zAh _ _ h,zAh _ _ h,zAh _ _ h]
theorem Fam.wrote{I}{P D R}{V}{w w'}(h:Fam I P D R V w){k}(hk:I k){B}(hs:SetAt (P k) (D k) (R k) B w')(hK:Keeps (D k) w w'):Fam I P D R (upd V k B) w':=by
 refine⟨fun j hj=>?_,h.inj,h.off⟩
 by_cases e:j=k
 ·subst e;rw[zCA];exact hs
 ·rw[zAh _ _ e];exact(h.at_ j hj).keeps hK (fun e2=>h.off k j hk hj e2.symm) (fun e2=>e (h.inj j k hj hk e2))
theorem Fam.other{I}{P D R}{V}{w}(h:Fam I P D R V w){j k}(hk:I k)(hj:I j)(hne:j≠k):OtherV (D k) (.pointer (some ⟨P j,0,none⟩)) (R j) (V j) w:=
 .at_ (h.at_ j hj) (fun e=>h.off k j hk hj e.symm) (fun e=>hne (h.inj j k hj hk e))
def rm(t n:Nat):Ix->Nat
 | .e=>n
 |_=>t+1
structure SAt (I:Ix->Prop) (P D:Ix->Nat) (p q1 q2 t n:Nat) (V:Ix->Nat->Bool) (w:World):Prop where
 box:Bk p #[.int .i64 (t:Int),.int .i64 (n:Int),.pointer (some ⟨P .e,0,none⟩),.slice (some ⟨q1,0,none⟩) n n,.slice (some ⟨q2,0,none⟩) n n] 258 w
 firsts:∀s,s<n->w.cell? ⟨q1,s,none⟩=some (.pointer (some ⟨P (.f s),0,none⟩))
 follows:∀s,s<n->w.cell? ⟨q2,s,none⟩=some (if t<s then .pointer (some ⟨P (.g s),0,none⟩)else .pointer none)
 fam:Fam I P D (rm t n) V w
 off:∀k,I k->D k≠p/\D k≠q1/\D k≠q2
 ie:I .e
 if_:∀s,s<n->I (.f s)
 ig:∀s,t<s->s<n->I (.g s)
 tn:t<n
 n4:n<=4000
theorem SAt.went{I}{P D}{p q1 q2 t n}{V}{w w'}(h:SAt I P D p q1 q2 t n V w)(hb:Below w.heap.size w w'):SAt I P D p q1 q2 t n V w':=
 ⟨h.box.went hb,fun s hs=>Gr.cell_later hb (h.firsts s hs),fun s hs=>Gr.cell_later hb (h.follows s hs),h.fam.went hb,h.off,h.ie,h.if_,h.ig,h.tn,h.n4⟩
theorem SAt.wrote{I}{P D}{p q1 q2 t n}{V}{w w'}(h:SAt I P D p q1 q2 t n V w){k}(hk:I k){B}(hs:SetAt (P k) (D k) (rm t n k) B w')(hK:Keeps (D k) w w'):SAt I P D p q1 q2 t n (upd V k B) w':=by
 have ho:=h.off k hk;have hF:Sep.Fr (fun b=>b=D k) w w':=⟨hK.os,hK.tape,hK.output,hK.size,fun i hi hb=>hK.block i hi hb⟩;exact⟨h.box.fr hF (fun e=>ho.1 e.symm),fun s hs=>hF.cell (h.firsts s hs) (fun e=>ho.2.1 e.symm),fun s hs=>hF.cell (h.follows s hs) (fun e=>ho.2.2 e.symm),h.fam.wrote hk hs hK,h.off,h.ie,h.if_,h.ig,h.tn,h.n4⟩
def tv(C:Int->Bool)(F B:Int->Int->Bool)(O:Nat->Bool):Ix->Nat->Bool
 | .e=>rw' C
 | .f s=>rw' (F (s:Int))
 | .g s=>rw' (B (s:Int))
 | .o=>O
structure TOk (t n:Nat) (C:Int->Bool) (F B:Int->Int->Bool):Prop where
 c:Rng C n
 f1:∀x,Rng (F x) (t+1)
 f2:∀x i,F x i=true->0<=x/\x<(n:Int)
 b1:∀x,Rng (B x) (t+1)
 b2:∀x i,B x i=true->(t:Int)<x/\x<(n:Int)
theorem tv_e{C D}{F B}{O}{V}(h:V=rw' D):upd (tv C F B O) .e V=tv D F B O:=by
 funext j
 cases j with
 |e=>rw[zCA,h];rfl
 |f s=>rw[zAh _ _ (by intro h;cases h)];rfl
 |g s=>rw[zAh _ _ (by intro h;cases h)];rfl
 |o=>rw[zAh _ _ (by intro h;cases h)];rfl
theorem tv_f{C}{F H B}{O}{V}{s:Nat}(h:V=rw' (H (s:Int)))(ho:∀x:Int,x≠(s:Int)->H x=F x):upd (tv C F B O) (.f s) V=tv C H B O:=by
 funext j
 cases j with
 |e=>rw[zAh _ _ (by intro h;cases h)];rfl
 |f k=>
  by_cases e:k=s
  ·subst e;rw[zCA,h];rfl
  ·rw[zAh _ _ (by intro h;injection h with h;exact e h)];show rw' (F (k:Int))=rw' (H (k:Int));rw[ho _ (by omega)]
 |g s=>rw[zAh _ _ (by intro h;cases h)];rfl
 |o=>rw[zAh _ _ (by intro h;cases h)];rfl
theorem tv_g{C}{F B H}{O}{V}{s:Nat}(h:V=rw' (H (s:Int)))(ho:∀x:Int,x≠(s:Int)->H x=B x):upd (tv C F B O) (.g s) V=tv C F H O:=by
 funext j
 cases j with
 |e=>rw[zAh _ _ (by intro h;cases h)];rfl
 |f s=>rw[zAh _ _ (by intro h;cases h)];rfl
 |g k=>
  by_cases e:k=s
  ·subst e;rw[zCA,h];rfl
  ·rw[zAh _ _ (by intro h;injection h with h;exact e h)];show rw' (B (k:Int))=rw' (H (k:Int));rw[ho _ (by omega)]
 |o=>rw[zAh _ _ (by intro h;cases h)];rfl
theorem SAt.more{I}{P D}{p q1 q2 t n}{C}{F B}{O}{w w'}(h:SAt I P D p q1 q2 t n (tv C F B O) w)(hI:¬I .o)(hb:Below w.heap.size w w'){po d}{N}(hs:SetAt po d (t+1) N w')(hp:w.heap.size<=po)(hd:w.heap.size<=d):
  ∃I' P' D',SAt I' P' D' p q1 q2 t n (tv C F B N) w'/\I' .o/\P' .o=po/\D' .o=d:=by
 have hq1:q1<w.heap.size:=World.block_lt_of_cell? w ⟨q1,0,none⟩ (h.firsts 0 (by have:=h.tn;omega));have hq2:q2<w.heap.size:=World.block_lt_of_cell? w ⟨q2,0,none⟩ (h.follows 0 (by have:=h.tn;omega));have hp0:=h.box.lt;refine⟨fun k=>I k\/k=.o,fun k=>match k with| .o=>po|k=>P k,fun k=>match k with| .o=>d|k=>D k,⟨(h.went hb).box,?_,?_,⟨?_,?_,?_⟩,?_,.inl h.ie,fun s hs=> .inl (h.if_ s hs),fun s h1 h2=> .inl (h.ig s h1 h2),h.tn,h.n4⟩,.inr rfl,rfl,rfl⟩
 ·exact(h.went hb).firsts
 ·exact(h.went hb).follows
 ·rintro(_|s|s|_) hk
  ·exact(h.went hb).fam.at_ .e h.ie
  ·rcases hk with hk|hk
   ·exact(h.went hb).fam.at_ (.f s) hk
   ·cases hk
  ·rcases hk with hk|hk
   ·exact(h.went hb).fam.at_ (.g s) hk
   ·cases hk
  ·exact hs
 ·have key:∀j,I j->D j≠d:=fun j hj e=>by have:=(h.fam.at_ j hj).ind;omega
  rintro(_|s|s|_) (_|s'|s'|_) hj hk he
  all_goals first
   |rfl
   |exact absurd he (key _ (by rcases hj with hj|hj<;>first|exact hj|cases hj))
   |exact absurd he.symm (key _ (by rcases hk with hk|hk<;>first|exact hk|cases hk))
   |exact h.fam.inj _ _ (by rcases hj with hj|hj<;>first|exact hj|cases hj) (by rcases hk with hk|hk<;>first|exact hk|cases hk) he
 ·have k1:∀j,I j->D j≠po:=fun j hj e=>by have:=(h.fam.at_ j hj).ind;omega
  have k2:∀j,I j->d≠P j:=fun j hj e=>by have:=(h.fam.at_ j hj).inp;omega
  rintro(_|s|s|_) (_|s'|s'|_) hj hk
  all_goals first
   |exact hs.apart.symm
   |exact k1 _ (by rcases hj with hj|hj<;>first|exact hj|cases hj)
   |exact k2 _ (by rcases hk with hk|hk<;>first|exact hk|cases hk)
   |exact h.fam.off _ _ (by rcases hj with hj|hj<;>first|exact hj|cases hj) (by rcases hk with hk|hk<;>first|exact hk|cases hk)
 ·rintro(_|s|s|_) hk
  ·exact h.off .e h.ie
  ·rcases hk with hk|hk
   ·exact h.off _ hk
   ·cases hk
  ·rcases hk with hk|hk
   ·exact h.off _ hk
   ·cases hk
  ·show d≠p/\d≠q1/\d≠q2;omega
def VS(nl:Bool)(I:Ix->Prop)(P D:Ix->Nat)(v:Value)(t n:Nat)(C:Int->Bool)(F B:Int->Int->Bool)(O:Nat->Bool)(w:World):Prop:=
 (nl=true/\v=.pointer none/\C=(fun _=>false)/\F=(fun _ _=>false)/\B=(fun _ _=>false))\/(nl=false/\∃p q1 q2,v=.pointer (some ⟨p,0,none⟩)/\SAt I P D p q1 q2 t n (tv C F B O) w)
theorem VS.went{nl}{I}{P D}{v}{t n}{C}{F B}{O}{w w'}(h:VS nl I P D v t n C F B O w)(hb:Below w.heap.size w w'):VS nl I P D v t n C F B O w':=by
 rcases h with h|⟨h1,p,q1,q2,h2,h3⟩
 ·exact .inl h
 ·exact .inr ⟨h1,p,q1,q2,h2,h3.went hb⟩
end Fi
namespace Fi
open Gr (Is boxed cell_later zAD)
open Bt (has)
open Rw (Bk)
theorem Bk.five{q}{a b c d e}{T}{w}(h:Bk q #[a,b,c,d,e] T w):w.cell? ⟨q,0,none⟩=some a/\w.cell? ⟨q,1,none⟩=some b/\w.cell? ⟨q,2,none⟩=some c/\w.cell? ⟨q,3,none⟩=some d/\w.cell? ⟨q,4,none⟩=some e:=
 ⟨h.cell rfl,h.cell rfl,h.cell rfl,h.cell rfl,h.cell rfl⟩
def symB(n:Nat)(x:Int):Bool:=decide (0<=x/\x<(n:Int))
def ntB(t n:Nat)(x:Int):Bool:=decide ((t:Int)<x/\x<(n:Int))
theorem zL0(t n:Nat)(x)(w)(hn:n<=4000):
  Calls Tryz.prog 221 #[.agg #[.int .i64 (t:Int),.int .i64 (n:Int)],.int .i64 x] w (Is (.bool (symB n x)) w):=by
 go_enter Tryz.func221,Tryz.ntmps221;go_wp2
 all_goals
  go_ret;refine⟨zAD ?_,boxed _ _⟩;go_light;unfold symB
  first|(rw[decide_eq_true_iff];omega)|(rw[decide_eq_false_iff_not];omega)|(rw[Bool.eq_iff_iff];simp only[decide_eq_true_eq];omega)
theorem zRr(t n:Nat)(x)(w)(hn:n<=4000):
  Calls Tryz.prog 182 #[.agg #[.int .i64 (t:Int),.int .i64 (n:Int)],.int .i64 x] w (Is (.bool (ntB t n x)) w):=by
 go_enter Tryz.func182,Tryz.ntmps182;go_wp2
 all_goals
  go_ret;refine⟨zAD ?_,boxed _ _⟩;go_light;unfold ntB
  first|(rw[decide_eq_true_iff];omega)|(rw[decide_eq_false_iff_not];omega)|(rw[Bool.eq_iff_iff];simp only[decide_eq_true_eq];omega)
def fptr(P:Ix->Nat)(n:Nat)(x:Int):Value:=if 0<=x/\x<(n:Int)then .pointer (some ⟨P (.f x.toNat),0,none⟩)else .pointer none
def gptr(P:Ix->Nat)(t n:Nat)(x:Int):Value:=if(t:Int)<x/\x<(n:Int)then .pointer (some ⟨P (.g x.toNat),0,none⟩)else .pointer none
theorem zGt{I}{P D}{p q1 q2 t n}{V}(w)(h:SAt I P D p q1 q2 t n V w)(x):
  Calls Tryz.prog 185 #[.pointer (some ⟨p,0,none⟩),.int .i64 x] w (Is (fptr P n x) w):=by
 have H:=zV7 h;have S:=zV7 (fun w1=>zL0 t n x w1 h.n4);have h4:=h.n4;obtain⟨x0,x1,x2,x3,x4⟩:=Bk.five h.box;clear h
 by_cases hx:0<=x/\x<(n:Int)
 ·have e:symB n x=true:=decide_eq_true hx;obtain⟨s,rfl⟩:∃s:Nat,x=(s:Int):=⟨x.toNat,by omega⟩;have EF:=zV7 (show fptr P n (s:Int)=.pointer (some ⟨P (.f s),0,none⟩)by unfold fptr;rw[if_pos hx];rfl);have hs:s<n:=by omega
  rw[e]at S;clear e;go_enter Tryz.func185,Tryz.ntmps185;go_wp2_with (go_at_call 221;refine(S.out _).mono ?_;rintro e w1 ⟨rfl,hb⟩;have HB:=zV7 hb;have y3:=cell_later hb x3;have z:=cell_later hb (H.out.firsts s hs);clear hb x0 x1 x2 x3 x4);go_ret;rw[EF.out];exact⟨rfl,HB.out⟩
 ·have e:symB n x=false:=decide_eq_false hx;have EF:=zV7 (show fptr P n x=.pointer none by unfold fptr;rw[if_neg hx]);rw[e]at S;clear e hx;go_enter Tryz.func185,Tryz.ntmps185;go_wp2_with (go_at_call 221;refine(S.out _).mono ?_;rintro e w1 ⟨rfl,hb⟩;have HB:=zV7 hb;clear hb);go_ret;rw[EF.out];exact⟨rfl,HB.out⟩
theorem zMw{I}{P D}{p q1 q2 t n}{V}(w)(h:SAt I P D p q1 q2 t n V w)(x):
  Calls Tryz.prog 186 #[.pointer (some ⟨p,0,none⟩),.int .i64 x] w (Is (gptr P t n x) w):=by
 have H:=zV7 h;have S:=zV7 (fun w1=>zRr t n x w1 h.n4);have h4:=h.n4;obtain⟨x0,x1,x2,x3,x4⟩:=Bk.five h.box;clear h
 by_cases hx:(t:Int)<x/\x<(n:Int)
 ·have e:ntB t n x=true:=decide_eq_true hx;obtain⟨s,rfl⟩:∃s:Nat,x=(s:Int):=⟨x.toNat,by omega⟩;have EF:=zV7 (show gptr P t n (s:Int)=.pointer (some ⟨P (.g s),0,none⟩)by unfold gptr;rw[if_pos hx];rfl);have hs:s<n:=by omega
  have hz:=H.out.follows s hs;rw[if_pos (by omega)]at hz;have HZ:=zV7 hz;rw[e]at S;clear e hz;go_enter Tryz.func186,Tryz.ntmps186;go_wp2_with (go_at_call 182;refine(S.out _).mono ?_;rintro e w1 ⟨rfl,hb⟩;have HB:=zV7 hb;have y3:=cell_later hb x4;have z:=cell_later hb HZ.out;clear hb x0 x1 x2 x3 x4);go_ret;rw[EF.out];exact⟨rfl,HB.out⟩
 ·have e:ntB t n x=false:=decide_eq_false hx;have EF:=zV7 (show gptr P t n x=.pointer none by unfold gptr;rw[if_neg hx]);rw[e]at S;clear e hx;go_enter Tryz.func186,Tryz.ntmps186;go_wp2_with (go_at_call 182;refine(S.out _).mono ?_;rintro e w1 ⟨rfl,hb⟩;have HB:=zV7 hb;clear hb);go_ret;rw[EF.out];exact⟨rfl,HB.out⟩
theorem zIw(w)(m):Below w.heap.size w (w.drewN m):=⟨rfl,rfl,rfl,Nat.le_refl _,fun _ _=>rfl⟩
theorem zPb{I}{P D}{p q1 q2 t n}{C}{F B}{O}(w)(h:SAt I P D p q1 q2 t n (tv C F B O) w)(hC:Rng C n)(x)(hx:x<=9223372036854775807):
  Calls Tryz.prog 220 #[.pointer (some ⟨p,0,none⟩),.int .i64 x] w (Is (.bool (C x)) w):=by
 have H:=zV7 (Bt.zM2 w (.at_ (h.fam.at_ .e h.ie)) x hx);rw[show has (tv C F B O .e) x=C x from zUi hC x]at H;obtain⟨x0,x1,x2,x3,x4⟩:=Bk.five h.box;clear h;go_enter Tryz.func220,Tryz.ntmps220;go_wp2_with (go_at_call 191;refine H.out.mono ?_;rintro e w1 ⟨rfl,m,rfl⟩);go_ret;exact⟨rfl,zIw _ _⟩
theorem zRO{I}{P D}{p q1 q2 t n}{V}(w)(h:SAt I P D p q1 q2 t n V w):
  Calls Tryz.prog 181 #[.pointer (some ⟨p,0,none⟩)] w (Bt.Made (t+1) w):=by
 have hcap:Bt.cap ((t:Int)+1)=t+1:=by have:=h.tn;have:=h.n4;unfold Bt.cap;omega
 have N:=zV7 (Bt.zHC ((t:Int)+1) w);rw[hcap]at N;have ht:=h.tn;have h4:=h.n4;obtain⟨x0,x1,x2,x3,x4⟩:=Bk.five h.box;clear h hcap;go_enter Tryz.func181,Tryz.ntmps181;go_wp2_with (go_at_call 165;refine N.out.mono ?_;rintro e w2 ⟨p,d,rfl,hM⟩;have M:=zV7 hM;clear hM);go_ret;exact⟨p,d,rfl,M.out⟩
end Fi
namespace Fi
open Gr (step ivs zEZ)
structure LOk (L:List Int) (c:Nat):Prop where
 fit:∀x∈L,x<=9223372036854775807
 len:L.length<=17592186044416
 cap:L.length<=c
theorem LOk.at{L}{c}(h:LOk L c){k}(hk:k<L.length):L[k]<=9223372036854775807:=h.fit _ (List.getElem_mem hk)
def zDR(C:Int->Bool)(L:List Int)(a:Option Addr)(c:Nat)(w:World)(e:Ending)(w':World):Prop:=
 e=.returned (.tuple #[.slice a (zBl C L) c,.bool (allC C L)])/\Below w.heap.size w w'
def zVP(C:Int->Bool)(L:List Int)(W:World)(i:Value)(w:World):Prop:=
 ∃k:Nat,k<=L.length/\i=.int .i64 k/\(∀j (h:j<L.length),j<k->C L[j]=true)/\Below W.heap.size W w
theorem zDU{I:Ix->Prop}{P D:Ix->Nat}{p q1 q2 t n:Nat}{C:Int->Bool}{F B:Int->Int->Bool}{O:Nat->Bool}(w:World)(h:SAt I P D p q1 q2 t n (tv C F B O) w)(hC:Rng C n)(L:List Int)(a:Option Addr)(c:Nat)(hR:Sep.Reads a (ivs L) w)(hL:LOk L c):
  Calls Tryz.prog 183 #[.pointer (some ⟨p,0,none⟩),.slice a L.length c] w (zDR C L a c w):=by
 have EM:=zV7 (fun x hx w1 (b:Below w.heap.size w w1)=>zPb w1 (h.went b) hC x hx);have RR:=zV7 (fun w1 (b:Below w.heap.size w w1)=>Sep.Reads.below hR b (Nat.le_refl _));have LO:=zV7 hL;have hl:=hL.len;have hcap:=hL.cap;clear h hR hL hC;go_enter Tryz.func183,Tryz.ntmps183;go_wp2;go_loopw [10] (fun i wr=>zVP C L w i wr) (fun i _=>L.length-(intOf i).toNat)
 case atStart=>exact⟨0,Nat.zero_le _,rfl,(fun j _ hj=>absurd hj (by omega)),.refl _ _⟩
 case round=>
  obtain⟨k,hk,rfl,hP,hb⟩:=hrel;have B:=zV7 hb;have PP:=zV7 hP;clear hb hP
  by_cases hlt:k<L.length
  ·obtain⟨b,o,rfl,hc⟩:=zEZ (RR.out _ B.out) hlt;have E1:=zV7 (EM.out L[k] (LO.out.at hlt) _ B.out);cases hz:C L[k]with
   |true=>
    have P2:=zV7 (show∀j (h:j<L.length),j<k+1->C L[j]=true from fun j h hj=>by
     by_cases e:j=k
     ·subst e;exact hz
     ·exact PP.out j h (by omega))
    rw[hz]at E1;clear hz;generalize L[k]=s at*;go_wp2_with (go_at_call 220;refine E1.out.mono ?_;rintro e w1 ⟨rfl,hb⟩;have B1:=zV7 (Gr.step B.out hb);clear hb);go_roundw
    case rel=>exact⟨k+1,by omega,by go_num,P2.out,B1.out⟩
    case measure=>simp[intOf];omega
   |false=>
    obtain⟨h1,h2⟩:=zH4 hlt PP.out hz;have H1:=zV7 h1;have H2:=zV7 h2;rw[hz]at E1;clear hz h1 h2;generalize L[k]=s at*;go_wp2_with (go_at_call 220;refine E1.out.mono ?_;rintro e w1 ⟨rfl,hb⟩;have B1:=zV7 (Gr.step B.out hb);clear hb);go_ret2;refine⟨?_,B1.out⟩;rw[H1.out,H2.out]
    first|rfl|(congr 1;omega)
  ·obtain⟨h1,h2⟩:=zH3 (C:=C) (l:=L) fun j hj=>PP.out j hj (by omega)
   have H1:=zV7 h1;have H2:=zV7 h2;clear h1 h2;go_wp2;go_ret2;refine⟨?_,B.out⟩;rw[H1.out,H2.out]
   rfl
end Fi
namespace Fi
open Gr (Is step ivs zEZ)
open Bt (SetAt Keeps OtherV gains)
theorem zG1{d}{w w'}(h:Below w.heap.size w w'):Keeps d w w':=⟨h.os,h.tape,h.output,h.size,fun k hk _=>h.block k hk⟩
theorem zE4{W0 w w'}{d}(h:Below W0.heap.size W0 w)(hd:W0.heap.size<=d)(k:Keeps d w w'):Below W0.heap.size W0 w':=h.trans (k.below hd h.size)
def zMC(p d m:Nat)(V:Nat->Bool)(F:Int->Int->Bool)(X:List Int)(w:World)(e:Ending)(w':World):Prop:=
 ∃b,e=.returned (.bool b)/\Gn V F X b/\SetAt p d m (jn V F X) w'/\Keeps d w w'
def zVR(I:Ix->Prop)(P D:Ix->Nat)(p q1 q2 t n:Nat)(T:Ix->Nat->Bool)(F:Int->Int->Bool)(k:Ix)(X:List Int)(W:World)(m i:Value)(w:World):Prop:=
 ∃(j:Nat) (b:Bool),j<=X.length/\i=.int .i64 j/\m=.bool b/\Gn (T k) F (X.take j) b/\SAt I P D p q1 q2 t n (upd T k (jn (T k) F (X.take j))) w/\Keeps (D k) W w
theorem zOp{X:List Int}{j}(h):X.take (j+1)=X.take j++[X[j]]:=by rw[List.take_succ_eq_append_getElem h]
theorem zTn{F:Int->Int->Bool}{n:Nat}(h2:∀x i,F x i=true->0<=x/\x<(n:Int)){y}(hy:¬(0<=y/\y<(n:Int))):rw' (F y)=fun _=>false:=by
 funext i
 unfold rw';cases e:F y (i:Int)with
 |false=>rfl
 |true=>exact absurd (h2 _ _ e) hy
theorem SAt.otherV{I}{P D}{p q1 q2 t n}{C}{F B}{O V}{k}{w}(h:SAt I P D p q1 q2 t n (upd (tv C F B O) k V) w)(hk:I k)(h2:∀x i,F x i=true->0<=x/\x<(n:Int))(y)(hne:0<=y->y<(n:Int)->k≠.f y.toNat):
  ∃m,OtherV (D k) (fptr P n y) m (rw' (F y)) w:=by
 unfold fptr
 by_cases hy:0<=y/\y<(n:Int)
 ·rw[if_pos hy];replace hne:=hne hy.1 hy.2;have:=h.fam.other hk (h.if_ y.toNat (by omega)) (fun e=>hne e.symm);rw[zAh _ _ (fun e=>hne e.symm)]at this;refine⟨t+1,?_⟩;have e:((y.toNat:Nat):Int)=y:=by omega
  have e2:tv C F B O (.f y.toNat)=rw' (F y):=by show rw' (F ((y.toNat:Nat):Int))= _;rw[e]
  rw[e2]at this;exact this
 ·rw[if_neg hy,zTn h2 hy];exact⟨0,.nil _⟩
theorem SAt.wrote2{I}{P D}{p q1 q2 t n}{T}{V B}{k}{w w'}(h:SAt I P D p q1 q2 t n (upd T k V) w)(hk:I k)(hm:rm t n k=t+1)(hs:SetAt (P k) (D k) (t+1) B w')(hK:Keeps (D k) w w'):SAt I P D p q1 q2 t n (upd T k B) w':=by
 have:=h.wrote hk (B:=B) (by rw[hm];exact hs) hK
 rwa [zOw]at this
theorem SAt.target{I}{P D}{p q1 q2 t n}{T}{V}{k}{w}(h:SAt I P D p q1 q2 t n (upd T k V) w)(hk:I k)(hm:rm t n k=t+1):SetAt (P k) (D k) (t+1) V w:=by
 have:=h.fam.at_ k hk
 rw[zCA,hm]at this;exact this
theorem zJF{I:Ix->Prop}{P D:Ix->Nat}{p q1 q2 t n:Nat}{C:Int->Bool}{F B:Int->Int->Bool}{O:Nat->Bool}(W0 w:World)(h:SAt I P D p q1 q2 t n (tv C F B O) w)(hT:TOk t n C F B)(k:Ix)(hk:I k)(hm:rm t n k=t+1)(hb0:Below W0.heap.size W0 w)(hd:W0.heap.size<=D k)
  (X:List Int) (a:Option Addr) (c:Nat) (hR:Sep.Reads a (ivs X) W0) (hL:LOk X c):
  Calls Tryz.prog 184 #[.pointer (some ⟨p,0,none⟩),.pointer (some ⟨P k,0,none⟩),.slice a X.length c] w (zMC (P k) (D k) (t+1) (tv C F B O k) F X w):=by
 have FI:=zV7 (fun T w1 (b:SAt I P D p q1 q2 t n T w1) x=>zGt w1 b x);have RR:=zV7 (fun w1 (b:Below W0.heap.size W0 w1)=>Sep.Reads.below hR b (Nat.le_refl _));have HK:=zV7 hk;have HM:=zV7 hm;have HD:=zV7 hd;have TO:=zV7 hT;have B0:=zV7 hb0;have S0:=zV7 (show SAt I P D p q1 q2 t n (upd (tv C F B O) k (jn (tv C F B O k) F (X.take 0))) w by rw[List.take_zero,zUk,upd_same];exact h);have G0:=zV7 (show Gn (tv C F B O k) F (X.take 0) false from by rw[List.take_zero];exact zUf _ _);have LO:=zV7 hL;have hl:=hL.len;have hcap:=hL.cap
 have SELF:=zV7 (show∀y:Int,0<=y->k=.f y.toNat->tv C F B O k=rw' (F y)/\fptr P n y=fptr P n y from fun y hy e=>by
  subst e;refine⟨?_,rfl⟩;show rw' (F ((y.toNat:Nat):Int))= _
  rw[show((y.toNat:Nat):Int)=y from by omega])
 clear h hR hL hT hk hm hb0 hd;go_enter Tryz.func184,Tryz.ntmps184;go_wp2;go_loopw [7,12] (fun m i wr=>zVR I P D p q1 q2 t n (tv C F B O) F k X w m i wr) (fun _ i _=>X.length-(intOf i).toNat)
 case atStart=>exact⟨0,false,Nat.zero_le _,rfl,rfl,G0.out,S0.out,.refl _ _⟩
 case round=>
  clear S0 G0;obtain⟨j,b,hj,rfl,rfl,hG,hS,hKp⟩:=hrel;have GG:=zV7 hG;have S:=zV7 hS;have KP:=zV7 hKp;clear hG hS hKp
  by_cases hlt:j<X.length
  ·obtain⟨bb,o,rfl,hc⟩:=zEZ (RR.out _ (zE4 B0.out HD.out KP.out)) hlt;have TN:=zV7 (zOp hlt);have FC:=zV7 (FI.out _ _ S.out X[j]);have hfy:=LO.out.at hlt
   by_cases hself:0<=X[j]/\X[j]<(n:Int)/\k=.f X[j].toNat
   ·obtain⟨hs0,hs1,hs2⟩:=hself;have E1:=(SELF.out X[j] hs0 hs2).1;have EP:=zV7 (show fptr P n X[j]=.pointer (some ⟨P k,0,none⟩)by unfold fptr;rw[if_pos ⟨hs0,hs1⟩,hs2]);have GN:=zV7 (show Gn (tv C F B O k) F (X.take (j+1)) b by rw[TN.out];exact zSr (fun i hi=>by rw[E1];exact hi) GG.out)
    have SN:=zV7 (show∀w',SAt I P D p q1 q2 t n (upd (tv C F B O) k (jn (tv C F B O k) F (X.take j))) w'->SAt I P D p q1 q2 t n (upd (tv C F B O) k (jn (tv C F B O k) F (X.take (j+1)))) w' from fun w' h=>by
     rw[TN.out,←zS5 (X.take j) E1]
     exact h)
    have OS:=zV7 (fun w1 (hS:SAt I P D p q1 q2 t n (upd (tv C F B O) k (jn (tv C F B O k) F (X.take j))) w1)=>Bt.zJQ w1 (hS.target HK.out HM.out));rw[EP.out]at FC;clear E1 hs2 EP SELF GG;generalize X[j]=y at*
    go_wp2_with (first
     |(go_at_call 185;refine FC.out.mono ?_;rintro e w1 ⟨rfl,hb⟩;have S1:=zV7 (S.out.went hb);have K1:=zV7 (KP.out.trans (zG1 hb));clear hb)
     | (go_at_call 164;refine(OS.out _ S1.out).mono ?_;rintro e w2 ⟨rfl,hs,hk⟩;have S2:=zV7 (SN.out _ (S1.out.wrote2 HK.out HM.out hs hk));have K2:=zV7 (K1.out.trans hk);clear hs hk))
    go_roundw
    case rel=>exact⟨j+1,b,by omega,by go_num,rfl,GN.out,S2.out,K2.out⟩
    case measure=>simp[intOf];omega
   ·have OC:=zV7 (show∀w1,SAt I P D p q1 q2 t n (upd (tv C F B O) k (jn (tv C F B O k) F (X.take j))) w1->Calls Tryz.prog 164 #[.pointer (some ⟨P k,0,none⟩),fptr P n X[j]] w1 (Bt.Wrote (gains (jn (tv C F B O k) F (X.take j)) (t+1) (rw' (F X[j]))) (P k) (D k) (t+1) (jn (tv C F B O k) F (X.take (j+1))) w1)from fun w1 hS=>by
     obtain⟨m,ho⟩:=hS.otherV HK.out TO.out.f2 X[j] (fun h0 h1 e=>hself ⟨h0,h1,e⟩);have:=Bt.zIJ w1 (hS.target HK.out HM.out) ho
     rwa [zS6 (X.take j) (TO.out.f1 X[j]),←TN.out]at this)
    have GN:=zV7 (show Gn (tv C F B O k) F (X.take (j+1)) (b||gains (jn (tv C F B O k) F (X.take j)) (t+1) (rw' (F X[j])))by rw[TN.out];exact zSs (TO.out.f1 X[j]) GG.out);clear hself SELF GG TN;generalize gains (jn (tv C F B O k) F (X.take j)) (t+1) (rw' (F X[j]))=g at*;generalize fptr P n X[j]=u at*;generalize X[j]=y at*;cases g with
    |false=>
     rw[Bool.or_false]at GN
     go_wp2_with (first
      |(go_at_call 185;refine FC.out.mono ?_;rintro e w1 ⟨rfl,hb⟩;have S1:=zV7 (S.out.went hb);have K1:=zV7 (KP.out.trans (zG1 hb));clear hb)
      | (go_at_call 164;refine(OC.out _ S1.out).mono ?_;rintro e w2 ⟨rfl,hs,hk⟩;have S2:=zV7 (S1.out.wrote2 HK.out HM.out hs hk);have K2:=zV7 (K1.out.trans hk);clear hs hk))
     go_roundw
     case rel=>exact⟨j+1,b,by omega,by go_num,rfl,GN.out,S2.out,K2.out⟩
     case measure=>simp[intOf];omega
    |true=>
     rw[Bool.or_true]at GN
     go_wp2_with (first
      |(go_at_call 185;refine FC.out.mono ?_;rintro e w1 ⟨rfl,hb⟩;have S1:=zV7 (S.out.went hb);have K1:=zV7 (KP.out.trans (zG1 hb));clear hb)
      | (go_at_call 164;refine(OC.out _ S1.out).mono ?_;rintro e w2 ⟨rfl,hs,hk⟩;have S2:=zV7 (S1.out.wrote2 HK.out HM.out hs hk);have K2:=zV7 (K1.out.trans hk);clear hs hk))
     go_roundw
     case rel=>exact⟨j+1,true,by omega,by go_num,rfl,GN.out,S2.out,K2.out⟩
     case measure=>simp[intOf];omega
  ·have E:X.take j=X:=List.take_of_length_le (by omega);have T1:=zV7 (S.out.target HK.out HM.out);rw[E]at T1 GG;clear E;go_wp2;go_ret;exact⟨b,rfl,GG.out,T1.out,KP.out⟩
theorem zNM{I}{P D}{p q1 q2 t n}{V}(w)(h:SAt I P D p q1 q2 t n V w)(X)(a)(c)(hR:Sep.Reads a (ivs X) w)(hL:LOk X c):
  Calls Tryz.prog 184 #[.pointer (some ⟨p,0,none⟩),.pointer none,.slice a X.length c] w (Is (.bool false) w):=by
 have FI:=zV7 (fun w1 (b:Below w.heap.size w w1) x=>zGt w1 (h.went b) x);have RR:=zV7 (fun w1 (b:Below w.heap.size w w1)=>Sep.Reads.below hR b (Nat.le_refl _));have OR:=zV7 (fun u w1=>Bt.zRu (u:=u) w1);have LO:=zV7 hL;have hl:=hL.len;have hcap:=hL.cap;clear h hR hL;go_enter Tryz.func184,Tryz.ntmps184;go_wp2;go_loopw [7,12] (fun m i wr=>∃j:Nat,j<=X.length/\i=.int .i64 j/\m=.bool false/\Below w.heap.size w wr) (fun _ i _=>X.length-(intOf i).toNat)
 case atStart=>exact⟨0,Nat.zero_le _,rfl,rfl,.refl _ _⟩
 case round=>
  obtain⟨j,hj,rfl,rfl,hb⟩:=hrel;have B:=zV7 hb;clear hb
  by_cases hlt:j<X.length
  ·obtain⟨bb,o,rfl,hc⟩:=zEZ (RR.out _ B.out) hlt;have FC:=zV7 (FI.out _ B.out X[j]);generalize fptr P n X[j]=u at*;generalize X[j]=y at*
   go_wp2_with (first
    |(go_at_call 185;refine FC.out.mono ?_;rintro e w1 ⟨rfl,hb⟩;have B1:=zV7 (Gr.step B.out hb);clear hb)
    | (go_at_call 164;refine(OR.out _ _).mono ?_;rintro e w2 ⟨rfl,rfl⟩))
   go_roundw
   case rel=>exact⟨j+1,by omega,by go_num,rfl,B1.out⟩
   case measure=>simp[intOf];omega
  ·go_wp2;go_ret;exact⟨rfl,B.out⟩
end Fi
namespace Fi
open Gr (boxed step ivs drawn)
open Bt (Keeps putR putI)
open Rw (Bk)
def Ds(I:Ix->Prop)(D:Ix->Nat):Nat->Prop:=fun b=>∃k,I k/\b=D k
theorem zEq{I}{D}{k}(hk:I k){w w'}(h:Keeps (D k) w w'):Sep.Fr (Ds I D) w w':=
 ⟨h.os,h.tape,h.output,h.size,fun i hi hS=>h.block i hi fun e=>hS ⟨k,hk,e⟩⟩
theorem zPI{I}{D}{W0 w w'}(hb:Below W0.heap.size W0 w)(hD:∀k,I k->W0.heap.size<=D k)(h:Sep.Fr (Ds I D) w w'):Below W0.heap.size W0 w':=
 hb.trans (h.below (fun b ⟨k,hk,e⟩=>e▸hD k hk) hb.size)
theorem zQ3{C}{n}(h:Rng C n){r}(h0:0<=r.1)(h1:r.1<(n:Int)):Rng (addC C r) n:=fun x k=>by
 unfold addC at k;rw[Bool.or_eq_true,Bool.and_eq_true,decide_eq_true_iff]at k;rcases k with k|⟨e,_⟩
 ·exact h x k
 ·subst e;exact⟨h0,h1⟩
theorem zQs{C}{n s}{R}(hs:s<n)(ha:allC C R=true):putI (rw' C) n (s:Int)=rw' (addC C ((s:Int),R))/\putR (rw' C) n (s:Int)= !C (s:Int):=by
 constructor
 ·unfold putI;rw[if_pos (by omega)]
  funext i
  unfold Bt.put rw' addC;dsimp only;rw[ha,Bool.and_true]
  congr 1
  rw[decide_eq_decide];omega
 ·unfold putR;simp[rw',hs]
theorem zCq{C}{F}{m}(h:∀x,Rng (F x) m)(l):Rng (zAg C F l) m:=fun t k=>by
 obtain⟨_,y,_,_,_,h3⟩:=zCG.1 k;exact h y t h3
theorem zS4{C}{F}{s:Nat}{R}:jn (rw' (F (s:Int))) F (R.take (zBl C R))=rw' (addF C F ((s:Int),R) (s:Int)):=by
 funext i
 unfold jn rw' addF;dsimp only;rw[zCF,decide_eq_true rfl,Bool.true_and]
theorem zM0{C}{F}{V}{R}{b}(h:Gn V F (R.take (zBl C R)) b):b=true↔∃i:Nat,zAg C F R (i:Int)=true/\V i=false:=by
 unfold Gn at h;rw[h];constructor
 ·rintro⟨i,⟨y,hy,h1⟩,h2⟩;refine⟨i,?_,h2⟩;rw[←zCF,List.any_eq_true];exact⟨y,hy,h1⟩
 ·rintro⟨i,h1,h2⟩;rw[←zCF,List.any_eq_true]at h1;obtain⟨y,hy,h3⟩:=h1;exact⟨i,⟨y,hy,h3⟩,h2⟩
theorem zUX{Q:Int->Prop}{m:Nat}(h:∀t,Q t->0<=t):(∃t,Q t)↔∃i:Nat,Q (i:Int):=
 ⟨fun⟨t,ht⟩=>⟨t.toNat,by rw[show((t.toNat:Nat):Int)=t from by have:=h t ht;omega];exact ht⟩,fun⟨i,hi⟩=>⟨i,hi⟩⟩
theorem LOk.take{L}{c}(h:LOk L c)(m):LOk (L.take m) c:=
 ⟨fun x hx=>h.fit x (List.mem_of_mem_take hx),Nat.le_trans (List.length_take_le' _ _) h.len,Nat.le_trans (List.length_take_le' _ _) h.cap⟩
theorem zDA{L}{a}{w}(h:Sep.Reads a (ivs L) w)(m):Sep.Reads a (ivs (L.take m)) w:=by
 have e:ivs (L.take m)=(ivs L).take m:=by unfold ivs;rw[List.map_take]
 rw[e];intro i hi
 have hi2:i<(ivs L).length:=by
  rw[List.length_take]at hi;omega
 obtain⟨b,o,e,hc⟩:=h i hi2;refine⟨b,o,e,?_⟩;rw[hc,List.getElem_take]
theorem take_len{C}(L):(L.take (zBl C L)).length=zBl C L:=by
 rw[List.length_take];have:=zPq C L;omega
def AddE(I:Ix->Prop)(P D:Ix->Nat)(p q1 q2 t n:Nat)(C:Int->Bool)(F B:Int->Int->Bool)(O:Nat->Bool)(r:Int×List Int)(w:World)(e:Ending)(w':World):Prop:=
 ∃b,e=.returned (.bool b)/\(b=true↔allC C r.2=true/\C r.1=false)/\SAt I P D p q1 q2 t n (tv (addC C r) F B O) w'/\Sep.Fr (Ds I D) w w'
def AddF(I:Ix->Prop)(P D:Ix->Nat)(p q1 q2 t n:Nat)(C:Int->Bool)(F B:Int->Int->Bool)(O:Nat->Bool)(r:Int×List Int)(w:World)(e:Ending)(w':World):Prop:=
 ∃b,e=.returned (.bool b)/\(b=true↔∃t,zAg C F r.2 t=true/\F r.1 t=false)/\SAt I P D p q1 q2 t n (tv C (addF C F r) B O) w'/\Sep.Fr (Ds I D) w w'
theorem zSC{I:Ix->Prop}{P D:Ix->Nat}{p q1 q2 t n:Nat}{C:Int->Bool}{F B:Int->Int->Bool}{O:Nat->Bool}(w:World)(h:SAt I P D p q1 q2 t n (tv C F B O) w)(hT:TOk t n C F B)
  (s:Nat) (hs:s<n) (R:List Int) (a:Option Addr) (c:Nat) (hR:Sep.Reads a (ivs R) w) (hL:LOk R c):
  Calls Tryz.prog 160 #[.pointer (some ⟨p,0,none⟩),.agg #[.int .i64 (s:Int),.slice a R.length c]] w (AddE I P D p q1 q2 t n C F B O ((s:Int),R) w):=by
 have bx:=boxed w (.cells #[.int .i64 (s:Int),.slice a R.length c] 55);have BX:=zV7 bx;have Q0:=zV7 (Bk.new w #[.int .i64 (s:Int),.slice a R.length c] 55 _ rfl);have S0:=zV7 (h.went bx);have HD:=zV7 (zDU _ S0.out hT.c R a c (Sep.Reads.below hR bx (Nat.le_refl _)) hL);have hn:=h.n4;have HDp:=zV7 (h.off .e h.ie);have HIE:=zV7 h.ie;have hdl:D .e<w.heap.size:=(h.fam.at_ .e h.ie).ind;have hdp:=(h.off .e h.ie).1;clear h hR hL bx;cases ha:allC C R with
 |false=>
  have E:=zV7 (show addC C ((s:Int),R)=C from zHX fun k=>by rw[show allC C ((s:Int),R).2=false from ha]at k;cases k);have EB:=zV7 (show((false=true)↔allC C ((s:Int),R).2=true/\C ((s:Int),R).1=false)from⟨(fun k=>by cases k),(fun k=>by rw[show allC C ((s:Int),R).2=false from ha]at k;cases k.1)⟩);unfold zDR at HD;rw[ha]at HD;clear ha hT;go_enter Tryz.func160,Tryz.ntmps160;go_wp2_with (go_at_call 183;refine HD.out.mono ?_;rintro e w1 ⟨rfl,hb⟩;have B1:=zV7 (Gr.step BX.out hb);have S1:=zV7 (S0.out.went hb);clear hb);go_quiet (fail);go_wp2;go_ret;refine⟨false,rfl,EB.out,by rw[E.out];exact S1.out.went (zIw _ _),Sep.Fr.of_below (Gr.step B1.out (zIw _ _))⟩
 |true=>
  obtain⟨p1,p2⟩:=zQs hs ha;have E1:=zV7 p1;have E2:=zV7 p2;have EB:=zV7 (show((!C (s:Int))=true↔allC C ((s:Int),R).2=true/\C ((s:Int),R).1=false)by simp[ha]);unfold zDR at HD;rw[ha]at HD;have PU:=zV7 (fun w1 (k:SAt I P D p q1 q2 t n (tv C F B O) w1)=>Bt.zCs w1 (k.fam.at_ .e k.ie) (s:Int) (by omega));clear ha hT p1 p2;go_enter Tryz.func160,Tryz.ntmps160;go_wp2_with (go_at_call 183;refine HD.out.mono ?_;rintro e w1 ⟨rfl,hb⟩;have B1:=zV7 (Gr.step BX.out hb);have S1:=zV7 (S0.out.went hb);have Q1:=zV7 (Q0.out.went hb);clear hb);obtain⟨y0,y1,yf⟩:=Q1.out.two;obtain⟨x0,x1,x2,x3,x4⟩:=Bk.five S1.out.box
  have HQ:=zV7 (show∀w',Sep.Fr (fun b=>b=D .e) w1 w'->w'.cell? ⟨w.heap.size,0,none⟩=some (.int .i64 (s:Int))/\w'.cell? ⟨p,2,none⟩=some (.pointer (some ⟨P .e,0,none⟩))/\Sep.Fr (fun b=>b=D .e) w1 w' from
   fun w' hF=>⟨hF.cell y0 (by simp;omega),hF.cell x2 (by simp;omega),hF⟩)
  have hF1:Sep.Fr (fun b=>b=D .e) w1 w1.drew:=(Sep.Fr.refl _ _).drew;clear y1 yf x0 x1 x3 x4
  go_region_held3 (fun w'=>w'.cell? ⟨w.heap.size,0,none⟩=some (.int .i64 (s:Int))/\w'.cell? ⟨p,2,none⟩=some (.pointer (some ⟨P .e,0,none⟩))/\Sep.Fr (fun b=>b=D .e) w1 w')
   (exact HQ.out _ (by assumption))
   (first
    |(go_at_call 166;refine(PU.out _ (S1.out.went (drawn _))).mono ?_;rintro e w2 ⟨rfl,hs2,hk2⟩;have S2:=zV7 ((S1.out.went (drawn _)).wrote HIE.out hs2 hk2);have K2:=zV7 hk2;have hF2:Sep.Fr (fun b=>b=D .e) w1 w2:=hF1.trans ⟨hk2.os,hk2.tape,hk2.output,hk2.size,fun i hi hb=>hk2.block i hi hb⟩ (fun _ h=> .inl h);clear hs2 hk2)
    |fail)
  go_wp2;go_ret;refine⟨_,rfl,?_,?_,(Sep.Fr.of_below (Gr.step B1.out (drawn _))).trans (zEq HIE.out K2.out) fun _ h=> .inl h⟩
  ·rw[show putR (tv C F B O .e) (rm t n .e) (s:Int)= !C (s:Int)from E2.out];exact EB.out
  ·have:=S2.out
   rwa [tv_e (D:=addC C ((s:Int),R)) (show putI (tv C F B O .e) (rm t n .e) (s:Int)=rw' (addC C ((s:Int),R))from E1.out)]at this
theorem zSD{I:Ix->Prop}{P D:Ix->Nat}{p q1 q2 t n:Nat}{C:Int->Bool}{F B:Int->Int->Bool}{O:Nat->Bool}(W0 w:World)(h:SAt I P D p q1 q2 t n (tv C F B O) w)(hT:TOk t n C F B)(hb0:Below W0.heap.size W0 w)(hD:∀k,I k->W0.heap.size<=D k)
  (s:Nat) (hs:s<n) (R:List Int) (a:Option Addr) (c:Nat) (hR:Sep.Reads a (ivs R) W0) (hL:LOk R c):
  Calls Tryz.prog 161 #[.pointer (some ⟨p,0,none⟩),.agg #[.int .i64 (s:Int),.slice a R.length c]] w (AddF I P D p q1 q2 t n C F B O ((s:Int),R) w):=by
 have bx:=boxed w (.cells #[.int .i64 (s:Int),.slice a R.length c] 55);have BX:=zV7 bx;have Q0:=zV7 (Bk.new w #[.int .i64 (s:Int),.slice a R.length c] 55 _ rfl);have S0:=zV7 (h.went bx);have HD:=zV7 (zDU _ S0.out hT.c R a c (Sep.Reads.below hR (Gr.step hb0 bx) (Nat.le_refl _)) hL);have hn:=h.n4;have FI:=zV7 (fun w1 (b:SAt I P D p q1 q2 t n (tv C F B O) w1)=>zGt w1 b (s:Int));have EP:=zV7 (show fptr P n (s:Int)=.pointer (some ⟨P (.f s),0,none⟩)by unfold fptr;rw[if_pos (by omega)];rfl);have JO:=zV7 (fun w1 (k:SAt I P D p q1 q2 t n (tv C F B O) w1) (hb:Below W0.heap.size W0 w1)=>zJF W0 w1 k hT (.f s) (k.if_ s hs) rfl hb (hD _ (k.if_ s hs)) (R.take (zBl C R)) a c (zDA hR _) (hL.take _));rw[take_len]at JO;rw[EP.out]at FI;have HIF:=zV7 (h.if_ s hs);have HB0:=zV7 hb0;have RG:=zV7 (zCq (C:=C) hT.f1 R);clear h hR hL bx hT hb0 hD EP;unfold zDR at HD;go_enter Tryz.func161,Tryz.ntmps161
 go_wp2_with (first
  |(go_at_call 183;refine HD.out.mono ?_;rintro e w1 ⟨rfl,hb⟩;have B1:=zV7 (Gr.step BX.out hb);have S1:=zV7 (S0.out.went hb);have Q1:=zV7 (Q0.out.went hb);clear hb;obtain⟨y0,y1,yf⟩:=Q1.out.two)
  |(go_at_call 185;refine(FI.out _ S1.out).mono ?_;rintro e w2 ⟨rfl,hb⟩;have B2:=zV7 (Gr.step B1.out hb);have S2:=zV7 (S1.out.went hb);clear hb)
  | (go_at_call 184;refine(JO.out _ S2.out (Gr.step HB0.out B2.out)).mono ?_;rintro e w3 ⟨b,rfl,hg,hs3,hk3⟩;have G3:=zV7 hg;have S3:=zV7 (S2.out.wrote HIF.out hs3 hk3);have K3:=zV7 hk3;clear hg hs3 hk3))
 go_ret;refine⟨b,rfl,?_,?_,(Sep.Fr.of_below B2.out).trans (zEq HIF.out K3.out) fun _ h=> .inl h⟩
 ·rw[zM0 G3.out,zUX (m:=0) (fun t ht=>(RG.out t ht.1).1)];exact Iff.rfl
 ·have:=S3.out
  rwa [tv_f (H:=addF C F ((s:Int),R)) (show jn (tv C F B O (.f s)) F (R.take (zBl C R))=rw' (addF C F ((s:Int),R) (s:Int))from zS4) (fun x hx=>by funext t;unfold addF;dsimp only;rw[decide_eq_false hx];simp)]at this
end Fi
namespace Fi
open Gr (Gram nonB step ivs)
open Bt (SetAt Keeps orr gains)
open Rw (Bk)
theorem zLn{L}{b o}{w}(h:Sep.Reads (some ⟨b,o,none⟩) (ivs L) w)(m):Sep.Reads (some ⟨b,o+m,none⟩) (ivs (L.drop m)) w:=by
 have e:ivs (L.drop m)=(ivs L).drop m:=by unfold ivs;rw[List.map_drop]
 rw[e];intro i hi
 have hi2:m+i<(ivs L).length:=by
  rw[List.length_drop]at hi;omega
 obtain⟨b',o',e,hc⟩:=h (m+i) hi2;injection e with e
 injection e with e1 e2 _
 subst e1;subst e2;refine⟨b,o+m,rfl,?_⟩;rw[List.getElem_drop,Nat.add_assoc];exact hc
theorem LOk.drop{L}{c}(h:LOk L c)(m):LOk (L.drop m) (c-m):=
 ⟨fun x hx=>h.fit x (List.mem_of_mem_drop hx),by rw[List.length_drop];have:=h.len;omega,by rw[List.length_drop];have:=h.cap;omega⟩
def zVU(p d m:Nat)(V U:Nat->Bool)(w:World)(e:Ending)(w':World):Prop:=
 ∃g,e=.returned (.bool g)/\(g=true↔∃i:Nat,U i=true/\V i=false)/\SetAt p d m (fun i=>V i||U i) w'/\Keeps d w w'
theorem zUy{I}{P D}{p q1 q2 t n}{C}{F B}{O V}{s x}(w)(h:SAt I P D p q1 q2 t n (upd (tv C F B O) (.g x) V) w)(hx:t<x/\x<n)(hs:t<s/\s<n)(hr:Rng (B (s:Int)) (t+1))(he:s=x->∀i:Nat,B (s:Int) (i:Int)=true->V i=true):
  Calls Tryz.prog 164 #[.pointer (some ⟨P (.g x),0,none⟩),.pointer (some ⟨P (.g s),0,none⟩)] w (zVU (P (.g x)) (D (.g x)) (t+1) V (rw' (B (s:Int))) w):=by
 have hk:=h.ig x hx.1 hx.2;have ht:=h.target hk rfl
 by_cases e:s=x
 ·subst e;refine(Bt.zJQ w ht).mono ?_;rintro e w' ⟨rfl,h1,h2⟩
  have E:(fun i=>V i||rw' (B (s:Int)) i)=V:=by
   funext i
   unfold rw';cases k:B (s:Int) (i:Int)with
   |false=>simp
   |true=>rw[he rfl i k];rfl
  refine⟨false,rfl,⟨(fun k=>by cases k),fun⟨i,k1,k2⟩=>?_⟩,by rw[E];exact h1,h2⟩;rw[he rfl i k1]at k2;cases k2
 ·have ho:=h.fam.other hk (h.ig s hs.1 hs.2) (fun k=>e (by injection k));rw[zAh _ _ (fun k=>e (by injection k))]at ho;refine(Bt.zIJ w ht ho).mono ?_;rintro e w' ⟨rfl,h1,h2⟩
  have E:orr V (t+1) (tv C F B O (.g s))=fun i=>V i||rw' (B (s:Int)) i:=by
   funext i
   unfold orr;show(V i||(rw' (B (s:Int)) i&&_))= _;cases k:rw' (B (s:Int)) i with
   |false=>simp
   |true=>
    have:=(hr _ k).2;have h3:i<t+1:=by omega
    simp[h3]
  refine⟨_,rfl,?_,by rw[←E];exact h1,h2⟩;unfold gains;rw[List.any_eq_true];constructor
  ·rintro⟨i,_,k⟩;rw[Bool.and_eq_true]at k;exact⟨i,k.1,by simpa using k.2⟩
  ·rintro⟨i,k1,k2⟩;refine⟨i,List.mem_range.2 (by have:=(hr _ k1).2;omega),?_⟩;rw[Bool.and_eq_true];exact⟨k1,by rw[k2];rfl⟩
theorem zRR{t n}{C}{F B}(h:TOk t n C F B)(r)(k){x}(h0:(t:Int)<x)(h1:x<(n:Int)):TOk t n C F (addB C F B r k x):=by
 refine⟨h.c,h.f1,h.f2,fun y i e=>?_,fun y i e=>?_⟩
 ·unfold addB behP at e;simp only[Bool.or_eq_true,Bool.and_eq_true,decide_eq_true_iff]at e;rcases e with e|⟨_,e|⟨_,e⟩⟩
  ·exact h.b1 y i e
  ·exact zCq h.f1 _ i e
  ·exact h.b1 _ i e
 ·unfold addB at e;simp only[Bool.or_eq_true,Bool.and_eq_true,decide_eq_true_iff]at e;rcases e with e|⟨e,_⟩
  ·exact h.b2 y i e
  ·subst e;exact⟨h0,h1⟩
theorem zPi{G}{n t}{B0 B}{j k}{b0 b b1 g}(h:TriedB G n (canB G) (fstB G) B0 j k B (b0||b))(hT:TOk t n (canB G) (fstB G) B)(hj)(hk:k<G.rules[j].2.length)(hn:nonB G G.rules[j].2[k]=true)(h0:0<=G.rules[j].2[k])(h1:G.rules[j].2[k]<(n:Int))
  (e1:b1=true↔∃i:Nat,zAg (canB G) (fstB G) (G.rules[j].2.drop (k+1)) (i:Int)=true/\B G.rules[j].2[k] (i:Int)=false)
  (e2:g=true↔allC (canB G) (G.rules[j].2.drop (k+1))=true/\∃i:Nat,B G.rules[j].1 (i:Int)=true/\(B G.rules[j].2[k] (i:Int)||zAg (canB G) (fstB G) (G.rules[j].2.drop (k+1)) (i:Int))=false) (m) (hm:m=(b||b1||g)):
  TriedB G n (canB G) (fstB G) B0 j (k+1) (addB (canB G) (fstB G) B G.rules[j] k G.rules[j].2[k]) (b0||m):=by
 have:=h.step (c:=b1||g) (zRk G) hj hk hn h0 h1 ?_
 ·rw[hm,←Bool.or_assoc,←Bool.or_assoc];rw[←Bool.or_assoc]at this;exact this
 ·rw[Bool.or_eq_true,e1,e2];constructor
  ·rintro(⟨i,k1,k2⟩|⟨ka,i,k1,k2⟩)
   ·refine⟨(i:Int),?_,k2⟩;unfold behP;rw[k1]
    rfl
   ·rw[Bool.or_eq_false_iff]at k2;refine⟨(i:Int),?_,k2.1⟩;unfold behP;rw[ka,k1];simp
  ·rintro⟨t',k1,k2⟩
   have hr:0<=t':=by
    unfold behP at k1;simp only[Bool.or_eq_true,Bool.and_eq_true]at k1;rcases k1 with k1|⟨_,k1⟩
    ·exact(zCq hT.f1 _ t' k1).1
    ·exact(hT.b1 _ t' k1).1
   obtain⟨i,rfl⟩:∃i:Nat,t'=(i:Int):=⟨t'.toNat,by omega⟩;unfold behP at k1;cases hl:zAg (canB G) (fstB G) (G.rules[j].2.drop (k+1)) (i:Int)with
   |true=>exact .inl ⟨i,hl,k2⟩
   |false=>
    rw[hl,Bool.false_or,Bool.and_eq_true]at k1;exact .inr ⟨k1.1,i,k1.2,by rw[k2,hl];rfl⟩
def AddB(I:Ix->Prop)(P D:Ix->Nat)(p q1 q2 t n:Nat)(G:Gram)(B0:Int->Int->Bool)(j:Nat)(b0:Bool)(O:Nat->Bool)(w:World)(e:Ending)(w':World):Prop:=
 ∃b B,e=.returned (.bool b)/\TriedB G n (canB G) (fstB G) B0 (j+1) 0 B (b0||b)/\TOk t n (canB G) (fstB G) B/\SAt I P D p q1 q2 t n (tv (canB G) (fstB G) B O) w'/\Sep.Fr (Ds I D) w w'
structure FSt (I:Ix->Prop) (P D:Ix->Nat) (p q1 q2 t n:Nat) (G:Gram) (B0:Int->Int->Bool) (j k:Nat) (b0 b:Bool) (O:Nat->Bool) (B:Int->Int->Bool) (W:World) (u0 u1:Value) (w:World):Prop where
 tr:TriedB G n (canB G) (fstB G) B0 j k B (b0||b)
 ok:TOk t n (canB G) (fstB G) B
 s:SAt I P D p q1 q2 t n (tv (canB G) (fstB G) B O) w
 fr:Sep.Fr (Ds I D) W w
 box:Bk W.heap.size #[u0,u1] 55 w
def zVO(I:Ix->Prop)(P D:Ix->Nat)(p q1 q2 t n:Nat)(G:Gram)(B0:Int->Int->Bool)(j:Nat)(b0:Bool)(O:Nat->Bool)(W:World)(u0 u1:Value)(l:Nat)(m i:Value)(w:World):Prop:=
 ∃(k:Nat) (b:Bool) (B:Int->Int->Bool),k<=l/\i=.int .i64 k/\m=.bool b/\FSt I P D p q1 q2 t n G B0 j k b0 b O B W u0 u1 w
theorem zVc{I}{P D}{p q1 q2 t n}{V}{w}(h:SAt I P D p q1 q2 t n V w):¬Ds I D w.heap.size:=fun⟨k,hk,e⟩=>by
 have:=(h.fam.at_ k hk).ind;omega
theorem FSt.went{I}{P D}{p q1 q2 t n}{G}{B0}{j k}{b0 b}{O}{B}{W}{u0 u1}{w w'}(h:FSt I P D p q1 q2 t n G B0 j k b0 b O B W u0 u1 w)(hb:Below w.heap.size w w'):FSt I P D p q1 q2 t n G B0 j k b0 b O B W u0 u1 w':=
 ⟨h.tr,h.ok,h.s.went hb,Rw.zED h.fr hb,h.box.went hb⟩
