/- A part of the proof. -/
import Derived.Test.YtkcaedinfnajaaaGreatDoorPk33
import Derived.Test.YtkcaedinfnajaaaGreatDoorPk34
set_option maxHeartbeats 16000000
set_option maxRecDepth 100000
set_option linter.unusedVariables false
namespace Go.Proofs.YtkcaedinfnajaaaGreatDoor
open Go.RowKit Go.Maps
namespace Fi
open Gr
theorem zJi{G:Gram}(h:zAs G=true){r:Int×List Int}(hr:r∈G.rules):nonB G r.1=true:=by
 unfold zAs at h;simp only[Bool.and_eq_true,List.all_eq_true]at h;exact(h.2 r hr).1
theorem zJ6{G:Gram}(h:zAs G=true){r:Int×List Int}(hr:r∈G.rules){y:Int}(hy:y∈r.2):1<=y/\y<=(top G:Int):=by
 unfold zAs at h;simp only[Bool.and_eq_true,List.all_eq_true]at h;have:=(h.2 r hr).2 y hy
 simpa using this
theorem zH5{G:Gram}(h:zAs G=true):nonB G G.start=true:=by
 unfold zAs at h;rw[Bool.and_eq_true]at h;exact h.1
theorem zDU{G:Gram}(h:zAs G=true):zOb G (top G+1):=fun r hr=>by
 have:=zAa.1 (zJi h hr);have e:top G=G.terms.length+G.nons.length:=rfl;omega
theorem tok0{G:Gram}(h:zAs G=true){C:Int->Bool}(hC:Rng C (top G+1)):TOk G.terms.length (top G+1) C (zCg G) (zCX G):=by
 have e:top G=G.terms.length+G.nons.length:=rfl;have hs:=zAa.1 (zH5 h);refine⟨hC,fun x i hi=>?_,fun x i hi=>?_,fun x i hi=>?_,fun x i hi=>?_⟩
 ·unfold zCg at hi;rw[decide_eq_true_iff]at hi;omega
 ·unfold zCg at hi;rw[decide_eq_true_iff]at hi;omega
 ·unfold zCX at hi;rw[decide_eq_true_iff]at hi;omega
 ·unfold zCX at hi;rw[decide_eq_true_iff]at hi;omega
theorem TOk.addF{t n:Nat}{C:Int->Bool}{F B:Int->Int->Bool}(h:TOk t n C F B){r:Int×List Int}(h0:0<=r.1)(h1:r.1<(n:Int)):TOk t n C (addF C F r) B:=by
 refine⟨h.c,fun x i e=>?_,fun x i e=>?_,h.b1,h.b2⟩
 ·unfold Fi.addF at e;simp only[Bool.or_eq_true,Bool.and_eq_true,decide_eq_true_iff]at e;rcases e with e|⟨_,e⟩
  ·exact h.f1 x i e
  ·exact zCc h.f1 _ i e
 ·unfold Fi.addF at e;simp only[Bool.or_eq_true,Bool.and_eq_true,decide_eq_true_iff]at e;rcases e with e|⟨e,_⟩
  ·exact h.f2 x i e
  ·subst e;exact⟨h0,h1⟩
noncomputable def zVN(G:Gram)(n:Nat)(hn:zOb G n):Pass G (Int->Bool) where
 Inv C:=∀x,C x=true->Can G x
 Tr C0 j C b:=TriedE G n C0 j C b
 ms C:=zCx C n
 Fin C:=C=canB G
 zero _ h:=zI8 h
 inv _ _ _ _ h:=h.snd
 yes _ _ _ h:=h.yes rfl
 fin _ _ _ h hj:=h.all hj
noncomputable def zVO(G:Gram)(n:Nat):Pass G (Int->Int->Bool) where
 Inv F:=Snd G (canB G) F/\Leaf G F
 Tr F0 j F b:=TriedG G n F0 j F b
 ms F:=zCy F (G.terms.length+1) n
 Fin F:=F=fstB G
 zero _ h:=zI9 h.1 h.2
 inv _ _ _ _ h:=⟨h.snd,h.leaf⟩
 yes _ _ _ h:=h.yes rfl
 fin _ _ _ h hj:=h.all hj
noncomputable def zVM(G:Gram)(n:Nat):Pass G (Int->Int->Bool) where
 Inv B:=BSnd G B/\B G.start 0=true
 Tr B0 j B b:=TriedB G n (canB G) (fstB G) B0 j 0 B b
 ms B:=zCy B (G.terms.length+1) n
 Fin B:=B=folB G
 zero _ h:=zI7 h.1 h.2
 inv _ _ _ _ h:=⟨h.snd,h.start⟩
 yes _ _ _ h:=h.yes rfl
 fin _ _ _ h hj:=zT6 (h.all (zRB G) hj)
def Sts(P D:Ix->Nat)(p q1 q2 t n:Nat)(C:Int->Bool)(F B:Int->Int->Bool)(w:World):Prop:=TOk t n C F B/\SAt (Iab t n n) P D p q1 q2 t n (tv C F B no0) w
theorem Sts.went{P D:Ix->Nat}{p q1 q2 t n:Nat}{C:Int->Bool}{F B:Int->Int->Bool}{w w':World}(h:Sts P D p q1 q2 t n C F B w)(hb:Below w.heap.size w w'):Sts P D p q1 q2 t n C F B w':=⟨h.1,h.2.went hb⟩
theorem zGZ{G:Gram}(h:Sml G){j:Nat}(hj:j<G.rules.length){c:Nat}(hc:G.rules[j].2.length<=c):LOk G.rules[j].2 c:=by
 have hm:=List.getElem_mem hj;refine⟨fun x hx=>?_,by have:=h.w _ hm;omega,hc⟩;have h1:=zJ6 h.known hm hx;have e:top G=G.terms.length+G.nons.length:=rfl;have:=h.t;have:=h.n;omega
theorem zLT(p:Nat)(W0 w:World)(h:Sh)(G:Gram)(k:GAt h G W0)(hs:Sml G)(hb0:Below W0.heap.size W0 w){P D:Ix->Nat}{q1 q2:Nat}(hD:∀k,Iab G.terms.length (top G+1) (top G+1) k->W0.heap.size<=D k)
  (hS:Sts P D p q1 q2 G.terms.length (top G+1) zGt (zCg G) (zCX G) w):
  Calls Tryz.prog 132 #[.slice h.a3 G.rules.length h.c3,.func (.func 133) #[.pointer (some ⟨p,0,none⟩)] #[]] w
   (fun e w'=>∃v,e=.returned v/\Sts P D p q1 q2 G.terms.length (top G+1) (canB G) (zCg G) (zCX G) w'/\Sep.Fr (Ds (Iab G.terms.length (top G+1) (top G+1)) D) w w'):=by
 refine(zQe p W0 w h G k (zVN G (top G+1) (zDU hs.known)) (fun C w=>Sts P D p q1 q2 G.terms.length (top G+1) C (zCg G) (zCX G) w) (Ds (Iab G.terms.length (top G+1) (top G+1)) D) zGt hs.r hb0 (fun b ⟨k,hk,e⟩=>e▸hD k hk) (fun T w1 w2 h hb=>h.went hb) ?_ hS (zOG G)).mono ?_
 ·intro C0 C j b0 w1 ra rc hj hst htr hb hrd hrc;have hl:=zDU hs.known _ (List.getElem_mem hj);have hlk:=zGZ hs hj hrc;obtain⟨s,hsn⟩:∃s:Nat,G.rules[j].1=(s:Int):=⟨G.rules[j].1.toNat,by omega⟩;have:=zRh w1 hst.2 hst.1 s (by omega) G.rules[j].2 ra rc (Sep.Reads.below hrd hb (Nat.le_refl _)) hlk;rw[←hsn]at this;refine this.mono ?_;rintro e w' ⟨b,rfl,hbb,hs1,hf⟩;exact⟨b,addC C G.rules[j],rfl,htr.step (zDU hs.known) hj hbb,⟨⟨zQU hst.1.c hl.1 hl.2,hst.1.f1,hst.1.f2,hst.1.b1,hst.1.b2⟩,hs1⟩,hf⟩
 ·rintro e w' ⟨v,C,rfl,hfin,hst,hf⟩;have e:C=canB G:=hfin;subst e;exact⟨v,rfl,hst,hf⟩
theorem zLU(p:Nat)(W0 w:World)(h:Sh)(G:Gram)(k:GAt h G W0)(hs:Sml G)(hb0:Below W0.heap.size W0 w){P D:Ix->Nat}{q1 q2:Nat}(hD:∀k,Iab G.terms.length (top G+1) (top G+1) k->W0.heap.size<=D k)
  (hS:Sts P D p q1 q2 G.terms.length (top G+1) (canB G) (zCg G) (zCX G) w):
  Calls Tryz.prog 132 #[.slice h.a3 G.rules.length h.c3,.func (.func 134) #[.pointer (some ⟨p,0,none⟩)] #[]] w
   (fun e w'=>∃v,e=.returned v/\Sts P D p q1 q2 G.terms.length (top G+1) (canB G) (fstB G) (zCX G) w'/\Sep.Fr (Ds (Iab G.terms.length (top G+1) (top G+1)) D) w w'):=by
 refine(zQf p W0 w h G k (zVO G (top G+1)) (fun F w=>Sts P D p q1 q2 G.terms.length (top G+1) (canB G) F (zCX G) w) (Ds (Iab G.terms.length (top G+1) (top G+1)) D) (zCg G) hs.r hb0 (fun b ⟨k,hk,e⟩=>e▸hD k hk) (fun T w1 w2 h hb=>h.went hb) ?_ hS ⟨zVU G,zVK G⟩).mono ?_
 ·intro F0 F j b0 w1 ra rc hj hst htr hb hrd hrc;have hl:=zDU hs.known _ (List.getElem_mem hj);have hlk:=zGZ hs hj hrc;obtain⟨s,hsn⟩:∃s:Nat,G.rules[j].1=(s:Int):=⟨G.rules[j].1.toNat,by omega⟩;have:=zRi W0 w1 hst.2 hst.1 hb hD s (by omega) G.rules[j].2 ra rc hrd hlk;rw[←hsn]at this;refine this.mono ?_;rintro e w' ⟨b,rfl,hbb,hs1,hf⟩;exact⟨b,addF (canB G) F G.rules[j],rfl,htr.step (zDU hs.known) hj hbb,⟨hst.1.addF hl.1 hl.2,hs1⟩,hf⟩
 ·rintro e w' ⟨v,F,rfl,hfin,hst,hf⟩;have e:F=fstB G:=hfin;subst e;exact⟨v,rfl,hst,hf⟩
theorem zLS(p:Nat)(W0 w:World)(h:Sh)(G:Gram)(k:GAt h G W0)(hs:Sml G)(hb0:Below W0.heap.size W0 w){P D:Ix->Nat}{q1 q2:Nat}(hD:∀k,Iab G.terms.length (top G+1) (top G+1) k->W0.heap.size<=D k)
  (hS:Sts P D p q1 q2 G.terms.length (top G+1) (canB G) (fstB G) (zCX G) w):
  Calls Tryz.prog 132 #[.slice h.a3 G.rules.length h.c3,.func (.func 135) #[.pointer (some ⟨p,0,none⟩)] #[]] w
   (fun e w'=>∃v,e=.returned v/\Sts P D p q1 q2 G.terms.length (top G+1) (canB G) (fstB G) (folB G) w'/\Sep.Fr (Ds (Iab G.terms.length (top G+1) (top G+1)) D) w w'):=by
 refine(zQd p W0 w h G k (zVM G (top G+1)) (fun B w=>Sts P D p q1 q2 G.terms.length (top G+1) (canB G) (fstB G) B w) (Ds (Iab G.terms.length (top G+1) (top G+1)) D) (zCX G) hs.r hb0 (fun b ⟨k,hk,e⟩=>e▸hD k hk) (fun T w1 w2 h hb=>h.went hb) ?_ hS (zU3 G)).mono ?_
 ·intro B0 B j b0 w1 ra rc hj hst htr hb hrd hrc;have hl:=zAa.1 (zJi hs.known (List.getElem_mem hj));have e2:top G=G.terms.length+G.nons.length:=rfl;have hlk:=zGZ hs hj hrc;obtain⟨s,hsn⟩:∃s:Nat,G.rules[j].1=(s:Int):=⟨G.rules[j].1.toNat,by omega⟩;have:=zRf W0 w1 hst.2 hst.1 hb hD rfl rfl j hj b0 htr s G.rules[j].2 (by rw[←hsn]) (by omega) ra rc hrd hlk;rw[←hsn]at this;refine this.mono ?_;rintro e w' ⟨b,B',rfl,ht,hok,hs1,hf⟩;exact⟨b,B',rfl,ht,⟨hok,hs1⟩,hf⟩
 ·rintro e w' ⟨v,B,rfl,hfin,hst,hf⟩;have e:B=folB G:=hfin;subst e;exact⟨v,rfl,hst,hf⟩
noncomputable def nlB(G:Gram):Bool:= !decide (checkN G=0)
noncomputable def ansC(G:Gram):Int->Bool:=if checkN G=0 then canB G else fun _=>false
noncomputable def ansF(G:Gram):Int->Int->Bool:=if checkN G=0 then fstB G else fun _ _=>false
noncomputable def ansB(G:Gram):Int->Int->Bool:=if checkN G=0 then folB G else fun _ _=>false
def zUw(G:Gram)(w:World)(e:Ending)(w':World):Prop:=
 ∃v P D,e=.returned v/\VS (nlB G) (Iab G.terms.length (top G+1) (top G+1)) P D v G.terms.length (top G+1) (ansC G) (ansF G) (ansB G) no0 w'/\(nlB G=false->TOk G.terms.length (top G+1) (ansC G) (ansF G) (ansB G))/\Below w.heap.size w w'
theorem zDX(h:Sh)(G:Gram)(w:World)(k:GAt h G w):
  Calls Tryz.prog 108 #[gv h G] w (zUw G w):=by
 obtain⟨a1,c1,a2,c2,a3,c3⟩:=h;have hmf:∀(fn:Fn) (first cap:Array Value) (w:World),(Instr.makeFunc fn first cap).run Tryz.prog w=.ok (.func fn first cap) w:=fun _ _ _ _=>rfl
 have X:=zVZ (Bx.start ⟨a1,c1,a2,c2,a3,c3⟩ G w 41);have C:=zVZ (fun w1 (b:Below w.heap.size w w1)=>zBk ⟨a1,c1,a2,c2,a3,c3⟩ G w1 (k.went b));obtain⟨x0,x1,x2,x3⟩:=X.out.box
 try dsimp only at x0 x1 x2 x3
 by_cases hc:checkN G=0
 ·have SM:=zVZ (zA8 hc);have ST:=zVZ (fun w1 (b:Below w.heap.size w w1)=>zN8 ⟨a1,c1,a2,c2,a3,c3⟩ G w1 (k.went b) SM.out);have SE:=zVZ (fun p w1 (b:Below w.heap.size w w1) P D q1 q2 hD hS=>zLT p w w1 ⟨a1,c1,a2,c2,a3,c3⟩ G k SM.out b (P:=P) (D:=D) (q1:=q1) (q2:=q2) hD hS);have SF:=zVZ (fun p w1 (b:Below w.heap.size w w1) P D q1 q2 hD hS=>zLU p w w1 ⟨a1,c1,a2,c2,a3,c3⟩ G k SM.out b (P:=P) (D:=D) (q1:=q1) (q2:=q2) hD hS);have SB:=zVZ (fun p w1 (b:Below w.heap.size w w1) P D q1 q2 hD hS=>zLS p w w1 ⟨a1,c1,a2,c2,a3,c3⟩ G k SM.out b (P:=P) (D:=D) (q1:=q1) (q2:=q2) hD hS);have AN:=zVZ (show nlB G=false/\ansC G=canB G/\ansF G=fstB G/\ansB G=folB G from⟨by unfold nlB;rw[decide_eq_true hc];rfl,by unfold ansC;rw[if_pos hc],by unfold ansF;rw[if_pos hc],by unfold ansB;rw[if_pos hc]⟩);have T0:=zVZ (tok0 SM.out.known (C:=zGt) (fun x h=>by cases h));rw[hc]at C;dsimp only at SE SF SB;clear k hc;unfold gv;dsimp only;go_enter Tryz.func108,Tryz.ntmps108
  go_wp2_with (first
   |(go_at_call 80;refine(C.out _ X.out.below).mono ?_;rintro e w1 ⟨rfl,hb⟩;have X1:=zVZ (X.out.went hb);clear hb x0 x1 x2 x3;obtain⟨x0,x1,x2,x3⟩:=X1.out.box;try dsimp only at x0 x1 x2 x3)
   |(go_at_call 131;refine(ST.out _ X1.out.below).mono ?_;rintro e w2 ⟨P,D,p,q1,q2,rfl,hs2,hd2,hb⟩;have X2:=zVZ (X1.out.went hb);have hsz:=X1.out.size;have DD:=zVZ (show∀k,Iab G.terms.length (top G+1) (top G+1) k->w.heap.size<D k from fun k hk=>Nat.lt_of_lt_of_le (by omega) (hd2 k hk));have S2:=zVZ (show Sts P D p q1 q2 G.terms.length (top G+1) zGt (zCg G) (zCX G) w2 from⟨T0.out,hs2⟩);clear hb hs2 hd2 hsz x0 x1 x2 x3;obtain⟨x0,x1,x2,x3⟩:=X2.out.box;try dsimp only at x0 x1 x2 x3)
   |(go_at_call 132;(with_reducible refine(SE.out _ _ X2.out.below _ _ _ _ (fun k hk=>Nat.le_of_lt (DD.out k hk)) S2.out).mono ?_);rintro e w3 ⟨v3,rfl,hs3,hf3⟩;have S3:=zVZ hs3;have X3:=zVZ (zGI X2.out hf3 (fun b ⟨k,hk,e⟩=>e▸DD.out k hk));clear hs3 hf3 x0 x1 x2 x3;obtain⟨x0,x1,x2,x3⟩:=X3.out.box;try dsimp only at x0 x1 x2 x3)
   |(go_at_call 132;(with_reducible refine(SF.out _ _ X3.out.below _ _ _ _ (fun k hk=>Nat.le_of_lt (DD.out k hk)) S3.out).mono ?_);rintro e w4 ⟨v4,rfl,hs4,hf4⟩;have S4:=zVZ hs4;have X4:=zVZ (zGI X3.out hf4 (fun b ⟨k,hk,e⟩=>e▸DD.out k hk));clear hs4 hf4 x0 x1 x2 x3;obtain⟨x0,x1,x2,x3⟩:=X4.out.box;try dsimp only at x0 x1 x2 x3)
   | (go_at_call 132;(with_reducible refine(SB.out _ _ X4.out.below _ _ _ _ (fun k hk=>Nat.le_of_lt (DD.out k hk)) S4.out).mono ?_);rintro e w5 ⟨v5,rfl,hs5,hf5⟩;have S5:=zVZ hs5;have X5:=zVZ (zGI X4.out hf5 (fun b ⟨k,hk,e⟩=>e▸DD.out k hk));clear hs5 hf5 x0 x1 x2 x3))
  go_ret;refine⟨_,P,D,rfl,.inr ⟨AN.out.1,p,q1,q2,rfl,?_⟩,fun _=>?_,X5.out.below⟩
  ·rw[AN.out.2.1,AN.out.2.2.1,AN.out.2.2.2];exact S5.out.2
  ·rw[AN.out.2.1,AN.out.2.2.1,AN.out.2.2.2];exact S5.out.1
 ·have AN:=zVZ (show nlB G=true/\ansC G=(fun _=>false)/\ansF G=(fun _ _=>false)/\ansB G=(fun _ _=>false)from⟨by unfold nlB;rw[decide_eq_false hc];rfl,by unfold ansC;rw[if_neg hc],by unfold ansF;rw[if_neg hc],by unfold ansB;rw[if_neg hc]⟩);have hb:(checkN G != 0)=true:=by simpa using hc
  clear k hc;generalize checkN G=ck at*;unfold gv;dsimp only;go_enter Tryz.func108,Tryz.ntmps108;go_wp2_with (go_at_call 80;refine(C.out _ X.out.below).mono ?_;rintro e w1 ⟨rfl,hb⟩;have X1:=zVZ (X.out.went hb);clear hb);go_ret;exact⟨_,fun _=>0,fun _=>0,rfl,.inl ⟨AN.out.1,rfl,AN.out.2⟩,(fun h=>by rw[AN.out.1]at h;cases h),X1.out.below⟩
end Fi
namespace Fi
open Gr
open Bt (Tab els)
theorem zNB{l:List Int}{B:Nat->Bool}{W w:World}{e:Ending}{w':World}(hE:(els B).map Bt.iv=ivs l)(hb:Below W.heap.size W w)(h:Bt.Listed B w e w'):Listed l W e w':=by
 obtain⟨v,rfl,ho,hb2⟩:=h
 have hl:(els B).length=l.length:=by
  have:=congrArg List.length hE
  simpa[ivs]using this
 rw[hE,hl]at ho;obtain⟨a,c,rfl⟩:=Sep.zA2 ho;exact⟨a,c,rfl,Sep.Reads.of_row ho,zGp ho hb.size,Gr.step hb hb2⟩
theorem zR4{P:Int->Bool}{n:Nat}(h:Rng P n)(hn:n<=4096):(els (rw' P)).map Bt.iv=ivs (lst P n):=by
 rw[←zTy h hn];unfold ivs;rw[List.map_map]
 rfl
def zUv(l:List Int)(b:Bool)(w:World)(e:Ending)(w':World):Prop:=
 ∃a c,e=.returned (.tuple #[.slice a l.length c,.bool b])/\Sep.Reads a (ivs l) w'/\New a w/\Below w.heap.size w w'
theorem zPX{C:Int->Bool}{F:Int->Int->Bool}{L:List Int}:jn no0 F (L.take (zBf C L))=rw' (zAe C F L):=by
 funext i
 unfold jn rw';rw[zB5]
 rfl
theorem zIn{C:Int->Bool}(l:List Int)(t:Int):zAe C (fun _ _=>false) l t=false:=by
 induction l with
 |nil=>rfl
 |cons a l ih=>
  unfold zAe;rw[ih];simp
theorem zVA{t a b:Nat}:¬Iab t a b .o:=fun h=>h
theorem zPg{nl:Bool}{t n:Nat}{P D:Ix->Nat}{v:Value}{C:Int->Bool}{F B:Int->Int->Bool}{O:Nat->Bool}(w:World)(h:VS nl (Iab t n n) P D v t n C F B O w)(hT:nl=false->TOk t n C F B)(htab:Tab w)(ht:t<=4000)(L:List Int)(a:Option Addr)(c:Nat)(hR:Sep.Reads a (ivs L) w)(hL:LOk L c):
  Calls Tryz.prog 136 #[v,.slice a L.length c] w (zUv (lst (zAe C F L) (t+1)) (!nl&&allC C L) w):=by
 rcases h with⟨rfl,rfl,rfl,rfl,rfl⟩|⟨rfl,p,q1,q2,rfl,h2⟩
 ·have e:lst (zAe (fun _=>false) (fun _ _=>false) L) (t+1)=[]:=zPm fun i _=>zIn _ _
  rw[e];clear hT htab hR hL;go_enter Tryz.func136,Tryz.ntmps136;go_wp2;go_ret2;exact⟨none,0,rfl,.nil _ _,(fun x h=>by cases h),.refl _ _⟩
 ·have TB:=zVZ (fun w1 (b:Below w.heap.size w w1)=>htab.below b htab.pos);have T:=zVZ (hT rfl);have H:=zVZ h2;have TM:=zVZ (zQp w h2);have HDC:=zVZ (fun w1 (b:Below w.heap.size w w1)=>zDB w1 (h2.went b) T.out.c L a c (Sep.Reads.below hR b (Nat.le_refl _)) hL);have JOC:=zVZ (fun I' P' D' w1 (k:SAt I' P' D' p q1 q2 t n (tv C F B no0) w1) (hk:I' .o) (hb:Below w.heap.size w w1) (hd:w.heap.size<=D' .o)=>zIk w w1 k T.out .o hk rfl hb hd (L.take (zBf C L)) a c (zCr hR _) (hL.take _));rw[take_len]at JOC;unfold zC9 at HDC;have E:=zVZ (zR4 (zCc (C:=C) T.out.f1 L) (show t+1<=4096 by omega));clear hT htab h2 hR;have hcap:=hL.cap;clear hL;generalize allC C L=al at*;rw[Bool.not_false,Bool.true_and];go_enter Tryz.func136,Tryz.ntmps136
  go_wp2_with (first
   |(go_at_call 154;refine TM.out.mono ?_;rintro e w1 ⟨pN,dN,rfl,hp1,hd1,hs1,hb1,_⟩;have B1:=zVZ hb1;obtain⟨I',P',D',hk',hI',rfl,rfl⟩:=H.out.more zVA hb1 hs1 hp1 hd1;have K1:=zVZ hk';have O1:=zVZ hI';have D1:=zVZ hd1;clear hp1 hd1 hs1 hb1 hk' hI')
   |(go_at_call 156;refine(HDC.out _ B1.out).mono ?_;rintro e w2 ⟨rfl,hb⟩;have B2:=zVZ (Gr.step B1.out hb);have K2:=zVZ (K1.out.went hb);clear hb)
   |(go_at_call 157;refine(JOC.out _ _ _ _ K2.out O1.out B2.out D1.out).mono ?_;rintro e w3 ⟨b,rfl,hg,hs3,hk3⟩;have B3:=zVZ (zEY B2.out D1.out hk3);have S3:=zVZ hs3;clear hg hs3 hk3)
   | (go_at_call 114;refine(Bt.zEO _ (.at_ S3.out) (TB.out _ B3.out)).mono ?_;rintro e w4 hl;have LL:=zVZ (zNB (l:=lst (zAe C F L) (t+1)) (by rw[show jn (tv C F B no0 .o) F (L.take (zBf C L))=rw' (zAe C F L)from zPX];exact E.out) B3.out hl);obtain⟨v,rfl,_,_⟩:=hl))
  go_ret2;obtain⟨a4,c4,e4,h4⟩:=LL.out;injection e4 with e4
  subst e4;exact⟨a4,c4,rfl,h4⟩
