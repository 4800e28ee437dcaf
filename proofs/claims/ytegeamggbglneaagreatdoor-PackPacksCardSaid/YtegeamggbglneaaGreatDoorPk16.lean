/- A part of the proof. -/
import Derived.Test.YtegeamggbglneaaGreatDoorPk05
import Derived.Test.YtegeamggbglneaaGreatDoorPk15
import Derived.Shelf.Spec.TrailingZeros
import Derived.Deep.DeepCutAuto
import Derived.StillTailTactics
import Derived.Deep.OwnRows
import Derived.Deep.Heap
set_option maxHeartbeats 4000000
set_option maxRecDepth 100000
set_option linter.unusedVariables false
namespace Go.Proofs.YtegeamggbglneaaGreatDoor
namespace Fi
open Gr (Gram nonB zA9)
def zO6(G:Gram)(n:Nat):Prop:=∀r∈G.rules,0<=r.1/\r.1<(n:Int)
def zRo(C:Int->Bool)(F:Int->Int->Bool)(m n:Nat):Nat:=zDH C n+zDI F m n
theorem zSB{C}{r}{x}(h:C x=true):addC C r x=true:=by unfold addC;rw[h];rfl
theorem zIn{C}{F}{r}{x t}(h:F x t=true):addF C F r x t=true:=by unfold addF;rw[h];rfl
theorem zPD{C}{r}(h:allC C r.2=true):addC C r r.1=true:=by unfold addC;rw[h];simp
theorem zPE{C}{F}{r}{t}(h:zAg C F r.2 t=true):addF C F r r.1 t=true:=by unfold addF;rw[h];simp
structure TriedF (G:Gram) (n:Nat) (C0:Int->Bool) (F0:Int->Int->Bool) (j:Nat) (C:Int->Bool) (F:Int->Int->Bool) (b:Bool):Prop where
 snd:Snd G C F
 leaf:Leaf G F
 no:b=false->(C=C0/\F=F0)/\∀i (h:i<G.rules.length),i<j->Shut C0 F0 G.rules[i]
 yes:b=true->zRo C F (G.terms.length+1) n<zRo C0 F0 (G.terms.length+1) n
theorem zTw{G}{n}{C}{F}(h:Snd G C F)(hl:Leaf G F):TriedF G n C F 0 C F false:=⟨h,hl,fun _=>⟨⟨rfl,rfl⟩,fun i _ hi=>absurd hi (by omega)⟩,fun h=>by cases h⟩
theorem TriedF.all{G}{n}{C0 C}{F0 F}{j}(h:TriedF G n C0 F0 j C F false)(hj:¬j<G.rules.length):Just G C F:=by
 obtain⟨⟨e1,e2⟩,e3⟩:=h.no rfl;refine zNN h.snd h.leaf fun r hr=>?_
 obtain⟨i,hi,rfl⟩:=List.getElem_of_mem hr;rw[e1,e2];exact e3 i hi (by omega)
def zHQ:Int->Bool:=fun _=>false
def zCv(G:Gram):Int->Int->Bool:=fun x t=>decide (x=t/\0<=x/\x<=(G.terms.length:Int))
theorem snd0(G):Snd G zHQ (zCv G):=by
 refine⟨(fun x h=>by cases h),fun x t h=>?_⟩;unfold zCv at h;rw[decide_eq_true_iff]at h;obtain⟨rfl,h1,h2⟩:=h;exact .leaf (by rw[zA9];omega)
theorem zVr(G):Leaf G (zCv G):=fun x hx=>by
 unfold zCv;rw[decide_eq_true_iff];rw[zA9]at hx;omega
def behP(C:Int->Bool)(F B:Int->Int->Bool)(r:Int×List Int)(k:Nat)(t:Int):Bool:=zAg C F (r.2.drop (k+1)) t||(allC C (r.2.drop (k+1))&&B r.1 t)
def addB(C:Int->Bool)(F B:Int->Int->Bool)(r:Int×List Int)(k:Nat)(x:Int):Int->Int->Bool:=fun y t=>B y t||(decide (y=x)&&behP C F B r k t)
def zR4(G:Gram)(C:Int->Bool)(F B:Int->Int->Bool)(r:Int×List Int)(k:Nat):Prop:=∀hk:k<r.2.length,nonB G r.2[k]=true->∀t,behP C F B r k t=true->B r.2[k] t=true
theorem zPM{G}{C}{F B}{r}(h:∀k,zR4 G C F B r k):zT8 G C F B r:=fun pre x post e hn=>by
 have hl:pre.length<r.2.length:=by rw[e,List.length_append,List.length_cons];omega
 have hx:r.2[pre.length]=x:=by
  have:r.2[pre.length]?=some x:=by rw[e];simp
  rw[List.getElem?_eq_getElem hl]at this;injection this
 have hd:r.2.drop (pre.length+1)=post:=by
  rw[e,←List.drop_drop,List.drop_left]
  rfl
 have hp:=h pre.length hl (by rw[hx];exact hn);rw[hx]at hp;unfold behP at hp;rw[hd]at hp;exact⟨fun t ht=>hp t (by rw[ht];rfl),fun ha t ht=>hp t (by rw[ha,ht];simp)⟩
theorem zMR{G}{C}{F B}(j:Just G C F)(hb:BSnd G B){r}(hr:r∈G.rules){k}(hk)(hn:nonB G r.2[k]=true){t}(h:behP C F B r k t=true):Fol G r.2[k] t:=by
 have e:r.2=r.2.take k++r.2[k]::r.2.drop (k+1):=by
  rw[←List.drop_eq_getElem_cons hk,List.take_append_drop]
 unfold behP at h;rw[Bool.or_eq_true,Bool.and_eq_true]at h;rcases h with h|⟨h1,h2⟩
 ·exact .next hr e hn ((j.line _ _).1 h)
 ·exact .last hr e hn ((j.all _).1 h1) (hb.fol _ _ h2)
structure TriedB (G:Gram) (n:Nat) (C:Int->Bool) (F B0:Int->Int->Bool) (j k:Nat) (B:Int->Int->Bool) (b:Bool):Prop where
 snd:BSnd G B
 start:B G.start 0=true
 no:b=false->B=B0/\(∀i (h:i<G.rules.length),i<j->∀l,zR4 G C F B0 G.rules[i] l)/\∀h:j<G.rules.length,∀l,l<k->zR4 G C F B0 G.rules[j] l
 yes:b=true->zDI B (G.terms.length+1) n<zDI B0 (G.terms.length+1) n
theorem zJd{G}{n}{C}{F B}(h:BSnd G B)(h0:B G.start 0=true):TriedB G n C F B 0 0 B false:=
 ⟨h,h0,fun _=>⟨rfl,(fun i _ hi=>absurd hi (by omega)),fun _ l hl=>absurd hl (by omega)⟩,fun h=>by cases h⟩
theorem TriedB.skip{G}{n}{C}{F B0 B}{j k}{b}(h:TriedB G n C F B0 j k B b)(hj)(hs:∀hk:k<G.rules[j].2.length,nonB G G.rules[j].2[k]=false):TriedB G n C F B0 j (k+1) B b:=by
 refine⟨h.snd,h.start,fun e=>?_,h.yes⟩;obtain⟨e1,e2,e3⟩:=h.no e;refine⟨e1,e2,fun hj l hl=>?_⟩
 by_cases he:l=k
 ·subst he;exact fun hk hn=>by rw[hs hk]at hn;cases hn
 ·exact e3 hj l (by omega)
theorem TriedB.step{G}{n}{C}{F B0 B}{j k}{b c}(h:TriedB G n C F B0 j k B b)(hJ:Just G C F)(hj)(hk:k<G.rules[j].2.length)(hn:nonB G G.rules[j].2[k]=true)
  (h0:0<=G.rules[j].2[k]) (h1:G.rules[j].2[k]<(n:Int)) (hc:c=true↔∃t,behP C F B G.rules[j] k t=true/\B G.rules[j].2[k] t=false):
  TriedB G n C F B0 j (k+1) (addB C F B G.rules[j] k G.rules[j].2[k]) (b||c):=by
 have hm:=List.getElem_mem hj;have hbs:BSnd G (addB C F B G.rules[j] k G.rules[j].2[k]):=h.snd.put fun t ht=>zMR hJ h.snd hm hk hn ht
 have le:∀{x t:Int},B x t=true->addB C F B G.rules[j] k G.rules[j].2[k] x t=true:=fun {x t} e=>by unfold addB;rw[e];rfl
 cases c with
 |false=>
  have hsh:∀t,behP C F B G.rules[j] k t=true->B G.rules[j].2[k] t=true:=fun t ht=>by
   cases e:B G.rules[j].2[k] t with
   |true=>rfl
   |false=>have:=hc.2 ⟨t,ht,e⟩;cases this
  have same:addB C F B G.rules[j] k G.rules[j].2[k]=B:=by
   funext x t
   unfold addB
   by_cases e:x=G.rules[j].2[k]
   ·subst e;cases ha:behP C F B G.rules[j] k t with
    |false=>simp
    |true=>simp[hsh t ha]
   ·simp[e]
  rw[same,Bool.or_false];refine⟨h.snd,h.start,fun e=>?_,h.yes⟩;obtain⟨e1,e2,e3⟩:=h.no e;refine⟨e1,e2,fun hj' l hl=>?_⟩
  by_cases he:l=k
  ·subst he;rw[←e1];exact fun _ _ t ht=>hsh t ht
  ·exact e3 hj' l (by omega)
 |true=>
  obtain⟨t,h2,h3⟩:=hc.1 rfl;obtain⟨t0,t1⟩:=zMu (zMR hJ h.snd hm hk hn h2);have et:((t.toNat:Nat):Int)=t:=by omega
  have ex:((G.rules[j].2[k].toNat:Nat):Int)=G.rules[j].2[k]:=by omega
  have hg:zDI (addB C F B G.rules[j] k G.rules[j].2[k]) (G.terms.length+1) n<zDI B (G.terms.length+1) n:=
   zKL (k:=G.rules[j].2[k].toNat) (fun x t _ _ e=>le e) (by omega)
    (zHA (k:=t.toNat) (fun i _ e=>le e) (by omega) (by rw[ex,et];exact h3) (by rw[ex,et];unfold addB;rw[h2];simp))
  rw[Bool.or_true];refine⟨hbs,le h.start,(fun e=>by cases e),fun _=>?_⟩;cases b with
  |false=>
   have e1:=(h.no rfl).1;rw[e1]at hg⊢;exact hg
  |true=>exact Nat.lt_trans hg (h.yes rfl)
theorem TriedB.next{G}{n}{C}{F B0 B}{j k}{b}(h:TriedB G n C F B0 j k B b)(hj)(hk:¬k<G.rules[j].2.length):TriedB G n C F B0 (j+1) 0 B b:=by
 refine⟨h.snd,h.start,fun e=>?_,h.yes⟩;obtain⟨e1,e2,e3⟩:=h.no e;refine⟨e1,fun i hi hl l=>?_,fun _ l hl=>absurd hl (by omega)⟩
 by_cases he:i=j
 ·subst he
  by_cases hlk:l<k
  ·exact e3 hi l hlk
  ·exact fun hl2=>absurd hl2 (by omega)
 ·exact e2 i hi (by omega) l
theorem TriedB.all{G}{n}{C}{F B0 B}{j k}(h:TriedB G n C F B0 j k B false)(hJ:Just G C F)(hj:¬j<G.rules.length):∀x t,B x t=true↔Fol G x t:=by
 obtain⟨e1,e2,_⟩:=h.no rfl;refine zMS hJ h.snd h.start fun r hr=>?_
 obtain⟨i,hi,rfl⟩:=List.getElem_of_mem hr;rw[e1];exact zPM fun l=>e2 i hi (by omega) l
def zCk(G:Gram):Int->Int->Bool:=fun x t=>decide (x=G.start/\t=0)
theorem zVa(G):BSnd G (zCk G)/\zCk G G.start 0=true:=by
 refine⟨⟨fun x t h=>?_⟩,by simp[zCk]⟩;unfold zCk at h;rw[decide_eq_true_iff]at h;obtain⟨rfl,rfl⟩:=h;exact .start
end Fi
namespace Fi
open Gr (Gram)
open Bt (Upto has orr gains els zHv)
structure TriedE (G:Gram) (n:Nat) (C0:Int->Bool) (j:Nat) (C:Int->Bool) (b:Bool):Prop where
 snd:∀x,C x=true->Can G x
 no:b=false->C=C0/\∀i (h:i<G.rules.length),i<j->allC C0 G.rules[i].2=true->C0 G.rules[i].1=true
 yes:b=true->zDH C n<zDH C0 n
theorem zJe{G}{n}{C}(h:∀x,C x=true->Can G x):TriedE G n C 0 C false:=⟨h,fun _=>⟨rfl,fun i _ hi=>absurd hi (by omega)⟩,fun h=>by cases h⟩
theorem TriedE.step{G}{n}{C0 C}{j}{b c}(h:TriedE G n C0 j C b)(hl:zO6 G n)(hj)(hc:c=true↔allC C G.rules[j].2=true/\C G.rules[j].1=false):
  TriedE G n C0 (j+1) (addC C G.rules[j]) (b||c):=by
 have hm:=List.getElem_mem hj
 have hs:∀x,addC C G.rules[j] x=true->Can G x:=fun x k=>by
  unfold addC at k;rw[Bool.or_eq_true,Bool.and_eq_true,decide_eq_true_iff]at k;rcases k with k|⟨e,k⟩
  ·exact h.snd x k
  ·subst e;exact .mk _ hm fun z hz=>h.snd z (zCQ.1 k z hz)
 cases c with
 |false=>
  have hg:allC C G.rules[j].2=true->C G.rules[j].1=true:=fun k=>by
   cases e:C G.rules[j].1 with
   |true=>rfl
   |false=>have:=hc.2 ⟨k,e⟩;cases this
  rw[zHX hg,Bool.or_false];refine⟨h.snd,fun e=>?_,h.yes⟩;obtain⟨e1,e3⟩:=h.no e;refine⟨e1,fun i hi hl=>?_⟩
  by_cases he:i=j
  ·subst he;rw[←e1];exact hg
  ·exact e3 i hi (by omega)
 |true=>
  obtain⟨h2,h3⟩:=hc.1 rfl;obtain⟨l0,l1⟩:=hl _ hm;have e:((G.rules[j].1.toNat:Nat):Int)=G.rules[j].1:=by omega
  have hg:=zHA (P:=C) (Q:=addC C G.rules[j]) (n:=n) (k:=G.rules[j].1.toNat) (fun i _ k=>zSB k) (by omega) (by rw[e];exact h3) (by rw[e];exact zPD h2);rw[Bool.or_true];refine⟨hs,(fun e=>by cases e),fun _=>?_⟩;cases b with
  |false=>
   have e1:=(h.no rfl).1;rw[e1]at hg⊢;exact hg
  |true=>exact Nat.lt_trans hg (h.yes rfl)
theorem TriedE.all{G}{n}{C0 C}{j}(h:TriedE G n C0 j C false)(hj:¬j<G.rules.length):C=canB G:=by
 obtain⟨e1,e3⟩:=h.no rfl
 have hc:∀x,Can G x->C x=true:=fun x k=>by
  induction k with
  |mk r hr _ ih=>
   obtain⟨i,hi,rfl⟩:=List.getElem_of_mem hr;rw[e1]at ih⊢;exact e3 i hi (by omega) (zCQ.2 fun z hz=>ih z hz)
 funext x
 rw[Bool.eq_iff_iff,zBV];exact⟨h.snd x,hc x⟩
structure TriedG (G:Gram) (n:Nat) (F0:Int->Int->Bool) (j:Nat) (F:Int->Int->Bool) (b:Bool):Prop where
 snd:Snd G (canB G) F
 leaf:Leaf G F
 no:b=false->F=F0/\∀i (h:i<G.rules.length),i<j->∀t,zAg (canB G) F0 G.rules[i].2 t=true->F0 G.rules[i].1 t=true
 yes:b=true->zDI F (G.terms.length+1) n<zDI F0 (G.terms.length+1) n
theorem zJf{G}{n}{F}(h:Snd G (canB G) F)(hl:Leaf G F):TriedG G n F 0 F false:=⟨h,hl,fun _=>⟨rfl,fun i _ hi=>absurd hi (by omega)⟩,fun h=>by cases h⟩
theorem TriedG.step{G}{n}{F0 F}{j}{b c}(h:TriedG G n F0 j F b)(hl:zO6 G n)(hj)(hc:c=true↔∃t,zAg (canB G) F G.rules[j].2 t=true/\F G.rules[j].1 t=false):
  TriedG G n F0 (j+1) (addF (canB G) F G.rules[j]) (b||c):=by
 have hm:=List.getElem_mem hj;have hs:=h.snd.addF hm;have hlf:Leaf G (addF (canB G) F G.rules[j]):=fun x hx=>zIn (h.leaf x hx)
 cases c with
 |false=>
  have hg:∀t,zAg (canB G) F G.rules[j].2 t=true->F G.rules[j].1 t=true:=fun t k=>by
   cases e:F G.rules[j].1 t with
   |true=>rfl
   |false=>have:=hc.2 ⟨t,k,e⟩;cases this
  rw[zMN hg,Bool.or_false];refine⟨h.snd,h.leaf,fun e=>?_,h.yes⟩;obtain⟨e1,e3⟩:=h.no e;refine⟨e1,fun i hi hl=>?_⟩
  by_cases he:i=j
  ·subst he;rw[←e1];exact hg
  ·exact e3 i hi (by omega)
 |true=>
  obtain⟨t,h2,h3⟩:=hc.1 rfl;obtain⟨t0,t1⟩:=zCI (h.snd.line h2);obtain⟨l0,l1⟩:=hl _ hm;have et:((t.toNat:Nat):Int)=t:=by omega
  have e:((G.rules[j].1.toNat:Nat):Int)=G.rules[j].1:=by omega
  have hg:=zKL (F:=F) (H:=addF (canB G) F G.rules[j]) (m:=G.terms.length+1) (n:=n) (k:=G.rules[j].1.toNat) (fun x t _ _ k=>zIn k) (by omega)
   (zHA (k:=t.toNat) (fun i _ k=>zIn k) (by omega) (by rw[e,et];exact h3) (by rw[e,et];exact zPE h2))
  rw[Bool.or_true];refine⟨hs,hlf,(fun e=>by cases e),fun _=>?_⟩;cases b with
  |false=>
   have e1:=(h.no rfl).1;rw[e1]at hg⊢;exact hg
  |true=>exact Nat.lt_trans hg (h.yes rfl)
theorem TriedG.all{G}{n}{F0 F}{j}(h:TriedG G n F0 j F false)(hj:¬j<G.rules.length):F=fstB G:=by
 obtain⟨e1,e3⟩:=h.no rfl
 have hJ:Just G (canB G) F:=zNN h.snd h.leaf fun r hr=>by
  obtain⟨i,hi,rfl⟩:=List.getElem_of_mem hr;refine⟨fun k=>zBV.2 (.mk _ hr fun z hz=>zBV.1 (zCQ.1 k z hz)),?_⟩;rw[e1];exact e3 i hi (by omega)
 exact hJ.eq.2
theorem zUa{G}{B}(h:∀x t,B x t=true↔Fol G x t):B=folB G:=by
 funext x t
 rw[Bool.eq_iff_iff,h,zPh]
theorem zOk(G):∀x,zHQ x=true->Can G x:=fun x h=>by cases h
theorem zV1(G):Snd G (canB G) (zCv G):=⟨fun x h=>zBV.1 h,(snd0 G).fst⟩
def zBl(C:Int->Bool):List Int->Nat
 |[]=>0
 |y::l=>if C y=true then zBl C l+1 else 1
theorem zPq(C)(l):zBl C l<=l.length:=by
 induction l with
 |nil=>exact Nat.le_refl _
 |cons y l ih=>
  unfold zBl;rw[List.length_cons];split<;>omega
theorem zH4{C}:∀{l:List Int} {i:Nat} (h:i<l.length),(∀k (hk:k<l.length),k<i->C l[k]=true)->C l[i]=false->zBl C l=i+1/\allC C l=false
 |[],i,h,_,_=>absurd h (by simp)
 |y::l,0,_,_,hc=>by
  have hy:C y=false:=hc;unfold zBl;rw[hy];exact⟨rfl,by unfold allC;rw[List.all_cons,hy];rfl⟩
 |y::l,i+1,h,hb,hc=>by
  have hy:C y=true:=hb 0 (by simp) (by omega);obtain⟨e1,e2⟩:=zH4 (C:=C) (l:=l) (i:=i) (by simpa using h) (fun k hk hki=>hb (k+1) (by simpa using hk) (by omega)) hc;unfold zBl;rw[hy,e1];refine⟨rfl,?_⟩;unfold allC at e2⊢;rw[List.all_cons,hy,e2]
  rfl
theorem zH3{C}:∀{l:List Int},(∀k (hk:k<l.length),C l[k]=true)->zBl C l=l.length/\allC C l=true
 |[],_=>⟨rfl,rfl⟩
 |y::l,hb=>by
  have hy:C y=true:=hb 0 (by simp);obtain⟨e1,e2⟩:=zH3 (C:=C) (l:=l) (fun k hk=>hb (k+1) (by simpa using hk));unfold zBl;rw[hy,e1];refine⟨rfl,?_⟩;unfold allC at e2⊢;rw[List.all_cons,hy,e2]
  rfl
theorem zCF(C)(F)(t):∀l:List Int,((l.take (zBl C l)).any fun y=>F y t)=zAg C F l t
 |[]=>rfl
 |y::l=>by
  have ih:=zCF C F t l;unfold zBl zAg;cases hy:C y with
  |true=>simp only[if_pos,List.take_succ_cons,List.any_cons,ih,Bool.true_and]
  |false=>simp
def rw'(P:Int->Bool):Nat->Bool:=fun i=>P (i:Int)
def Rng(P:Int->Bool)(n:Nat):Prop:=∀x,P x=true->0<=x/\x<(n:Int)
theorem zUi{P}{n}(h:Rng P n)(x):has (rw' P) x=P x:=by
 unfold has rw'
 by_cases h0:0<=x
 ·rw[decide_eq_true h0,show((x.toNat:Nat):Int)=x from by omega]
  rfl
 ·rw[decide_eq_false h0];cases e:P x with
  |false=>rfl
  |true=>exact absurd (h x e).1 h0
theorem zT1{P}{n}(h:Rng P n)(hn:n<=4096):Upto (rw' P) n:=⟨hn,fun i hi=>by
 unfold rw';cases e:P (i:Int)with
 |false=>rfl
 |true=>have:=(h _ e).2;omega⟩
theorem zUR{P}{n}(h:Rng P n)(hn:n<=4096):(els (rw' P)).map (fun i:Nat=>(i:Int))=lst P n:=by
 rw[zHv (zT1 h hn)]
 rfl
def jn(B:Nat->Bool)(F:Int->Int->Bool)(X:List Int):Nat->Bool:=fun i=>B i||X.any fun y=>F y (i:Int)
theorem zUk(B)(F):jn B F []=B:=by
 funext i
 simp[jn]
theorem zS6{B}{F}{n}(X){y}(h:Rng (F y) n):orr (jn B F X) n (rw' (F y))=jn B F (X++[y]):=by
 funext i
 unfold orr jn rw';rw[List.any_append];cases e:F y (i:Int)with
 |false=>simp[e]
 |true=>
  have:=(h _ e).2;have h2:i<n:=by omega
  simp[e,h2]
theorem zS5{B}{F}(X){y}(h:B=rw' (F y)):jn B F X=jn B F (X++[y]):=by
 funext i
 unfold jn;rw[List.any_append,h];unfold rw';cases e:F y (i:Int)<;>simp[e]
def Gn(B:Nat->Bool)(F:Int->Int->Bool)(X:List Int)(b:Bool):Prop:=b=true↔∃i:Nat,(∃y∈X,F y (i:Int)=true)/\B i=false
theorem zUf(B)(F):Gn B F [] false:=by
 unfold Gn;constructor
 ·intro h;cases h
 ·rintro⟨_,⟨_,h,_⟩,_⟩;cases h
theorem zSs{B}{F}{n}{X}{y}{b}(h:Rng (F y) n)(hb:Gn B F X b):Gn B F (X++[y]) (b||gains (jn B F X) n (rw' (F y))):=by
 unfold Gn at hb⊢;rw[Bool.or_eq_true,hb];constructor
 ·rintro(⟨i,⟨z,hz,h1⟩,h2⟩|hg)
  ·exact⟨i,⟨z,List.mem_append_left _ hz,h1⟩,h2⟩
  ·unfold gains at hg;rw[List.any_eq_true]at hg;obtain⟨i,hi,h1⟩:=hg;rw[Bool.and_eq_true]at h1;refine⟨i,⟨y,by simp,h1.1⟩,?_⟩;have h2:=h1.2;unfold jn at h2;cases e:B i with
   |false=>rfl
   |true=>rw[e]at h2;simp at h2
 ·rintro⟨i,⟨z,hz,h1⟩,h2⟩;rcases List.mem_append.1 hz with hz|hz
  ·exact .inl ⟨i,⟨z,hz,h1⟩,h2⟩
  ·rw[List.mem_singleton]at hz;subst hz
   by_cases e:∃y∈X,F y (i:Int)=true
   ·exact .inl ⟨i,e,h2⟩
   ·refine .inr (Bt.zMz (i:=i) (by have:=(h _ h1).2;omega) ?_ h1);unfold jn;rw[h2,Bool.false_or,List.any_eq_false];exact fun y hy k=>e ⟨y,hy,k⟩
theorem zSr{B}{F}{X}{y}{b}(h:∀i:Nat,F y (i:Int)=true->B i=true)(hb:Gn B F X b):Gn B F (X++[y]) b:=by
 unfold Gn at hb⊢;rw[hb];constructor
 ·rintro⟨i,⟨z,hz,h1⟩,h2⟩;exact⟨i,⟨z,List.mem_append_left _ hz,h1⟩,h2⟩
 ·rintro⟨i,⟨z,hz,h1⟩,h2⟩;rcases List.mem_append.1 hz with hz|hz
  ·exact⟨i,⟨z,hz,h1⟩,h2⟩
  ·rw[List.mem_singleton]at hz;subst hz;rw[h i h1]at h2;cases h2
end Fi
namespace Bt
open Go.RowKit
theorem zCg(n:Nat):IntKind.u64.wrap (n:Int)=((n % 18446744073709551616:Nat):Int):=by rw[IntKind.wrap_u64];omega
theorem zK1(i):IntKind.u64.wrap (2^(i % 64))=(zCn i:Int):=by
 have h:=zCR i;have e:((2:Int)^(i % 64))=((zCn i:Nat):Int):=by simp[zCn]
 rw[e,zCg,Nat.mod_eq_of_lt h]
theorem zIq(i:Nat)(w)(hi:i<=9223372036854775807):
  Calls Tryz.prog 192 #[.int .i64 i] w fun e w'=>e=.returned (.int .u64 (zCn i))/\w=w':=by
 go_enter Tryz.func192,Tryz.ntmps192;go_wp2;go_ret;refine⟨?_,rfl⟩;simp[zK1]
theorem zI7(y:Nat)(hy:y<=9223372036854775807):bits .and .i64 (y:Int) 127=((y % 128:Nat):Int):=by
 have h1:(BitVec.ofInt 64 (y:Int)).toNat=y:=by
  rw[BitVec.ofInt_natCast,BitVec.toNat_ofNat];exact Nat.mod_eq_of_lt (by omega)
 have h2:(BitVec.ofInt 64 (127:Int)).toNat=127:=rfl;show IntKind.i64.wrap ((BitVec.ofInt 64 (y:Int)&&& BitVec.ofInt 64 (127:Int)).toNat:Int)= _;have e:y&&& 127=y % 128:=Nat.and_two_pow_sub_one_eq_mod y 7;rw[BitVec.toNat_and,h1,h2,e];exact IntWalk.i64_in _ (by omega)
theorem zLg(x:Nat)(hx:x<18446744073709551616):∃y1 y2 y3 y4 y5 y6:Nat,
  IntKind.u64.wrap (bits BinOp.and IntKind.u64 ((x:Int) / 2) 6148914691236517205+bits BinOp.and IntKind.u64 (x:Int) 6148914691236517205)=(y1:Int)/\
  IntKind.u64.wrap (bits BinOp.and IntKind.u64 ((y1:Int) / 4) 3689348814741910323+bits BinOp.and IntKind.u64 (y1:Int) 3689348814741910323)=(y2:Int)/\
  bits BinOp.and IntKind.u64 (IntKind.u64.wrap ((y2:Int) / 16+(y2:Int))) 1085102592571150095=(y3:Int)/\
  IntKind.u64.wrap ((y3:Int)+(y3:Int) / 256)=(y4:Int)/\
  IntKind.u64.wrap ((y4:Int)+(y4:Int) / 65536)=(y5:Int)/\
  IntKind.u64.wrap ((y5:Int)+(y5:Int) / 4294967296)=(y6:Int)/\
  y6<=9223372036854775807/\
  bits .and .i64 (y6:Int) 127=(vs 1 64 x:Int):=by
 obtain⟨h0,h6,h1,h2,h3,h3',h4,h5⟩:=ones x hx;refine⟨o1 x,o2 (o1 x),o3 (o2 (o1 x)),o4 256 (o3 (o2 (o1 x))),o4 65536 (o4 256 (o3 (o2 (o1 x)))),o4 4294967296 (o4 65536 (o4 256 (o3 (o2 (o1 x))))),?_,?_,?_,?_,?_,?_,by omega,?_⟩
 ·rw[show(x:Int) / 2=((x / 2:Nat):Int)from by omega,show(6148914691236517205:Int)=((6148914691236517205:Nat):Int)from rfl,bits_and_u64_nat _ _ (by omega) (by omega),bits_and_u64_nat _ _ hx (by omega),←Int.natCast_add,zCg];exact congrArg _ (Nat.mod_eq_of_lt h1)
 ·generalize o1 x=y at*;rw[show(y:Int) / 4=((y / 4:Nat):Int)from by omega,show(3689348814741910323:Int)=((3689348814741910323:Nat):Int)from rfl,bits_and_u64_nat _ _ (by omega) (by omega),bits_and_u64_nat _ _ h1 (by omega),←Int.natCast_add,zCg];exact congrArg _ (Nat.mod_eq_of_lt h2)
 ·generalize o2 (o1 x)=y at*;rw[show(y:Int) / 16+(y:Int)=((y / 16+y:Nat):Int)from by omega,zCg,Nat.mod_eq_of_lt h3,show(1085102592571150095:Int)=((1085102592571150095:Nat):Int)from rfl,bits_and_u64_nat _ _ h3 (by omega)]
  rfl
 ·generalize o3 (o2 (o1 x))=y at*;rw[show(y:Int)+(y:Int) / 256=((o4 256 y:Nat):Int)from by unfold o4;omega,zCg,Nat.mod_eq_of_lt (by omega)]
 ·generalize o4 256 (o3 (o2 (o1 x)))=y at*;rw[show(y:Int)+(y:Int) / 65536=((o4 65536 y:Nat):Int)from by unfold o4;omega,zCg,Nat.mod_eq_of_lt (by omega)]
 ·generalize o4 65536 (o4 256 (o3 (o2 (o1 x))))=y at*;rw[show(y:Int)+(y:Int) / 4294967296=((o4 4294967296 y:Nat):Int)from by unfold o4;omega,zCg,Nat.mod_eq_of_lt (by omega)]
 ·rw[zI7 _ (by omega),h0]
theorem zQg(x:Nat)(w)(hx:x<18446744073709551616):
  Calls Tryz.prog 193 #[.int .u64 x] w fun e w'=>e=.returned (.int .i64 (vs 1 64 x))/\w=w':=by
 obtain⟨y1,y2,y3,y4,y5,y6,e1,e2,e3,e4,e5,e6,l6,e7⟩:=zLg x hx;clear hx;go_enter Tryz.func193,Tryz.ntmps193;go_wp2;go_ret;exact⟨rfl,rfl⟩
def Tab(w:World):Prop:=TabAt 0 Lib.deBruijn64tab w
theorem zTz(x k idx:Nat)(w)(hx0:((x:Int)==0)=false)
  (key:IntKind.u64.wrap (bits BinOp.and IntKind.u64 (x:Int) (IntKind.u64.wrap (-(x:Int)))*285870213051353865) / 288230376151711744=(idx:Int))
  (hi:idx<64) (hk:k<64) (hcell:w.cell? ⟨0,idx,none⟩=some (.int .u8 k)):
  Calls Tryz.prog 194 #[.int .u64 x] w fun e w'=>e=.returned (.int .i64 k)/\w=w':=by
 go_enter Tryz.func194,Tryz.ntmps194;go_wp2_with (simp only[key]);go_ret;exact⟨rfl,rfl⟩
theorem zVA(x:Nat)(hx0:x≠0)(hx:x<18446744073709551616)(w)(hT:Tab w):
  Calls Tryz.prog 194 #[.int .u64 x] w fun e w'=>e=.returned (.int .i64 (Lib.ctz 64 x))/\w=w':=by
 obtain⟨hlow,hk⟩:=Lib.lowest_bit 64 x hx0 hx;obtain⟨hi,htab⟩:=Lib.deBruijn64_at _ hk;have hcell:=hT _ hi;rw[htab]at hcell;exact zTz x _ _ w (by simp;omega) (tz64_key x _ hx hx0 hlow) hi hk hcell
end Bt
namespace Bt
open Go.RowKit
def sz(n:Nat):Nat:=(n+63) / 64
structure SetAt (p d n:Nat) (B:Nat->Bool) (w:World):Prop where
 room:w.cell? ⟨p,0,none⟩=some (.int .i64 n)
 words:w.cell? ⟨p,1,none⟩=some (.slice (some ⟨d,0,none⟩) (sz n) (sz n))
 holds:∀k,k<sz n->w.cell? ⟨d,k,none⟩=some (.int .u64 (wd B k))
 free:∀k,k<sz n->w.frozen? ⟨d,k,none⟩=false
 apart:p≠d
 inp:p<w.heap.size
 ind:d<w.heap.size
 upto:Upto B n
theorem SetAt.keep{p d n}{B}{w w'}(h:SetAt p d n B w)(hs:w.heap.size<=w'.heap.size)(hp:w'.heap[p]?=w.heap[p]?)(hd:w'.heap[d]?=w.heap[d]?):SetAt p d n B w':=
 ⟨(World.cell?_of_block (a:=⟨p,0,none⟩) hp).trans h.room,(World.cell?_of_block (a:=⟨p,1,none⟩) hp).trans h.words,
  fun k hk=>(World.cell?_of_block (a:=⟨d,k,none⟩) hd).trans (h.holds k hk),fun k hk=>(World.frozen?_of_block (a:=⟨d,k,none⟩) hd).trans (h.free k hk),
  h.apart,Nat.lt_of_lt_of_le h.inp hs,Nat.lt_of_lt_of_le h.ind hs,h.upto⟩
inductive SetV:Value->Nat->(Nat->Bool)->World->Prop
 |nil (w:World):SetV (.pointer none) 0 (fun _=>false) w
 |at_ {p d n:Nat} {B:Nat->Bool} {w:World} (h:SetAt p d n B w):SetV (.pointer (some ⟨p,0,none⟩)) n B w
theorem SetV.upto{v}{n}{B}{w}(h:SetV v n B w):Upto B n:=by
 cases h with
 |nil=>exact .none
 |at_ h=>exact h.upto
theorem SetV.keep{v}{n}{B}{w w'}(h:SetV v n B w)(hs:w'.heap=w.heap):SetV v n B w':=by
 cases h with
 |nil=>exact .nil _
 |at_ h=>exact .at_ (h.keep (by rw[hs];exact Nat.le_refl _) (by rw[hs]) (by rw[hs]))
theorem SetV.drew{v}{n}{B}{w}(h:SetV v n B w)(m):SetV v n B (w.drewN m):=h.keep (by rfl)
theorem zHP{n}(h:n<=4096):sz n<=64:=by unfold sz;omega
theorem zQ4{v}{n}{B}(w)(h:SetV v n B w):
  Calls Tryz.prog 222 #[v] w fun e w'=>e=.returned (.int .i64 n)/\w=w':=by
 cases h with
 |nil=>
  go_enter Tryz.func222,Tryz.ntmps222;go_wp2;go_ret;exact⟨rfl,rfl⟩
 |@at_ p d n B w h=>
  have h0:=h.room;clear h;go_enter Tryz.func222,Tryz.ntmps222;go_wp2;go_ret;exact⟨rfl,rfl⟩
theorem zDE{v}{n}{B}(w)(h:SetV v n B w):
  Calls Tryz.prog 187 #[v] w fun e w'=>e=.returned (.int .i64 (sz n))/\w=w':=by
 cases h with
 |nil=>
  go_enter Tryz.func187,Tryz.ntmps187;go_wp2;go_ret;exact⟨rfl,rfl⟩
 |@at_ p d n B w h=>
  have h0:=h.words;clear h;go_enter Tryz.func187,Tryz.ntmps187;go_wp2;go_ret;exact⟨rfl,rfl⟩
theorem zVH{B}{n k}(h:Upto B n)(hk:¬k<sz n):wd B k=0:=
 zCx.2 fun j _=>h.2 _ (by unfold sz at hk;omega)
theorem zEy{v}{n}{B}(w)(h:SetV v n B w)(k:Nat):
  Calls Tryz.prog 188 #[v,.int .i64 k] w fun e w'=>e=.returned (.int .u64 (wd B k))/\w=w':=by
 have hsz:=zDE w h;have HSZ:=zV7 hsz;clear hsz
 by_cases hlt:k<sz n
 ·cases h with
  |nil=>simp[sz]at hlt
  |@at_ p d n B w h=>
   have h0:=h.words;have h1:=h.holds k hlt;have hb:sz n<=64:=zHP h.upto.1;clear h;go_enter Tryz.func188,Tryz.ntmps188;go_wp2_with (go_at_call 187;refine HSZ.out.mono ?_;rintro e w' ⟨rfl,rfl⟩);go_ret;exact⟨rfl,rfl⟩
 ·have h0:=zV7 (zVH h.upto hlt);clear h;go_enter Tryz.func188,Tryz.ntmps188;go_wp2_with (go_at_call 187;refine HSZ.out.mono ?_;rintro e w' ⟨rfl,rfl⟩);go_ret;exact⟨by rw[h0.out];rfl,rfl⟩
def fit(n:Nat)(i:Int):Bool:=decide (0<=i)&&decide (i<(n:Int))
theorem zEp{v}{n}{B}(w)(h:SetV v n B w)(i):
  Calls Tryz.prog 190 #[v,.int .i64 i] w fun e w'=>e=.returned (.bool (fit n i))/\w=w':=by
 have HR:=zV7 (zQ4 w h);clear h
 by_cases h0:0<=i
 ·by_cases h1:i<(n:Int)
  ·have HF:=zV7 (show fit n i=true by simp[fit,h0,h1]);go_enter Tryz.func190,Tryz.ntmps190;go_wp2_with (go_at_call 222;refine HR.out.mono ?_;rintro e w' ⟨rfl,rfl⟩);go_ret;exact⟨by rw[HF.out];first|rfl|(simp;omega),rfl⟩
  ·have HF:=zV7 (show fit n i=false by simp[fit,h0,h1]);go_enter Tryz.func190,Tryz.ntmps190;go_wp2_with (go_at_call 222;refine HR.out.mono ?_;rintro e w' ⟨rfl,rfl⟩);go_ret;exact⟨by rw[HF.out];first|rfl|(simp;omega),rfl⟩
 ·have HF:=zV7 (show fit n i=false by simp[fit,h0]);go_enter Tryz.func190,Tryz.ntmps190;go_wp2_with (go_at_call 222;refine HR.out.mono ?_;rintro e w' ⟨rfl,rfl⟩);go_ret;exact⟨by rw[HF.out];rfl,rfl⟩
theorem flip{P}{f}{args}{w}{v}(h:Calls P f args w fun e w'=>e=.returned v/\w=w'):Calls P f args w fun e w'=>e=.returned v/\w'=w:=
 h.mono fun _ _ ⟨h1,h2⟩=>⟨h1,h2.symm⟩
theorem zMr{n}{i}(h:fit n i=true):∃j:Nat,i=(j:Int)/\j<n:=by
 simp only[fit,Bool.and_eq_true,decide_eq_true_eq]at h;exact⟨i.toNat,by omega,by omega⟩
theorem zSt{n}{B}(hB:Upto B n){i}(h:fit n i=false):has B i=false:=by
 simp only[fit,Bool.and_eq_false_iff,decide_eq_false_iff_not]at h;unfold has
 by_cases h0:0<=i
 ·rcases h with h|h
  ·exact absurd h0 h
  ·rw[hB.2 _ (by omega)];simp
 ·simp[h0]
theorem zM3(B)(j:Nat):has B (j:Int)=B j:=by simp[has]
theorem zPK(B)(j):∃m:Nat,bits BinOp.and IntKind.u64 (wd B (j / 64):Int) (zCn j:Int)=(m:Int)/\((m:Int) != 0)=B j:=by
 refine⟨_,bits_and_u64_nat _ _ (zCe _ _) (zCR _),?_⟩;have h:=zPp B j;cases hb:B j with
 |false=>
  rw[hb]at h
  have:wd B (j / 64)&&& zCn j=0:=by
   refine Classical.byContradiction fun hn=>?_
   exact absurd (h.1 hn) (by simp)
  rw[this];rfl
 |true=>
  have:=h.2 hb;rw[bne_iff_ne];omega
def Draws(v:Value)(w:World)(e:Ending)(w':World):Prop:=e=.returned v/\∃m,w'=w.drewN m
theorem zM2{v}{n}{B}(w)(h:SetV v n B w)(i)(hi:i<=9223372036854775807):
  Calls Tryz.prog 191 #[v,.int .i64 i] w (Draws (.bool (has B i)) w):=by
 have HF:=zV7 (fun m=>flip (zEp (w.drewN m) (h.drew m) i));cases hf:fit n i with
 |false=>
  have HH:=zV7 (zSt h.upto hf);rw[hf]at HF;clear h hf;go_enter Tryz.func191,Tryz.ntmps191;go_wp2_with fail;go_quiet ((go_at_call 190;exact Calls.quiet_of_same (HF.out _)));go_wp2;go_ret;exact⟨by rw[HH.out];rfl,nq,rfl⟩
 |true=>
  obtain⟨j,rfl,hj⟩:=zMr hf;cases h with
  |nil=>omega
  |@at_ p d n B w h=>
   rw[hf]at HF;have h0:=h.words;have hlt:j / 64<sz n:=by unfold sz;omega
   have h1:=h.holds (j / 64) hlt;have hb:sz n<=64:=zHP h.upto.1;have h2:=h.upto.1;have HB:=zV7 (fun m=>flip (zIq j (w.drewN m) (by omega)));obtain⟨m,e1,e2⟩:=zPK B j;rw[zM3,←e2];clear h hf e2;go_enter Tryz.func191,Tryz.ntmps191;go_wp2_with fail;go_quiet (first|(go_at_call 190;exact Calls.quiet_of_same (HF.out _))|(go_at_call 192;exact Calls.quiet_of_same (HB.out _)));go_wp2;go_ret;exact⟨rfl,nq,rfl⟩
end Bt
namespace Bt
open Go.RowKit
def cnt(B:Nat->Bool)(k:Nat):Nat:=((List.range (64*k)).filter B).length
theorem zPT(B)(k):cnt B (k+1)=cnt B k+vs 1 64 (wd B k):=zLD B k
theorem zPU(B):cnt B 0=0:=by simp[cnt]
theorem zUO(B)(k):cnt B k<=64*k:=zHr B _
theorem zSW{B}{n}(h:Upto B n):cnt B (sz n)=(els B).length:=zMi h (by unfold sz;omega)
theorem zMh{v}{n}{B}(w)(h:SetV v n B w):
  Calls Tryz.prog 167 #[v] w fun e w'=>e=.returned (.int .i64 (els B).length)/\w=w':=by
 have HS:=zV7 (zDE w h);have HW:=zV7 (zEy w h);have HO:=zV7 (fun k=>zQg (wd B k) w (zCe B k));have HE:=zV7 (zSW h.upto);have hb:sz n<=64:=zHP h.upto.1;clear h;go_enter Tryz.func167,Tryz.ntmps167;go_wp2_with (go_at_call 187;refine HS.out.mono ?_;rintro e w' ⟨rfl,rfl⟩);go_loop [3,7] (fun c i=>∃k:Nat,k<=sz n/\i=.int .i64 k/\c=.int .i64 (cnt B k)) (fun _ i=>sz n-(intOf i).toNat)
 case atStart=>exact⟨0,Nat.zero_le _,rfl,by rw[zPU];rfl⟩
 case round=>
  obtain⟨k,hk,rfl,rfl⟩:=hrel;have hc:=zUO B k;have hc0:(0:Int)<=(cnt B k:Int):=by omega
  by_cases hlt:k<sz n
  ·have hv:=zV5 64 (wd B k);have HC:=zV7 (zPT B k);go_wp2_with (first|(go_at_call 188;refine(HW.out _).mono ?_;rintro e w' ⟨rfl,rfl⟩)|(go_at_call 193;refine(HO.out _).mono ?_;rintro e w' ⟨rfl,rfl⟩));go_round
   case rel=>exact⟨k+1,by omega,by go_num,by rw[HC.out];go_num⟩
   case measure=>simp[intOf];omega
  ·have he:k=sz n:=by omega
   have HE2:Hid (cnt B k=(els B).length):=by rw[he];exact HE.out
   clear he;go_wp2;go_ret;exact⟨by rw[HE2.out];rfl,rfl⟩
def Bare(B:Nat->Bool)(i k:Nat):Prop:=∀j,i<=j->j<64*k->B j=false
def below(i k:Nat):Nat:=if k=i / 64 then zCn i-1 else 0
theorem zPJ(i k):below i k<18446744073709551616:=by
 have:=zCR i;unfold below;split<;>omega
theorem zK0(B)(i k)(h:i / 64<=k):bits BinOp.andNot IntKind.u64 (wd B k:Int) (below i k:Int)=(wd (from_ B i) k:Int):=by
 have hb:=zPJ i k;have h1:=zCe B k;rw[u64_andNot _ _ (by omega) (by omega) (by omega) (by omega),Int.toNat_natCast,Int.toNat_natCast]
 congr 1
 unfold below;split
 ·rename_i e;rw[e];exact zIo B i
 ·rw[zIp B i k (by omega),Nat.sub_zero]
  apply Nat.eq_of_testBit_eq
  intro j;rw[Nat.testBit_and,zB5,show 18446744073709551615=2^64-1 from rfl,Nat.testBit_two_pow_sub_one]
  by_cases hj:j<64<;>simp[hj]
theorem zMP{B}{i k}(h:Bare B i k)(hz:wd (from_ B i) k=0):Bare B i (k+1):=by
 intro j hij hj
 by_cases hlt:j<64*k
 ·exact h j hij hlt
 ·have:=zCx.1 hz (j-64*k) (by omega);rw[show 64*k+(j-64*k)=j from by omega]at this
  simpa[from_,hij]using this
theorem zKx{B}{n i k}(hB:Upto B n)(h:Bare B i k)(hz:wd (from_ B i) k≠0):
  Lib.ctz 64 (wd (from_ B i) k)<64/\next B (i:Int)=((k*64+Lib.ctz 64 (wd (from_ B i) k):Nat):Int):=by
 obtain⟨hc,h1,h2⟩:=zSX hz (zCe _ _);refine⟨hc,?_⟩;generalize Lib.ctz 64 (wd (from_ B i) k)=c at*;rw[zB5]at h1;have e:k*64+c=64*k+c:=by omega
 simp only[from_,Bool.and_eq_true,decide_eq_true_eq]at h1;rw[e];refine zQV hB _ (by omega) h1.2.1 fun j hij hj=>?_
 by_cases hlt:j<64*k
 ·exact h j (by omega) hlt
 ·have:=h2 (j-64*k) (by omega);rw[zB5,show 64*k+(j-64*k)=j from by omega]at this;have h3:j-64*k<64:=by omega
  have h4:i<=j:=by omega
  simpa[from_,h3,h4]using this
theorem zPG{B}{n i k}(hB:Upto B n)(hk:sz n<=k)(h:Bare B i k):next B (i:Int)= -1:=
 zTG _ fun j hij=>by
  by_cases hlt:j<64*k
  ·exact h j (by omega) hlt
  ·exact hB.2 j (by unfold sz at hk;omega)
theorem zL6(i):IntKind.u64.wrap ((zCn i:Int)-1)=(below i (i / 64):Int):=by
 have:=zCR i;have:=zHc i;rw[IntKind.wrap_u64];simp only[below,if_true];omega
theorem zKz(i k)(h:i / 64<=k):below i (k+1)=0:=by
 unfold below;rw[if_neg (by omega)]
theorem zQU{v}{n}{B}(w)(h:SetV v n B w)(hT:Tab w)(f)(i:Nat)(hf:max f 0=(i:Int))(hi:i<=9223372036854775807):
  Calls Tryz.prog 168 #[v,.int .i64 f] w fun e w'=>e=.returned (.int .i64 (next B (i:Int)))/\w=w':=by
 have HS:=zV7 (zDE w h);have HW:=zV7 (zEy w h);have HT:=zV7 hT;have HU:=zV7 h.upto;have HB:=zV7 (zIq i w hi);have hb:sz n<=64:=zHP h.upto.1;have hw:=zL6 i;clear h hT;have HF:=zV7 hf;clear hf;go_enter Tryz.func168,Tryz.ntmps168;go_upto_region 1 with(fail)
 go_cut [1] (fun s1 wx=>s1=.int .i64 (i:Int)/\w=wx)
 case first=>
  by_cases hneg:f<0
  ·have HI:=zV7 (show(i:Int)=0 by have:=HF.out;omega);go_wp2;go_meet
   case rel=>exact⟨by rw[HI.out],rfl⟩
  ·have HI:=zV7 (show(i:Int)=f by have:=HF.out;omega);go_wp2;go_meet
   case rel=>exact⟨by rw[HI.out],rfl⟩
 case rest=>
  obtain⟨rfl,rfl⟩:=hcut;go_wp2_with (go_at_call 192;refine HB.out.mono ?_;rintro e w' ⟨rfl,rfl⟩);clear hw;go_loop [5,6] (fun b s=>∃k:Nat,i / 64<=k/\s=.int .i64 k/\b=.int .u64 (below i k)/\Bare B i k) (fun _ s=>sz n-(intOf s).toNat)
  case atStart=>exact⟨i / 64,Nat.le_refl _,by rw[show((i / 64:Nat):Int)=(i:Int) / 64 from by omega],rfl,fun j hij hj=>by omega⟩
  case round=>
   obtain⟨k,hk,rfl,rfl,ha⟩:=hrel;have HA:=zV7 ha;clear ha
   by_cases hlt:k<sz n
   ·have HE:=zK0 B i k hk
    by_cases hz:wd (from_ B i) k=0
    ·have HN:=zV7 (zMP HA.out hz);have HL:=zV7 (zKz i k hk);rw[hz]at HE;clear hz;go_wp2_with (first|(go_at_call 187;refine HS.out.mono ?_;rintro e w' ⟨rfl,rfl⟩)|(go_at_call 188;refine(HW.out _).mono ?_;rintro e w' ⟨rfl,rfl⟩));go_round
     case rel=>exact⟨k+1,by omega,by go_num,by rw[HL.out];rfl,HN.out⟩
     case measure=>simp[intOf];omega
    ·obtain⟨hc,hn⟩:=zKx HU.out HA.out hz;have HN:=zV7 hn;have hne:((wd (from_ B i) k:Int) != 0)=true:=by rw[bne_iff_ne];omega
     have HZ:=zV7 (zVA _ hz (zCe _ _) w HT.out);clear hz hn;generalize Lib.ctz 64 (wd (from_ B i) k)=c at*;generalize wd (from_ B i) k=z at*;go_wp2_with (first|(go_at_call 187;refine HS.out.mono ?_;rintro e w' ⟨rfl,rfl⟩)|(go_at_call 188;refine(HW.out _).mono ?_;rintro e w' ⟨rfl,rfl⟩)|(go_at_call 194;refine HZ.out.mono ?_;rintro e w' ⟨rfl,rfl⟩));go_ret;exact⟨by rw[HN.out];simp,rfl⟩
   ·have HN:=zV7 (zPG HU.out (by omega) HA.out);go_wp2_with (go_at_call 187;refine HS.out.mono ?_;rintro e w' ⟨rfl,rfl⟩);go_ret;exact⟨by rw[HN.out];rfl,rfl⟩
theorem zKM{v}{n}{B}(w)(h:SetV v n B w)(hT:Tab w)(f)(hf:f<=9223372036854775807):
  Calls Tryz.prog 168 #[v,.int .i64 f] w fun e w'=>e=.returned (.int .i64 (next B f))/\w=w':=by
 have e:max f 0=((max f 0).toNat:Int):=by omega
 have:=zQU w h hT f (max f 0).toNat e (by omega);rw[←e,zQT]at this;exact this
end Bt
namespace Bt
open Go.RowKit
theorem zPy:(Tryz.prog.info? 261).map (fun i=>(i.zero,i.size,i.bytes))=some (some (.int .u64 0),1,8):=by kernel_rfl
theorem zLY(c:Nat)(hc:c<=4096)(w):
  (Instr.makeSlice 263 (.int .i64 (((c:Int)+64-1) / 64)) (.int .i64 (((c:Int)+64-1) / 64))).run Tryz.prog w=.ok (.slice (some ⟨w.heap.size,0,none⟩) (sz c) (sz c)) (w.alloc (.cells (madeCells #[.int .u64 0] (sz c)) 261)):=by
 have e:((c:Int)+64-1) / 64=((sz c:Nat):Int):=by unfold sz;omega
 have:=zHP hc;rw[e];exact run_make_row' 263 261 (.int .u64 0) 8 Tryz.underlying263 zPy rfl .i64 .i64 (sz c) (by omega) (by omega) w
theorem zNp(k):wd (fun _=>false) k=0:=zCx.2 fun _ _=>rfl
theorem zFP(n k)(h:k<n)(z):(madeCells #[z] n)[k]?=some z:=by
 simp[madeCells,h,Nat.mod_one]
def cap(n:Int):Nat:=(min (max n 0) 4096).toNat
theorem zJu(n):cap n<=4096:=by unfold cap;omega
def Made(n:Nat)(w:World)(e:Ending)(w':World):Prop:=
 ∃p d,e=.returned (.pointer (some ⟨p,0,none⟩))/\w.heap.size<=p/\w.heap.size<=d/\SetAt p d n (fun _=>false) w'/\Below w.heap.size w w'/\w'.heap[d]?=some (.cells (madeCells #[.int .u64 0] (sz n)) 261 (0,0))
theorem zHC(n)(w):
  Calls Tryz.prog 165 #[.int .i64 n] w (Made (cap n) w):=by
 have hc:=zJu n;go_enter Tryz.func165,Tryz.ntmps165;go_upto_region 1 with(fail)
 go_cut [0] (fun s1 wx=>s1=.int .i64 (cap n:Int)/\w=wx)
 case first=>
  by_cases hneg:n<0
  ·have HI:=zV7 (show(cap n:Int)=0 by unfold cap;omega);go_wp2;go_meet
   case rel=>exact⟨by rw[HI.out],rfl⟩
  ·by_cases hbig:4096<n
   ·have HI:=zV7 (show(cap n:Int)=4096 by unfold cap;omega);go_wp2;go_meet
    case rel=>exact⟨by rw[HI.out],rfl⟩
   ·have HI:=zV7 (show(cap n:Int)=n by unfold cap;omega);go_wp2;go_meet
    case rel=>exact⟨by rw[HI.out],rfl⟩
 case rest=>
  obtain⟨rfl,rfl⟩:=hcut;generalize cap n=c at*;have hmk:=zLY c hc;go_wp2;go_ret;refine⟨w.heap.size+1,w.heap.size,rfl,by omega,Nat.le_refl _,⟨by simp,by simp,fun k hk=>?_,fun k hk=>?_,by omega,by simp,by simp;omega,.empty hc⟩,((Below.refl _ _).alloc (Nat.le_refl _) _).alloc (by simp) _,?_⟩
  ·rw[zNp];simp[zFP _ _ hk]
  ·simp
  ·rw[Below.heap_alloc _ _ _ (by simp)];exact Deep.blk_alloc_new _ _
structure Keeps (d:Nat) (w w':World):Prop where
 os:w'.os=w.os
 tape:w'.tape=w.tape
 output:w'.output=w.output
 size:w.heap.size<=w'.heap.size
 block:∀k,k<w.heap.size->k≠d->w'.heap[k]?=w.heap[k]?
theorem Keeps.refl(d)(w):Keeps d w w:=⟨rfl,rfl,rfl,Nat.le_refl _,fun _ _ _=>rfl⟩
theorem Keeps.trans{d}{a b c}(h:Keeps d a b)(k:Keeps d b c):Keeps d a c:=
 ⟨k.os.trans h.os,k.tape.trans h.tape,k.output.trans h.output,Nat.le_trans h.size k.size,fun i hi hd=>(k.block i (Nat.lt_of_lt_of_le hi h.size) hd).trans (h.block i hi hd)⟩
theorem Keeps.drewN{d}{a w}(h:Keeps d a w)(m):Keeps d a (w.drewN m):=⟨h.os,h.tape,h.output,h.size,h.block⟩
theorem Keeps.setCell{d}{a w}(h:Keeps d a w)(k)(u):Keeps d a (w.setCell ⟨d,k,none⟩ u):=
 h.trans ⟨rfl,rfl,rfl,by simp[World.setCell],fun i _ hd=>Below.heap_setCell _ _ _ _ (by simpa using hd)⟩
theorem Keeps.below{d m}{a w}(h:Keeps d a w)(hm:m<=d)(hs:m<=a.heap.size):Below m a w:=
 ⟨h.os,h.tape,h.output,h.size,fun i hi=>h.block i (by omega) (by omega)⟩
theorem SetAt.keeps{p d n b}{B}{w w'}(h:SetAt p d n B w)(k:Keeps b w w')(hp:p≠b)(hd:d≠b):SetAt p d n B w':=
 h.keep k.size (k.block _ h.inp hp) (k.block _ h.ind hd)
theorem SetAt.below{p d n m}{B}{w w'}(h:SetAt p d n B w)(k:Below m w w')(hp:p<m)(hd:d<m):SetAt p d n B w':=
 h.keep k.size (k.block _ hp) (k.block _ hd)
theorem SetAt.drewN{p d n}{B}{w}(h:SetAt p d n B w)(m):SetAt p d n B (w.drewN m):=
 h.keep (Nat.le_refl _) rfl rfl
theorem SetAt.store{p d n k}{B B'}{w}(h:SetAt p d n B w)(hk:k<sz n)(hB:Upto B' n)(ho:∀i,i≠k->wd B' i=wd B i):SetAt p d n B' (w.setCell ⟨d,k,none⟩ (.int .u64 (wd B' k))):=by
 refine⟨?_,?_,fun i hi=>?_,fun i hi=>?_,h.apart,by simpa[World.setCell]using h.inp,by simpa[World.setCell]using h.ind,hB⟩
 ·rw[World.cell?_setCell_other _ _ _ _ (by intro e;exact h.apart (congrArg Addr.block e).symm)];exact h.room
 ·rw[World.cell?_setCell_other _ _ _ _ (by intro e;exact h.apart (congrArg Addr.block e).symm)];exact h.words
 ·by_cases e:i=k
  ·subst e;exact World.cell?_setCell_same _ _ _ (h.holds i hi)
  ·rw[World.cell?_setCell_other _ _ _ _ (by intro e2;exact e (congrArg Addr.off e2).symm),ho i e];exact h.holds i hi
 ·rw[World.frozen?_setCell];exact h.free i hi
def Wrote(r:Bool)(p d n:Nat)(B:Nat->Bool)(w:World)(e:Ending)(w':World):Prop:=e=.returned (.bool r)/\SetAt p d n B w'/\Keeps d w w'
theorem zPL(B)(j):bits BinOp.or IntKind.u64 (wd B (j / 64):Int) (zCn j:Int)=(wd (put B j) (j / 64):Int):=by
 rw[bits_or_u64_nat _ _ (zCe _ _) (zCR _),zQu]
theorem zCs{p d n:Nat}{B:Nat->Bool}(w:World)(h:SetAt p d n B w)(i:Int)(hi:i<=9223372036854775807):
  Calls Tryz.prog 166 #[.pointer (some ⟨p,0,none⟩),.int .i64 i] w (Wrote (putR B n i) p d n (putI B n i) w):=by
 have HF:=zV7 (zEp w (.at_ h) i);have HH:=zV7 (zM2 w (.at_ h) i hi);cases hf:fit n i with
 |false=>
  have e1:putR B n i=false:=by simp only[fit]at hf;simp[putR,hf]
  have e2:putI B n i=B:=by
   unfold putI;rw[if_neg];intro hc;simp[fit,hc.1,hc.2]at hf
  rw[e1,e2];rw[hf]at HF;have HA:=zV7 h;clear h hf e1 e2;go_enter Tryz.func166,Tryz.ntmps166;go_wp2_with (go_at_call 190;refine HF.out.mono ?_;rintro e w' ⟨rfl,rfl⟩);go_ret;exact⟨rfl,HA.out,.refl _ _⟩
 |true=>
  obtain⟨j,rfl,hj⟩:=zMr hf;rw[hf]at HF;rw[zM3]at HH;cases hb:B j with
  |true=>
   have e1:putR B n (j:Int)=false:=by simp[putR,hb]
   have e2:putI B n (j:Int)=B:=by
    unfold putI;split
    ·exact zQt hb
    ·rfl
   rw[e1,e2];rw[hb]at HH;have HA:=zV7 h;clear h hf e1 e2 hb;go_enter Tryz.func166,Tryz.ntmps166;go_wp2_with (first|(go_at_call 190;refine HF.out.mono ?_;rintro e w' ⟨rfl,rfl⟩)|(go_at_call 191;refine HH.out.mono ?_;rintro e w' ⟨rfl,m,rfl⟩));go_ret;exact⟨rfl,HA.out.drewN _,(Keeps.refl _ _).drewN _⟩
  |false=>
   have e1:putR B n (j:Int)=true:=by simp[putR,hb,hj]
   have e2:putI B n (j:Int)=put B j:=by
    unfold putI;rw[if_pos (by omega)]
    rfl
   rw[e1,e2];rw[hb]at HH;have HA:=zV7 h;have hlt:j / 64<sz n:=by unfold sz;omega
   have hs:sz n<=64:=zHP h.upto.1;have h2:=h.upto.1;have HE:=zV7 (zPL B j);clear h hf e1 e2 hb;go_enter Tryz.func166,Tryz.ntmps166;go_wp2_with (first|(go_at_call 190;refine HF.out.mono ?_;rintro e w' ⟨rfl,rfl⟩)|(go_at_call 191;refine HH.out.mono ?_;rintro e w' ⟨rfl,m,rfl⟩));have HA2:=zV7 (HA.out.drewN m);have HK2:=zV7 ((Keeps.refl d w).drewN m);clear HA HF HH;generalize w.drewN m=w2 at*;have c0:=HA2.out.words;have c1:=HA2.out.holds _ hlt;have c2:=HA2.out.free _ hlt;have HB:=zV7 (flip (zIq j w2.drew (by omega)));have he:=HE.out;have q1:IntKind.i64.wrap ((j:Int) / 64)=(j:Int) / 64:=IntWalk.i64_in _ (by omega);have q2:(0:Int)<=(j:Int) / 64:=by omega
   have q3:(j:Int) / 64<(sz n:Int):=by omega
   have q4:((j:Int) / 64).toNat=j / 64:=by omega
   go_still_tail 12,(by kernel_rfl)
   still_call (HB.out)
   repeat still_step
   refine wpStill_nil ?_;change wpList _ _ _ _ _ w2.drew;have HS:=zV7 ((HA2.out.drewN 1).store hlt (HA2.out.upto.put hj) (fun i hi=>zOH B j i hi));have HK:=zV7 ((HK2.out.drewN 1).setCell (j / 64) (.int .u64 (wd (put B j) (j / 64))));clear q1 q2 q3 q4 he HB HE HA2 HK2;go_wp2;go_ret;exact⟨rfl,HS.out,HK.out⟩
end Bt
namespace Bt
open Go.RowKit
def orK(B:Nat->Bool)(n:Nat)(C:Nat->Bool)(k:Nat):Nat->Bool:=fun j=>B j||(C j&&decide (j<n)&&decide (j<64*k))
def gk(B:Nat->Bool)(n:Nat)(C:Nat->Bool)(k:Nat):Bool:=(List.range n).any fun i=>decide (i<64*k)&&(C i&& !B i)
def more(B:Nat->Bool)(n:Nat)(C:Nat->Bool):Nat->Bool:=fun i=>(C i&&under n i)&& !B i
theorem zQm(B C)(n):orK B n C 0=B:=by funext j;simp[orK]
theorem zSq(B C)(n):gk B n C 0=false:=by simp[gk]
theorem zQl(B C)(n k):wd (orK B n C k) k=wd B k:=
 zD4 fun j _=>by
  have:¬64*k+j<64*k:=by omega
  simp only[orK,this,decide_false,Bool.and_false,Bool.or_false]
theorem zN0(B C)(n k i)(h:i≠k):wd (orK B n C (k+1)) i=wd (orK B n C k) i:=
 zD4 fun j _=>by
  have:decide (64*i+j<64*(k+1))=decide (64*i+j<64*k):=by simp;omega
  simp only[orK,this]
theorem zQj(B C)(n k):wd B k|||wd (more B n C) k=wd (orK B n C (k+1)) k:=by
 rw[zVG];refine zD4 fun j hj=>?_
 have:64*k+j<64*(k+1):=by omega
 simp only[orK,more,under,this,decide_true,Bool.and_true];cases B (64*k+j)<;>simp
theorem zQi{B C}{n k}(h:wd (more B n C) k=0):orK B n C (k+1)=orK B n C k:=by
 funext i
 by_cases hi:64*k<=i/\i<64*(k+1)
 ·have hz:=zCx.1 h (i-64*k) (by omega);rw[show 64*k+(i-64*k)=i from by omega]at hz;simp only[more,under]at hz;simp only[orK]
  revert hz
  cases B i<;>cases C i<;>by_cases hn:i<n<;>simp[hn]
 ·have:decide (i<64*(k+1))=decide (i<64*k):=by simp;omega
  simp only[orK,this]
theorem zSp{B C}{n k}(h:wd (more B n C) k=0):gk B n C (k+1)=gk B n C k:=by
 unfold gk;rw[Bool.eq_iff_iff,List.any_eq_true,List.any_eq_true];constructor
 ·rintro⟨i,hi,hb⟩;refine⟨i,hi,?_⟩;simp only[Bool.and_eq_true,decide_eq_true_eq]at hb⊢;refine⟨?_,hb.2⟩;refine Classical.byContradiction fun hn=>?_
  have hz:=zCx.1 h (i-64*k) (by omega);rw[show 64*k+(i-64*k)=i from by omega]at hz;have:=List.mem_range.1 hi;simp[more,under,hb.2.1,this]at hz;simp[hz]at hb
 ·rintro⟨i,hi,hb⟩;refine⟨i,hi,?_⟩;simp only[Bool.and_eq_true,decide_eq_true_eq]at hb⊢;exact⟨by omega,hb.2⟩
theorem zSo{B C}{n k}(h:wd (more B n C) k≠0):gk B n C (k+1)=true:=by
 obtain⟨j,hj,hb⟩:=zVF h;simp only[more,under,Bool.and_eq_true,decide_eq_true_eq]at hb;unfold gk;rw[List.any_eq_true];refine⟨64*k+j,List.mem_range.2 hb.1.2,?_⟩;simp only[Bool.and_eq_true,decide_eq_true_eq];exact⟨by omega,hb.1.1,hb.2⟩
theorem zTP(B C)(n):orK B n C (sz n)=orr B n C:=by
 funext i
 simp only[orK,orr]
 by_cases hi:i<n
 ·have:i<64*sz n:=by unfold sz;omega
  simp[hi,this]
 ·simp[hi]
theorem zUe(B C)(n):gk B n C (sz n)=gains B n C:=by
 unfold gk gains;rw[Bool.eq_iff_iff,List.any_eq_true,List.any_eq_true];constructor
 ·rintro⟨i,hi,hb⟩;simp only[Bool.and_eq_true,decide_eq_true_eq]at hb;exact⟨i,hi,by simpa using hb.2⟩
 ·rintro⟨i,hi,hb⟩;have:=List.mem_range.1 hi;refine⟨i,hi,?_⟩;simp only[Bool.and_eq_true,decide_eq_true_eq]at hb⊢;exact⟨by unfold sz;omega,hb⟩
theorem zQk{B}{n}(h:Upto B n)(C)(k):Upto (orK B n C k) n:=
 ⟨h.1,fun j hj=>by
  have:¬j<n:=by omega
  simp[orK,h.2 j hj,this]⟩
inductive OtherV (d:Nat):Value->Nat->(Nat->Bool)->World->Prop
 |nil (w:World):OtherV d (.pointer none) 0 (fun _=>false) w
 |at_ {p2 d2 m:Nat} {C:Nat->Bool} {w:World} (h:SetAt p2 d2 m C w) (hp:p2≠d) (hd:d2≠d):OtherV d (.pointer (some ⟨p2,0,none⟩)) m C w
theorem OtherV.set{d}{u}{m}{C}{w}(h:OtherV d u m C w):SetV u m C w:=by
 cases h with
 |nil=>exact .nil _
 |at_ h _ _=>exact .at_ h
theorem OtherV.keeps{d}{u}{m}{C}{w w'}(h:OtherV d u m C w)(k:Keeps d w w'):OtherV d u m C w':=by
 cases h with
 |nil=>exact .nil _
 |at_ h hp hd=>exact .at_ (h.keeps k hp hd) hp hd
theorem zHY(n k:Nat)(h:64*k<n):∃X:Nat,Op.shift BinOp.shl IntKind.u64 1 IntKind.u64 ((n:Int)-(k:Int)*64)=pure (.int .u64 (X:Int))/\IntKind.u64.wrap ((X:Int)-1)=(wd (under n) k:Int):=by
 refine⟨2^(n-64*k) % 18446744073709551616,?_,?_⟩
 ·rw[shift_shl_any _ _ _ _ (by omega),show((n:Int)-(k:Int)*64).toNat=n-64*k from by omega]
  congr 2
  rw[IntKind.wrap_u64,Int.one_mul]
  by_cases hb:n-64*k<=64
  ·rw[show min (n-64*k) IntKind.u64.bits=n-64*k from by simp[IntKind.bits];omega];have e:((2:Int)^(n-64*k))=((2^(n-64*k):Nat):Int):=by simp
   rw[e];rfl
  ·rw[show min (n-64*k) IntKind.u64.bits=64 from by simp[IntKind.bits];omega];have hd:2^(n-64*k) % 2^64=0:=Nat.mod_eq_zero_of_dvd (Nat.pow_dvd_pow 2 (by omega));have hd2:2^(n-64*k) % 18446744073709551616=0:=hd;rw[hd2];rfl
 ·rw[←zL2 n k h];generalize 2^(n-64*k)=p;rw[IntKind.wrap_u64];omega
theorem zE3{p d n}{B}(w)(h:SetAt p d n B w)(k)(hk:k<sz n):
  Calls Tryz.prog 189 #[.pointer (some ⟨p,0,none⟩),.int .i64 k] w fun e w'=>e=.returned (.int .u64 (wd (under n) k))/\w=w':=by
 have h0:=h.room;have hn:=h.upto.1;have hlt:64*k<n:=by unfold sz at hk;omega
 have hs:sz n<=64:=zHP h.upto.1;clear h;obtain⟨X,e1,e2⟩:=zHY n k hlt;go_enter Tryz.func189,Tryz.ntmps189;go_wp2;go_ret;exact⟨rfl,rfl⟩
theorem zRu{u}(w):
  Calls Tryz.prog 164 #[.pointer none,u] w fun e w'=>e=.returned (.bool false)/\w=w':=by
 have hS:=zDE w (.nil w);rw[show sz 0=0 from rfl]at hS;have HS:=zV7 hS;clear hS;go_enter Tryz.func164,Tryz.ntmps164;go_wp2_with (go_at_call 187;refine HS.out.mono ?_;rintro e w' ⟨rfl,rfl⟩);go_loop [5,10] (fun c i=>c=.bool false/\i=.int .i64 0) (fun _ _=>0)
 case atStart=>exact⟨rfl,rfl⟩
 case round=>
  obtain⟨rfl,rfl⟩:=hrel;go_wp2;go_ret;exact⟨rfl,rfl⟩
def zUC(p d n:Nat)(B:Nat->Bool)(u:Value)(m:Nat)(C:Nat->Bool)(w:World)(k:Nat)(wr:World):Prop:=
 SetAt p d n (orK B n C k) wr/\OtherV d u m C wr/\Keeps d w wr
theorem zHd(B C)(n k):bits BinOp.andNot IntKind.u64 (bits BinOp.and IntKind.u64 (wd C k:Int) (wd (under n) k:Int)) (wd B k:Int)=(wd (more B n C) k:Int):=by
 have h1:=zCe B k;rw[bits_and_u64_nat _ _ (zCe _ _) (zCe _ _)];have h2:wd C k&&& wd (under n) k<18446744073709551616:=Nat.lt_of_le_of_lt Nat.and_le_left (zCe C k);rw[u64_andNot _ _ (by omega) (by omega) (by omega) (by omega),Int.toNat_natCast,Int.toNat_natCast];exact congrArg _ (zNi B C n k)
theorem bits_join(B C)(n k):bits BinOp.or IntKind.u64 (wd B k:Int) (wd (more B n C) k:Int)=(wd (orK B n C (k+1)) k:Int):=by
 rw[bits_or_u64_nat _ _ (zCe _ _) (zCe _ _),zQj]
theorem zIJ{p d n m}{B C}{u}(w)(h:SetAt p d n B w)(g:OtherV d u m C w):
  Calls Tryz.prog 164 #[.pointer (some ⟨p,0,none⟩),u] w (Wrote (gains B n C) p d n (orr B n C) w):=by
 have HS:=zV7 (zDE w (.at_ h));have hs:sz n<=64:=zHP h.upto.1;have HU0:=zV7 h.upto;have H0:Hid (zUC p d n B u m C w 0 w):=⟨by rw[zQm];exact h,g,.refl _ _⟩;clear h g;go_enter Tryz.func164,Tryz.ntmps164;go_wp2_with (go_at_call 187;refine HS.out.mono ?_;rintro e w' ⟨rfl,rfl⟩);go_loopw [5,10] (fun c i wr=>∃k:Nat,k<=sz n/\i=.int .i64 k/\c=.bool (gk B n C k)/\zUC p d n B u m C w k wr) (fun _ i _=>sz n-(intOf i).toNat)
 case atStart=>exact⟨0,Nat.zero_le _,rfl,by rw[zSq],H0.out⟩
 case round=>
  obtain⟨k,hk,rfl,rfl,hi⟩:=hrel;have HI:=zV7 hi;clear hi
  by_cases hlt:k<sz n
  ·have HW:=zV7 (fun q=>flip (zEy (wr.drewN q) (HI.out.2.1.set.drew q) k));have HA:=zV7 (fun q=>flip (zE3 (wr.drewN q) (HI.out.1.drewN q) k hlt));have c0:=HI.out.1.words;have c1:=HI.out.1.holds k hlt;have c2:=HI.out.1.free k hlt;rw[zQl]at c1;have hE:=zHd B C n k
   by_cases hz:wd (more B n C) k=0
   ·have H2:=zV7 (zQi hz);have H3:=zV7 (zSp hz);rw[hz]at hE;clear hz;go_wp2_with fail;go_quiet (first|(go_at_call 188;exact Calls.quiet_of_same (HW.out _))|(go_at_call 189;exact Calls.quiet_of_same (HA.out _)));go_wp2;go_roundw
    case rel=>exact⟨k+1,by omega,by go_num,by rw[H3.out],⟨by rw[H2.out];exact HI.out.1.drewN _,HI.out.2.1.keeps ((Keeps.refl _ _).drewN _),HI.out.2.2.drewN _⟩⟩
    case measure=>simp[intOf];omega
   ·have H3:=zV7 (zSo hz);have hne:((wd (more B n C) k:Int) != 0)=true:=by rw[bne_iff_ne];omega
    have hJ:=bits_join B C n k;clear hz;generalize wd (more B n C) k=z at*;go_wp2_with fail;go_quiet (first|(go_at_call 188;exact Calls.quiet_of_same (HW.out _))|(go_at_call 189;exact Calls.quiet_of_same (HA.out _)));have HS2:=zV7 ((HI.out.1.drewN nq).store hlt (B':=orK B n C (k+1)) (zQk HU0.out C (k+1)) (fun i hi=>zN0 B C n k i hi));have HK2:=zV7 ((Keeps.refl d wr).drewN nq |>.setCell k (.int .u64 (wd (orK B n C (k+1)) k)));go_wp2;go_roundw
    case rel=>exact⟨k+1,by omega,by go_num,by rw[H3.out],⟨HS2.out,HI.out.2.1.keeps HK2.out,HI.out.2.2.trans HK2.out⟩⟩
    case measure=>simp[intOf];omega
  ·have he:k=sz n:=by omega
   subst he;have H2:=zV7 (zTP B C n);have H3:=zV7 (zUe B C n);go_wp2;go_ret;exact⟨by rw[←H3.out];rfl,by rw[←H2.out];exact HI.out.1,HI.out.2.2⟩
