/- Proof. -/
import Derived.Lib.Hide
set_option linter.unusedVariables false
namespace Go.Proofs.YtegeamggbglneaaGreatDoor
namespace Pk
theorem nG{α:Type}{p}{L:List α}{i}(h:(L.take i).all p=true)(hi)(e:p L[i]=true):(L.take (i+1)).all p=true:=by
 rw[List.take_succ_eq_append_getElem hi,List.all_append,h];simp[e]
theorem kq{α:Type}{p}{L:List α}{i}(hi:i<L.length)(e:p L[i]=false):L.all p=false:=by
 rw[List.all_eq_false];exact⟨_,List.getElem_mem hi,by simp[e]⟩
theorem ku{α:Type}{p}{L:List α}{i}(h:(L.take i).all p=true)(hi:¬i<L.length):L.all p=true:=by
 rw[List.take_of_length_le (by omega)]at h;exact h
theorem nI{α:Type}(p)(L:List α):(L.take 0).all p=true:=by simp
structure Tb where
 rules:List (Int×List Int)
 terms:Int
 ah:Int
 acts:List (List (Int×Int))
 goto:List (List Int)
def Dv:Tb:=⟨[],0,0,[],[]⟩
structure Pd where
 rules:List (Int×List Int)
 terms:Int
 ah:Int
 row:List Int
 rows:List (List Int)
 bj:List Int
 aj:List (List Int)
def kT:Pd:=⟨[],0,0,[],[],[],[]⟩
def kQ(n m:Nat)(x:Int×Int):Bool:=decide (((x.1=0\/x.1=3)/\x.2=0)\/(x.1=1/\0<=x.2/\x.2<(n:Int))\/(x.1=2/\0<=x.2/\x.2<(m:Int)-1))
def mP(n m:Nat)(t:Int)(r:List (Int×Int)):Bool:=decide ((r.length:Int)-1=t)&&r.all (kQ n m)
def nu(n:Nat)(x:Int):Bool:=decide (-1<=x/\x<(n:Int))
def fV(n:Nat)(s:Int)(r:List Int):Bool:=decide ((r.length:Int)=s)&&r.all (nu n)
def eV(t s:Int)(r:Int×List Int):Bool:=decide (t<r.1/\r.1-t<=s)
def sO(T:Tb):Bool:=decide (0<T.rules.length/\0<T.acts.length/\T.goto.length=T.acts.length/\0<=T.terms/\0<=T.ah)
def oG(T:Tb):Bool:=(T.rules.take (T.rules.length-1)).all (eV T.terms T.ah)
def pZ(T:Tb):Bool:=T.acts.all (mP T.acts.length T.rules.length T.terms)
def p9(T:Tb):Bool:=T.goto.all (fV T.acts.length T.ah)
def bo(T:Tb):Bool:=sO T&&(pZ T&&(p9 T&&oG T))
def AQ{α:Type}(L:List (List α))(z:α)(i k:Int):α:=if 0<=i/\0<=k then((L.getD i.toNat []).getD k.toNat z)else z
def tm(t:Int):Int:=max t 0
def AH(T:Tb)(i t:Int):Int×Int:=if tm T.terms<t then(0,0)else AQ T.acts (0,0) i t
def XQ(n:Nat)(x:Int):Int:=if 0<=x/\x<(n:Int)then x else-1
def wR(T:Tb)(i s:Int):Int:=if s<=tm T.terms\/T.ah<s-tm T.terms then-1 else XQ (max T.acts.length T.goto.length) (AQ T.goto (-1) i (s-tm T.terms-1))
def ia(x:Int×Int):Int:=x.1*16384+x.2
def lj(x:Int):Int:=x+1
def fX(c:Int):Int×Int:=if c % 16384≠0/\(c / 16384=0\/c / 16384=3)then(0,0)else(c / 16384,c % 16384)
def jL(c:Int):Int:=c-1
def Cd(c:Int):Prop:=0<=c/\c<=65535
theorem Vm{n m}{x}(h:kQ n m x=true):((x.1=0\/x.1=3)/\x.2=0)\/(x.1=1/\0<=x.2/\x.2<(n:Int))\/(x.1=2/\0<=x.2/\x.2<(m:Int)-1):=by
 unfold kQ at h;exact of_decide_eq_true h
theorem He{n m}{x}(h:kQ n m x=true)(hn:n<=16383)(hm:m<=16383):fX (ia x)=x/\Cd (ia x)/\0<=x.1/\x.1<=3/\0<=x.2/\x.2<16384:=by
 obtain⟨k,v⟩:=x;have hc:=Vm h;dsimp only at hc;have h1:0<=k/\k<=3/\0<=v/\v<16383:=by omega
 have e1:(k*16384+v) / 16384=k:=by omega
 have e2:(k*16384+v) % 16384=v:=by omega
 refine⟨?_,?_,h1.1,h1.2.1,h1.2.2.1,by dsimp only;omega⟩
 ·unfold fX ia;dsimp only;rw[e1,e2,if_neg];omega
 ·unfold Cd ia;dsimp only;omega
theorem Nw{n}{x}(h:nu n x=true)(hn:n<=16383):Cd (lj x)/\ -1<=x/\x<16383:=by
 unfold nu at h;have:=of_decide_eq_true h;unfold Cd lj;omega
def bZ(L:List (List Int))(r:List Int):List (List Int):=if r∈L then L else L++[r]
def eQ(L:List (List Int))(r:List Int):Nat:=(L++[r]).idxOf r
def dt(X:List (List Int)):List (List Int):=X.foldl bZ []
def idxs(X:List (List Int)):List Int:=(List.range X.length).map fun i=>(eQ (dt (X.take i)) (X.getD i []):Int)
theorem Uw(X)(r):dt (X++[r])=bZ (dt X) r:=by simp[dt]
theorem Mx{X:List (List Int)}{i}(hi):dt (X.take (i+1))=bZ (dt (X.take i)) X[i]:=by
 rw[List.take_succ_eq_append_getElem hi,Uw]
theorem yS{L}{r}(h:r∈L):bZ L r=L/\eQ L r=L.idxOf r/\eQ L r<L.length:=by
 refine⟨if_pos h,?_,?_⟩
 ·unfold eQ;rw[List.idxOf_append,if_pos h]
 ·unfold eQ;rw[List.idxOf_append,if_pos h];exact List.idxOf_lt_length_of_mem h
theorem sA{L}{r}(h:r∉L):bZ L r=L++[r]/\eQ L r=L.length:=by
 refine⟨if_neg h,?_⟩;unfold eQ;rw[List.idxOf_append,if_neg h];simp
theorem put_mem{L}{r x}:x∈bZ L r↔x∈L\/x=r:=by
 by_cases h:r∈L
 ·rw[(yS h).1];exact⟨.inl,fun k=>k.elim id fun e=>e▸h⟩
 ·rw[(sA h).1,List.mem_append,List.mem_singleton]
theorem Vq{L}{r}(h:L.Nodup):(bZ L r).Nodup:=by
 by_cases k:r∈L
 ·rw[(yS k).1];exact h
 ·rw[(sA k).1,List.nodup_append];refine⟨h,by simp,fun a ha b hb e=>?_⟩;rw[List.mem_singleton]at hb;subst hb e;exact k ha
theorem Ii(L)(r):eQ L r<=L.length:=by
 by_cases k:r∈L
 ·exact Nat.le_of_lt (yS k).2.2
 ·rw[(sA k).2];exact Nat.le_refl _
theorem MO{P:List (List Int)->List (List Int)->Prop}(h0:P [] [])(hs:∀X r,P X (dt X)->P (X++[r]) (bZ (dt X) r))(X):P X (dt X):=by
 rw[←List.reverse_reverse X]
 induction X.reverse with
 |nil=>exact h0
 |cons a l ih=>
  rw[List.reverse_cons,Uw];exact hs _ _ ih
theorem Ua(X):(dt X).Nodup:=MO (P:=fun _ L=>L.Nodup) List.nodup_nil (fun _ _ h=>Vq h) X
theorem wI(X):∀x,x∈dt X↔x∈X:=MO (P:=fun X L=>∀x,x∈L↔x∈X) (fun x=>Iff.rfl) (fun X r h x=>by
 rw[put_mem,h x,List.mem_append,List.mem_singleton]) X
theorem sk(X):(dt X).length<=X.length:=MO (P:=fun X L=>L.length<=X.length) (Nat.le_refl _) (fun X r h=>by
 unfold bZ;split
 ·rw[List.length_append];omega
 ·rw[List.length_append,List.length_append];simp only[List.length_cons,List.length_nil]
  omega) X
theorem jM(X):(idxs X).length=X.length:=by simp[idxs]
theorem Wl{X}{i}(hi):(idxs X)[i]?=some (eQ (dt (X.take i)) X[i]:Int):=by
 unfold idxs;rw[List.getElem?_map,List.getElem?_range hi];simp[List.getD_eq_getElem?_getD,hi]
theorem Va{X}{i}(hi):(idxs X).take (i+1)=(idxs X).take i++[(eQ (dt (X.take i)) X[i]:Int)]:=by
 have hl:i<(idxs X).length:=by rw[jM];exact hi
 rw[List.take_succ_eq_append_getElem hl]
 congr 2
 have:=Wl hi;rw[List.getElem?_eq_getElem hl]at this;exact Option.some.inj this
def ji(n next:Int):List Int->Bool
 |[]=>decide (next=n)
 |x::l=>if x<0\/next<x then false else ji n (max next (x+1)) l
theorem zLV(X):∀i,i<=X.length->ji ((dt X).length:Int) ((dt (X.take i)).length:Int) ((idxs X).drop i)=true:=by
 intro i hi;obtain⟨k,hk⟩:∃k,X.length-i=k:=⟨_,rfl⟩
 induction k generalizing i with
 |zero=>
  rw[List.drop_of_length_le (by rw[jM];omega),List.take_of_length_le (by omega)];simp[ji]
 |succ k ih=>
  have hlt:i<X.length:=by omega
  have hl:i<(idxs X).length:=by rw[jM];exact hlt
  rw[List.drop_eq_getElem_cons hl];have e:=Wl hlt;rw[List.getElem?_eq_getElem hl]at e;rw[Option.some.inj e,ji];have hle:=Ii (dt (X.take i)) X[i];rw[if_neg (by omega)];have h:=ih (i+1) (by omega) (by omega);rw[Mx hlt]at h
  by_cases hm:X[i]∈dt (X.take i)
  ·have hp:=yS hm;rw[hp.1]at h;rw[show max ((dt (X.take i)).length:Int) ((eQ (dt (X.take i)) X[i]:Int)+1)=((dt (X.take i)).length:Int)by omega];exact h
  ·have hp:=sA hm;rw[hp.1,List.length_append]at h;rw[hp.2,show max ((dt (X.take i)).length:Int) (((dt (X.take i)).length:Int)+1)=(((dt (X.take i)).length+[X[i]].length:Nat):Int)by simp;omega];exact h
theorem Tw(X):ji ((dt X).length:Int) 0 (idxs X)=true:=by
 have:=zLV X 0 (Nat.zero_le _)
 simpa[dt]using this
def df(T:Tb):List (List Int):=T.acts.map fun r=>r.map ia
def dC(T:Tb):List (List Int):=T.goto.map fun r=>r.map lj
def dh(T:Tb):Pd:=⟨T.rules,T.terms,T.ah,idxs (df T),dt (df T),idxs (dC T),dt (dC T)⟩
def jD(T:Tb):Bool:=decide (T.acts.length<=16383/\T.rules.length<=16383)&&bo T
def sS(T:Tb):Pd×Bool:=if jD T then(dh T,true)else(kT,false)
def ja(n m:Nat)(c:Int):Bool:=if(fX c).1=1 then decide ((fX c).2<(n:Int))else if(fX c).1=2 then decide ((fX c).2<(m:Int)-1)else decide (ia (fX c)=c)
def jb(n m:Nat)(t:Int)(r:List Int):Bool:=decide ((r.length:Int)-1=t)&&r.all (ja n m)
def jE(n:Nat)(c:Int):Bool:=decide (jL c<(n:Int))
def fU(n:Nat)(s:Int)(r:List Int):Bool:=decide ((r.length:Int)=s)&&r.all (jE n)
def Ad(P:Pd):Bool:=decide (0<P.row.length/\P.row.length<=16383/\P.bj.length=P.row.length/\0<P.rules.length/\P.rules.length<=16383/\0<=P.terms/\0<=P.ah)
def yT(P:Pd):Bool:=(P.rules.take (P.rules.length-1)).all (eV P.terms P.ah)
def rL(P:Pd):Bool:=P.rows.all (jb P.row.length P.rules.length P.terms)&&P.aj.all (fU P.row.length P.ah)
def uJ(P:Pd):Bool:=ji (P.rows.length:Int) 0 P.row&&(ji (P.aj.length:Int) 0 P.bj&&(decide P.rows.Nodup&&decide P.aj.Nodup))
def jQ(P:Pd):Bool:=Ad P&&(yT P&&(rL P&&uJ P))
def pick{α:Type}(L:List α)(z:α)(i:Int):α:=if 0<=i/\i<(L.length:Int)then L.getD i.toNat z else z
def zWg(P:Pd)(i t:Int):Int×Int:=if tm P.terms<t then(0,0)else fX (pick (pick P.rows [] (pick P.row (-1) i)) 0 t)
def zVe(P:Pd)(i s:Int):Int:=if s<=tm P.terms\/P.ah<s-tm P.terms then-1 else
 if((max P.row.length P.bj.length:Nat):Int)<=jL (pick (pick P.aj [] (pick P.bj (-1) i)) 0 (s-tm P.terms-1))then-1 else jL (pick (pick P.aj [] (pick P.bj (-1) i)) 0 (s-tm P.terms-1))
structure Rt (T:Tb):Prop where
 r0:0<T.rules.length
 a0:0<T.acts.length
 ga:T.goto.length=T.acts.length
 t0:0<=T.terms
 n0:0<=T.ah
 acts:∀r∈T.acts,((r.length:Int)-1=T.terms)/\∀x∈r,kQ T.acts.length T.rules.length x=true
 goto:∀r∈T.goto,(r.length:Int)=T.ah/\∀x∈r,nu T.acts.length x=true
 left:oG T=true
theorem zWn{T}(h:bo T=true):Rt T:=by
 simp only[bo,sO,pZ,p9,Bool.and_eq_true,decide_eq_true_eq,List.all_eq_true,mP,fV]at h;obtain⟨⟨h1,h2,h3,h4,h5⟩,h6,h7,h8⟩:=h;exact⟨h1,h2,h3,h4,h5,fun r hr=>⟨(h6 r hr).1,(h6 r hr).2⟩,fun r hr=>⟨(h7 r hr).1,(h7 r hr).2⟩,h8⟩
structure Pt (T:Tb):Prop extends Rt T where
 a1:T.acts.length<=16383
 r1:T.rules.length<=16383
theorem IA{T}(h:jD T=true):Pt T:=by
 simp only[jD,Bool.and_eq_true,decide_eq_true_eq]at h;exact {zWn h.2 with a1:=h.1.1,r1:=h.1.2}
theorem zQ7{n m}{x}(h:kQ n m x=true)(hn:n<=16383)(hm:m<=16383):ja n m (ia x)=true:=by
 have h1:=(He h hn hm).1;have h2:=Vm h;unfold ja;rw[h1];split
 ·rw[decide_eq_true_eq];omega
 ·split
  ·rw[decide_eq_true_eq];omega
  ·exact decide_eq_true rfl
theorem zLz{T}(h:Pt T):jQ (dh T)=true:=by
 have hA:(df T).length=T.acts.length:=by simp[df]
 have hG:(dC T).length=T.goto.length:=by simp[dC]
 simp only[jQ,Ad,rL,uJ,Bool.and_eq_true,decide_eq_true_eq,List.all_eq_true,jb,fU,dh,jM];refine⟨⟨by rw[hA];exact h.a0,by rw[hA];exact h.a1,by rw[hA,hG];exact h.ga,h.r0,h.r1,h.t0,h.n0⟩,h.left,⟨fun r hr=>?_,fun r hr=>?_⟩,Tw _,Tw _,decide_eq_true (Ua _),decide_eq_true (Ua _)⟩
 ·rw[wI]at hr;obtain⟨a,ha,rfl⟩:=List.mem_map.1 hr;rw[List.length_map];refine⟨(h.acts a ha).1,fun x hx=>?_⟩;obtain⟨y,hy,rfl⟩:=List.mem_map.1 hx;rw[hA];exact zQ7 ((h.acts a ha).2 y hy) h.a1 h.r1
 ·rw[wI]at hr;obtain⟨a,ha,rfl⟩:=List.mem_map.1 hr;rw[List.length_map];refine⟨(h.goto a ha).1,fun x hx=>?_⟩;obtain⟨y,hy,rfl⟩:=List.mem_map.1 hx;have:=(h.goto a ha).2 y hy;unfold nu at this;have:=of_decide_eq_true this;unfold jE jL lj;rw[hA,decide_eq_true_eq];omega
def txt(r:List Int):List Int:=r.flatMap fun c=>[c / 256,c % 256]
theorem sF(r):(txt r).length=2*r.length:=by
 induction r with
 |nil=>rfl
 |cons a l ih=>
  have:txt (a::l)=[a / 256,a % 256]++txt l:=rfl;rw[this,List.length_append,ih];simp only[List.length_cons,List.length_nil];omega
theorem zR2{r:List Int}{i}(hi):txt (r.take (i+1))=txt (r.take i)++[r[i] / 256,r[i] % 256]:=by
 rw[List.take_succ_eq_append_getElem hi];unfold txt;rw[List.flatMap_append];simp
theorem Ht{r}(h:∀c∈r,Cd c):∀x∈txt r,0<=x/\x<256:=by
 intro x hx;obtain⟨c,hc,hx⟩:=List.mem_flatMap.1 hx;have:=h c hc;unfold Cd at this;simp only[List.mem_cons,List.not_mem_nil,or_false]at hx;rcases hx with rfl|rfl<;>omega
theorem zUZ:∀{r s:List Int},txt r=txt s->r=s:=by
 intro r
 induction r with
 |nil=>
  intro s h;have:=congrArg List.length h;rw[sF,sF]at this;exact(List.eq_nil_of_length_eq_zero (by simp only[List.length_nil]at this;omega)).symm
 |cons a l ih=>
  intro s h;cases s with
  |nil=>
   have:=congrArg List.length h;rw[sF,sF]at this;simp at this
  |cons b m=>
   have e1:txt (a::l)=a / 256::a % 256::txt l:=rfl;have e2:txt (b::m)=b / 256::b % 256::txt m:=rfl;rw[e1,e2]at h;injection h with h1 h
   injection h with h2 h
   have:a=b:=by omega
   rw[this,ih h]
end Pk
namespace Ts
open Pk
abbrev St:=List Int×Bool
def num(s:St):Int×St:=match s.1 with
 |x::y::l=>(256*x+y,(l,s.2))
 |_=>(0,(s.1,true))
def many{α:Type}(one:St->α×St):Nat->St->List α×St
 |0,s=>([],s)
 |n+1,s=>if(many one n s).2.2 then many one n s else((many one n s).1++[(one (many one n s).2).1],(one (many one n s).2).2)
def line(n:Int)(s:St):List Int×St:=many num n.toNat s
def rule(s:St):(Int×List Int)×St:=(((num s).1,(line (num (num s).2).1 (num (num s).2).2).1),(line (num (num s).2).1 (num (num s).2).2).2)
def rows(k:Int)(s:St):List (List Int)×St:=many (line k) (num s).1.toNat (num s).2
def ky(s:St):List (Int×List Int)×St:=many rule (num s).1.toNat (num s).2
def table(s:St):Pd×St:=
 (⟨(ky (num (num s).2).2).1,(num s).1,(num (num s).2).1,
  (line (num (ky (num (num s).2).2).2).1 (num (ky (num (num s).2).2).2).2).1,
  (rows ((num s).1+1) (line (num (ky (num (num s).2).2).2).1 (num (ky (num (num s).2).2).2).2).2).1,
  (line (num (ky (num (num s).2).2).2).1 (rows ((num s).1+1) (line (num (ky (num (num s).2).2).2).1 (num (ky (num (num s).2).2).2).2).2).2).1,
  (rows (num (num s).2).1 (line (num (ky (num (num s).2).2).2).1 (rows ((num s).1+1) (line (num (ky (num (num s).2).2).2).1 (num (ky (num (num s).2).2).2).2).2).2).2).1⟩,
  (rows (num (num s).2).1 (line (num (ky (num (num s).2).2).2).1 (rows ((num s).1+1) (line (num (ky (num (num s).2).2).2).1 (num (ky (num (num s).2).2).2).2).2).2).2).2)
theorem Vg{α}{one:St->α×St}{n}{s}(h:(many one n s).2.2=true):∀k,many one (n+k) s=many one n s:=by
 intro k
 induction k with
 |zero=>rfl
 |succ k ih=>
  show many one (n+k+1) s= _;rw[many,ih,if_pos h]
theorem Hl{α}{one:St->α×St}{n k}{s}(hk:k<=n)(h:(many one k s).2.2=true):many one n s=many one k s:=by
 have:=Vg h (n-k)
 rwa [show k+(n-k)=n by omega]at this
theorem GZ{α}{one:St->α×St}{k}{s}(h:(many one k s).2.2=false):many one (k+1) s=((many one k s).1++[(one (many one k s).2).1],(one (many one k s).2).2):=by
 rw[many,if_neg (by rw[h];decide)]
def xk{α:Type}(f:St->α×St):Prop:=∀s,s.2=true->(f s).2.2=true
theorem xk.back{α}{f:St->α×St}(h:xk f){s}(e:(f s).2.2=false):s.2=false:=by
 cases hs:s.2 with
 |false=>rfl
 |true=>rw[h s hs]at e;cases e
theorem Fa:xk num:=by
 rintro⟨l,b⟩ hs;obtain rfl:b=true:=hs
 match l with
 |x::y::l=>rfl
 |[x]=>rfl
 |[]=>rfl
theorem Eo{α}(f:St->α×St)(n):xk (many f n):=by
 intro s hs;have:many f (0+n) s=many f 0 s:=Vg (n:=0) hs n;rw[Nat.zero_add]at this;rw[this];exact hs
theorem Xa(n):xk (line n):=Eo _ _
theorem Xb(k):xk (rows k):=fun s hs=>Eo _ _ _ (Fa _ hs)
theorem zVm:xk ky:=fun s hs=>Eo _ _ _ (Fa _ hs)
def By(L:List Int):Prop:=∀x∈L,0<=x/\x<256
theorem By.right{L M}(h:By (L++M)):By M:=fun x hx=>h x (List.mem_append_right _ hx)
structure Rd {α:Type} (f:St->α×St) (V:α->Prop) (e:α->List Int):Prop where
 fwd:∀x L,V x->f (e x++L,false)=(x,(L,false))
 bwd:∀s,By s.1->(f s).2.2=false->V (f s).1/\s.1=e (f s).1++(f s).2.1
theorem Rd.by{α}{f}{V}{e:α->List Int}(r:Rd f V e){s}(h:By s.1)(hb:(f s).2.2=false):By (f s).2.1:=by
 have:=(r.bwd s h hb).2;rw[this]at h;exact h.right
def two(c:Int):List Int:=[c / 256,c % 256]
theorem lQ:Rd num Cd two:=by
 refine⟨fun x L hx=>?_,fun s hL h=>?_⟩
 ·show(256*(x / 256)+x % 256,(L,false))= _
  congr 1
  omega
 ·obtain⟨L,b⟩:=s
  match L,hL,h with
  |x::y::l,hL,h=>
   have h1:=hL x (by simp);have h2:=hL y (by simp);refine⟨?_,?_⟩
   ·show Cd (256*x+y);unfold Cd;omega
   ·show x::y::l=[(256*x+y) / 256,(256*x+y) % 256]++l;rw[show(256*x+y) / 256=x by omega,show(256*x+y) % 256=y by omega]
    rfl
  |[x],hL,h=>cases h
  |[],hL,h=>cases h
theorem Oi{α}{f}{V}{e:α->List Int}(r:Rd f V e)(n):Rd (many f n) (fun l=>l.length=n/\∀x∈l,V x) (fun l=>l.flatMap e):=by
 induction n with
 |zero=>
  refine⟨fun x L hx=>?_,fun s hL h=>?_⟩
  ·obtain rfl:=List.eq_nil_of_length_eq_zero hx.1
   rfl
  ·exact⟨⟨rfl,fun x hx=>by cases hx⟩,rfl⟩
 |succ n ih=>
  refine⟨fun l L hl=>?_,fun s hL h=>?_⟩
  ·obtain⟨m,x,rfl⟩:∃m x,l=m++[x]:=⟨l.dropLast,l.getLast (fun e=>by rw[e]at hl;simp at hl),(List.dropLast_concat_getLast _).symm⟩;have h1:=ih.fwd m (e x++L) ⟨by have:=hl.1;simp at this;omega,fun y hy=>hl.2 y (by simp[hy])⟩;rw[List.flatMap_append,List.append_assoc,show[x].flatMap e=e x by simp,many,h1];dsimp only;rw[if_neg (by decide),r.fwd x L (hl.2 x (by simp))]
  ·rw[many]at h⊢
   by_cases hb:(many f n s).2.2=true
   ·rw[if_pos hb]at h;rw[hb]at h;cases h
   ·rw[if_neg hb]at h⊢;have hb':(many f n s).2.2=false:=by simpa using hb
    obtain⟨i2,i3⟩:=ih.bwd s hL hb';have hL2:=ih.by hL hb'
    generalize many f n s=q at*;obtain⟨m,L1,b1⟩:=q;obtain rfl:b1=false:=hb';dsimp only at*;obtain⟨j2,j3⟩:=r.bwd (L1,false) hL2 h;have j3:L1= _:=j3;refine⟨⟨by rw[List.length_append,i2.1];rfl,fun y hy=>?_⟩,?_⟩
    ·rw[List.mem_append,List.mem_singleton]at hy;rcases hy with hy|rfl
     ·exact i2.2 y hy
     ·exact j2
    ·rw[i3]
     conv=>lhs;rw[j3]
     simp
theorem yN(n):Rd (line n) (fun l=>l.length=n.toNat/\∀x∈l,Cd x) txt:=Oi lQ _
theorem Ho{α}{f}{V}{e:α->List Int}(r:Rd f V e):Rd (fun s=>many f (num s).1.toNat (num s).2) (fun l=>l.length<=65535/\∀x∈l,V x) (fun l=>two (l.length:Int)++l.flatMap e):=by
 refine⟨fun l L hl=>?_,fun s hL h=>?_⟩
 ·rw[List.append_assoc,lQ.fwd (l.length:Int) _ ⟨by omega,by omega⟩];exact(Oi r l.length).fwd l L ⟨rfl,hl.2⟩
 ·have hb:=(Eo f _).back h;obtain⟨i1,i2⟩:=lQ.bwd s hL hb;have hL2:=lQ.by hL hb
  obtain⟨j1,j2⟩:=(Oi r _).bwd _ hL2 h;unfold Cd at i1;refine⟨⟨by omega,j1.2⟩,?_⟩;rw[List.append_assoc,←j2,j1.1,show(((num s).1.toNat:Nat):Int)=(num s).1 by omega];exact i2
def encR(r:Int×List Int):List Int:=two r.1++(two (r.2.length:Int)++txt r.2)
def VR(r:Int×List Int):Prop:=Cd r.1/\r.2.length<=65535/\∀x∈r.2,Cd x
theorem zUG:Rd rule VR encR:=by
 refine⟨fun r L hr=>?_,fun s hL h=>?_⟩
 ·unfold rule encR;rw[List.append_assoc,lQ.fwd r.1 _ hr.1];dsimp only;rw[(Ho lQ).fwd r.2 L hr.2 |> fun e=>show line (num ((two (r.2.length:Int)++txt r.2)++L,false)).1 (num ((two (r.2.length:Int)++txt r.2)++L,false)).2= _ from e]
 ·have h1:((fun s=>many num (num s).1.toNat (num s).2) (num s).2).2.2=false:=h;have hb:(num s).2.2=false:=Fa.back ((Eo num _).back h1);obtain⟨i1,i2⟩:=lQ.bwd s hL hb;obtain⟨j1,j2⟩:=(Ho lQ).bwd _ (lQ.by hL hb) h1;refine⟨⟨i1,j1⟩,?_⟩;unfold encR;rw[List.append_assoc];refine i2.trans ?_
  congr 1
theorem OW:Rd ky (fun l=>l.length<=65535/\∀x∈l,VR x) (fun l=>two (l.length:Int)++l.flatMap encR):=Ho zUG
theorem Ey(k):Rd (rows k) (fun l=>l.length<=65535/\∀r∈l,r.length=k.toNat/\∀x∈r,Cd x) (fun l=>two (l.length:Int)++l.flatMap txt):=Ho (yN k)
def bM(P:Pd):List Int:=two P.terms++(two P.ah++((two (P.rules.length:Int)++P.rules.flatMap encR)++(two (P.row.length:Int)++(txt P.row++((two (P.rows.length:Int)++P.rows.flatMap txt)++(txt P.bj++(two (P.aj.length:Int)++P.aj.flatMap txt)))))))
structure VP (P:Pd):Prop where
 t:Cd P.terms
 n:Cd P.ah
 rules:P.rules.length<=65535/\∀r∈P.rules,VR r
 rl:P.row.length<=65535
 row:∀x∈P.row,Cd x
 rows:P.rows.length<=65535/\∀r∈P.rows,r.length=(P.terms+1).toNat/\∀x∈r,Cd x
 bj:P.bj.length=P.row.length/\∀x∈P.bj,Cd x
 aj:P.aj.length<=65535/\∀r∈P.aj,r.length=P.ah.toNat/\∀x∈r,Cd x
theorem ID:Rd table VP bM:=by
 refine⟨fun P L hP=>?_,fun s hL h=>?_⟩
 ·unfold table bM;rw[List.append_assoc,lQ.fwd _ _ hP.t];dsimp only;rw[List.append_assoc,lQ.fwd _ _ hP.n];dsimp only;rw[List.append_assoc,OW.fwd _ _ hP.rules];dsimp only;rw[List.append_assoc,lQ.fwd _ _ ⟨by omega,by have:=hP.rl;omega⟩];dsimp only;rw[List.append_assoc,(yN _).fwd P.row _ ⟨by omega,hP.row⟩];dsimp only;rw[List.append_assoc,(Ey _).fwd P.rows _ hP.rows];dsimp only;rw[List.append_assoc,(yN _).fwd P.bj _ ⟨by have:=hP.bj.1;omega,hP.bj.2⟩];dsimp only;rw[(Ey _).fwd P.aj _ hP.aj]
 ·unfold table at h⊢;dsimp only at h⊢;generalize e1:num s=t at*;generalize e2:num t.2=n at*;generalize e3:ky n.2=r at*;generalize e4:num r.2=z at*;generalize e5:line z.1 z.2=a at*;generalize e6:rows (t.1+1) a.2=x at*;generalize e7:line z.1 x.2=g at*;generalize e8:rows n.1 g.2=q at*;have b7:g.2.2=false:=(Xb n.1).back (e8▸h);have b6:x.2.2=false:=(Xa z.1).back (e7▸b7);have b5:a.2.2=false:=(Xb _).back (e6▸b6);have b4:z.2.2=false:=(Xa z.1).back (e5▸b5);have b3:r.2.2=false:=Fa.back (e4▸b4);have b2:n.2.2=false:=zVm.back (e3▸b3);have b1:t.2.2=false:=Fa.back (e2▸b2);have B1:=e1▸lQ.by hL (e1▸b1)
  have B2:=e2▸lQ.by B1 (e2▸b2)
  have B3:=e3▸OW.by B2 (e3▸b3)
  have B4:=e4▸lQ.by B3 (e4▸b4)
  have B5:=e5▸(yN z.1).by B4 (e5▸b5)
  have B6:=e6▸(Ey _).by B5 (e6▸b6)
  have B7:=e7▸(yN z.1).by B6 (e7▸b7)
  obtain⟨v1,w1⟩:=e1▸lQ.bwd s hL (e1▸b1);obtain⟨v2,w2⟩:=e2▸lQ.bwd _ B1 (e2▸b2);obtain⟨v3,w3⟩:=e3▸OW.bwd _ B2 (e3▸b3);obtain⟨v4,w4⟩:=e4▸lQ.bwd _ B3 (e4▸b4);obtain⟨v5,w5⟩:=e5▸(yN z.1).bwd _ B4 (e5▸b5);obtain⟨v6,w6⟩:=e6▸(Ey _).bwd _ B5 (e6▸b6);obtain⟨v7,w7⟩:=e7▸(yN z.1).bwd _ B6 (e7▸b7);obtain⟨v8,w8⟩:=e8▸(Ey n.1).bwd _ B7 (e8▸h);clear e1 e2 e3 e4 e5 e6 e7 e8;have hz:((z.1.toNat:Nat):Int)=z.1:=by unfold Cd at v4;omega
  refine⟨⟨v1,v2,v3,?_,v5.2,v6,⟨by dsimp only;rw[v7.1,v5.1],v7.2⟩,v8⟩,?_⟩
  ·dsimp only;rw[v5.1];unfold Cd at v4;omega
  ·unfold bM;dsimp only;rw[v5.1,hz];simp only[List.append_assoc];rw[List.append_assoc]at w3 w6 w8;rw[←w8,←w7,←w6,←w5,←w4,←w3,←w2];exact w1
end Ts
namespace Ts
open Pk
def jT(r:Int×List Int):List Int:=r.1::(r.2.length:Int)::r.2
def nums(P:Pd):List Int:=[P.terms,P.ah,(P.rules.length:Int)]++(P.rules.flatMap jT++((P.row.length:Int)::(P.row++((P.rows.length:Int)::(P.rows.flatten++(P.bj++((P.aj.length:Int)::P.aj.flatten)))))))
theorem EI(a b):txt (a++b)=txt a++txt b:=List.flatMap_append
theorem zR1(x)(b):txt (x::b)=two x++txt b:=rfl
theorem zJo(X:List (List Int)):txt X.flatten=X.flatMap txt:=by
 induction X with
 |nil=>rfl
 |cons a l ih=>rw[List.flatten_cons,EI,ih];rfl
theorem zPL(R:List (Int×List Int)):txt (R.flatMap jT)=R.flatMap encR:=by
 induction R with
 |nil=>rfl
 |cons a l ih=>rw[List.flatMap_cons,EI,ih];rfl
theorem Hf(P):bM P=txt (nums P):=by
 unfold bM nums;simp only[EI,zR1,zJo,zPL,List.append_assoc]
 rfl
def head:List Int:=[76,84,49]
def iz(P:Pd):Bool:=(nums P).all fun c=>decide (0<=c/\c<=65535)
def gm(P:Pd):List Int:=if(jQ P&&iz P)=true then head++bM P else[]
def sN:List Int->List Int->Int
 |[],_=>0
 |_::_,[]=>4
 |x::h,y::b=>if y=x then sN h b else 10
def jk(b:List Int):Int:=sN head b
def ko(b:List Int):Pd×Int:=
 if jk b≠0 then(kT,jk b)else
 if(table (b.drop 3,false)).2.2=true then(kT,4)else
 if(table (b.drop 3,false)).2.1≠[]\/jQ (table (b.drop 3,false)).1=false then(kT,10)else((table (b.drop 3,false)).1,0)
theorem zQK:∀{h b:List Int},sN h b=0->b=h++b.drop h.length:=by
 intro h
 induction h with
 |nil=>intro b _;rfl
 |cons x h ih=>
  intro b hb;cases b with
  |nil=>cases hb
  |cons y b=>
   rw[sN]at hb
   by_cases e:y=x
   ·rw[if_pos e]at hb;rw[e,List.length_cons,List.drop_succ_cons,List.cons_append,←ih hb]
   ·rw[if_neg e]at hb;cases hb
theorem sj:∀{h b:List Int} {i:Nat} (hi:i<h.length),b.take i=h.take i->(b.length=i->sN h b=4)/\(∀hb:i<b.length,b[i]≠h[i]->sN h b=10):=by
 intro h
 induction h with
 |nil=>intro b i hi;cases hi
 |cons x h ih=>
  intro b i hi hp;cases b with
  |nil=>
   exact⟨fun _=>rfl,fun hb=>by cases hb⟩
  |cons y b=>
   cases i with
   |zero=>
    refine⟨fun e=>by simp at e,fun hb hne=>?_⟩;rw[sN,if_neg (by simpa using hne)]
   |succ i=>
    rw[List.take_succ_cons,List.take_succ_cons]at hp;injection hp with e1 e2
    have:=ih (by simpa using hi) e2;rw[sN,if_pos e1];exact⟨fun e=>this.1 (by simpa using e),fun hb hne=>this.2 (by simpa using hb) (by simpa using hne)⟩
theorem zQJ:∀{h b:List Int},b.take h.length=h->sN h b=0:=by
 intro h
 induction h with
 |nil=>intro b _;rfl
 |cons x h ih=>
  intro b hp;cases b with
  |nil=>cases hp
  |cons y b=>
   rw[List.length_cons,List.take_succ_cons]at hp;injection hp with e1 e2
   rw[sN,if_pos e1];exact ih e2
theorem Oq{P}(hr:jQ P=true)(hf:iz P=true):VP P:=by
 simp only[jQ,Ad,rL,uJ,Bool.and_eq_true,decide_eq_true_eq,List.all_eq_true,jb,fU]at hr;obtain⟨⟨h1,h2,h3,h4,h5,h6,h7⟩,h8,⟨h9,h10⟩,h11⟩:=hr;simp only[iz,List.all_eq_true,decide_eq_true_eq]at hf;have hm:∀c,c∈nums P->Cd c:=hf;unfold nums at hm;have qN:∀n:Nat,Cd (n:Int)->n<=65535:=fun n h=>by unfold Cd at h;omega
 refine⟨hm _ (by simp),hm _ (by simp),⟨by omega,fun r hr=>?_⟩,by omega,fun x hx=>hm x (by simp[hx]),⟨qN _ (hm _ (by simp)),fun r hr=>⟨?_,fun x hx=>hm x ?_⟩⟩,⟨h3,fun x hx=>hm x (by simp[hx])⟩,⟨qN _ (hm _ (by simp)),fun r hr=>⟨?_,fun x hx=>hm x ?_⟩⟩⟩
 ·have hin:∀x∈jT r,Cd x:=fun x hx=>hm x (by
   simp only[List.mem_append,List.mem_flatMap,List.mem_cons]
   exact .inr (.inl ⟨r,hr,hx⟩))
  exact⟨hin _ (by simp[jT]),qN _ (hin _ (by simp[jT])),fun x hx=>hin x (by simp[jT,hx])⟩
 ·have:=(h9 r hr).1;omega
 ·simp only[List.mem_append,List.mem_flatten,List.mem_cons];exact .inr (.inr (.inr (.inr (.inr (.inl ⟨r,hr,hx⟩)))))
 ·have:=(h10 r hr).1;omega
 ·simp only[List.mem_append,List.mem_flatten,List.mem_cons];exact .inr (.inr (.inr (.inr (.inr (.inr (.inr (.inr ⟨r,hr,hx⟩)))))))
theorem zVs{P}(h:VP P):iz P=true:=by
 simp only[iz,List.all_eq_true,decide_eq_true_eq];intro c hc;have len:∀n:Nat,n<=65535->Cd (n:Int):=fun n h=>by unfold Cd;omega
 simp only[nums,List.mem_append,List.mem_cons,List.mem_flatMap,List.mem_flatten,List.not_mem_nil,or_false]at hc;rcases hc with(rfl|rfl|rfl)|⟨r,hr,hc⟩|rfl|hc|rfl|⟨r,hr,hc⟩|hc|rfl|⟨r,hr,hc⟩
 ·exact h.t
 ·exact h.n
 ·exact len _ h.rules.1
 ·have hv:=h.rules.2 r hr;simp only[jT,List.mem_cons]at hc;rcases hc with rfl|rfl|hc
  ·exact hv.1
  ·exact len _ hv.2.1
  ·exact hv.2.2 c hc
 ·exact len _ h.rl
 ·exact h.row c hc
 ·exact len _ h.rows.1
 ·exact(h.rows.2 r hr).2 c hc
 ·exact h.bj.2 c hc
 ·exact len _ h.aj.1
 ·exact(h.aj.2 r hr).2 c hc
theorem zU2{P}(hf:iz P=true):By (bM P):=by
 rw[Hf];simp only[iz,List.all_eq_true,decide_eq_true_eq]at hf;exact Ht hf
theorem YR{P}(hr:jQ P=true)(hf:iz P=true)(L):ko (gm P++L)=if L=[]then(P,0)else(kT,10):=by
 have hb:gm P=head++bM P:=if_pos (by rw[hr,hf];rfl);rw[hb];have h0:jk (head++bM P++L)=0:=rfl;have h1:(head++bM P++L).drop 3=bM P++L:=rfl;unfold ko;rw[h0,h1,if_neg (by simp),ID.fwd P L (Oq hr hf),if_neg (by simp)]
 by_cases hl:L=[]
 ·rw[if_pos hl,if_neg (by simp[hl,hr])]
 ·rw[if_neg hl,if_pos (.inl hl)]
theorem zQ6{P}(h:gm P≠[]):ko (gm P)=(P,0):=by
 by_cases hc:(jQ P&&iz P)=true
 ·rw[Bool.and_eq_true]at hc;have:=YR hc.1 hc.2 []
  rwa [List.append_nil,if_pos rfl]at this
 ·exact absurd (if_neg hc) h
theorem zVX{P}(hr:jQ P=true)(hf:iz P=true){k}(hk:k<(gm P).length):ko ((gm P).take k)=(kT,4):=by
 have hb:gm P=head++bM P:=if_pos (by rw[hr,hf];rfl);rw[hb]at hk⊢
 match k,hk with
 |0,_=>rfl
 |1,_=>rfl
 |2,_=>rfl
 |k+3,hk=>
  have e1:(head++bM P).take (k+3)=head++(bM P).take k:=rfl
  have hk:k<(bM P).length:=by
   rw[List.length_append]at hk;have:head.length=3:=rfl;omega
  rw[e1];have h0:jk (head++(bM P).take k)=0:=rfl;have h1:(head++(bM P).take k).drop 3=(bM P).take k:=rfl;unfold ko;rw[h0,h1,if_neg (by simp)];have hby:By (bM P):=zU2 hf;have ha:(bM P).take k++(bM P).drop k=bM P:=List.take_append_drop k _
  by_cases hbad:(table ((bM P).take k,false)).2.2=true
  ·rw[if_pos hbad]
  ·exfalso
   obtain⟨v,e⟩:=ID.bwd ((bM P).take k,false) (fun x hx=>hby x (List.mem_of_mem_take hx)) (by simpa using hbad);dsimp only at e;rw[e,List.append_assoc]at ha;have h2:=ID.fwd _ ((table ((bM P).take k,false)).2.1++(bM P).drop k) v;rw[ha]at h2;have h3:=ID.fwd P [] (Oq hr hf);rw[List.append_nil,h2]at h3;have h4:=congrArg (fun q=>q.2.1) h3;dsimp only at h4;have h5:(bM P).drop k=[]:=(List.append_eq_nil_iff.1 h4).2;rw[List.drop_eq_nil_iff]at h5;omega
