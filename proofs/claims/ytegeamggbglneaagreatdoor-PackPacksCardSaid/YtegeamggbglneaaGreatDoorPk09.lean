/- A part of the proof. -/
import Derived.Lib.Hide
set_option linter.unusedVariables false
namespace Go.Proofs.YtegeamggbglneaaGreatDoor
namespace Pk
theorem zAy{α:Type}{p}{L:List α}{i}(h:(L.take i).all p=true)(hi)(e:p L[i]=true):(L.take (i+1)).all p=true:=by
 rw[List.take_succ_eq_append_getElem hi,List.all_append,h];simp[e]
theorem zAc{α:Type}{p}{L:List α}{i}(hi:i<L.length)(e:p L[i]=false):L.all p=false:=by
 rw[List.all_eq_false];exact⟨_,List.getElem_mem hi,by simp[e]⟩
theorem zAt{α:Type}{p}{L:List α}{i}(h:(L.take i).all p=true)(hi:¬i<L.length):L.all p=true:=by
 rw[List.take_of_length_le (by omega)]at h;exact h
theorem zAz{α:Type}(p)(L:List α):(L.take 0).all p=true:=by simp
structure Tb where
 rules:List (Int×List Int)
 terms:Int
 nons:Int
 acts:List (List (Int×Int))
 goto:List (List Int)
def tb0:Tb:=⟨[],0,0,[],[]⟩
structure Pd where
 rules:List (Int×List Int)
 terms:Int
 nons:Int
 row:List Int
 rows:List (List Int)
 gow:List Int
 gows:List (List Int)
def pd0:Pd:=⟨[],0,0,[],[],[],[]⟩
def okA(n m:Nat)(x:Int×Int):Bool:=decide (((x.1=0\/x.1=3)/\x.2=0)\/(x.1=1/\0<=x.2/\x.2<(n:Int))\/(x.1=2/\0<=x.2/\x.2<(m:Int)-1))
def zDJ(n m:Nat)(t:Int)(r:List (Int×Int)):Bool:=decide ((r.length:Int)-1=t)&&r.all (okA n m)
def okT(n:Nat)(x:Int):Bool:=decide (-1<=x/\x<(n:Int))
def okTo(n:Nat)(s:Int)(r:List Int):Bool:=decide ((r.length:Int)=s)&&r.all (okT n)
def okL(t s:Int)(r:Int×List Int):Bool:=decide (t<r.1/\r.1-t<=s)
def zF3(T:Tb):Bool:=decide (0<T.rules.length/\0<T.acts.length/\T.goto.length=T.acts.length/\0<=T.terms/\0<=T.nons)
def zB4(T:Tb):Bool:=(T.rules.take (T.rules.length-1)).all (okL T.terms T.nons)
def zEg(T:Tb):Bool:=T.acts.all (zDJ T.acts.length T.rules.length T.terms)
def zEi(T:Tb):Bool:=T.goto.all (okTo T.acts.length T.nons)
def zAI(T:Tb):Bool:=zF3 T&&(zEg T&&(zEi T&&zB4 T))
def ent{α:Type}(L:List (List α))(z:α)(i k:Int):α:=if 0<=i/\0<=k then((L.getD i.toNat []).getD k.toNat z)else z
def tm(t:Int):Int:=max t 0
def actP(T:Tb)(i t:Int):Int×Int:=if tm T.terms<t then(0,0)else ent T.acts (0,0) i t
def zJZ(n:Nat)(x:Int):Int:=if 0<=x/\x<(n:Int)then x else-1
def zF2(T:Tb)(i s:Int):Int:=if s<=tm T.terms\/T.nons<s-tm T.terms then-1 else zJZ (max T.acts.length T.goto.length) (ent T.goto (-1) i (s-tm T.terms-1))
def zAw(x:Int×Int):Int:=x.1*16384+x.2
def zBF(x:Int):Int:=x+1
def zAb(c:Int):Int×Int:=if c % 16384≠0/\(c / 16384=0\/c / 16384=3)then(0,0)else(c / 16384,c % 16384)
def toOf(c:Int):Int:=c-1
def Cd(c:Int):Prop:=0<=c/\c<=65535
theorem zIF{n m}{x}(h:okA n m x=true):((x.1=0\/x.1=3)/\x.2=0)\/(x.1=1/\0<=x.2/\x.2<(n:Int))\/(x.1=2/\0<=x.2/\x.2<(m:Int)-1):=by
 unfold okA at h;exact of_decide_eq_true h
theorem zCy{n m}{x}(h:okA n m x=true)(hn:n<=16383)(hm:m<=16383):zAb (zAw x)=x/\Cd (zAw x)/\0<=x.1/\x.1<=3/\0<=x.2/\x.2<16384:=by
 obtain⟨k,v⟩:=x;have hc:=zIF h;dsimp only at hc;have h1:0<=k/\k<=3/\0<=v/\v<16383:=by omega
 have e1:(k*16384+v) / 16384=k:=by omega
 have e2:(k*16384+v) % 16384=v:=by omega
 refine⟨?_,?_,h1.1,h1.2.1,h1.2.2.1,by dsimp only;omega⟩
 ·unfold zAb zAw;dsimp only;rw[e1,e2,if_neg];omega
 ·unfold Cd zAw;dsimp only;omega
theorem zOs(x):toOf (zBF x)=x:=by
 unfold toOf zBF;omega
theorem zHE{n}{x}(h:okT n x=true)(hn:n<=16383):Cd (zBF x)/\ -1<=x/\x<16383:=by
 unfold okT at h;have:=of_decide_eq_true h;unfold Cd zBF;omega
def putR(L:List (List Int))(r:List Int):List (List Int):=if r∈L then L else L++[r]
def plc(L:List (List Int))(r:List Int):Nat:=(L++[r]).idxOf r
def zAP(X:List (List Int)):List (List Int):=X.foldl putR []
def idxs(X:List (List Int)):List Int:=(List.range X.length).map fun i=>(plc (zAP (X.take i)) (X.getD i []):Int)
theorem zGY(X)(r):zAP (X++[r])=putR (zAP X) r:=by simp[zAP]
theorem zBb{X:List (List Int)}{i}(hi):zAP (X.take (i+1))=putR (zAP (X.take i)) X[i]:=by
 rw[List.take_succ_eq_append_getElem hi,zGY]
theorem zCi{L}{r}(h:r∈L):putR L r=L/\plc L r=L.idxOf r/\plc L r<L.length:=by
 refine⟨if_pos h,?_,?_⟩
 ·unfold plc;rw[List.idxOf_append,if_pos h]
 ·unfold plc;rw[List.idxOf_append,if_pos h];exact List.idxOf_lt_length_of_mem h
theorem zBL{L}{r}(h:r∉L):putR L r=L++[r]/\plc L r=L.length:=by
 refine⟨if_neg h,?_⟩;unfold plc;rw[List.idxOf_append,if_neg h];simp
theorem put_mem{L}{r x}:x∈putR L r↔x∈L\/x=r:=by
 by_cases h:r∈L
 ·rw[(zCi h).1];exact⟨.inl,fun k=>k.elim id fun e=>e▸h⟩
 ·rw[(zBL h).1,List.mem_append,List.mem_singleton]
theorem zIQ{L}{r}(h:L.Nodup):(putR L r).Nodup:=by
 by_cases k:r∈L
 ·rw[(zCi k).1];exact h
 ·rw[(zBL k).1,List.nodup_append];refine⟨h,by simp,fun a ha b hb e=>?_⟩;rw[List.mem_singleton]at hb;subst hb e;exact k ha
theorem zLl(L)(r):L<+:putR L r:=by
 by_cases k:r∈L
 ·rw[(zCi k).1];exact List.prefix_refl _
 ·rw[(zBL k).1];exact List.prefix_append _ _
theorem zU0(L)(r):(putR L r)[plc L r]?=some r:=by
 by_cases k:r∈L
 ·rw[(zCi k).1,(zCi k).2.1];have:=List.idxOf_lt_length_of_mem k;rw[List.getElem?_eq_getElem this];exact congrArg some (List.getElem_idxOf _)
 ·rw[(zBL k).1,(zBL k).2];simp
theorem zKX(L)(r):plc L r<=L.length:=by
 by_cases k:r∈L
 ·exact Nat.le_of_lt (zCi k).2.2
 ·rw[(zBL k).2];exact Nat.le_refl _
theorem zFY{P:List (List Int)->List (List Int)->Prop}(h0:P [] [])(hs:∀X r,P X (zAP X)->P (X++[r]) (putR (zAP X) r))(X):P X (zAP X):=by
 rw[←List.reverse_reverse X]
 induction X.reverse with
 |nil=>exact h0
 |cons a l ih=>
  rw[List.reverse_cons,zGY];exact hs _ _ ih
theorem zFZ(X):(zAP X).Nodup:=zFY (P:=fun _ L=>L.Nodup) List.nodup_nil (fun _ _ h=>zIQ h) X
theorem zBf(X):∀x,x∈zAP X↔x∈X:=zFY (P:=fun X L=>∀x,x∈L↔x∈X) (fun x=>Iff.rfl) (fun X r h x=>by
 rw[put_mem,h x,List.mem_append,List.mem_singleton]) X
theorem zA3(X):(zAP X).length<=X.length:=zFY (P:=fun X L=>L.length<=X.length) (Nat.le_refl _) (fun X r h=>by
 unfold putR;split
 ·rw[List.length_append];omega
 ·rw[List.length_append,List.length_append];simp only[List.length_cons,List.length_nil]
  omega) X
theorem zIK(X)(i):zAP (X.take i)<+:zAP X:=by
 by_cases hi:i<X.length
 ·have h:∀k,i+k<=X.length->zAP (X.take i)<+:zAP (X.take (i+k)):=by
   intro k
   induction k with
   |zero=>intro _;exact List.prefix_refl _
   |succ k ih=>
    intro hk;rw[←Nat.add_assoc,zBb (by omega)];exact(ih (by omega)).trans (zLl _ _)
  have:=h (X.length-i) (by omega);rw[show i+(X.length-i)=X.length by omega,List.take_length]at this;exact this
 ·rw[List.take_of_length_le (by omega)];exact List.prefix_refl _
theorem zAQ(X):(idxs X).length=X.length:=by simp[idxs]
theorem zDj{X}{i}(hi):(idxs X)[i]?=some (plc (zAP (X.take i)) X[i]:Int):=by
 unfold idxs;rw[List.getElem?_map,List.getElem?_range hi];simp[List.getD_eq_getElem?_getD,hi]
theorem zI8{X}{i}(hi):(zAP X)[plc (zAP (X.take i)) X[i]]?=some X[i]:=by
 have h1:=zU0 (zAP (X.take i)) X[i];rw[←zBb hi]at h1;obtain⟨h,e⟩:=List.getElem?_eq_some_iff.1 h1;have hp:=zIK X (i+1);have hl:=hp.length_le;rw[List.getElem?_eq_some_iff];exact⟨by omega,by rw[←hp.getElem h,e]⟩
theorem zDk{X}{i}(hi):(idxs X).take (i+1)=(idxs X).take i++[(plc (zAP (X.take i)) X[i]:Int)]:=by
 have hl:i<(idxs X).length:=by rw[zAQ];exact hi
 rw[List.take_succ_eq_append_getElem hl]
 congr 2
 have:=zDj hi;rw[List.getElem?_eq_getElem hl]at this;exact Option.some.inj this
def zAf(n next:Int):List Int->Bool
 |[]=>decide (next=n)
 |x::l=>if x<0\/next<x then false else zAf n (max next (x+1)) l
theorem zLI(X):∀i,i<=X.length->zAf ((zAP X).length:Int) ((zAP (X.take i)).length:Int) ((idxs X).drop i)=true:=by
 intro i hi;obtain⟨k,hk⟩:∃k,X.length-i=k:=⟨_,rfl⟩
 induction k generalizing i with
 |zero=>
  rw[List.drop_of_length_le (by rw[zAQ];omega),List.take_of_length_le (by omega)];simp[zAf]
 |succ k ih=>
  have hlt:i<X.length:=by omega
  have hl:i<(idxs X).length:=by rw[zAQ];exact hlt
  rw[List.drop_eq_getElem_cons hl];have e:=zDj hlt;rw[List.getElem?_eq_getElem hl]at e;rw[Option.some.inj e,zAf];have hle:=zKX (zAP (X.take i)) X[i];rw[if_neg (by omega)];have h:=ih (i+1) (by omega) (by omega);rw[zBb hlt]at h
  by_cases hm:X[i]∈zAP (X.take i)
  ·have hp:=zCi hm;rw[hp.1]at h;rw[show max ((zAP (X.take i)).length:Int) ((plc (zAP (X.take i)) X[i]:Int)+1)=((zAP (X.take i)).length:Int)by omega];exact h
  ·have hp:=zBL hm;rw[hp.1,List.length_append]at h;rw[hp.2,show max ((zAP (X.take i)).length:Int) (((zAP (X.take i)).length:Int)+1)=(((zAP (X.take i)).length+[X[i]].length:Nat):Int)by simp;omega];exact h
theorem zEX(X):zAf ((zAP X).length:Int) 0 (idxs X)=true:=by
 have:=zLI X 0 (Nat.zero_le _)
 simpa[zAP]using this
def zAJ(T:Tb):List (List Int):=T.acts.map fun r=>r.map zAw
def zAL(T:Tb):List (List Int):=T.goto.map fun r=>r.map zBF
def zAq(T:Tb):Pd:=⟨T.rules,T.terms,T.nons,idxs (zAJ T),zAP (zAJ T),idxs (zAL T),zAP (zAL T)⟩
def mayP(T:Tb):Bool:=decide (T.acts.length<=16383/\T.rules.length<=16383)&&zAI T
def zBm(T:Tb):Pd×Bool:=if mayP T then(zAq T,true)else(pd0,false)
def okC(n m:Nat)(c:Int):Bool:=if(zAb c).1=1 then decide ((zAb c).2<(n:Int))else if(zAb c).1=2 then decide ((zAb c).2<(m:Int)-1)else decide (zAw (zAb c)=c)
def okCR(n m:Nat)(t:Int)(r:List Int):Bool:=decide ((r.length:Int)-1=t)&&r.all (okC n m)
def okG(n:Nat)(c:Int):Bool:=decide (toOf c<(n:Int))
def okGR(n:Nat)(s:Int)(r:List Int):Bool:=decide ((r.length:Int)=s)&&r.all (okG n)
def zLL(P:Pd):Bool:=decide (0<P.row.length/\P.row.length<=16383/\P.gow.length=P.row.length/\0<P.rules.length/\P.rules.length<=16383/\0<=P.terms/\0<=P.nons)
def zFi(P:Pd):Bool:=(P.rules.take (P.rules.length-1)).all (okL P.terms P.nons)
def zDM(P:Pd):Bool:=P.rows.all (okCR P.row.length P.rules.length P.terms)&&P.gows.all (okGR P.row.length P.nons)
def zDt(P:Pd):Bool:=zAf (P.rows.length:Int) 0 P.row&&(zAf (P.gows.length:Int) 0 P.gow&&(decide P.rows.Nodup&&decide P.gows.Nodup))
def zCM(P:Pd):Bool:=zLL P&&(zFi P&&(zDM P&&zDt P))
def unP(P:Pd):Tb:=⟨P.rules,P.terms,P.nons,P.row.map fun i=>(P.rows.getD i.toNat []).map zAb,P.gow.map fun i=>(P.gows.getD i.toNat []).map toOf⟩
def unO(P:Pd):Tb:=if zCM P then unP P else tb0
def pick{α:Type}(L:List α)(z:α)(i:Int):α:=if 0<=i/\i<(L.length:Int)then L.getD i.toNat z else z
def zLh(P:Pd)(i t:Int):Int×Int:=if tm P.terms<t then(0,0)else zAb (pick (pick P.rows [] (pick P.row (-1) i)) 0 t)
def zGZ(P:Pd)(i s:Int):Int:=if s<=tm P.terms\/P.nons<s-tm P.terms then-1 else
 if((max P.row.length P.gow.length:Nat):Int)<=toOf (pick (pick P.gows [] (pick P.gow (-1) i)) 0 (s-tm P.terms-1))then-1 else toOf (pick (pick P.gows [] (pick P.gow (-1) i)) 0 (s-tm P.terms-1))
structure Rt (T:Tb):Prop where
 r0:0<T.rules.length
 a0:0<T.acts.length
 ga:T.goto.length=T.acts.length
 t0:0<=T.terms
 n0:0<=T.nons
 acts:∀r∈T.acts,((r.length:Int)-1=T.terms)/\∀x∈r,okA T.acts.length T.rules.length x=true
 goto:∀r∈T.goto,(r.length:Int)=T.nons/\∀x∈r,okT T.acts.length x=true
 left:zB4 T=true
theorem zVz{T}(h:zAI T=true):Rt T:=by
 simp only[zAI,zF3,zEg,zEi,Bool.and_eq_true,decide_eq_true_eq,List.all_eq_true,zDJ,okTo]at h;obtain⟨⟨h1,h2,h3,h4,h5⟩,h6,h7,h8⟩:=h;exact⟨h1,h2,h3,h4,h5,fun r hr=>⟨(h6 r hr).1,(h6 r hr).2⟩,fun r hr=>⟨(h7 r hr).1,(h7 r hr).2⟩,h8⟩
structure Pt (T:Tb):Prop extends Rt T where
 a1:T.acts.length<=16383
 r1:T.rules.length<=16383
theorem zIP{T}(h:mayP T=true):Pt T:=by
 simp only[mayP,Bool.and_eq_true,decide_eq_true_eq]at h;exact {zVz h.2 with a1:=h.1.1,r1:=h.1.2}
theorem zMf{T}(h:Pt T){r}(hr:r∈T.acts):(r.map zAw).map zAb=r:=by
 rw[List.map_map]
 conv=>rhs;rw[←List.map_id r]
 exact List.map_congr_left fun x hx=>(zCy ((h.acts r hr).2 x hx) h.a1 h.r1).1
theorem zTv(r:List Int):(r.map zBF).map toOf=r:=by
 rw[List.map_map]
 conv=>rhs;rw[←List.map_id r]
 exact List.map_congr_left fun x hx=>zOs x
theorem zOu{T}(h:Pt T):unP (zAq T)=T:=by
 obtain⟨R,t,n,A,Gt⟩:=T;unfold unP zAq;simp only[Tb.mk.injEq,true_and];constructor
 ·refine List.ext_getElem (by rw[List.length_map,zAQ];simp[zAJ]) fun i h1 h2=>?_
  have hX:i<(zAJ ⟨R,t,n,A,Gt⟩).length:=by simp[zAJ];exact h2
  rw[List.getElem_map];have e:=zDj hX;rw[List.getElem?_eq_getElem (by rw[zAQ];exact hX)]at e;rw[Option.some.inj e,List.getD_eq_getElem?_getD,Int.toNat_natCast,zI8 hX];simp only[zAJ,Option.getD_some,List.getElem_map];exact zMf h (List.getElem_mem h2)
 ·refine List.ext_getElem (by rw[List.length_map,zAQ];simp[zAL]) fun i h1 h2=>?_
  have hX:i<(zAL ⟨R,t,n,A,Gt⟩).length:=by simp[zAL];exact h2
  rw[List.getElem_map];have e:=zDj hX;rw[List.getElem?_eq_getElem (by rw[zAQ];exact hX)]at e;rw[Option.some.inj e,List.getD_eq_getElem?_getD,Int.toNat_natCast,zI8 hX];simp only[zAL,Option.getD_some,List.getElem_map];exact zTv _
theorem zQb{n m}{x}(h:okA n m x=true)(hn:n<=16383)(hm:m<=16383):okC n m (zAw x)=true:=by
 have h1:=(zCy h hn hm).1;have h2:=zIF h;unfold okC;rw[h1];split
 ·rw[decide_eq_true_eq];omega
 ·split
  ·rw[decide_eq_true_eq];omega
  ·exact decide_eq_true rfl
theorem zGc{T}(h:Pt T):zCM (zAq T)=true:=by
 have hA:(zAJ T).length=T.acts.length:=by simp[zAJ]
 have hG:(zAL T).length=T.goto.length:=by simp[zAL]
 simp only[zCM,zLL,zDM,zDt,Bool.and_eq_true,decide_eq_true_eq,List.all_eq_true,okCR,okGR,zAq,zAQ];refine⟨⟨by rw[hA];exact h.a0,by rw[hA];exact h.a1,by rw[hA,hG];exact h.ga,h.r0,h.r1,h.t0,h.n0⟩,h.left,⟨fun r hr=>?_,fun r hr=>?_⟩,zEX _,zEX _,decide_eq_true (zFZ _),decide_eq_true (zFZ _)⟩
 ·rw[zBf]at hr;obtain⟨a,ha,rfl⟩:=List.mem_map.1 hr;rw[List.length_map];refine⟨(h.acts a ha).1,fun x hx=>?_⟩;obtain⟨y,hy,rfl⟩:=List.mem_map.1 hx;rw[hA];exact zQb ((h.acts a ha).2 y hy) h.a1 h.r1
 ·rw[zBf]at hr;obtain⟨a,ha,rfl⟩:=List.mem_map.1 hr;rw[List.length_map];refine⟨(h.goto a ha).1,fun x hx=>?_⟩;obtain⟨y,hy,rfl⟩:=List.mem_map.1 hx;have:=(h.goto a ha).2 y hy;unfold okT at this;have:=of_decide_eq_true this;unfold okG toOf zBF;rw[hA,decide_eq_true_eq];omega
theorem zBn{α}(L)(z:α){i}(h:¬(0<=i/\i<(L.length:Int))):pick L z i=z:=if_neg h
theorem zDY{α}(L)(z:α){i:Nat}(h):pick L z (i:Int)=L[i]:=by
 unfold pick;rw[if_pos (by omega)];simp[List.getD_eq_getElem?_getD,h]
theorem zKW{X}{i:Nat}(hi):pick (zAP X) [] (pick (idxs X) (-1) (i:Int))=X[i]:=by
 have hl:i<(idxs X).length:=by rw[zAQ];exact hi
 rw[zDY _ _ hl];have e:=zDj hi;rw[List.getElem?_eq_getElem hl]at e;rw[Option.some.inj e];have h2:=zI8 hi;obtain⟨h3,h4⟩:=List.getElem?_eq_some_iff.1 h2;rw[zDY _ _ h3,h4]
theorem zKU{X}{i}(hi:¬(0<=i/\i<(X.length:Int))):pick (zAP X) [] (pick (idxs X) (-1) i)=[]:=by
 rw[zBn (idxs X) (-1) (by rw[zAQ];exact hi),zBn];omega
theorem zN9{T}(h:Pt T)(i t):zLh (zAq T) i t=actP T i t:=by
 unfold zLh actP;have hterm:(zAq T).terms=T.terms:=rfl;rw[hterm];split
 ·rfl
 rename_i ht;have hA:(zAJ T).length=T.acts.length:=by simp[zAJ]
 show zAb (pick (pick (zAP (zAJ T)) [] (pick (idxs (zAJ T)) (-1) i)) 0 t)= _
 by_cases hi:0<=i/\i<(T.acts.length:Int)
 ·obtain⟨n,rfl⟩:∃n:Nat,i=(n:Int):=⟨i.toNat,by omega⟩;have hn:n<T.acts.length:=by omega
  rw[zKW (by rw[hA];exact hn)];simp only[zAJ,List.getElem_map];have hm:=List.getElem_mem hn
  by_cases ht2:0<=t/\t<(T.acts[n].length:Int)
  ·obtain⟨k,rfl⟩:∃k:Nat,t=(k:Int):=⟨t.toNat,by omega⟩;have hk:k<T.acts[n].length:=by omega
   rw[zDY _ _ (by rw[List.length_map];exact hk),List.getElem_map,(zCy ((h.acts _ hm).2 _ (List.getElem_mem hk)) h.a1 h.r1).1];unfold ent;rw[if_pos (by omega)];simp[List.getD_eq_getElem?_getD,hn,hk]
  ·rw[zBn _ _ (by rw[List.length_map];exact ht2)];unfold ent;rw[show zAb 0=(0,0)by decide];split
   ·rename_i h0;have:T.acts[n].length<=t.toNat:=by omega
    simp[List.getD_eq_getElem?_getD,hn,List.getElem?_eq_none this]
   ·rfl
 ·rw[zKU (by rw[hA];exact hi),zBn _ _ (by simp),show zAb 0=(0,0)by decide];unfold ent;split
  ·rename_i h0;have:T.acts.length<=i.toNat:=by omega
   simp[List.getD_eq_getElem?_getD,List.getElem?_eq_none this]
  ·rfl
theorem zLi{T}(h:Pt T)(i s):zGZ (zAq T) i s=zF2 T i s:=by
 unfold zGZ zF2;have hterm:(zAq T).terms=T.terms:=rfl;have hnons:(zAq T).nons=T.nons:=rfl;rw[hterm,hnons];have hA:(zAJ T).length=T.acts.length:=by simp[zAJ]
 have hG:(zAL T).length=T.goto.length:=by simp[zAL]
 split
 ·rfl
 rename_i hs;have hl:max (zAq T).row.length (zAq T).gow.length=max T.acts.length T.goto.length:=by simp only[zAq,zAQ,hA,hG]
 rw[hl]
 have key:toOf (pick (pick (zAq T).gows [] (pick (zAq T).gow (-1) i)) 0 (s-tm T.terms-1))=ent T.goto (-1) i (s-tm T.terms-1)/\ -1<=ent T.goto (-1) i (s-tm T.terms-1)/\ent T.goto (-1) i (s-tm T.terms-1)<(T.acts.length:Int):=by
  show toOf (pick (pick (zAP (zAL T)) [] (pick (idxs (zAL T)) (-1) i)) 0 (s-tm T.terms-1))= _/\_;have h0:0<=s-tm T.terms-1:=by omega
  by_cases hi:0<=i/\i<(T.goto.length:Int)
  ·obtain⟨n,rfl⟩:∃n:Nat,i=(n:Int):=⟨i.toNat,by omega⟩;have hn:n<T.goto.length:=by omega
   rw[zKW (by rw[hG];exact hn)];simp only[zAL,List.getElem_map];have hm:=List.getElem_mem hn;generalize s-tm T.terms-1=t at*
   by_cases ht2:t<(T.goto[n].length:Int)
   ·obtain⟨k,rfl⟩:∃k:Nat,t=(k:Int):=⟨t.toNat,by omega⟩;have hk:k<T.goto[n].length:=by omega
    have e:ent T.goto (-1) (n:Int) (k:Int)=T.goto[n][k]:=by
     unfold ent;rw[if_pos (by omega)];simp[List.getD_eq_getElem?_getD,hn,hk]
    rw[zDY _ _ (by rw[List.length_map];exact hk),List.getElem_map,zOs,e];have:=(h.goto _ hm).2 _ (List.getElem_mem hk);unfold okT at this;have:=of_decide_eq_true this;exact⟨rfl,this.1,this.2⟩
   ·have e:ent T.goto (-1) (n:Int) t= -1:=by
     unfold ent;rw[if_pos (by omega)];have:T.goto[n].length<=t.toNat:=by omega
     simp[List.getD_eq_getElem?_getD,hn,List.getElem?_eq_none this]
    rw[zBn _ _ (by rw[List.length_map];omega),e];unfold toOf;have:=h.a0;omega
  ·rw[zKU (by rw[hG];exact hi),zBn _ _ (by simp)]
   have e:ent T.goto (-1) i (s-tm T.terms-1)= -1:=by
    unfold ent;split
    ·rename_i h2;have:T.goto.length<=i.toNat:=by omega
     simp[List.getD_eq_getElem?_getD,List.getElem?_eq_none this]
    ·rfl
   rw[e];unfold toOf;have:=h.a0;omega
 rw[key.1];unfold zJZ;have hmax:(T.acts.length:Int)<=((max T.acts.length T.goto.length:Nat):Int):=by omega
 rw[if_neg (by omega)];split
 ·rfl
 ·omega
def txt(r:List Int):List Int:=r.flatMap fun c=>[c / 256,c % 256]
theorem zEP(r):(txt r).length=2*r.length:=by
 induction r with
 |nil=>rfl
 |cons a l ih=>
  have:txt (a::l)=[a / 256,a % 256]++txt l:=rfl;rw[this,List.length_append,ih];simp only[List.length_cons,List.length_nil];omega
theorem zRS{r:List Int}{i}(hi):txt (r.take (i+1))=txt (r.take i)++[r[i] / 256,r[i] % 256]:=by
 rw[List.take_succ_eq_append_getElem hi];unfold txt;rw[List.flatMap_append];simp
theorem zKq{r}(h:∀c∈r,Cd c):∀x∈txt r,0<=x/\x<256:=by
 intro x hx;obtain⟨c,hc,hx⟩:=List.mem_flatMap.1 hx;have:=h c hc;unfold Cd at this;simp only[List.mem_cons,List.not_mem_nil,or_false]at hx;rcases hx with rfl|rfl<;>omega
theorem zTy:∀{r s:List Int},txt r=txt s->r=s:=by
 intro r
 induction r with
 |nil=>
  intro s h;have:=congrArg List.length h;rw[zEP,zEP]at this;exact(List.eq_nil_of_length_eq_zero (by simp only[List.length_nil]at this;omega)).symm
 |cons a l ih=>
  intro s h;cases s with
  |nil=>
   have:=congrArg List.length h;rw[zEP,zEP]at this;simp at this
  |cons b m=>
   have e1:txt (a::l)=a / 256::a % 256::txt l:=rfl;have e2:txt (b::m)=b / 256::b % 256::txt m:=rfl;rw[e1,e2]at h;injection h with h1 h
   injection h with h2 h
   have:a=b:=by omega
   rw[this,ih h]
