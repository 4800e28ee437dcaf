/- A part of the proof. -/
import Derived.Test.YtegeamggbglneaaGreatDoorPk03
import Derived.Laws.BytesArg
import Derived.Test.YtegeamggbglneaaGreatDoorPk04
import Derived.RangeFuncNested
import Derived.RangeFuncBound
import Derived.RangeFuncCalls
import Derived.RangeFuncLeaves
import Derived.Lib.SmallJoins
import Derived.Deep.Slices
import Derived.Deep.SlicePairs
import Derived.ChangeSame
import Derived.SliceStrings
import Derived.SizedLaws
import Derived.Carry
set_option maxHeartbeats 1000000
set_option linter.unusedVariables false
namespace Go.Proofs.YtegeamggbglneaaGreatDoor
namespace Au
open Gr (Gram)
open Im
def zAK(ks:List (List Itm))(i:Nat):List Itm:=ks.getD i []
theorem zBN{ks more}{i}(h:i<ks.length):zAK (ks++more) i=zAK ks i:=by
 unfold zAK;rw[List.getD_eq_getElem?_getD,List.getD_eq_getElem?_getD,List.getElem?_append_left h]
theorem zBg{ks}{i}(h):zAK ks i=ks[i]:=by
 unfold zAK;rw[List.getD_eq_getElem?_getD,List.getElem?_eq_getElem h]
 rfl
theorem zBD{ks}{i}(h:i<ks.length):zAK ks i∈ks:=by
 rw[zBg h];exact List.getElem_mem h
theorem zRj{ks}{k}(h:k∈ks):ks.idxOf k<ks.length/\zAK ks (ks.idxOf k)=k:=by
 have h1:=List.idxOf_lt_length_of_mem h;refine⟨h1,?_⟩;rw[zBg h1];exact List.getElem_idxOf h1
structure WholeOk (G:Gram) (top:Nat) (q:Whole):Prop where
 le:q.2.length<=q.1.length
 pos:0<q.1.length
 nodup:q.1.Nodup
 zero:zAK q.1 0=[((G.rules.length:Int),0)]
 good:∀k∈q.1,k≠[]/\Srt k/\∀x∈k,zAI G x=true
 trans:∀i,i<q.2.length->q.2.getD i []=zBI G q.1 (clL G (zAK q.1 i)) top
 here:∀i,i<q.2.length->∀s,s<top->stL G (clL G (zAK q.1 i)) ((s+1:Nat):Int)≠[]->stL G (clL G (zAK q.1 i)) ((s+1:Nat):Int)∈q.1
 early:∀t,0<t->t<q.1.length->∃i s,i<t/\i<q.2.length/\s<top/\zAK q.1 t=stL G (clL G (zAK q.1 i)) ((s+1:Nat):Int)
theorem WholeOk.start(G)(top):WholeOk G top (runs G top 0):=by
 refine⟨by simp[runs],by simp[runs],by simp[runs],rfl,fun k hk=>?_,fun i hi=>by simp[runs]at hi,fun i hi=>by simp[runs]at hi,fun t h1 h2=>?_⟩
 ·simp only[runs,List.mem_singleton]at hk;subst hk;refine⟨by simp,zFp _,fun x hx=>?_⟩;rw[List.mem_singleton]at hx;subst hx;exact zBS (Nat.le_refl _)
 ·simp only[runs,List.length_cons,List.length_nil]at h2;omega
theorem WholeOk.next{G}{top}{q}(h:WholeOk G top q):WholeOk G top (rnd G top q):=by
 by_cases hq:q.2.length<q.1.length
 ·rw[zKb hq,←zBg hq];have H:=zGy (G:=G) (c:=clL G (zAK q.1 q.2.length)) h.nodup top;generalize zDK G (clL G (zAK q.1 q.2.length)) top (q.1,[])=p at H;obtain⟨more,e,hm⟩:=H.front;have hl:q.1.length<=p.1.length:=by rw[e,List.length_append];omega
  refine⟨by dsimp only;rw[List.length_append];simp;omega,by have:=h.pos;dsimp only;omega,H.nodup,?_,fun k hk=>?_,fun i hi=>?_,fun i hi s hs hn=>?_,fun t h1 h2=>?_⟩
  ·dsimp only;rw[e,zBN h.pos];exact h.zero
  ·dsimp only at hk;rw[e]at hk;rcases List.mem_append.1 hk with hk|hk
   ·exact h.good k hk
   ·obtain⟨i,_,h1,h2⟩:=hm k hk;have hs:=zFK G (clL G (zAK q.1 q.2.length)) ((i+1:Nat):Int);rw[←h1]at hs;exact⟨h2,hs.1,fun x hx=>(zDF ((hs.2 x).1 hx)).1⟩
  ·dsimp only at hi⊢;rw[List.length_append,List.length_singleton]at hi
   by_cases k:i<q.2.length
   ·rw[List.getD_eq_getElem?_getD,List.getElem?_append_left k,←List.getD_eq_getElem?_getD,h.trans i k,e,zBN (by omega),zFq more fun s hs hn=>h.here i k s hs hn]
   ·obtain rfl:i=q.2.length:=by omega
    rw[List.getD_eq_getElem?_getD,List.getElem?_append_right (Nat.le_refl _)];simp only[Nat.sub_self,List.getElem?_cons_zero,Option.getD_some];rw[H.trans,show zAK p.1 q.2.length=zAK q.1 q.2.length from by rw[e,zBN hq]]
  ·dsimp only at hi hn⊢;rw[List.length_append,List.length_singleton]at hi;have hi':i<q.1.length:=by omega
   rw[show zAK p.1 i=zAK q.1 i from by rw[e,zBN hi']]at hn⊢
   by_cases k:i<q.2.length
   ·rw[e];exact List.mem_append.2 (.inl (h.here i k s hs hn))
   ·obtain rfl:i=q.2.length:=by omega
    exact H.here s hs hn
  ·dsimp only at h2⊢
   by_cases k:t<q.1.length
   ·obtain⟨i,s,a1,a2,a3,a4⟩:=h.early t h1 k;refine⟨i,s,a1,by rw[List.length_append];omega,a3,?_⟩;rw[e,zBN k,zBN (by omega)];exact a4
   ·have hmem:zAK p.1 t∈more:=by
     rw[zBg h2];simp only[e,List.getElem_append_right (Nat.le_of_not_lt k)];exact List.getElem_mem _
    obtain⟨s,a1,a2,_⟩:=hm _ hmem;refine⟨q.2.length,s,by omega,by rw[List.length_append];simp,a1,?_⟩;rw[a2,e,zBN hq]
 ·unfold rnd;rw[List.getElem?_eq_none (by omega)];exact h
theorem zFk(G)(top):∀n,WholeOk G top (runs G top n)
 |0=> .start G top
 |n+1=>(zFk G top n).next
theorem zTi{G}{top}{q}(h:q.2.length<q.1.length):(rnd G top q).2.length=q.2.length+1:=by
 rw[zKb h];simp
theorem zKi{G}{top}:∀{n:Nat},(∀m,m<n->(runs G top m).2.length<(runs G top m).1.length)->(runs G top n).2.length=n
 |0,_=>rfl
 |n+1,h=>by
  show(rnd G top (runs G top n)).2.length=n+1;rw[zTi (h n (by omega)),zKi fun m hm=>h m (by omega)]
theorem zA8{G}{ks}{c}{n}{s t}:(s,t)∈zBI G ks c n↔∃i,i<n/\s=((i+1:Nat):Int)/\stL G c s≠[]/\t=(ks.idxOf (stL G c s):Int):=by
 unfold zBI;rw[List.mem_filterMap];constructor
 ·rintro⟨i,hi,h⟩;split at h
  ·cases h
  ·rename_i hn;injection h with h
   injection h with h1 h2
   subst h1;exact⟨i,List.mem_range.1 hi,rfl,hn,h2.symm⟩
 ·rintro⟨i,hi,rfl,hn,rfl⟩;exact⟨i,List.mem_range.2 hi,if_neg hn⟩
def leads(tr:List (Int×Int))(s:Int):Int:=((tr.find? fun x=>decide (x.1=s)).map (·.2)).getD (-1)
theorem zFN{G}{ks}{c}{n i}(hi:i<n)(hn:stL G c ((i+1:Nat):Int)≠[]):leads (zBI G ks c n) ((i+1:Nat):Int)=(ks.idxOf (stL G c ((i+1:Nat):Int)):Int):=by
 unfold leads
 have key:∀x∈zBI G ks c n,decide (x.1=((i+1:Nat):Int))=true->x.2=(ks.idxOf (stL G c ((i+1:Nat):Int)):Int):=by
  rintro⟨s,t⟩ hx hd;obtain⟨j,hj,h1,h2,h3⟩:=zA8.1 hx;have hd':s=((i+1:Nat):Int):=of_decide_eq_true hd;dsimp only;rw[←hd'];exact h3
 have hm:((((i+1:Nat):Int),(ks.idxOf (stL G c ((i+1:Nat):Int)):Int)):Int×Int)∈zBI G ks c n:=zA8.2 ⟨i,hi,rfl,hn,rfl⟩;cases hf:(zBI G ks c n).find? fun x=>decide (x.1=((i+1:Nat):Int))with
 |none=>
  have:=List.find?_eq_none.1 hf _ hm;simp at this
 |some x=>exact key x (List.mem_of_find?_eq_some hf) (List.find?_some (p:=fun x:Int×Int=>decide (x.1=((i+1:Nat):Int))) hf)
end Au
namespace Au
open Gr (Gram checkN zAl zAF zAY top zA2 zBM zA1 zAa)
open Im
def Stop(q:Whole):Prop:=2000<q.1.length\/q.2.length=q.1.length
def zET(G:Gram)(n:Nat):Prop:=Stop (runs G (top G) n)/\∀m,m<n->¬Stop (runs G (top G) m)
theorem zET.uniq{G}{n m}(h:zET G n)(k:zET G m):n=m:=by
 rcases Nat.lt_trichotomy n m with q|q|q
 ·exact absurd h.1 (k.2 n q)
 ·exact q
 ·exact absurd k.1 (h.2 m q)
theorem zBX{G}(hv:checkN G=0){r}(hr:zAY G r=true){d}(hd:d<(zAF G r).2.length):1<=(zAF G r).2[d]/\(zAF G r).2[d]<=(top G:Int):=by
 have hk:=(zAl hv).2.2.2.1
 have hb:0<=r/\r<=(G.rules.length:Int):=by
  unfold zAY at hr;exact of_decide_eq_true hr
 obtain⟨i,rfl⟩:=Int.eq_ofNat_of_zero_le hb.1;simp only[zA2,Bool.and_eq_true,List.all_eq_true,decide_eq_true_eq]at hk
 by_cases e:i=G.rules.length
 ·subst e;have h2:=(zA1 G).2;have h3:=zAa.1 hk.1;have e1:(zAF G ((G.rules.length:Nat):Int)).2=[G.start]:=by rw[h2]
  have e0:(zAF G ((G.rules.length:Nat):Int)).2[d]=G.start:=by
   have:d=0:=by rw[e1]at hd;simp at hd;omega
   subst this;simp only[e1,List.getElem_cons_zero]
  rw[e0];unfold top;omega
 ·have hi:i<G.rules.length:=by omega
  have h2:=(zBM hi).2;have hm:=(hk.2 _ (List.getElem_mem hi)).2;have hin:(zAF G (i:Int)).2[d]∈(zAF G (i:Int)).2:=List.getElem_mem hd;have e1:(zAF G (i:Int)).2=(G.rules[i]).2:=by rw[h2]
  rw[←e1]at hm;exact hm _ hin
theorem zB6{G}{r}{d}(hr:zAY G r=true)(hd:d<(zAF G r).2.length):behB G (r,(d:Int))=true/\behV G (r,(d:Int))=(zAF G r).2[d]:=by
 have hb:behB G (r,(d:Int))=true:=by
  rw[zAu];refine⟨?_,by unfold rlen;dsimp only;omega⟩;unfold zAI rlen;rw[hr,Bool.true_and,decide_eq_true_iff];dsimp only;omega
 refine⟨hb,?_⟩;unfold behV;rw[if_pos hb];simp[hd]
def zI0(G:Gram)(s:Int)(x:Itm):Prop:=zAY G x.1=true/\1<=x.2/\x.2<=(rlen G x.1:Int)/\(zAF G x.1).2.getD (x.2-1).toNat 0=s
theorem zJa{G}{L}{s}{x}(h:zMH G L s x):zI0 G s x:=by
 obtain⟨y,_,h1,h2,rfl⟩:=h;obtain⟨h3,h4⟩:=zAu.1 h1;obtain⟨h5,h6⟩:=zAS.1 h3;refine⟨?_,by dsimp only;omega,by dsimp only;omega,?_⟩
 ·unfold zAY;exact decide_eq_true h5
 ·unfold behV at h2;rw[if_pos h1]at h2;dsimp only;rw[show(y.2+1-1).toNat=y.2.toNat from by congr 1;omega];exact h2
structure Done (G:Gram) (q:Whole):Prop where
 ok:WholeOk G (top G) q
 all:q.2.length=q.1.length
theorem Done.to{G}{q}(h:Done G q){k}(hk:k<q.1.length){s t}(hm:(s,t)∈q.2.getD k []):∃n:Nat,t=(n:Int)/\n<q.1.length/\zAK q.1 n=stL G (clL G (zAK q.1 k)) s:=by
 have hl:k<q.2.length:=by rw[h.all];exact hk
 rw[h.ok.trans k hl]at hm;obtain⟨i,hi,rfl,hn,rfl⟩:=zA8.1 hm;have:=zRj (h.ok.here k hl i hi hn);exact⟨_,rfl,this.1,this.2⟩
theorem Done.enters{G}{q}(h:Done G q){k}(hk:k<q.1.length){s t}(hm:(s,t)∈q.2.getD k []):∃n:Nat,t=(n:Int)/\n<q.1.length/\∀x∈zAK q.1 n,zI0 G s x:=by
 obtain⟨n,h1,h2,h3⟩:=h.to hk hm;refine⟨n,h1,h2,fun x hx=>?_⟩;rw[h3]at hx;exact zJa (((zFK _ _ _).2 x).1 hx)
theorem Done.early{G}{q}(h:Done G q){t}(h0:0<t)(ht:t<q.1.length):∃k s,k<t/\(s,(t:Int))∈q.2.getD k []:=by
 obtain⟨k,i,h1,h2,h3,h4⟩:=h.ok.early t h0 ht;refine⟨k,((i+1:Nat):Int),h1,?_⟩;rw[h.ok.trans k h2];refine zA8.2 ⟨i,h3,rfl,?_,?_⟩
 ·rw[←h4];exact(h.ok.good _ (zBD ht)).1
 ·rw[←h4,zBg ht]
  congr 1
  exact(h.ok.nodup.idxOf_getElem t ht).symm
theorem Done.some{G}{q}(h:Done G q){t}(ht:t<q.1.length):zAK q.1 t≠[]:=(h.ok.good _ (zBD ht)).1
def zF2(n:Nat)(ts:List (List (Int×Int)))(i s:Int):Int:=if 0<=i/\i<(n:Int)then leads (ts.getD i.toNat []) s else-1
def zEm(n:Nat)(ts:List (List (Int×Int)))(i:Int):List Int->Int
 |[]=>if 0<=i/\i<(n:Int)then i else-1
 |s::way=>if 0<=i/\i<(n:Int)then zEm n ts (zF2 n ts i s) way else-1
theorem walk_nil{n}{ts}{i}(h:i<n):zEm n ts (i:Int) []=(i:Int):=by
 unfold zEm;rw[if_pos ⟨by omega,by omega⟩]
theorem zO0{n}{ts}{i}(h:i<n)(s)(way):zEm n ts (i:Int) (s::way)=zEm n ts (leads (ts.getD i []) s) way:=by
 show(if 0<=(i:Int)/\(i:Int)<(n:Int)then zEm n ts (zF2 n ts i s) way else-1)= _;rw[if_pos ⟨by omega,by omega⟩];unfold zF2;rw[if_pos ⟨by omega,by omega⟩,Int.toNat_natCast]
theorem Done.one{G}{q}(h:Done G q)(hv:checkN G=0){i}(hi:i<q.1.length){r}{d}(hr:zAY G r=true)(hd:d<(zAF G r).2.length)(hx:(r,(d:Int))∈clL G (zAK q.1 i)):
  ∃j:Nat,j<q.1.length/\leads (q.2.getD i []) (zAF G r).2[d]=(j:Int)/\(r,((d+1:Nat):Int))∈zAK q.1 j:=by
 obtain⟨b1,b2⟩:=zB6 hr hd;obtain⟨s1,s2⟩:=zBX hv hr hd;have hl:i<q.2.length:=by rw[h.all];exact hi
 obtain⟨m,hm⟩:=Int.eq_ofNat_of_zero_le (show 0<=(zAF G r).2[d]-1 by omega);have hs:(zAF G r).2[d]=((m+1:Nat):Int):=by omega
 have hmt:m<top G:=by omega
 have hst:(r,((d+1:Nat):Int))∈stL G (clL G (zAK q.1 i)) ((m+1:Nat):Int):=((zFK _ _ _).2 _).2 ⟨(r,(d:Int)),hx,b1,by rw[b2,hs],by simp⟩;have hn:stL G (clL G (zAK q.1 i)) ((m+1:Nat):Int)≠[]:=fun e=>by rw[e]at hst;cases hst
 have hin:=zRj (h.ok.here i hl m hmt hn);refine⟨_,hin.1,?_,by rw[hin.2];exact hst⟩;rw[hs,h.ok.trans i hl,zFN hmt hn]
theorem Done.way{G}{q}(h:Done G q)(hv:checkN G=0){r}(hr:zAY G r=true):∀(m d:Nat) (i:Nat),d+m=(zAF G r).2.length->i<q.1.length->(r,(d:Int))∈clL G (zAK q.1 i)->(0<m\/(r,(d:Int))∈zAK q.1 i)->
  ∃j:Nat,j<q.1.length/\zEm q.1.length q.2 (i:Int) ((zAF G r).2.drop d)=(j:Int)/\(r,((zAF G r).2.length:Int))∈zAK q.1 j
 |0,d,i,e,hi,_,hx=>by
  have hx':(r,(d:Int))∈zAK q.1 i:=by
   rcases hx with q|q
   ·omega
   ·exact q
  have hd:d=(zAF G r).2.length:=by omega
  refine⟨i,hi,?_,by rw[←hd];exact hx'⟩;rw[hd,List.drop_length,walk_nil hi]
 |m+1,d,i,e,hi,hx,_=>by
  have hd:d<(zAF G r).2.length:=by omega
  obtain⟨j,h1,h2,h3⟩:=h.one hv hi hr hd hx;have hcl:(r,((d+1:Nat):Int))∈clL G (zAK q.1 j):=((zF5 _ _).2 _).2 (.of h3 ((h.ok.good _ (zBD h1)).2.2 _ h3));obtain⟨k,k1,k2,k3⟩:=Done.way h hv hr m (d+1) j (by omega) h1 hcl (.inr h3);refine⟨k,k1,?_,k3⟩;rw[List.drop_eq_getElem_cons hd,zO0 hi,h2];exact k2
theorem Done.spells{G}{q}(h:Done G q)(hv:checkN G=0){i}(hi:i<q.1.length){r}(hr:zAY G r=true)(h0:(zAF G r).2.length≠0)(hx:(r,0)∈clL G (zAK q.1 i)):
  ∃j:Nat,j<q.1.length/\zEm q.1.length q.2 (i:Int) (zAF G r).2=(j:Int)/\(r,((zAF G r).2.length:Int))∈zAK q.1 j:=
 h.way hv hr _ 0 i (Nat.zero_add _) hi hx (.inl (by omega))
def states(q:Whole):List (List Itm×List (Int×Int)):=q.1.zip q.2
theorem zAv{q}(h:q.2.length=q.1.length):(states q).length=q.1.length:=by
 unfold states;rw[List.length_zip,h,Nat.min_self]
theorem zCO{q}(h:q.2.length=q.1.length){i}(hi:i<q.1.length):(states q)[i]?=some (zAK q.1 i,q.2.getD i []):=by
 unfold states;rw[List.getElem?_zip_eq_some];have hi2:i<q.2.length:=by omega
 refine⟨?_,?_⟩
 ·rw[List.getElem?_eq_getElem hi,zBg hi]
 ·rw[List.getElem?_eq_getElem hi2,List.getD_eq_getElem?_getD,List.getElem?_eq_getElem hi2]
  rfl
theorem zET.done{G}{n}(h:zET G n)(k:¬2000<(runs G (top G) n).1.length):Done G (runs G (top G) n):=
 ⟨zFk G (top G) n,h.1.resolve_left k⟩
inductive Built (G:Gram):Int->List (List Itm×List (Int×Int))->Prop
 |bad:checkN G≠0->Built G (checkN G) []
 |many {n:Nat}:checkN G=0->zET G n->2000<(runs G (top G) n).1.length->Built G 7 []
 |all {n:Nat}:checkN G=0->zET G n->¬2000<(runs G (top G) n).1.length->Built G 0 (states (runs G (top G) n))
theorem Built.uniq{G}{e f}{X Y}(h:Built G e X)(k:Built G f Y):e=f/\X=Y:=by
 cases h with
 |bad h1=>
  cases k with
  |bad _=>exact⟨rfl,rfl⟩
  |many k1 _ _=>exact absurd k1 h1
  |all k1 _ _=>exact absurd k1 h1
 |many h1 h2 h3=>
  cases k with
  |bad k1=>exact absurd h1 k1
  |many _ _ _=>exact⟨rfl,rfl⟩
  |all _ k2 k3=>
   rw[h2.uniq k2]at h3;exact absurd h3 k3
 |all h1 h2 h3=>
  cases k with
  |bad k1=>exact absurd h1 k1
  |many _ k2 k3=>
   rw[h2.uniq k2]at h3;exact absurd k3 h3
  |all _ k2 _=>
   rw[h2.uniq k2];exact⟨rfl,rfl⟩
def zIh(G:Gram)(n:Nat):Prop:=∀m,m<n->¬Stop (runs G (top G) m)
theorem zLK(G):zIh G 0:=fun m h=>absurd h (Nat.not_lt_zero m)
theorem zIh.next{G}{n}(h:zIh G n)(k:¬Stop (runs G (top G) n)):zIh G (n+1):=fun m hm=>by
 by_cases e:m=n
 ·rw[e];exact k
 ·exact h m (by omega)
theorem zIh.stop{G}{n}(h:zIh G n)(k:Stop (runs G (top G) n)):zET G n:=⟨k,h⟩
theorem zIh.len{G}{n}(h:zIh G n):(runs G (top G) n).2.length=n:=zKi fun m hm=>by
 have h1:=h m hm;have h2:=(zFk G (top G) m).le;unfold Stop at h1;omega
end Au
namespace Au
open Gr (Gram checkN zAF zAY top)
open Im
open It (isIn num zCU zRs)
def kb(x:Itm):List Int:=[x.1 % 256,x.1 / 256 % 256,x.2 % 256]
def keyL(L:List Itm):List Int:=L.flatMap kb
def keyB(L:List Itm):ByteArray:=strOfNums (keyL L)
def Fit3(L:List Itm):Prop:=∀x∈L,(0<=x.1/\x.1<65536)/\0<=x.2/\x.2<256
theorem zFL(x):(kb x).length=3:=rfl
theorem zFM(L):(keyL L).length=L.length*3:=by
 unfold keyL
 induction L with
 |nil=>rfl
 |cons x L ih=>
  rw[List.flatMap_cons,List.length_append,ih,zFL,List.length_cons];omega
theorem zNP(L)(x):keyL (L++[x])=keyL L++kb x:=by simp[keyL]
theorem zH6(L):∀n∈keyL L,0<=n/\n<256:=fun n hn=>by
 unfold keyL at hn;rw[List.mem_flatMap]at hn;obtain⟨x,_,h⟩:=hn;simp only[kb,List.mem_cons,List.not_mem_nil,or_false]at h;rcases h with rfl|rfl|rfl<;>omega
theorem zUm{x y}(hx:(0<=x.1/\x.1<65536)/\0<=x.2/\x.2<256)(hy:(0<=y.1/\y.1<65536)/\0<=y.2/\y.2<256)(h:kb x=kb y):x=y:=by
 simp only[kb,List.cons.injEq,and_true]at h;obtain⟨x1,x2⟩:=x;obtain⟨y1,y2⟩:=y;dsimp only at*;exact Prod.ext (by dsimp only;omega) (by dsimp only;omega)
theorem zKD:∀{L M:List Itm},Fit3 L->Fit3 M->keyL L=keyL M->L=M
 |[],[],_,_,_=>rfl
 |[],y::M,_,_,h=>by simp[keyL,kb]at h
 |x::L,[],_,_,h=>by simp[keyL,kb]at h
 |x::L,y::M,hL,hM,h=>by
  have h':kb x++keyL L=kb y++keyL M:=by simpa[keyL]using h
  obtain⟨h1,h2⟩:=List.append_inj h' (by rw[zFL,zFL]);rw[zUm (hL x (List.mem_cons_self ..)) (hM y (List.mem_cons_self ..)) h1,zKD (fun z hz=>hL z (List.mem_cons_of_mem _ hz)) (fun z hz=>hM z (List.mem_cons_of_mem _ hz)) h2]
theorem bytes_inj:∀{a b:List Int},(∀n∈a,0<=n/\n<256)->(∀n∈b,0<=n/\n<256)->(a.map fun n=>UInt8.ofNat n.toNat)=(b.map fun n=>UInt8.ofNat n.toNat)->a=b
 |[],[],_,_,_=>rfl
 |[],y::b,_,_,h=>by simp at h
 |x::a,[],_,_,h=>by simp at h
 |x::a,y::b,ha,hb,h=>by
  simp only[List.map_cons,List.cons.injEq]at h;have h1:=ha x (List.mem_cons_self ..);have h2:=hb y (List.mem_cons_self ..);have h3:=congrArg UInt8.toNat h.1;rw[UInt8.toNat_ofNat',UInt8.toNat_ofNat']at h3;rw[show x=y by omega,bytes_inj (fun n hn=>ha n (List.mem_cons_of_mem _ hn)) (fun n hn=>hb n (List.mem_cons_of_mem _ hn)) h.2]
theorem zKC{L M}(hL:Fit3 L)(hM:Fit3 M)(h:keyB L=keyB M):L=M:=by
 unfold keyB at h;have h':(strOfNums (keyL L)).data.toList=(strOfNums (keyL M)).data.toList:=by rw[h]
 rw[strOfNums_data,strOfNums_data]at h';exact zKD hL hM (bytes_inj (zH6 L) (zH6 M) h')
theorem zNO(L):(keyB L).size=L.length*3:=by
 unfold keyB;rw[strOfNums_size,zFM]
def zCV(ks:List (List Itm)):List ByteArray:=ks.map keyB
theorem zNQ{ks}{k}(hs:∀x∈ks,Fit3 x)(hk:Fit3 k):isIn (zCV ks) (keyB k)=true↔k∈ks:=by
 rw[zCU];unfold zCV;rw[List.mem_map];constructor
 ·rintro⟨x,hx,e⟩;rw[←zKC (hs x hx) hk e];exact hx
 ·exact fun h=>⟨k,h,rfl⟩
theorem zS9{ks}{k}(hs:∀x∈ks,Fit3 x)(hk:Fit3 k)(hn:ks.Nodup)(h:k∈ks):num (zCV ks) (keyB k)=ks.idxOf k:=by
 obtain⟨hl,e⟩:=zRs ((zNQ hs hk).2 h);generalize num (zCV ks) (keyB k)=n at hl e⊢;have hl':n<ks.length:=by simpa[zCV]using hl
 have e':keyB ks[n]=keyB k:=by simpa[zCV]using e
 have:=zKC (hs _ (List.getElem_mem hl')) hk e';rw[←this,hn.idxOf_getElem]
theorem zDw{G}(hv:checkN G=0){x}(h:zAI G x=true):(0<=x.1/\x.1<65536)/\0<=x.2/\x.2<256:=by
 obtain⟨h1,h2,h3,h4⟩:=zDZ hv h;exact⟨⟨h1,by omega⟩,h3,by omega⟩
def zOf(G:Gram)(s:Int)(x:Itm):Option Itm:=if behB G x=true/\behV G x=s then some (x.1,x.2+1)else none
def zBH(G:Gram)(c:List Itm)(s:Int):List Itm:=c.filterMap (zOf G s)
theorem zRJ{G}{c}(h:Srt c)(s):Is (zBH G c s) (zMH G c s):=by
 refine⟨?_,fun x=>?_⟩
 ·unfold Srt zBH;rw[List.pairwise_filterMap];refine h.imp fun {a b} hab x hx y hy=>?_
  unfold zOf at hx hy;split at hx
  ·split at hy
   ·injection hx with hx
    injection hy with hy
    subst hx;subst hy;unfold ltP at hab⊢;dsimp only;omega
   ·cases hy
  ·cases hx
 ·unfold zBH;rw[List.mem_filterMap];constructor
  ·rintro⟨y,hy,e⟩;unfold zOf at e;split at e
   ·rename_i q;injection e with e
    exact⟨y,hy,q.1,q.2,e.symm⟩
   ·cases e
  ·rintro⟨y,hy,h1,h2,e⟩;refine⟨y,hy,?_⟩;unfold zOf;rw[if_pos ⟨h1,h2⟩,e]
theorem zKl{G}{c}(h:Srt c)(s):zBH G c s=stL G c s:=(zRJ h s).uniq (zFK G c s)
theorem zGg(G)(c)(x)(s):zBH G (c++[x]) s=zBH G c s++(if behB G x=true/\behV G x=s then[(x.1,x.2+1)]else[]):=by
 unfold zBH;rw[List.filterMap_append]
 congr 1
 unfold zOf
 by_cases h:behB G x=true/\behV G x=s
 ·simp[h]
 ·simp[h]
theorem zOh(G)(c)(s):(zBH G c s).length<=c.length:=List.length_filterMap_le _ _
theorem zOc{G}(hv:checkN G=0)(c):stL G c 0=[]:=by
 cases e:stL G c 0 with
 |nil=>rfl
 |cons x l=>
  have hx:x∈stL G c 0:=by rw[e];exact List.mem_cons_self ..
  obtain⟨y,_,h1,h2,_⟩:=((zFK G c 0).2 x).1 hx
  exfalso
  obtain⟨h3,h4⟩:=zAu.1 h1;obtain⟨h5,h6⟩:=zAS.1 h3;obtain⟨y1,y2⟩:=y;dsimp only at*;obtain⟨d,rfl⟩:=Int.eq_ofNat_of_zero_le h6.1
  have hr:zAY G y1=true:=by
   unfold zAY;exact decide_eq_true h5
  have hd:d<(zAF G y1).2.length:=by
   unfold rlen at h4;omega
  have:=(zB6 hr hd).2;have:=zBX hv hr hd;omega
def hits(tr:List (Int×Int))(s:Int):Option Int:=(tr.find? fun x=>decide (x.1=s)).map (·.2)
theorem zM5{tr}{s t}(h:∀x∈tr,x.1≠s)(z):hits (tr++[(s,t)]) z=if z=s then some t else hits tr z:=by
 unfold hits;rw[List.find?_append]
 by_cases e:z=s
 ·subst e;rw[if_pos rfl,List.find?_eq_none.2 fun x hx=>by simpa using h x hx];simp
 ·rw[if_neg e];cases tr.find? fun x=>decide (x.1=z)with
  |none=>simp[Ne.symm e]
  |some x=>simp
theorem zGO{G}{ks}{c}{n i}:hits (zBI G ks c n) ((i+1:Nat):Int)=if i<n/\stL G c ((i+1:Nat):Int)≠[]then some (ks.idxOf (stL G c ((i+1:Nat):Int)):Int)else none:=by
 unfold hits;cases hf:(zBI G ks c n).find? fun x=>decide (x.1=((i+1:Nat):Int))with
 |none=>
  rw[if_neg]
  ·rfl
  ·rintro⟨h1,h2⟩;have hm:((((i+1:Nat):Int),(ks.idxOf (stL G c ((i+1:Nat):Int)):Int)):Int×Int)∈zBI G ks c n:=zA8.2 ⟨i,h1,rfl,h2,rfl⟩;have:=List.find?_eq_none.1 hf _ hm;simp at this
 |some x=>
  obtain⟨s,t⟩:=x;have hx:=List.mem_of_find?_eq_some hf;have hd:s=((i+1:Nat):Int):=of_decide_eq_true (List.find?_some (p:=fun x:Int×Int=>decide (x.1=((i+1:Nat):Int))) hf);obtain⟨j,hj,h1,h2,h3⟩:=zA8.1 hx;obtain rfl:j=i:=by omega
  subst hd;rw[if_pos ⟨hj,h2⟩];simp[h3]
theorem zM6{G}{ks}{c}{n}:hits (zBI G ks c n) 0=none:=by
 unfold hits;cases hf:(zBI G ks c n).find? fun x=>decide (x.1=0)with
 |none=>rfl
 |some x=>
  obtain⟨s,t⟩:=x;have hx:=List.mem_of_find?_eq_some hf;have hd:s=0:=of_decide_eq_true (List.find?_some (p:=fun x:Int×Int=>decide (x.1=0)) hf);obtain⟨j,hj,h1,_,_⟩:=zA8.1 hx;omega
def tgt(ts:List (List (Int×Int)))(x:Itm):Option Int:=if 0<=x.1 then hits (ts.getD x.1.toNat []) x.2 else none
theorem zTt(x):tgt [] x=none:=by
 unfold tgt;split<;>simp[hits]
theorem zRQ(ts)(x):tgt (ts++[[]]) x=tgt ts x:=by
 unfold tgt;split
 ·rw[List.getD_eq_getElem?_getD,List.getD_eq_getElem?_getD]
  congr 1
  rcases Nat.lt_trichotomy x.1.toNat ts.length with h|h|h
  ·rw[List.getElem?_append_left h]
  ·rw[List.getElem?_append_right (by omega),h,List.getElem?_eq_none (Nat.le_refl _)];simp
  ·rw[List.getElem?_eq_none (by simp;omega),List.getElem?_eq_none (by omega)]
 ·rfl
theorem zTu{ts}{tr}{s t}(h:∀x∈tr,x.1≠s)(x):tgt (ts++[tr++[(s,t)]]) x=if x=((ts.length:Int),s)then some t else tgt (ts++[tr]) x:=by
 obtain⟨a,b⟩:=x;unfold tgt;dsimp only
 by_cases h0:0<=a
 ·obtain⟨n,rfl⟩:=Int.eq_ofNat_of_zero_le h0;rw[if_pos h0,if_pos h0,List.getD_eq_getElem?_getD,List.getD_eq_getElem?_getD,Int.toNat_natCast];rcases Nat.lt_trichotomy n ts.length with q|q|q
  ·rw[List.getElem?_append_left q,List.getElem?_append_left q,if_neg];intro e;injection e with e1 e2
   omega
  ·subst q;rw[List.getElem?_append_right (Nat.le_refl _),List.getElem?_append_right (Nat.le_refl _)];simp only[Nat.sub_self,List.getElem?_cons_zero,Option.getD_some];rw[zM5 h];simp
  ·rw[List.getElem?_eq_none (by simp;omega),List.getElem?_eq_none (by simp;omega),if_neg];intro e;injection e with e1 e2
   omega
 ·rw[if_neg h0,if_neg h0,if_neg];intro e;injection e with e1 e2
  omega
def zCZ(ts:List (List (Int×Int)))(i:Int)(n:Nat):List (Int×Int):=(List.range n).filterMap fun(s:Nat)=>(tgt ts (i,(s:Int))).map fun t=>((s:Int),t)
theorem zKR(ts:List (List (Int×Int)))(i:Int)(n:Nat):zCZ ts i (n+1)=zCZ ts i n++(match tgt ts (i,(n:Int))with|some t=>[((n:Int),t)]|none=>[]):=by
 unfold zCZ;rw[List.range_succ,List.filterMap_append]
 congr 1
 cases h:tgt ts (i,(n:Int))with
 |none=>simp[h]
 |some t=>simp[h]
theorem zKQ{ts}{i}{n:Nat}{t}(h:tgt ts (i,(n:Int))=some t):zCZ ts i (n+1)=zCZ ts i n++[((n:Int),t)]:=by rw[zKR,h]
theorem zHF{ts}{i}{n:Nat}(h:tgt ts (i,(n:Int))=none):zCZ ts i (n+1)=zCZ ts i n:=by rw[zKR,h,List.append_nil]
theorem zN3(ts)(i)(n):(zCZ ts i n).length<=n:=by
 unfold zCZ;have:=List.length_filterMap_le (fun(s:Nat)=>(tgt ts (i,(s:Int))).map fun t=>((s:Int),t)) (List.range n)
 rwa [List.length_range]at this
theorem zN2{G}{q}(h:WholeOk G (top G) q){i}(hi:i<q.2.length):zCZ q.2 (i:Int) (top G+1)=q.2.getD i []:=by
 have ht:=h.trans i hi
 have key:∀s:Int,tgt q.2 ((i:Int),s)=hits (zBI G q.1 (clL G (zAK q.1 i)) (top G)) s:=fun s=>by
  unfold tgt;dsimp only;rw[if_pos (Int.natCast_nonneg i),Int.toNat_natCast,ht]
 rw[ht];generalize hc:clL G (zAK q.1 i)=c at key;generalize hm:top G=m at key
 have sub:∀n,n<=m->zCZ q.2 (i:Int) (n+1)=zBI G q.1 c n:=fun n=>by
  induction n with
  |zero=>
   intro _;rw[zHF (by rw[key];exact zM6)]
   rfl
  |succ n ih=>
   intro hn;rw[zBO,←ih (by omega)]
   by_cases he:stL G c ((n+1:Nat):Int)=[]
   ·rw[if_pos he,List.append_nil,zHF];rw[key,zGO,if_neg fun q=>q.2 he]
   ·rw[if_neg he,zKQ];rw[key,zGO,if_pos ⟨by omega,he⟩]
 exact sub m (Nat.le_refl _)
theorem zGX(G)(c)(ks):∀n,∀x∈(zDK G c n (ks,[])).2,1<=x.1/\x.1<=(n:Int)
 |0,x,hx=>by cases hx
 |n+1,x,hx=>by
  have ih:=zGX G c ks n;rw[zCK]at hx;unfold oneS at hx;split at hx
  ·have:=ih x hx;omega
  ·rcases List.mem_append.1 hx with q|q
   ·have:=ih x q;omega
   ·rw[List.mem_singleton]at q;subst q;dsimp only;omega
theorem zIH(G)(c)(ks):∀n,(zDK G c n (ks,[])).1.length<=ks.length+n
 |0=>Nat.le_refl _
 |n+1=>by
  have ih:=zIH G c ks n;rw[zCK];unfold oneS;split
  ·omega
  ·dsimp only;split
   ·omega
   ·rw[List.length_append,List.length_singleton];omega
end Au
namespace Gr
open Go.RowKit Go.Maps
def zB2(L M:List Int):Bool:=decide (L=M)
def eqI(x y:Int):Bool:=decide (x=y)
theorem zDq{α:Type}{L M:List α}(h:L.length≠M.length):¬L=M:=fun e=>h (by rw[e])
def Alike{α:Type}(L M:List α)(k:Nat):Prop:=∀j (h1:j<L.length) (h2:j<M.length),j<k->L[j]=M[j]
theorem zC1{α}(L M:List α):Alike L M 0:=fun _ _ _ h=>absurd h (by omega)
theorem zC0{α}{L M:List α}{k}(h:Alike L M k)(h1)(h2:k<M.length)(e:L[k]=M[k]):Alike L M (k+1):=fun j g1 g2 hj=>by
 by_cases he:j=k
 ·subst he;exact e
 ·exact h j g1 g2 (by omega)
theorem zDb{α}{L M:List α}{k}(h:Alike L M k)(hl:L.length=M.length)(hk:¬k<L.length):L=M:=List.ext_getElem hl fun i h1 h2=>h i h1 h2 (by omega)
theorem zCz{α:Type}{L M:List α}{k}(h1)(h2:k<M.length)(e:L[k]≠M[k]):¬L=M:=fun h=>e (by subst h;rfl)
theorem zCL{a}{xs}{w}{k n}{v}(h:Sep.Reads a xs w)(hl:n=xs.length)(hk:k<n)(hv:xs[k]?=some v):∃b o,a=some ⟨b,o,none⟩/\w.cell? ⟨b,o+k,none⟩=some v:=by
 obtain⟨b,o,e,hc⟩:=h k (by omega);refine⟨b,o,e,hc.trans ?_⟩;rw[List.getElem?_eq_getElem (by omega)]at hv;exact hv
theorem zMn(x y)(w):Calls Tryz.prog 213 #[.int .i64 x,.int .i64 y] w fun e w'=>e=.returned (.bool (eqI x y))/\w=w':=by
 go_enter Tryz.func213,Tryz.ntmps213;go_wp2;go_ret;refine⟨zAD ?_,rfl⟩;unfold eqI;rw[Bool.eq_iff_iff];simp
theorem zUV(L M)(a b)(c d)(w)(ha:Sep.Reads a (ivs L) w)(hb:Sep.Reads b (ivs M) w)(hl:L.length<=17592186044416)(hm:M.length<=17592186044416):
  Calls Tryz.prog 212 #[.slice a L.length c,.slice b M.length d,.func (.func 213) #[] #[]] w fun e w'=>e=.returned (.bool (zB2 L M))/\w=w':=by
 have HA:=zV7 ha;have HB:=zV7 hb;clear ha hb
 by_cases hlen:L.length=M.length
 ·have HL:=zV7 hlen;have hle:M.length<=L.length:=by omega
  have hle':L.length<=M.length:=by omega
  have hlb:((L.length:Int) != (M.length:Int))=false:=by simp[hlen]
  clear hlen;go_enter Tryz.func212,Tryz.ntmps212;go_wp2;go_loop [16] (fun i=>∃k:Nat,k<=L.length/\i=.int .i64 k/\Alike L M k) (fun i=>L.length-(intOf i).toNat)
  case atStart=>exact⟨0,Nat.zero_le _,rfl,zC1 _ _⟩
  case round=>
   obtain⟨k,hk,rfl,hA⟩:=hrel;have A:=zV7 hA;clear hA
   by_cases hlt:k<L.length
   ·have hlm:k<M.length:=by omega
    obtain⟨b1,o1,rfl,h1⟩:=zCL (v:=.int .i64 L[k]) HA.out (by simp[ivs]) hlt (by simp[ivs,iv,hlt]);obtain⟨b2,o2,rfl,h2⟩:=zCL (v:=.int .i64 M[k]) HB.out (by simp[ivs]) hlm (by simp[ivs,iv,hlm])
    by_cases he:L[k]=M[k]
    ·have A2:=zV7 (zC0 A.out hlt hlm he);have E:=zV7 (show eqI L[k] M[k]=true by simp[eqI,he]);clear he;generalize L[k]=x at h1 E;generalize M[k]=y at h2 E;go_wp2_with (go_at_call 213;refine(zMn _ _ _).mono ?_;rw[E.out];rintro e w1 ⟨rfl,rfl⟩);go_round
     case rel=>exact⟨k+1,by omega,by go_num,A2.out⟩
     case measure=>simp[intOf];omega
    ·have F:=zV7 (show zB2 L M=false by simpa[zB2]using zCz hlt hlm he);have E:=zV7 (show eqI L[k] M[k]=false by simp[eqI,he]);clear he;generalize L[k]=x at h1 E;generalize M[k]=y at h2 E;go_wp2_with (go_at_call 213;refine(zMn _ _ _).mono ?_;rw[E.out];rintro e w1 ⟨rfl,rfl⟩);go_ret;exact⟨zAD F.out,rfl⟩
   ·have F:=zV7 (show zB2 L M=true by simpa[zB2]using zDb A.out HL.out hlt);go_wp2;go_ret;exact⟨zAD F.out,rfl⟩
 ·have F:=zV7 (show zB2 L M=false by simpa[zB2]using zDq hlen);have hlb:((L.length:Int) != (M.length:Int))=true:=by simpa using fun h=>hlen (by omega)
  clear hlen;go_enter Tryz.func212,Tryz.ntmps212;go_wp2;go_ret;exact⟨zAD F.out,rfl⟩
theorem zSd(L M)(a b)(c d)(w)(ha:Sep.Reads a (ivs L) w)(hb:Sep.Reads b (ivs M) w)(hl:L.length<=17592186044416)(hm:M.length<=17592186044416):
  Calls Tryz.prog 177 #[.slice a L.length c,.slice b M.length d] w fun e w'=>e=.returned (.bool (zB2 L M))/\w=w':=by
 have H:=zV7 (zUV L M a b c d w ha hb hl hm);clear ha hb;go_enter Tryz.func177,Tryz.ntmps177;go_wp2_with (go_at_call 212;refine H.out.mono ?_;rintro e w1 ⟨rfl,rfl⟩);go_ret;exact⟨rfl,rfl⟩
theorem zDv(L M)(a b)(c d)(w)(ha:Sep.Reads a (ivs L) w)(hb:Sep.Reads b (ivs M) w)(hl:L.length<=17592186044416)(hm:M.length<=17592186044416):
  Calls Tryz.prog 35 #[.slice a L.length c,.slice b M.length d] w (Is (.bool (zB2 L M)) w):=by
 have HA:=zV7 ha;have HB:=zV7 hb;clear ha hb
 by_cases hlen:L.length=M.length
 ·have HL:=zV7 hlen;have hle:M.length<=L.length:=by omega
  have hle':L.length<=M.length:=by omega
  have hlb:((L.length:Int) != (M.length:Int))=false:=by simp[hlen]
  clear hlen;go_enter Tryz.func35,Tryz.ntmps35;go_wp2;go_loopw [5] (fun i wr=>∃k:Nat,k<=L.length/\i=.int .i64 k/\Alike L M k/\Below w.heap.size w wr) (fun i _=>L.length-(intOf i).toNat)
  case atStart=>exact⟨0,Nat.zero_le _,rfl,zC1 _ _,.refl _ _⟩
  case round=>
   obtain⟨k,hk,rfl,hA,hW⟩:=hrel;have A:=zV7 hA;have HW:=zV7 hW;clear hA
   by_cases hlt:k<L.length
   ·have hlm:k<M.length:=by omega
    obtain⟨b1,o1,rfl,h1⟩:=zCL (v:=.int .i64 L[k]) HA.out (by simp[ivs]) hlt (by simp[ivs,iv,hlt]);obtain⟨b2,o2,rfl,h2⟩:=zCL (v:=.int .i64 M[k]) HB.out (by simp[ivs]) hlm (by simp[ivs,iv,hlm]);have k1:=cell_later hW h1;have k2:=cell_later hW h2;clear h1 h2 hW
    by_cases he:L[k]=M[k]
    ·have A2:=zV7 (zC0 A.out hlt hlm he);rw[he]at k1;clear he;generalize M[k]=y at k1 k2;go_wp2;go_quiet (fail);go_wp2;go_roundw
     case rel=>exact⟨k+1,by omega,by go_num,A2.out,HW.out.trans ⟨rfl,rfl,rfl,Nat.le_refl _,fun _ _=>rfl⟩⟩
     case measure=>simp[intOf];omega
    ·have F:=zV7 (show zB2 L M=false by simpa[zB2]using zCz hlt hlm he);have E:=(show(L[k] != M[k])=true by simpa using he);clear he;generalize L[k]=x at k1 E;generalize M[k]=y at k2 E;go_wp2;go_quiet (fail);go_wp2;go_ret;exact⟨zAD F.out,HW.out.trans ⟨rfl,rfl,rfl,Nat.le_refl _,fun _ _=>rfl⟩⟩
   ·have F:=zV7 (show zB2 L M=true by simpa[zB2]using zDb A.out HL.out hlt);clear hW;go_wp2;go_ret;exact⟨zAD F.out,HW.out⟩
 ·have F:=zV7 (show zB2 L M=false by simpa[zB2]using zDq hlen);have hlb:((L.length:Int) != (M.length:Int))=true:=by simpa using fun h=>hlen (by omega)
  clear hlen;go_enter Tryz.func35,Tryz.ntmps35;go_wp2;go_ret;exact⟨zAD F.out,.refl _ _⟩
end Gr
namespace Rg
open Go.RowKit
open Go.Proofs.YtegeamggbglneaaGreatDoor.Sep
variable {P:Program}
theorem zDx{n m l f:Nat}{o}{tmps}{assign body}{w}{R}(h:RoundIn Fence.wide n P l f tmps assign body w R):RoundIn {Fence.wide with round:=o} m P l f tmps assign body w R:=
 ⟨h.1,fun c cs _=>h.2 c cs (room_wide _)⟩
theorem zBU{m f:Nat}{o}{args}{w}{R}(h:Calls P f args w R):CallsIn {Fence.wide with round:=o} m P f args w R:=
 callsIn_wide.2 h
theorem zJt{n m f:Nat}{o}{args}{w}{R}(h:CallsIn Fence.wide n P f args w R):CallsIn {Fence.wide with round:=o} m P f args w R:=zBU (callsIn_wide.1 h)
def Holds(B:Nat)(J:Nat->(Nat->Prop)->World->Prop):Prop:=
 ∀k S T A A',J k S A->Inn S A->Fr T A A'->(∀x,T x->B<=x/\¬S x)->J k S A'
def Or2(S X:Nat->Prop):Nat->Prop:=fun x=>S x\/X x
def Yields(P:Program)(g:Nat)(lb:Array Value)(encs:Nat->Array Value)(N:Nat)(O:Nat->Prop)(w0:World):Prop:=
 ∀(l:Nat) (J Jx:Nat->(Nat->Prop)->World->Prop) (S X:Nat->Prop) (W:World),
  Fr S w0 W->Off S O->Inn S W->Inn X W->Holds W.heap.size J->Holds W.heap.size Jx->
  (∀k S1 W1,k<N->J k S1 W1->Inn S1 W1->YieldAt Fence.wide 0 P l (encs k) W1 fun e W'=>∃S',Inn S' W'/\((e=.returned (.bool true)/\Ext S' S1 W1/\Fr S1 W1 W'/\J (k+1) S' W')\/(e=.returned (.bool false)/\Ext S' (Or2 S1 X) W1/\Fr (Or2 S1 X) W1 W'/\Jx (k+1) S' W')))->
  J 0 S W->
  CallsIn Fence.wide 0 P g (#[.func (.yield l) #[] #[]]++lb) W fun e W'=>(∃v,e=.returned v)/\∃S',Inn S' W'/\((Ext S' S W/\Fr S W W'/\J N S' W')\/(Ext S' (Or2 S X) W/\Fr (Or2 S X) W W'/\∃k,k<=N/\Jx k S' W'))
def zVe(X:Nat->Prop)(I:Nat->(Nat->Prop)->World->Prop)(Ix:Code->Nat->(Nat->Prop)->World->Prop)(k:Nat)(S1:Nat->Prop)(W W2:World):Exit->Act->World->Prop
 | .normal,_,W3=>∃S',Ext S' S1 W/\Fr (fun x=>S1 x\/W.heap.size<=x) W2 W3/\Inn S' W3/\I k S' W3
 | .ret,_,W3=>∃S',Ext S' (Or2 S1 X) W/\Fr (fun x=>Or2 S1 X x\/W.heap.size<=x) W2 W3/\Inn S' W3/\Ix .ret k S' W3
 | .exit id,_,W3=>∃S',Ext S' (Or2 S1 X) W/\Fr (fun x=>Or2 S1 X x\/W.heap.size<=x) W2 W3/\Inn S' W3/\Ix (.exit id) k S' W3
 | .goto t,_,W3=>∃S',Ext S' (Or2 S1 X) W/\Fr (fun x=>Or2 S1 X x\/W.heap.size<=x) W2 W3/\Inn S' W3/\Ix (.goto t) k S' W3
 | .panic _,_,_=>False
 | .outgrown,_,_=>False
theorem zDh(w)(l)(o):Fr (fun x=>x=l) w (w.putObj l o):=
 ⟨rfl,rfl,rfl,by simp,fun k _ hk=>World.putObj_heap_other hk⟩
section
variable {S1 S':Nat->Prop} {W W1 W2 W3:World} {l:Nat} {o:Obj}
theorem zJ3{S2:Nat->Prop}(h0:∀x,S1 x->S2 x)(h1:Fr S1 W W1)(h2:Fr (fun x=>S2 x\/W.heap.size<=x) (W1.putObj l o) W3)(o'):Fr (fun x=>S2 x\/x=l) W (W3.putObj l o'):=
 (((h1.mono (T:=fun x=>S2 x\/x=l) fun k e=> .inl (h0 k e)).trans (zDh W1 l o) fun k e=> .inl (.inr e)).trans h2 fun k e=>e.elim (fun e=> .inl (.inl e)) fun e=> .inr e).trans (zDh W3 l o') fun k e=> .inl (.inr e)
theorem zAW{T}(h:Fr T W1 W3){k}{o}(hk:W1.heap[k]?=some o)(hT:¬T k):W3.heap[k]?=some o:=
 (h.block k (Array.getElem?_eq_some_iff.1 hk).1 hT).trans hk
theorem zUZ(h:Ext S' S1 W):Ext (fun x=>S' x\/x=l) (fun x=>S1 x\/x=l) W:=fun k e=>e.elim (fun e=>(h k e).imp .inl id) fun e=> .inl (.inr e)
end
structure Rcd (S0:Nat->Prop) (w:World) (rec:LoopState->Option Code->Loop) (st:LoopState) (pe:Option Code) (S:Nat->Prop) (W:World):Prop where
 ext:Ext S S0 w
 fr:Fr S0 w W
 loop:W.heap[w.heap.size+1]?=some (.loop (rec st pe))
 rest:W.heap[w.heap.size]?=some (.deferred (some []))
 inn:Inn S W
 nl:¬S (w.heap.size+1)
 nd:¬S w.heap.size
theorem zFg{n N:Nat}{g:Operand}{ps:Array Tmp}{assign body:Code}{Q:Exit->Act->World->Prop}{a:Act}{w:World}{gf:Nat}{lb:Array Value}
  (hg:a.eval g=.func (.func gf) #[] lb) (eg:∀args w,(callFunc gf args).run P w=.ok (.enter gf args) w) {encs:Nat->Array Value} {O:Nat->Prop}
  (hseq:Yields P gf lb encs N O w) (hps:∀k,(encs k).size=ps.size)
  (I:Nat->(Nat->Prop)->World->Prop) (Ix:Code->Nat->(Nat->Prop)->World->Prop) (hI:Holds w.heap.size I) (hIx:∀c,Holds w.heap.size (Ix c)) (S X:Nat->Prop) (hO:Off S O) (hOi:Inn O w) (hS:Inn S w) (hX:Inn X w) (h0:I 0 S w)
  (hround:∀(l k:Nat) (S1:Nat->Prop) (W:World),k<N->w.heap.size<=l->l<W.heap.size->¬S1 l->I k S1 W->Inn S1 W->Ext S1 S w->Fr S w W->
   assign.wpIn (Fence.wide.inRound l) 9 P (Exit.then (fun a1 W1=>Fr S1 W W1/\∀W2,Fr (fun x=>x=l) W1 W2->W2.heap.size=W1.heap.size->body.wpIn (Fence.wide.inRound l) 9 P (zVe X I Ix (k+1) S1 W W2) a1 W2) (fun _ _ _=>False))
    {tmps:=(ps.zip (encs k)).foldl (fun t (p,v)=>t.setIfInBounds p v) a.tmps,defers:=[]} W)
  (hdone:∀(S':Nat->Prop) (W:World),I N S' W->Inn S' W->Ext S' S w->Fr S w W->W.heap[w.heap.size]?=some (.deferred (some []))->¬S' w.heap.size->Q .normal {a with defers:={target:=.collected w.heap.size,args:=#[]}::a.defers} W)
  (hstop:∀(c:Code) (k:Nat) (S':Nat->Prop) (W:World),k<=N->Ix c k S' W->Inn S' W->Ext S' (Or2 S X) w->Fr (Or2 S X) w W->W.heap[w.heap.size]?=some (.deferred (some []))->¬S' w.heap.size->c.wpIn Fence.wide n P Q {a with defers:={target:=.collected w.heap.size,args:=#[]}::a.defers} W):
  (Code.rangeFunc g ps assign body).wpIn Fence.wide n P Q a w:=by
 refine wpIn_rangeFunc ?_;intro fn _;obtain⟨rec,hrec⟩:∃rec:LoopState->Option Code->Loop,rec=fun st pe=>{state:=st,pending:=pe,fn,tmps:=a.tmps,params:=ps,assign,body,defers:=w.heap.size}:=⟨_,rfl⟩
 obtain⟨We,hWe⟩:∃We,(w.alloc (.deferred (some []))).alloc (.loop (rec .ready none))=We:=⟨_,rfl⟩;have hsz:We.heap.size=w.heap.size+2:=by rw[←hWe];simp
 have hF0:∀T,Fr T w We:=fun T=>by rw[←hWe];exact((Fr.refl T w).alloc _).alloc _
 have hR0:Rcd S w rec .ready none S We:=by
  refine⟨.refl _ _,hF0 _,?_,?_,hS.le (by omega),fun h=>by have:=hS _ h;omega,fun h=>by have:=hS _ h;omega⟩
  ·rw[←hWe];have:=World.alloc_heap_new (w.alloc (.deferred (some []))) (.loop (rec .ready none))
   rwa [World.size_alloc]at this
  ·rw[←hWe];exact(Below.heap_alloc _ _ _ (by simp)).trans (World.alloc_heap_new w _)
 have hI0:I 0 S We:=hI 0 S (fun _=>False) w We h0 hS (hF0 _) fun x h=>h.elim
 refine⟨w.heap.size+1,[{target:=.collected w.heap.size,args:=#[]}],We,{target:=.fn (.func gf) lb,args:=#[.func (.yield (w.heap.size+1)) #[] #[]]},We,gf,
  #[.func (.yield (w.heap.size+1)) #[] #[]]++lb,We,?_,?_,?_,?_,fun h=>by simp[Fence.wide]at h,?_⟩
 ·rw[←hWe,hrec];exact run_enterLoop_outer _ _ _ _ _
 ·simp only[resolve,hg];simp[go_sem]
 ·intro f' _;trivial
 ·simp[invoke,go_sem,eg]
 have hold:∀(Y:Nat->(Nat->Prop)->World->Prop) (S0:Nat->Prop) (st:LoopState) (pe:Option Code),Holds w.heap.size Y->Holds We.heap.size fun k S' W=>∃S1,S'=(fun x=>S1 x\/x=w.heap.size+1)/\Y k S1 W/\Rcd S0 w rec st pe S1 W:=by
  rintro Y S0 st pe hY k S' T A A' ⟨S1,rfl,hx,r⟩ hi hf hT;refine⟨S1,rfl,hY k S1 T A A' hx r.inn hf fun x hx=>⟨by have:=(hT x hx).1;omega,fun h=>(hT x hx).2 (.inl h)⟩,r.ext,r.fr.trans hf (fun x hx=> .inr (by have:=(hT x hx).1;omega)),zAW hf r.loop fun h=>(hT _ h).2 (.inr rfl),zAW hf r.rest fun h=>by have:=(hT _ h).1;omega,r.inn.le hf.size,r.nl,r.nd⟩
 refine(show CallsIn Fence.wide (n-1) P gf _ We _ from zBU (callsIn_wide.1 (hseq (w.heap.size+1)
  (fun k S' W=>∃S1,S'=(fun x=>S1 x\/x=w.heap.size+1)/\I k S1 W/\Rcd S w rec .ready none S1 W)
  (fun k S' W=>∃c S1,S'=(fun x=>S1 x\/x=w.heap.size+1)/\Ix c k S1 W/\Rcd (Or2 S X) w rec .done (some c) S1 W)
  (fun x=>S x\/x=w.heap.size+1) X We ?_ ?_ ?_ (hX.le (by omega)) (hold I S _ _ hI) ?_ ?_ ⟨S,rfl,hI0,hR0⟩))).mono ?_
 ·exact(hF0 _)
 ·rintro k (h|rfl) ho
  ·exact hO k h ho
  ·have:=hOi _ ho;omega
 ·rintro k (h|rfl)
  ·exact hR0.inn k h
  ·omega
 ·rintro k S' T A A' ⟨c,h⟩ hi hf hT;exact⟨c,hold (Ix c) _ _ _ (hIx c) k S' T A A' h hi hf hT⟩
 ·rintro k S' W hk ⟨S1,rfl,hi,r⟩ hin;have hlt:w.heap.size+1<W.heap.size:=(Array.getElem?_eq_some_iff.1 r.loop).1;have hxl:∀x,X x->x<w.heap.size:=hX;have hy:=run_yield (P:=P) (args:=encs k) r.loop (by rw[hrec];exact hps k);rw[hrec]at hy;refine⟨fn,_,assign,body,hy,zDx (o:=none) (roundIn_of_wpIn (F:=Fence.wide) (n:=9) trivial (wpIn_mono (hround (w.heap.size+1) k S1 W hk (by omega) hlt r.nl hi r.inn r.ext r.fr) ?_))⟩;clear hy;rintro e a1 W1 hp;cases e with
  |normal=>
   obtain⟨h1,h2⟩:=hp;have hl1:=zAW h1 r.loop r.nl;refine⟨_,run_beginRound hl1 (by rw[hrec]),?_⟩;have hb:=h2 _ (zDh W1 (w.heap.size+1) (.loop {rec .ready none with state:=.busy})) (by simp);have hl2:(W1.putObj (w.heap.size+1) (.loop {rec .ready none with state:=.busy})).heap[w.heap.size+1]?=some (.loop {rec .ready none with state:=.busy}):=World.putObj_heap_same (Array.getElem?_eq_some_iff.1 hl1).1;refine wpIn_mono hb ?_
   have fin:∀(Y:Nat->(Nat->Prop)->World->Prop) (Sb:Nat->Prop) (jump:Option Code) (W3:World),Holds w.heap.size Y->(∀x,S1 x->Sb x)->(∀x,Sb x->S1 x\/X x)->(∃S',Ext S' Sb W/\Fr (fun x=>Sb x\/W.heap.size<=x) (W1.putObj (w.heap.size+1) (.loop {rec .ready none with state:=.busy})) W3/\Inn S' W3/\Y (k+1) S' W3)->
     ∃W',(Instr.endRound (w.heap.size+1) jump).run P W3=.ok (.bool jump.isNone) W'/\∃S',Ext (fun x=>S' x\/x=w.heap.size+1) (fun x=>Sb x\/x=w.heap.size+1) W/\Fr (fun x=>Sb x\/x=w.heap.size+1) W W'/\Inn (fun x=>S' x\/x=w.heap.size+1) W'/\Y (k+1) S' W'/\
      (∀S0,(∀x,Sb x->S0 x\/w.heap.size<=x)->(∀x,S x->S0 x)->Rcd S0 w rec (if jump.isNone then .ready else .done) jump S' W'):=by
    rintro Y Sb jump W3 hY hb1 hb2 ⟨S',he,hf,hin',hx⟩;have hsl:¬Sb (w.heap.size+1):=fun h=>(hb2 _ h).elim r.nl fun h=>by have:=hxl _ h;omega
    have hsd:¬Sb w.heap.size:=fun h=>(hb2 _ h).elim r.nd fun h=>by have:=hxl _ h;omega
    have hnl:¬S' (w.heap.size+1):=fun h=>(he _ h).elim hsl fun h=>by omega
    have hnd:¬S' w.heap.size:=fun h=>(he _ h).elim hsd fun h=>by omega
    have hl3:=zAW hf hl2 fun h=>h.elim hsl fun h=>by omega
    have hk3:W3.heap[w.heap.size]?=some (.deferred (some [])):=zAW hf ((World.putObj_heap_other (by omega)).trans (zAW h1 r.rest r.nd)) fun h=>h.elim hsd fun h=>by omega
    have hlt3:=(Array.getElem?_eq_some_iff.1 hl3).1;refine⟨_,run_endRound (P:=P) jump hl3,S',zUZ he,zJ3 hb1 h1 hf _,?_,hY _ _ _ _ _ hx hin' (zDh W3 _ _) (by rintro x rfl;exact⟨by omega,hnl⟩),fun S0 hs0 hs1=>⟨?_,?_,?_,?_,hin'.le (by simp),hnl,hnd⟩⟩
    ·rintro x (h|rfl)
     ·simp only[World.putObj_size];exact hin' x h
     ·simp only[World.putObj_size];exact hlt3
    ·intro x hx2;rcases he x hx2 with h|h
     ·exact hs0 x h
     ·exact .inr (Nat.le_trans r.fr.size h)
    ·refine(r.fr.mono hs1).trans (zJ3 hb1 h1 hf _) (fun x hx=>hx.elim (fun h=>hs0 x h) fun h=> .inr (by omega))
    ·rw[World.putObj_heap_same hlt3,hrec]
    ·exact(World.putObj_heap_other (by omega)).trans hk3
   have hx1:∀x,S1 x->S x\/w.heap.size<=x:=r.ext;have hx2:∀x,Or2 S1 X x->Or2 S X x\/w.heap.size<=x:=fun x h=>h.elim (fun h=>(r.ext x h).imp .inl id) fun h=> .inl (.inr h)
   have ho1:∀(T:Nat->Prop) (W':World),Ext T (fun x=>Or2 S1 X x\/x=w.heap.size+1) W'->Ext T (Or2 (fun x=>S1 x\/x=w.heap.size+1) X) W':=fun T W' h x hx=>(h x hx).imp (fun h=>h.elim (fun h=>h.elim (fun h=> .inl (.inl h)) .inr) fun h=> .inl (.inr h)) id
   have ho2:∀(A B:World),Fr (fun x=>Or2 S1 X x\/x=w.heap.size+1) A B->Fr (Or2 (fun x=>S1 x\/x=w.heap.size+1) X) A B:=fun A B h=>h.mono fun x h=>h.elim (fun h=>h.elim (fun h=> .inl (.inl h)) .inr) fun h=> .inl (.inr h)
   rintro e a3 W3 hp;cases e with
   |normal=>
    obtain⟨W',hr,S',g1,g2,g3,g4,g5⟩:=fin I S1 none W3 hI (fun _ h=>h) (fun _ h=> .inl h) hp;exact⟨_,_,hr,_,g3,.inl ⟨rfl,g1,g2,S',rfl,g4,g5 S hx1 fun _ h=>h⟩⟩
   |ret=>
    obtain⟨W',hr,S',g1,g2,g3,g4,g5⟩:=fin (Ix .ret) (Or2 S1 X) (some .ret) W3 (hIx _) (fun _ h=> .inl h) (fun _ h=>h) hp;exact⟨_,_,hr,_,g3,.inr ⟨rfl,ho1 _ _ g1,ho2 _ _ g2,.ret,S',rfl,g4,g5 _ hx2 fun _ h=> .inl h⟩⟩
   |exit id=>
    obtain⟨W',hr,S',g1,g2,g3,g4,g5⟩:=fin (Ix (.exit id)) (Or2 S1 X) (some (.exit id)) W3 (hIx _) (fun _ h=> .inl h) (fun _ h=>h) hp;exact⟨_,_,hr,_,g3,.inr ⟨rfl,ho1 _ _ g1,ho2 _ _ g2,.exit id,S',rfl,g4,g5 _ hx2 fun _ h=> .inl h⟩⟩
   |goto t=>
    obtain⟨W',hr,S',g1,g2,g3,g4,g5⟩:=fin (Ix (.goto t)) (Or2 S1 X) (some (.goto t)) W3 (hIx _) (fun _ h=> .inl h) (fun _ h=>h) hp;exact⟨_,_,hr,_,g3,.inr ⟨rfl,ho1 _ _ g1,ho2 _ _ g2,.goto t,S',rfl,g4,g5 _ hx2 fun _ h=> .inl h⟩⟩
   |panic ch=>exact hp.elim
   |outgrown=>exact hp.elim
  |_=>exact hp.elim
 ·rintro e W2 ⟨⟨v,rfl⟩,S',hin,h⟩;rcases h with⟨he,hf,S1,rfl,hi,r⟩|⟨he,hf,k,hk,c,S1,rfl,hi,r⟩
  ·have hr:=run_endLoop (P:=P) r.loop (by rw[hrec];simp);refine⟨none,_,by rw[hrec]at hr;exact hr,hdone S1 _ (hI _ _ _ _ _ hi r.inn (zDh W2 _ _) (by rintro x rfl;exact⟨by omega,r.nl⟩)) (r.inn.le (by simp)) r.ext (r.fr.trans (zDh W2 _ _) fun k e=> .inr (by omega)) ((World.putObj_heap_other (by omega)).trans r.rest) r.nd⟩
  ·have hr:=run_endLoop (P:=P) r.loop (by rw[hrec];simp);refine⟨some c,_,by rw[hrec]at hr;exact hr,hstop c k S1 _ hk (hIx c _ _ _ _ _ hi r.inn (zDh W2 _ _) (by rintro x rfl;exact⟨by omega,r.nl⟩)) (r.inn.le (by simp)) r.ext (r.fr.trans (zDh W2 _ _) fun k e=> .inr (by omega)) ((World.putObj_heap_other (by omega)).trans r.rest) r.nd⟩
structure St (J:Nat->(Nat->Prop)->World->Prop) (S O:Nat->Prop) (We:World) (k:Nat) (S1:Nat->Prop) (W:World):Prop where
 j:J k S1 W
 inn:Inn S1 W
 ext:Ext S1 S We
 fr:Fr S We W
 off:Off S1 O
section
variable {J Jx:Nat->(Nat->Prop)->World->Prop} {S O S1 T:Nat->Prop} {We W W' w0:World} {k:Nat}
theorem St.start(h0:J 0 S We)(hin:Inn S We)(hO:Off S O):St J S O We 0 S We:=⟨h0,hin,.refl _ _,.refl _ _,hO⟩
theorem St.own(h:St J S O We k S1 W)(hJ:Holds We.heap.size J)(hf:Fr T W W')(hT:∀x,T x->We.heap.size<=x/\¬S1 x):St J S O We k S1 W':=
 ⟨hJ _ _ _ _ _ h.j h.inn hf hT,h.inn.le hf.size,h.ext,h.fr.trans hf fun x hx=> .inr (hT x hx).1,h.off⟩
theorem St.went(h:St J S O We k S1 W)(hJ:Holds We.heap.size J)(hb:Below W.heap.size W W'):St J S O We k S1 W':=
 h.own hJ (T:=fun _=>False) (.of_below hb) fun _ hx=>hx.elim
theorem St.alloc(h:St J S O We k S1 W)(hJ:Holds We.heap.size J)(o):St J S O We k S1 (W.alloc o):=
 h.own hJ (T:=fun _=>False) ((Fr.refl _ W).alloc o) fun _ hx=>hx.elim
def Said(X:Nat->Prop)(J Jx:Nat->(Nat->Prop)->World->Prop)(k:Nat)(S1:Nat->Prop)(W1:World)(e:Ending)(W':World):Prop:=
 ∃S',Inn S' W'/\((e=.returned (.bool true)/\Ext S' S1 W1/\Fr S1 W1 W'/\J (k+1) S' W')\/(e=.returned (.bool false)/\Ext S' (Or2 S1 X) W1/\Fr (Or2 S1 X) W1 W'/\Jx (k+1) S' W'))
structure Fin (Jx:Nat->(Nat->Prop)->World->Prop) (S X:Nat->Prop) (We:World) (k:Nat) (S1:Nat->Prop) (W:World):Prop where
 j:Jx k S1 W
 inn:Inn S1 W
 ext:Ext S1 (Or2 S X) We
 fr:Fr (Or2 S X) We W
theorem Fin.own{X}(h:Fin J S X We k S1 W)(hJ:Holds We.heap.size J)(hf:Fr T W W')(hT:∀x,T x->We.heap.size<=x/\¬S1 x):Fin J S X We k S1 W':=
 ⟨hJ _ _ _ _ _ h.j h.inn hf hT,h.inn.le hf.size,h.ext,h.fr.trans hf fun x hx=> .inr (hT x hx).1⟩
theorem St.stop{X}(h:St J S O We k S1 W){S'}(he:Ext S' (Or2 S1 X) W)(hf:Fr (Or2 S1 X) W W')(hi:Inn S' W'){J'}{k'}(hj:J' k' S' W'):Fin J' S X We k' S' W':=
 ⟨hj,hi,fun x hx=>(he x hx).elim (fun h2=>h2.elim (fun h3=>(h.ext x h3).imp .inl id) fun h3=> .inl (.inr h3)) fun h2=> .inr (Nat.le_trans h.fr.size h2),
  (h.fr.mono (T:=Or2 S X) fun x e=> .inl e).trans hf fun x hx=>hx.elim (fun h3=>(h.ext x h3).imp .inl id) fun h3=> .inl (.inr h3)⟩
theorem St.then(h:St J S O We k S1 W)(hO:Inn O We){S'}(he:Ext S' S1 W)(hf:Fr S1 W W')(hi:Inn S' W'){J'}{k'}(hj:J' k' S' W'):St J' S O We k' S' W':=
 ⟨hj,hi,h.ext.trans he h.fr.size,h.fr.trans hf h.ext,h.off.ext he (hO.le h.fr.size)⟩
theorem St.same(h:St J S O We k S1 W)(hO:Inn O We)(hS:Off S O){x}(hx:O x):W.heap[x]?=We.heap[x]?:=h.fr.block x (hO x hx) fun hs=>hS x hs hx
theorem St.below(h:St J S O We k S1 W)(hS:Off S O){n}{wD}(hb:Below n wD We)(hn:∀x,x<n->O x)(hs:n<=We.heap.size):Below n wD W:=
 ⟨h.fr.os.trans hb.os,h.fr.tape.trans hb.tape,h.fr.output.trans hb.output,Nat.le_trans hb.size h.fr.size,fun x hx=>(h.fr.block x (by omega) fun hs=>hS x hs (hn x hx)).trans (hb.block x hx)⟩
def Mine(We:World)(S1:Nat->Prop)(W:World)(b:Nat)(o:Obj):Prop:=We.heap.size<=b/\¬S1 b/\W.heap[b]?=some o
theorem Mine.lt{o}{b}(h:Mine We S1 W b o):b<W.heap.size:=(Array.getElem?_eq_some_iff.1 h.2.2).1
theorem Mine.own{o}{b}(h:Mine We S1 W b o)(hf:Fr T W W')(hb:¬T b):Mine We S1 W' b o:=⟨h.1,h.2.1,zAW hf h.2.2 hb⟩
theorem Mine.alloc{o}{b}(h:Mine We S1 W b o)(o'):Mine We S1 (W.alloc o') b o:=h.own (T:=fun _=>False) ((Fr.refl _ W).alloc o') id
theorem Mine.went{o}{b}(h:Mine We S1 W b o)(hb:Below W.heap.size W W'):Mine We S1 W' b o:=h.own (T:=fun _=>False) (.of_below hb) id
theorem Mine.then{o}{b}(h:Mine We S1 W b o){S'}(he:Ext S' S1 W)(hf:Fr S1 W W'):Mine We S' W' b o:=
 ⟨h.1,fun hs=>(he b hs).elim h.2.1 fun h2=>by have:=h.lt;omega,zAW hf h.2.2 h.2.1⟩
theorem Mine.ranged{o}{b bf}(h:Mine We S1 W b o){S'}(hne:b≠bf)(he:Ext (fun x=>S' x\/x=bf) (fun x=>S1 x\/x=bf) W)(hf:Fr (fun x=>S1 x\/x=bf) W W'):Mine We S' W' b o:=
 ⟨h.1,fun hs=>(he b (.inl hs)).elim (fun h2=>h2.elim h.2.1 hne) fun h2=>by have:=h.lt;omega,zAW hf h.2.2 fun h2=>h2.elim h.2.1 hne⟩
theorem St.new(h:St J S O We k S1 W){o}:Mine We S1 (W.alloc o) W.heap.size o:=
 ⟨h.fr.size,fun hs=>by have:=h.inn _ hs;omega,World.alloc_heap_new _ _⟩
def mark(D:Nat):Deferred:={target:=.collected D,args:=#[]}
def Marks(We:World)(S1:Nat->Prop)(W:World)(ds:List Deferred):Prop:=∃L:List Nat,ds=L.map mark/\L.Nodup/\∀D∈L,Mine We S1 W D (.deferred (some []))
theorem Marks.nil:Marks We S1 W []:=⟨[],rfl,List.nodup_nil,fun _ h=>by cases h⟩
theorem Marks.own{ds}(h:Marks We S1 W ds)(hf:Fr T W W')(hT:∀x,T x->W.heap.size<=x\/∃o,W.heap[x]?=some o/\o.isCells=true):Marks We S1 W' ds:=by
 obtain⟨L,h1,h2,h3⟩:=h;refine⟨L,h1,h2,fun D hD=>(h3 D hD).own hf fun ht=>?_⟩;rcases hT D ht with h4|⟨o,h4,h5⟩
 ·have:=(h3 D hD).lt;omega
 ·rw[(h3 D hD).2.2]at h4;cases h4;cases h5
theorem Marks.alloc{ds}(h:Marks We S1 W ds)(o):Marks We S1 (W.alloc o) ds:=h.own (T:=fun _=>False) ((Fr.refl _ W).alloc o) fun _ h=>h.elim
theorem Marks.ranged{ds}{bf D}(h:Marks We S1 W ds){S'}{o}(hbf:W.heap[bf]?=some o)(ho:o.isCells=true)(he:Ext (fun x=>S' x\/x=bf) (fun x=>S1 x\/x=bf) W)(hf:Fr (fun x=>S1 x\/x=bf) W W')
  (hD:W.heap.size<=D) (hD0:W'.heap[D]?=some (.deferred (some []))) (hDS:¬S' D) (hWe:We.heap.size<=D):Marks We S' W' (mark D::ds):=by
 obtain⟨L,h1,h2,h3⟩:=h;refine⟨D::L,by rw[h1];rfl,List.nodup_cons.2 ⟨fun hm=>by have:=(h3 D hm).lt;omega,h2⟩,fun x hx=>?_⟩;rcases List.mem_cons.1 hx with rfl|hx
 ·exact⟨hWe,hDS,hD0⟩
 ·refine(h3 x hx).ranged (fun e=>?_) he hf;subst e;rw[(h3 x hx).2.2]at hbf;cases hbf;cases ho
theorem Marks.rangedX{X}{ds}{bf D}(h:Marks We S1 W ds)(hX:∀x,X x->x<We.heap.size){S'}{o}(hbf:W.heap[bf]?=some o)(ho:o.isCells=true)(he:Ext (fun x=>S' x\/x=bf) (Or2 (fun x=>S1 x\/x=bf) X) W)(hf:Fr (Or2 (fun x=>S1 x\/x=bf) X) W W')
  (hD:W.heap.size<=D) (hD0:W'.heap[D]?=some (.deferred (some []))) (hDS:¬S' D) (hWe:We.heap.size<=D):Marks We S' W' (mark D::ds):=by
 obtain⟨L,h1,h2,h3⟩:=h;refine⟨D::L,by rw[h1];rfl,List.nodup_cons.2 ⟨fun hm=>by have:=(h3 D hm).lt;omega,h2⟩,fun x hx=>?_⟩;rcases List.mem_cons.1 hx with rfl|hx
 ·exact⟨hWe,hDS,hD0⟩
 ·have m:=h3 x hx
  have hne:¬Or2 (fun x=>S1 x\/x=bf) X x:=fun h=>h.elim (fun h=>h.elim m.2.1 fun e=>by
   subst e;rw[m.2.2]at hbf;cases hbf
   cases ho) fun h=>by have:=hX x h;have:=m.1;omega
  exact⟨m.1,fun hs=>(he x (.inl hs)).elim hne fun h=>by have:=m.lt;omega,zAW hf m.2.2 hne⟩
theorem zBQ{n}{F}{fn}{tmps}{R}:∀(L:List Nat) (w:World),L.Nodup->(∀D∈L,w.heap[D]?=some (.deferred (some [])))->
  (∀w',Fr (fun x=>x∈L) w w'->∃v,(results fn tmps).run P w'=.ok v w'/\R (.returned v) w')->LeavesInM F n P fn tmps R (L.map mark) .returning w
 |[],w,_,_,hR=>hR w (.refl _ _)
 |D::L,w,hn,hk,hR=>by
  obtain⟨h1,h2⟩:=List.nodup_cons.1 hn;refine⟨by simp,.inl ⟨D,_,rfl,run_takeDeferred (hk D (List.mem_cons_self ..)),zBQ L _ h2 (fun x hx=>?_) fun w' hf=>hR w' ?_⟩⟩
  ·exact(World.putObj_heap_other fun e=>h1 (by rw[←e];exact hx)).trans (hk x (List.mem_cons_of_mem _ hx))
  ·exact((zDh w D _).mono (T:=fun x=>x∈D::L) fun x e=>by subst e;exact List.mem_cons_self ..).trans hf fun x hx=> .inl (List.mem_cons_of_mem _ hx)
end
theorem zAR{w:World}{b k}{cs}{T}(h:w.heap[b]?=some (.cells cs T (0,0)))(v):(w.setCell ⟨b,k,none⟩ v).heap[b]?=some (.cells (cs.setIfInBounds k v) T (0,0)):=by
 rw[setCell_eq_setRow w b k cs T (0,0) v h];exact setRow_heap w b cs _ T (0,0) h
theorem zAj(w:World)(b k)(v):w.grownBy (w.setCell ⟨b,k,none⟩ v) (some b):=
 have h:=(Fr.refl (fun x=>x=b) w).setCell ⟨b,k,none⟩ rfl v
 ⟨h.os,h.tape,h.output,h.size,fun x hx hne=>h.block x hx fun e=>hne (by rw[e])⟩
end Rg
namespace Fi
open Gr (Gram nonB zEl zA9)
inductive Can (G:Gram):Int->Prop
 |mk (r:Int×List Int):r∈G.rules->(∀y∈r.2,Can G y)->Can G r.1
inductive Fst (G:Gram):Int->Int->Prop
 |leaf {x:Int}:x=0\/zEl G x=true->Fst G x x
 |rule {r:Int×List Int} {pre:List Int} {y:Int} {post:List Int} {t:Int}:r∈G.rules->r.2=pre++y::post->(∀z∈pre,Can G z)->Fst G y t->Fst G r.1 t
def zDG(G:Gram)(l:List Int)(t:Int):Prop:=∃pre y post,l=pre++y::post/\(∀z∈pre,Can G z)/\Fst G y t
inductive Fol (G:Gram):Int->Int->Prop
 |start:Fol G G.start 0
 |next {r:Int×List Int} {pre:List Int} {x:Int} {post:List Int} {t:Int}:r∈G.rules->r.2=pre++x::post->nonB G x=true->zDG G post t->Fol G x t
 |last {r:Int×List Int} {pre:List Int} {x:Int} {post:List Int} {t:Int}:r∈G.rules->r.2=pre++x::post->nonB G x=true->(∀z∈post,Can G z)->Fol G r.1 t->Fol G x t
theorem zFO{G}{t}:¬zDG G [] t:=fun⟨pre,y,post,h,_⟩=>by
 cases pre<;>cases h
theorem zC7{G}{y}{l}{t}:zDG G (y::l) t↔Fst G y t\/(Can G y/\zDG G l t):=by
 constructor
 ·rintro⟨pre,z,post,h,hc,hf⟩;cases pre with
  |nil=>
   injection h with h1 h2
   subst h1;exact .inl hf
  |cons a pre=>
   injection h with h1 h2
   subst h1;exact .inr ⟨hc _ (List.mem_cons_self ..),pre,z,post,h2,fun w hw=>hc w (List.mem_cons_of_mem _ hw),hf⟩
 ·rintro(h|⟨h1,pre,z,post,h2,h3,h4⟩)
  ·exact⟨[],y,l,rfl,(fun z hz=>by cases hz),h⟩
  ·refine⟨y::pre,z,post,by rw[h2];rfl,fun w hw=>?_,h4⟩;rcases List.mem_cons.1 hw with e|e
   ·subst e;exact h1
   ·exact h3 w e
theorem Fst.line{G}{r}{t}(hr:r∈G.rules)(h:zDG G r.2 t):Fst G r.1 t:=by
 obtain⟨pre,y,post,h1,h2,h3⟩:=h;exact .rule hr h1 h2 h3
theorem zMy{G}{x t}(h:Fst G x t):0<=t/\t<=(G.terms.length:Int):=by
 induction h with
 |leaf h=>
  rcases h with h|h
  ·omega
  ·have:=zA9.1 h;omega
 |rule _ _ _ _ ih=>exact ih
theorem zCI{G}{l}{t}(h:zDG G l t):0<=t/\t<=(G.terms.length:Int):=by
 obtain⟨_,_,_,_,_,h⟩:=h;exact zMy h
theorem zMu{G}{x t}(h:Fol G x t):0<=t/\t<=(G.terms.length:Int):=by
 induction h with
 |start=>omega
 |next _ _ _ h=>exact zCI h
 |last _ _ _ _ _ ih=>exact ih
def allC(C:Int->Bool)(l:List Int):Bool:=l.all C
def zAg(C:Int->Bool)(F:Int->Int->Bool):List Int->Int->Bool
 |[],_=>false
 |y::l,t=>F y t||(C y&&zAg C F l t)
theorem zCQ{C}{l}:allC C l=true↔∀z∈l,C z=true:=by
 unfold allC;exact List.all_eq_true
theorem zCG{C}{F}{l}{t}:zAg C F l t=true↔∃pre y post,l=pre++y::post/\(∀z∈pre,C z=true)/\F y t=true:=by
 induction l with
 |nil=>
  constructor
  ·intro h;cases h
  ·rintro⟨pre,y,post,h,_⟩;cases pre<;>cases h
 |cons a l ih=>
  unfold zAg;rw[Bool.or_eq_true,Bool.and_eq_true,ih];constructor
  ·rintro(h|⟨h1,pre,z,post,h2,h3,h4⟩)
   ·exact⟨[],a,l,rfl,(fun z hz=>by cases hz),h⟩
   ·refine⟨a::pre,z,post,by rw[h2];rfl,fun w hw=>?_,h4⟩;rcases List.mem_cons.1 hw with e|e
    ·subst e;exact h1
    ·exact h3 w e
  ·rintro⟨pre,z,post,h,hc,hf⟩;cases pre with
   |nil=>
    injection h with h1 h2
    subst h1;exact .inl hf
   |cons b pre=>
    injection h with h1 h2
    subst h1;exact .inr ⟨hc _ (List.mem_cons_self ..),pre,z,post,h2,fun w hw=>hc w (List.mem_cons_of_mem _ hw),hf⟩
structure Snd (G:Gram) (C:Int->Bool) (F:Int->Int->Bool):Prop where
 can:∀x,C x=true->Can G x
 fst:∀x t,F x t=true->Fst G x t
def Leaf(G:Gram)(F:Int->Int->Bool):Prop:=∀x,x=0\/zEl G x=true->F x x=true
structure Shut (C:Int->Bool) (F:Int->Int->Bool) (r:Int×List Int):Prop where
 can:allC C r.2=true->C r.1=true
 fst:∀t,zAg C F r.2 t=true->F r.1 t=true
theorem Snd.line{G}{C}{F}(h:Snd G C F){l}{t}(hl:zAg C F l t=true):zDG G l t:=by
 obtain⟨pre,y,post,h1,h2,h3⟩:=zCG.1 hl;exact⟨pre,y,post,h1,fun z hz=>h.can z (h2 z hz),h.fst y t h3⟩
structure Just (G:Gram) (C:Int->Bool) (F:Int->Int->Bool):Prop where
 can:∀x,C x=true↔Can G x
 fst:∀x t,F x t=true↔Fst G x t
theorem zNN{G}{C}{F}(h:Snd G C F)(hl:Leaf G F)(hs:∀r∈G.rules,Shut C F r):Just G C F:=by
 have hc:∀x,Can G x->C x=true:=fun x k=>by
  induction k with
  |mk r hr _ ih=>exact(hs r hr).can (zCQ.2 fun z hz=>ih z hz)
 refine⟨fun x=>⟨h.can x,hc x⟩,fun x t=>⟨h.fst x t,fun k=>?_⟩⟩
 induction k with
 |leaf k=>exact hl _ k
 |rule hr h1 h2 _ ih=>exact(hs _ hr).fst _ (zCG.2 ⟨_,_,_,h1,fun z hz=>hc z (h2 z hz),ih⟩)
theorem Just.all{G}{C}{F}(h:Just G C F)(l):allC C l=true↔∀z∈l,Can G z:=by
 rw[zCQ];exact⟨fun k z hz=>(h.can z).1 (k z hz),fun k z hz=>(h.can z).2 (k z hz)⟩
theorem Just.line{G}{C}{F}(h:Just G C F)(l)(t):zAg C F l t=true↔zDG G l t:=by
 rw[zCG];constructor
 ·rintro⟨pre,y,post,h1,h2,h3⟩;exact⟨pre,y,post,h1,fun z hz=>(h.can z).1 (h2 z hz),(h.fst y t).1 h3⟩
 ·rintro⟨pre,y,post,h1,h2,h3⟩;exact⟨pre,y,post,h1,fun z hz=>(h.can z).2 (h2 z hz),(h.fst y t).2 h3⟩
def addC(C:Int->Bool)(r:Int×List Int):Int->Bool:=fun x=>C x||(decide (x=r.1)&&allC C r.2)
def addF(C:Int->Bool)(F:Int->Int->Bool)(r:Int×List Int):Int->Int->Bool:=fun x t=>F x t||(decide (x=r.1)&&zAg C F r.2 t)
theorem Snd.addF{G}{C}{F}(h:Snd G C F){r}(hr:r∈G.rules):Snd G C (addF C F r):=by
 refine⟨h.can,fun x t k=>?_⟩;unfold Fi.addF at k;rw[Bool.or_eq_true,Bool.and_eq_true,decide_eq_true_iff]at k;rcases k with k|⟨e,k⟩
 ·exact h.fst x t k
 ·subst e;exact .line hr (h.line k)
theorem zHX{C}{r}(h:allC C r.2=true->C r.1=true):addC C r=C:=by
 funext x
 unfold addC
 by_cases e:x=r.1
 ·subst e;cases ha:allC C r.2 with
  |false=>simp
  |true=>simp[h ha]
 ·simp[e]
theorem zMN{C}{F}{r}(h:∀t,zAg C F r.2 t=true->F r.1 t=true):addF C F r=F:=by
 funext x t
 unfold addF
 by_cases e:x=r.1
 ·subst e;cases ha:zAg C F r.2 t with
  |false=>simp
  |true=>simp[h t ha]
 ·simp[e]
structure BSnd (G:Gram) (B:Int->Int->Bool):Prop where
 fol:∀x t,B x t=true->Fol G x t
def zT8(G:Gram)(C:Int->Bool)(F B:Int->Int->Bool)(r:Int×List Int):Prop:=
 ∀pre x post,r.2=pre++x::post->nonB G x=true->(∀t,zAg C F post t=true->B x t=true)/\(allC C post=true->∀t,B r.1 t=true->B x t=true)
theorem zMS{G}{C}{F B}(j:Just G C F)(h:BSnd G B)(h0:B G.start 0=true)(hs:∀r∈G.rules,zT8 G C F B r):∀x t,B x t=true↔Fol G x t:=fun x t=>by
 refine⟨h.fol x t,fun k=>?_⟩
 induction k with
 |start=>exact h0
 |next hr h1 h2 h3=>exact(hs _ hr _ _ _ h1 h2).1 _ ((j.line _ _).2 h3)
 |last hr h1 h2 h3 _ ih=>exact(hs _ hr _ _ _ h1 h2).2 ((j.all _).2 h3) _ ih
theorem BSnd.put{G}{B}(h:BSnd G B){x}{P:Int->Bool}(hP:∀t,P t=true->Fol G x t):BSnd G (fun y t=>B y t||(decide (y=x)&&P t)):=by
 refine⟨fun y t k=>?_⟩;rw[Bool.or_eq_true,Bool.and_eq_true,decide_eq_true_iff]at k;rcases k with k|⟨e,k⟩
 ·exact h.fol y t k
 ·subst e;exact hP t k
noncomputable def canB(G:Gram)(x:Int):Bool:=@decide (Can G x) (Classical.propDecidable _)
noncomputable def fstB(G:Gram)(x t:Int):Bool:=@decide (Fst G x t) (Classical.propDecidable _)
noncomputable def folB(G:Gram)(x t:Int):Bool:=@decide (Fol G x t) (Classical.propDecidable _)
theorem zBV{G}{x}:canB G x=true↔Can G x:=by unfold canB;exact @decide_eq_true_iff _ (Classical.propDecidable _)
theorem zDi{G}{x t}:fstB G x t=true↔Fst G x t:=by unfold fstB;exact @decide_eq_true_iff _ (Classical.propDecidable _)
theorem zPh{G}{x t}:folB G x t=true↔Fol G x t:=by unfold folB;exact @decide_eq_true_iff _ (Classical.propDecidable _)
theorem zRk(G):Just G (canB G) (fstB G):=⟨fun _=>zBV,fun _ _=>zDi⟩
theorem Just.eq{G}{C}{F}(h:Just G C F):C=canB G/\F=fstB G:=by
 constructor
 ·funext x
  rw[Bool.eq_iff_iff,h.can,zBV]
 ·funext x t
  rw[Bool.eq_iff_iff,h.fst,zDi]
def lst(P:Int->Bool)(n:Nat):List Int:=((List.range n).filter fun i:Nat=>P (i:Int)).map fun i:Nat=>(i:Int)
theorem zEG{P}{n}{t}:t∈lst P n↔0<=t/\t<(n:Int)/\P t=true:=by
 unfold lst;rw[List.mem_map];constructor
 ·rintro⟨i,hi,rfl⟩;rw[List.mem_filter,List.mem_range]at hi;exact⟨by omega,by omega,hi.2⟩
 ·rintro⟨h0,h1,h2⟩;have e:((t.toNat:Nat):Int)=t:=by omega
  exact⟨t.toNat,by rw[List.mem_filter,List.mem_range];exact⟨by omega,by rw[e];exact h2⟩,e⟩
theorem zNb(P)(n):(lst P n).length<=n:=by
 unfold lst;rw[List.length_map];exact Nat.le_trans (List.length_filter_le _ _) (by simp)
theorem zQH{P}{n}(h:∀i:Nat,i<n->P (i:Int)=false):lst P n=[]:=by
 rw[List.eq_nil_iff_forall_not_mem];intro t ht;obtain⟨h0,h1,h2⟩:=zEG.1 ht;have:=h t.toNat (by omega);have e:((t.toNat:Nat):Int)=t:=by omega
 rw[e,h2]at this;cases this
def zDH(P:Int->Bool):Nat->Nat
 |0=>0
 |n+1=>zDH P n+if P (n:Int)=true then 0 else 1
theorem zG9{P Q}{n}(h:∀i:Nat,i<n->P (i:Int)=true->Q (i:Int)=true):zDH Q n<=zDH P n:=by
 induction n with
 |zero=>exact Nat.le_refl _
 |succ n ih=>
  have h1:=ih fun i hi=>h i (by omega)
  unfold zDH
  by_cases hp:P (n:Int)=true
  ·rw[if_pos hp,if_pos (h n (by omega) hp)];exact h1
  ·rw[if_neg hp];split<;>omega
theorem zHA{P Q}{n k}(h:∀i:Nat,i<n->P (i:Int)=true->Q (i:Int)=true)(hk:k<n)(hp:P (k:Int)=false)(hq:Q (k:Int)=true):zDH Q n<zDH P n:=by
 induction n with
 |zero=>omega
 |succ n ih=>
  unfold zDH
  by_cases e:k=n
  ·subst e;have h1:=zG9 (n:=k) fun i hi=>h i (by omega)
   rw[if_pos hq,if_neg (by rw[hp];decide)];omega
  ·have h1:=ih (fun i hi=>h i (by omega)) (by omega)
   by_cases hp2:P (n:Int)=true
   ·rw[if_pos hp2,if_pos (h n (by omega) hp2)];exact h1
   ·rw[if_neg hp2];split<;>omega
def zDI(F:Int->Int->Bool)(m:Nat):Nat->Nat
 |0=>0
 |n+1=>zDI F m n+zDH (F (n:Int)) m
theorem zQP{F H}{m n}(h:∀x t:Nat,x<n->t<m->F (x:Int) (t:Int)=true->H (x:Int) (t:Int)=true):zDI H m n<=zDI F m n:=by
 induction n with
 |zero=>exact Nat.le_refl _
 |succ n ih=>exact Nat.add_le_add (ih fun x t hx=>h x t (by omega)) (zG9 fun t ht=>h n t (by omega) ht)
theorem zKL{F H}{m n k}(h:∀x t:Nat,x<n->t<m->F (x:Int) (t:Int)=true->H (x:Int) (t:Int)=true)(hk:k<n)(hr:zDH (H (k:Int)) m<zDH (F (k:Int)) m):zDI H m n<zDI F m n:=by
 induction n with
 |zero=>omega
 |succ n ih=>
  show zDI H m n+zDH (H (n:Int)) m<zDI F m n+zDH (F (n:Int)) m
  by_cases e:k=n
  ·subst e;have:=zQP (F:=F) (H:=H) (m:=m) (n:=k) fun x t hx=>h x t (by omega)
   omega
  ·have h1:=ih (fun x t hx=>h x t (by omega)) (by omega);have h2:=zG9 (P:=F (n:Int)) (Q:=H (n:Int)) (n:=m) fun t ht=>h n t (by omega) ht
   omega
end Fi
namespace Gr
open Go.RowKit Go.Maps Go.ChangeShapes Go.WideShapes Go.Deep Go.Joins
theorem zGE{H}{P}{e}{l}{d:DataW H}(h:d∈l):∀n∈d.weights P e,n∈DataW.weightsAll P e l:=by
 induction l with
 |nil=>cases h
 |cons a r ih=>
  intro n hn;simp only[DataW.weightsAll,List.mem_append];rcases List.mem_cons.1 h with rfl|h
  ·exact .inl hn
  ·exact .inr (ih h n hn)
def Within{H}(P:Program)(t:TypeId)(d:DataW H):Prop:=∀n∈d.weights P t,n<=140737488355328
theorem zO3{H}{P}{ts}{ds}(h:(DataW.weightsEach P ts ds).all (· <=reachBytes)=true){j:Nat}{t}{d:DataW H}(ht:ts[j]?=some t)(hd:ds[j]?=some d):Within P t d:=fun n hn=>by
 have:=List.all_eq_true.1 h n (DataW.weights_mem_each ht hd n hn);have h2:=reachBytes_lt;simp at this;omega
theorem zBh{H}{P}{t}{fs}{parts}(h:Within P t (.agg parts))(hs:P.underlying t=some (.struct fs)){j:Nat}{t'}{d:DataW H}(ht:(fs.toList.map (·.type))[j]?=some t')(hd:parts[j]?=some d):Within P t' d:=fun n hn=>by
 refine h n ?_;simp only[DataW.weights,hs];exact DataW.weights_mem_each ht hd n hn
theorem zCf{H}{P}{t e}{elems spare}(h:Within P t (.slice elems spare))(hs:P.underlying t=some (.slice e)){d:DataW H}(hd:d∈elems):Within P e d:=fun n hn=>by
 refine h n ?_;simp only[DataW.weights,hs,List.mem_cons,List.mem_append];exact .inr (.inl (zGE hd n hn))
theorem zBc{H}{P}{t e}{elems spare:List (DataW H)}(h:Within P t (.slice elems spare))(hs:P.underlying t=some (.slice e)):(elems.length+spare.length)*P.bytesOf e<=140737488355328:=by
 refine h _ ?_;simp[DataW.weights,hs]
theorem zDT{n}(h:(Lit.int .i64 n).wf=true):Fits n:=by
 simp only[Lit.wf,Bool.and_eq_true,decide_eq_true_eq]at h;exact⟨h.1,h.2⟩
theorem zHk:Tryz.prog.cellsOf 9=1:=by kernel_rfl
theorem zMX:Tryz.prog.cellsOf 3=1:=by kernel_rfl
theorem zHg:Tryz.prog.bytesOf 9=16:=by kernel_rfl
theorem zMW:Tryz.prog.bytesOf 3=8:=by kernel_rfl
theorem zK5:Tryz.prog.bytesOf 55=32:=by kernel_rfl
section
variable {H:Type} {enc:TypeId×Value->H} {w:World}
theorem zV2{fuel}{v}{x}(h:DataW.trod enc Tryz.prog w 0 (fun _=>true) true fuel 45 [v]=some x)(hz:Within Tryz.prog 45 x.1):
  ∃a c,∃L:List ByteArray,v=.slice a L.length c/\Sep.Reads a (L.map .string) w/\L.length<=c/\c<=8796093022208/\∀s∈L,s.size<=140737488355328:=by
 rcases open_strings Tryz.underlying45 Tryz.underlying9 zHk h with⟨hcs,_⟩|⟨a,len,cap,ss,hcs,_,hl,hm,hzz,rfl,hcell,hws⟩
 ·simp at hcs;subst hcs;exact⟨none,0,[],rfl,.nil _ _,Nat.le_refl _,by omega,fun s hs=>by cases hs⟩
 ·simp at hcs;subst hcs;simp only[if_true]at hzz;have hcap:=zBc hz Tryz.underlying45;rw[zHg]at hcap;simp[strs]at hcap;refine⟨some a,cap,ss.take len,by simp;omega,fun i hi=>?_,by simp;omega,by omega,fun s hs=>?_⟩
  ·simp only[List.length_map,List.length_take]at hi;obtain⟨bb,off,spot⟩:=a;have hspot:spot=none:=by simpa[Addr.add]using World.cell?_spot (hcell 0 (by omega))
   subst hspot;refine⟨bb,off,rfl,?_⟩;have hc:=hcell i (by omega);rw[WideShapes.add_plain]at hc;rw[hc];simp[List.getD_eq_getElem?_getD,List.getElem?_eq_getElem (show i<ss.length by omega)]
  ·have:=zCf hz Tryz.underlying45 (d:=.lit (.string s.data.toList)) (by simp only[strs,List.mem_map];exact⟨s,hs,rfl⟩);have:=this s.data.toList.length (by simp[DataW.weights]);exact this
theorem zJE{fuel}{v}{x}(h:DataW.trod enc Tryz.prog w 0 (fun _=>true) true fuel 29 [v]=some x)(hz:Within Tryz.prog 29 x.1):
  ∃a c,∃L:List Int,v=.slice a L.length c/\Sep.Reads a (L.map (.int .i64)) w/\L.length<=c/\c<=17592186044416/\∀n∈L,Fits n:=by
 rcases open_ints Tryz.underlying29 Tryz.underlying3 zMX h with⟨hcs,_⟩|⟨a,len,cap,ss,hcs,_,hl,hm,hzz,rfl,hcell,hws⟩
 ·simp at hcs;subst hcs;exact⟨none,0,[],rfl,.nil _ _,Nat.le_refl _,by omega,fun s hs=>by cases hs⟩
 ·simp at hcs;subst hcs;simp only[if_true]at hzz;have hcap:=zBc hz Tryz.underlying29;rw[zMW]at hcap;simp[lits]at hcap;refine⟨some a,cap,ss.take len,by simp;omega,fun i hi=>?_,by simp;omega,by omega,fun n hn=>zDT (hws n (List.mem_of_mem_take hn))⟩;simp only[List.length_map,List.length_take]at hi;obtain⟨bb,off,spot⟩:=a;have hspot:spot=none:=by simpa[Addr.add]using World.cell?_spot (hcell 0 (by omega))
  subst hspot;refine⟨bb,off,rfl,?_⟩;have hc:=hcell i (by omega);rw[WideShapes.add_plain]at hc;rw[hc];simp[List.getD_eq_getElem?_getD,List.getElem?_eq_getElem (show i<ss.length by omega)]
def zUD(a:Option Addr)(i:Nat)(r:Int×List Int)(w:World):Prop:=
 (∃b o ra rc,a=some ⟨b,o,none⟩/\w.cell? ⟨b,o+i*2,none⟩=some (.int .i64 r.1)/\w.cell? ⟨b,o+i*2+1,none⟩=some (.slice ra r.2.length rc)/\Sep.Reads ra (r.2.map (.int .i64)) w/\r.2.length<=rc/\r.2.length<=17592186044416)/\
 Fits r.1/\∀x∈r.2,Fits x
theorem zKh{fuel}{v}{x}(h:DataW.trod enc Tryz.prog w 0 (fun _=>true) true fuel 22 [v]=some x)(hz:Within Tryz.prog 22 x.1):
  ∃a c,∃R:List (Int×List Int),v=.slice a R.length c/\zBZ a R w/\R.length<=c/\c<=4398046511104/\(∀r∈R,Fits r.1)/\∀r∈R,∀x∈r.2,Fits x:=by
 rcases open_slice_pairs Tryz.underlying22 Tryz.underlying55 (by kernel_rfl) rfl rfl (by kernel_rfl) (by kernel_rfl) h with⟨hcs,_⟩|⟨a,len,cap,m,n,V0,V1,D0,D1,P0,P1,hcs,_,hl,hm,hmm,rfl,hi⟩
 ·simp at hcs;subst hcs;exact⟨none,0,[],rfl,fun i hi=>absurd hi (by simp),Nat.le_refl _,by omega,(fun r hr=>by cases hr),(fun r hr=>by cases hr)⟩
 ·simp at hcs;subst hcs;simp only[if_true]at hmm;subst hmm;have hcap:=zBc hz Tryz.underlying22;rw[zK5]at hcap;simp at hcap
  have each:∀i,i<len->∃r:Int×List Int,zUD (some a) i r w:=fun i him=>by
   obtain⟨hc0,hc1,ht0,ht1⟩:=hi i (by omega);obtain⟨k,hk,_,hw⟩:=DataW.trod_int Tryz.underlying3 ht0;simp at hk;have hzi:=zCf hz Tryz.underlying22 (d:=.agg [D0 i,D1 i]) (by simp only[List.mem_map];exact⟨i,List.mem_range.2 him,rfl⟩);have hz1:=zBh hzi Tryz.underlying55 (j:=1) (t':=29) (d:=D1 i) rfl rfl;obtain⟨ra,rc,L,hv1,hR,hL,hC,hF⟩:=zJE ht1 hz1;rw[hk]at hc0;rw[hv1]at hc1;obtain⟨bb,off,spot⟩:=a;have hspot:spot=none:=by simpa[Addr.add]using World.cell?_spot (hi 0 (by omega)).1
   subst hspot;rw[WideShapes.add_plain]at hc0 hc1;exact⟨(k,L),⟨bb,off,ra,rc,rfl,hc0,hc1,hR,hL,Nat.le_trans hL hC⟩,zDT hw,hF⟩
  obtain⟨f,hf⟩:=choose_lt each;refine⟨some a,m,(List.range len).map f,by simp,fun i hi=>?_,by simpa using hl,by omega,fun r hr=>?_,fun r hr=>?_⟩
  ·simp only[List.length_map,List.length_range]at hi;obtain⟨b,o,ra,rc,e,h1,h2,h3,h4⟩:=(hf i hi).1;refine⟨b,o,ra,rc,e,?_⟩;simp only[List.getElem_map,List.getElem_range];exact⟨h1,h2,h3,h4⟩
  ·obtain⟨i,hi,rfl⟩:=List.mem_map.1 hr;exact(hf i (List.mem_range.1 hi)).2.1
  ·obtain⟨i,hi,rfl⟩:=List.mem_map.1 hr;exact(hf i (List.mem_range.1 hi)).2.2
end
