/- A part of the proof. -/
import Derived.Test.YtegeamggbglneaaGreatDoorPk07
import Derived.Test.YtegeamggbglneaaGreatDoorPk05
set_option linter.unusedVariables false
namespace Go.Proofs.YtegeamggbglneaaGreatDoor
namespace Im
open Go.RowKit Go.Maps
def ic(x:Itm):List Value:=[.int .i64 x.1,.int .i64 x.2]
theorem zA6(x):(ic x).length=2:=rfl
theorem zAe(X:List Itm):(X.flatMap ic).length=X.length*2:=by
 induction X with
 |nil=>rfl
 |cons x X ih=>
  rw[List.flatMap_cons,List.length_append,ih,zA6,List.length_cons];omega
theorem zS1(X:List Itm):∀u∈X.flatMap ic,u.oneCell'=true:=fun u hu=>by
 rw[List.mem_flatMap]at hu;obtain⟨x,_,h⟩:=hu;simp only[ic,List.mem_cons,List.not_mem_nil,or_false]at h;rcases h with rfl|rfl<;>rfl
theorem zLT(X Y:List Itm):(X++Y).flatMap ic=X.flatMap ic++Y.flatMap ic:=List.flatMap_append
theorem zP0(X:List Itm)(k):(X.take k).flatMap ic=(X.flatMap ic).take (k*2):=by
 induction X generalizing k with
 |nil=>simp
 |cons x X ih=>
  cases k with
  |zero=>simp
  |succ k=>
   rw[List.take_succ_cons,List.flatMap_cons,ih,List.flatMap_cons,show(k+1)*2=(ic x).length+k*2 by rw[zA6];omega,List.take_append,List.take_of_length_le (Nat.le_add_right ..)];simp
def ItsA(a:Option Addr)(X:List Itm)(w:World):Prop:=Sep.Reads a (X.flatMap ic) w
theorem ItsA.nil(a)(w):ItsA a [] w:=Sep.Reads.nil a w
theorem ItsA.keep{a}{X}{w w'}(h:ItsA a X w)(hb:∀b o,a=some ⟨b,o,none⟩->w'.heap[b]?=w.heap[b]?):ItsA a X w':=Sep.Reads.keep h hb
theorem ItsA.below{a}{X}{m}{w w'}(h:ItsA a X w)(hb:Below m w w')(hm:w.heap.size<=m):ItsA a X w':=Sep.Reads.below h hb hm
theorem ItsA.went{a}{X}{w w'}(h:ItsA a X w)(hb:Below w.heap.size w w'):ItsA a X w':=h.below hb (Nat.le_refl _)
theorem ItsA.at{a}{X}{w}(h:ItsA a X w)(i)(hi):
  ∃b o,a=some ⟨b,o,none⟩/\w.cell? ⟨b,o+i*2,none⟩=some (.int .i64 X[i].1)/\w.cell? ⟨b,o+i*2+1,none⟩=some (.int .i64 X[i].2):=by
 have hl:=zAe X;obtain⟨b,o,e,h0⟩:=h (i*2) (by omega);obtain⟨b',o',e',h1⟩:=h (i*2+1) (by omega);rw[e]at e';simp only[Option.some.injEq,Addr.mk.injEq,and_true]at e';obtain⟨rfl,rfl⟩:=e';have g0:=Rw.zBT ic zA6 X i hi 0 (by omega);have g1:=Rw.zBT ic zA6 X i hi 1 (by omega);rw[List.getElem?_eq_getElem (by omega)]at g0 g1;refine⟨b,o,e,?_,?_⟩
 ·rw[h0];rw[←Option.some.injEq]at g0;exact congrArg some (by simpa[ic]using g0)
 ·rw[show o+i*2+1=o+(i*2+1)by omega,h1];exact congrArg some (by simpa[ic]using g1)
theorem ItsA.take{a}{X}{w}(h:ItsA a X w)(k):ItsA a (X.take k) w:=fun i hi=>by
 have hl:=zAe X;have hi':=hi;rw[zAe,List.length_take]at hi;obtain⟨b,o,e,hc⟩:=h i (by omega);refine⟨b,o,e,?_⟩;rw[hc]
 congr 1
 simp only[zP0,List.getElem_take]
def ItsV(T:TypeId)(base:Nat)(X:List Itm)(v:Value)(w:World):Prop:=w.ownsRow base T 2 v X.length (X.flatMap ic)
theorem ItsV.nil(T)(base)(w):ItsV T base [] (.slice none 0 0) w:=World.ownsRow_nil _ _ _ _
theorem ItsV.keep{T}{base}{X}{v}{w w'}(h:ItsV T base X v w)(hb:∀g,v.ownBlock=some g->w'.heap[g]?=w.heap[g]?):ItsV T base X v w':=Sep.zAE h hb
theorem ItsV.went{T}{base}{X}{v}{w w'}(h:ItsV T base X v w)(hb:Below w.heap.size w w'):ItsV T base X v w':=h.keep fun g hg=>hb.block g (World.ownsRow.lt h g hg).2
theorem ItsV.mono{T}{b b'}{X}{v}{w}(h:ItsV T b X v w)(hb:b'<=b):ItsV T b' X v w:=Rw.zBd h hb
theorem ItsV.shape{T}{base}{X}{v}{w}(h:ItsV T base X v w):∃a c,v=.slice a X.length c/\X.length<=c:=by
 rcases h.2 with⟨rfl,h0⟩|⟨g,cap,cur,rfl,_,_,h5,_⟩
 ·exact⟨none,0,by rw[h0],by omega⟩
 ·exact⟨_,cap,rfl,h5⟩
theorem ItsV.reads{T}{base}{X}{a}{c}{w}(h:ItsV T base X (.slice a X.length c) w):ItsA a X w:=fun i hi=>by
 have hl:=zAe X;rcases h.2 with⟨_,h0⟩|⟨g,cap,cur,he,_⟩
 ·omega
 ·simp only[Value.slice.injEq]at he;obtain⟨rfl,_,_⟩:=he;refine⟨g,0,rfl,?_⟩;have:=World.ownsRow.cells h (g:=g) rfl i _ (List.getElem?_eq_getElem hi);rw[WideShapes.add_plain]at this
  simpa using this
theorem zEs(T)(base q)(x)(w:World)(hq:q=w.heap.size)(hb:base<=q):(w.alloc (.cells #[.int .i64 x.1,.int .i64 x.2] T)).ownsRow base T 2 (.slice (some ⟨q,0,none⟩) 1 1) 1 (ic x):=by
 subst hq;exact World.ownsRow_lit w #[.int .i64 x.1,.int .i64 x.2] 1 hb (by decide) (by simp)
theorem ItsV.of_append{T}{base n m}{X Y}{v}{w}(h:w.ownsRow base T 2 v (n+m) (X.flatMap ic++Y.flatMap ic))(hn:n=X.length)(hm:m=Y.length):ItsV T base (X++Y) v w:=by
 subst hn hm;unfold ItsV;rw[List.length_append,zLT];exact h
end Im
namespace Im
open Go.RowKit Go.Maps Go.WideShapes Go.ChangeShapes Go.Joins
open Gr (Within zBc)
section
variable {H:Type} {P:Program} {enc:TypeId×Value->H} {w:World} {TL TI:TypeId} {f0 f1:Field}
theorem zKA(hul:P.underlying TL=some (.slice TI))(hui:P.underlying TI=some (.struct #[f0,f1]))(ce:P.cellsOf TI=2)(o0:f0.offset=0)(o1:f1.offset=1)(c0:P.cellsOf f0.type=1)(c1:P.cellsOf f1.type=1)(b16:P.bytesOf TI=16)
  (u0:P.underlying f0.type=some (.int .i64)) (u1:P.underlying f1.type=some (.int .i64)) {fuel} {v} {x} (h:DataW.trod enc P w 0 (fun _=>true) true fuel TL [v]=some x) (hz:Within P TL x.1):
  ∃a c,∃X:List Itm,v=.slice a X.length c/\ItsA a X w/\X.length<=c/\c<=8796093022208/\∀x∈X,W64 x:=by
 rcases Deep.open_slice_pairs hul hui ce o0 o1 c0 c1 h with⟨hcs,_⟩|⟨a,len,cap,m,k,V0,V1,D0,D1,P0,P1,hcs,_,hl,hm,hmm,rfl,hall⟩
 ·simp at hcs;subst hcs;exact⟨none,0,[],rfl,.nil _ _,Nat.le_refl _,by omega,fun s hs=>by cases hs⟩
 ·simp at hcs;subst hcs;simp only[if_true]at hmm;subst hmm;have hcap:=zBc hz hul;rw[b16]at hcap;simp at hcap
  have hint:∀i,∃n:Itm,i<m->V0 i=.int .i64 n.1/\V1 i=.int .i64 n.2/\W64 n:=fun i=>by
   by_cases hi:i<m
   ·obtain⟨c0,c1,t0,t1⟩:=hall i hi;obtain⟨n0,h1,_,w1⟩:=DataW.trod_int u0 t0;obtain⟨n1,h2,_,w2⟩:=DataW.trod_int u1 t1;exact⟨(n0,n1),fun _=>⟨by simpa using h1,by simpa using h2,w1,w2⟩⟩
   ·exact⟨(0,0),fun h=>absurd h hi⟩
  obtain⟨N,hN⟩:∃N:Nat->Itm,∀i,i<m->V0 i=.int .i64 (N i).1/\V1 i=.int .i64 (N i).2/\W64 (N i):=⟨fun i=>Classical.choose (hint i),fun i hi=>Classical.choose_spec (hint i) hi⟩;have hlen:((List.range len).map N).length=len:=by simp
  refine⟨some a,m,(List.range len).map N,by rw[hlen],fun j hj=>?_,by omega,by omega,fun x hx=>?_⟩
  ·have hj':=hj;rw[zAe,hlen]at hj;obtain⟨bb,off,spot⟩:=a;have hspot:spot=none:=by simpa[Addr.add]using World.cell?_spot (hall 0 (by omega)).1
   subst hspot;refine⟨bb,off,rfl,?_⟩;have hi:j / 2<m:=by omega
   have hi2:j / 2<((List.range len).map N).length:=by omega
   obtain⟨c0,c1,_,_⟩:=hall (j / 2) hi;obtain⟨e0,e1,_⟩:=hN (j / 2) hi;rw[e0,WideShapes.add_plain]at c0;rw[e1,WideShapes.add_plain]at c1;have g:=Rw.zBT ic zA6 ((List.range len).map N) (j / 2) hi2 (j % 2) (Nat.mod_lt _ (by omega));rw[show j / 2*2+j % 2=j by omega,List.getElem?_eq_getElem hj']at g;rcases Nat.mod_two_eq_zero_or_one j with e|e
   ·rw[e]at g;rw[show off+j=off+j / 2*2 by omega,c0];simp[ic]at g;rw[g]
   ·rw[e]at g;rw[show off+j=off+(j / 2*2+1)by omega,c1];simp[ic]at g;rw[g]
  ·rw[List.mem_map]at hx;obtain⟨i,hi,rfl⟩:=hx;exact(hN i (by have:=List.mem_range.1 hi;omega)).2.2
end
end Im
namespace Au
open Go.RowKit Go.Maps Go.WideShapes Go.ChangeShapes Go.Joins Go.Deep
open Gr (cell_later)
open Im
abbrev Sta:=List Itm×List (Int×Int)
def zIl(a:Option Addr)(i:Nat)(s:Sta)(w:World):Prop:=
 ∃b o a1 c1 a2 c2,a=some ⟨b,o,none⟩/\w.cell? ⟨b,o+i*2,none⟩=some (.slice a1 s.1.length c1)/\w.cell? ⟨b,o+i*2+1,none⟩=some (.slice a2 s.2.length c2)/\ItsA a1 s.1 w/\ItsA a2 s.2 w/\s.1.length<=c1/\s.2.length<=c2
def StaA(a:Option Addr)(X:List Sta)(w:World):Prop:=∀i (h:i<X.length),zIl a i X[i] w
theorem zIl.went{a}{i}{s}{w w'}(h:zIl a i s w)(hb:Below w.heap.size w w'):zIl a i s w':=by
 obtain⟨b,o,a1,c1,a2,c2,e,h1,h2,h3,h4,h5,h6⟩:=h;exact⟨b,o,a1,c1,a2,c2,e,cell_later hb h1,cell_later hb h2,h3.went hb,h4.went hb,h5,h6⟩
theorem StaA.went{a}{X}{w w'}(h:StaA a X w)(hb:Below w.heap.size w w'):StaA a X w':=fun i hi=>(h i hi).went hb
theorem StaA.nil(a)(w):StaA a [] w:=fun i hi=>absurd hi (Nat.not_lt_zero i)
