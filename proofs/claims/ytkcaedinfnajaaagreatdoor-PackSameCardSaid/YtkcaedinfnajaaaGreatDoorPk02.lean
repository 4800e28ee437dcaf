/- A part of the proof. -/
import Derived.Maps.OwnSet
import Derived.Maps.AppendAt
import Derived.Below
import Derived.Lib.Hide
import Derived.Deep.Draws
import Derived.Test.YtkcaedinfnajaaaGreatDoorPk01
import Derived.Test.YtkcaedinfnajaaaGreatDoorProg
import Derived.WalkKit
import Derived.WalkLawsBesides
import Derived.WalkSpells
import Derived.Deep.Light
import Derived.Deep.RegionHeld3
import Derived.Deep.QuietTactic
import Derived.BigQuiet
import Derived.IntWalk
import Derived.LoopTactic
set_option maxHeartbeats 2000000
set_option maxRecDepth 100000
set_option linter.unusedVariables false
namespace Go.Proofs.YtkcaedinfnajaaaGreatDoor
theorem zVZ{p:Prop}(h:p):Go.RowKit.Hid p:=h
abbrev zVa(w w':Go.World):Prop:=Go.RowKit.Below w.heap.size w w'
namespace Sep
open Go.RowKit
structure Fr (S:Nat->Prop) (w w':World):Prop where
 os:w'.os=w.os
 tape:w'.tape=w.tape
 output:w'.output=w.output
 size:w.heap.size<=w'.heap.size
 block:∀k,k<w.heap.size->¬S k->w'.heap[k]?=w.heap[k]?
def Ext(T S:Nat->Prop)(w:World):Prop:=∀k,T k->S k\/w.heap.size<=k
def Inn(S:Nat->Prop)(w:World):Prop:=∀k,S k->k<w.heap.size
def Off(S T:Nat->Prop):Prop:=∀k,S k->¬T k
theorem Ext.refl(S:Nat->Prop)(w:World):Ext S S w:=fun _ h=> .inl h
theorem Ext.trans{S T U:Nat->Prop}{w w':World}(h:Ext T S w)(k:Ext U T w')(hs:w.heap.size<=w'.heap.size):Ext U S w:=fun i hi=>by
 rcases k i hi with h1|h1
 ·exact h i h1
 ·exact .inr (Nat.le_trans hs h1)
theorem Ext.at{S T:Nat->Prop}{w w':World}(h:Ext T S w')(hs:w.heap.size<=w'.heap.size):Ext T S w:=fun i hi=>(h i hi).imp id fun h1=>Nat.le_trans hs h1
theorem Off.ext{S T U:Nat->Prop}{w:World}(h:Off S T)(hx:Ext U S w)(hi:Inn T w):Off U T:=fun k hU hT=>by
 rcases hx k hU with h1|h1
 ·exact h k h1 hT
 ·have:=hi k hT;omega
theorem Inn.le{S:Nat->Prop}{w w':World}(h:Inn S w)(hs:w.heap.size<=w'.heap.size):Inn S w':=fun k hk=>Nat.lt_of_lt_of_le (h k hk) hs
theorem Fr.refl(S:Nat->Prop)(w:World):Fr S w w:=⟨rfl,rfl,rfl,Nat.le_refl _,fun _ _ _=>rfl⟩
theorem Fr.trans{S T:Nat->Prop}{a b c:World}(h:Fr S a b)(k:Fr T b c)(hx:Ext T S a):Fr S a c:=
 ⟨k.os.trans h.os,k.tape.trans h.tape,k.output.trans h.output,Nat.le_trans h.size k.size,fun i hi hS=>(k.block i (Nat.lt_of_lt_of_le hi h.size) (fun hT=>by
  rcases hx i hT with h1|h1
  ·exact hS h1
  ·omega)).trans (h.block i hi hS)⟩
theorem Fr.mono{S T:Nat->Prop}{a b:World}(h:Fr S a b)(hx:∀k,S k->T k):Fr T a b:=
 ⟨h.os,h.tape,h.output,h.size,fun i hi hT=>h.block i hi fun hS=>hT (hx i hS)⟩
theorem Fr.drew{S:Nat->Prop}{a w:World}(h:Fr S a w):Fr S a w.drew:=⟨h.os,h.tape,h.output,h.size,h.block⟩
theorem Fr.of_below{S:Nat->Prop}{a b:World}(h:Below a.heap.size a b):Fr S a b:=⟨h.os,h.tape,h.output,h.size,fun i hi _=>h.block i hi⟩
theorem Fr.below{S:Nat->Prop}{m:Nat}{a b:World}(h:Fr S a b)(hS:∀k,S k->m<=k)(hs:m<=a.heap.size):Below m a b:=
 ⟨h.os,h.tape,h.output,h.size,fun i hi=>h.block i (by omega) fun h1=>by have:=hS i h1;omega⟩
theorem Fr.alloc{S:Nat->Prop}{a w:World}(h:Fr S a w)(o:Obj):Fr S a (w.alloc o):=
 h.trans (T:=S) ⟨rfl,rfl,rfl,by simp,fun i hi _=>Below.heap_alloc _ _ _ hi⟩ (.refl _ _)
theorem Fr.setCell{S:Nat->Prop}{a w:World}(h:Fr S a w)(p:Addr)(hp:S p.block)(u:Value):Fr S a (w.setCell p u):=
 h.trans (T:=S) ⟨rfl,rfl,rfl,by simp[World.setCell],fun i hi hS=>Below.heap_setCell _ _ _ _ (fun e=>hS (e▸hp))⟩ (.refl _ _)
theorem Fr.setNew{S:Nat->Prop}{a w:World}(h:Fr S a w)(p:Addr)(hp:a.heap.size<=p.block)(u:Value):Fr S a (w.setCell p u):=
 h.trans (T:=fun k=>k=p.block) ⟨rfl,rfl,rfl,by simp[World.setCell],fun i hi hS=>Below.heap_setCell _ _ _ _ hS⟩ (fun k hk=> .inr (by omega))
theorem Fr.grown{S:Nat->Prop}{a w w':World}{row:Option Nat}(h:Fr S a w)(hg:w.grownBy w' row)(hr:∀k,row=some k->S k\/a.heap.size<=k):Fr S a w':=
 h.trans (T:=fun k=>row=some k) ⟨hg.os,hg.tape,hg.output,hg.size,fun i hi hS=>hg.block i hi (fun e=>hS e.symm)⟩ hr
theorem Fr.cell{S:Nat->Prop}{a w:World}(h:Fr S a w){p:Addr}{v:Value}(hc:a.cell? p=some v)(hp:¬S p.block):w.cell? p=some v:=
 (World.cell?_of_block (h.block _ (World.block_lt_of_cell? a p hc) hp)).trans hc
theorem zAD{w w':World}{base size n:Nat}{e:TypeId}{v:Value}{xs:List Value}(h:w.ownsRow base e size v n xs)(hb:∀g,v.ownBlock=some g->w'.heap[g]?=w.heap[g]?):w'.ownsRow base e size v n xs:=by
 obtain⟨h1,h2⟩:=h;refine⟨h1,h2.imp id ?_⟩;rintro⟨g,cap,cur,rfl,hg,hc,r⟩;exact⟨g,cap,cur,rfl,hg,(hb g rfl).trans hc,r⟩
theorem ownsMap_at{H:Type}{P:Program}{k:TypeId}{R:Value->Option (DataW H×List MemPlace)}{w w':World}{b n:Nat}{D:DataW H}(h:w.ownsMap P k R b n D)(hb:w'.heap[b]?=w.heap[b]?):w'.ownsMap P k R b n D:=by
 obtain⟨es,c,h1,r⟩:=h;exact⟨es,c,hb.trans h1,r⟩
theorem zA2{w:World}{base n:Nat}{e:TypeId}{v:Value}{xs:List Value}(h:w.ownsRow base e 1 v n xs):∃a cap,v=.slice a n cap:=by
 rcases h.2 with⟨rfl,rfl⟩|⟨g,cap,cur,rfl,_⟩
 ·exact⟨_,_,rfl⟩
 ·exact⟨_,_,rfl⟩
def Reads(a:Option Addr)(xs:List Value)(w:World):Prop:=∀i (h:i<xs.length),∃b o,a=some ⟨b,o,none⟩/\w.cell? ⟨b,o+i,none⟩=some xs[i]
theorem Reads.nil(a:Option Addr)(w:World):Reads a [] w:=fun i h=>absurd h (by simp)
theorem Reads.of_row{w:World}{base n cap:Nat}{e:TypeId}{a:Option Addr}{xs:List Value}(h:w.ownsRow base e 1 (.slice a n cap) n xs):Reads a xs w:=by
 intro i hi;have hl:=h.1;rcases h.2 with⟨h1,h2⟩|⟨g,cap',cur,h1,_⟩
 ·subst h2;rw[hl]at hi;omega
 ·simp only[Value.slice.injEq]at h1;obtain⟨rfl,_,_⟩:=h1;refine⟨g,0,rfl,?_⟩;have:=h.cells (g:=g) rfl i xs[i] (by simp[hi])
  rwa [WideShapes.add_plain]at this
theorem Reads.keep{a:Option Addr}{xs:List Value}{w w':World}(h:Reads a xs w)(hb:∀b o,a=some ⟨b,o,none⟩->w'.heap[b]?=w.heap[b]?):Reads a xs w':=fun i hi=>by
 obtain⟨b,o,e,hc⟩:=h i hi;exact⟨b,o,e,(World.cell?_of_block (a:=⟨b,o+i,none⟩) (hb b o e)).trans hc⟩
theorem Reads.below{a:Option Addr}{xs:List Value}{m:Nat}{w w':World}(h:Reads a xs w)(hb:Below m w w')(hm:w.heap.size<=m):Reads a xs w':=fun i hi=>by
 obtain⟨b,o,e,hc⟩:=h i hi;have:=World.block_lt_of_cell? w ⟨b,o+i,none⟩ hc;exact⟨b,o,e,hb.cell (p:=⟨b,o+i,none⟩) (by simp at this⊢;omega) |>.trans hc⟩
end Sep
namespace It
open Go.RowKit Go.Maps
def pl:List ByteArray->ByteArray->Option Nat
 |[],_=>none
 |x::r,s=>if x=s then some 0 else(pl r s).map (· +1)
theorem zS6{L:List ByteArray}{s:ByteArray}:pl L s=none↔s∉L:=by
 induction L with
 |nil=>simp[pl]
 |cons x r ih=>
  unfold pl
  by_cases h:x=s
  ·simp[h]
  ·simp[h,ih,Ne.symm h]
theorem zNn{L:List ByteArray}{s:ByteArray}{i:Nat}(h:pl L s=some i):∃hi:i<L.length,L[i]=s/\∀j (hj:j<i),L[j]'(by omega)≠s:=by
 induction L generalizing i with
 |nil=>simp[pl]at h
 |cons x r ih=>
  unfold pl at h
  by_cases hx:x=s
  ·simp[hx]at h;subst h;exact⟨by simp,by simpa using hx,fun j hj=>absurd hj (by omega)⟩
  ·simp only[hx,if_false,Option.map_eq_some_iff]at h;obtain⟨k,hk,rfl⟩:=h;obtain⟨h1,h2,h3⟩:=ih hk;refine⟨by simp;omega,by simpa using h2,fun j hj=>?_⟩;cases j with
   |zero=>simpa using hx
   |succ j=>simpa using h3 j (by omega)
theorem zNm(L:List ByteArray)(s t:ByteArray):pl (L++[s]) t=match pl L t with|some i=>some i|none=>if s=t then some L.length else none:=by
 induction L with
 |nil=>simp[pl]
 |cons x r ih=>
  simp only[List.cons_append,pl]
  by_cases hx:x=t
  ·simp[hx]
  ·simp only[hx,if_false,ih];cases pl r t with
   |some i=>simp
   |none=>by_cases hs:s=t<;>simp[hs]
def isIn(L:List ByteArray)(s:ByteArray):Bool:=(pl L s).isSome
def num(L:List ByteArray)(s:ByteArray):Nat:=(pl L s).getD 0
theorem zRJ{L:List ByteArray}{s:ByteArray}(h:isIn L s=true):∃hi:num L s<L.length,L[num L s]=s:=by
 unfold isIn at h;obtain⟨i,hi⟩:=Option.isSome_iff_exists.1 h;obtain⟨h1,h2,_⟩:=zNn hi;have:num L s=i:=by simp[num,hi]
 exact⟨by omega,by simpa[this]using h2⟩
theorem zCK{L:List ByteArray}{s:ByteArray}:isIn L s=true↔s∈L:=by
 unfold isIn;cases h:pl L s with
 |none=>simpa using zS6.1 h
 |some i=>
  obtain⟨h1,h2,_⟩:=zNn h
  simpa using h2▸List.getElem_mem h1
theorem zHY(L:List ByteArray)(s:ByteArray):isIn (L++[s]) s=true:=zCK.2 (by simp)
theorem zGh{L:List ByteArray}{s:ByteArray}(h:isIn L s=false):num (L++[s]) s=L.length:=by
 have hp:pl L s=none:=by
  unfold isIn at h;cases hp:pl L s with
  |none=>rfl
  |some i=>simp[hp]at h
 simp[num,zNm,hp]
theorem zJS{s t:ByteArray}(h:s.data.toList=t.data.toList):s=t:=by
 cases s;cases t
 simpa using h
def zLn(L:List ByteArray)(D:DataW Unit):Prop:=∀s:ByteArray,Maps.has D (.string s.data.toList)=isIn L s/\D.atKey (.string s.data.toList) (.lit (.int .i64 0))=.lit (.int .i64 (num L s))
theorem zHb:zLn [] (.map []):=fun _=>⟨rfl,rfl⟩
theorem zHc{L:List ByteArray}{D:DataW Unit}{s:ByteArray}(hD:IsMap D)(hk:WideAt.IsKeyLit (.string s.data.toList))(h:zLn L D)(hn:isIn L s=false):zLn (L++[s]) (D.put (.string s.data.toList) (.lit (.int .i64 L.length))):=fun t=>by
 by_cases e:s=t
 ·subst e;rw[has_put_same hD hk,atKey_put_same hD hk,zHY,zGh hn];exact⟨rfl,rfl⟩
 ·have hne:(Lit.string t.data.toList)≠.string s.data.toList:=fun h=>e (zJS (by injection h with h;exact h.symm))
  rw[has_put_other hne,atKey_put_other hne,(h t).1,(h t).2]
  have hp:pl (L++[s]) t=pl L t:=by
   rw[zNm];cases pl L t<;>simp[e]
  exact⟨by unfold isIn;rw[hp],by unfold num;rw[hp]⟩
end It
namespace Gr
open Go.RowKit Go.Maps
structure Gram where
 terms:List ByteArray
 nons:List ByteArray
 rules:List (Int×List Int)
 start:Int
def names(G:Gram):List ByteArray:=G.terms++G.nons
def top(G:Gram):Nat:=G.terms.length+G.nons.length
def zEG(G:Gram)(s:Int):Bool:=decide (1<=s/\s<=(G.terms.length:Int))
def nonB(G:Gram)(s:Int):Bool:=decide ((G.terms.length:Int)<s/\s<=(top G:Int))
def zEz(G:Gram)(s:Int):ByteArray:=if s=0 then⟨#[36]⟩else if 1<=s/\s<=(top G:Int)then(names G).getD (s.toNat-1) ⟨#[]⟩else⟨#[]⟩
theorem zAa{G:Gram}{s:Int}:nonB G s=true↔(G.terms.length:Int)<s/\s<=(G.terms.length:Int)+(G.nons.length:Int):=by
 unfold nonB top;rw[decide_eq_true_iff];omega
theorem zAy{G:Gram}{s:Int}:zEG G s=true↔1<=s/\s<=(G.terms.length:Int):=by
 unfold zEG;rw[decide_eq_true_iff]
theorem zBI(G:Gram):(names G).length=top G:=by simp[names,top]
theorem zNR(G:Gram):zEz G 0=⟨#[36]⟩:=by simp[zEz]
theorem zPw{G:Gram}{s:Int}(h:s<0\/(top G:Int)<s):zEz G s=⟨#[]⟩:=by
 unfold zEz;rw[if_neg (by omega),if_neg (by omega)]
theorem zIt{G:Gram}{s:Nat}(h:s<top G):zEz G ((s:Int)+1)=(names G)[s]'(by rw[zBI];exact h):=by
 unfold zEz;rw[if_neg (by omega),if_pos (by omega)];have e:((s:Int)+1).toNat-1=s:=by omega
 rw[e];simp[List.getD_eq_getElem?_getD,List.getElem?_eq_getElem (show s<(names G).length by rw[zBI];exact h)]
theorem zNP{G:Gram}{s:Nat}(h:s<G.terms.length):zEz G ((s:Int)+1)=G.terms[s]:=by
 rw[zIt (by unfold top;omega)];simp[names,List.getElem_append_left h]
theorem zPv{G:Gram}{s:Nat}(h:s<G.nons.length):zEz G (((G.terms.length+s:Nat):Int)+1)=G.nons[s]:=by
 rw[zIt (by unfold top;omega)];simp[names,List.getElem_append_right]
def leftOf(R:List (Int×List Int))(i:Nat):Int:=(R.getD i (0,[])).1
theorem zAt{R:List (Int×List Int)}{i:Nat}(h:i<R.length):leftOf R i=R[i].1:=by
 simp[leftOf,List.getD_eq_getElem?_getD,List.getElem?_eq_getElem h]
def ofTo(R:List (Int×List Int))(s:Int)(k:Nat):List Nat:=(List.range k).filter fun i=>leftOf R i==s
def ofN(G:Gram)(s:Int):List Nat:=ofTo G.rules s G.rules.length
theorem zP3{R:List (Int×List Int)}{s:Int}{k:Nat}(h:leftOf R k=s):ofTo R s (k+1)=ofTo R s k++[k]:=by
 simp[ofTo,List.range_succ,List.filter_append,h]
theorem zNY{R:List (Int×List Int)}{s:Int}{k:Nat}(h:¬leftOf R k=s):ofTo R s (k+1)=ofTo R s k:=by
 simp[ofTo,List.range_succ,List.filter_append,h]
theorem zSs(R:List (Int×List Int))(s:Int)(k:Nat):(ofTo R s k).length<=k:=by
 unfold ofTo;exact Nat.le_trans (List.length_filter_le _ _) (by simp)
theorem zPt{R:List (Int×List Int)}{s:Int}{k i:Nat}:i∈ofTo R s k↔i<k/\leftOf R i=s:=by
 simp[ofTo]
theorem zBq{G:Gram}{s:Int}{i:Nat}:i∈ofN G s↔i<G.rules.length/\leftOf G.rules i=s:=zPt
def zAY(G:Gram)(i:Int):Bool:=decide (0<=i/\i<=(G.rules.length:Int))
def zAE(G:Gram)(i:Int):Int×List Int:=if i<0\/(G.rules.length:Int)<i then(0,[])else if i=G.rules.length then(0,[G.start])else G.rules.getD i.toNat (0,[])
theorem zKA{G:Gram}{i:Int}(h:i<0\/(G.rules.length:Int)<i):zAY G i=false/\zAE G i=(0,[]):=by
 refine⟨?_,by unfold zAE;rw[if_pos h]⟩;unfold zAY;rw[decide_eq_false_iff_not];omega
theorem zAr(G:Gram):zAY G G.rules.length=true/\zAE G G.rules.length=(0,[G.start]):=by
 refine⟨by simp[zAY],?_⟩;unfold zAE;rw[if_neg (by omega),if_pos rfl]
theorem zBE{G:Gram}{i:Nat}(h:i<G.rules.length):zAY G i=true/\zAE G i=G.rules[i]:=by
 refine⟨by simp[zAY];omega,?_⟩;unfold zAE;rw[if_neg (by omega),if_neg (by omega)];simp[List.getD_eq_getElem?_getD,List.getElem?_eq_getElem h]
def zCW(r q:Int×List Int):Bool:=r.1==q.1&&decide (r.2=q.2)
theorem zH0{r q:Int×List Int}:zCW r q=true↔r=q:=by
 obtain⟨a,b⟩:=r;obtain⟨c,d⟩:=q;simp[zCW]
def insB(x:Int):Bool:=decide (33<=x/\x<=126/\x≠39)
def InTo(s:ByteArray)(k:Nat):Prop:=∀j (h:j<s.size),1<=j->j<k->insB ((s[j]'h).toNat:Int)=true
def Closes(s:ByteArray)(k:Nat):Prop:=2<=k/\k<24/\InTo s k/\∃h:k<s.size,(s[k]'h).toNat=39
theorem zPQ(s:ByteArray):InTo s 1:=fun j _ h1 h2=>absurd h1 (by omega)
theorem zMp{s:ByteArray}{k:Nat}(h:InTo s k)(hk:k<s.size)(hi:insB ((s[k]'hk).toNat:Int)=true):InTo s (k+1):=fun j hj h1 h2=>by
 by_cases e:j=k
 ·subst e;exact hi
 ·exact h j hj h1 (by omega)
theorem zKi{s:ByteArray}{k:Nat}(h:Closes s k){i:Nat}(hi:i<s.size)(h1:1<=i)(hk:i<k):insB ((s[i]'hi).toNat:Int)=true:=h.2.2.1 i hi h1 hk
noncomputable def quoS(s:ByteArray):Bool:=@decide ((∃h:0<s.size,(s[0]'h).toNat=39)/\∃k,Closes s k/\k+1=s.size) (Classical.propDecidable _)
theorem zKj{s:ByteArray}{k j:Nat}(h:Closes s k)(g:Closes s j):k=j:=by
 obtain⟨h1,h2,h3,h4,h5⟩:=h;obtain⟨g1,g2,g3,g4,g5⟩:=g;rcases Nat.lt_trichotomy k j with hlt|rfl|hlt
 ·have:=g3 k h4 (by omega) hlt;rw[h5]at this;simp[insB]at this
 ·rfl
 ·have:=h3 j g4 (by omega) hlt;rw[g5]at this;simp[insB]at this
theorem zUW{s:ByteArray}(h:¬∃h:0<s.size,(s[0]'h).toNat=39):quoS s=false:=by
 unfold quoS;rw[decide_eq_false_iff_not];exact fun k=>h k.1
theorem zQN{s:ByteArray}(h:¬∃k,Closes s k):quoS s=false:=by
 unfold quoS;rw[decide_eq_false_iff_not];exact fun⟨_,k,hk,_⟩=>h ⟨k,hk⟩
theorem zQO{s:ByteArray}{k:Nat}(h0:∃h:0<s.size,(s[0]'h).toNat=39)(h:Closes s k):quoS s=decide (k+1=s.size):=by
 unfold quoS;rw[Bool.eq_iff_iff,@decide_eq_true_iff _ (Classical.propDecidable _),decide_eq_true_iff];constructor
 ·rintro⟨_,j,hj,e⟩;rw[zKj h hj];exact e
 ·exact fun e=>⟨h0,k,h,e⟩
def plnS(s:ByteArray):Bool:=decide (s.size<=24)&&Ch.namB s.data.toList
def zBu(G:Gram):Bool:=decide (120<G.terms.length)||decide (120<G.nons.length)||decide (300<G.rules.length)||G.rules.any fun r=>decide (8<r.2.length)
noncomputable def zDM(G:Gram):Bool:=(G.terms.all fun s=>plnS s||quoS s)&&G.nons.all plnS
def zE2(G:Gram):Bool:=decide (names G).Nodup
def zAs(G:Gram):Bool:=nonB G G.start&&G.rules.all fun r=>nonB G r.1&&r.2.all fun x=>decide (1<=x/\x<=(top G:Int))
def zB1(G:Gram):Bool:=decide G.rules.Nodup
def zCf(G:Gram):Bool:=(List.range G.nons.length).all fun i=> !(ofN G ((G.terms.length:Int)+1+i)).isEmpty
noncomputable def checkN(G:Gram):Int:=if zBu G then 7 else if !zDM G then 10 else if !zE2 G then 8 else if !zAs G then 1 else if !zB1 G then 8 else if !zCf G then 9 else 0
theorem zAj{G:Gram}(h:checkN G=0):zBu G=false/\zDM G=true/\zE2 G=true/\zAs G=true/\zB1 G=true/\zCf G=true:=by
 unfold checkN at h;cases h1:zBu G<;>cases h2:zDM G<;>cases h3:zE2 G<;>cases h4:zAs G<;>cases h5:zB1 G<;>cases h6:zCf G<;>simp[h1,h2,h3,h4,h5,h6]at h⊢
theorem zBZ{G:Gram}(h:zAs G=true){i:Nat}(hi:i<G.rules.length):nonB G (leftOf G.rules i)=true:=by
 simp only[zAs,Bool.and_eq_true,List.all_eq_true]at h;rw[zAt hi];exact(h.2 _ (List.getElem_mem hi)).1
end Gr
namespace Gr
open Go.RowKit Go.Maps
structure Sh where
 a1:Option Addr
 c1:Nat
 a2:Option Addr
 c2:Nat
 a3:Option Addr
 c3:Nat
abbrev gv(h:Sh)(G:Gram):Value:=.agg #[.slice h.a1 G.terms.length h.c1,.slice h.a2 G.nons.length h.c2,.slice h.a3 G.rules.length h.c3,.int .i64 G.start]
def zBd(a:Option Addr)(R:List (Int×List Int))(w:World):Prop:=
 ∀i (h:i<R.length),∃b o ra rc,a=some ⟨b,o,none⟩/\w.cell? ⟨b,o+i*2,none⟩=some (.int .i64 R[i].1)/\w.cell? ⟨b,o+i*2+1,none⟩=some (.slice ra R[i].2.length rc)/\
  Sep.Reads ra (R[i].2.map (.int .i64)) w/\R[i].2.length<=rc/\R[i].2.length<=17592186044416
theorem zBd.below{a:Option Addr}{R:List (Int×List Int)}{m:Nat}{w w':World}(h:zBd a R w)(hb:Below m w w')(hm:w.heap.size<=m):zBd a R w':=fun i hi=>by
 obtain⟨b,o,ra,rc,e,h1,h2,h3,h4⟩:=h i hi;have k:=World.block_lt_of_cell? w ⟨b,o+i*2,none⟩ h1;refine⟨b,o,ra,rc,e,?_,?_,h3.below hb hm,h4⟩
 ·exact(hb.cell (p:=⟨b,o+i*2,none⟩) (by simp at k⊢;omega)).trans h1
 ·exact(hb.cell (p:=⟨b,o+i*2+1,none⟩) (by simp at k⊢;omega)).trans h2
def Fits(x:Int):Prop:= -9223372036854775808<=x/\x<=9223372036854775807
structure GOk (G:Gram):Prop where
 terms:∀s∈G.terms,s.size<=140737488355328
 nons:∀s∈G.nons,s.size<=140737488355328
 start:Fits G.start
 left:∀r∈G.rules,Fits r.1
 right:∀r∈G.rules,∀x∈r.2,Fits x
structure GAt (h:Sh) (G:Gram) (w:World):Prop where
 terms:Sep.Reads h.a1 (G.terms.map .string) w
 nons:Sep.Reads h.a2 (G.nons.map .string) w
 rules:zBd h.a3 G.rules w
 t1:G.terms.length<=h.c1
 t2:G.terms.length<=8796093022208
 n2:G.nons.length<=8796093022208
 r1:G.rules.length<=h.c3
 r2:G.rules.length<=4398046511104
 ok:GOk G
theorem GAt.below{h:Sh}{G:Gram}{m:Nat}{w w':World}(k:GAt h G w)(hb:Below m w w')(hm:w.heap.size<=m):GAt h G w':=
 ⟨k.terms.below hb hm,k.nons.below hb hm,k.rules.below hb hm,k.t1,k.t2,k.n2,k.r1,k.r2,k.ok⟩
theorem GAt.went{h:Sh}{G:Gram}{w w':World}(k:GAt h G w)(hb:Below w.heap.size w w'):GAt h G w':=k.below hb (Nat.le_refl _)
def Is(v:Value)(w:World)(e:Ending)(w':World):Prop:=e=.returned v/\Below w.heap.size w w'
theorem step{w w1 w2:World}(h:Below w.heap.size w w1)(k:Below w1.heap.size w1 w2):Below w.heap.size w w2:=h.trans (k.mono h.size)
theorem cell_later{a b:World}{p:Addr}{v:Value}(h:Below a.heap.size a b)(hc:a.cell? p=some v):b.cell? p=some v:=(h.cell (World.block_lt_of_cell? a p hc)).trans hc
theorem boxed(w:World)(o:Obj):Below w.heap.size w (w.alloc o):=(Below.refl _ _).alloc (Nat.le_refl _) o
theorem zAC{w:World}{cs:Array Value}{T:TypeId}{n j:Nat}{v:Value}(hn:n=w.heap.size)(hv:cs[j]?=some v):(w.alloc (.cells cs T)).cell? ⟨n,j,none⟩=some v:=by
 subst hn
 simpa using hv
theorem zAR{w:World}{o:Obj}{p:Addr}{v:Value}(h:w.cell? p=some v):(w.alloc o).cell? p=some v:=cell_later (boxed _ _) h
theorem zCI{w:World}{cs:Array Value}{T:TypeId}{n j:Nat}(hn:n=w.heap.size):(w.alloc (.cells cs T)).frozen? ⟨n,j,none⟩=false:=by
 subst hn;simp
theorem zBB{w w':World}{n i j:Nat}{v:Value}(hb:Below w.heap.size w w')(h:w.frozen? ⟨n,j,none⟩=false)(hc:w.cell? ⟨n,i,none⟩=some v):w'.frozen? ⟨n,j,none⟩=false:=
 (hb.frozen (p:=⟨n,j,none⟩) (World.block_lt_of_cell? w ⟨n,i,none⟩ hc)).trans h
theorem drawn(w:World):Below w.heap.size w w.drew:=(Below.refl _ _).drew
structure Box (q:Nat) (h:Sh) (G:Gram) (w:World):Prop where
 x0:w.cell? ⟨q,0,none⟩=some (.slice h.a1 G.terms.length h.c1)
 x1:w.cell? ⟨q,1,none⟩=some (.slice h.a2 G.nons.length h.c2)
 x2:w.cell? ⟨q,2,none⟩=some (.slice h.a3 G.rules.length h.c3)
 x3:w.cell? ⟨q,3,none⟩=some (.int .i64 G.start)
theorem Box.later{q:Nat}{h:Sh}{G:Gram}{w w':World}(k:Box q h G w)(hb:Below w.heap.size w w'):Box q h G w':=
 ⟨cell_later hb k.x0,cell_later hb k.x1,cell_later hb k.x2,cell_later hb k.x3⟩
theorem Box.mk'(h:Sh)(G:Gram)(w:World)(T:TypeId):Box w.heap.size h G (w.alloc (.cells #[.slice h.a1 G.terms.length h.c1,.slice h.a2 G.nons.length h.c2,.slice h.a3 G.rules.length h.c3,.int .i64 G.start] T)):=
 ⟨by simp,by simp,by simp,by simp⟩
structure Bx (W:World) (h:Sh) (G:Gram) (w:World):Prop where
 below:Below W.heap.size W w
 box:Box W.heap.size h G w
theorem Bx.start(h:Sh)(G:Gram)(w:World)(T:TypeId):Bx w h G (w.alloc (.cells #[.slice h.a1 G.terms.length h.c1,.slice h.a2 G.nons.length h.c2,.slice h.a3 G.rules.length h.c3,.int .i64 G.start] T)):=
 ⟨boxed _ _,Box.mk' h G w T⟩
theorem Bx.went{W:World}{h:Sh}{G:Gram}{w w':World}(k:Bx W h G w)(hb:Below w.heap.size w w'):Bx W h G w':=⟨step k.below hb,k.box.later hb⟩
theorem Bx.alloc{W:World}{h:Sh}{G:Gram}{w:World}(k:Bx W h G w)(o:Obj):Bx W h G (w.alloc o):=k.went (boxed _ _)
theorem Bx.grown{W:World}{h:Sh}{G:Gram}{w w':World}{row:Option Nat}(k:Bx W h G w)(hg:w.grownBy w' row)(hr:∀g,row=some g->W.heap.size+1<=g):Bx W h G w':=by
 have e:w'.heap[W.heap.size]?=w.heap[W.heap.size]?:=hg.block _ (World.block_lt_of_cell? w ⟨W.heap.size,0,none⟩ k.box.x0) (fun e=>by have:=hr _ e.symm;omega);refine⟨k.below.grown hg k.below.size (fun g hg=>by have:=hr g hg;omega),?_⟩
 exact⟨(World.cell?_of_block (a:=⟨W.heap.size,0,none⟩) e).trans k.box.x0,(World.cell?_of_block (a:=⟨W.heap.size,1,none⟩) e).trans k.box.x1,
  (World.cell?_of_block (a:=⟨W.heap.size,2,none⟩) e).trans k.box.x2,(World.cell?_of_block (a:=⟨W.heap.size,3,none⟩) e).trans k.box.x3⟩
theorem Bx.size{W:World}{h:Sh}{G:Gram}{w:World}(k:Bx W h G w):W.heap.size+1<=w.heap.size:=World.block_lt_of_cell? w ⟨W.heap.size,0,none⟩ k.box.x0
theorem zAc{x r:Int}(h:x=r):Ending.returned (.int .i64 r)=.returned (.int .i64 x):=by rw[h]
theorem zAF{x r:Bool}(h:x=r):Ending.returned (.bool r)=.returned (.bool x):=by rw[h]
theorem zB0(h:Sh)(G:Gram)(w:World)(k:GAt h G w):
  Calls Tryz.prog 107 #[gv h G] w (Is (.int .i64 (top G)) w):=by
 have t:=k.t2;have n:=k.n2;clear k;unfold gv;go_enter Tryz.func107,Tryz.ntmps107;go_wp2;go_ret;exact⟨zAc (by unfold top;omega),boxed _ _⟩
theorem zQo(h:Sh)(G:Gram)(s:Int)(w:World)(k:GAt h G w):
  Calls Tryz.prog 149 #[gv h G,.int .i64 s] w (Is (.bool (zEG G s)) w):=by
 have t:=k.t2;clear k;unfold gv;go_enter Tryz.func149,Tryz.ntmps149;go_wp2
 all_goals
  go_ret;refine⟨zAF ?_,boxed _ _⟩;go_light;unfold zEG
  first|(rw[decide_eq_true_iff];omega)|(rw[decide_eq_false_iff_not];omega)|(rw[Bool.eq_iff_iff];simp only[decide_eq_true_eq];omega)
theorem zNS(h:Sh)(G:Gram)(s:Int)(w:World)(k:GAt h G w):
  Calls Tryz.prog 126 #[gv h G,.int .i64 s] w (Is (.bool (nonB G s)) w):=by
 have t:=k.t2;have T:=zVZ (fun w1 (b:Below w.heap.size w w1)=>zB0 h G w1 (k.went b));clear k;unfold gv;go_enter Tryz.func126,Tryz.ntmps126;go_wp2_with (go_at_call 107;refine(T.out _ (boxed _ _)).mono ?_;rintro e w1 ⟨rfl,hb⟩;have HB:=zVZ (step (boxed _ _) hb);clear hb)
 all_goals
  go_ret;refine⟨zAF ?_,by first|exact HB.out|exact boxed _ _⟩;go_light;unfold nonB
  first|(rw[decide_eq_true_iff];omega)|(rw[decide_eq_false_iff_not];omega)|(rw[Bool.eq_iff_iff];simp only[decide_eq_true_eq];omega)
theorem zQY(h:Sh)(G:Gram)(w:World)(k:GAt h G w):
  Calls Tryz.prog 15 #[gv h G] w (Is (.int .i64 (top G)) w):=by
 have t:=k.t2;have n:=k.n2;clear k;unfold gv;go_enter Tryz.func15,Tryz.ntmps15;go_wp2;go_ret;exact⟨zAc (by unfold top;omega),boxed _ _⟩
end Gr
namespace Gr
open Go.RowKit Go.Maps
theorem zH7{x r:ByteArray}(h:x=r):Ending.returned (.string r)=.returned (.string x):=by rw[h]
theorem zGf(h:Sh)(G:Gram)(s:Int)(w:World)(k:GAt h G w):
  Calls Tryz.prog 125 #[gv h G,.int .i64 s] w (Is (.string (zEz G s)) w):=by
 have T:=zVZ (fun w1 (b:Below w.heap.size w w1)=>zQo h G s w1 (k.went b));have N:=zVZ (fun w1 (b:Below w.heap.size w w1)=>zNS h G s w1 (k.went b));have X:=zVZ (Bx.start h G w 41);have t:=k.t2;have n:=k.n2
 by_cases h0:s=0
 ·subst h0;have E:=zVZ (zNR G);clear k T N;unfold gv;go_enter Tryz.func125,Tryz.ntmps125;go_wp2;go_ret;exact⟨zH7 E.out,X.out.below⟩
 ·by_cases h1:1<=s/\s<=(G.terms.length:Int)
  ·obtain⟨j,rfl⟩:∃j:Nat,s=(j:Int)+1:=⟨(s-1).toNat,by omega⟩;have hj:j<G.terms.length:=by omega
   have E:=zVZ (zNP hj);have e1:=zAy.2 h1;rw[e1]at T;obtain⟨a1,c1,a2,c2,a3,c3⟩:=h;obtain⟨b,o,e,hc⟩:=k.terms j (by simpa using hj);dsimp only at e;subst e;simp only[List.getElem_map]at hc;have HC:=zVZ (fun w1 (b:Below w.heap.size w w1)=>cell_later b hc);clear hc k N e1 h1 h0;generalize zEz G ((j:Int)+1)=x at E⊢;have hx:=E.out;subst hx;unfold gv;dsimp only;go_enter Tryz.func125,Tryz.ntmps125;go_wp2_with (go_at_call 149;refine(T.out _ X.out.below).mono ?_;rintro e w1 ⟨rfl,hb⟩;have X:=zVZ (X.out.went hb);obtain⟨x0,x1,x2,x3⟩:=X.out.box;have hc:=HC.out _ X.out.below;clear hb);go_ret;exact⟨rfl,X.out.below⟩
  ·have e1:zEG G s=false:=by rw[←Bool.not_eq_true,zAy];exact h1
   rw[e1]at T
   by_cases h2:(G.terms.length:Int)<s/\s<=(G.terms.length:Int)+(G.nons.length:Int)
   ·obtain⟨j,rfl⟩:∃j:Nat,s=((G.terms.length+j:Nat):Int)+1:=⟨(s-1-G.terms.length).toNat,by omega⟩;have hj:j<G.nons.length:=by omega
    have E:=zVZ (zPv hj);have e2:=zAa.2 h2;rw[e2]at N;obtain⟨a1,c1,a2,c2,a3,c3⟩:=h;obtain⟨b,o,e,hc⟩:=k.nons j (by simpa using hj);dsimp only at e;subst e;simp only[List.getElem_map]at hc;have HC:=zVZ (fun w1 (b:Below w.heap.size w w1)=>cell_later b hc);clear hc k e1 e2 h1 h2 h0;generalize zEz G (((G.terms.length+j:Nat):Int)+1)=x at E⊢;have hx:=E.out;subst hx;unfold gv;dsimp only;have hi1:((G.terms.length+j:Nat):Int)+1-(G.terms.length:Int)=(j:Int)+1:=by omega
    have hi2:(G.terms.length:Int)+(j:Int)+1-(G.terms.length:Int)=(j:Int)+1:=by omega
    go_enter Tryz.func125,Tryz.ntmps125
    go_wp2_with (first
     |(go_at_call 149;refine(T.out _ X.out.below).mono ?_;rintro e w1 ⟨rfl,hb⟩;have X:=zVZ (X.out.went hb);obtain⟨x0,x1,x2,x3⟩:=X.out.box;clear hb)
     | (go_at_call 126;refine(N.out _ X.out.below).mono ?_;rintro e w1 ⟨rfl,hb⟩;have X:=zVZ (X.out.went hb);obtain⟨x0,x1,x2,x3⟩:=X.out.box;have hc:=HC.out _ X.out.below;clear hb))
    go_ret;exact⟨rfl,X.out.below⟩
   ·have e2:nonB G s=false:=by rw[←Bool.not_eq_true,zAa];exact h2
    rw[e2]at N;have E:=zVZ (zPw (G:=G) (s:=s) (by unfold top;omega));clear k e1 e2 h1 h2;unfold gv;go_enter Tryz.func125,Tryz.ntmps125
    go_wp2_with (first
     |(go_at_call 149;refine(T.out _ X.out.below).mono ?_;rintro e w1 ⟨rfl,hb⟩;have X:=zVZ (X.out.went hb);obtain⟨x0,x1,x2,x3⟩:=X.out.box;clear hb)
     | (go_at_call 126;refine(N.out _ X.out.below).mono ?_;rintro e w1 ⟨rfl,hb⟩;have X:=zVZ (X.out.went hb);obtain⟨x0,x1,x2,x3⟩:=X.out.box;clear hb))
    go_ret;exact⟨zH7 E.out,X.out.below⟩
end Gr
namespace Gr
open Go.RowKit Go.Maps
theorem zAz:(Tryz.prog.info? 3).map (fun i=>(i.zero,i.size,i.bytes))=some (some (.int .i64 0),1,8):=by kernel_rfl
def iv(i:Int):Value:=.int .i64 i
def ivs(l:List Int):List Value:=l.map iv
theorem zFy(l:List Int):(ivs l).length=l.length:=by simp[ivs]
def ofI(R:List (Int×List Int))(s:Int)(k:Nat):List Int:=(ofTo R s k).map fun i:Nat=>(i:Int)
def ofL(G:Gram)(s:Int):List Int:=ofI G.rules s G.rules.length
theorem zCq(G:Gram)(s:Int):(ofL G s).length=(ofN G s).length:=by simp[ofL,ofI,ofN]
theorem zRK(R:List (Int×List Int))(s:Int)(k:Nat):(ofI R s k).length<=k:=by
 have:=zSs R s k
 simpa[ofI]using this
theorem zSr{R:List (Int×List Int)}{s:Int}{k:Nat}(h:leftOf R k=s):ofI R s (k+1)=ofI R s k++[(k:Int)]:=by simp[ofI,zP3 h]
theorem zP2{R:List (Int×List Int)}{s:Int}{k:Nat}(h:¬leftOf R k=s):ofI R s (k+1)=ofI R s k:=by simp[ofI,zNY h]
def New(a:Option Addr)(w:World):Prop:=∀x,a=some x->w.heap.size<=x.block
theorem zGp{W w:World}{base n c:Nat}{e:TypeId}{a:Option Addr}{xs:List Value}(h:w.ownsRow base e 1 (.slice a n c) n xs)(hb:W.heap.size<=base):New a W:=by
 rintro x rfl;rcases h.2 with⟨h1,_⟩|⟨g,cap,cur,h1,h2,_⟩
 ·cases h1
 ·simp only[Value.slice.injEq,Option.some.injEq]at h1;obtain⟨rfl,_⟩:=h1;simp;omega
def Listed(l:List Int)(w:World)(e:Ending)(w':World):Prop:=
 ∃a c,e=.returned (.slice a l.length c)/\Sep.Reads a (ivs l) w'/\New a w/\Below w.heap.size w w'
theorem zDX(h:Sh)(G:Gram)(s:Int)(w:World)(k:GAt h G w)(hr:G.rules.length<=65536):
  Calls Tryz.prog 129 #[gv h G,.int .i64 s] w (Listed (ofL G s) w):=by
 obtain⟨i0,hi,hz0,hz1,hz2⟩:=info_parts zAz;obtain⟨a1,c1,a2,c2,a3,c3⟩:=h;have hc3:=k.r2;have X:=zVZ (Bx.start ⟨a1,c1,a2,c2,a3,c3⟩ G w 41);have K:=zVZ (fun w1 (b:Below w.heap.size w w1)=>(k.went b).rules);clear k;have HO:=zVZ (show(w.alloc (.cells #[.slice a1 G.terms.length c1,.slice a2 G.nons.length c2,.slice a3 G.rules.length c3,.int .i64 G.start] 41)).ownsRow (w.heap.size+1) 3 1 (.slice none 0 0) (ofI G.rules s 0).length (ivs (ofI G.rules s 0))from⟨rfl,.inl ⟨rfl,rfl⟩⟩);unfold gv;dsimp only;go_enter Tryz.func129,Tryz.ntmps129;go_wp2;go_loopw [5,11] (fun v i wr=>∃j:Nat,j<=G.rules.length/\i=.int .i64 j/\wr.ownsRow (w.heap.size+1) 3 1 v (ofI G.rules s j).length (ivs (ofI G.rules s j))/\Bx w ⟨a1,c1,a2,c2,a3,c3⟩ G wr) (fun _ i _=>G.rules.length-(intOf i).toNat)
 case atStart=>exact⟨0,Nat.zero_le _,rfl,HO.out,X.out⟩
 case round=>
  obtain⟨j,hj,rfl,hO,hX⟩:=hrel;obtain⟨a',c',rfl⟩:=Sep.zA2 hO;clear HO X;have X:=zVZ hX;have HO:=zVZ hO;have hle:=zRK G.rules s j;clear hO hX
  by_cases hlt:j<G.rules.length
  ·obtain⟨b,o,ra,rc,e,h1,h2,h3,h4,h5⟩:=K.out _ X.out.below j hlt;have e1:=zAt hlt;rw[←e1]at h1;generalize G.rules[j].2=rr at h2 h3 h4 h5
   try dsimp only at e
   subst e;clear e1 h3
   by_cases hs:leftOf G.rules j=s
   ·have HI:=zVZ (zSr hs);subst hs;generalize leftOf G.rules j=s at*;go_wp2_with (at_builtin;go_loud (refine wpList_append_own _ rfl _ _ 29 rfl (w.heap.size+1) 3 i0 (.int .i64 0) 1 8 Tryz.underlying29 hi hz0 hz1 hz2 rfl (by decide) _ _ _ rfl ((HO.out.alloc _).alloc _) ⟨wr.heap.size+1,0,none⟩ 1 1 [iv j] rfl rfl ?c1 ?c2 ?c3 ?c4 ?c5 ?_))
    case c1=>
     intro i u hi
     match i,hi with
     |0,hi=>simp at hi;subst hi;simp[Addr.add,iv]
    case c2=>intro u hu;simp at hu;subst hu;rfl
    case c3=>unfold maxLen;omega
    case c4=>omega
    case c5=>have:=X.out.size;simp;omega
    intro v' w2 hown' hgrow _;have X:=zVZ (((X.out.alloc _).alloc _).grown hgrow fun q hq=>(HO.out.lt q hq).1);have HO:=zVZ (show w2.ownsRow (w.heap.size+1) 3 1 v' (ofI G.rules s (j+1)).length (ivs (ofI G.rules s (j+1)))by rw[HI.out];simpa[ivs]using hown');clear hown' hgrow;go_wp2;go_roundw
    case rel=>exact⟨j+1,by omega,by go_num,HO.out,X.out⟩
    case measure=>simp[intOf];omega
   ·have HI:=zVZ (zP2 hs);have hb:(leftOf G.rules j==s)=false:=by simpa using hs
    clear hs;go_wp2_with (at_builtin;fail);go_roundw
    case rel=>exact⟨j+1,by omega,by go_num,by rw[HI.out];exact HO.out.alloc _,X.out.alloc _⟩
    case measure=>simp[intOf];omega
  ·have hE:j=G.rules.length:=by omega
   subst hE;have HR:=zVZ (Sep.Reads.of_row HO.out);have HN:=zVZ (zGp (W:=w) HO.out (by omega));go_wp2;go_ret;exact⟨_,_,rfl,HR.out,HN.out,X.out.below⟩
