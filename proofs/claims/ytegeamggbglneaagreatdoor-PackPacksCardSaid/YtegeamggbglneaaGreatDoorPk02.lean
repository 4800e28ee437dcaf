/- A part of the proof. -/
import Derived.Maps.OwnSet
import Derived.Maps.AppendAt
import Derived.Below
import Derived.Lib.Hide
import Derived.Deep.Draws
import Derived.Test.YtegeamggbglneaaGreatDoorPk01
import Derived.Test.YtegeamggbglneaaGreatDoorProg
import Derived.WalkKit
import Derived.WalkLawsBesides
import Derived.WalkSpells
import Derived.Deep.Light
import Derived.Deep.RegionHeld3
import Derived.Deep.QuietTactic
import Derived.BigQuiet
import Derived.IntWalk
import Derived.LoopTactic
set_option linter.unusedVariables false
namespace Go.Proofs.YtegeamggbglneaaGreatDoor
theorem zV7{p:Prop}(h:p):Go.RowKit.Hid p:=h
abbrev zV8(w w':Go.World):Prop:=Go.RowKit.Below w.heap.size w w'
namespace Sep
open Go.RowKit
structure Fr (S:Nat->Prop) (w w':World):Prop where
 os:w'.os=w.os
 tape:w'.tape=w.tape
 output:w'.output=w.output
 size:w.heap.size<=w'.heap.size
 block:∀k,k<w.heap.size->¬S k->w'.heap[k]?=w.heap[k]?
def Ext(T S:Nat->Prop)(w:World):Prop:=∀k,T k->S k\/w.heap.size<=k
def Inn(S:Nat->Prop)(w:World):Prop:=∀k,S k->k<w.heap.size
def Off(S T:Nat->Prop):Prop:=∀k,S k->¬T k
theorem Ext.refl(S)(w):Ext S S w:=fun _ h=> .inl h
theorem Ext.trans{S T U}{w w'}(h:Ext T S w)(k:Ext U T w')(hs:w.heap.size<=w'.heap.size):Ext U S w:=fun i hi=>by
 rcases k i hi with h1|h1
 ·exact h i h1
 ·exact .inr (Nat.le_trans hs h1)
theorem Ext.at{S T}{w w'}(h:Ext T S w')(hs:w.heap.size<=w'.heap.size):Ext T S w:=fun i hi=>(h i hi).imp id fun h1=>Nat.le_trans hs h1
theorem Off.ext{S T U}{w}(h:Off S T)(hx:Ext U S w)(hi:Inn T w):Off U T:=fun k hU hT=>by
 rcases hx k hU with h1|h1
 ·exact h k h1 hT
 ·have:=hi k hT;omega
theorem Inn.le{S}{w w'}(h:Inn S w)(hs:w.heap.size<=w'.heap.size):Inn S w':=fun k hk=>Nat.lt_of_lt_of_le (h k hk) hs
theorem Fr.refl(S)(w):Fr S w w:=⟨rfl,rfl,rfl,Nat.le_refl _,fun _ _ _=>rfl⟩
theorem Fr.trans{S T}{a b c}(h:Fr S a b)(k:Fr T b c)(hx:Ext T S a):Fr S a c:=
 ⟨k.os.trans h.os,k.tape.trans h.tape,k.output.trans h.output,Nat.le_trans h.size k.size,fun i hi hS=>(k.block i (Nat.lt_of_lt_of_le hi h.size) (fun hT=>by
  rcases hx i hT with h1|h1
  ·exact hS h1
  ·omega)).trans (h.block i hi hS)⟩
theorem Fr.mono{S T}{a b}(h:Fr S a b)(hx:∀k,S k->T k):Fr T a b:=
 ⟨h.os,h.tape,h.output,h.size,fun i hi hT=>h.block i hi fun hS=>hT (hx i hS)⟩
theorem Fr.drew{S}{a w}(h:Fr S a w):Fr S a w.drew:=⟨h.os,h.tape,h.output,h.size,h.block⟩
theorem Fr.of_below{S}{a b}(h:Below a.heap.size a b):Fr S a b:=⟨h.os,h.tape,h.output,h.size,fun i hi _=>h.block i hi⟩
theorem Fr.below{S}{m}{a b}(h:Fr S a b)(hS:∀k,S k->m<=k)(hs:m<=a.heap.size):Below m a b:=
 ⟨h.os,h.tape,h.output,h.size,fun i hi=>h.block i (by omega) fun h1=>by have:=hS i h1;omega⟩
theorem Fr.alloc{S}{a w}(h:Fr S a w)(o):Fr S a (w.alloc o):=
 h.trans (T:=S) ⟨rfl,rfl,rfl,by simp,fun i hi _=>Below.heap_alloc _ _ _ hi⟩ (.refl _ _)
theorem Fr.setCell{S}{a w}(h:Fr S a w)(p)(hp:S p.block)(u):Fr S a (w.setCell p u):=
 h.trans (T:=S) ⟨rfl,rfl,rfl,by simp[World.setCell],fun i hi hS=>Below.heap_setCell _ _ _ _ (fun e=>hS (e▸hp))⟩ (.refl _ _)
theorem Fr.setNew{S}{a w}(h:Fr S a w)(p)(hp:a.heap.size<=p.block)(u):Fr S a (w.setCell p u):=
 h.trans (T:=fun k=>k=p.block) ⟨rfl,rfl,rfl,by simp[World.setCell],fun i hi hS=>Below.heap_setCell _ _ _ _ hS⟩ (fun k hk=> .inr (by omega))
theorem Fr.grown{S}{a w w'}{row}(h:Fr S a w)(hg:w.grownBy w' row)(hr:∀k,row=some k->S k\/a.heap.size<=k):Fr S a w':=
 h.trans (T:=fun k=>row=some k) ⟨hg.os,hg.tape,hg.output,hg.size,fun i hi hS=>hg.block i hi (fun e=>hS e.symm)⟩ hr
theorem Fr.cell{S}{a w}(h:Fr S a w){p}{v}(hc:a.cell? p=some v)(hp:¬S p.block):w.cell? p=some v:=
 (World.cell?_of_block (h.block _ (World.block_lt_of_cell? a p hc) hp)).trans hc
theorem zAE{w w':World}{base size n}{e}{v}{xs}(h:w.ownsRow base e size v n xs)(hb:∀g,v.ownBlock=some g->w'.heap[g]?=w.heap[g]?):w'.ownsRow base e size v n xs:=by
 obtain⟨h1,h2⟩:=h;refine⟨h1,h2.imp id ?_⟩;rintro⟨g,cap,cur,rfl,hg,hc,r⟩;exact⟨g,cap,cur,rfl,hg,(hb g rfl).trans hc,r⟩
theorem ownsMap_at{H}{P}{k}{R}{w w':World}{b n}{D:DataW H}(h:w.ownsMap P k R b n D)(hb:w'.heap[b]?=w.heap[b]?):w'.ownsMap P k R b n D:=by
 obtain⟨es,c,h1,r⟩:=h;exact⟨es,c,hb.trans h1,r⟩
theorem zBC{w:World}{base n}{e}{v}{xs}(h:w.ownsRow base e 1 v n xs):∃a cap,v=.slice a n cap:=by
 rcases h.2 with⟨rfl,rfl⟩|⟨g,cap,cur,rfl,_⟩
 ·exact⟨_,_,rfl⟩
 ·exact⟨_,_,rfl⟩
def Reads(a:Option Addr)(xs:List Value)(w:World):Prop:=∀i (h:i<xs.length),∃b o,a=some ⟨b,o,none⟩/\w.cell? ⟨b,o+i,none⟩=some xs[i]
theorem Reads.nil(a)(w):Reads a [] w:=fun i h=>absurd h (by simp)
theorem Reads.of_row{w}{base n cap}{e}{a}{xs}(h:w.ownsRow base e 1 (.slice a n cap) n xs):Reads a xs w:=by
 intro i hi;have hl:=h.1;rcases h.2 with⟨h1,h2⟩|⟨g,cap',cur,h1,_⟩
 ·subst h2;rw[hl]at hi;omega
 ·simp only[Value.slice.injEq]at h1;obtain⟨rfl,_,_⟩:=h1;refine⟨g,0,rfl,?_⟩;have:=h.cells (g:=g) rfl i xs[i] (by simp[hi])
  rwa [WideShapes.add_plain]at this
theorem Reads.keep{a}{xs}{w w'}(h:Reads a xs w)(hb:∀b o,a=some ⟨b,o,none⟩->w'.heap[b]?=w.heap[b]?):Reads a xs w':=fun i hi=>by
 obtain⟨b,o,e,hc⟩:=h i hi;exact⟨b,o,e,(World.cell?_of_block (a:=⟨b,o+i,none⟩) (hb b o e)).trans hc⟩
theorem Reads.below{a}{xs}{m}{w w'}(h:Reads a xs w)(hb:Below m w w')(hm:w.heap.size<=m):Reads a xs w':=fun i hi=>by
 obtain⟨b,o,e,hc⟩:=h i hi;have:=World.block_lt_of_cell? w ⟨b,o+i,none⟩ hc;exact⟨b,o,e,hb.cell (p:=⟨b,o+i,none⟩) (by simp at this⊢;omega) |>.trans hc⟩
end Sep
namespace It
open Go.RowKit Go.Maps
def pl:List ByteArray->ByteArray->Option Nat
 |[],_=>none
 |x::r,s=>if x=s then some 0 else(pl r s).map (· +1)
theorem zTZ{L}{s}:pl L s=none↔s∉L:=by
 induction L with
 |nil=>simp[pl]
 |cons x r ih=>
  unfold pl
  by_cases h:x=s
  ·simp[h]
  ·simp[h,ih,Ne.symm h]
theorem zOG{L:List ByteArray}{s:ByteArray}{i:Nat}(h:pl L s=some i):∃hi:i<L.length,L[i]=s/\∀j (hj:j<i),L[j]'(by omega)≠s:=by
 induction L generalizing i with
 |nil=>simp[pl]at h
 |cons x r ih=>
  unfold pl at h
  by_cases hx:x=s
  ·simp[hx]at h;subst h;exact⟨by simp,by simpa using hx,fun j hj=>absurd hj (by omega)⟩
  ·simp only[hx,if_false,Option.map_eq_some_iff]at h;obtain⟨k,hk,rfl⟩:=h;obtain⟨h1,h2,h3⟩:=ih hk;refine⟨by simp;omega,by simpa using h2,fun j hj=>?_⟩;cases j with
   |zero=>simpa using hx
   |succ j=>simpa using h3 j (by omega)
theorem zOF(L:List ByteArray)(s t:ByteArray):pl (L++[s]) t=match pl L t with|some i=>some i|none=>if s=t then some L.length else none:=by
 induction L with
 |nil=>simp[pl]
 |cons x r ih=>
  simp only[List.cons_append,pl]
  by_cases hx:x=t
  ·simp[hx]
  ·simp only[hx,if_false,ih];cases pl r t with
   |some i=>simp
   |none=>by_cases hs:s=t<;>simp[hs]
def isIn(L:List ByteArray)(s:ByteArray):Bool:=(pl L s).isSome
def num(L:List ByteArray)(s:ByteArray):Nat:=(pl L s).getD 0
theorem zRs{L}{s}(h:isIn L s=true):∃hi:num L s<L.length,L[num L s]=s:=by
 unfold isIn at h;obtain⟨i,hi⟩:=Option.isSome_iff_exists.1 h;obtain⟨h1,h2,_⟩:=zOG hi;have:num L s=i:=by simp[num,hi]
 exact⟨by omega,by simpa[this]using h2⟩
theorem zCU{L}{s}:isIn L s=true↔s∈L:=by
 unfold isIn;cases h:pl L s with
 |none=>simpa using zTZ.1 h
 |some i=>
  obtain⟨h1,h2,_⟩:=zOG h
  simpa using h2▸List.getElem_mem h1
theorem zH5(L)(s):isIn (L++[s]) s=true:=zCU.2 (by simp)
theorem zHD{L}{s}(h:isIn L s=false):num (L++[s]) s=L.length:=by
 have hp:pl L s=none:=by
  unfold isIn at h;cases hp:pl L s with
  |none=>rfl
  |some i=>simp[hp]at h
 simp[num,zOF,hp]
theorem zJy{s t:ByteArray}(h:s.data.toList=t.data.toList):s=t:=by
 cases s;cases t
 simpa using h
def zME(L:List ByteArray)(D:DataW Unit):Prop:=∀s:ByteArray,Maps.has D (.string s.data.toList)=isIn L s/\D.atKey (.string s.data.toList) (.lit (.int .i64 0))=.lit (.int .i64 (num L s))
theorem zH8:zME [] (.map []):=fun _=>⟨rfl,rfl⟩
theorem zH9{L}{D}{s}(hD:IsMap D)(hk:WideAt.IsKeyLit (.string s.data.toList))(h:zME L D)(hn:isIn L s=false):zME (L++[s]) (D.put (.string s.data.toList) (.lit (.int .i64 L.length))):=fun t=>by
 by_cases e:s=t
 ·subst e;rw[has_put_same hD hk,atKey_put_same hD hk,zH5,zHD hn];exact⟨rfl,rfl⟩
 ·have hne:(Lit.string t.data.toList)≠.string s.data.toList:=fun h=>e (zJy (by injection h with h;exact h.symm))
  rw[has_put_other hne,atKey_put_other hne,(h t).1,(h t).2]
  have hp:pl (L++[s]) t=pl L t:=by
   rw[zOF];cases pl L t<;>simp[e]
  exact⟨by unfold isIn;rw[hp],by unfold num;rw[hp]⟩
end It
namespace Gr
open Go.RowKit Go.Maps
structure Gram where
 terms:List ByteArray
 nons:List ByteArray
 rules:List (Int×List Int)
 start:Int
def names(G:Gram):List ByteArray:=G.terms++G.nons
def top(G:Gram):Nat:=G.terms.length+G.nons.length
def zEl(G:Gram)(s:Int):Bool:=decide (1<=s/\s<=(G.terms.length:Int))
def nonB(G:Gram)(s:Int):Bool:=decide ((G.terms.length:Int)<s/\s<=(top G:Int))
def zFT(G:Gram)(s:Int):ByteArray:=if s=0 then⟨#[36]⟩else if 1<=s/\s<=(top G:Int)then(names G).getD (s.toNat-1) ⟨#[]⟩else⟨#[]⟩
theorem zAa{G}{s}:nonB G s=true↔(G.terms.length:Int)<s/\s<=(G.terms.length:Int)+(G.nons.length:Int):=by
 unfold nonB top;rw[decide_eq_true_iff];omega
theorem zA9{G}{s}:zEl G s=true↔1<=s/\s<=(G.terms.length:Int):=by
 unfold zEl;rw[decide_eq_true_iff]
theorem zBR(G):(names G).length=top G:=by simp[names,top]
theorem zNm(G):zFT G 0=⟨#[36]⟩:=by simp[zFT]
theorem zQR{G}{s}(h:s<0\/(top G:Int)<s):zFT G s=⟨#[]⟩:=by
 unfold zFT;rw[if_neg (by omega),if_neg (by omega)]
theorem zJO{G}{s}(h:s<top G):zFT G ((s:Int)+1)=(names G)[s]'(by rw[zBR];exact h):=by
 unfold zFT;rw[if_neg (by omega),if_pos (by omega)];have e:((s:Int)+1).toNat-1=s:=by omega
 rw[e];simp[List.getD_eq_getElem?_getD,List.getElem?_eq_getElem (show s<(names G).length by rw[zBR];exact h)]
theorem zNk{G}{s:Nat}(h):zFT G ((s:Int)+1)=G.terms[s]:=by
 rw[zJO (by unfold top;omega)];simp[names,List.getElem_append_left h]
theorem zQQ{G}{s}(h):zFT G (((G.terms.length+s:Nat):Int)+1)=G.nons[s]:=by
 rw[zJO (by unfold top;omega)];simp[names,List.getElem_append_right]
def leftOf(R:List (Int×List Int))(i:Nat):Int:=(R.getD i (0,[])).1
theorem zA4{R}{i}(h):leftOf R i=R[i].1:=by
 simp[leftOf,List.getD_eq_getElem?_getD,List.getElem?_eq_getElem h]
def ofTo(R:List (Int×List Int))(s:Int)(k:Nat):List Nat:=(List.range k).filter fun i=>leftOf R i==s
def ofN(G:Gram)(s:Int):List Nat:=ofTo G.rules s G.rules.length
theorem zQa{R}{s}{k}(h:leftOf R k=s):ofTo R s (k+1)=ofTo R s k++[k]:=by
 simp[ofTo,List.range_succ,List.filter_append,h]
theorem zNu{R}{s}{k}(h:¬leftOf R k=s):ofTo R s (k+1)=ofTo R s k:=by
 simp[ofTo,List.range_succ,List.filter_append,h]
theorem zTM(R)(s)(k):(ofTo R s k).length<=k:=by
 unfold ofTo;exact Nat.le_trans (List.length_filter_le _ _) (by simp)
theorem zQO{R}{s}{k i}:i∈ofTo R s k↔i<k/\leftOf R i=s:=by
 simp[ofTo]
theorem zBy{G}{s}{i}:i∈ofN G s↔i<G.rules.length/\leftOf G.rules i=s:=zQO
def zAY(G:Gram)(i:Int):Bool:=decide (0<=i/\i<=(G.rules.length:Int))
def zAF(G:Gram)(i:Int):Int×List Int:=if i<0\/(G.rules.length:Int)<i then(0,[])else if i=G.rules.length then(0,[G.start])else G.rules.getD i.toNat (0,[])
theorem zKg{G}{i}(h:i<0\/(G.rules.length:Int)<i):zAY G i=false/\zAF G i=(0,[]):=by
 refine⟨?_,by unfold zAF;rw[if_pos h]⟩;unfold zAY;rw[decide_eq_false_iff_not];omega
theorem zA1(G):zAY G G.rules.length=true/\zAF G G.rules.length=(0,[G.start]):=by
 refine⟨by simp[zAY],?_⟩;unfold zAF;rw[if_neg (by omega),if_pos rfl]
theorem zBM{G}{i:Nat}(h):zAY G i=true/\zAF G i=G.rules[i]:=by
 refine⟨by simp[zAY];omega,?_⟩;unfold zAF;rw[if_neg (by omega),if_neg (by omega)];simp[List.getD_eq_getElem?_getD,List.getElem?_eq_getElem h]
def zBj(r q:Int×List Int):Bool:=r.1==q.1&&decide (r.2=q.2)
theorem zFm{r q}:zBj r q=true↔r=q:=by
 obtain⟨a,b⟩:=r;obtain⟨c,d⟩:=q;simp[zBj]
def insB(x:Int):Bool:=decide (33<=x/\x<=126/\x≠39)
def InTo(s:ByteArray)(k:Nat):Prop:=∀j (h:j<s.size),1<=j->j<k->insB ((s[j]'h).toNat:Int)=true
def Closes(s:ByteArray)(k:Nat):Prop:=2<=k/\k<24/\InTo s k/\∃h:k<s.size,(s[k]'h).toNat=39
theorem zPw(s):InTo s 1:=fun j _ h1 h2=>absurd h1 (by omega)
theorem zNC{s}{k}(h:InTo s k)(hk)(hi:insB ((s[k]'hk).toNat:Int)=true):InTo s (k+1):=fun j hj h1 h2=>by
 by_cases e:j=k
 ·subst e;exact hi
 ·exact h j hj h1 (by omega)
theorem zLB{s}{k}(h:Closes s k){i}(hi)(h1:1<=i)(hk:i<k):insB ((s[i]'hi).toNat:Int)=true:=h.2.2.1 i hi h1 hk
noncomputable def quoS(s:ByteArray):Bool:=@decide ((∃h:0<s.size,(s[0]'h).toNat=39)/\∃k,Closes s k/\k+1=s.size) (Classical.propDecidable _)
theorem zLC{s}{k j}(h:Closes s k)(g:Closes s j):k=j:=by
 obtain⟨h1,h2,h3,h4,h5⟩:=h;obtain⟨g1,g2,g3,g4,g5⟩:=g;rcases Nat.lt_trichotomy k j with hlt|rfl|hlt
 ·have:=g3 k h4 (by omega) hlt;rw[h5]at this;simp[insB]at this
 ·rfl
 ·have:=h3 j g4 (by omega) hlt;rw[g5]at this;simp[insB]at this
theorem zU1{s}(h:¬∃h:0<s.size,(s[0]'h).toNat=39):quoS s=false:=by
 unfold quoS;rw[decide_eq_false_iff_not];exact fun k=>h k.1
theorem zQv{s}(h:¬∃k,Closes s k):quoS s=false:=by
 unfold quoS;rw[decide_eq_false_iff_not];exact fun⟨_,k,hk,_⟩=>h ⟨k,hk⟩
theorem zQw{s}{k}(h0:∃h:0<s.size,(s[0]'h).toNat=39)(h:Closes s k):quoS s=decide (k+1=s.size):=by
 unfold quoS;rw[Bool.eq_iff_iff,@decide_eq_true_iff _ (Classical.propDecidable _),decide_eq_true_iff];constructor
 ·rintro⟨_,j,hj,e⟩;rw[zLC h hj];exact e
 ·exact fun e=>⟨h0,k,h,e⟩
def plnS(s:ByteArray):Bool:=decide (s.size<=24)&&Ch.namB s.data.toList
def zB1(G:Gram):Bool:=decide (120<G.terms.length)||decide (120<G.nons.length)||decide (300<G.rules.length)||G.rules.any fun r=>decide (8<r.2.length)
noncomputable def zDg(G:Gram):Bool:=(G.terms.all fun s=>plnS s||quoS s)&&G.nons.all plnS
def zFW(G:Gram):Bool:=decide (names G).Nodup
def zA2(G:Gram):Bool:=nonB G G.start&&G.rules.all fun r=>nonB G r.1&&r.2.all fun x=>decide (1<=x/\x<=(top G:Int))
def zB9(G:Gram):Bool:=decide G.rules.Nodup
def zCu(G:Gram):Bool:=(List.range G.nons.length).all fun i=> !(ofN G ((G.terms.length:Int)+1+i)).isEmpty
noncomputable def checkN(G:Gram):Int:=if zB1 G then 7 else if !zDg G then 10 else if !zFW G then 8 else if !zA2 G then 1 else if !zB9 G then 8 else if !zCu G then 9 else 0
theorem zAl{G}(h:checkN G=0):zB1 G=false/\zDg G=true/\zFW G=true/\zA2 G=true/\zB9 G=true/\zCu G=true:=by
 unfold checkN at h;cases h1:zB1 G<;>cases h2:zDg G<;>cases h3:zFW G<;>cases h4:zA2 G<;>cases h5:zB9 G<;>cases h6:zCu G<;>simp[h1,h2,h3,h4,h5,h6]at h⊢
theorem zBe{G}(h:zA2 G=true){i}(hi:i<G.rules.length):nonB G (leftOf G.rules i)=true:=by
 simp only[zA2,Bool.and_eq_true,List.all_eq_true]at h;rw[zA4 hi];exact(h.2 _ (List.getElem_mem hi)).1
end Gr
namespace Gr
open Go.RowKit Go.Maps
structure Sh where
 a1:Option Addr
 c1:Nat
 a2:Option Addr
 c2:Nat
 a3:Option Addr
 c3:Nat
abbrev gv(h:Sh)(G:Gram):Value:=.agg #[.slice h.a1 G.terms.length h.c1,.slice h.a2 G.nons.length h.c2,.slice h.a3 G.rules.length h.c3,.int .i64 G.start]
def zBZ(a:Option Addr)(R:List (Int×List Int))(w:World):Prop:=
 ∀i (h:i<R.length),∃b o ra rc,a=some ⟨b,o,none⟩/\w.cell? ⟨b,o+i*2,none⟩=some (.int .i64 R[i].1)/\w.cell? ⟨b,o+i*2+1,none⟩=some (.slice ra R[i].2.length rc)/\
  Sep.Reads ra (R[i].2.map (.int .i64)) w/\R[i].2.length<=rc/\R[i].2.length<=17592186044416
theorem zBZ.below{a}{R}{m}{w w'}(h:zBZ a R w)(hb:Below m w w')(hm:w.heap.size<=m):zBZ a R w':=fun i hi=>by
 obtain⟨b,o,ra,rc,e,h1,h2,h3,h4⟩:=h i hi;have k:=World.block_lt_of_cell? w ⟨b,o+i*2,none⟩ h1;refine⟨b,o,ra,rc,e,?_,?_,h3.below hb hm,h4⟩
 ·exact(hb.cell (p:=⟨b,o+i*2,none⟩) (by simp at k⊢;omega)).trans h1
 ·exact(hb.cell (p:=⟨b,o+i*2+1,none⟩) (by simp at k⊢;omega)).trans h2
def Fits(x:Int):Prop:= -9223372036854775808<=x/\x<=9223372036854775807
structure GOk (G:Gram):Prop where
 terms:∀s∈G.terms,s.size<=140737488355328
 nons:∀s∈G.nons,s.size<=140737488355328
 start:Fits G.start
 left:∀r∈G.rules,Fits r.1
 right:∀r∈G.rules,∀x∈r.2,Fits x
structure GAt (h:Sh) (G:Gram) (w:World):Prop where
 terms:Sep.Reads h.a1 (G.terms.map .string) w
 nons:Sep.Reads h.a2 (G.nons.map .string) w
 rules:zBZ h.a3 G.rules w
 t1:G.terms.length<=h.c1
 t2:G.terms.length<=8796093022208
 n2:G.nons.length<=8796093022208
 r1:G.rules.length<=h.c3
 r2:G.rules.length<=4398046511104
 ok:GOk G
theorem GAt.below{h}{G}{m}{w w'}(k:GAt h G w)(hb:Below m w w')(hm:w.heap.size<=m):GAt h G w':=
 ⟨k.terms.below hb hm,k.nons.below hb hm,k.rules.below hb hm,k.t1,k.t2,k.n2,k.r1,k.r2,k.ok⟩
theorem GAt.went{h}{G}{w w'}(k:GAt h G w)(hb:Below w.heap.size w w'):GAt h G w':=k.below hb (Nat.le_refl _)
def Is(v:Value)(w:World)(e:Ending)(w':World):Prop:=e=.returned v/\Below w.heap.size w w'
theorem step{w w1 w2}(h:Below w.heap.size w w1)(k:Below w1.heap.size w1 w2):Below w.heap.size w w2:=h.trans (k.mono h.size)
theorem cell_later{a b}{p}{v}(h:Below a.heap.size a b)(hc:a.cell? p=some v):b.cell? p=some v:=(h.cell (World.block_lt_of_cell? a p hc)).trans hc
theorem boxed(w)(o):Below w.heap.size w (w.alloc o):=(Below.refl _ _).alloc (Nat.le_refl _) o
theorem zAC{w:World}{cs}{T}{n j}{v}(hn:n=w.heap.size)(hv:cs[j]?=some v):(w.alloc (.cells cs T)).cell? ⟨n,j,none⟩=some v:=by
 subst hn
 simpa using hv
theorem zAT{w:World}{o}{p}{v}(h:w.cell? p=some v):(w.alloc o).cell? p=some v:=cell_later (boxed _ _) h
theorem zCS{w:World}{cs}{T}{n j}(hn:n=w.heap.size):(w.alloc (.cells cs T)).frozen? ⟨n,j,none⟩=false:=by
 subst hn;simp
theorem zBJ{w w'}{n i j}{v}(hb:Below w.heap.size w w')(h:w.frozen? ⟨n,j,none⟩=false)(hc:w.cell? ⟨n,i,none⟩=some v):w'.frozen? ⟨n,j,none⟩=false:=
 (hb.frozen (p:=⟨n,j,none⟩) (World.block_lt_of_cell? w ⟨n,i,none⟩ hc)).trans h
theorem drawn(w):Below w.heap.size w w.drew:=(Below.refl _ _).drew
structure Box (q:Nat) (h:Sh) (G:Gram) (w:World):Prop where
 x0:w.cell? ⟨q,0,none⟩=some (.slice h.a1 G.terms.length h.c1)
 x1:w.cell? ⟨q,1,none⟩=some (.slice h.a2 G.nons.length h.c2)
 x2:w.cell? ⟨q,2,none⟩=some (.slice h.a3 G.rules.length h.c3)
 x3:w.cell? ⟨q,3,none⟩=some (.int .i64 G.start)
theorem Box.later{q}{h}{G}{w w'}(k:Box q h G w)(hb:Below w.heap.size w w'):Box q h G w':=
 ⟨cell_later hb k.x0,cell_later hb k.x1,cell_later hb k.x2,cell_later hb k.x3⟩
theorem Box.mk'(h)(G)(w:World)(T):Box w.heap.size h G (w.alloc (.cells #[.slice h.a1 G.terms.length h.c1,.slice h.a2 G.nons.length h.c2,.slice h.a3 G.rules.length h.c3,.int .i64 G.start] T)):=
 ⟨by simp,by simp,by simp,by simp⟩
structure Bx (W:World) (h:Sh) (G:Gram) (w:World):Prop where
 below:Below W.heap.size W w
 box:Box W.heap.size h G w
theorem Bx.start(h)(G)(w)(T):Bx w h G (w.alloc (.cells #[.slice h.a1 G.terms.length h.c1,.slice h.a2 G.nons.length h.c2,.slice h.a3 G.rules.length h.c3,.int .i64 G.start] T)):=
 ⟨boxed _ _,Box.mk' h G w T⟩
theorem Bx.went{W}{h}{G}{w w'}(k:Bx W h G w)(hb:Below w.heap.size w w'):Bx W h G w':=⟨step k.below hb,k.box.later hb⟩
theorem Bx.alloc{W}{h}{G}{w}(k:Bx W h G w)(o):Bx W h G (w.alloc o):=k.went (boxed _ _)
theorem Bx.grown{W}{h}{G}{w w'}{row}(k:Bx W h G w)(hg:w.grownBy w' row)(hr:∀g,row=some g->W.heap.size+1<=g):Bx W h G w':=by
 have e:w'.heap[W.heap.size]?=w.heap[W.heap.size]?:=hg.block _ (World.block_lt_of_cell? w ⟨W.heap.size,0,none⟩ k.box.x0) (fun e=>by have:=hr _ e.symm;omega);refine⟨k.below.grown hg k.below.size (fun g hg=>by have:=hr g hg;omega),?_⟩
 exact⟨(World.cell?_of_block (a:=⟨W.heap.size,0,none⟩) e).trans k.box.x0,(World.cell?_of_block (a:=⟨W.heap.size,1,none⟩) e).trans k.box.x1,
  (World.cell?_of_block (a:=⟨W.heap.size,2,none⟩) e).trans k.box.x2,(World.cell?_of_block (a:=⟨W.heap.size,3,none⟩) e).trans k.box.x3⟩
theorem Bx.size{W}{h}{G}{w}(k:Bx W h G w):W.heap.size+1<=w.heap.size:=World.block_lt_of_cell? w ⟨W.heap.size,0,none⟩ k.box.x0
theorem zAx{x r}(h:x=r):Ending.returned (.int .i64 r)=.returned (.int .i64 x):=by rw[h]
theorem zAD{x r}(h:x=r):Ending.returned (.bool r)=.returned (.bool x):=by rw[h]
theorem zB8(h)(G)(w)(k:GAt h G w):
  Calls Tryz.prog 134 #[gv h G] w (Is (.int .i64 (top G)) w):=by
 have t:=k.t2;have n:=k.n2;clear k;unfold gv;go_enter Tryz.func134,Tryz.ntmps134;go_wp2;go_ret;exact⟨zAx (by unfold top;omega),boxed _ _⟩
theorem zRN(h)(G)(s)(w)(k:GAt h G w):
  Calls Tryz.prog 176 #[gv h G,.int .i64 s] w (Is (.bool (zEl G s)) w):=by
 have t:=k.t2;clear k;unfold gv;go_enter Tryz.func176,Tryz.ntmps176;go_wp2
 all_goals
  go_ret;refine⟨zAD ?_,boxed _ _⟩;go_light;unfold zEl
  first|(rw[decide_eq_true_iff];omega)|(rw[decide_eq_false_iff_not];omega)|(rw[Bool.eq_iff_iff];simp only[decide_eq_true_eq];omega)
theorem zNo(h)(G)(s)(w)(k:GAt h G w):
  Calls Tryz.prog 153 #[gv h G,.int .i64 s] w (Is (.bool (nonB G s)) w):=by
 have t:=k.t2;have T:=zV7 (fun w1 (b:Below w.heap.size w w1)=>zB8 h G w1 (k.went b));clear k;unfold gv;go_enter Tryz.func153,Tryz.ntmps153;go_wp2_with (go_at_call 134;refine(T.out _ (boxed _ _)).mono ?_;rintro e w1 ⟨rfl,hb⟩;have HB:=zV7 (step (boxed _ _) hb);clear hb)
 all_goals
  go_ret;refine⟨zAD ?_,by first|exact HB.out|exact boxed _ _⟩;go_light;unfold nonB
  first|(rw[decide_eq_true_iff];omega)|(rw[decide_eq_false_iff_not];omega)|(rw[Bool.eq_iff_iff];simp only[decide_eq_true_eq];omega)
