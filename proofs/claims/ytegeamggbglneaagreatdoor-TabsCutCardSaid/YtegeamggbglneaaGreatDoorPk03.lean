/- Proof. -/
import Derived.Maps.OwnSet
import Derived.Maps.AppendAt
import Derived.Below
import Derived.Lib.Hide
import Derived.Deep.Draws
import Derived.Test.YtegeamggbglneaaGreatDoorPk02
import Derived.Test.YtegeamggbglneaaGreatDoorProg
import Derived.WalkKit
import Derived.WalkLawsBesides
import Derived.WalkSpells
import Derived.Deep.Light
import Derived.Deep.RegionHeld3
import Derived.Deep.QuietTactic
import Derived.BigQuiet
import Derived.IntWalk
import Derived.LoopTactic
import Derived.Deep.AppendLies
set_option maxHeartbeats 2000000
set_option maxRecDepth 100000
set_option linter.unusedVariables false
namespace Go.Proofs.YtegeamggbglneaaGreatDoor
theorem af{p:Prop}(h:p):Go.RowKit.Hid p:=h
abbrev zWv(w w':Go.World):Prop:=Go.RowKit.Below w.heap.size w w'
namespace Sep
open Go.RowKit
structure Fr (S:Nat->Prop) (w w':World):Prop where
 os:w'.os=w.os
 tape:w'.tape=w.tape
 output:w'.output=w.output
 size:w.heap.size<=w'.heap.size
 block:∀k,k<w.heap.size->¬S k->w'.heap[k]?=w.heap[k]?
def Ext(T S:Nat->Prop)(w:World):Prop:=∀k,T k->S k\/w.heap.size<=k
def di(S:Nat->Prop)(w:World):Prop:=∀k,S k->k<w.heap.size
def Off(S T:Nat->Prop):Prop:=∀k,S k->¬T k
theorem Ext.refl(S)(w):Ext S S w:=fun _ h=> .inl h
theorem Ext.trans{S T U}{w w'}(h:Ext T S w)(k:Ext U T w')(hs:w.heap.size<=w'.heap.size):Ext U S w:=fun i hi=>by
 rcases k i hi with h1|h1
 ·exact h i h1
 ·exact .inr (Nat.le_trans hs h1)
theorem Ext.at{S T}{w w'}(h:Ext T S w')(hs:w.heap.size<=w'.heap.size):Ext T S w:=fun i hi=>(h i hi).imp id fun h1=>Nat.le_trans hs h1
theorem Off.ext{S T U}{w}(h:Off S T)(hx:Ext U S w)(hi:di T w):Off U T:=fun k hU hT=>by
 rcases hx k hU with h1|h1
 ·exact h k h1 hT
 ·have:=hi k hT;omega
theorem di.le{S}{w w'}(h:di S w)(hs:w.heap.size<=w'.heap.size):di S w':=fun k hk=>Nat.lt_of_lt_of_le (h k hk) hs
theorem Fr.refl(S)(w):Fr S w w:=⟨rfl,rfl,rfl,Nat.le_refl _,fun _ _ _=>rfl⟩
theorem Fr.trans{S T}{a b c}(h:Fr S a b)(k:Fr T b c)(hx:Ext T S a):Fr S a c:=
 ⟨k.os.trans h.os,k.tape.trans h.tape,k.output.trans h.output,Nat.le_trans h.size k.size,fun i hi hS=>(k.block i (Nat.lt_of_lt_of_le hi h.size) (fun hT=>by
  rcases hx i hT with h1|h1
  ·exact hS h1
  ·omega)).trans (h.block i hi hS)⟩
theorem Fr.mono{S T}{a b}(h:Fr S a b)(hx:∀k,S k->T k):Fr T a b:=
 ⟨h.os,h.tape,h.output,h.size,fun i hi hT=>h.block i hi fun hS=>hT (hx i hS)⟩
theorem Fr.drew{S}{a w}(h:Fr S a w):Fr S a w.drew:=⟨h.os,h.tape,h.output,h.size,h.block⟩
theorem Fr.drewN{S}{a w}(h:Fr S a w)(m):Fr S a (w.drewN m):=⟨h.os,h.tape,h.output,h.size,h.block⟩
theorem Fr.of_below{S}{a b}(h:Below a.heap.size a b):Fr S a b:=⟨h.os,h.tape,h.output,h.size,fun i hi _=>h.block i hi⟩
theorem Fr.below{S}{m}{a b}(h:Fr S a b)(hS:∀k,S k->m<=k)(hs:m<=a.heap.size):Below m a b:=
 ⟨h.os,h.tape,h.output,h.size,fun i hi=>h.block i (by omega) fun h1=>by have:=hS i h1;omega⟩
theorem Fr.alloc{S}{a w}(h:Fr S a w)(o):Fr S a (w.alloc o):=
 h.trans (T:=S) ⟨rfl,rfl,rfl,by simp,fun i hi _=>Below.heap_alloc _ _ _ hi⟩ (.refl _ _)
theorem Fr.setCell{S}{a w}(h:Fr S a w)(p)(hp:S p.block)(u):Fr S a (w.setCell p u):=
 h.trans (T:=S) ⟨rfl,rfl,rfl,by simp[World.setCell],fun i hi hS=>Below.heap_setCell _ _ _ _ (fun e=>hS (e▸hp))⟩ (.refl _ _)
theorem Fr.kZ{S}{a w}(h:Fr S a w)(p)(hp:a.heap.size<=p.block)(u):Fr S a (w.setCell p u):=
 h.trans (T:=fun k=>k=p.block) ⟨rfl,rfl,rfl,by simp[World.setCell],fun i hi hS=>Below.heap_setCell _ _ _ _ hS⟩ (fun k hk=> .inr (by omega))
theorem Fr.grown{S}{a w w'}{row}(h:Fr S a w)(hg:w.grownBy w' row)(hr:∀k,row=some k->S k\/a.heap.size<=k):Fr S a w':=
 h.trans (T:=fun k=>row=some k) ⟨hg.os,hg.tape,hg.output,hg.size,fun i hi hS=>hg.block i hi (fun e=>hS e.symm)⟩ hr
theorem Fr.cell{S}{a w}(h:Fr S a w){p}{v}(hc:a.cell? p=some v)(hp:¬S p.block):w.cell? p=some v:=
 (World.cell?_of_block (h.block _ (World.block_lt_of_cell? a p hc) hp)).trans hc
theorem bS{w w':World}{base size n}{e}{v}{xs}(h:w.ownsRow base e size v n xs)(hb:∀g,v.ownBlock=some g->w'.heap[g]?=w.heap[g]?):w'.ownsRow base e size v n xs:=by
 obtain⟨h1,h2⟩:=h;refine⟨h1,h2.imp id ?_⟩;rintro⟨g,cap,cur,rfl,hg,hc,r⟩;exact⟨g,cap,cur,rfl,hg,(hb g rfl).trans hc,r⟩
theorem ownsMap_at{H}{P}{k}{R}{w w':World}{b n}{D:DataW H}(h:w.ownsMap P k R b n D)(hb:w'.heap[b]?=w.heap[b]?):w'.ownsMap P k R b n D:=by
 obtain⟨es,c,h1,r⟩:=h;exact⟨es,c,hb.trans h1,r⟩
theorem zK{w:World}{base n}{e}{v}{xs}(h:w.ownsRow base e 1 v n xs):∃a cap,v=.slice a n cap:=by
 rcases h.2 with⟨rfl,rfl⟩|⟨g,cap,cur,rfl,_⟩
 ·exact⟨_,_,rfl⟩
 ·exact⟨_,_,rfl⟩
def Reads(a:Option Addr)(xs:List Value)(w:World):Prop:=∀i (h:i<xs.length),∃b o,a=some ⟨b,o,none⟩/\w.cell? ⟨b,o+i,none⟩=some xs[i]
theorem Reads.nil(a)(w):Reads a [] w:=fun i h=>absurd h (by simp)
theorem Reads.dQ{w}{base n cap}{e}{a}{xs}(h:w.ownsRow base e 1 (.slice a n cap) n xs):Reads a xs w:=by
 intro i hi;have hl:=h.1;rcases h.2 with⟨h1,h2⟩|⟨g,cap',cur,h1,_⟩
 ·subst h2;rw[hl]at hi;omega
 ·simp only[Value.slice.injEq]at h1;obtain⟨rfl,_,_⟩:=h1;refine⟨g,0,rfl,?_⟩;have:=h.cells (g:=g) rfl i xs[i] (by simp[hi])
  rwa [WideShapes.add_plain]at this
theorem Reads.keep{a}{xs}{w w'}(h:Reads a xs w)(hb:∀b o,a=some ⟨b,o,none⟩->w'.heap[b]?=w.heap[b]?):Reads a xs w':=fun i hi=>by
 obtain⟨b,o,e,hc⟩:=h i hi;exact⟨b,o,e,(World.cell?_of_block (a:=⟨b,o+i,none⟩) (hb b o e)).trans hc⟩
theorem Reads.below{a}{xs}{m}{w w'}(h:Reads a xs w)(hb:Below m w w')(hm:w.heap.size<=m):Reads a xs w':=fun i hi=>by
 obtain⟨b,o,e,hc⟩:=h i hi;have:=World.block_lt_of_cell? w ⟨b,o+i,none⟩ hc;exact⟨b,o,e,hb.cell (p:=⟨b,o+i,none⟩) (by simp at this⊢;omega) |>.trans hc⟩
end Sep
namespace It
open Go.RowKit Go.Maps
def pl:List ByteArray->ByteArray->Option Nat
 |[],_=>none
 |x::r,s=>if x=s then some 0 else(pl r s).map (· +1)
theorem zUB{L}{s}:pl L s=none↔s∉L:=by
 induction L with
 |nil=>simp[pl]
 |cons x r ih=>
  unfold pl
  by_cases h:x=s
  ·simp[h]
  ·simp[h,ih,Ne.symm h]
theorem Yd{L:List ByteArray}{s:ByteArray}{i:Nat}(h:pl L s=some i):∃hi:i<L.length,L[i]=s/\∀j (hj:j<i),L[j]'(by omega)≠s:=by
 induction L generalizing i with
 |nil=>simp[pl]at h
 |cons x r ih=>
  unfold pl at h
  by_cases hx:x=s
  ·simp[hx]at h;subst h;exact⟨by simp,by simpa using hx,fun j hj=>absurd hj (by omega)⟩
  ·simp only[hx,if_false,Option.map_eq_some_iff]at h;obtain⟨k,hk,rfl⟩:=h;obtain⟨h1,h2,h3⟩:=ih hk;refine⟨by simp;omega,by simpa using h2,fun j hj=>?_⟩;cases j with
   |zero=>simpa using hx
   |succ j=>simpa using h3 j (by omega)
theorem Yc(L:List ByteArray)(s t:ByteArray):pl (L++[s]) t=match pl L t with|some i=>some i|none=>if s=t then some L.length else none:=by
 induction L with
 |nil=>simp[pl]
 |cons x r ih=>
  simp only[List.cons_append,pl]
  by_cases hx:x=t
  ·simp[hx]
  ·simp only[hx,if_false,ih];cases pl r t with
   |some i=>simp
   |none=>by_cases hs:s=t<;>simp[hs]
def d7(L:List ByteArray)(s:ByteArray):Bool:=(pl L s).isSome
def num(L:List ByteArray)(s:ByteArray):Nat:=(pl L s).getD 0
theorem YP{L}{s}(h:d7 L s=true):∃hi:num L s<L.length,L[num L s]=s:=by
 unfold d7 at h;obtain⟨i,hi⟩:=Option.isSome_iff_exists.1 h;obtain⟨h1,h2,_⟩:=Yd hi;have:num L s=i:=by simp[num,hi]
 exact⟨by omega,by simpa[this]using h2⟩
theorem yE{L}{s}:d7 L s=true↔s∈L:=by
 unfold d7;cases h:pl L s with
 |none=>simpa using zUB.1 h
 |some i=>
  obtain⟨h1,h2,_⟩:=Yd h
  simpa using h2▸List.getElem_mem h1
theorem Vb(L)(s):d7 (L++[s]) s=true:=yE.2 (by simp)
theorem zHJ{L}{s}(h:d7 L s=false):num (L++[s]) s=L.length:=by
 have hp:pl L s=none:=by
  unfold d7 at h;cases hp:pl L s with
  |none=>rfl
  |some i=>simp[hp]at h
 simp[num,Yc,hp]
theorem VK{s t:ByteArray}(h:s.data.toList=t.data.toList):s=t:=by
 cases s;cases t
 simpa using h
def E3(L:List ByteArray)(D:DataW Unit):Prop:=∀s:ByteArray,Maps.has D (.string s.data.toList)=d7 L s/\D.atKey (.string s.data.toList) (.lit (.int .i64 0))=.lit (.int .i64 (num L s))
theorem Vh:E3 [] (.map []):=fun _=>⟨rfl,rfl⟩
theorem Vi{L}{D}{s}(hD:IsMap D)(hk:WideAt.IsKeyLit (.string s.data.toList))(h:E3 L D)(hn:d7 L s=false):E3 (L++[s]) (D.put (.string s.data.toList) (.lit (.int .i64 L.length))):=fun t=>by
 by_cases e:s=t
 ·subst e;rw[has_put_same hD hk,atKey_put_same hD hk,Vb,zHJ hn];exact⟨rfl,rfl⟩
 ·have hne:(Lit.string t.data.toList)≠.string s.data.toList:=fun h=>e (VK (by injection h with h;exact h.symm))
  rw[has_put_other hne,atKey_put_other hne,(h t).1,(h t).2]
  have hp:pl (L++[s]) t=pl L t:=by
   rw[Yc];cases pl L t<;>simp[e]
  exact⟨by unfold d7;rw[hp],by unfold num;rw[hp]⟩
end It
namespace Gr
open Go.RowKit Go.Maps
structure ai where
 terms:List ByteArray
 ah:List ByteArray
 rules:List (Int×List Int)
 start:Int
def names(G:ai):List ByteArray:=G.terms++G.ah
def top(G:ai):Nat:=G.terms.length+G.ah.length
def qb(G:ai)(s:Int):Bool:=decide (1<=s/\s<=(G.terms.length:Int))
def cp(G:ai)(s:Int):Bool:=decide ((G.terms.length:Int)<s/\s<=(top G:Int))
def rO(G:ai)(s:Int):ByteArray:=if s=0 then⟨#[36]⟩else if 1<=s/\s<=(top G:Int)then(names G).getD (s.toNat-1) ⟨#[]⟩else⟨#[]⟩
theorem jN{G}{s}:cp G s=true↔(G.terms.length:Int)<s/\s<=(G.terms.length:Int)+(G.ah.length:Int):=by
 unfold cp top;rw[decide_eq_true_iff];omega
theorem rB{G}{s}:qb G s=true↔1<=s/\s<=(G.terms.length:Int):=by
 unfold qb;rw[decide_eq_true_iff]
theorem zM(G):(names G).length=top G:=by simp[names,top]
theorem zN6(G):rO G 0=⟨#[36]⟩:=by simp[rO]
theorem zQy{G}{s}(h:s<0\/(top G:Int)<s):rO G s=⟨#[]⟩:=by
 unfold rO;rw[if_neg (by omega),if_neg (by omega)]
theorem Od{G}{s}(h:s<top G):rO G ((s:Int)+1)=(names G)[s]'(by rw[zM];exact h):=by
 unfold rO;rw[if_neg (by omega),if_pos (by omega)];have e:((s:Int)+1).toNat-1=s:=by omega
 rw[e];simp[List.getD_eq_getElem?_getD,List.getElem?_eq_getElem (show s<(names G).length by rw[zM];exact h)]
theorem zN4{G}{s:Nat}(h):rO G ((s:Int)+1)=G.terms[s]:=by
 rw[Od (by unfold top;omega)];simp[names,List.getElem_append_left h]
theorem zQx{G}{s}(h):rO G (((G.terms.length+s:Nat):Int)+1)=G.ah[s]:=by
 rw[Od (by unfold top;omega)];simp[names,List.getElem_append_right]
def leftOf(R:List (Int×List Int))(i:Nat):Int:=(R.getD i (0,[])).1
theorem sf{R}{i}(h):leftOf R i=R[i].1:=by
 simp[leftOf,List.getD_eq_getElem?_getD,List.getElem?_eq_getElem h]
def iA(R:List (Int×List Int))(s:Int)(k:Nat):List Nat:=(List.range k).filter fun i=>leftOf R i==s
def dD(G:ai)(s:Int):List Nat:=iA G.rules s G.rules.length
theorem zQ5{R}{s}{k}(h:leftOf R k=s):iA R s (k+1)=iA R s k++[k]:=by
 simp[iA,List.range_succ,List.filter_append,h]
theorem zOD{R}{s}{k}(h:¬leftOf R k=s):iA R s (k+1)=iA R s k:=by
 simp[iA,List.range_succ,List.filter_append,h]
theorem zTv(R)(s)(k):(iA R s k).length<=k:=by
 unfold iA;exact Nat.le_trans (List.length_filter_le _ _) (by simp)
theorem zQv{R}{s}{k i}:i∈iA R s k↔i<k/\leftOf R i=s:=by
 simp[iA]
theorem rF{G}{s}{i}:i∈dD G s↔i<G.rules.length/\leftOf G.rules i=s:=zQv
def cN(G:ai)(i:Int):Bool:=decide (0<=i/\i<=(G.rules.length:Int))
def ax(G:ai)(i:Int):Int×List Int:=if i<0\/(G.rules.length:Int)<i then(0,[])else if i=G.rules.length then(0,[G.start])else G.rules.getD i.toNat (0,[])
theorem WV{G}{i}(h:i<0\/(G.rules.length:Int)<i):cN G i=false/\ax G i=(0,[]):=by
 refine⟨?_,by unfold ax;rw[if_pos h]⟩;unfold cN;rw[decide_eq_false_iff_not];omega
theorem nK(G):cN G G.rules.length=true/\ax G G.rules.length=(0,[G.start]):=by
 refine⟨by simp[cN],?_⟩;unfold ax;rw[if_neg (by omega),if_pos rfl]
theorem nN{G}{i:Nat}(h):cN G i=true/\ax G i=G.rules[i]:=by
 refine⟨by simp[cN];omega,?_⟩;unfold ax;rw[if_neg (by omega),if_neg (by omega)];simp[List.getD_eq_getElem?_getD,List.getElem?_eq_getElem h]
def iF(r q:Int×List Int):Bool:=r.1==q.1&&decide (r.2=q.2)
theorem MX{r q}:iF r q=true↔r=q:=by
 obtain⟨a,b⟩:=r;obtain⟨c,d⟩:=q;simp[iF]
def nj(x:Int):Bool:=decide (33<=x/\x<=126/\x≠39)
def qg(s:ByteArray)(k:Nat):Prop:=∀j (h:j<s.size),1<=j->j<k->nj ((s[j]'h).toNat:Int)=true
def Closes(s:ByteArray)(k:Nat):Prop:=2<=k/\k<24/\qg s k/\∃h:k<s.size,(s[k]'h).toNat=39
theorem zQQ(s):qg s 1:=fun j _ h1 h2=>absurd h1 (by omega)
theorem zNV{s}{k}(h:qg s k)(hk)(hi:nj ((s[k]'hk).toNat:Int)=true):qg s (k+1):=fun j hj h1 h2=>by
 by_cases e:j=k
 ·subst e;exact hi
 ·exact h j hj h1 (by omega)
theorem zLM{s}{k}(h:Closes s k){i}(hi)(h1:1<=i)(hk:i<k):nj ((s[i]'hi).toNat:Int)=true:=h.2.2.1 i hi h1 hk
noncomputable def jH(s:ByteArray):Bool:=@decide ((∃h:0<s.size,(s[0]'h).toNat=39)/\∃k,Closes s k/\k+1=s.size) (Classical.propDecidable _)
theorem zLN{s}{k j}(h:Closes s k)(g:Closes s j):k=j:=by
 obtain⟨h1,h2,h3,h4,h5⟩:=h;obtain⟨g1,g2,g3,g4,g5⟩:=g;rcases Nat.lt_trichotomy k j with hlt|rfl|hlt
 ·have:=g3 k h4 (by omega) hlt;rw[h5]at this;simp[nj]at this
 ·rfl
 ·have:=h3 j g4 (by omega) hlt;rw[g5]at this;simp[nj]at this
theorem zVg{s}(h:¬∃h:0<s.size,(s[0]'h).toNat=39):jH s=false:=by
 unfold jH;rw[decide_eq_false_iff_not];exact fun k=>h k.1
theorem zRS{s}(h:¬∃k,Closes s k):jH s=false:=by
 unfold jH;rw[decide_eq_false_iff_not];exact fun⟨_,k,hk,_⟩=>h ⟨k,hk⟩
theorem zRT{s}{k}(h0:∃h:0<s.size,(s[0]'h).toNat=39)(h:Closes s k):jH s=decide (k+1=s.size):=by
 unfold jH;rw[Bool.eq_iff_iff,@decide_eq_true_iff _ (Classical.propDecidable _),decide_eq_true_iff];constructor
 ·rintro⟨_,j,hj,e⟩;rw[zLN h hj];exact e
 ·exact fun e=>⟨h0,k,h,e⟩
def fo(s:ByteArray):Bool:=decide (s.size<=24)&&Ch.nt s.data.toList
def jv(G:ai):Bool:=decide (120<G.terms.length)||decide (120<G.ah.length)||decide (300<G.rules.length)||G.rules.any fun r=>decide (8<r.2.length)
noncomputable def oI(G:ai):Bool:=(G.terms.all fun s=>fo s||jH s)&&G.ah.all fo
def rP(G:ai):Bool:=decide (names G).Nodup
def iE(G:ai):Bool:=cp G G.start&&G.rules.all fun r=>cp G r.1&&r.2.all fun x=>decide (1<=x/\x<=(top G:Int))
def sI(G:ai):Bool:=decide G.rules.Nodup
def rM(G:ai):Bool:=(List.range G.ah.length).all fun i=> !(dD G ((G.terms.length:Int)+1+i)).isEmpty
noncomputable def checkN(G:ai):Int:=if jv G then 7 else if !oI G then 10 else if !rP G then 8 else if !iE G then 1 else if !sI G then 8 else if !rM G then 9 else 0
theorem lM{G}(h:checkN G=0):jv G=false/\oI G=true/\rP G=true/\iE G=true/\sI G=true/\rM G=true:=by
 unfold checkN at h;cases h1:jv G<;>cases h2:oI G<;>cases h3:rP G<;>cases h4:iE G<;>cases h5:sI G<;>cases h6:rM G<;>simp[h1,h2,h3,h4,h5,h6]at h⊢
theorem wH{G}(h:iE G=true){i}(hi:i<G.rules.length):cp G (leftOf G.rules i)=true:=by
 simp only[iE,Bool.and_eq_true,List.all_eq_true]at h;rw[sf hi];exact(h.2 _ (List.getElem_mem hi)).1
end Gr
namespace Gr
open Go.RowKit Go.Maps
structure Sh where
 a1:Option Addr
 c1:Nat
 a2:Option Addr
 c2:Nat
 a3:Option Addr
 c3:Nat
abbrev gv(h:Sh)(G:ai):Value:=.agg #[.slice h.a1 G.terms.length h.c1,.slice h.a2 G.ah.length h.c2,.slice h.a3 G.rules.length h.c3,.int .i64 G.start]
def pE(a:Option Addr)(R:List (Int×List Int))(w:World):Prop:=
 ∀i (h:i<R.length),∃b o ra rc,a=some ⟨b,o,none⟩/\w.cell? ⟨b,o+i*2,none⟩=some (.int .i64 R[i].1)/\w.cell? ⟨b,o+i*2+1,none⟩=some (.slice ra R[i].2.length rc)/\
  Sep.Reads ra (R[i].2.map (.int .i64)) w/\R[i].2.length<=rc/\R[i].2.length<=17592186044416
theorem pE.below{a}{R}{m}{w w'}(h:pE a R w)(hb:Below m w w')(hm:w.heap.size<=m):pE a R w':=fun i hi=>by
 obtain⟨b,o,ra,rc,e,h1,h2,h3,h4⟩:=h i hi;have k:=World.block_lt_of_cell? w ⟨b,o+i*2,none⟩ h1;refine⟨b,o,ra,rc,e,?_,?_,h3.below hb hm,h4⟩
 ·exact(hb.cell (p:=⟨b,o+i*2,none⟩) (by simp at k⊢;omega)).trans h1
 ·exact(hb.cell (p:=⟨b,o+i*2+1,none⟩) (by simp at k⊢;omega)).trans h2
def Fits(x:Int):Prop:= -9223372036854775808<=x/\x<=9223372036854775807
structure Pq (G:ai):Prop where
 terms:∀s∈G.terms,s.size<=140737488355328
 ah:∀s∈G.ah,s.size<=140737488355328
 start:Fits G.start
 left:∀r∈G.rules,Fits r.1
 right:∀r∈G.rules,∀x∈r.2,Fits x
structure bI (h:Sh) (G:ai) (w:World):Prop where
 terms:Sep.Reads h.a1 (G.terms.map .string) w
 ah:Sep.Reads h.a2 (G.ah.map .string) w
 rules:pE h.a3 G.rules w
 t1:G.terms.length<=h.c1
 t2:G.terms.length<=8796093022208
 n2:G.ah.length<=8796093022208
 r1:G.rules.length<=h.c3
 r2:G.rules.length<=4398046511104
 ok:Pq G
theorem bI.below{h}{G}{m}{w w'}(k:bI h G w)(hb:Below m w w')(hm:w.heap.size<=m):bI h G w':=
 ⟨k.terms.below hb hm,k.ah.below hb hm,k.rules.below hb hm,k.t1,k.t2,k.n2,k.r1,k.r2,k.ok⟩
theorem bI.went{h}{G}{w w'}(k:bI h G w)(hb:Below w.heap.size w w'):bI h G w':=k.below hb (Nat.le_refl _)
def Is(v:Value)(w:World)(e:Ending)(w':World):Prop:=e=.returned v/\Below w.heap.size w w'
theorem step{w w1 w2}(h:Below w.heap.size w w1)(k:Below w1.heap.size w1 w2):Below w.heap.size w w2:=h.trans (k.mono h.size)
theorem cell_later{a b}{p}{v}(h:Below a.heap.size a b)(hc:a.cell? p=some v):b.cell? p=some v:=(h.cell (World.block_lt_of_cell? a p hc)).trans hc
theorem boxed(w)(o):Below w.heap.size w (w.alloc o):=(Below.refl _ _).alloc (Nat.le_refl _) o
theorem bg{w:World}{cs}{T}{n j}{v}(hn:n=w.heap.size)(hv:cs[j]?=some v):(w.alloc (.cells cs T)).cell? ⟨n,j,none⟩=some v:=by
 subst hn
 simpa using hv
theorem gI{w:World}{o}{p}{v}(h:w.cell? p=some v):(w.alloc o).cell? p=some v:=cell_later (boxed _ _) h
theorem yC{w:World}{cs}{T}{n j}(hn:n=w.heap.size):(w.alloc (.cells cs T)).frozen? ⟨n,j,none⟩=false:=by
 subst hn;simp
theorem pU{w w'}{n i j}{v}(hb:Below w.heap.size w w')(h:w.frozen? ⟨n,j,none⟩=false)(hc:w.cell? ⟨n,i,none⟩=some v):w'.frozen? ⟨n,j,none⟩=false:=
 (hb.frozen (p:=⟨n,j,none⟩) (World.block_lt_of_cell? w ⟨n,i,none⟩ hc)).trans h
theorem drawn(w):Below w.heap.size w w.drew:=(Below.refl _ _).drew
structure oJ (q:Nat) (h:Sh) (G:ai) (w:World):Prop where
 x0:w.cell? ⟨q,0,none⟩=some (.slice h.a1 G.terms.length h.c1)
 x1:w.cell? ⟨q,1,none⟩=some (.slice h.a2 G.ah.length h.c2)
 x2:w.cell? ⟨q,2,none⟩=some (.slice h.a3 G.rules.length h.c3)
 x3:w.cell? ⟨q,3,none⟩=some (.int .i64 G.start)
theorem oJ.later{q}{h}{G}{w w'}(k:oJ q h G w)(hb:Below w.heap.size w w'):oJ q h G w':=
 ⟨cell_later hb k.x0,cell_later hb k.x1,cell_later hb k.x2,cell_later hb k.x3⟩
theorem oJ.mk'(h)(G)(w:World)(T):oJ w.heap.size h G (w.alloc (.cells #[.slice h.a1 G.terms.length h.c1,.slice h.a2 G.ah.length h.c2,.slice h.a3 G.rules.length h.c3,.int .i64 G.start] T)):=
 ⟨by simp,by simp,by simp,by simp⟩
structure Bx (W:World) (h:Sh) (G:ai) (w:World):Prop where
 below:Below W.heap.size W w
 box:oJ W.heap.size h G w
theorem Bx.start(h)(G)(w)(T):Bx w h G (w.alloc (.cells #[.slice h.a1 G.terms.length h.c1,.slice h.a2 G.ah.length h.c2,.slice h.a3 G.rules.length h.c3,.int .i64 G.start] T)):=
 ⟨boxed _ _,oJ.mk' h G w T⟩
theorem Bx.went{W}{h}{G}{w w'}(k:Bx W h G w)(hb:Below w.heap.size w w'):Bx W h G w':=⟨step k.below hb,k.box.later hb⟩
theorem Bx.alloc{W}{h}{G}{w}(k:Bx W h G w)(o):Bx W h G (w.alloc o):=k.went (boxed _ _)
theorem Bx.grown{W}{h}{G}{w w'}{row}(k:Bx W h G w)(hg:w.grownBy w' row)(hr:∀g,row=some g->W.heap.size+1<=g):Bx W h G w':=by
 have e:w'.heap[W.heap.size]?=w.heap[W.heap.size]?:=hg.block _ (World.block_lt_of_cell? w ⟨W.heap.size,0,none⟩ k.box.x0) (fun e=>by have:=hr _ e.symm;omega);refine⟨k.below.grown hg k.below.size (fun g hg=>by have:=hr g hg;omega),?_⟩
 exact⟨(World.cell?_of_block (a:=⟨W.heap.size,0,none⟩) e).trans k.box.x0,(World.cell?_of_block (a:=⟨W.heap.size,1,none⟩) e).trans k.box.x1,
  (World.cell?_of_block (a:=⟨W.heap.size,2,none⟩) e).trans k.box.x2,(World.cell?_of_block (a:=⟨W.heap.size,3,none⟩) e).trans k.box.x3⟩
theorem Bx.size{W}{h}{G}{w}(k:Bx W h G w):W.heap.size+1<=w.heap.size:=World.block_lt_of_cell? w ⟨W.heap.size,0,none⟩ k.box.x0
theorem jP{x r}(h:x=r):Ending.returned (.int .i64 r)=.returned (.int .i64 x):=by rw[h]
theorem aU{x r}(h:x=r):Ending.returned (.bool r)=.returned (.bool x):=by rw[h]
theorem sD(h)(G)(w)(k:bI h G w):
  Calls Tryz.prog 134 #[gv h G] w (Is (.int .i64 (top G)) w):=by
 have t:=k.t2;have n:=k.n2;clear k;unfold gv;go_enter Tryz.func134,Tryz.ntmps134;go_wp2;go_ret;exact⟨jP (by unfold top;omega),boxed _ _⟩
theorem zRw(h)(G)(s)(w)(k:bI h G w):
  Calls Tryz.prog 176 #[gv h G,.int .i64 s] w (Is (.bool (qb G s)) w):=by
 have t:=k.t2;clear k;unfold gv;go_enter Tryz.func176,Tryz.ntmps176;go_wp2
 all_goals
  go_ret;refine⟨aU ?_,boxed _ _⟩;go_light;unfold qb
  first|(rw[decide_eq_true_iff];omega)|(rw[decide_eq_false_iff_not];omega)|(rw[Bool.eq_iff_iff];simp only[decide_eq_true_eq];omega)
theorem Xq(h)(G)(s)(w)(k:bI h G w):
  Calls Tryz.prog 153 #[gv h G,.int .i64 s] w (Is (.bool (cp G s)) w):=by
 have t:=k.t2;have T:=af (fun w1 (b:Below w.heap.size w w1)=>sD h G w1 (k.went b));clear k;unfold gv;go_enter Tryz.func153,Tryz.ntmps153;go_wp2_with (go_at_call 134;refine(T.out _ (boxed _ _)).mono ?_;rintro e w1 ⟨rfl,hb⟩;have HB:=af (step (boxed _ _) hb);clear hb)
 all_goals
  go_ret;refine⟨aU ?_,by first|exact HB.out|exact boxed _ _⟩;go_light;unfold cp
  first|(rw[decide_eq_true_iff];omega)|(rw[decide_eq_false_iff_not];omega)|(rw[Bool.eq_iff_iff];simp only[decide_eq_true_eq];omega)
end Gr
namespace Gr
open Go.RowKit Go.Maps
theorem VC{x r}(h:x=r):Ending.returned (.string r)=.returned (.string x):=by rw[h]
theorem Nu(h)(G)(s)(w)(k:bI h G w):
  Calls Tryz.prog 152 #[gv h G,.int .i64 s] w (Is (.string (rO G s)) w):=by
 have T:=af (fun w1 (b:Below w.heap.size w w1)=>zRw h G s w1 (k.went b));have N:=af (fun w1 (b:Below w.heap.size w w1)=>Xq h G s w1 (k.went b));have X:=af (Bx.start h G w 47);have t:=k.t2;have n:=k.n2
 by_cases h0:s=0
 ·subst h0;have E:=af (zN6 G);clear k T N;unfold gv;go_enter Tryz.func152,Tryz.ntmps152;go_wp2;go_ret;exact⟨VC E.out,X.out.below⟩
 ·by_cases h1:1<=s/\s<=(G.terms.length:Int)
  ·obtain⟨j,rfl⟩:∃j:Nat,s=(j:Int)+1:=⟨(s-1).toNat,by omega⟩;have hj:j<G.terms.length:=by omega
   have E:=af (zN4 hj);have e1:=rB.2 h1;rw[e1]at T;obtain⟨a1,c1,a2,c2,a3,c3⟩:=h;obtain⟨b,o,e,hc⟩:=k.terms j (by simpa using hj);dsimp only at e;subst e;simp only[List.getElem_map]at hc;have HC:=af (fun w1 (b:Below w.heap.size w w1)=>cell_later b hc);clear hc k N e1 h1 h0;generalize rO G ((j:Int)+1)=x at E⊢;have hx:=E.out;subst hx;unfold gv;dsimp only;go_enter Tryz.func152,Tryz.ntmps152;go_wp2_with (go_at_call 176;refine(T.out _ X.out.below).mono ?_;rintro e w1 ⟨rfl,hb⟩;have X:=af (X.out.went hb);obtain⟨x0,x1,x2,x3⟩:=X.out.box;have hc:=HC.out _ X.out.below;clear hb);go_ret;exact⟨rfl,X.out.below⟩
  ·have e1:qb G s=false:=by rw[←Bool.not_eq_true,rB];exact h1
   rw[e1]at T
   by_cases h2:(G.terms.length:Int)<s/\s<=(G.terms.length:Int)+(G.ah.length:Int)
   ·obtain⟨j,rfl⟩:∃j:Nat,s=((G.terms.length+j:Nat):Int)+1:=⟨(s-1-G.terms.length).toNat,by omega⟩;have hj:j<G.ah.length:=by omega
    have E:=af (zQx hj);have e2:=jN.2 h2;rw[e2]at N;obtain⟨a1,c1,a2,c2,a3,c3⟩:=h;obtain⟨b,o,e,hc⟩:=k.ah j (by simpa using hj);dsimp only at e;subst e;simp only[List.getElem_map]at hc;have HC:=af (fun w1 (b:Below w.heap.size w w1)=>cell_later b hc);clear hc k e1 e2 h1 h2 h0;generalize rO G (((G.terms.length+j:Nat):Int)+1)=x at E⊢;have hx:=E.out;subst hx;unfold gv;dsimp only;have hi1:((G.terms.length+j:Nat):Int)+1-(G.terms.length:Int)=(j:Int)+1:=by omega
    have hi2:(G.terms.length:Int)+(j:Int)+1-(G.terms.length:Int)=(j:Int)+1:=by omega
    go_enter Tryz.func152,Tryz.ntmps152
    go_wp2_with (first
     |(go_at_call 176;refine(T.out _ X.out.below).mono ?_;rintro e w1 ⟨rfl,hb⟩;have X:=af (X.out.went hb);obtain⟨x0,x1,x2,x3⟩:=X.out.box;clear hb)
     | (go_at_call 153;refine(N.out _ X.out.below).mono ?_;rintro e w1 ⟨rfl,hb⟩;have X:=af (X.out.went hb);obtain⟨x0,x1,x2,x3⟩:=X.out.box;have hc:=HC.out _ X.out.below;clear hb))
    go_ret;exact⟨rfl,X.out.below⟩
   ·have e2:cp G s=false:=by rw[←Bool.not_eq_true,jN];exact h2
    rw[e2]at N;have E:=af (zQy (G:=G) (s:=s) (by unfold top;omega));clear k e1 e2 h1 h2;unfold gv;go_enter Tryz.func152,Tryz.ntmps152
    go_wp2_with (first
     |(go_at_call 176;refine(T.out _ X.out.below).mono ?_;rintro e w1 ⟨rfl,hb⟩;have X:=af (X.out.went hb);obtain⟨x0,x1,x2,x3⟩:=X.out.box;clear hb)
     | (go_at_call 153;refine(N.out _ X.out.below).mono ?_;rintro e w1 ⟨rfl,hb⟩;have X:=af (X.out.went hb);obtain⟨x0,x1,x2,x3⟩:=X.out.box;clear hb))
    go_ret;exact⟨VC E.out,X.out.below⟩
end Gr
namespace Gr
open Go.RowKit Go.Maps
theorem pB:(Tryz.prog.info? 3).map (fun i=>(i.zero,i.size,i.bytes))=some (some (.int .i64 0),1,8):=by kernel_rfl
def iv(i:Int):Value:=.int .i64 i
def aN(l:List Int):List Value:=l.map iv
theorem Ut(l):(aN l).length=l.length:=by simp[aN]
def km(R:List (Int×List Int))(s:Int)(k:Nat):List Int:=(iA R s k).map fun i:Nat=>(i:Int)
def oC(G:ai)(s:Int):List Int:=km G.rules s G.rules.length
theorem GF(G)(s):(oC G s).length=(dD G s).length:=by simp[oC,km,dD]
theorem YQ(R)(s)(k):(km R s k).length<=k:=by
 have:=zTv R s k
 simpa[km]using this
theorem zTu{R}{s}{k}(h:leftOf R k=s):km R s (k+1)=km R s k++[(k:Int)]:=by simp[km,zQ5 h]
theorem zQ4{R}{s}{k}(h:¬leftOf R k=s):km R s (k+1)=km R s k:=by simp[km,zOD h]
def New(a:Option Addr)(w:World):Prop:=∀x,a=some x->w.heap.size<=x.block
theorem Ia{W w:World}{base n c}{e}{a}{xs}(h:w.ownsRow base e 1 (.slice a n c) n xs)(hb:W.heap.size<=base):New a W:=by
 rintro x rfl;rcases h.2 with⟨h1,_⟩|⟨g,cap,cur,h1,h2,_⟩
 ·cases h1
 ·simp only[Value.slice.injEq,Option.some.injEq]at h1;obtain⟨rfl,_⟩:=h1;simp;omega
def Listed(l:List Int)(w:World)(e:Ending)(w':World):Prop:=
 ∃a c,e=.returned (.slice a l.length c)/\Sep.Reads a (aN l) w'/\New a w/\Below w.heap.size w w'
theorem pF(h:Sh)(G:ai)(s:Int)(w:World)(k:bI h G w)(hr:G.rules.length<=65536):
  Calls Tryz.prog 156 #[gv h G,.int .i64 s] w (Listed (oC G s) w):=by
 obtain⟨i0,hi,hz0,hz1,hz2⟩:=info_parts pB;obtain⟨a1,c1,a2,c2,a3,c3⟩:=h;have hc3:=k.r2;have X:=af (Bx.start ⟨a1,c1,a2,c2,a3,c3⟩ G w 47);have K:=af (fun w1 (b:Below w.heap.size w w1)=>(k.went b).rules);clear k;have HO:=af (show(w.alloc (.cells #[.slice a1 G.terms.length c1,.slice a2 G.ah.length c2,.slice a3 G.rules.length c3,.int .i64 G.start] 47)).ownsRow (w.heap.size+1) 3 1 (.slice none 0 0) (km G.rules s 0).length (aN (km G.rules s 0))from⟨rfl,.inl ⟨rfl,rfl⟩⟩);unfold gv;dsimp only;go_enter Tryz.func156,Tryz.ntmps156;go_wp2;go_loopw [5,11] (fun v i wr=>∃j:Nat,j<=G.rules.length/\i=.int .i64 j/\wr.ownsRow (w.heap.size+1) 3 1 v (km G.rules s j).length (aN (km G.rules s j))/\Bx w ⟨a1,c1,a2,c2,a3,c3⟩ G wr) (fun _ i _=>G.rules.length-(intOf i).toNat)
 case atStart=>exact⟨0,Nat.zero_le _,rfl,HO.out,X.out⟩
 case round=>
  obtain⟨j,hj,rfl,hO,hX⟩:=hrel;obtain⟨a',c',rfl⟩:=Sep.zK hO;clear HO X;have X:=af hX;have HO:=af hO;have hle:=YQ G.rules s j;clear hO hX
  by_cases hlt:j<G.rules.length
  ·obtain⟨b,o,ra,rc,e,h1,h2,h3,h4,h5⟩:=K.out _ X.out.below j hlt;have e1:=sf hlt;rw[←e1]at h1;generalize G.rules[j].2=rr at h2 h3 h4 h5
   try dsimp only at e
   subst e;clear e1 h3
   by_cases hs:leftOf G.rules j=s
   ·have HI:=af (zTu hs);subst hs;generalize leftOf G.rules j=s at*;go_wp2_with (at_builtin;go_loud (refine wpList_append_own _ rfl _ _ 29 rfl (w.heap.size+1) 3 i0 (.int .i64 0) 1 8 Tryz.underlying29 hi hz0 hz1 hz2 rfl (by decide) _ _ _ rfl ((HO.out.alloc _).alloc _) ⟨wr.heap.size+1,0,none⟩ 1 1 [iv j] rfl rfl ?c1 ?c2 ?c3 ?c4 ?c5 ?_))
    case c1=>
     intro i u hi
     match i,hi with
     |0,hi=>simp at hi;subst hi;simp[Addr.add,iv]
    case c2=>intro u hu;simp at hu;subst hu;rfl
    case c3=>unfold maxLen;omega
    case c4=>omega
    case c5=>have:=X.out.size;simp;omega
    intro v' w2 hown' hgrow _;have X:=af (((X.out.alloc _).alloc _).grown hgrow fun q hq=>(HO.out.lt q hq).1);have HO:=af (show w2.ownsRow (w.heap.size+1) 3 1 v' (km G.rules s (j+1)).length (aN (km G.rules s (j+1)))by rw[HI.out];simpa[aN]using hown');clear hown' hgrow;go_wp2;go_roundw
    case rel=>exact⟨j+1,by omega,by go_num,HO.out,X.out⟩
    case measure=>simp[intOf];omega
   ·have HI:=af (zQ4 hs);have hb:(leftOf G.rules j==s)=false:=by simpa using hs
    clear hs;go_wp2_with (at_builtin;fail);go_roundw
    case rel=>exact⟨j+1,by omega,by go_num,by rw[HI.out];exact HO.out.alloc _,X.out.alloc _⟩
    case measure=>simp[intOf];omega
  ·have hE:j=G.rules.length:=by omega
   subst hE;have HR:=af (Sep.Reads.dQ HO.out);have HN:=af (Ia (W:=w) HO.out (by omega));go_wp2;go_ret;exact⟨_,_,rfl,HR.out,HN.out,X.out.below⟩
end Gr
namespace Fi
open Gr (ai cp qb rB)
inductive Can (G:ai):Int->Prop
 |mk (r:Int×List Int):r∈G.rules->(∀y∈r.2,Can G y)->Can G r.1
inductive nQ (G:ai):Int->Int->Prop
 |leaf {x:Int}:x=0\/qb G x=true->nQ G x x
 |rule {r:Int×List Int} {pre:List Int} {y:Int} {post:List Int} {t:Int}:r∈G.rules->r.2=pre++y::post->(∀z∈pre,Can G z)->nQ G y t->nQ G r.1 t
def mM(G:ai)(l:List Int)(t:Int):Prop:=∃pre y post,l=pre++y::post/\(∀z∈pre,Can G z)/\nQ G y t
inductive oL (G:ai):Int->Int->Prop
 |start:oL G G.start 0
 |next {r:Int×List Int} {pre:List Int} {x:Int} {post:List Int} {t:Int}:r∈G.rules->r.2=pre++x::post->cp G x=true->mM G post t->oL G x t
 |last {r:Int×List Int} {pre:List Int} {x:Int} {post:List Int} {t:Int}:r∈G.rules->r.2=pre++x::post->cp G x=true->(∀z∈post,Can G z)->oL G r.1 t->oL G x t
theorem MI{G}{t}:¬mM G [] t:=fun⟨pre,y,post,h,_⟩=>by
 cases pre<;>cases h
theorem GD{G}{y}{l}{t}:mM G (y::l) t↔nQ G y t\/(Can G y/\mM G l t):=by
 constructor
 ·rintro⟨pre,z,post,h,hc,hf⟩;cases pre with
  |nil=>
   injection h with h1 h2
   subst h1;exact .inl hf
  |cons a pre=>
   injection h with h1 h2
   subst h1;exact .inr ⟨hc _ (List.mem_cons_self ..),pre,z,post,h2,fun w hw=>hc w (List.mem_cons_of_mem _ hw),hf⟩
 ·rintro(h|⟨h1,pre,z,post,h2,h3,h4⟩)
  ·exact⟨[],y,l,rfl,(fun z hz=>by cases hz),h⟩
  ·refine⟨y::pre,z,post,by rw[h2];rfl,fun w hw=>?_,h4⟩;rcases List.mem_cons.1 hw with e|e
   ·subst e;exact h1
   ·exact h3 w e
theorem nQ.line{G}{r}{t}(hr:r∈G.rules)(h:mM G r.2 t):nQ G r.1 t:=by
 obtain⟨pre,y,post,h1,h2,h3⟩:=h;exact .rule hr h1 h2 h3
theorem zNG{G}{x t}(h:nQ G x t):0<=t/\t<=(G.terms.length:Int):=by
 induction h with
 |leaf h=>
  rcases h with h|h
  ·omega
  ·have:=rB.1 h;omega
 |rule _ _ _ _ ih=>exact ih
theorem DV{G}{l}{t}(h:mM G l t):0<=t/\t<=(G.terms.length:Int):=by
 obtain⟨_,_,_,_,_,h⟩:=h;exact zNG h
theorem zNC{G}{x t}(h:oL G x t):0<=t/\t<=(G.terms.length:Int):=by
 induction h with
 |start=>omega
 |next _ _ _ h=>exact DV h
 |last _ _ _ _ _ ih=>exact ih
def bC(C:Int->Bool)(l:List Int):Bool:=l.all C
def dz(C:Int->Bool)(F:Int->Int->Bool):List Int->Int->Bool
 |[],_=>false
 |y::l,t=>F y t||(C y&&dz C F l t)
theorem yA{C}{l}:bC C l=true↔∀z∈l,C z=true:=by
 unfold bC;exact List.all_eq_true
theorem zQ{C}{F}{l}{t}:dz C F l t=true↔∃pre y post,l=pre++y::post/\(∀z∈pre,C z=true)/\F y t=true:=by
 induction l with
 |nil=>
  constructor
  ·intro h;cases h
  ·rintro⟨pre,y,post,h,_⟩;cases pre<;>cases h
 |cons a l ih=>
  unfold dz;rw[Bool.or_eq_true,Bool.and_eq_true,ih];constructor
  ·rintro(h|⟨h1,pre,z,post,h2,h3,h4⟩)
   ·exact⟨[],a,l,rfl,(fun z hz=>by cases hz),h⟩
   ·refine⟨a::pre,z,post,by rw[h2];rfl,fun w hw=>?_,h4⟩;rcases List.mem_cons.1 hw with e|e
    ·subst e;exact h1
    ·exact h3 w e
  ·rintro⟨pre,z,post,h,hc,hf⟩;cases pre with
   |nil=>
    injection h with h1 h2
    subst h1;exact .inl hf
   |cons b pre=>
    injection h with h1 h2
    subst h1;exact .inr ⟨hc _ (List.mem_cons_self ..),pre,z,post,h2,fun w hw=>hc w (List.mem_cons_of_mem _ hw),hf⟩
structure oO (G:ai) (C:Int->Bool) (F:Int->Int->Bool):Prop where
 can:∀x,C x=true->Can G x
 fst:∀x t,F x t=true->nQ G x t
def lT(G:ai)(F:Int->Int->Bool):Prop:=∀x,x=0\/qb G x=true->F x x=true
structure Shut (C:Int->Bool) (F:Int->Int->Bool) (r:Int×List Int):Prop where
 can:bC C r.2=true->C r.1=true
 fst:∀t,dz C F r.2 t=true->F r.1 t=true
theorem oO.line{G}{C}{F}(h:oO G C F){l}{t}(hl:dz C F l t=true):mM G l t:=by
 obtain⟨pre,y,post,h1,h2,h3⟩:=zQ.1 hl;exact⟨pre,y,post,h1,fun z hz=>h.can z (h2 z hz),h.fst y t h3⟩
structure gy (G:ai) (C:Int->Bool) (F:Int->Int->Bool):Prop where
 can:∀x,C x=true↔Can G x
 fst:∀x t,F x t=true↔nQ G x t
theorem XI{G}{C}{F}(h:oO G C F)(hl:lT G F)(hs:∀r∈G.rules,Shut C F r):gy G C F:=by
 have hc:∀x,Can G x->C x=true:=fun x k=>by
  induction k with
  |mk r hr _ ih=>exact(hs r hr).can (yA.2 fun z hz=>ih z hz)
 refine⟨fun x=>⟨h.can x,hc x⟩,fun x t=>⟨h.fst x t,fun k=>?_⟩⟩
 induction k with
 |leaf k=>exact hl _ k
 |rule hr h1 h2 _ ih=>exact(hs _ hr).fst _ (zQ.2 ⟨_,_,_,h1,fun z hz=>hc z (h2 z hz),ih⟩)
theorem gy.all{G}{C}{F}(h:gy G C F)(l):bC C l=true↔∀z∈l,Can G z:=by
 rw[yA];exact⟨fun k z hz=>(h.can z).1 (k z hz),fun k z hz=>(h.can z).2 (k z hz)⟩
theorem gy.line{G}{C}{F}(h:gy G C F)(l)(t):dz C F l t=true↔mM G l t:=by
 rw[zQ];constructor
 ·rintro⟨pre,y,post,h1,h2,h3⟩;exact⟨pre,y,post,h1,fun z hz=>(h.can z).1 (h2 z hz),(h.fst y t).1 h3⟩
 ·rintro⟨pre,y,post,h1,h2,h3⟩;exact⟨pre,y,post,h1,fun z hz=>(h.can z).2 (h2 z hz),(h.fst y t).2 h3⟩
def eu(C:Int->Bool)(r:Int×List Int):Int->Bool:=fun x=>C x||(decide (x=r.1)&&bC C r.2)
def dx(C:Int->Bool)(F:Int->Int->Bool)(r:Int×List Int):Int->Int->Bool:=fun x t=>F x t||(decide (x=r.1)&&dz C F r.2 t)
theorem oO.dx{G}{C}{F}(h:oO G C F){r}(hr:r∈G.rules):oO G C (dx C F r):=by
 refine⟨h.can,fun x t k=>?_⟩;unfold Fi.dx at k;rw[Bool.or_eq_true,Bool.and_eq_true,decide_eq_true_iff]at k;rcases k with k|⟨e,k⟩
 ·exact h.fst x t k
 ·subst e;exact .line hr (h.line k)
theorem UL{C}{r}(h:bC C r.2=true->C r.1=true):eu C r=C:=by
 funext x
 unfold eu
 by_cases e:x=r.1
 ·subst e;cases ha:bC C r.2 with
  |false=>simp
  |true=>simp[h ha]
 ·simp[e]
theorem zMb{C}{F}{r}(h:∀t,dz C F r.2 t=true->F r.1 t=true):dx C F r=F:=by
 funext x t
 unfold dx
 by_cases e:x=r.1
 ·subst e;cases ha:dz C F r.2 t with
  |false=>simp
  |true=>simp[h t ha]
 ·simp[e]
structure jy (G:ai) (B:Int->Int->Bool):Prop where
 JH:∀x t,B x t=true->oL G x t
def Y6(G:ai)(C:Int->Bool)(F B:Int->Int->Bool)(r:Int×List Int):Prop:=
 ∀pre x post,r.2=pre++x::post->cp G x=true->(∀t,dz C F post t=true->B x t=true)/\(bC C post=true->∀t,B r.1 t=true->B x t=true)
theorem zMg{G}{C}{F B}(j:gy G C F)(h:jy G B)(h0:B G.start 0=true)(hs:∀r∈G.rules,Y6 G C F B r):∀x t,B x t=true↔oL G x t:=fun x t=>by
 refine⟨h.JH x t,fun k=>?_⟩
 induction k with
 |start=>exact h0
 |next hr h1 h2 h3=>exact(hs _ hr _ _ _ h1 h2).1 _ ((j.line _ _).2 h3)
 |last hr h1 h2 h3 _ ih=>exact(hs _ hr _ _ _ h1 h2).2 ((j.all _).2 h3) _ ih
theorem jy.put{G}{B}(h:jy G B){x}{P:Int->Bool}(hP:∀t,P t=true->oL G x t):jy G (fun y t=>B y t||(decide (y=x)&&P t)):=by
 refine⟨fun y t k=>?_⟩;rw[Bool.or_eq_true,Bool.and_eq_true,decide_eq_true_iff]at k;rcases k with k|⟨e,k⟩
 ·exact h.JH y t k
 ·subst e;exact hP t k
noncomputable def aD(G:ai)(x:Int):Bool:=@decide (Can G x) (Classical.propDecidable _)
noncomputable def aK(G:ai)(x t:Int):Bool:=@decide (nQ G x t) (Classical.propDecidable _)
noncomputable def gB(G:ai)(x t:Int):Bool:=@decide (oL G x t) (Classical.propDecidable _)
theorem rG{G}{x}:aD G x=true↔Can G x:=by unfold aD;exact @decide_eq_true_iff _ (Classical.propDecidable _)
theorem Ej{G}{x t}:aK G x t=true↔nQ G x t:=by unfold aK;exact @decide_eq_true_iff _ (Classical.propDecidable _)
theorem zQA{G}{x t}:gB G x t=true↔oL G x t:=by unfold gB;exact @decide_eq_true_iff _ (Classical.propDecidable _)
theorem YA(G):gy G (aD G) (aK G):=⟨fun _=>rG,fun _ _=>Ej⟩
theorem gy.eq{G}{C}{F}(h:gy G C F):C=aD G/\F=aK G:=by
 constructor
 ·funext x
  rw[Bool.eq_iff_iff,h.can,rG]
 ·funext x t
  rw[Bool.eq_iff_iff,h.fst,Ej]
def jo(P:Int->Bool)(n:Nat):List Int:=((List.range n).filter fun i:Nat=>P (i:Int)).map fun i:Nat=>(i:Int)
theorem zX{P}{n}{t}:t∈jo P n↔0<=t/\t<(n:Int)/\P t=true:=by
 unfold jo;rw[List.mem_map];constructor
 ·rintro⟨i,hi,rfl⟩;rw[List.mem_filter,List.mem_range]at hi;exact⟨by omega,by omega,hi.2⟩
 ·rintro⟨h0,h1,h2⟩;have e:((t.toNat:Nat):Int)=t:=by omega
  exact⟨t.toNat,by rw[List.mem_filter,List.mem_range];exact⟨by omega,by rw[e];exact h2⟩,e⟩
theorem XK(P)(n):(jo P n).length<=n:=by
 unfold jo;rw[List.length_map];exact Nat.le_trans (List.length_filter_le _ _) (by simp)
theorem zQo{P}{n}(h:∀i:Nat,i<n->P (i:Int)=false):jo P n=[]:=by
 rw[List.eq_nil_iff_forall_not_mem];intro t ht;obtain⟨h0,h1,h2⟩:=zX.1 ht;have:=h t.toNat (by omega);have e:((t.toNat:Nat):Int)=t:=by omega
 rw[e,h2]at this;cases this
def mN(P:Int->Bool):Nat->Nat
 |0=>0
 |n+1=>mN P n+if P (n:Int)=true then 0 else 1
theorem Nr{P Q}{n}(h:∀i:Nat,i<n->P (i:Int)=true->Q (i:Int)=true):mN Q n<=mN P n:=by
 induction n with
 |zero=>exact Nat.le_refl _
 |succ n ih=>
  have h1:=ih fun i hi=>h i (by omega)
  unfold mN
  by_cases hp:P (n:Int)=true
  ·rw[if_pos hp,if_pos (h n (by omega) hp)];exact h1
  ·rw[if_neg hp];split<;>omega
theorem Ns{P Q}{n k}(h:∀i:Nat,i<n->P (i:Int)=true->Q (i:Int)=true)(hk:k<n)(hp:P (k:Int)=false)(hq:Q (k:Int)=true):mN Q n<mN P n:=by
 induction n with
 |zero=>omega
 |succ n ih=>
  unfold mN
  by_cases e:k=n
  ·subst e;have h1:=Nr (n:=k) fun i hi=>h i (by omega)
   rw[if_pos hq,if_neg (by rw[hp];decide)];omega
  ·have h1:=ih (fun i hi=>h i (by omega)) (by omega)
   by_cases hp2:P (n:Int)=true
   ·rw[if_pos hp2,if_pos (h n (by omega) hp2)];exact h1
   ·rw[if_neg hp2];split<;>omega
def mO(F:Int->Int->Bool)(m:Nat):Nat->Nat
 |0=>0
 |n+1=>mO F m n+mN (F (n:Int)) m
theorem zQw{F H}{m n}(h:∀x t:Nat,x<n->t<m->F (x:Int) (t:Int)=true->H (x:Int) (t:Int)=true):mO H m n<=mO F m n:=by
 induction n with
 |zero=>exact Nat.le_refl _
 |succ n ih=>exact Nat.add_le_add (ih fun x t hx=>h x t (by omega)) (Nr fun t ht=>h n t (by omega) ht)
theorem Wy{F H}{m n k}(h:∀x t:Nat,x<n->t<m->F (x:Int) (t:Int)=true->H (x:Int) (t:Int)=true)(hk:k<n)(hr:mN (H (k:Int)) m<mN (F (k:Int)) m):mO H m n<mO F m n:=by
 induction n with
 |zero=>omega
 |succ n ih=>
  show mO H m n+mN (H (n:Int)) m<mO F m n+mN (F (n:Int)) m
  by_cases e:k=n
  ·subst e;have:=zQw (F:=F) (H:=H) (m:=m) (n:=k) fun x t hx=>h x t (by omega)
   omega
  ·have h1:=ih (fun x t hx=>h x t (by omega)) (by omega);have h2:=Nr (P:=F (n:Int)) (Q:=H (n:Int)) (n:=m) fun t ht=>h n t (by omega) ht
   omega
end Fi
namespace Gr
open Go.RowKit Go.Maps
theorem zUL{w:World}{base n c}{e}{a}{xs}(h:w.ownsRow base e 1 (.slice a n c) n xs):n<=c:=by
 rcases h.2 with⟨h1,h2⟩|⟨g,cap,cur,h1,_,_,h3,_⟩
 ·omega
 ·simp only[Value.slice.injEq]at h1;omega
