/- A part of the proof. -/
import Derived.Deep.AppendLies
import Derived.Test.YtkcaedinfnajaaaGreatDoorPk03
import Derived.Lib.SmallJoins
import Derived.Deep.Slices
import Derived.Deep.SlicePairs
import Derived.ChangeSame
import Derived.SliceStrings
import Derived.SizedLaws
import Derived.Carry
set_option maxRecDepth 100000
set_option linter.unusedVariables false
set_option linter.unusedSimpArgs false
namespace Go.Proofs.YtkcaedinfnajaaaGreatDoor
namespace Rw
open Go.RowKit Go.Maps
theorem zFG{P:Program}(w:World)(t ty:TypeId)(base:Nat)(e:TypeId)(i:TypeInfo)(z:Value)(size bytes:Nat)(ht:P.underlying t=some (.slice e))(hi:P.info? e=some i)(hz:i.zero=some z)
  (hsize:i.size=size) (hby:i.bytes=bytes) (hzs:z.cells.size=size) (hpos:0<size) (v:Value) (n:Nat) (xs:List Value) (hown:w.ownsRow base e size v n xs)
  (base2:Nat) (v2:Value) (m:Nat) (ys:List Value) (hown2:w.ownsRow base2 e size v2 m ys) (h1:∀u∈ys,u.oneCell'=true)
  (h63:n+m<=maxLen) (hbytes:(n+m)*bytes<=140737488355328) (hbase:base<=w.heap.size):
  ∃v' w',(Builtin.append_ #[t,t] ty #[v,v2]).run P w=.ok v' w'/\w'.ownsRow base e size v' (n+m) (xs++ys)/\w.grownBy w' v.ownBlock/\(v'.ownBlock=v.ownBlock\/v'.ownBlock=some w.heap.size):=by
 have hlen:=hown2.1;rcases hown2.2 with⟨rfl,rfl⟩|⟨g2,cap2,cur2,rfl,hbg2,hg2,hnc2,hcm2,hcs2,htake2⟩
 ·have h0:ys=[]:=List.eq_nil_of_length_eq_zero (by simpa using hlen);subst h0;refine⟨v,w,?_,by simpa using hown,⟨rfl,rfl,rfl,Nat.le_refl _,fun _ _ _=>rfl⟩,.inl rfl⟩;rcases hown.2 with⟨rfl,rfl⟩|⟨g,cap,cur,rfl,hbg,hg,hnc,hcm,hcs,htake⟩
  ·simp[Builtin.append_,run_underlying ht,sizeOf,typeInfo,hi,Builtin.lenOf,Builtin.firstCells]
  ·simp[Builtin.append_,run_underlying ht,sizeOf,typeInfo,hi,Builtin.lenOf,Builtin.firstCells,loadCells,storeCells,hnc]
 ·obtain⟨v',w',h2,h3,h4,_,h5⟩:=run_append_own_at (P:=P) w base t ty e i z size bytes ht hi hz hsize hby hzs hpos v n xs hown ⟨g2,0,none⟩ m cap2 ys hlen (hown2.cells rfl) h1 h63 hbytes hbase;exact⟨v',w',h2,h3,h4,h5⟩
theorem zC7{P:Program}(w:World){o:Oper}{a:Act}{K:Act->World->Prop}{Q:Exit->Act->World->Prop}(s x:Operand)(t:TypeId)
  (ho:o.op=.call {callee:=.builtin .append,args:=#[s,x],argTypes:=#[t,t]})
  (base:Nat) (e:TypeId) (i:TypeInfo) (z:Value) (size bytes:Nat) (ht:P.underlying t=some (.slice e)) (hi:P.info? e=some i) (hz:i.zero=some z)
  (hsize:i.size=size) (hby:i.bytes=bytes) (hzs:z.cells.size=size) (hpos:0<size) (v:Value) (n:Nat) (xs:List Value) (hs:a.eval s=v) (hown:w.ownsRow base e size v n xs)
  (base2:Nat) (v2:Value) (m:Nat) (ys:List Value) (hx:a.eval x=v2) (hown2:w.ownsRow base2 e size v2 m ys) (h1:∀u∈ys,u.oneCell'=true)
  (h63:n+m<=maxLen) (hbytes:(n+m)*bytes<=140737488355328) (hbase:base<=w.heap.size)
  (h:∀v' w',w'.ownsRow base e size v' (n+m) (xs++ys)->w.grownBy w' v.ownBlock->(v'.ownBlock=v.ownBlock\/v'.ownBlock=some w.heap.size)->K (a.put o.dst v') w'):o.wp P a w K Q:=by
 obtain⟨v',w',hr,h2,h3,h4⟩:=zFG (P:=P) w t o.type base e i z size bytes ht hi hz hsize hby hzs hpos v n xs hown base2 v2 m ys hown2 h1 h63 hbytes hbase;unfold Oper.wp execOp;simp only[ho,resolve,invoke,builtin,Sem.run_bind,Sem.run_pure,Result.andThen_ok,List.map_toArray,List.map_cons,List.map_nil,hs,hx,hr];exact h v' w' h2 h3 h4
theorem zAM{P:Program}(w:World){ops:Array Oper}{rest:List Oper}{o:Oper}{a:Act}{Q:Exit->Act->World->Prop}(hgd:o.guard=none)(s x:Operand)(t:TypeId)
  (ho:o.op=.call {callee:=.builtin .append,args:=#[s,x],argTypes:=#[t,t]})
  (base:Nat) (e:TypeId) (i:TypeInfo) (z:Value) (size bytes:Nat) (ht:P.underlying t=some (.slice e)) (hi:P.info? e=some i) (hz:i.zero=some z)
  (hsize:i.size=size) (hby:i.bytes=bytes) (hzs:z.cells.size=size) (hpos:0<size) (v:Value) (n:Nat) (xs:List Value) (hs:a.eval s=v) (hown:w.ownsRow base e size v n xs)
  (base2:Nat) (v2:Value) (m:Nat) (ys:List Value) (hx:a.eval x=v2) (hown2:w.ownsRow base2 e size v2 m ys) (h1:∀u∈ys,u.oneCell'=true)
  (h63:n+m<=maxLen) (hbytes:(n+m)*bytes<=140737488355328) (hbase:base<=w.heap.size)
  (h:∀v' w',w'.ownsRow base e size v' (n+m) (xs++ys)->w.grownBy w' v.ownBlock->(v'.ownBlock=v.ownBlock\/v'.ownBlock=some w.heap.size)->wpList P ops Q rest (a.put o.dst v') w'):wpList P ops Q (o::rest) a w:=
 wpList_plain hgd fun _ hK=>zC7 w s x t ho base e i z size bytes ht hi hz hsize hby hzs hpos v n xs hs hown base2 v2 m ys hx hown2 h1 h63 hbytes hbase fun v' w' h2 h3 h4=>hK _ _ (h v' w' h2 h3 h4)
theorem zAG{P:Program}(w:World){ops:Array Oper}{o:Oper}{a:Act}{K:Act->World->Prop}{Q:Exit->Act->World->Prop}{E:Prop}(hgd:o.guard=none)(s x:Operand)(t:TypeId)
  (ho:o.op=.call {callee:=.builtin .append,args:=#[s,x],argTypes:=#[t,t]})
  (base:Nat) (e:TypeId) (i:TypeInfo) (z:Value) (size bytes:Nat) (ht:P.underlying t=some (.slice e)) (hi:P.info? e=some i) (hz:i.zero=some z)
  (hsize:i.size=size) (hby:i.bytes=bytes) (hzs:z.cells.size=size) (hpos:0<size) (v:Value) (n:Nat) (xs:List Value) (hs:a.eval s=v) (hown:w.ownsRow base e size v n xs)
  (base2:Nat) (v2:Value) (m:Nat) (ys:List Value) (hx:a.eval x=v2) (hown2:w.ownsRow base2 e size v2 m ys) (h1:∀u∈ys,u.oneCell'=true)
  (h63:n+m<=maxLen) (hbytes:(n+m)*bytes<=140737488355328) (hbase:base<=w.heap.size)
  (h:∀v' w',w'.ownsRow base e size v' (n+m) (xs++ys)->w.grownBy w' v.ownBlock->(v'.ownBlock=v.ownBlock\/v'.ownBlock=some w.heap.size)->K (a.put o.dst v') w'):
  if Region.wanted o (yielded ops a.tmps)=true then Oper.wp P o a w K Q else E:=by
 have hw:Region.wanted o (yielded ops a.tmps)=true:=by simp[Region.wanted,hgd]
 rw[if_pos hw];exact zC7 w s x t ho base e i z size bytes ht hi hz hsize hby hzs hpos v n xs hs hown base2 v2 m ys hx hown2 h1 h63 hbytes hbase h
theorem zAH{w:World}{base size n:Nat}{e:TypeId}{v:Value}{xs:List Value}(h:w.ownsRow base e size v n xs):∃a cap,v=.slice a n cap:=by
 rcases h.2 with⟨rfl,rfl⟩|⟨g,cap,cur,rfl,_⟩
 ·exact⟨_,_,rfl⟩
 ·exact⟨_,_,rfl⟩
theorem zBY{w:World}{b b' size n:Nat}{e:TypeId}{v:Value}{xs:List Value}(h:w.ownsRow b e size v n xs)(hb:b'<=b):w.ownsRow b' e size v n xs:=by
 obtain⟨h1,h2⟩:=h;refine⟨h1,h2.imp id ?_⟩;rintro⟨g,cap,cur,h3,h4,h5⟩;exact⟨g,cap,cur,h3,Nat.le_trans hb h4,h5⟩
def Bk(q:Nat)(cs:Array Value)(T:TypeId)(w:World):Prop:=w.heap[q]?=some (.cells cs T)
theorem Bk.new(w:World)(cs:Array Value)(T:TypeId)(n:Nat)(hn:n=w.heap.size):Bk n cs T (w.alloc (.cells cs T)):=by
 subst hn;exact heap_alloc_new w _
theorem Bk.lt{q:Nat}{cs:Array Value}{T:TypeId}{w:World}(h:Bk q cs T w):q<w.heap.size:=by
 rcases Nat.lt_or_ge q w.heap.size with h1|h1
 ·exact h1
 ·unfold Bk at h;rw[Array.getElem?_eq_none h1]at h;cases h
theorem Bk.fr{q:Nat}{cs:Array Value}{T:TypeId}{S:Nat->Prop}{w w':World}(h:Bk q cs T w)(k:Sep.Fr S w w')(hq:¬S q):Bk q cs T w':=(k.block q h.lt hq).trans h
theorem Bk.went{q:Nat}{cs:Array Value}{T:TypeId}{w w':World}(h:Bk q cs T w)(k:Below w.heap.size w w'):Bk q cs T w':=(k.block q h.lt).trans h
theorem Bk.cell{q:Nat}{cs:Array Value}{T:TypeId}{w:World}(h:Bk q cs T w){j:Nat}{v:Value}(hv:cs[j]?=some v):w.cell? ⟨q,j,none⟩=some v:=by
 unfold Bk at h;simp[World.cell?,h,hv]
theorem Bk.free{q:Nat}{cs:Array Value}{T:TypeId}{w:World}(h:Bk q cs T w)(j:Nat):w.frozen? ⟨q,j,none⟩=false:=by
 unfold Bk at h;simp[World.frozen?,h]
theorem zDf(w:World)(a:Addr)(v:Value):(w.setCell a v).heap.size=w.heap.size:=by simp[World.setCell]
theorem Bk.set{q j:Nat}{cs:Array Value}{T:TypeId}{w:World}(h:Bk q cs T w)(hj:j<cs.size)(v:Value):Bk q (cs.setIfInBounds j v) T (w.setCell ⟨q,j,none⟩ v):=by
 unfold Bk at h⊢;obtain⟨hl,h⟩:=Array.getElem?_eq_some_iff.1 h;rw[Array.getElem?_eq_some_iff];refine⟨by rw[zDf];exact hl,?_⟩;simp[World.setCell,Array.getElem_modify,h]
theorem Bk.two{q:Nat}{a b:Value}{T:TypeId}{w:World}(h:Bk q #[a,b] T w):w.cell? ⟨q,0,none⟩=some a/\w.cell? ⟨q,1,none⟩=some b/\(∀j,w.frozen? ⟨q,j,none⟩=false):=⟨h.cell rfl,h.cell rfl,h.free⟩
theorem zDr{S:Nat->Prop}{w w1 w2:World}(h:Sep.Fr S w w1)(k:Below w1.heap.size w1 w2):Sep.Fr S w w2:=h.trans (Sep.Fr.of_below (S:=S) k) fun _ hk=> .inl hk
theorem zBQ{α:Type}(f:α->List Value)(hf:∀x,(f x).length=2)(L:List α)(j:Nat)(hj:j<L.length)(i:Nat)(hi:i<2):(L.flatMap f)[j*2+i]?=(f L[j])[i]?:=by
 induction L generalizing j with
 |nil=>simp at hj
 |cons t T ih=>
  rw[List.flatMap_cons];cases j with
  |zero=>rw[List.getElem?_append_left (by rw[hf];omega)];simp
  |succ j=>
   rw[List.getElem?_append_right (by rw[hf];omega),hf,show(j+1)*2+i-2=j*2+i by omega,ih j (by simpa using hj)];simp
end Rw
namespace Im
open Go.RowKit Go.Maps
def ic(x:Itm):List Value:=[.int .i64 x.1,.int .i64 x.2]
theorem zA7(x:Itm):(ic x).length=2:=rfl
theorem zAg(X:List Itm):(X.flatMap ic).length=X.length*2:=by
 induction X with
 |nil=>rfl
 |cons x X ih=>
  rw[List.flatMap_cons,List.length_append,ih,zA7,List.length_cons];omega
theorem zSY(X:List Itm):∀u∈X.flatMap ic,u.oneCell'=true:=fun u hu=>by
 rw[List.mem_flatMap]at hu;obtain⟨x,_,h⟩:=hu;simp only[ic,List.mem_cons,List.not_mem_nil,or_false]at h;rcases h with rfl|rfl<;>rfl
theorem zK3(X Y:List Itm):(X++Y).flatMap ic=X.flatMap ic++Y.flatMap ic:=List.flatMap_append
theorem zPV(X:List Itm)(k:Nat):(X.take k).flatMap ic=(X.flatMap ic).take (k*2):=by
 induction X generalizing k with
 |nil=>simp
 |cons x X ih=>
  cases k with
  |zero=>simp
  |succ k=>
   rw[List.take_succ_cons,List.flatMap_cons,ih,List.flatMap_cons,show(k+1)*2=(ic x).length+k*2 by rw[zA7];omega,List.take_append,List.take_of_length_le (Nat.le_add_right ..)];simp
def ItsA(a:Option Addr)(X:List Itm)(w:World):Prop:=Sep.Reads a (X.flatMap ic) w
theorem ItsA.nil(a:Option Addr)(w:World):ItsA a [] w:=Sep.Reads.nil a w
theorem ItsA.keep{a:Option Addr}{X:List Itm}{w w':World}(h:ItsA a X w)(hb:∀b o,a=some ⟨b,o,none⟩->w'.heap[b]?=w.heap[b]?):ItsA a X w':=Sep.Reads.keep h hb
theorem ItsA.below{a:Option Addr}{X:List Itm}{m:Nat}{w w':World}(h:ItsA a X w)(hb:Below m w w')(hm:w.heap.size<=m):ItsA a X w':=Sep.Reads.below h hb hm
theorem ItsA.went{a:Option Addr}{X:List Itm}{w w':World}(h:ItsA a X w)(hb:Below w.heap.size w w'):ItsA a X w':=h.below hb (Nat.le_refl _)
theorem ItsA.at{a:Option Addr}{X:List Itm}{w:World}(h:ItsA a X w)(i:Nat)(hi:i<X.length):
  ∃b o,a=some ⟨b,o,none⟩/\w.cell? ⟨b,o+i*2,none⟩=some (.int .i64 X[i].1)/\w.cell? ⟨b,o+i*2+1,none⟩=some (.int .i64 X[i].2):=by
 have hl:=zAg X;obtain⟨b,o,e,h0⟩:=h (i*2) (by omega);obtain⟨b',o',e',h1⟩:=h (i*2+1) (by omega);rw[e]at e';simp only[Option.some.injEq,Addr.mk.injEq,and_true]at e';obtain⟨rfl,rfl⟩:=e';have g0:=Rw.zBQ ic zA7 X i hi 0 (by omega);have g1:=Rw.zBQ ic zA7 X i hi 1 (by omega);rw[List.getElem?_eq_getElem (by omega)]at g0 g1;refine⟨b,o,e,?_,?_⟩
 ·rw[h0];rw[←Option.some.injEq]at g0;exact congrArg some (by simpa[ic]using g0)
 ·rw[show o+i*2+1=o+(i*2+1)by omega,h1];exact congrArg some (by simpa[ic]using g1)
theorem ItsA.take{a:Option Addr}{X:List Itm}{w:World}(h:ItsA a X w)(k:Nat):ItsA a (X.take k) w:=fun i hi=>by
 have hl:=zAg X;have hi':=hi;rw[zAg,List.length_take]at hi;obtain⟨b,o,e,hc⟩:=h i (by omega);refine⟨b,o,e,?_⟩;rw[hc]
 congr 1
 simp only[zPV,List.getElem_take]
def ItsV(T:TypeId)(base:Nat)(X:List Itm)(v:Value)(w:World):Prop:=w.ownsRow base T 2 v X.length (X.flatMap ic)
theorem ItsV.nil(T:TypeId)(base:Nat)(w:World):ItsV T base [] (.slice none 0 0) w:=World.ownsRow_nil _ _ _ _
theorem ItsV.keep{T:TypeId}{base:Nat}{X:List Itm}{v:Value}{w w':World}(h:ItsV T base X v w)(hb:∀g,v.ownBlock=some g->w'.heap[g]?=w.heap[g]?):ItsV T base X v w':=Sep.zAD h hb
theorem ItsV.went{T:TypeId}{base:Nat}{X:List Itm}{v:Value}{w w':World}(h:ItsV T base X v w)(hb:Below w.heap.size w w'):ItsV T base X v w':=h.keep fun g hg=>hb.block g (World.ownsRow.lt h g hg).2
theorem ItsV.mono{T:TypeId}{b b':Nat}{X:List Itm}{v:Value}{w:World}(h:ItsV T b X v w)(hb:b'<=b):ItsV T b' X v w:=Rw.zBY h hb
theorem ItsV.shape{T:TypeId}{base:Nat}{X:List Itm}{v:Value}{w:World}(h:ItsV T base X v w):∃a c,v=.slice a X.length c/\X.length<=c:=by
 rcases h.2 with⟨rfl,h0⟩|⟨g,cap,cur,rfl,_,_,h5,_⟩
 ·exact⟨none,0,by rw[h0],by omega⟩
 ·exact⟨_,cap,rfl,h5⟩
theorem ItsV.reads{T:TypeId}{base:Nat}{X:List Itm}{a:Option Addr}{c:Nat}{w:World}(h:ItsV T base X (.slice a X.length c) w):ItsA a X w:=fun i hi=>by
 have hl:=zAg X;rcases h.2 with⟨_,h0⟩|⟨g,cap,cur,he,_⟩
 ·omega
 ·simp only[Value.slice.injEq]at he;obtain⟨rfl,_,_⟩:=he;refine⟨g,0,rfl,?_⟩;have:=World.ownsRow.cells h (g:=g) rfl i _ (List.getElem?_eq_getElem hi);rw[WideShapes.add_plain]at this
  simpa using this
theorem zEN(T:TypeId)(base q:Nat)(x:Itm)(w:World)(hq:q=w.heap.size)(hb:base<=q):(w.alloc (.cells #[.int .i64 x.1,.int .i64 x.2] T)).ownsRow base T 2 (.slice (some ⟨q,0,none⟩) 1 1) 1 (ic x):=by
 subst hq;exact World.ownsRow_lit w #[.int .i64 x.1,.int .i64 x.2] 1 hb (by decide) (by simp)
theorem ItsV.of_append{T:TypeId}{base n m:Nat}{X Y:List Itm}{v:Value}{w:World}(h:w.ownsRow base T 2 v (n+m) (X.flatMap ic++Y.flatMap ic))(hn:n=X.length)(hm:m=Y.length):ItsV T base (X++Y) v w:=by
 subst hn hm;unfold ItsV;rw[List.length_append,zK3];exact h
end Im
namespace Gr
open Go.RowKit Go.Maps Go.ChangeShapes Go.WideShapes Go.Deep Go.Joins
theorem zFk{H:Type}{P:Program}{e:TypeId}{l:List (DataW H)}{d:DataW H}(h:d∈l):∀n∈d.weights P e,n∈DataW.weightsAll P e l:=by
 induction l with
 |nil=>cases h
 |cons a r ih=>
  intro n hn;simp only[DataW.weightsAll,List.mem_append];rcases List.mem_cons.1 h with rfl|h
  ·exact .inl hn
  ·exact .inr (ih h n hn)
def Within{H:Type}(P:Program)(t:TypeId)(d:DataW H):Prop:=∀n∈d.weights P t,n<=140737488355328
theorem zOY{H:Type}{P:Program}{ts:List TypeId}{ds:List (DataW H)}(h:(DataW.weightsEach P ts ds).all (· <=reachBytes)=true){j:Nat}{t:TypeId}{d:DataW H}(ht:ts[j]?=some t)(hd:ds[j]?=some d):Within P t d:=fun n hn=>by
 have:=List.all_eq_true.1 h n (DataW.weights_mem_each ht hd n hn);have h2:=reachBytes_lt;simp at this;omega
theorem zBw{H:Type}{P:Program}{t:TypeId}{fs:Array Field}{parts:List (DataW H)}(h:Within P t (.agg parts))(hs:P.underlying t=some (.struct fs)){j:Nat}{t':TypeId}{d:DataW H}(ht:(fs.toList.map (·.type))[j]?=some t')(hd:parts[j]?=some d):Within P t' d:=fun n hn=>by
 refine h n ?_;simp only[DataW.weights,hs];exact DataW.weights_mem_each ht hd n hn
theorem zFP{H:Type}{P:Program}{t e:TypeId}{elems spare:List (DataW H)}(h:Within P t (.slice elems spare))(hs:P.underlying t=some (.slice e)){d:DataW H}(hd:d∈elems):Within P e d:=fun n hn=>by
 refine h n ?_;simp only[DataW.weights,hs,List.mem_cons,List.mem_append];exact .inr (.inl (zFk hd n hn))
theorem zD1{H:Type}{P:Program}{t e:TypeId}{elems spare:List (DataW H)}(h:Within P t (.slice elems spare))(hs:P.underlying t=some (.slice e)):(elems.length+spare.length)*P.bytesOf e<=140737488355328:=by
 refine h _ ?_;simp[DataW.weights,hs]
theorem zIY{n:Int}(h:(Lit.int .i64 n).wf=true):Fits n:=by
 simp only[Lit.wf,Bool.and_eq_true,decide_eq_true_eq]at h;exact⟨h.1,h.2⟩
theorem zHC:Tryz.prog.cellsOf 9=1:=by kernel_rfl
theorem zL9:Tryz.prog.cellsOf 3=1:=by kernel_rfl
theorem zG8:Tryz.prog.bytesOf 9=16:=by kernel_rfl
theorem zL8:Tryz.prog.bytesOf 3=8:=by kernel_rfl
theorem zKc:Tryz.prog.bytesOf 55=32:=by kernel_rfl
section
variable {H:Type} {enc:TypeId×Value->H} {w:World}
theorem zOD{fuel:Nat}{v:Value}{x:DataW H×List MemPlace}(h:DataW.trod enc Tryz.prog w 0 (fun _=>true) true fuel 39 [v]=some x)(hz:Within Tryz.prog 39 x.1):
  ∃a c,∃L:List ByteArray,v=.slice a L.length c/\Sep.Reads a (L.map .string) w/\L.length<=c/\c<=8796093022208/\∀s∈L,s.size<=140737488355328:=by
 rcases open_strings Tryz.underlying39 Tryz.underlying9 zHC h with⟨hcs,_⟩|⟨a,len,cap,ss,hcs,_,hl,hm,hzz,rfl,hcell,hws⟩
 ·simp at hcs;subst hcs;exact⟨none,0,[],rfl,.nil _ _,Nat.le_refl _,by omega,fun s hs=>by cases hs⟩
 ·simp at hcs;subst hcs;simp only[if_true]at hzz;have hcap:=zD1 hz Tryz.underlying39;rw[zG8]at hcap;simp[strs]at hcap;refine⟨some a,cap,ss.take len,by simp;omega,fun i hi=>?_,by simp;omega,by omega,fun s hs=>?_⟩
  ·simp only[List.length_map,List.length_take]at hi;obtain⟨bb,off,spot⟩:=a;have hspot:spot=none:=by simpa[Addr.add]using World.cell?_spot (hcell 0 (by omega))
   subst hspot;refine⟨bb,off,rfl,?_⟩;have hc:=hcell i (by omega);rw[WideShapes.add_plain]at hc;rw[hc];simp[List.getD_eq_getElem?_getD,List.getElem?_eq_getElem (show i<ss.length by omega)]
  ·have:=zFP hz Tryz.underlying39 (d:=.lit (.string s.data.toList)) (by simp only[strs,List.mem_map];exact⟨s,hs,rfl⟩);have:=this s.data.toList.length (by simp[DataW.weights]);exact this
theorem zSW{fuel:Nat}{v:Value}{x:DataW H×List MemPlace}(h:DataW.trod enc Tryz.prog w 0 (fun _=>true) true fuel 29 [v]=some x)(hz:Within Tryz.prog 29 x.1):
  ∃a c,∃L:List Int,v=.slice a L.length c/\Sep.Reads a (L.map (.int .i64)) w/\L.length<=c/\c<=17592186044416/\∀n∈L,Fits n:=by
 rcases open_ints Tryz.underlying29 Tryz.underlying3 zL9 h with⟨hcs,_⟩|⟨a,len,cap,ss,hcs,_,hl,hm,hzz,rfl,hcell,hws⟩
 ·simp at hcs;subst hcs;exact⟨none,0,[],rfl,.nil _ _,Nat.le_refl _,by omega,fun s hs=>by cases hs⟩
 ·simp at hcs;subst hcs;simp only[if_true]at hzz;have hcap:=zD1 hz Tryz.underlying29;rw[zL8]at hcap;simp[lits]at hcap;refine⟨some a,cap,ss.take len,by simp;omega,fun i hi=>?_,by simp;omega,by omega,fun n hn=>zIY (hws n (List.mem_of_mem_take hn))⟩;simp only[List.length_map,List.length_take]at hi;obtain⟨bb,off,spot⟩:=a;have hspot:spot=none:=by simpa[Addr.add]using World.cell?_spot (hcell 0 (by omega))
  subst hspot;refine⟨bb,off,rfl,?_⟩;have hc:=hcell i (by omega);rw[WideShapes.add_plain]at hc;rw[hc];simp[List.getD_eq_getElem?_getD,List.getElem?_eq_getElem (show i<ss.length by omega)]
def zTj(a:Option Addr)(i:Nat)(r:Int×List Int)(w:World):Prop:=
 (∃b o ra rc,a=some ⟨b,o,none⟩/\w.cell? ⟨b,o+i*2,none⟩=some (.int .i64 r.1)/\w.cell? ⟨b,o+i*2+1,none⟩=some (.slice ra r.2.length rc)/\Sep.Reads ra (r.2.map (.int .i64)) w/\r.2.length<=rc/\r.2.length<=17592186044416)/\
 Fits r.1/\∀x∈r.2,Fits x
theorem zQb{fuel:Nat}{v:Value}{x:DataW H×List MemPlace}(h:DataW.trod enc Tryz.prog w 0 (fun _=>true) true fuel 22 [v]=some x)(hz:Within Tryz.prog 22 x.1):
  ∃a c,∃R:List (Int×List Int),v=.slice a R.length c/\zBd a R w/\R.length<=c/\c<=4398046511104/\(∀r∈R,Fits r.1)/\∀r∈R,∀x∈r.2,Fits x:=by
 rcases open_slice_pairs Tryz.underlying22 Tryz.underlying55 (by kernel_rfl) rfl rfl (by kernel_rfl) (by kernel_rfl) h with⟨hcs,_⟩|⟨a,len,cap,m,n,V0,V1,D0,D1,P0,P1,hcs,_,hl,hm,hmm,rfl,hi⟩
 ·simp at hcs;subst hcs;exact⟨none,0,[],rfl,fun i hi=>absurd hi (by simp),Nat.le_refl _,by omega,(fun r hr=>by cases hr),(fun r hr=>by cases hr)⟩
 ·simp at hcs;subst hcs;simp only[if_true]at hmm;subst hmm;have hcap:=zD1 hz Tryz.underlying22;rw[zKc]at hcap;simp at hcap
  have each:∀i,i<len->∃r:Int×List Int,zTj (some a) i r w:=fun i him=>by
   obtain⟨hc0,hc1,ht0,ht1⟩:=hi i (by omega);obtain⟨k,hk,_,hw⟩:=DataW.trod_int Tryz.underlying3 ht0;simp at hk;have hzi:=zFP hz Tryz.underlying22 (d:=.agg [D0 i,D1 i]) (by simp only[List.mem_map];exact⟨i,List.mem_range.2 him,rfl⟩);have hz1:=zBw hzi Tryz.underlying55 (j:=1) (t':=29) (d:=D1 i) rfl rfl;obtain⟨ra,rc,L,hv1,hR,hL,hC,hF⟩:=zSW ht1 hz1;rw[hk]at hc0;rw[hv1]at hc1;obtain⟨bb,off,spot⟩:=a;have hspot:spot=none:=by simpa[Addr.add]using World.cell?_spot (hi 0 (by omega)).1
   subst hspot;rw[WideShapes.add_plain]at hc0 hc1;exact⟨(k,L),⟨bb,off,ra,rc,rfl,hc0,hc1,hR,hL,Nat.le_trans hL hC⟩,zIY hw,hF⟩
  obtain⟨f,hf⟩:=choose_lt each;refine⟨some a,m,(List.range len).map f,by simp,fun i hi=>?_,by simpa using hl,by omega,fun r hr=>?_,fun r hr=>?_⟩
  ·simp only[List.length_map,List.length_range]at hi;obtain⟨b,o,ra,rc,e,h1,h2,h3,h4⟩:=(hf i hi).1;refine⟨b,o,ra,rc,e,?_⟩;simp only[List.getElem_map,List.getElem_range];exact⟨h1,h2,h3,h4⟩
  ·obtain⟨i,hi,rfl⟩:=List.mem_map.1 hr;exact(hf i (List.mem_range.1 hi)).2.1
  ·obtain⟨i,hi,rfl⟩:=List.mem_map.1 hr;exact(hf i (List.mem_range.1 hi)).2.2
theorem zSO{r:Reach}{b0:Nat}{v:Value}{d:DataW H}{p:List MemPlace}(hv:Value.okWide Tryz.prog w r b0 41 v)(h:DataW.Trod enc Tryz.prog w 0 (fun _=>true) true 41 v d p)(hz:Within Tryz.prog 41 d):
  ∃h G,v=gv h G/\GAt h G w:=by
 obtain⟨v0,v1,v2,v3,y0,y1,y2,y3,n,rfl,rfl,_,h0,h1,h2,h3⟩:=open_agg4 Tryz.underlying41 (by kernel_rfl) (by kernel_rfl) hv h;obtain⟨a1,c1,L1,rfl,r1,l1,m1,s1⟩:=zOD h0 (zBw hz Tryz.underlying41 (j:=0) (t':=39) rfl rfl);obtain⟨a2,c2,L2,rfl,r2,l2,m2,s2⟩:=zOD h1 (zBw hz Tryz.underlying41 (j:=1) (t':=39) rfl rfl);obtain⟨a3,c3,R,rfl,r3,l3,m3,s3,s4⟩:=zQb h2 (zBw hz Tryz.underlying41 (j:=2) (t':=22) rfl rfl);obtain⟨k,hk,_,hw⟩:=DataW.trod_int Tryz.underlying3 h3;simp at hk;subst hk;exact⟨⟨a1,c1,a2,c2,a3,c3⟩,⟨L1,L2,R,k⟩,rfl,⟨r1,r2,r3,l1,Nat.le_trans l1 m1,Nat.le_trans l2 m2,l3,Nat.le_trans l3 m3,⟨s1,s2,zIY hw,s3,s4⟩⟩⟩
end
end Gr
namespace Au
open Go.RowKit Go.Maps Go.WideShapes Go.ChangeShapes Go.Joins Go.Deep
open Gr (cell_later)
open Im
abbrev Sta:=List Itm×List (Int×Int)
def zIG(a:Option Addr)(i:Nat)(s:Sta)(w:World):Prop:=
 ∃b o a1 c1 a2 c2,a=some ⟨b,o,none⟩/\w.cell? ⟨b,o+i*2,none⟩=some (.slice a1 s.1.length c1)/\w.cell? ⟨b,o+i*2+1,none⟩=some (.slice a2 s.2.length c2)/\ItsA a1 s.1 w/\ItsA a2 s.2 w/\s.1.length<=c1/\s.2.length<=c2
def StaA(a:Option Addr)(X:List Sta)(w:World):Prop:=∀i (h:i<X.length),zIG a i X[i] w
theorem zIG.went{a:Option Addr}{i:Nat}{s:Sta}{w w':World}(h:zIG a i s w)(hb:Below w.heap.size w w'):zIG a i s w':=by
 obtain⟨b,o,a1,c1,a2,c2,e,h1,h2,h3,h4,h5,h6⟩:=h;exact⟨b,o,a1,c1,a2,c2,e,cell_later hb h1,cell_later hb h2,h3.went hb,h4.went hb,h5,h6⟩
theorem StaA.went{a:Option Addr}{X:List Sta}{w w':World}(h:StaA a X w)(hb:Below w.heap.size w w'):StaA a X w':=fun i hi=>(h i hi).went hb
theorem StaA.nil(a:Option Addr)(w:World):StaA a [] w:=fun i hi=>absurd hi (Nat.not_lt_zero i)
end Au
namespace Au
open Go.RowKit Go.Maps
open Im
def LOk(Y:List Itm)(u v:Value)(w:World):Prop:=∃a c,u=.slice a Y.length c/\Y.length<=c/\ItsA a Y w/\(Y≠[]->∀b o,a=some ⟨b,o,none⟩->v.ownBlock≠some b)
theorem zFx{a:Option Addr}{Y:List Itm}{w:World}(h:ItsA a Y w)(hn:Y≠[]){b o:Nat}(e:a=some ⟨b,o,none⟩):b<w.heap.size:=by
 cases Y with
 |nil=>exact absurd rfl hn
 |cons y Y=>
  obtain⟨b',o',e',hc⟩:=h 0 (by rw[zAg];simp);rw[e]at e';injection e' with e'
  injection e' with e1 e2
  subst e1;exact World.block_lt_of_cell? _ _ hc
theorem LOk.to{Y:List Itm}{u v v':Value}{w w':World}(h:LOk Y u v w)(hb:∀b,b<w.heap.size->v.ownBlock≠some b->w'.heap[b]?=w.heap[b]?)(hv:∀b,b<w.heap.size->v.ownBlock≠some b->v'.ownBlock≠some b):LOk Y u v' w':=by
 obtain⟨a,c,h1,h2,h3,h4⟩:=h
 by_cases hn:Y=[]
 ·subst hn;exact⟨a,c,h1,h2,.nil _ _,fun q=>absurd rfl q⟩
 ·exact⟨a,c,h1,h2,h3.keep fun b o e=>hb b (zFx h3 hn e) (h4 hn b o e),fun _ b o e=>hv b (zFx h3 hn e) (h4 hn b o e)⟩
theorem LOk.went{Y:List Itm}{u v:Value}{w w':World}(h:LOk Y u v w)(hb:Below w.heap.size w w'):LOk Y u v w':=h.to (fun b hl _=>hb.block b hl) fun _ _ q=>q
theorem LOk.grown{Y:List Itm}{u v v':Value}{w w':World}(h:LOk Y u v w)(hg:w.grownBy w' v.ownBlock)(hv:v'.ownBlock=v.ownBlock\/∃n,w.heap.size<=n/\v'.ownBlock=some n):LOk Y u v' w':=
 h.to (fun b hl q=>hg.block b hl fun e=>q e.symm) fun b hl q e=>by
  rcases hv with h1|⟨n,hn,h1⟩
  ·exact q (h1.symm.trans e)
  ·rw[h1]at e;injection e with e
   omega
abbrev StC:=Sta×(Value×Value)
def sc(x:StC):List Value:=[x.2.1,x.2.2]
theorem zH1(x:StC):(sc x).length=2:=rfl
structure StV (T:TypeId) (base:Nat) (L:List StC) (v:Value) (w:World):Prop where
 row:w.ownsRow base T 2 v L.length (L.flatMap sc)
 lists:∀x∈L,LOk x.1.1 x.2.1 v w/\LOk x.1.2 x.2.2 v w
theorem StV.went{T:TypeId}{base:Nat}{L:List StC}{v:Value}{w w':World}(h:StV T base L v w)(hb:Below w.heap.size w w'):StV T base L v w':=
 ⟨Sep.zAD h.row fun g hg=>hb.block g (h.row.lt g hg).2,fun x hx=>⟨(h.lists x hx).1.went hb,(h.lists x hx).2.went hb⟩⟩
theorem StV.nil(T:TypeId)(base:Nat)(w:World):StV T base [] (.slice none 0 0) w:=⟨World.ownsRow_nil _ _ _ _,fun x hx=>by cases hx⟩
theorem StV.len{T:TypeId}{base:Nat}{L:List StC}{v:Value}{w:World}(h:StV T base L v w):∃a c,v=.slice a L.length c/\L.length<=c:=by
 rcases h.row.2 with⟨rfl,h0⟩|⟨g,cap,cur,rfl,_,_,h5,_⟩
 ·exact⟨none,0,by rw[h0],by rw[h0];exact Nat.le_refl _⟩
 ·exact⟨_,cap,rfl,h5⟩
theorem StV.at{T:TypeId}{base:Nat}{L:List StC}{a:Option Addr}{c:Nat}{w:World}(h:StV T base L (.slice a L.length c) w):StaA a (L.map Prod.fst) w:=by
 intro i hi;have hi':i<L.length:=by simpa using hi
 rcases h.row.2 with⟨_,h0⟩|⟨g,cap,cur,he,_⟩
 ·omega
 ·simp only[Value.slice.injEq]at he;obtain⟨rfl,_,_⟩:=he;have hc:=World.ownsRow.cells h.row (g:=g) rfl;obtain⟨⟨a1,c1,u1,l1,i1,_⟩,⟨a2,c2,u2,l2,i2,_⟩⟩:=h.lists _ (List.getElem_mem hi');have t0:=hc (i*2+0) _ (Rw.zBQ sc zH1 L i hi' 0 (by omega));have t1:=hc (i*2+1) _ (Rw.zBQ sc zH1 L i hi' 1 (by omega));rw[WideShapes.add_plain]at t0 t1;rw[List.getElem_map];refine⟨g,0,a1,c1,a2,c2,rfl,?_,?_,i1,i2,l1,l2⟩
  ·rw[←u1]
   simpa using t0
  ·rw[←u2]
   simpa using t1
theorem StV.snoc{T:TypeId}{base:Nat}{L:List StC}{v v':Value}{w w':World}(h:StV T base L v w)(x:StC)(hx:LOk x.1.1 x.2.1 v w/\LOk x.1.2 x.2.2 v w)(hr:w'.ownsRow base T 2 v' (L.length+1) (L.flatMap sc++sc x))(hg:w.grownBy w' v.ownBlock)(hv:v'.ownBlock=v.ownBlock\/∃n,w.heap.size<=n/\v'.ownBlock=some n):StV T base (L++[x]) v' w':=by
 refine⟨?_,fun y hy=>?_⟩
 ·rw[List.length_append,List.flatMap_append]
  simpa using hr
 ·have key:LOk y.1.1 y.2.1 v w/\LOk y.1.2 y.2.2 v w:=by
   rcases List.mem_append.1 hy with q|q
   ·exact h.lists y q
   ·rw[List.mem_singleton]at q;rw[q];exact hx
  exact⟨key.1.grown hg hv,key.2.grown hg hv⟩
end Au
namespace Au
open Go.RowKit Go.Maps
open Gr (cell_later)
open Im
def upd{α:Type}(f:Nat->α)(s:Nat)(x:α):Nat->α:=fun r=>if r=s then x else f r
theorem upd_same{α:Type}(f:Nat->α)(s:Nat)(x:α):upd f s x s=x:=if_pos rfl
theorem zAB{α:Type}{f:Nat->α}{s r:Nat}{x:α}(h:r≠s):upd f s x r=f r:=if_neg h
structure Fam (T:TypeId) (b m n:Nat) (F:Nat->List Itm) (D:Nat->Value) (w:World):Prop where
 cell:∀s,s<n->w.cell? ⟨b,s,none⟩=some (D s)
 free:∀s,w.frozen? ⟨b,s,none⟩=false
 row:∀s,s<n->ItsV T m (F s) (D s) w
 off:∀s r,s<n->r<n->s≠r->∀g,(D s).ownBlock=some g->(D r).ownBlock≠some g
 bm:b<m
 le:m<=w.heap.size
theorem Fam.went{T:TypeId}{b m n:Nat}{F:Nat->List Itm}{D:Nat->Value}{w w':World}(h:Fam T b m n F D w)(hb:Below w.heap.size w w'):Fam T b m n F D w':=
 have hl:b<w.heap.size:=Nat.lt_of_lt_of_le h.bm h.le
 ⟨fun s hs=>cell_later hb (h.cell s hs),fun s=>(World.frozen?_of_block (a:=⟨b,s,none⟩) (hb.block b hl)).trans (h.free s),fun s hs=>(h.row s hs).went hb,h.off,h.bm,Nat.le_trans h.le hb.size⟩
theorem Fam.congr{T:TypeId}{b m n:Nat}{F F':Nat->List Itm}{D:Nat->Value}{w:World}(h:Fam T b m n F D w)(e:∀s,s<n->F s=F' s):Fam T b m n F' D w:=
 ⟨h.cell,h.free,fun s hs=>by rw[←e s hs];exact h.row s hs,h.off,h.bm,h.le⟩
theorem Fam.put{T:TypeId}{b m n:Nat}{F:Nat->List Itm}{D:Nat->Value}{w w':World}(h:Fam T b m n F D w){s:Nat}(hs:s<n){y:Itm}{v':Value}(hr:ItsV T m (F s++[y]) v' w')(hg:w.grownBy w' (D s).ownBlock)(hv:v'.ownBlock=(D s).ownBlock\/v'.ownBlock=some w.heap.size):
  Fam T b m n (upd F s (F s++[y])) (upd D s v') (w'.setCell ⟨b,s,none⟩ v'):=by
 have hl:b<w.heap.size:=Nat.lt_of_lt_of_le h.bm h.le;have own:∀r,r<n->∀g,(D r).ownBlock=some g->m<=g/\g<w.heap.size:=fun r hr g hg=>World.ownsRow.lt (h.row r hr) g hg
 have eb:w'.heap[b]?=w.heap[b]?:=hg.block b hl fun e=>by
  have:=(own s hs b e.symm).1;have:=h.bm;omega
 have own':∀g,v'.ownBlock=some g->m<=g:=fun g hg=>(World.ownsRow.lt hr g hg).1
 have other:∀g,g≠b->(w'.setCell ⟨b,s,none⟩ v').heap[g]?=w'.heap[g]?:=fun g hg=>Below.heap_setCell _ _ _ _ hg
 refine⟨fun r hr'=>?_,fun r=>?_,fun r hr'=>?_,fun r z hr' hq hne g e1 e2=>?_,h.bm,?_⟩
 ·by_cases e:r=s
  ·subst e;rw[upd_same];exact World.cell?_setCell_same _ _ _ ((World.cell?_of_block (a:=⟨b,r,none⟩) eb).trans (h.cell r hr'))
  ·rw[zAB e,World.cell?_setCell_other _ _ _ _ (fun q=>e (congrArg Addr.off q).symm)];exact(World.cell?_of_block (a:=⟨b,r,none⟩) eb).trans (h.cell r hr')
 ·rw[World.frozen?_setCell];exact(World.frozen?_of_block (a:=⟨b,r,none⟩) eb).trans (h.free r)
 ·by_cases e:r=s
  ·subst e;rw[upd_same,upd_same];exact hr.keep fun g e=>other g (by have:=own' g e;have:=h.bm;omega)
  ·rw[zAB e,zAB e];refine(h.row r hr').keep fun g hg'=>?_
   have h1:=own r hr' g hg';rw[other g (by have:=h.bm;omega)];exact hg.block g h1.2 fun q=>h.off r s hr' hs e g hg' q.symm
 ·by_cases er:r=s
  ·subst er;rw[upd_same]at e1;rw[zAB (fun q=>hne q.symm)]at e2;rcases hv with k|k
   ·exact h.off r z hr' hq hne g (k▸e1) e2
   ·have:=(own _ hq g e2).2;rw[k]at e1;injection e1 with e1
    omega
  ·rw[zAB er]at e1
   by_cases eq:z=s
   ·subst eq;rw[upd_same]at e2;rcases hv with q'|q'
    ·exact h.off r z hr' hq hne g e1 (q'▸e2)
    ·have:=(own _ hr' g e1).2;rw[q']at e2;injection e2 with e2
     omega
   ·rw[zAB eq]at e2;exact h.off r z hr' hq hne g e1 e2
 ·rw[show(w'.setCell ⟨b,s,none⟩ v').heap.size=w'.heap.size by simp[World.setCell]];exact Nat.le_trans h.le hg.size
theorem Fam.fr{T:TypeId}{b m n:Nat}{F:Nat->List Itm}{D:Nat->Value}{w w':World}{v':Value}(h:Fam T b m n F D w){s:Nat}(hs:s<n)(hg:w.grownBy w' (D s).ownBlock){w0:World}(f:Sep.Fr (· =b) w0 w)(hm:w0.heap.size<=m):Sep.Fr (· =b) w0 (w'.setCell ⟨b,s,none⟩ v'):=
 (f.grown hg fun k hk=> .inr (Nat.le_trans hm (World.ownsRow.lt (h.row s hs) k hk).1)).setCell _ rfl _
