/- Proof. -/
import Derived.Test.YtegeamggbglneaaGreatDoorPk04
import Derived.Test.YtegeamggbglneaaGreatDoorPk05
import Derived.Test.YtegeamggbglneaaGreatDoorPk01
import Derived.Lib.SmallJoins
import Derived.Deep.Slices
import Derived.Deep.SlicePairs
import Derived.ChangeSame
import Derived.SliceStrings
import Derived.SizedLaws
import Derived.Carry
set_option maxRecDepth 100000
set_option linter.unusedVariables false
namespace Go.Proofs.YtegeamggbglneaaGreatDoor
namespace Rw
open Go.RowKit Go.Maps
theorem zGF{P}(w)(t ty)(base)(e)(i)(z)(size bytes)(ht:P.underlying t=some (.slice e))(hi:P.info? e=some i)(hz:i.zero=some z)
  (hsize:i.size=size) (hby:i.bytes=bytes) (hzs:z.cells.size=size) (hpos:0<size) (v) (n) (xs) (hown:w.ownsRow base e size v n xs)
  (a) (m c) (news) (hl:news.length=m*size) (hr:∀ad,a=some ad->∀j u,news[j]?=some u->w.cell? (ad.add j)=some u) (hn:a=none->m=0) (h1:∀u∈news,u.oneCell'=true)
  (h63:n+m<=maxLen) (hbytes:(n+m)*bytes<=140737488355328) (hbase:base<=w.heap.size):
  ∃v' w',(Builtin.append_ #[t,t] ty #[v,.slice a m c]).run P w=.ok v' w'/\w'.ownsRow base e size v' (n+m) (xs++news)/\w.grownBy w' v.ownBlock/\(v'.ownBlock=v.ownBlock\/v'.ownBlock=some w.heap.size):=by
 cases a with
 |some ad=>
  obtain⟨v',w',h2,h3,h4,_,h5⟩:=run_append_own_at (P:=P) w base t ty e i z size bytes ht hi hz hsize hby hzs hpos v n xs hown ad m c news hl (hr ad rfl) h1 h63 hbytes hbase;exact⟨v',w',h2,h3,h4,h5⟩
 |none=>
  obtain rfl:=hn rfl;have h0:news=[]:=List.eq_nil_of_length_eq_zero (by simpa using hl);subst h0;refine⟨v,w,?_,by simpa using hown,⟨rfl,rfl,rfl,Nat.le_refl _,fun _ _ _=>rfl⟩,.inl rfl⟩;rcases hown.2 with⟨rfl,rfl⟩|⟨g,cap,cur,rfl,hbg,hg,hnc,hcm,hcs,htake⟩
  ·simp[Builtin.append_,run_underlying ht,sizeOf,typeInfo,hi,Builtin.lenOf,Builtin.firstCells]
  ·simp[Builtin.append_,run_underlying ht,sizeOf,typeInfo,hi,Builtin.lenOf,Builtin.firstCells,loadCells,storeCells,hnc]
theorem zHc{P}(w){o:Oper}{a}{K}{Q}(s x)(t)
  (ho:o.op=.call {callee:=.builtin .append,args:=#[s,x],argTypes:=#[t,t]})
  (base) (e) (i) (z) (size bytes) (ht:P.underlying t=some (.slice e)) (hi:P.info? e=some i) (hz:i.zero=some z)
  (hsize:i.size=size) (hby:i.bytes=bytes) (hzs:z.cells.size=size) (hpos:0<size) (v) (n) (xs) (hs:a.eval s=v) (hown:w.ownsRow base e size v n xs)
  (ad) (m c) (news) (hx:a.eval x=.slice ad m c) (hl:news.length=m*size) (hr:∀p,ad=some p->∀j u,news[j]?=some u->w.cell? (p.add j)=some u) (hn:ad=none->m=0) (h1:∀u∈news,u.oneCell'=true)
  (h63:n+m<=maxLen) (hbytes:(n+m)*bytes<=140737488355328) (hbase:base<=w.heap.size)
  (h:∀v' w',w'.ownsRow base e size v' (n+m) (xs++news)->w.grownBy w' v.ownBlock->(v'.ownBlock=v.ownBlock\/v'.ownBlock=some w.heap.size)->K (a.put o.dst v') w'):o.wp P a w K Q:=by
 obtain⟨v',w',hr,h2,h3,h4⟩:=zGF (P:=P) w t o.type base e i z size bytes ht hi hz hsize hby hzs hpos v n xs hown ad m c news hl hr hn h1 h63 hbytes hbase;unfold Oper.wp execOp;simp only[ho,resolve,invoke,builtin,Sem.run_bind,Sem.run_pure,Result.andThen_ok,List.map_toArray,List.map_cons,List.map_nil,hs,hx,hr];exact h v' w' h2 h3 h4
theorem zRd{w:World}{base q size}{e}(hq:w.heap[q]?=some (.cells #[] e (0,0)))(hb:base<=q):w.ownsRow base e size (.slice (some ⟨q,0,none⟩) 0 0) 0 []:=
 ⟨by simp,.inr ⟨q,0,#[],rfl,hb,hq,Nat.le_refl _,by unfold maxLen;omega,by simp,by simp⟩⟩
end Rw
namespace Im
open Go.RowKit Go.Maps
def ic(x:au):List Value:=[.int .i64 x.1,.int .i64 x.2]
theorem wG(x):(ic x).length=2:=rfl
theorem rC(X:List au):(X.flatMap ic).length=X.length*2:=by
 induction X with
 |nil=>rfl
 |cons x X ih=>
  rw[List.flatMap_cons,List.length_append,ih,wG,List.length_cons];omega
theorem zTc(X:List au):∀u∈X.flatMap ic,u.oneCell'=true:=fun u hu=>by
 rw[List.mem_flatMap]at hu;obtain⟨x,_,h⟩:=hu;simp only[ic,List.mem_cons,List.not_mem_nil,or_false]at h;rcases h with rfl|rfl<;>rfl
theorem zLg(X Y:List au):(X++Y).flatMap ic=X.flatMap ic++Y.flatMap ic:=List.flatMap_append
theorem zQV(X:List au)(k):(X.take k).flatMap ic=(X.flatMap ic).take (k*2):=by
 induction X generalizing k with
 |nil=>simp
 |cons x X ih=>
  cases k with
  |zero=>simp
  |succ k=>
   rw[List.take_succ_cons,List.flatMap_cons,ih,List.flatMap_cons,show(k+1)*2=(ic x).length+k*2 by rw[wG];omega,List.take_append,List.take_of_length_le (Nat.le_add_right ..)];simp
def bG(a:Option Addr)(X:List au)(w:World):Prop:=Sep.Reads a (X.flatMap ic) w
theorem bG.nil(a)(w):bG a [] w:=Sep.Reads.nil a w
theorem bG.keep{a}{X}{w w'}(h:bG a X w)(hb:∀b o,a=some ⟨b,o,none⟩->w'.heap[b]?=w.heap[b]?):bG a X w':=Sep.Reads.keep h hb
theorem bG.below{a}{X}{m}{w w'}(h:bG a X w)(hb:Below m w w')(hm:w.heap.size<=m):bG a X w':=Sep.Reads.below h hb hm
theorem bG.went{a}{X}{w w'}(h:bG a X w)(hb:Below w.heap.size w w'):bG a X w':=h.below hb (Nat.le_refl _)
theorem bG.at{a}{X}{w}(h:bG a X w)(i)(hi):
  ∃b o,a=some ⟨b,o,none⟩/\w.cell? ⟨b,o+i*2,none⟩=some (.int .i64 X[i].1)/\w.cell? ⟨b,o+i*2+1,none⟩=some (.int .i64 X[i].2):=by
 have hl:=rC X;obtain⟨b,o,e,h0⟩:=h (i*2) (by omega);obtain⟨b',o',e',h1⟩:=h (i*2+1) (by omega);rw[e]at e';simp only[Option.some.injEq,Addr.mk.injEq,and_true]at e';obtain⟨rfl,rfl⟩:=e';have g0:=Rw.mE ic wG X i hi 0 (by omega);have g1:=Rw.mE ic wG X i hi 1 (by omega);rw[List.getElem?_eq_getElem (by omega)]at g0 g1;refine⟨b,o,e,?_,?_⟩
 ·rw[h0];rw[←Option.some.injEq]at g0;exact congrArg some (by simpa[ic]using g0)
 ·rw[show o+i*2+1=o+(i*2+1)by omega,h1];exact congrArg some (by simpa[ic]using g1)
theorem bG.take{a}{X}{w}(h:bG a X w)(k):bG a (X.take k) w:=fun i hi=>by
 have hl:=rC X;have hi':=hi;rw[rC,List.length_take]at hi;obtain⟨b,o,e,hc⟩:=h i (by omega);refine⟨b,o,e,?_⟩;rw[hc]
 congr 1
 simp only[zQV,List.getElem_take]
def bw(T:TypeId)(base:Nat)(X:List au)(v:Value)(w:World):Prop:=w.ownsRow base T 2 v X.length (X.flatMap ic)
theorem bw.nil(T)(base)(w):bw T base [] (.slice none 0 0) w:=World.ownsRow_nil _ _ _ _
theorem bw.keep{T}{base}{X}{v}{w w'}(h:bw T base X v w)(hb:∀g,v.ownBlock=some g->w'.heap[g]?=w.heap[g]?):bw T base X v w':=Sep.bS h hb
theorem bw.went{T}{base}{X}{v}{w w'}(h:bw T base X v w)(hb:Below w.heap.size w w'):bw T base X v w':=h.keep fun g hg=>hb.block g (World.ownsRow.lt h g hg).2
theorem bw.mono{T}{b b'}{X}{v}{w}(h:bw T b X v w)(hb:b'<=b):bw T b' X v w:=Rw.su h hb
theorem bw.shape{T}{base}{X}{v}{w}(h:bw T base X v w):∃a c,v=.slice a X.length c/\X.length<=c:=by
 rcases h.2 with⟨rfl,h0⟩|⟨g,cap,cur,rfl,_,_,h5,_⟩
 ·exact⟨none,0,by rw[h0],by omega⟩
 ·exact⟨_,cap,rfl,h5⟩
theorem bw.reads{T}{base}{X}{a}{c}{w}(h:bw T base X (.slice a X.length c) w):bG a X w:=fun i hi=>by
 have hl:=rC X;rcases h.2 with⟨_,h0⟩|⟨g,cap,cur,he,_⟩
 ·omega
 ·simp only[Value.slice.injEq]at he;obtain⟨rfl,_,_⟩:=he;refine⟨g,0,rfl,?_⟩;have:=World.ownsRow.cells h (g:=g) rfl i _ (List.getElem?_eq_getElem hi);rw[WideShapes.add_plain]at this
  simpa using this
theorem Hj(T)(base q)(x)(w:World)(hq:q=w.heap.size)(hb:base<=q):(w.alloc (.cells #[.int .i64 x.1,.int .i64 x.2] T)).ownsRow base T 2 (.slice (some ⟨q,0,none⟩) 1 1) 1 (ic x):=by
 subst hq;exact World.ownsRow_lit w #[.int .i64 x.1,.int .i64 x.2] 1 hb (by decide) (by simp)
theorem bw.of_append{T}{base n m}{X Y}{v}{w}(h:w.ownsRow base T 2 v (n+m) (X.flatMap ic++Y.flatMap ic))(hn:n=X.length)(hm:m=Y.length):bw T base (X++Y) v w:=by
 subst hn hm;unfold bw;rw[List.length_append,zLg];exact h
end Im
namespace Pk
open Go.RowKit Go.Maps
open Gr (Fits cell_later)
open Im (bG)
theorem aF{w:World}{b}{cs}{T}(h:w.heap[b]?=some (.cells cs T (0,0))){k}(hk):w.cell? ⟨b,k,none⟩=some cs[k]:=by
 unfold World.cell?;simp only[h];exact Array.getElem?_eq_getElem hk
theorem fu{w:World}{b k}{cs}{T}(h:w.heap[b]?=some (.cells cs T (0,0))):w.frozen? ⟨b,k,none⟩=false:=by
 simp[World.frozen?,h]
theorem ft{w:World}{b k}{cs}{T}(h:w.heap[b]?=some (.cells cs T (0,0)))(v):(w.setCell ⟨b,k,none⟩ v).heap[b]?=some (.cells (cs.setIfInBounds k v) T (0,0)):=by
 rw[setCell_eq_setRow w b k cs T (0,0) v h];exact setRow_heap w b cs _ T (0,0) h
theorem gJ(w:World)(o):(w.alloc o).heap[w.heap.size]?=some o:=Array.getElem?_push_size
def dW(a:Option Addr)(L:List Int)(w:World):Prop:=Sep.Reads a (L.map (.int .i64)) w
def fy(a:Option Addr)(L:List Int)(w:World):Prop:=Sep.Reads a (L.map (.int .u16)) w
theorem dW.went{a}{L}{w w'}(h:dW a L w)(hb:Below w.heap.size w w'):dW a L w':=h.below hb (Nat.le_refl _)
theorem fy.went{a}{L}{w w'}(h:fy a L w)(hb:Below w.heap.size w w'):fy a L w':=h.below hb (Nat.le_refl _)
theorem dW.at{a}{L}{w}(h:dW a L w){i}(hi):∃b o,a=some ⟨b,o,none⟩/\w.cell? ⟨b,o+i,none⟩=some (.int .i64 L[i]):=by
 obtain⟨b,o,e,h1⟩:=h i (by simpa using hi);exact⟨b,o,e,by simpa using h1⟩
theorem fy.at{a}{L}{w}(h:fy a L w){i}(hi):∃b o,a=some ⟨b,o,none⟩/\w.cell? ⟨b,o+i,none⟩=some (.int .u16 L[i]):=by
 obtain⟨b,o,e,h1⟩:=h i (by simpa using hi);exact⟨b,o,e,by simpa using h1⟩
def sY{α:Type}(R:Option Addr->List α->World->Prop)(a:Option Addr)(X:List (List α))(w:World):Prop:=
 ∀i (h:i<X.length),∃b o ra rc,a=some ⟨b,o,none⟩/\w.cell? ⟨b,o+i,none⟩=some (.slice ra X[i].length rc)/\R ra X[i] w/\X[i].length<=rc/\X[i].length<=35184372088832
theorem sY.went{α}{R}(hR:∀{a X w w'},R a X w->Below w.heap.size w w'->R a X w'){a}{X:List (List α)}{w w'}(h:sY R a X w)(hb:Below w.heap.size w w'):sY R a X w':=fun i hi=>by
 obtain⟨b,o,ra,rc,e,h1,h2,h3⟩:=h i hi;exact⟨b,o,ra,rc,e,cell_later hb h1,hR h2 hb,h3⟩
theorem sY.nil{α}(R:Option Addr->List α->World->Prop)(a)(w):sY R a [] w:=fun i hi=>absurd hi (Nat.not_lt_zero _)
abbrev zV8:=sY bG
abbrev zWC:=sY dW
abbrev wQ:=sY fy
def eZ(a:Option Addr)(R:List (Int×List Int))(w:World):Prop:=
 ∀i (h:i<R.length),∃b o ra rc,a=some ⟨b,o,none⟩/\w.cell? ⟨b,o+i*2,none⟩=some (.int .i64 R[i].1)/\w.cell? ⟨b,o+i*2+1,none⟩=some (.slice ra R[i].2.length rc)/\dW ra R[i].2 w/\R[i].2.length<=17592186044416
theorem eZ.went{a}{R}{w w'}(h:eZ a R w)(hb:Below w.heap.size w w'):eZ a R w':=fun i hi=>by
 obtain⟨b,o,ra,rc,e,h1,h2,h3,h5⟩:=h i hi;exact⟨b,o,ra,rc,e,cell_later hb h1,cell_later hb h2,h3.went hb,h5⟩
structure xm (T:Tb):Prop where
 t:Fits T.terms
 n:Fits T.ah
 left:∀r∈T.rules,Fits r.1
 right:∀r∈T.rules,∀x∈r.2,Fits x
 acts:∀r∈T.acts,∀x∈r,Fits x.1/\Fits x.2
 goto:∀r∈T.goto,∀x∈r,Fits x
structure lF (T:Tb):Prop where
 rl:T.rules.length<=100000
 al:T.acts.length<=100000
 gl:T.goto.length<=100000
 rr:∀r∈T.rules,r.2.length<=100000
 ar:∀r∈T.acts,r.length<=100000
 gr:∀r∈T.goto,r.length<=100000
def dI(T:Tb)(aR:Option Addr)(cR:Nat)(aA:Option Addr)(cA:Nat)(aG:Option Addr)(cG:Nat):Array Value:=#[.slice aR T.rules.length cR,.int .i64 T.terms,.int .i64 T.ah,.slice aA T.acts.length cA,.slice aG T.goto.length cG]
structure nW (T:Tb) (aR:Option Addr) (cR:Nat) (aA:Option Addr) (cA:Nat) (aG:Option Addr) (cG:Nat) (w:World):Prop where
 rules:eZ aR T.rules w
 acts:zV8 aA T.acts w
 goto:zWC aG T.goto w
 rc:T.rules.length<=cR
 rl:T.rules.length<=4398046511104
 al:T.acts.length<=8796093022208
 gl:T.goto.length<=8796093022208
 fit:xm T
section
variable {T:Tb} {aR:Option Addr} {cR:Nat} {aA:Option Addr} {cA:Nat} {aG:Option Addr} {cG b:Nat} {w w':World}
theorem nW.went(h:nW T aR cR aA cA aG cG w)(hb:Below w.heap.size w w'):nW T aR cR aA cA aG cG w':=
 ⟨h.rules.went hb,h.acts.went (fun k=>k.went) hb,h.goto.went (fun k=>k.went) hb,h.rc,h.rl,h.al,h.gl,h.fit⟩
def qo(T:Tb)(aR:Option Addr)(cR:Nat)(aA:Option Addr)(cA:Nat)(aG:Option Addr)(cG:Nat)(b:Nat)(w:World):Prop:=
 w.cell? ⟨b,0,none⟩=some (.slice aR T.rules.length cR)/\w.cell? ⟨b,1,none⟩=some (.int .i64 T.terms)/\w.cell? ⟨b,2,none⟩=some (.int .i64 T.ah)/\w.cell? ⟨b,3,none⟩=some (.slice aA T.acts.length cA)/\w.cell? ⟨b,4,none⟩=some (.slice aG T.goto.length cG)
theorem qo.went(h:qo T aR cR aA cA aG cG b w)(hb:Below w.heap.size w w'):qo T aR cR aA cA aG cG b w':=by
 obtain⟨h0,h1,h2,h3,h4⟩:=h;exact⟨cell_later hb h0,cell_later hb h1,cell_later hb h2,cell_later hb h3,cell_later hb h4⟩
theorem sx(w:World)(U):qo T aR cR aA cA aG cG w.heap.size (w.alloc (.cells (dI T aR cR aA cA aG cG) U)):=by
 refine⟨?_,?_,?_,?_,?_⟩<;>simp[dI]
end
structure Ay (P:Pd):Prop where
 t:Fits P.terms
 n:Fits P.ah
 left:∀r∈P.rules,Fits r.1
 right:∀r∈P.rules,∀x∈r.2,Fits x
 row:∀x∈P.row,Fits x
 bj:∀x∈P.bj,Fits x
 rows:∀r∈P.rows,∀x∈r,Cd x
 aj:∀r∈P.aj,∀x∈r,Cd x
structure uT (P:Pd):Prop where
 rl:P.rules.length<=100000
 wl:P.row.length<=100000
 gl:P.bj.length<=100000
 zJ:P.rows.length<=100000
 zh:P.aj.length<=100000
 rr:∀r∈P.rules,r.2.length<=100000
 wr:∀r∈P.rows,r.length<=100000
 gr:∀r∈P.aj,r.length<=100000
def bU(P:Pd)(aR:Option Addr)(cR:Nat)(aW:Option Addr)(cW:Nat)(aX:Option Addr)(cX:Nat)(aG:Option Addr)(cG:Nat)(aH:Option Addr)(cH:Nat):Array Value:=
 #[.slice aR P.rules.length cR,.int .i64 P.terms,.int .i64 P.ah,.slice aW P.row.length cW,.slice aX P.rows.length cX,.slice aG P.bj.length cG,.slice aH P.aj.length cH]
structure dX (P:Pd) (aR:Option Addr) (cR:Nat) (aW:Option Addr) (cW:Nat) (aX:Option Addr) (cX:Nat) (aG:Option Addr) (cG:Nat) (aH:Option Addr) (cH:Nat) (w:World):Prop where
 rules:eZ aR P.rules w
 row:dW aW P.row w
 rows:wQ aX P.rows w
 bj:dW aG P.bj w
 aj:wQ aH P.aj w
 rc:P.rules.length<=cR
 wc:P.row.length<=cW
 xc:P.rows.length<=cX
 gc:P.bj.length<=cG
 hc:P.aj.length<=cH
 rl:P.rules.length<=4398046511104
 wl:P.row.length<=17592186044416
 xl:P.rows.length<=8796093022208
 gl:P.bj.length<=17592186044416
 hl:P.aj.length<=8796093022208
 fit:Ay P
section
variable {P:Pd} {aR:Option Addr} {cR:Nat} {aW:Option Addr} {cW:Nat} {aX:Option Addr} {cX:Nat} {aG:Option Addr} {cG:Nat} {aH:Option Addr} {cH b:Nat} {w w':World}
theorem dX.went(h:dX P aR cR aW cW aX cX aG cG aH cH w)(hb:Below w.heap.size w w'):dX P aR cR aW cW aX cX aG cG aH cH w':=
 ⟨h.rules.went hb,h.row.went hb,h.rows.went (fun k=>k.went) hb,h.bj.went hb,h.aj.went (fun k=>k.went) hb,h.rc,h.wc,h.xc,h.gc,h.hc,h.rl,h.wl,h.xl,h.gl,h.hl,h.fit⟩
def fK(P:Pd)(aR:Option Addr)(cR:Nat)(aW:Option Addr)(cW:Nat)(aX:Option Addr)(cX:Nat)(aG:Option Addr)(cG:Nat)(aH:Option Addr)(cH:Nat)(b:Nat)(w:World):Prop:=
 w.cell? ⟨b,0,none⟩=some (.slice aR P.rules.length cR)/\w.cell? ⟨b,1,none⟩=some (.int .i64 P.terms)/\w.cell? ⟨b,2,none⟩=some (.int .i64 P.ah)/\w.cell? ⟨b,3,none⟩=some (.slice aW P.row.length cW)/\w.cell? ⟨b,4,none⟩=some (.slice aX P.rows.length cX)/\w.cell? ⟨b,5,none⟩=some (.slice aG P.bj.length cG)/\w.cell? ⟨b,6,none⟩=some (.slice aH P.aj.length cH)
theorem fK.went(h:fK P aR cR aW cW aX cX aG cG aH cH b w)(hb:Below w.heap.size w w'):fK P aR cR aW cW aX cX aG cG aH cH b w':=by
 obtain⟨h0,h1,h2,h3,h4,h5,h6⟩:=h;exact⟨cell_later hb h0,cell_later hb h1,cell_later hb h2,cell_later hb h3,cell_later hb h4,cell_later hb h5,cell_later hb h6⟩
theorem nJ(w:World)(U):fK P aR cR aW cW aX cX aG cG aH cH w.heap.size (w.alloc (.cells (bU P aR cR aW cW aX cX aG cG aH cH) U)):=by
 refine⟨?_,?_,?_,?_,?_,?_,?_⟩<;>simp[bU]
end
end Pk
namespace Pk
open Go.RowKit Go.Maps Go.WideShapes
def Ty(b:Nat)(T:TypeId)(w:World):Prop:=∃cur fz,w.heap[b]?=some (.cells cur T fz)
theorem Ty.went{b}{T}{w w'}(h:Ty b T w)(hb:Below w.heap.size w w'):Ty b T w':=by
 obtain⟨cur,fz,h⟩:=h;exact⟨cur,fz,(hb.block b (Array.getElem?_eq_some_iff.1 h).1).trans h⟩
theorem Ty.kept{b g}{T U}{w w'}(h:Ty b T w)(hg:Ty g U w)(hne:T≠U)(h2:w.grownBy w' (some g)):w'.heap[b]?=w.heap[b]?:=by
 obtain⟨cur,fz,h⟩:=h;obtain⟨AP,fz2,hg⟩:=hg;refine h2.block b (Array.getElem?_eq_some_iff.1 h).1 fun e=>?_
 injection e with e
 subst e;rw[h]at hg;injection hg with hg
 injection hg with _ hg _
 exact hne hg
theorem Ty.kept'{b g}{T U}{w w'}(h:Ty b T w)(hg:Ty g U w)(hne:T≠U)(h2:w.grownBy w' (some g)):Ty b T w':=by
 have e:=h.kept hg hne h2;obtain⟨cur,fz,h⟩:=h;exact⟨cur,fz,e.trans h⟩
theorem pI{w}{base size n}{e}{v}{xs}(h:w.ownsRow base e size v n xs){g}(hg:v.ownBlock=some g):Ty g e w:=by
 rcases h.2 with⟨h0,_⟩|⟨g',cap,cur,h0,_,h1,_⟩
 ·rw[h0]at hg;cases hg
 ·rw[h0]at hg;injection hg with hg
  dsimp only at hg;subst hg;exact⟨cur,_,h1⟩
end Pk
namespace Gr
open Go.RowKit Go.Maps Go.ChangeShapes Go.WideShapes Go.Deep Go.Joins
theorem zGJ{H}{P}{e}{l}{d:DataW H}(h:d∈l):∀n∈d.weights P e,n∈DataW.weightsAll P e l:=by
 induction l with
 |nil=>cases h
 |cons a r ih=>
  intro n hn;simp only[DataW.weightsAll,List.mem_append];rcases List.mem_cons.1 h with rfl|h
  ·exact .inl hn
  ·exact .inr (ih h n hn)
def Within{H}(P:Program)(t:TypeId)(d:DataW H):Prop:=∀n∈d.weights P t,n<=140737488355328
theorem zPU{H}{P}{ts}{ds}(h:(DataW.weightsEach P ts ds).all (· <=reachBytes)=true){j:Nat}{t}{d:DataW H}(ht:ts[j]?=some t)(hd:ds[j]?=some d):Within P t d:=fun n hn=>by
 have:=List.all_eq_true.1 h n (DataW.weights_mem_each ht hd n hn);have h2:=reachBytes_lt;simp at this;omega
theorem Gu{H}{P}{t}{fs}{parts}(h:Within P t (.agg parts))(hs:P.underlying t=some (.struct fs)){j:Nat}{t'}{d:DataW H}(ht:(fs.toList.map (·.type))[j]?=some t')(hd:parts[j]?=some d):Within P t' d:=fun n hn=>by
 refine h n ?_;simp only[DataW.weights,hs];exact DataW.weights_mem_each ht hd n hn
theorem Ue{H}{P}{t e}{elems spare}(h:Within P t (.slice elems spare))(hs:P.underlying t=some (.slice e)){d:DataW H}(hd:d∈elems):Within P e d:=fun n hn=>by
 refine h n ?_;simp only[DataW.weights,hs,List.mem_cons,List.mem_append];exact .inr (.inl (zGJ hd n hn))
theorem MC{H}{P}{t e}{elems spare:List (DataW H)}(h:Within P t (.slice elems spare))(hs:P.underlying t=some (.slice e)):(elems.length+spare.length)*P.bytesOf e<=140737488355328:=by
 refine h _ ?_;simp[DataW.weights,hs]
theorem NT{n}(h:(Lit.int .i64 n).wf=true):Fits n:=by
 simp only[Lit.wf,Bool.and_eq_true,decide_eq_true_eq]at h;exact⟨h.1,h.2⟩
theorem zHw:Tryz.prog.cellsOf 9=1:=by kernel_rfl
theorem zMp:Tryz.prog.cellsOf 3=1:=by kernel_rfl
theorem zHr:Tryz.prog.bytesOf 9=16:=by kernel_rfl
theorem zMm:Tryz.prog.bytesOf 3=8:=by kernel_rfl
theorem zLF:Tryz.prog.bytesOf 55=32:=by kernel_rfl
section
variable {H:Type} {enc:TypeId×Value->H} {w:World}
theorem XS{fuel}{v}{x}(h:DataW.trod enc Tryz.prog w 0 (fun _=>true) true fuel 45 [v]=some x)(hz:Within Tryz.prog 45 x.1):
  ∃a c,∃L:List ByteArray,v=.slice a L.length c/\Sep.Reads a (L.map .string) w/\L.length<=c/\c<=8796093022208/\∀s∈L,s.size<=140737488355328:=by
 rcases open_strings Tryz.underlying45 Tryz.underlying9 zHw h with⟨hcs,_⟩|⟨a,len,cap,ss,hcs,_,hl,hm,hzz,rfl,hcell,hws⟩
 ·simp at hcs;subst hcs;exact⟨none,0,[],rfl,.nil _ _,Nat.le_refl _,by omega,fun s hs=>by cases hs⟩
 ·simp at hcs;subst hcs;simp only[if_true]at hzz;have hcap:=MC hz Tryz.underlying45;rw[zHr]at hcap;simp[strs]at hcap;refine⟨some a,cap,ss.take len,by simp;omega,fun i hi=>?_,by simp;omega,by omega,fun s hs=>?_⟩
  ·simp only[List.length_map,List.length_take]at hi;obtain⟨bb,off,spot⟩:=a;have hspot:spot=none:=by simpa[Addr.add]using World.cell?_spot (hcell 0 (by omega))
   subst hspot;refine⟨bb,off,rfl,?_⟩;have hc:=hcell i (by omega);rw[WideShapes.add_plain]at hc;rw[hc];simp[List.getD_eq_getElem?_getD,List.getElem?_eq_getElem (show i<ss.length by omega)]
  ·have:=Ue hz Tryz.underlying45 (d:=.lit (.string s.data.toList)) (by simp only[strs,List.mem_map];exact⟨s,hs,rfl⟩);have:=this s.data.toList.length (by simp[DataW.weights]);exact this
theorem zTa{fuel}{v}{x}(h:DataW.trod enc Tryz.prog w 0 (fun _=>true) true fuel 29 [v]=some x)(hz:Within Tryz.prog 29 x.1):
  ∃a c,∃L:List Int,v=.slice a L.length c/\Sep.Reads a (L.map (.int .i64)) w/\L.length<=c/\c<=17592186044416/\∀n∈L,Fits n:=by
 rcases open_ints Tryz.underlying29 Tryz.underlying3 zMp h with⟨hcs,_⟩|⟨a,len,cap,ss,hcs,_,hl,hm,hzz,rfl,hcell,hws⟩
 ·simp at hcs;subst hcs;exact⟨none,0,[],rfl,.nil _ _,Nat.le_refl _,by omega,fun s hs=>by cases hs⟩
 ·simp at hcs;subst hcs;simp only[if_true]at hzz;have hcap:=MC hz Tryz.underlying29;rw[zMm]at hcap;simp[lits]at hcap;refine⟨some a,cap,ss.take len,by simp;omega,fun i hi=>?_,by simp;omega,by omega,fun n hn=>NT (hws n (List.mem_of_mem_take hn))⟩;simp only[List.length_map,List.length_take]at hi;obtain⟨bb,off,spot⟩:=a;have hspot:spot=none:=by simpa[Addr.add]using World.cell?_spot (hcell 0 (by omega))
  subst hspot;refine⟨bb,off,rfl,?_⟩;have hc:=hcell i (by omega);rw[WideShapes.add_plain]at hc;rw[hc];simp[List.getD_eq_getElem?_getD,List.getElem?_eq_getElem (show i<ss.length by omega)]
def zUm(a:Option Addr)(i:Nat)(r:Int×List Int)(w:World):Prop:=
 (∃b o ra rc,a=some ⟨b,o,none⟩/\w.cell? ⟨b,o+i*2,none⟩=some (.int .i64 r.1)/\w.cell? ⟨b,o+i*2+1,none⟩=some (.slice ra r.2.length rc)/\Sep.Reads ra (r.2.map (.int .i64)) w/\r.2.length<=rc/\r.2.length<=17592186044416)/\
 Fits r.1/\∀x∈r.2,Fits x
theorem zRk{fuel}{v}{x}(h:DataW.trod enc Tryz.prog w 0 (fun _=>true) true fuel 22 [v]=some x)(hz:Within Tryz.prog 22 x.1):
  ∃a c,∃R:List (Int×List Int),v=.slice a R.length c/\pE a R w/\R.length<=c/\c<=4398046511104/\(∀r∈R,Fits r.1)/\∀r∈R,∀x∈r.2,Fits x:=by
 rcases open_slice_pairs Tryz.underlying22 Tryz.underlying55 (by kernel_rfl) rfl rfl (by kernel_rfl) (by kernel_rfl) h with⟨hcs,_⟩|⟨a,len,cap,m,n,V0,V1,D0,D1,P0,P1,hcs,_,hl,hm,hmm,rfl,hi⟩
 ·simp at hcs;subst hcs;exact⟨none,0,[],rfl,fun i hi=>absurd hi (by simp),Nat.le_refl _,by omega,(fun r hr=>by cases hr),(fun r hr=>by cases hr)⟩
 ·simp at hcs;subst hcs;simp only[if_true]at hmm;subst hmm;have hcap:=MC hz Tryz.underlying22;rw[zLF]at hcap;simp at hcap
  have each:∀i,i<len->∃r:Int×List Int,zUm (some a) i r w:=fun i him=>by
   obtain⟨hc0,hc1,ht0,ht1⟩:=hi i (by omega);obtain⟨k,hk,_,hw⟩:=DataW.trod_int Tryz.underlying3 ht0;simp at hk;have hzi:=Ue hz Tryz.underlying22 (d:=.agg [D0 i,D1 i]) (by simp only[List.mem_map];exact⟨i,List.mem_range.2 him,rfl⟩);have hz1:=Gu hzi Tryz.underlying55 (j:=1) (t':=29) (d:=D1 i) rfl rfl;obtain⟨ra,rc,L,hv1,hR,hL,hC,hF⟩:=zTa ht1 hz1;rw[hk]at hc0;rw[hv1]at hc1;obtain⟨bb,off,spot⟩:=a;have hspot:spot=none:=by simpa[Addr.add]using World.cell?_spot (hi 0 (by omega)).1
   subst hspot;rw[WideShapes.add_plain]at hc0 hc1;exact⟨(k,L),⟨bb,off,ra,rc,rfl,hc0,hc1,hR,hL,Nat.le_trans hL hC⟩,NT hw,hF⟩
  obtain⟨f,hf⟩:=choose_lt each;refine⟨some a,m,(List.range len).map f,by simp,fun i hi=>?_,by simpa using hl,by omega,fun r hr=>?_,fun r hr=>?_⟩
  ·simp only[List.length_map,List.length_range]at hi;obtain⟨b,o,ra,rc,e,h1,h2,h3,h4⟩:=(hf i hi).1;refine⟨b,o,ra,rc,e,?_⟩;simp only[List.getElem_map,List.getElem_range];exact⟨h1,h2,h3,h4⟩
  ·obtain⟨i,hi,rfl⟩:=List.mem_map.1 hr;exact(hf i (List.mem_range.1 hi)).2.1
  ·obtain⟨i,hi,rfl⟩:=List.mem_map.1 hr;exact(hf i (List.mem_range.1 hi)).2.2
theorem zTS{r}{b0}{v}{d}{p}(hv:Value.okWide Tryz.prog w r b0 47 v)(h:DataW.Trod enc Tryz.prog w 0 (fun _=>true) true 47 v d p)(hz:Within Tryz.prog 47 d):
  ∃h G,v=gv h G/\bI h G w:=by
 obtain⟨v0,v1,v2,v3,y0,y1,y2,y3,n,rfl,rfl,_,h0,h1,h2,h3⟩:=open_agg4 Tryz.underlying47 (by kernel_rfl) (by kernel_rfl) hv h;obtain⟨a1,c1,L1,rfl,r1,l1,m1,s1⟩:=XS h0 (Gu hz Tryz.underlying47 (j:=0) (t':=45) rfl rfl);obtain⟨a2,c2,L2,rfl,r2,l2,m2,s2⟩:=XS h1 (Gu hz Tryz.underlying47 (j:=1) (t':=45) rfl rfl);obtain⟨a3,c3,R,rfl,r3,l3,m3,s3,s4⟩:=zRk h2 (Gu hz Tryz.underlying47 (j:=2) (t':=22) rfl rfl);obtain⟨k,hk,_,hw⟩:=DataW.trod_int Tryz.underlying3 h3;simp at hk;subst hk;exact⟨⟨a1,c1,a2,c2,a3,c3⟩,⟨L1,L2,R,k⟩,rfl,⟨r1,r2,r3,l1,Nat.le_trans l1 m1,Nat.le_trans l2 m2,l3,Nat.le_trans l3 m3,⟨s1,s2,NT hw,s3,s4⟩⟩⟩
end
