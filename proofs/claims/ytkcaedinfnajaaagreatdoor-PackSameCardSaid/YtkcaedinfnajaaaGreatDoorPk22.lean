/- A part of the proof. -/
import Derived.RangeFuncNested
import Derived.RangeFuncLeaves
import Derived.Shelf.Abstract
import Derived.OwnWalkIn
import Derived.TacticsInMore
import Derived.RegionIn
import Derived.LoopNIn
import Derived.LoopIn
import Derived.Test.YtkcaedinfnajaaaGreatDoorPk11
import Derived.RangeFuncBox
import Derived.Test.YtkcaedinfnajaaaGreatDoorPk21
import Derived.Laws.BitsAllLaws
import Derived.Deep.DeepCutAuto
import Derived.Shelf.SlSortCmp.QuietGrown
import Derived.Deep.OwnRows
set_option maxHeartbeats 4000000
set_option maxRecDepth 100000
set_option linter.unusedVariables false
namespace Go.Proofs.YtkcaedinfnajaaaGreatDoor
open Go.RowKit Go.Maps
namespace Im
attribute [local go_sem] Oper.semAt_some
structure Came (X Lf:Itm->Prop) (l:List Itm):Prop where
 nd:l.Nodup
 fit:∀x∈l,W64 x
 mem:∀x,W64 x->(x∈l↔X x/\¬Lf x)
theorem Came.start(X:Itm->Prop):Came X X []:=⟨List.nodup_nil,fun x hx=>(List.not_mem_nil hx).elim,fun x _=>⟨fun h=>(List.not_mem_nil h).elim,fun h=>absurd h.1 h.2⟩⟩
theorem Came.step{X Lf:Itm->Prop}{l:List Itm}{x:Itm}(h:Came X Lf l)(hx:W64 x)(hl:Lf x)(hX:X x):Came X (fun y=>Lf y/\y≠x) (l++[x]):=by
 have hn:x∉l:=fun k=>((h.mem x hx).1 k).2 hl
 refine⟨List.nodup_append.2 ⟨h.nd,by simp,fun a ha b hb=>?_⟩,fun y hy=>?_,fun y hy=>?_⟩
 ·rw[List.mem_singleton]at hb;subst hb;exact fun e=>hn (e▸ha)
 ·rcases List.mem_append.1 hy with k|k
  ·exact h.fit y k
  ·rw[List.mem_singleton]at k;rw[k];exact hx
 ·rw[List.mem_append,List.mem_singleton,h.mem y hy];constructor
  ·rintro(⟨h1,h2⟩|e)
   ·exact⟨h1,fun k=>h2 k.1⟩
   ·subst e;exact⟨hX,fun k=>k.2 rfl⟩
  ·rintro⟨h1,h2⟩
   by_cases e:y=x
   ·exact .inr e
   ·exact .inl ⟨h1,fun k=>h2 ⟨k,e⟩⟩
structure All (X:Itm->Prop) (l:List Itm):Prop where
 nd:l.Nodup
 fit:∀x∈l,W64 x
 mem:∀x,W64 x->(x∈l↔X x)
theorem Came.done{X Lf:Itm->Prop}{l:List Itm}(h:Came X Lf l)(ho:Over Lf):All X l:=
 ⟨h.nd,h.fit,fun x hx=>(h.mem x hx).trans ⟨fun k=>k.1,fun k=>⟨k,ho x hx⟩⟩⟩
theorem keys1_in(F:Fence)(n:Nat)(hf:F.fn 204)(hro:F.round=none)(hn:1<=n)(l Bm b nn:Nat)(X:Itm->Prop)(J Jx:List Itm->World->Prop)
  (hY:∀pre x W,J pre W->pre.length<nn->YieldAt F (n-1) Tryz.prog l #[iv x] W fun e W'=>(e=.returned (.bool true)/\J (pre++[x]) W'/\KeepsWalks W W')\/(e=.returned (.bool false)/\Jx (pre++[x]) W'))
  (W:World) (hJ:AbidesFrom W.heap.size J) (hm:W.cell? ⟨Bm,0,none⟩=some (.map (some b))) (hs:MS b nn X W) (h0:J [] W):
  CallsIn F n Tryz.prog 204 #[.func (.yield l) #[] #[],.pointer (some ⟨Bm,0,none⟩)] W fun e W'=>(∃v,e=.returned v)/\
   ((∃ss,All X ss/\J ss W')\/(∃pre,True/\Jx pre W')):=by
 refine callsIn_of_wp Tryz.func204 rfl hf ?_ hro;simp only[Tryz.ntmps204,List.size_toArray,List.length_cons,List.length_nil,Nat.reduceAdd,Nat.reduceSub,Array.replicate_succ,Array.replicate_zero,List.push_toArray,List.append_toArray,List.nil_append,List.cons_append]
 gi_wp2_with (first
  |(gi_at_range;refine zDH _ rfl _ rfl ktI Tryz.underlying223 (.agg []) b nn X rfl hs ?_;intro w0 hrg0 hg0 hs0)
  |gi_in)
 go_frame
 gi_loopw [3] (fun _ wr=>∃(Lf:Itm->Prop) (ss:List Itm),MR b W.heap.size nn ss.length X Lf wr/\ss.length<=nn/\Came X Lf ss/\J ss wr)
  (fun _ wr=>wr.rangeLeft b W.heap.size)
 case atStart=>
  exact⟨X,[],hrg0,Nat.zero_le _,Came.start X,hJ [] W w0 none h0 hg0 (fun r e=>by cases e)⟩
 case round=>
  obtain⟨Lf,ss,hrg,hle,hC,hJs⟩:=hrel
  gi_wp2_with (first
   |(gi_at_next;refine zDj _ rfl _ rfl ktI b W.heap.size nn ss.length X Lf rfl hrg ?_ ?_)
   |gi_in)
  ·intro hd
   gi_wp2
   go_end0;exact⟨⟨_,rfl⟩,.inl ⟨ss,hC.done hd,hJs⟩⟩
  ·intro x0 x1 w2 hx hlf hXx hrg2 hlt hg2 hs2 hen;have hJ2:J ss w2:=hJ ss wr w2 (some W.heap.size) hJs hg2 (fun r e=>by cases e;exact⟨Nat.le_refl _,hrg.iter_walk⟩)
   have hlt2:ss.length<nn:=by
    obtain⟨D,left,cnt,h1,h2,h3,h4⟩:=hrg2;omega
   have hC2:=zVZ (hC.step (x:=(x0,x1)) hx hlf hXx);have hr3:=hrg2.went (Gr.boxed w2 (.cells #[.int .i64 x0,.int .i64 x1] 154));have hl3:(w2.alloc (.cells #[.int .i64 x0,.int .i64 x1] 154)).rangeLeft b W.heap.size=w2.rangeLeft b W.heap.size:=MRan.left_keep ((Gr.boxed w2 _).block b hrg2.lt.1) ((Gr.boxed w2 _).block _ hrg2.lt.2.1);have hJ3:J ss (w2.alloc (.cells #[.int .i64 x0,.int .i64 x1] 154)):=hJ ss w2 _ none hJ2 (World.grownBy_alloc _ _ _) (fun r e=>by cases e);have y0:(w2.alloc (.cells #[.int .i64 x0,.int .i64 x1] 154)).cell? ⟨w2.heap.size,0,none⟩=some (.int .i64 x0):=Gr.zAC rfl rfl;have y1:(w2.alloc (.cells #[.int .i64 x0,.int .i64 x1] 154)).cell? ⟨w2.heap.size,1,none⟩=some (.int .i64 x1):=Gr.zAC rfl rfl;obtain⟨fn,tmps,assign,body,hy,hR⟩:=hY ss (x0,x1) _ hJ3 hlt2;unfold iv at hen hy⊢;dsimp only at hen hy⊢;clear hs2 hJ2 hJs hrg hC hJ
   gi_wp2
   refine hR.mono ?_;rintro e W3 (⟨rfl,hJ4,hk4⟩|⟨rfl,hJx4⟩)
   ·obtain⟨hr4,hl4⟩:=hr3.walks hk4
    gi_wp2
    go_roundw
    case rel=>exact⟨_,ss++[(x0,x1)],by simpa using hr4,by simp;omega,hC2.out,hJ4⟩
    case measure=>rw[hl4,hl3];exact hlt
   ·gi_wp2
    refine bodyPost_ret (results_none rfl _ _ _) rfl ?_;exact⟨⟨_,rfl⟩,.inr ⟨_,trivial,hJx4⟩⟩
theorem keys_stops(F:Fence)(n:Nat)(hf:F.fn 204)(hro:F.round=none)(hn:1<=n)(Bm b nn:Nat)(X:Itm->Prop)(w:World)(hBm:Bm<w.heap.size)(hm:w.cell? ⟨Bm,0,none⟩=some (.map (some b)))(hs:MS b nn X w):
  SeqStopsK F n Tryz.prog 204 #[.pointer (some ⟨Bm,0,none⟩)] (fun x:Itm=>#[iv x]) KeepsWalks (All X) (fun _=>True) nn w:=fun l J Jx W hW hJ _ hY h0=>
 keys1_in F n hf hro hn l Bm b nn X J Jx hY W hJ ((hW.cell (p:=⟨Bm,0,none⟩) hBm).trans hm) (hs.went hW) h0
attribute [local go_sem] Oper.semAt_some
theorem zDS:(Tryz.prog.info? 154).map (fun i=>(i.zero,i.size,i.bytes))=some (some (.agg #[.int .i64 0,.int .i64 0]),2,16):=by kernel_rfl
abbrev seqv(Bm:Nat):Value:=.func (.func 204) #[] #[.pointer (some ⟨Bm,0,none⟩)]
def zRY(X:Itm->Prop)(w:World)(e:Ending)(w':World):Prop:=∃(v:Value) (ss:List Itm),e=.returned v/\All X ss/\ItsV 154 w.heap.size ss v w'/\Below w.heap.size w w'
def AxI(w:World)(Bm:Nat)(x:Itm)(a':Act)(W:World):Prop:=∃Bx,w.heap.size<=Bx/\W.heap[Bx]?=some (.cells #[.int .i64 x.1,.int .i64 x.2] 154 (0,0))/\
 a'={tmps:=#[.slice none 0 0,seqv Bm,.pointer (some ⟨w.heap.size,0,none⟩),undef,.slice none 0 0,.pointer (some ⟨Bx,0,none⟩),seqv Bm,iv x,undef,undef,undef,undef,undef],defers:=[]}
theorem zRm(w:World)(Bm:Nat)(x:Itm)(a':Act)(B:Nat):OwnFrom B (fun(_:Unit) W=>AxI w Bm x a' W):=by
 rintro s W W' row ⟨Bx,h1,h2,h3⟩ hg hr;refine⟨Bx,h1,(hg.block Bx (Array.getElem?_eq_some_iff.1 h2).1 fun e=>?_).trans h2,h3⟩;obtain⟨_,o,ho,hc⟩:=hr Bx e.symm;rw[h2]at ho;cases ho;cases hc
theorem appendSeq_in(F:Fence)(n:Nat)(h68:F.fn 207)(h53:F.fn 204)(hro:F.round=none)(hn:3<=n)(Bm b nn:Nat)(X:Itm->Prop)(w:World)(hBm:Bm<w.heap.size)(hm:w.cell? ⟨Bm,0,none⟩=some (.map (some b)))(hs:MS b nn X w)(hnn:nn<=1000000):
  CallsIn F n Tryz.prog 207 #[.slice none 0 0,seqv Bm] w (zRY X w):=by
 have h1:1<=n:=by omega
 obtain⟨i0,hi,hz0,hz1,hz2⟩:=info_parts zDS;refine callsIn_of_wp_marks Tryz.func207 rfl h68 ?_ hro;simp only[Tryz.ntmps207,List.size_toArray,List.length_cons,List.length_nil,Nat.reduceAdd,Nat.reduceSub,Array.replicate_succ,Array.replicate_zero,List.push_toArray,List.append_toArray,List.nil_append,List.cons_append]
 gi_wp2
 have bO:=Boxed.new w 141 (.slice none 0 0);have hb0:Below w.heap.size w (w.alloc (.cells #[.slice none 0 0] 141)):=Gr.boxed _ _;have hsz:(w.alloc (.cells #[.slice none 0 0] 141)).heap.size=w.heap.size+1:=by simp
 have hst:=keys_stops F (n-1) h53 hro (by omega) Bm b nn X _ (by rw[hsz];omega) (Gr.cell_later hb0 hm) (hs.went hb0);clear hm hs
 refine wpIn_rangeFunc_ownH hro h1 (gf:=204) (lb:=#[.pointer (some ⟨Bm,0,none⟩)]) rfl h53 (enters_of Tryz.func204 (by kernel_rfl) rfl)
  hst walksK_t walksK_b (Below.refl _ _) (fun _=>rfl)
  (fun(pre:List Itm) W=>(∃v,Boxed W w.heap.size 141 v/\W.ownsRow w.heap.size 154 2 v pre.length (pre.flatMap ic)/\True)/\Below w.heap.size w W)
  (fun _ _ _=>False)
  (OwnFrom.and (Own.from (holdsRow_own w.heap.size w.heap.size 141 154 2 (fun(pre:List Itm)=>pre.length) (fun(pre:List Itm)=>pre.flatMap ic) (fun _ _=>True)) _) (ownFrom_below (Nat.le_refl _) (by rw[hsz];omega)))
  (fun _ _ _ _ _ hs _ _=>hs)
  ⟨⟨_,bO,World.ownsRow_nil _ _ _ _,trivial⟩,hb0⟩
  (AxI w Bm) (fun x a'=>zRm w Bm x a' _) ?assign ?body ?done ?stop
 case assign=>
  rintro l pre x W K ⟨⟨v,hv,hrow,_⟩,hB⟩ hK;have hx:iv x=.agg #[.int .i64 x.1,.int .i64 x.2]:=rfl;rw[hx]at*
  gi_wp2
  exact hK _ _ ((KeepsOthers.alloc _ _).from _) (KeepsWalks.alloc _ _) ⟨⟨v,hv.alloc _,hrow.alloc _,trivial⟩,hB.alloc hB.size _⟩ ⟨W.heap.size,hB.size,World.alloc_heap_new _ _,rfl⟩
 case body=>
  rintro l pre x a' W hl ⟨r,hr⟩ ⟨⟨v,hv,hrow,_⟩,hB⟩ ⟨Bx,hBx,bX,rfl⟩ hlt;have hc:=hv.cell;have c0:W.cell? ⟨Bx,0,none⟩=some (.int .i64 x.1):=by simp[World.cell?,bX]
  have c1:W.cell? ⟨Bx,1,none⟩=some (.int .i64 x.2):=by simp[World.cell?,bX]
  have hx:iv x=.agg #[.int .i64 x.1,.int .i64 x.2]:=rfl;rw[hx];clear hr bX hx
  gi_wp2_with (gi_at_builtin;refine wpListIn_append_own _ rfl _ _ 141 rfl w.heap.size 154 i0 (.agg #[.int .i64 0,.int .i64 0]) 2 16 Tryz.underlying141 hi hz0 hz1 hz2 rfl (by decide) _ _ _ rfl (hrow.alloc _) ⟨W.heap.size,0,none⟩ 1 1 (ic x) rfl rfl ?c1 ?c2 (by unfold maxLen;omega) (by omega) (by have:=hB.size;simp;omega) ?_)
  case c1=>
   intro i u hu
   match i,hu with
   |0,hu=>
    simp[ic]at hu;subst hu;simp[Addr.add]
   |1,hu=>
    simp[ic]at hu;subst hu;simp[Addr.add]
   |i+2,hu=>simp[ic]at hu
  case c2=>
   intro u hu;simp only[ic,List.mem_cons,List.not_mem_nil,or_false]at hu;rcases hu with rfl|rfl<;>rfl
  intro v' w1 hown' hgrow _;obtain⟨g',cap',rfl⟩:=ownsRow_succ hown';obtain⟨hv1,hv2,hr2,hk2,hb2⟩:=hv.appended (by decide) hrow hB.size (Nat.le_refl _) hown' hgrow;have hc1:=hv1.cell;have hf1:=hv1.frozen
  gi_wp2
  exact⟨hk2.from _,hk2.walks,⟨_,hv2,by simpa[ic]using hr2,trivial⟩,hB.trans hb2⟩
 case done=>
  rintro D ys W hD hS ⟨⟨v,hv,hrow,_⟩,hB⟩ hK;have hc:=hv.cell
  gi_wp2
  refine⟨by simp,.inl ⟨_,_,rfl,run_takeDeferred hK,?_⟩⟩;exact⟨_,results_tmp rfl _ _ _,v,ys,rfl,hS,ownsRow_putObj hrow _ hK rfl,hB.trans (belowK_b (w:=w) (Nat.le_refl _) W D _ _ (by rw[hsz]at hD;omega) hK rfl rfl)⟩
 case stop=>
  rintro D c pre W _ _ h _;exact h.elim
end Im
namespace Pk
open Gr (Fits cell_later)
open Im (ItsA)
theorem zAA{w:World}{b:Nat}{cs:Array Value}{T:TypeId}(h:w.heap[b]?=some (.cells cs T (0,0))){k:Nat}(hk:k<cs.size):w.cell? ⟨b,k,none⟩=some cs[k]:=by
 unfold World.cell?;simp only[h];exact Array.getElem?_eq_getElem hk
theorem zAK{w:World}{b k:Nat}{cs:Array Value}{T:TypeId}(h:w.heap[b]?=some (.cells cs T (0,0))):w.frozen? ⟨b,k,none⟩=false:=by
 simp[World.frozen?,h]
theorem zAP{w:World}{b k:Nat}{cs:Array Value}{T:TypeId}(h:w.heap[b]?=some (.cells cs T (0,0)))(v:Value):(w.setCell ⟨b,k,none⟩ v).heap[b]?=some (.cells (cs.setIfInBounds k v) T (0,0)):=by
 rw[setCell_eq_setRow w b k cs T (0,0) v h];exact setRow_heap w b cs _ T (0,0) h
theorem zAm(w:World)(o:Obj):(w.alloc o).heap[w.heap.size]?=some o:=Array.getElem?_push_size
def IntA(a:Option Addr)(L:List Int)(w:World):Prop:=Sep.Reads a (L.map (.int .i64)) w
def CodA(a:Option Addr)(L:List Int)(w:World):Prop:=Sep.Reads a (L.map (.int .u16)) w
theorem IntA.went{a:Option Addr}{L:List Int}{w w':World}(h:IntA a L w)(hb:Below w.heap.size w w'):IntA a L w':=h.below hb (Nat.le_refl _)
theorem CodA.went{a:Option Addr}{L:List Int}{w w':World}(h:CodA a L w)(hb:Below w.heap.size w w'):CodA a L w':=h.below hb (Nat.le_refl _)
theorem IntA.at{a:Option Addr}{L:List Int}{w:World}(h:IntA a L w){i:Nat}(hi:i<L.length):∃b o,a=some ⟨b,o,none⟩/\w.cell? ⟨b,o+i,none⟩=some (.int .i64 L[i]):=by
 obtain⟨b,o,e,h1⟩:=h i (by simpa using hi);exact⟨b,o,e,by simpa using h1⟩
theorem CodA.at{a:Option Addr}{L:List Int}{w:World}(h:CodA a L w){i:Nat}(hi:i<L.length):∃b o,a=some ⟨b,o,none⟩/\w.cell? ⟨b,o+i,none⟩=some (.int .u16 L[i]):=by
 obtain⟨b,o,e,h1⟩:=h i (by simpa using hi);exact⟨b,o,e,by simpa using h1⟩
def zIE{α:Type}(R:Option Addr->List α->World->Prop)(a:Option Addr)(X:List (List α))(w:World):Prop:=
 ∀i (h:i<X.length),∃b o ra rc,a=some ⟨b,o,none⟩/\w.cell? ⟨b,o+i,none⟩=some (.slice ra X[i].length rc)/\R ra X[i] w/\X[i].length<=rc/\X[i].length<=35184372088832
theorem zIE.went{α:Type}{R:Option Addr->List α->World->Prop}(hR:∀{a X w w'},R a X w->Below w.heap.size w w'->R a X w'){a:Option Addr}{X:List (List α)}{w w':World}(h:zIE R a X w)(hb:Below w.heap.size w w'):zIE R a X w':=fun i hi=>by
 obtain⟨b,o,ra,rc,e,h1,h2,h3⟩:=h i hi;exact⟨b,o,ra,rc,e,cell_later hb h1,hR h2 hb,h3⟩
theorem zIE.nil{α:Type}(R:Option Addr->List α->World->Prop)(a:Option Addr)(w:World):zIE R a [] w:=fun i hi=>absurd hi (Nat.not_lt_zero _)
abbrev zTd:=zIE ItsA
abbrev zRV:=zIE IntA
abbrev zIB:=zIE CodA
def RulA(a:Option Addr)(R:List (Int×List Int))(w:World):Prop:=
 ∀i (h:i<R.length),∃b o ra rc,a=some ⟨b,o,none⟩/\w.cell? ⟨b,o+i*2,none⟩=some (.int .i64 R[i].1)/\w.cell? ⟨b,o+i*2+1,none⟩=some (.slice ra R[i].2.length rc)/\IntA ra R[i].2 w/\R[i].2.length<=17592186044416
theorem RulA.went{a:Option Addr}{R:List (Int×List Int)}{w w':World}(h:RulA a R w)(hb:Below w.heap.size w w'):RulA a R w':=fun i hi=>by
 obtain⟨b,o,ra,rc,e,h1,h2,h3,h5⟩:=h i hi;exact⟨b,o,ra,rc,e,cell_later hb h1,cell_later hb h2,h3.went hb,h5⟩
structure TFit (T:Tb):Prop where
 t:Fits T.terms
 n:Fits T.nons
 left:∀r∈T.rules,Fits r.1
 right:∀r∈T.rules,∀x∈r.2,Fits x
 acts:∀r∈T.acts,∀x∈r,Fits x.1/\Fits x.2
 goto:∀r∈T.goto,∀x∈r,Fits x
structure TSm (T:Tb):Prop where
 rl:T.rules.length<=100000
 al:T.acts.length<=100000
 gl:T.goto.length<=100000
 rr:∀r∈T.rules,r.2.length<=100000
 ar:∀r∈T.acts,r.length<=100000
 gr:∀r∈T.goto,r.length<=100000
def tvs(T:Tb)(aR:Option Addr)(cR:Nat)(aA:Option Addr)(cA:Nat)(aG:Option Addr)(cG:Nat):Array Value:=#[.slice aR T.rules.length cR,.int .i64 T.terms,.int .i64 T.nons,.slice aA T.acts.length cA,.slice aG T.goto.length cG]
structure TAt (T:Tb) (aR:Option Addr) (cR:Nat) (aA:Option Addr) (cA:Nat) (aG:Option Addr) (cG:Nat) (w:World):Prop where
 rules:RulA aR T.rules w
 acts:zTd aA T.acts w
 goto:zRV aG T.goto w
 rc:T.rules.length<=cR
 rl:T.rules.length<=4398046511104
 al:T.acts.length<=8796093022208
 gl:T.goto.length<=8796093022208
 fit:TFit T
section
variable {T:Tb} {aR:Option Addr} {cR:Nat} {aA:Option Addr} {cA:Nat} {aG:Option Addr} {cG b:Nat} {w w':World}
theorem TAt.went(h:TAt T aR cR aA cA aG cG w)(hb:Below w.heap.size w w'):TAt T aR cR aA cA aG cG w':=
 ⟨h.rules.went hb,h.acts.went (fun k=>k.went) hb,h.goto.went (fun k=>k.went) hb,h.rc,h.rl,h.al,h.gl,h.fit⟩
def TBox(T:Tb)(aR:Option Addr)(cR:Nat)(aA:Option Addr)(cA:Nat)(aG:Option Addr)(cG:Nat)(b:Nat)(w:World):Prop:=
 w.cell? ⟨b,0,none⟩=some (.slice aR T.rules.length cR)/\w.cell? ⟨b,1,none⟩=some (.int .i64 T.terms)/\w.cell? ⟨b,2,none⟩=some (.int .i64 T.nons)/\w.cell? ⟨b,3,none⟩=some (.slice aA T.acts.length cA)/\w.cell? ⟨b,4,none⟩=some (.slice aG T.goto.length cG)
theorem TBox.went(h:TBox T aR cR aA cA aG cG b w)(hb:Below w.heap.size w w'):TBox T aR cR aA cA aG cG b w':=by
 obtain⟨h0,h1,h2,h3,h4⟩:=h;exact⟨cell_later hb h0,cell_later hb h1,cell_later hb h2,cell_later hb h3,cell_later hb h4⟩
theorem zA4(w:World)(U:TypeId):TBox T aR cR aA cA aG cG w.heap.size (w.alloc (.cells (tvs T aR cR aA cA aG cG) U)):=by
 refine⟨?_,?_,?_,?_,?_⟩<;>simp[tvs]
end
structure PFit (P:Pd):Prop where
 t:Fits P.terms
 n:Fits P.nons
 left:∀r∈P.rules,Fits r.1
 right:∀r∈P.rules,∀x∈r.2,Fits x
 row:∀x∈P.row,Fits x
 gow:∀x∈P.gow,Fits x
 rows:∀r∈P.rows,∀x∈r,Cd x
 gows:∀r∈P.gows,∀x∈r,Cd x
structure PSm (P:Pd):Prop where
 rl:P.rules.length<=100000
 wl:P.row.length<=100000
 gl:P.gow.length<=100000
 wsl:P.rows.length<=100000
 gsl:P.gows.length<=100000
 rr:∀r∈P.rules,r.2.length<=100000
 wr:∀r∈P.rows,r.length<=100000
 gr:∀r∈P.gows,r.length<=100000
def pvs(P:Pd)(aR:Option Addr)(cR:Nat)(aW:Option Addr)(cW:Nat)(aX:Option Addr)(cX:Nat)(aG:Option Addr)(cG:Nat)(aH:Option Addr)(cH:Nat):Array Value:=
 #[.slice aR P.rules.length cR,.int .i64 P.terms,.int .i64 P.nons,.slice aW P.row.length cW,.slice aX P.rows.length cX,.slice aG P.gow.length cG,.slice aH P.gows.length cH]
structure PAt (P:Pd) (aR:Option Addr) (cR:Nat) (aW:Option Addr) (cW:Nat) (aX:Option Addr) (cX:Nat) (aG:Option Addr) (cG:Nat) (aH:Option Addr) (cH:Nat) (w:World):Prop where
 rules:RulA aR P.rules w
 row:IntA aW P.row w
 rows:zIB aX P.rows w
 gow:IntA aG P.gow w
 gows:zIB aH P.gows w
 rc:P.rules.length<=cR
 wc:P.row.length<=cW
 xc:P.rows.length<=cX
 gc:P.gow.length<=cG
 hc:P.gows.length<=cH
 rl:P.rules.length<=4398046511104
 wl:P.row.length<=17592186044416
 xl:P.rows.length<=8796093022208
 gl:P.gow.length<=17592186044416
 hl:P.gows.length<=8796093022208
 fit:PFit P
section
variable {P:Pd} {aR:Option Addr} {cR:Nat} {aW:Option Addr} {cW:Nat} {aX:Option Addr} {cX:Nat} {aG:Option Addr} {cG:Nat} {aH:Option Addr} {cH b:Nat} {w w':World}
theorem PAt.went(h:PAt P aR cR aW cW aX cX aG cG aH cH w)(hb:Below w.heap.size w w'):PAt P aR cR aW cW aX cX aG cG aH cH w':=
 ⟨h.rules.went hb,h.row.went hb,h.rows.went (fun k=>k.went) hb,h.gow.went hb,h.gows.went (fun k=>k.went) hb,h.rc,h.wc,h.xc,h.gc,h.hc,h.rl,h.wl,h.xl,h.gl,h.hl,h.fit⟩
def PBox(P:Pd)(aR:Option Addr)(cR:Nat)(aW:Option Addr)(cW:Nat)(aX:Option Addr)(cX:Nat)(aG:Option Addr)(cG:Nat)(aH:Option Addr)(cH:Nat)(b:Nat)(w:World):Prop:=
 w.cell? ⟨b,0,none⟩=some (.slice aR P.rules.length cR)/\w.cell? ⟨b,1,none⟩=some (.int .i64 P.terms)/\w.cell? ⟨b,2,none⟩=some (.int .i64 P.nons)/\w.cell? ⟨b,3,none⟩=some (.slice aW P.row.length cW)/\w.cell? ⟨b,4,none⟩=some (.slice aX P.rows.length cX)/\w.cell? ⟨b,5,none⟩=some (.slice aG P.gow.length cG)/\w.cell? ⟨b,6,none⟩=some (.slice aH P.gows.length cH)
theorem PBox.went(h:PBox P aR cR aW cW aX cX aG cG aH cH b w)(hb:Below w.heap.size w w'):PBox P aR cR aW cW aX cX aG cG aH cH b w':=by
 obtain⟨h0,h1,h2,h3,h4,h5,h6⟩:=h;exact⟨cell_later hb h0,cell_later hb h1,cell_later hb h2,cell_later hb h3,cell_later hb h4,cell_later hb h5,cell_later hb h6⟩
theorem zBO(w:World)(U:TypeId):PBox P aR cR aW cW aX cX aG cG aH cH w.heap.size (w.alloc (.cells (pvs P aR cR aW cW aX cX aG cG aH cH) U)):=by
 refine⟨?_,?_,?_,?_,?_,?_,?_⟩<;>simp[pvs]
end
end Pk
namespace Pk
open Gr (boxed)
abbrev av(x:Int×Int):Value:=.agg #[.int .i64 x.1,.int .i64 x.2]
theorem zUS(a b:Nat)(ha:a<1000000)(hb:b<1000000):bits .or .i64 (a:Int) (b:Int)=((a|||b:Nat):Int):=by
 have hx:a|||b<2^20:=Nat.or_lt_two_pow (by omega) (by omega)
 have h1:(BitVec.ofInt 64 (a:Int)).toNat=a:=by
  rw[BitVec.ofInt_natCast,BitVec.toNat_ofNat];exact Nat.mod_eq_of_lt (by omega)
 have h2:(BitVec.ofInt 64 (b:Int)).toNat=b:=by
  rw[BitVec.ofInt_natCast,BitVec.toNat_ofNat];exact Nat.mod_eq_of_lt (by omega)
 show IntKind.i64.wrap ((BitVec.ofInt 64 (a:Int)|||BitVec.ofInt 64 (b:Int)).toNat:Int)= _;rw[BitVec.toNat_or,h1,h2,IntKind.wrap_i64];omega
theorem zSw(k n:Nat)(hk:k<=3)(hn:n<16384):bits .or .i64 ((16384*k:Nat):Int) (n:Int)=((16384*k+n:Nat):Int):=by
 rw[zUS _ _ (by omega) (by omega)];have:=Nat.two_pow_add_eq_or_of_lt (i:=14) (b:=n) (by omega) k;rw[show(16384:Nat)=2^14 by decide,←this]
theorem zRk(c:Nat)(hc:c<65536):bits .and .u16 (c:Int) 16383=((c % 16384:Nat):Int):=by
 have h1:(BitVec.ofInt 16 (c:Int)).toNat=c:=by
  rw[BitVec.ofInt_natCast,BitVec.toNat_ofNat];exact Nat.mod_eq_of_lt (by omega)
 have h2:(BitVec.ofInt 16 (16383:Int)).toNat=16383:=by decide
 show IntKind.u16.wrap ((BitVec.ofInt 16 (c:Int)&&& BitVec.ofInt 16 (16383:Int)).toNat:Int)= _;rw[BitVec.toNat_and,h1,h2,show(16383:Nat)=2^14-1 by decide,Nat.and_two_pow_sub_one_eq_mod,IntKind.wrap_u16];omega
theorem zEW(x:Int×Int)(h:0<=x.1/\x.1<=3/\0<=x.2/\x.2<16384)(w:World):
  Calls Tryz.prog 24 #[av x] w (Gr.Is (.int .u16 (zBR x)) w):=by
 obtain⟨x1,x2⟩:=x;dsimp only at h;obtain⟨k,rfl⟩:∃k:Nat,x1=(k:Int):=⟨x1.toNat,by omega⟩;obtain⟨n,rfl⟩:∃n:Nat,x2=(n:Int):=⟨x2.toNat,by omega⟩;have B:=zVZ (boxed w (.cells #[.int .i64 (k:Int),.int .i64 (n:Int)] 47));have hor:=zSw k n (by omega) (by omega);have E:=zVZ (show((16384*k+n:Nat):Int)=zBR ((k:Int),(n:Int))by unfold zBR;dsimp only;omega)
 have hs:Op.shift BinOp.shl IntKind.i64 (k:Int) IntKind.u64 14=pure (.int .i64 ((16384*k:Nat):Int)):=by
  rcases(by omega:k=0\/k=1\/k=2\/k=3)with rfl|rfl|rfl|rfl<;>rfl
 have hl:((16384*k+n:Nat):Int)<=65535:=by omega
 generalize zBR ((k:Int),(n:Int))=c at*;generalize 16384*k+n=m at*;generalize 16384*k=j at*;go_enter Tryz.func24,Tryz.ntmps24;go_wp2;go_ret;exact⟨by rw[E.out];rfl,B.out⟩
theorem zHT(x:Int)(h: -1<=x/\x<65535)(w:World):
  Calls Tryz.prog 26 #[.int .i64 x] w (fun e w'=>e=.returned (.int .u16 (zBt x))/\w'=w):=by
 unfold zBt;have h1:IntKind.i64.wrap (x+1)=x+1:=by rw[IntKind.wrap_i64];omega
 have h2:IntKind.u16.wrap (x+1)=x+1:=by rw[IntKind.wrap_u16];omega
 go_enter Tryz.func26,Tryz.ntmps26;go_wp2;go_ret;exact⟨rfl,rfl⟩
theorem zDz(c:Int)(h:Cd c)(w:World):
  Calls Tryz.prog 40 #[.int .u16 c] w (fun e w'=>e=.returned (.int .i64 (toOf c))/\w'=w):=by
 unfold toOf;unfold Cd at h;obtain⟨ha,hb⟩:=h;go_enter Tryz.func40,Tryz.ntmps40;go_wp2;go_ret;exact⟨rfl,rfl⟩
theorem zDl(c:Int)(h:Cd c)(w:World):
  Calls Tryz.prog 38 #[.int .u16 c] w (Gr.Is (av (zAb c)) w):=by
 unfold Cd at h;obtain⟨n,rfl⟩:∃n:Nat,c=(n:Int):=⟨c.toNat,by omega⟩;have hn:n<65536:=by omega
 have ha:=zRk n hn;have BB:=zVZ (fun(o o':Obj)=>Gr.step (boxed w o) (boxed (w.alloc o) o'))
 by_cases hm:(n:Int) % 16384=0
 ·have e:zAb (n:Int)=((n:Int) / 16384,0):=by
   unfold zAb;rw[if_neg (by omega),hm]
  rw[e];clear e;go_enter Tryz.func38,Tryz.ntmps38;go_wp2;exact bodyPost_ret (v:=.agg #[.int .i64 ((n:Int) / 16384),.int .i64 0]) (by simp[results,Tryz.results38,go_sem]) rfl ⟨rfl,BB.out _ _⟩
 ·have hb:((n:Int) % 16384 != 0)=true:=by rw[bne_iff_ne];exact hm
  by_cases hk:(n:Int) / 16384=0
  ·have e:zAb (n:Int)=(0,0):=by
    unfold zAb;rw[if_pos ⟨hm,.inl hk⟩]
   rw[e];clear e;go_enter Tryz.func38,Tryz.ntmps38;go_wp2;exact bodyPost_ret (v:=.agg #[.int .i64 0,.int .i64 0]) (by simp[results,Tryz.results38,go_sem]) rfl ⟨rfl,BB.out _ _⟩
  ·by_cases hk3:(n:Int) / 16384=3
   ·have e:zAb (n:Int)=(0,0):=by
     unfold zAb;rw[if_pos ⟨hm,.inr hk3⟩]
    rw[e];clear e;go_enter Tryz.func38,Tryz.ntmps38;go_wp2;exact bodyPost_ret (v:=.agg #[.int .i64 0,.int .i64 0]) (by simp[results,Tryz.results38,go_sem]) rfl ⟨rfl,BB.out _ _⟩
   ·have e:zAb (n:Int)=((n:Int) / 16384,(n:Int) % 16384):=by
     unfold zAb;rw[if_neg (by omega)]
    have hb0:((n:Int) / 16384==0)=false:=by rw[beq_eq_false_iff_ne];exact hk
    have hb3:((n:Int) / 16384==3)=false:=by rw[beq_eq_false_iff_ne];exact hk3
    rw[e];clear e;go_enter Tryz.func38,Tryz.ntmps38;go_wp2;exact bodyPost_ret (v:=.agg #[.int .i64 ((n:Int) / 16384),.int .i64 ((n:Int) % 16384)]) (by simp[results,Tryz.results38,go_sem]) rfl ⟨rfl,BB.out _ _⟩
end Pk
namespace Pk
open Gr (cell_later boxed)
theorem zGv(T:Tb)(aR:Option Addr)(cR:Nat)(aA:Option Addr)(cA:Nat)(aG:Option Addr)(cG:Nat)(w:World):
  Calls Tryz.prog 50 #[.agg (tvs T aR cR aA cA aG cG)] w (Gr.Is (.int .i64 (tm T.terms)) w):=by
 have B:=zVZ (boxed w (.cells (tvs T aR cR aA cA aG cG) 26));obtain⟨z0,z1,z2,z3,z4⟩:=zA4 (T:=T) (aR:=aR) (cR:=cR) (aA:=aA) (cA:=cA) (aG:=aG) (cG:=cG) w 26;unfold tvs at*;generalize T.terms=n at*;go_enter Tryz.func50,Tryz.ntmps50;go_wp2
 all_goals
  go_ret;refine⟨Gr.zAc ?_,B.out⟩;unfold tm;omega
theorem zGL{α:Type}{L:List (List α)}(z:α){i k:Int}(h:¬(0<=i/\i<(L.length:Int))):ent L z i k=z/\hasE L i k=false:=by
 constructor
 ·unfold ent;split
  ·rename_i h2;have:L.length<=i.toNat:=by omega
   simp[List.getD_eq_getElem?_getD,List.getElem?_eq_none this]
  ·rfl
 ·unfold hasE;rw[decide_eq_false_iff_not];omega
theorem zGM{α:Type}{L:List (List α)}(z:α){i:Nat}{k:Int}(hi:i<L.length)(h:¬(0<=k/\k<(L[i].length:Int))):ent L z (i:Int) k=z/\hasE L (i:Int) k=false:=by
 have e:L.getD (i:Int).toNat []=L[i]:=by simp[List.getD_eq_getElem?_getD,hi]
 constructor
 ·unfold ent;rw[e];split
  ·rename_i h2;have:L[i].length<=k.toNat:=by omega
   simp[List.getD_eq_getElem?_getD,List.getElem?_eq_none this]
  ·rfl
 ·unfold hasE;rw[e,decide_eq_false_iff_not];omega
theorem zJU{α:Type}{L:List (List α)}(z:α){i k:Nat}(hi:i<L.length)(hk:k<L[i].length):ent L z (i:Int) (k:Int)=L[i][k]/\hasE L (i:Int) (k:Int)=true:=by
 have e:L.getD (i:Int).toNat []=L[i]:=by simp[List.getD_eq_getElem?_getD,hi]
 constructor
 ·unfold ent;rw[e,if_pos (by omega)];simp[List.getD_eq_getElem?_getD,hk]
 ·unfold hasE;rw[e,decide_eq_true_eq];omega
theorem zPA(X:List (List Int))(a:Option Addr)(c:Nat)(w:World)(h:zRV a X w)(hl:X.length<=8796093022208)(i k:Int):
  Calls Tryz.prog 52 #[.slice a X.length c,.int .i64 i,.int .i64 k] w (fun e w'=>e=.returned (.tuple #[.int .i64 (ent X 0 i k),.bool (hasE X i k)])/\w'=w):=by
 by_cases hi:0<=i/\i<(X.length:Int)
 ·obtain⟨n,rfl⟩:∃n:Nat,i=(n:Int):=⟨i.toNat,by omega⟩;have hn:n<X.length:=by omega
  obtain⟨b,o,ra,rc,rfl,h1,h2,h3,h4⟩:=h n hn;have hi0:¬((n:Int)<0):=by omega
  have hi1:¬((X.length:Int)<=(n:Int)):=by omega
  have hi2:(n:Int)<(X.length:Int):=by omega
  by_cases hk:0<=k/\k<(X[n].length:Int)
  ·obtain⟨m,rfl⟩:∃m:Nat,k=(m:Int):=⟨k.toNat,by omega⟩;have hm:m<X[n].length:=by omega
   obtain⟨rb,ro,rfl,p0⟩:=h2.at hm;rw[(zJU 0 hn hm).1,(zJU 0 hn hm).2];generalize X[n][m]=x at*;clear h2 h;generalize X[n].length=l at*;have hk0:¬((m:Int)<0):=by omega
   have hk1:¬((l:Int)<=(m:Int)):=by omega
   have hk2:(m:Int)<(l:Int):=by omega
   go_enter Tryz.func52,Tryz.ntmps52;go_wp2;exact bodyPost_ret (v:=.tuple #[.int .i64 x,.bool true]) (by simp[results,Tryz.results52,go_sem]) rfl ⟨rfl,rfl⟩
  ·rw[(zGM 0 hn hk).1,(zGM 0 hn hk).2];clear h2 h;generalize X[n].length=l at*
   by_cases hk0:k<0
   ·go_enter Tryz.func52,Tryz.ntmps52;go_wp2;exact bodyPost_ret (v:=.tuple #[.int .i64 0,.bool false]) (by simp[results,Tryz.results52,go_sem]) rfl ⟨rfl,rfl⟩
   ·have hk1:(l:Int)<=k:=by omega
    go_enter Tryz.func52,Tryz.ntmps52;go_wp2;exact bodyPost_ret (v:=.tuple #[.int .i64 0,.bool false]) (by simp[results,Tryz.results52,go_sem]) rfl ⟨rfl,rfl⟩
 ·rw[(zGL 0 hi).1,(zGL 0 hi).2];clear h
  by_cases hi0:i<0
  ·go_enter Tryz.func52,Tryz.ntmps52;go_wp2;exact bodyPost_ret (v:=.tuple #[.int .i64 0,.bool false]) (by simp[results,Tryz.results52,go_sem]) rfl ⟨rfl,rfl⟩
  ·have hi1:(X.length:Int)<=i:=by omega
   go_enter Tryz.func52,Tryz.ntmps52;go_wp2;exact bodyPost_ret (v:=.tuple #[.int .i64 0,.bool false]) (by simp[results,Tryz.results52,go_sem]) rfl ⟨rfl,rfl⟩
theorem zO9(X:List (List (Int×Int)))(a:Option Addr)(c:Nat)(w:World)(h:zTd a X w)(hl:X.length<=8796093022208)(i k:Int):
  Calls Tryz.prog 51 #[.slice a X.length c,.int .i64 i,.int .i64 k] w (Gr.Is (.tuple #[av (ent X (0,0) i k),.bool (hasE X i k)]) w):=by
 have b0:=boxed w (.cells #[.int .i64 0,.int .i64 0] 47);have b1:=boxed (w.alloc (.cells #[.int .i64 0,.int .i64 0] 47)) (.cells #[.int .i64 0,.int .i64 0] 47);have B1:=zVZ (Gr.step b0 b1)
 by_cases hi:0<=i/\i<(X.length:Int)
 ·obtain⟨n,rfl⟩:∃n:Nat,i=(n:Int):=⟨i.toNat,by omega⟩;have hn:n<X.length:=by omega
  obtain⟨b,o,ra,rc,rfl,h1,h2,h3,h4⟩:=h n hn;have hi0:¬((n:Int)<0):=by omega
  have hi1:¬((X.length:Int)<=(n:Int)):=by omega
  have hi2:(n:Int)<(X.length:Int):=by omega
  by_cases hk:0<=k/\k<(X[n].length:Int)
  ·obtain⟨m,rfl⟩:∃m:Nat,k=(m:Int):=⟨k.toNat,by omega⟩;have hm:m<X[n].length:=by omega
   obtain⟨rb,ro,rfl,p0,p1⟩:=h2.at m hm;rw[(zJU (0,0) hn hm).1,(zJU (0,0) hn hm).2];generalize X[n][m]=x at*;obtain⟨x1,x2⟩:=x;dsimp only at p0 p1;clear h2 h;generalize X[n].length=l at*;have hk0:¬((m:Int)<0):=by omega
   have hk1:¬((l:Int)<=(m:Int)):=by omega
   have hk2:(m:Int)<(l:Int):=by omega
   have B:=zVZ (boxed w (.cells #[.int .i64 x1,.int .i64 x2] 47));replace h1:=cell_later b0 h1;replace p0:=cell_later b0 p0;replace p1:=cell_later b0 p1;clear b0 b1;go_enter Tryz.func51,Tryz.ntmps51;go_wp2;exact bodyPost_ret (v:=.tuple #[.agg #[.int .i64 x1,.int .i64 x2],.bool true]) (by simp[results,Tryz.results51,go_sem]) rfl ⟨rfl,B.out⟩
  ·rw[(zGM (0,0) hn hk).1,(zGM (0,0) hn hk).2];replace h1:=cell_later b0 h1;clear h2 h b0 b1;generalize X[n].length=l at*
   by_cases hk0:k<0
   ·go_enter Tryz.func51,Tryz.ntmps51;go_wp2;exact bodyPost_ret (v:=.tuple #[.agg #[.int .i64 0,.int .i64 0],.bool false]) (by simp[results,Tryz.results51,go_sem]) rfl ⟨rfl,B1.out⟩
   ·have hk1:(l:Int)<=k:=by omega
    go_enter Tryz.func51,Tryz.ntmps51;go_wp2;exact bodyPost_ret (v:=.tuple #[.agg #[.int .i64 0,.int .i64 0],.bool false]) (by simp[results,Tryz.results51,go_sem]) rfl ⟨rfl,B1.out⟩
 ·rw[(zGL (0,0) hi).1,(zGL (0,0) hi).2];clear h b0 b1
  by_cases hi0:i<0
  ·go_enter Tryz.func51,Tryz.ntmps51;go_wp2;exact bodyPost_ret (v:=.tuple #[.agg #[.int .i64 0,.int .i64 0],.bool false]) (by simp[results,Tryz.results51,go_sem]) rfl ⟨rfl,B1.out⟩
  ·have hi1:(X.length:Int)<=i:=by omega
   go_enter Tryz.func51,Tryz.ntmps51;go_wp2;exact bodyPost_ret (v:=.tuple #[.agg #[.int .i64 0,.int .i64 0],.bool false]) (by simp[results,Tryz.results51,go_sem]) rfl ⟨rfl,B1.out⟩
theorem zRc(T:Tb)(aR:Option Addr)(cR:Nat)(aA:Option Addr)(cA:Nat)(aG:Option Addr)(cG:Nat)(w:World)(D:TAt T aR cR aA cA aG cG w)(i t:Int):
  Calls Tryz.prog 17 #[.agg (tvs T aR cR aA cA aG cG),.int .i64 i,.int .i64 t] w (Gr.Is (av (actP T i t)) w):=by
 have TE:=zVZ (fun w1=>zGv T aR cR aA cA aG cG w1);have EN:=zVZ (fun w1 (b:Below w.heap.size w w1)=>zO9 T.acts aA cA w1 (D.went b).acts D.al i t);have b1:=boxed w (.cells (tvs T aR cR aA cA aG cG) 26);have b2:=boxed (w.alloc (.cells (tvs T aR cR aA cA aG cG) 26)) (.cells #[.int .i64 0,.int .i64 0] 47);have B2:=zVZ (Gr.step b1 b2);have Z:=zVZ ((zA4 (T:=T) (aR:=aR) (cR:=cR) (aA:=aA) (cA:=cA) (aG:=aG) (cG:=cG) w 26).went b2);have Y:=zVZ (zAm (w.alloc (.cells (tvs T aR cR aA cA aG cG) 26)) (.cells #[.int .i64 0,.int .i64 0] 47));rw[World.size_alloc]at Y;have AP:=zVZ (show actP T i t=if tm T.terms<t then(0,0)else ent T.acts (0,0) i t from rfl);generalize actP T i t=x at*;clear D b1 b2;obtain⟨z0,z1,z2,z3,z4⟩:=Z.out;generalize tm T.terms=tn at*;generalize ent T.acts (0,0) i t=y at*;generalize hasE T.acts i t=ok at*;unfold tvs at*;go_enter Tryz.func17,Tryz.ntmps17;go_wp2_with fail;generalize (w.alloc (.cells #[.slice aR T.rules.length cR,.int .i64 T.terms,.int .i64 T.nons,.slice aA T.acts.length cA,.slice aG T.goto.length cG] 26)).alloc (.cells #[.int .i64 0,.int .i64 0] 47)=w2 at*;refine(TE.out _).mono ?_;rintro e w3 ⟨rfl,hb3⟩;have B3:=zVZ (Gr.step B2.out hb3);have Z3:=zVZ (Z.out.went hb3);have Y3:=(hb3.block _ (Array.getElem?_eq_some_iff.1 Y.out).1).trans Y.out;clear z0 z1 z2 z3 z4 hb3 Y Z B2;obtain⟨z0,z1,z2,z3,z4⟩:=Z3.out
 by_cases ht:tn<t
 ·have e:=AP.out;rw[if_pos ht]at e;subst e;have y0:=zAA Y3 (k:=0) (by simp);have y1:=zAA Y3 (k:=1) (by simp);have f0:=zAK (k:=0) Y3;have f1:=zAK (k:=1) Y3;have hlt:w.heap.size+1<w3.heap.size:=(Array.getElem?_eq_some_iff.1 Y3).1;have BE:=zVZ ((B3.out.setCell (p:=⟨w.heap.size+1,0,none⟩) (Nat.le_succ _) (.int .i64 0)).setCell (p:=⟨w.heap.size+1,1,none⟩) (Nat.le_succ _) (.int .i64 0));have Y4:=zAP (k:=1) (zAP (k:=0) Y3 (.int .i64 0)) (.int .i64 0);have r0:=zAA Y4 (k:=0) (by simp);have r1:=zAA Y4 (k:=1) (by simp);simp only[Array.setIfInBounds,List.set_toArray]at r0 r1;clear Y3 Y4 Z3;go_wp2;exact bodyPost_ret (v:=.agg #[.int .i64 0,.int .i64 0]) (by simp[results,Tryz.results17,go_sem,r0,r1]) rfl ⟨rfl,BE.out⟩
 ·have e:=AP.out;rw[if_neg ht]at e;subst e;obtain⟨x1,x2⟩:=x;have Y3:=zVZ Y3;go_wp2_with fail;refine(EN.out _ B3.out).mono ?_;rintro e w4 ⟨rfl,hb4⟩;have B4:=zVZ (Gr.step B3.out hb4);have Y4:=(hb4.block _ (Array.getElem?_eq_some_iff.1 Y3.out).1).trans Y3.out;have y0:=zAA Y4 (k:=0) (by simp);have y1:=zAA Y4 (k:=1) (by simp);have f0:=zAK (k:=0) Y4;have f1:=zAK (k:=1) Y4;have hlt:w.heap.size+1<w4.heap.size:=(Array.getElem?_eq_some_iff.1 Y4).1;have b5:=boxed ((w4.setCell ⟨w.heap.size+1,0,none⟩ (.int .i64 x1)).setCell ⟨w.heap.size+1,1,none⟩ (.int .i64 x2)) (.cells #[.int .i64 x1,.int .i64 x2] 47)
  have BE:=zVZ (show Below w.heap.size w (((w4.setCell ⟨w.heap.size+1,0,none⟩ (.int .i64 x1)).setCell ⟨w.heap.size+1,1,none⟩ (.int .i64 x2)).alloc (.cells #[.int .i64 x1,.int .i64 x2] 47))from
   Gr.step ((B4.out.setCell (Nat.le_succ _) _).setCell (Nat.le_succ _) _) b5)
  have Y5:=zAP (k:=1) (zAP (k:=0) Y4 (.int .i64 x1)) (.int .i64 x2);have Y6:=(b5.block _ (Array.getElem?_eq_some_iff.1 Y5).1).trans Y5;have r0:=zAA Y6 (k:=0) (by simp);have r1:=zAA Y6 (k:=1) (by simp);simp only[Array.setIfInBounds,List.set_toArray]at r0 r1;clear z0 z1 z2 z3 z4 hb4 Y3 Z3 B3 Y4 Y5 Y6 b5;dsimp only at*;go_wp2;exact bodyPost_ret (v:=.agg #[.int .i64 x1,.int .i64 x2]) (by simp[results,Tryz.results17,go_sem,r0,r1]) rfl ⟨rfl,BE.out⟩
end Pk
namespace Pk
open Gr (cell_later boxed)
def Gw(w w':World):Prop:=∃n os,w'=Go.Sort.grow (w.drewN n) os
theorem Gw.refl(w:World):Gw w w:=⟨0,#[],by rw[Go.Sort.grow_empty];rfl⟩
theorem Gw.alloc{w w1:World}(h:Gw w w1)(o:Obj):Gw w (w1.alloc o):=by
 obtain⟨n,os,rfl⟩:=h;exact⟨n,os++#[o],by rw[Go.Sort.alloc_eq_grow,Go.Sort.grow_grow]⟩
theorem Gw.below{w w1:World}(h:Gw w w1):Below w.heap.size w w1:=by
 obtain⟨n,os,rfl⟩:=h;refine⟨rfl,rfl,rfl,?_,fun k hk=>?_⟩
 ·rw[Go.Sort.size_grow];exact Nat.le_add_right _ _
 ·show(w.heap++os)[k]?=w.heap[k]?;rw[Array.getElem?_append_left hk]
theorem zH8(T:Tb)(aR:Option Addr)(cR:Nat)(aA:Option Addr)(cA:Nat)(aG:Option Addr)(cG:Nat)(w:World):
  Calls Tryz.prog 50 #[.agg (tvs T aR cR aA cA aG cG)] w (fun e w'=>e=.returned (.int .i64 (tm T.terms))/\Gw w w'):=by
 have B:=zVZ ((Gw.refl w).alloc (.cells (tvs T aR cR aA cA aG cG) 26));obtain⟨z0,z1,z2,z3,z4⟩:=zA4 (T:=T) (aR:=aR) (cR:=cR) (aA:=aA) (cA:=cA) (aG:=aG) (cG:=cG) w 26;unfold tvs at*;generalize T.terms=n at*;go_enter Tryz.func50,Tryz.ntmps50;go_wp2
 all_goals
  go_ret;refine⟨Gr.zAc ?_,B.out⟩;unfold tm;omega
theorem zR6(X:List (List Int))(a:Option Addr)(c:Nat)(w:World)(h:zRV a X w)(hl:X.length<=8796093022208)(i k:Int):
  Calls Tryz.prog 52 #[.slice a X.length c,.int .i64 i,.int .i64 k] w (fun e w'=>e=.returned (.tuple #[.int .i64 (ent X 0 i k),.bool (hasE X i k)])/\Gw w w'):=
 (zPA X a c w h hl i k).mono fun e w' h=>⟨h.1,0,#[],by rw[Go.Sort.grow_empty];exact h.2⟩
theorem zSN(T:Tb)(i s:Int):zCw T i s=if s<=tm T.terms\/T.nons<s-tm T.terms then-1 else if hasE T.goto i (s-tm T.terms-1)then zDx (max T.acts.length T.goto.length) (ent T.goto 0 i (s-tm T.terms-1))else-1:=by
 unfold zCw;split
 ·rfl
 generalize s-tm T.terms-1=k;cases h:hasE T.goto i k with
 |true=>
  unfold hasE at h;have h:=of_decide_eq_true h
  have e:∀z,ent T.goto z i k=((T.goto.getD i.toNat [])[k.toNat]?).getD z:=fun z=>by
   unfold ent;rw[if_pos (by omega),List.getD_eq_getElem?_getD]
  have hk:k.toNat<(T.goto.getD i.toNat []).length:=by omega
  rw[e,e,List.getElem?_eq_getElem hk]
  rfl
 |false=>
  unfold hasE at h;have h:=of_decide_eq_false h
  have e:ent T.goto (-1) i k= -1:=by
   unfold ent;split
   ·rename_i h0;rw[List.getD_eq_getElem?_getD]
    have hk:(T.goto.getD i.toNat []).length<=k.toNat:=by
     by_cases hi:i<(T.goto.length:Int)
     ·omega
     ·have:T.goto.length<=i.toNat:=by omega
      rw[List.getD_eq_getElem?_getD,List.getElem?_eq_none this];simp
    rw[List.getElem?_eq_none hk]
    rfl
   ·rfl
  rw[e]
  rfl
theorem zDP(T:Tb)(aR:Option Addr)(cR:Nat)(aA:Option Addr)(cA:Nat)(aG:Option Addr)(cG:Nat)(w:World)(D:TAt T aR cR aA cA aG cG w)(i s:Int)(hs9:s<=9223372036854775807):
  Calls Tryz.prog 19 #[.agg (tvs T aR cR aA cA aG cG),.int .i64 i,.int .i64 s] w (Gr.Is (.int .i64 (zCw T i s)) w):=by
 have B1:=zVZ (boxed w (.cells (tvs T aR cR aA cA aG cG) 26));have Z1:=zVZ (zA4 (T:=T) (aR:=aR) (cR:=cR) (aA:=aA) (cA:=cA) (aG:=aG) (cG:=cG) w 26);have TE:=zVZ (fun w1=>zH8 T aR cR aA cA aG cG w1);have EN:=zVZ (fun w1 (b:Below w.heap.size w w1)=>zR6 T.goto aG cG w1 (D.went b).goto D.gl i (s-tm T.terms-1));have hal:=D.al;have hgl:=D.gl;have hnf:=D.fit.n;have mixed:Tryz.prog.follows .mixedOrders=true:=by kernel_rfl
 have GT:=zVZ (zSN T i s);generalize zCw T i s=g at*;have ht0:0<=tm T.terms:=by unfold tm;omega
 clear D;obtain⟨z0,z1,z2,z3,z4⟩:=Z1.out;generalize tm T.terms=tn at*;unfold tvs at*;go_enter Tryz.func19,Tryz.ntmps19;go_wp2_with fail;generalize w.alloc (.cells #[.slice aR T.rules.length cR,.int .i64 T.terms,.int .i64 T.nons,.slice aA T.acts.length cA,.slice aG T.goto.length cG] 26)=w2 at*;have hGw:∀m os,Gw w2 (Go.Sort.grow (w2.drewN m) os):=fun m os=>⟨m,os,rfl⟩
 have k0:∀m os,(Go.Sort.grow (w2.drewN m) os).cell? ⟨w.heap.size,0,none⟩=some (.slice aR T.rules.length cR):=fun m os=>cell_later (hGw m os).below z0
 have k1:∀m os,(Go.Sort.grow (w2.drewN m) os).cell? ⟨w.heap.size,1,none⟩=some (.int .i64 T.terms):=fun m os=>cell_later (hGw m os).below z1
 have k2:∀m os,(Go.Sort.grow (w2.drewN m) os).cell? ⟨w.heap.size,2,none⟩=some (.int .i64 T.nons):=fun m os=>cell_later (hGw m os).below z2
 have k3:∀m os,(Go.Sort.grow (w2.drewN m) os).cell? ⟨w.heap.size,3,none⟩=some (.slice aA T.acts.length cA):=fun m os=>cell_later (hGw m os).below z3
 have k4:∀m os,(Go.Sort.grow (w2.drewN m) os).cell? ⟨w.heap.size,4,none⟩=some (.slice aG T.goto.length cG):=fun m os=>cell_later (hGw m os).below z4
 have TG:=zVZ (fun m os=>TE.out (Go.Sort.grow (w2.drewN m) os))
 by_cases h1:s<=tn
 ·have hd:decide (s<=tn)=true:=decide_eq_true h1;have G2:=zVZ (show g= -1 by rw[GT.out,if_pos (.inl h1)]);clear GT;refine wp_region_quiet_grown (by assumption) (by kernel_rfl) ?_
  repeat(first|go_big_quiet_skip|(go_big_quiet_want;go_big_quiet_op;first|go_big_quiet_on|go_big_quiet_call (first|(go_at_call 50;refine Calls.grown_of (TG.out _ _))))|quiet_step (first|(go_at_call 50;refine Calls.grown_of (TG.out _ _))))
  refine wpQuiet_nil ?_;intro _ hw';obtain⟨⟨nq,osq⟩,hw''⟩:=hw';subst hw'';have BE:=zVZ (Gr.step B1.out (hGw nq osq).below);clear hGw k0 k1 k2 k3 k4 TG;generalize Go.Sort.grow (w2.drewN nq) osq=w3 at BE⊢;go_wp2;go_ret;exact⟨Gr.zAc G2.out,BE.out⟩
 ·have hd:decide (s<=tn)=false:=decide_eq_false h1;have e2:IntKind.i64.wrap (s-tn)=s-tn:=by rw[IntKind.wrap_i64];omega
  have e4:IntKind.i64.wrap (s-tn-1)=s-tn-1:=by rw[IntKind.wrap_i64];omega
  have hd2:∀b,decide (T.nons<s-tn)=b->decide (T.nons<s-tn)=b:=fun b h=>h
  by_cases h3:T.nons<s-tn
  ·have G2:=zVZ (show g= -1 by rw[GT.out,if_pos (.inr h3)]);clear GT;refine wp_region_quiet_grown (by assumption) (by kernel_rfl) ?_
   repeat(first|go_big_quiet_skip|(go_big_quiet_want;go_big_quiet_op;first|go_big_quiet_on|go_big_quiet_call (first|(go_at_call 50;refine Calls.grown_of (TG.out _ _))))|quiet_step (first|(go_at_call 50;refine Calls.grown_of (TG.out _ _))))
   refine wpQuiet_nil ?_;intro _ hw';obtain⟨⟨nq,osq⟩,hw''⟩:=hw';subst hw'';have BE:=zVZ (Gr.step B1.out (hGw nq osq).below);clear hGw k0 k1 k2 k3 k4 TG;generalize Go.Sort.grow (w2.drewN nq) osq=w3 at BE⊢;go_wp2;go_ret;exact⟨Gr.zAc G2.out,BE.out⟩
  ·have GT:=zVZ (show g= _ by rw[GT.out,if_neg (by omega)]);generalize hk:s-tn-1=k at*;generalize ent T.goto 0 i k=x at*;refine wp_region_quiet_grown (by assumption) (by kernel_rfl) ?_
   repeat(first|go_big_quiet_skip|(go_big_quiet_want;go_big_quiet_op;first|go_big_quiet_on|go_big_quiet_call (first|(go_at_call 50;refine Calls.grown_of (TG.out _ _))))|quiet_step (first|(go_at_call 50;refine Calls.grown_of (TG.out _ _))))
   refine wpQuiet_nil ?_;intro _ hw';obtain⟨⟨nq,osq⟩,hw''⟩:=hw';subst hw'';have B3:=zVZ (Gr.step B1.out (hGw nq osq).below);have z0:=k0 nq osq;have z1:=k1 nq osq;have z2:=k2 nq osq;have z3:=k3 nq osq;have z4:=k4 nq osq;clear hGw k0 k1 k2 k3 k4 TG;generalize Go.Sort.grow (w2.drewN nq) osq=w3 at*;go_wp2_with fail;have hGw:∀m os,Gw w3 (Go.Sort.grow (w3.drewN m) os):=fun m os=>⟨m,os,rfl⟩
   have k0:∀m os,(Go.Sort.grow (w3.drewN m) os).cell? ⟨w.heap.size,0,none⟩=some (.slice aR T.rules.length cR):=fun m os=>cell_later (hGw m os).below z0
   have k1:∀m os,(Go.Sort.grow (w3.drewN m) os).cell? ⟨w.heap.size,1,none⟩=some (.int .i64 T.terms):=fun m os=>cell_later (hGw m os).below z1
   have k2:∀m os,(Go.Sort.grow (w3.drewN m) os).cell? ⟨w.heap.size,2,none⟩=some (.int .i64 T.nons):=fun m os=>cell_later (hGw m os).below z2
   have k3:∀m os,(Go.Sort.grow (w3.drewN m) os).cell? ⟨w.heap.size,3,none⟩=some (.slice aA T.acts.length cA):=fun m os=>cell_later (hGw m os).below z3
   have k4:∀m os,(Go.Sort.grow (w3.drewN m) os).cell? ⟨w.heap.size,4,none⟩=some (.slice aG T.goto.length cG):=fun m os=>cell_later (hGw m os).below z4
   have TG:=zVZ (fun m os=>TE.out (Go.Sort.grow (w3.drewN m) os));have EG:=zVZ (fun m os=>EN.out (Go.Sort.grow (w3.drewN m) os) (Gr.step B3.out (hGw m os).below));refine wp_region_quiet_grown (by assumption) (by kernel_rfl) ?_
   repeat(first|go_big_quiet_skip|(go_big_quiet_want;go_big_quiet_op;first|go_big_quiet_on|go_big_quiet_call (first|(go_at_call 50;refine Calls.grown_of (TG.out _ _))|(go_at_call 52;refine Calls.grown_of (EG.out _ _))))|quiet_step (first|(go_at_call 50;refine Calls.grown_of (TG.out _ _))|(go_at_call 52;refine Calls.grown_of (EG.out _ _))))
   refine wpQuiet_nil ?_;intro _ hw';obtain⟨⟨nq,osq⟩,hw''⟩:=hw';subst hw'';have BE:=zVZ (Gr.step B3.out (hGw nq osq).below);have z3:=k3 nq osq;have z4:=k4 nq osq;clear hGw k0 k1 k2 k3 k4 TG EG z0 z1 z2;generalize Go.Sort.grow (w3.drewN nq) osq=w4 at*;cases hh:hasE T.goto i k with
   |false=>
    have G2:=zVZ (show g= -1 by rw[GT.out,hh,if_neg (by decide)]);clear GT;go_wp2_with fail;go_ret;exact⟨Gr.zAc G2.out,BE.out⟩
   |true=>
    have GT:=zVZ (show g= _ by rw[GT.out,hh,if_pos rfl]);unfold zDx at GT
    by_cases h5:x<0
    ·have G2:=zVZ (show g= -1 by rw[GT.out,if_neg (by omega)]);clear GT;go_wp2_with fail;go_ret;exact⟨Gr.zAc G2.out,BE.out⟩
    ·by_cases h6:x<((max T.acts.length T.goto.length:Nat):Int)
     ·have G2:=zVZ (show g=x by rw[GT.out,if_pos (by omega)]);clear GT;have hm:max (T.acts.length:Int) (T.goto.length:Int)=((max T.acts.length T.goto.length:Nat):Int):=by omega
      have h7:¬(((max T.acts.length T.goto.length:Nat):Int)<=x):=by omega
      go_wp2_with fail
      all_goals
       go_ret;exact⟨Gr.zAc G2.out,BE.out⟩
     ·have G2:=zVZ (show g= -1 by rw[GT.out,if_neg (by omega)]);clear GT;have hm:max (T.acts.length:Int) (T.goto.length:Int)=((max T.acts.length T.goto.length:Nat):Int):=by omega
      have h7:((max T.acts.length T.goto.length:Nat):Int)<=x:=by omega
      go_wp2_with fail
      all_goals
       go_ret;exact⟨Gr.zAc G2.out,BE.out⟩
end Pk
namespace Pk
open Gr (cell_later boxed zAz)
open Im (ItsA)
def Fl(b:Nat)(T:TypeId)(cs:List Value)(n:Nat)(w:World):Prop:=∃cur,w.heap[b]?=some (.cells cur T (0,0))/\cur.size=cs.length/\∀j,j<n->cur[j]?=cs[j]?
section
variable {b n:Nat} {T:TypeId} {cs:List Value} {w w':World}
theorem Fl.has(h:Fl b T cs n w){j:Nat}(hj:j<cs.length):∃u,w.cell? ⟨b,j,none⟩=some u:=by
 obtain⟨cur,h1,h2,h3⟩:=h;exact⟨_,zAA h1 (k:=j) (by omega)⟩
theorem Fl.free(h:Fl b T cs n w)(j:Nat):w.frozen? ⟨b,j,none⟩=false:=by
 obtain⟨cur,h1,h2,h3⟩:=h;exact zAK h1
theorem Fl.lt(h:Fl b T cs n w):b<w.heap.size:=by
 obtain⟨cur,h1,h2,h3⟩:=h;exact(Array.getElem?_eq_some_iff.1 h1).1
theorem Fl.went(h:Fl b T cs n w)(hb:Below w.heap.size w w'):Fl b T cs n w':=by
 obtain⟨cur,h1,h2⟩:=h;exact⟨cur,(hb.block b (Array.getElem?_eq_some_iff.1 h1).1).trans h1,h2⟩
theorem Fl.put(h:Fl b T cs n w){u:Value}(hu:cs[n]?=some u):Fl b T cs (n+1) (w.setCell ⟨b,n,none⟩ u):=by
 have hn:n<cs.length:=(List.getElem?_eq_some_iff.1 hu).1;obtain⟨cur,h1,h2,h3⟩:=h;refine⟨_,zAP h1 _,by simp[h2],fun j hj=>?_⟩
 by_cases e:j=n
 ·subst e;rw[Array.getElem?_setIfInBounds_self_of_lt (by omega),hu]
 ·rw[Array.getElem?_setIfInBounds_ne (fun e2=>e e2.symm)];exact h3 j (by omega)
theorem Fl.all(h:Fl b T cs cs.length w):w.heap[b]?=some (.cells cs.toArray T (0,0)):=by
 obtain⟨cur,h1,h2,h3⟩:=h;rw[h1]
 congr 2
 apply Array.ext
 ·rw[h2];simp
 ·intro i hi hi2;have e:=h3 i (by omega);rw[Array.getElem?_eq_getElem hi,List.getElem?_eq_getElem (by omega)]at e
  simpa using Option.some.inj e
end
theorem Fl.made(w:World)(T:TypeId)(c cs':List Value)(o:Array Value)(ho:o.size=cs'.length):Fl w.heap.size T cs' 0 (w.alloc (.cells o T)):=⟨o,zAm _ _,ho,fun j hj=>absurd hj (Nat.not_lt_zero j)⟩
def NewL(T:TypeId)(n:Nat)(cs:List Value)(w:World)(e:Ending)(w':World):Prop:=
 ∃b,e=.returned (.slice (some ⟨b,0,none⟩) n n)/\w.heap.size<=b/\w'.heap[b]?=some (.cells cs.toArray T (0,0))/\Below w.heap.size w w'
theorem zSR{w:World}{b:Nat}{cs:List Value}{T:TypeId}(h:w.heap[b]?=some (.cells cs.toArray T (0,0))){j:Nat}{u:Value}(hu:cs[j]?=some u):w.cell? ⟨b,j,none⟩=some u:=by
 obtain⟨hj,e⟩:=List.getElem?_eq_some_iff.1 hu;rw[zAA h (k:=j) (by simpa using hj)];simp[e]
theorem zBi{w:World}{b:Nat}{cs:List Value}{T:TypeId}(h:w.heap[b]?=some (.cells cs.toArray T (0,0))):Sep.Reads (some ⟨b,0,none⟩) cs w:=fun i hi=>⟨b,0,rfl,by rw[Nat.zero_add];exact zSR h (List.getElem?_eq_getElem hi)⟩
theorem zPS:(Tryz.prog.info? 64).map (fun i=>(i.zero,i.size,i.bytes))=some (some (.int .u16 0),1,2):=by kernel_rfl
theorem zJm(n:Nat)(hn:n<=100000)(w:World):
  (Instr.makeSlice 62 (.int .i64 (n:Int)) (.int .i64 (n:Int))).run Tryz.prog w=.ok (.slice (some ⟨w.heap.size,0,none⟩) n n) (w.alloc (.cells (madeCells #[.int .u16 0] n) 64)):=
 run_make_row' 62 64 (.int .u16 0) 2 Tryz.underlying62 zPS rfl .i64 .i64 n (by omega) (by omega) w
theorem zEx(n:Nat)(hn:n<=100000)(w:World):
  (Instr.makeSlice 29 (.int .i64 (n:Int)) (.int .i64 (n:Int))).run Tryz.prog w=.ok (.slice (some ⟨w.heap.size,0,none⟩) n n) (w.alloc (.cells (madeCells #[.int .i64 0] n) 3)):=
 run_make_row' 29 3 (.int .i64 0) 8 Tryz.underlying29 zAz rfl .i64 .i64 n (by omega) (by omega) w
theorem zHM(L:List (Int×Int))(a:Option Addr)(c:Nat)(w:World)(h:ItsA a L w)(hl:L.length<=100000)(hp:∀x∈L,0<=x.1/\x.1<=3/\0<=x.2/\x.2<16384):
  Calls Tryz.prog 23 #[.slice a L.length c,.func (.func 24) #[] #[]] w (NewL 64 L.length (L.map fun x=>Value.int .u16 (zBR x)) w):=by
 have hmk:=fun w=>zJm L.length hl w
 have B1:=zVZ (boxed w (.cells (madeCells #[.int .u16 0] L.length) 64));have F0:=zVZ (show Fl w.heap.size 64 (L.map fun x=>Value.int .u16 (zBR x)) 0 (w.alloc (.cells (madeCells #[.int .u16 0] L.length) 64))from Fl.made _ _ [] _ _ (by rw[size_madeCells];simp));have HR:=zVZ (fun w1 (b:Below w.heap.size w w1)=>h.went b);have HP:=zVZ hp;have HC:=zVZ (fun k (hk:k<L.length)=>(show(L.map fun x=>Value.int .u16 (zBR x))[k]?=some (Value.int .u16 (zBR L[k]))from by simp[hk]));have HE:=zVZ (show(L.map fun x=>Value.int .u16 (zBR x)).length=L.length by simp);clear hp h;generalize (L.map fun x=>Value.int .u16 (zBR x))=cs at*;go_enter Tryz.func23,Tryz.ntmps23;go_wp2_with fail;generalize hw2:w.alloc (.cells (madeCells #[.int .u16 0] L.length) 64)=w2 at*;clear hw2 hmk;go_loopw [13] (fun v wr=>∃k:Nat,v=.int .i64 (k:Int)/\k<=L.length/\Fl w.heap.size 64 cs k wr/\Sep.Fr (fun x=>x=w.heap.size) w2 wr) (fun v _=>L.length-(intOf v).toNat)
 case atStart=>exact⟨0,rfl,Nat.zero_le _,F0.out,.refl _ _⟩
 case round=>
  obtain⟨k,rfl,hk,hF,hf⟩:=hrel;have FF:=zVZ hF;have BR:=zVZ (B1.out.trans (hf.below (m:=w.heap.size) (fun x hx=>by omega) B1.out.size));have FR:=zVZ hf;clear hF hf
  by_cases hlt:k<L.length
  ·obtain⟨rb,ro,rfl,p0,p1⟩:=(HR.out wr BR.out).at k hlt;have HCk:=zVZ (HC.out k hlt);have hx:=HP.out _ (List.getElem_mem hlt);generalize L[k]=x at*;have CA:=zVZ (fun w1=>zEW x hx w1);have hkn:(k:Int)<(L.length:Int):=by omega
   obtain⟨u,hu⟩:=FF.out.has (show k<cs.length by rw[HE.out];exact hlt);have hpw:w.heap.size<wr.heap.size:=FF.out.lt;have ff:=FF.out.free k;obtain⟨x1,x2⟩:=x;dsimp only at p0 p1;generalize zBR (x1,x2)=z at*;have bb:=boxed wr (.cells #[.int .i64 x1,.int .i64 x2] 47);have FB:=zVZ (FF.out.went bb);have RB:=zVZ (FR.out.trans (.of_below bb) (fun x hx=> .inl hx));have hub:=cell_later bb hu;have fb:=FB.out.free k;clear hu ff bb;go_wp2_with (go_at_call 24;refine(CA.out _).mono ?_;rintro e w3 ⟨rfl,hb3⟩;have F3:=zVZ (FB.out.went hb3);have R3:=zVZ (RB.out.trans (.of_below hb3) (fun x hx=> .inl hx));have hu3:=cell_later hb3 hub;have f4:=F3.out.free k;clear hb3);have F4:=zVZ (F3.out.put HCk.out);have R4:=zVZ (R3.out.setCell ⟨w.heap.size,k,none⟩ rfl (Value.int .u16 z));go_roundw
   case rel=>exact⟨k+1,by go_num,by omega,F4.out,R4.out⟩
   case measure=>first|(simp[intOf];omega)|omega
  ·obtain rfl:k=L.length:=by omega
   have FE:=zVZ (show Fl w.heap.size 64 cs cs.length wr by rw[HE.out];exact FF.out);go_wp2;go_ret;exact⟨w.heap.size,rfl,Nat.le_refl _,FE.out.all,BR.out⟩
theorem zGK(L:List (Int))(a:Option Addr)(c:Nat)(w:World)(h:IntA a L w)(hl:L.length<=100000)(hp:∀x∈L, -1<=x/\x<65535):
  Calls Tryz.prog 25 #[.slice a L.length c,.func (.func 26) #[] #[]] w (NewL 64 L.length (L.map fun x=>Value.int .u16 (zBt x)) w):=by
 have hmk:=fun w=>zJm L.length hl w
 have B1:=zVZ (boxed w (.cells (madeCells #[.int .u16 0] L.length) 64));have F0:=zVZ (show Fl w.heap.size 64 (L.map fun x=>Value.int .u16 (zBt x)) 0 (w.alloc (.cells (madeCells #[.int .u16 0] L.length) 64))from Fl.made _ _ [] _ _ (by rw[size_madeCells];simp));have HR:=zVZ (fun w1 (b:Below w.heap.size w w1)=>h.went b);have HP:=zVZ hp;have HC:=zVZ (fun k (hk:k<L.length)=>(show(L.map fun x=>Value.int .u16 (zBt x))[k]?=some (Value.int .u16 (zBt L[k]))from by simp[hk]));have HE:=zVZ (show(L.map fun x=>Value.int .u16 (zBt x)).length=L.length by simp);clear hp h;generalize (L.map fun x=>Value.int .u16 (zBt x))=cs at*;go_enter Tryz.func25,Tryz.ntmps25;go_wp2_with fail;generalize hw2:w.alloc (.cells (madeCells #[.int .u16 0] L.length) 64)=w2 at*;clear hw2 hmk;go_loopw [13] (fun v wr=>∃k:Nat,v=.int .i64 (k:Int)/\k<=L.length/\Fl w.heap.size 64 cs k wr/\Sep.Fr (fun x=>x=w.heap.size) w2 wr) (fun v _=>L.length-(intOf v).toNat)
 case atStart=>exact⟨0,rfl,Nat.zero_le _,F0.out,.refl _ _⟩
 case round=>
  obtain⟨k,rfl,hk,hF,hf⟩:=hrel;have FF:=zVZ hF;have BR:=zVZ (B1.out.trans (hf.below (m:=w.heap.size) (fun x hx=>by omega) B1.out.size));have FR:=zVZ hf;clear hF hf
  by_cases hlt:k<L.length
  ·obtain⟨rb,ro,rfl,p0⟩:=(HR.out wr BR.out).at hlt;have HCk:=zVZ (HC.out k hlt);have hx:=HP.out _ (List.getElem_mem hlt);generalize L[k]=x at*;have CA:=zVZ (fun w1=>zHT x hx w1);have hkn:(k:Int)<(L.length:Int):=by omega
   obtain⟨u,hu⟩:=FF.out.has (show k<cs.length by rw[HE.out];exact hlt);have hpw:w.heap.size<wr.heap.size:=FF.out.lt;have ff:=FF.out.free k;generalize zBt x=z at*;go_wp2_with (go_at_call 26;refine(CA.out _).mono ?_;rintro e w3 ⟨rfl,rfl⟩;have F3:=FF;have R3:=FR);have F4:=zVZ (F3.out.put HCk.out);have R4:=zVZ (R3.out.setCell ⟨w.heap.size,k,none⟩ rfl (Value.int .u16 z));go_roundw
   case rel=>exact⟨k+1,by go_num,by omega,F4.out,R4.out⟩
   case measure=>first|(simp[intOf];omega)|omega
  ·obtain rfl:k=L.length:=by omega
   have FE:=zVZ (show Fl w.heap.size 64 cs cs.length wr by rw[HE.out];exact FF.out);go_wp2;go_ret;exact⟨w.heap.size,rfl,Nat.le_refl _,FE.out.all,BR.out⟩
theorem zIT(L:List (Int))(a:Option Addr)(c:Nat)(w:World)(h:CodA a L w)(hl:L.length<=100000)(hp:∀x∈L,Cd x):
  Calls Tryz.prog 39 #[.slice a L.length c,.func (.func 40) #[] #[]] w (NewL 3 L.length (L.map fun x=>Value.int .i64 (toOf x)) w):=by
 have hmk:=fun w=>zEx L.length hl w
 have B1:=zVZ (boxed w (.cells (madeCells #[.int .i64 0] L.length) 3));have F0:=zVZ (show Fl w.heap.size 3 (L.map fun x=>Value.int .i64 (toOf x)) 0 (w.alloc (.cells (madeCells #[.int .i64 0] L.length) 3))from Fl.made _ _ [] _ _ (by rw[size_madeCells];simp));have HR:=zVZ (fun w1 (b:Below w.heap.size w w1)=>h.went b);have HP:=zVZ hp;have HC:=zVZ (fun k (hk:k<L.length)=>(show(L.map fun x=>Value.int .i64 (toOf x))[k]?=some (Value.int .i64 (toOf L[k]))from by simp[hk]));have HE:=zVZ (show(L.map fun x=>Value.int .i64 (toOf x)).length=L.length by simp);clear hp h;generalize (L.map fun x=>Value.int .i64 (toOf x))=cs at*;go_enter Tryz.func39,Tryz.ntmps39;go_wp2_with fail;generalize hw2:w.alloc (.cells (madeCells #[.int .i64 0] L.length) 3)=w2 at*;clear hw2 hmk;go_loopw [13] (fun v wr=>∃k:Nat,v=.int .i64 (k:Int)/\k<=L.length/\Fl w.heap.size 3 cs k wr/\Sep.Fr (fun x=>x=w.heap.size) w2 wr) (fun v _=>L.length-(intOf v).toNat)
 case atStart=>exact⟨0,rfl,Nat.zero_le _,F0.out,.refl _ _⟩
 case round=>
  obtain⟨k,rfl,hk,hF,hf⟩:=hrel;have FF:=zVZ hF;have BR:=zVZ (B1.out.trans (hf.below (m:=w.heap.size) (fun x hx=>by omega) B1.out.size));have FR:=zVZ hf;clear hF hf
  by_cases hlt:k<L.length
  ·obtain⟨rb,ro,rfl,p0⟩:=(HR.out wr BR.out).at hlt;have HCk:=zVZ (HC.out k hlt);have hx:=HP.out _ (List.getElem_mem hlt);generalize L[k]=x at*;have CA:=zVZ (fun w1=>zDz x hx w1);have hkn:(k:Int)<(L.length:Int):=by omega
   obtain⟨u,hu⟩:=FF.out.has (show k<cs.length by rw[HE.out];exact hlt);have hpw:w.heap.size<wr.heap.size:=FF.out.lt;have ff:=FF.out.free k;generalize toOf x=z at*;go_wp2_with (go_at_call 40;refine(CA.out _).mono ?_;rintro e w3 ⟨rfl,rfl⟩;have F3:=FF;have R3:=FR);have F4:=zVZ (F3.out.put HCk.out);have R4:=zVZ (R3.out.setCell ⟨w.heap.size,k,none⟩ rfl (Value.int .i64 z));go_roundw
   case rel=>exact⟨k+1,by go_num,by omega,F4.out,R4.out⟩
   case measure=>first|(simp[intOf];omega)|omega
  ·obtain rfl:k=L.length:=by omega
   have FE:=zVZ (show Fl w.heap.size 3 cs cs.length wr by rw[HE.out];exact FF.out);go_wp2;go_ret;exact⟨w.heap.size,rfl,Nat.le_refl _,FE.out.all,BR.out⟩
end Pk
namespace Pk
open Gr (cell_later boxed drawn zEe New ivs)
open Im (ic zAg)
theorem zGU:(Tryz.prog.info? 47).map (fun i=>(i.zero,i.size,i.bytes))=some (some (.agg #[.int .i64 0,.int .i64 0]),2,16):=by kernel_rfl
theorem zEw(n:Nat)(hn:n<=100000)(w:World):
  (Instr.makeSlice 53 (.int .i64 (n:Int)) (.int .i64 (n:Int))).run Tryz.prog w=.ok (.slice (some ⟨w.heap.size,0,none⟩) n n) (w.alloc (.cells (madeCells #[.int .i64 0,.int .i64 0] (n*2)) 47)):=by
 obtain⟨i0,hi,hz0,hz1,hz2⟩:=info_parts zGU;have hr:=run_make (P:=Tryz.prog) w 53 47 i0 (.agg #[.int .i64 0,.int .i64 0]) Tryz.underlying53 hi hz0 .i64 .i64 (n:Int) (n:Int) (by omega) (Int.le_refl _) (by rw[hz2];omega) (by omega);rw[show((n:Int)).toNat=n by omega]at hr;rw[hr,hz1]
 rfl
theorem zJI(L:List Int):((L.map zAb).flatMap ic).length=L.length*2:=by rw[zAg,List.length_map]
theorem zRe(L:List Int){k:Nat}(hk:k<L.length):((L.map zAb).flatMap ic)[k*2]?=some (.int .i64 (zAb L[k]).1)/\((L.map zAb).flatMap ic)[k*2+1]?=some (.int .i64 (zAb L[k]).2):=by
 have g0:=Rw.zBQ ic Im.zA7 (L.map zAb) k (by simpa using hk) 0 (by omega);have g1:=Rw.zBQ ic Im.zA7 (L.map zAb) k (by simpa using hk) 1 (by omega);simp only[List.getElem_map,Nat.add_zero]at g0 g1;exact⟨g0,g1⟩
theorem zIS(L:List Int)(a:Option Addr)(c:Nat)(w:World)(h:CodA a L w)(hl:L.length<=100000)(hp:∀x∈L,Cd x):
  Calls Tryz.prog 37 #[.slice a L.length c,.func (.func 38) #[] #[]] w (NewL 47 L.length ((L.map zAb).flatMap ic) w):=by
 have hmk:=fun w=>zEw L.length hl w
 have B1:=zVZ (boxed w (.cells (madeCells #[.int .i64 0,.int .i64 0] (L.length*2)) 47));have F0:=zVZ (show Fl w.heap.size 47 ((L.map zAb).flatMap ic) 0 (w.alloc (.cells (madeCells #[.int .i64 0,.int .i64 0] (L.length*2)) 47))from Fl.made _ _ [] _ _ (by rw[size_madeCells,zJI]));have HR:=zVZ (fun w1 (b:Below w.heap.size w w1)=>h.went b);have HP:=zVZ hp;have HC:=zVZ (fun k (hk:k<L.length)=>zRe L hk);have HE:=zVZ (zJI L);clear hp h;generalize (L.map zAb).flatMap ic=cs at*;go_enter Tryz.func37,Tryz.ntmps37;go_wp2_with fail;generalize hw2:w.alloc (.cells (madeCells #[.int .i64 0,.int .i64 0] (L.length*2)) 47)=w2 at*;clear hw2 hmk;go_loopw [13] (fun v wr=>∃k:Nat,v=.int .i64 (k:Int)/\k<=L.length/\Fl w.heap.size 47 cs (k*2) wr/\Sep.Fr (fun x=>x=w.heap.size) w2 wr) (fun v _=>L.length-(intOf v).toNat)
 case atStart=>exact⟨0,rfl,Nat.zero_le _,F0.out,.refl _ _⟩
 case round=>
  obtain⟨k,rfl,hk,hF,hf⟩:=hrel;have FF:=zVZ hF;have BR:=zVZ (B1.out.trans (hf.below (m:=w.heap.size) (fun x hx=>by omega) B1.out.size));have FR:=zVZ hf;clear hF hf
  by_cases hlt:k<L.length
  ·obtain⟨rb,ro,rfl,p0⟩:=(HR.out wr BR.out).at hlt;have HCk:=zVZ (HC.out k hlt);have hx:=HP.out _ (List.getElem_mem hlt);generalize L[k]=x at*;have CA:=zVZ (fun w1=>zDl x hx w1);have hkn:(k:Int)<(L.length:Int):=by omega
   generalize zAb x=z at*;obtain⟨z1,z2⟩:=z;obtain⟨u,hu⟩:=FF.out.has (j:=k*2) (by rw[HE.out];omega);obtain⟨u',hu'⟩:=FF.out.has (j:=k*2+1) (by rw[HE.out];omega);have hpw:w.heap.size<wr.heap.size:=FF.out.lt;clear hx;go_wp2_with (go_at_call 38;refine(CA.out _).mono ?_;rintro e w3 ⟨rfl,hb3⟩;have F3:=zVZ (FF.out.went hb3);have R3:=zVZ (FR.out.trans (.of_below hb3) (fun x hx=> .inl hx));have hu3:=cell_later hb3 hu;have hu4:=cell_later hb3 hu';have f3:=F3.out.free (k*2);have f4:=F3.out.free (k*2+1);clear hb3);have F4:=zVZ ((F3.out.put HCk.out.1).put HCk.out.2);have R4:=zVZ ((R3.out.setCell ⟨w.heap.size,k*2,none⟩ rfl (.int .i64 z1)).setCell ⟨w.heap.size,k*2+1,none⟩ rfl (.int .i64 z2));go_roundw
   case rel=>exact⟨k+1,by go_num,by omega,by rw[show(k+1)*2=k*2+1+1 by omega];exact F4.out,R4.out⟩
   case measure=>first|(simp[intOf];omega)|omega
  ·obtain rfl:k=L.length:=by omega
   have FE:=zVZ (show Fl w.heap.size 47 cs cs.length wr by rw[HE.out];exact FF.out);go_wp2;go_ret;exact⟨w.heap.size,rfl,Nat.le_refl _,FE.out.all,BR.out⟩
def zUr(r:Int×List Int)(w:World)(e:Ending)(w':World):Prop:=
 ∃a c,e=.returned (.agg #[.int .i64 r.1,.slice a r.2.length c])/\IntA a r.2 w'/\New a w/\Below w.heap.size w w'
theorem zO0(x:Int)(l:List Int)(a:Option Addr)(c:Nat)(w:World)(h:IntA a l w)(hl:l.length<=17592186044416):
  Calls Tryz.prog 57 #[.agg #[.int .i64 x,.slice a l.length c]] w (zUr (x,l) w):=by
 have b1:=boxed w (.cells #[.int .i64 x,.slice a l.length c] 55);have b2:=boxed (w.alloc (.cells #[.int .i64 x,.slice a l.length c] 55)) (.cells #[.int .i64 0,.slice none 0 0] 55);have B2:=zVZ (Gr.step b1 b2);have H1:=zVZ ((b2.block w.heap.size (by rw[World.size_alloc];exact Nat.lt_succ_self _)).trans (zAm w (.cells #[.int .i64 x,.slice a l.length c] 55)));have H2:=zVZ (zAm (w.alloc (.cells #[.int .i64 x,.slice a l.length c] 55)) (.cells #[.int .i64 0,.slice none 0 0] 55));rw[World.size_alloc]at H2;have CL:=zVZ (fun w1 (b:Below w.heap.size w w1)=>zEe a l c w1 (h.went b) hl);clear h b1 b2;go_enter Tryz.func57,Tryz.ntmps57;go_wp2_with fail;generalize (w.alloc (.cells #[.int .i64 x,.slice a l.length c] 55)).alloc (.cells #[.int .i64 0,.slice none 0 0] 55)=w2 at*;have q0:=zAA H1.out (k:=0) (by simp);have q1:=zAA H1.out (k:=1) (by simp);have q2:=zAA H2.out (k:=0) (by simp);have q3:=zAA H2.out (k:=1) (by simp);have q4:=zAK (k:=0) H2.out;have q5:=zAK (k:=1) H2.out;simp only[List.getElem_toArray,List.getElem_cons_zero,List.getElem_cons_succ]at q0 q1 q2 q3;have hqs:w.heap.size+1<w2.heap.size:=(Array.getElem?_eq_some_iff.1 H2.out).1
 have HQ:=zVZ (show∀w',Below w2.heap.size w2 w'->w'.cell? ⟨w.heap.size,0,none⟩=some (.int .i64 x)/\w'.cell? ⟨w.heap.size,1,none⟩=some (.slice a l.length c)/\Below w.heap.size w w'
  from fun w' hb=>⟨cell_later hb q0,cell_later hb q1,Gr.step B2.out hb⟩)
 have HT:=zVZ (show∀w' u v,Below w2.heap.size w2 w'->((w'.setCell ⟨w.heap.size+1,0,none⟩ u).setCell ⟨w.heap.size+1,1,none⟩ v).cell? ⟨w.heap.size,0,none⟩=some (.int .i64 x)/\((w'.setCell ⟨w.heap.size+1,0,none⟩ u).setCell ⟨w.heap.size+1,1,none⟩ v).cell? ⟨w.heap.size,1,none⟩=some (.slice a l.length c)/\Below w.heap.size w ((w'.setCell ⟨w.heap.size+1,0,none⟩ u).setCell ⟨w.heap.size+1,1,none⟩ v)
  from fun w' u v hb=>⟨by rw[World.cell?_setCell_other _ _ _ _ (by intro e;simp at e),World.cell?_setCell_other _ _ _ _ (by intro e;simp at e)];exact cell_later hb q0,by rw[World.cell?_setCell_other _ _ _ _ (by intro e;simp at e),World.cell?_setCell_other _ _ _ _ (by intro e;simp at e)];exact cell_later hb q1,
   ((Gr.step B2.out hb).setCell (Nat.le_succ _) _).setCell (Nat.le_succ _) _⟩)
 have CQ:=zVZ (fun w1 (k:Below w2.heap.size w2 w1)=>CL.out w1 (Gr.step B2.out k));have hbd:=drawn w2;clear CL
 go_region_held3 (fun w'=>w'.cell? ⟨w.heap.size,0,none⟩=some (.int .i64 x)/\w'.cell? ⟨w.heap.size,1,none⟩=some (.slice a l.length c)/\Below w.heap.size w w')
  (first|exact HQ.out _ (by assumption)|exact HT.out _ _ _ (by assumption))
  (first
   |(go_at_call 58;refine(CQ.out _ hbd).mono ?_;rintro e wn ⟨a',c',rfl,hr,hnew,hb⟩;have HR3:=zVZ hr;have HN:=zVZ hnew;have kB:Below w2.heap.size w2 wn:=Gr.step hbd hb;have z2:=cell_later kB q2;have z3:=cell_later kB q3;have z4:=Gr.zBB kB q4 q2;have z5:=Gr.zBB kB q5 q2;clear hr hnew hb)
   |fail)
 go_wp2
 have f0:((wn.setCell ⟨w.heap.size+1,0,none⟩ (.int .i64 x)).setCell ⟨w.heap.size+1,1,none⟩ (.slice a' l.length c')).cell? ⟨w.heap.size+1,0,none⟩=some (.int .i64 x):=by
  rw[World.cell?_setCell_other _ _ _ _ (by intro e;simp at e)];exact World.cell?_setCell_same _ _ _ z2
 have f1:((wn.setCell ⟨w.heap.size+1,0,none⟩ (.int .i64 x)).setCell ⟨w.heap.size+1,1,none⟩ (.slice a' l.length c')).cell? ⟨w.heap.size+1,1,none⟩=some (.slice a' l.length c'):=by
  have y3:(wn.setCell ⟨w.heap.size+1,0,none⟩ (.int .i64 x)).cell? ⟨w.heap.size+1,1,none⟩=some (.slice none 0 0):=by
   rw[World.cell?_setCell_other _ _ _ _ (by intro e;simp at e)];exact z3
  exact World.cell?_setCell_same _ _ _ y3
 have HF:=zVZ (show Sep.Reads a' (ivs l) ((wn.setCell ⟨w.heap.size+1,0,none⟩ (.int .i64 x)).setCell ⟨w.heap.size+1,1,none⟩ (.slice a' l.length c'))from HR3.out.keep fun b' o' e'=>by
  have hn:w2.heap.size<=b':=HN.out _ e'
  rw[Below.heap_setCell _ _ _ _ (by simp;omega),Below.heap_setCell _ _ _ _ (by simp;omega)])
 have hnw:New a' w:=fun y e=>by
  have:=HN.out y e;have:w2.heap.size<=y.block:=this;omega
 exact bodyPost_ret (v:=.agg #[.int .i64 x,.slice a' l.length c']) (by simp[results,Tryz.results57,go_sem,f0,f1]) rfl ⟨_,_,rfl,HF.out,hnw,(HT.out _ _ _ kB).2.2⟩
structure CopI (X:List (Int×List Int)) (b k:Nat) (w:World):Prop where
 blk:∃cur,w.heap[b]?=some (.cells cur 55 (0,0))/\cur.size=X.length*2
 els:∀j (h:j<X.length),j<k->∃ra rc,w.cell? ⟨b,j*2,none⟩=some (.int .i64 X[j].1)/\w.cell? ⟨b,j*2+1,none⟩=some (.slice ra X[j].2.length rc)/\IntA ra X[j].2 w/\(∀y,ra=some y->b<y.block)/\X[j].2.length<=17592186044416
section
variable {X:List (Int×List Int)} {b k:Nat} {w w':World}
theorem CopI.lt(h:CopI X b k w):b<w.heap.size:=by
 obtain⟨cur,h1,_⟩:=h.blk;exact(Array.getElem?_eq_some_iff.1 h1).1
theorem CopI.free(h:CopI X b k w)(j:Nat):w.frozen? ⟨b,j,none⟩=false:=by
 obtain⟨cur,h1,_⟩:=h.blk;exact zAK h1
theorem CopI.has(h:CopI X b k w){j:Nat}(hj:j<X.length*2):∃u,w.cell? ⟨b,j,none⟩=some u:=by
 obtain⟨cur,h1,h2⟩:=h.blk;exact⟨_,zAA h1 (k:=j) (by omega)⟩
theorem CopI.went(h:CopI X b k w)(hb:Below w.heap.size w w'):CopI X b k w':=by
 have hl:=h.lt;obtain⟨cur,h1,h2⟩:=h.blk;refine⟨⟨cur,(hb.block b hl).trans h1,h2⟩,fun j hj hk=>?_⟩;obtain⟨ra,rc,e1,e2,e3,e4⟩:=h.els j hj hk;exact⟨ra,rc,cell_later hb e1,cell_later hb e2,e3.went hb,e4⟩
theorem CopI.put(h:CopI X b k w)(hk:k<X.length){ra:Option Addr}{rc:Nat}(hr:IntA ra X[k].2 w)(hn:∀y,ra=some y->b<y.block)(hl:X[k].2.length<=17592186044416):
  CopI X b (k+1) ((w.setCell ⟨b,k*2,none⟩ (.int .i64 X[k].1)).setCell ⟨b,k*2+1,none⟩ (.slice ra X[k].2.length rc)):=by
 obtain⟨u,hu⟩:=h.has (j:=k*2) (by omega);obtain⟨u',hu'⟩:=h.has (j:=k*2+1) (by omega)
 have other:∀(p:Addr) (v:Value),w.cell? p=some v->(p.block=b->p.off≠k*2/\p.off≠k*2+1)->((w.setCell ⟨b,k*2,none⟩ (.int .i64 X[k].1)).setCell ⟨b,k*2+1,none⟩ (.slice ra X[k].2.length rc)).cell? p=some v:=fun p v hv hp=>by
  rw[World.cell?_setCell_other _ _ _ _ (fun e=>by subst e;exact(hp rfl).2 rfl),World.cell?_setCell_other _ _ _ _ (fun e=>by subst e;exact(hp rfl).1 rfl)];exact hv
 have reads:∀(r:Option Addr) (l:List Int),IntA r l w->(∀y,r=some y->b<y.block)->IntA r l ((w.setCell ⟨b,k*2,none⟩ (.int .i64 X[k].1)).setCell ⟨b,k*2+1,none⟩ (.slice ra X[k].2.length rc)):=fun r l h1 h2=>Sep.Reads.keep h1 fun b' o' e=>by
  have:=h2 _ e;dsimp only at this;rw[Below.heap_setCell _ _ _ _ (by simp;omega),Below.heap_setCell _ _ _ _ (by simp;omega)]
 obtain⟨cur,h1,h2⟩:=h.blk;refine⟨⟨_,zAP (zAP h1 _) _,by simp[h2]⟩,fun j hj hjk=>?_⟩
 by_cases e:j=k
 ·subst e;refine⟨ra,rc,?_,?_,reads _ _ hr hn,hn,hl⟩
  ·rw[World.cell?_setCell_other _ _ _ _ (by intro e;simp at e)];exact World.cell?_setCell_same _ _ _ hu
  ·exact World.cell?_setCell_same _ _ _ ((World.cell?_setCell_other _ _ _ _ (by intro e;simp at e)).trans hu')
 ·obtain⟨ra',rc',e1,e2,e3,e4,e5⟩:=h.els j hj (by omega);exact⟨ra',rc',other _ _ e1 (fun _=>by dsimp only;omega),other _ _ e2 (fun _=>by dsimp only;omega),reads _ _ e3 e4,e4,e5⟩
end
def zJD(X:List (Int×List Int))(w:World)(e:Ending)(w':World):Prop:=
 ∃b,e=.returned (.slice (some ⟨b,0,none⟩) X.length X.length)/\(∀w2,(∀g,w.heap.size<=g->g<w'.heap.size->w2.heap[g]?=w'.heap[g]?)->RulA (some ⟨b,0,none⟩) X w2)/\Below w.heap.size w w'
theorem CopI.gave{X:List (Int×List Int)}{b:Nat}{w:World}(h:CopI X b X.length w){w2:World}(hb:∀g,b<=g->g<w.heap.size->w2.heap[g]?=w.heap[g]?):RulA (some ⟨b,0,none⟩) X w2:=fun i hi=>by
 obtain⟨ra,rc,e1,e2,e3,e4,e5⟩:=h.els i hi hi;have hlt:=h.lt;have hb0:=hb b (Nat.le_refl _) hlt;refine⟨b,0,ra,rc,rfl,?_,?_,fun j hj=>?_,e5⟩
 ·rw[Nat.zero_add];exact(World.cell?_of_block (a:=⟨b,i*2,none⟩) hb0).trans e1
 ·rw[Nat.zero_add];exact(World.cell?_of_block (a:=⟨b,i*2+1,none⟩) hb0).trans e2
 ·obtain⟨b',o',e,hc⟩:=e3 j hj;have h1:=e4 _ e;have h2:=World.block_lt_of_cell? w _ hc;exact⟨b',o',e,(World.cell?_of_block (a:=⟨b',o'+j,none⟩) (hb b' (Nat.le_of_lt h1) h2)).trans hc⟩
theorem zMu:(Tryz.prog.info? 55).map (fun i=>(i.zero,i.size,i.bytes))=some (some (.agg #[.int .i64 0,.slice none 0 0]),2,32):=by kernel_rfl
theorem zK7(n:Nat)(hn:n<=100000)(w:World):
  (Instr.makeSlice 22 (.int .i64 (n:Int)) (.int .i64 (n:Int))).run Tryz.prog w=.ok (.slice (some ⟨w.heap.size,0,none⟩) n n) (w.alloc (.cells (madeCells #[.int .i64 0,.slice none 0 0] (n*2)) 55)):=by
 obtain⟨i0,hi,hz0,hz1,hz2⟩:=info_parts zMu;have hr:=run_make (P:=Tryz.prog) w 22 55 i0 (.agg #[.int .i64 0,.slice none 0 0]) Tryz.underlying22 hi hz0 .i64 .i64 (n:Int) (n:Int) (by omega) (Int.le_refl _) (by rw[hz2];omega) (by omega);rw[show((n:Int)).toNat=n by omega]at hr;rw[hr,hz1]
 rfl
theorem zMN(X:List (Int×List Int))(a:Option Addr)(c:Nat)(w:World)(h:RulA a X w)(hl:X.length<=100000):
  Calls Tryz.prog 56 #[.slice a X.length c,.func (.func 57) #[] #[]] w (zJD X w):=by
 have hmk:=fun w=>zK7 X.length hl w
 have B1:=zVZ (boxed w (.cells (madeCells #[.int .i64 0,.slice none 0 0] (X.length*2)) 55));have F0:=zVZ (show CopI X w.heap.size 0 (w.alloc (.cells (madeCells #[.int .i64 0,.slice none 0 0] (X.length*2)) 55))from⟨⟨_,zAm _ _,by rw[size_madeCells]⟩,fun j _ hj=>absurd hj (Nat.not_lt_zero j)⟩);have HR:=zVZ (fun w1 (b:Below w.heap.size w w1)=>h.went b);clear h;go_enter Tryz.func56,Tryz.ntmps56;go_wp2_with fail;generalize hw2:w.alloc (.cells (madeCells #[.int .i64 0,.slice none 0 0] (X.length*2)) 55)=w2 at*;clear hw2 hmk;go_loopw [13] (fun v wr=>∃k:Nat,v=.int .i64 (k:Int)/\k<=X.length/\CopI X w.heap.size k wr/\Sep.Fr (fun x=>x=w.heap.size) w2 wr) (fun v _=>X.length-(intOf v).toNat)
 case atStart=>exact⟨0,rfl,Nat.zero_le _,F0.out,.refl _ _⟩
 case round=>
  obtain⟨k,rfl,hk,hF,hf⟩:=hrel;have FF:=zVZ hF;have BR:=zVZ (B1.out.trans (hf.below (m:=w.heap.size) (fun x hx=>by omega) B1.out.size));have FR:=zVZ hf;clear hF hf
  by_cases hlt:k<X.length
  ·obtain⟨rb,ro,ra,rc,rfl,p0,p1,hR,hL⟩:=(HR.out wr BR.out) k hlt;have PUT:=zVZ (fun(w3:World) (ra:Option Addr) (rc:Nat) (h3:CopI X w.heap.size k w3) (hr:IntA ra X[k].2 w3) (hn:∀y,ra=some y->w.heap.size<y.block)=>h3.put hlt (rc:=rc) hr hn hL);have RR:=zVZ hR;clear hR;generalize X[k]=r at*;obtain⟨x,l⟩:=r;dsimp only at p0 p1 hL;have hkn:(k:Int)<(X.length:Int):=by omega
   obtain⟨u,hu⟩:=FF.out.has (j:=k*2) (by omega);obtain⟨u',hu'⟩:=FF.out.has (j:=k*2+1) (by omega);have bb:=boxed wr (.cells #[.int .i64 x,.slice ra l.length rc] 55);have FB:=zVZ (FF.out.went bb);have RB:=zVZ (FR.out.trans (.of_below bb) (fun x hx=> .inl hx));have hpw:w.heap.size<wr.heap.size:=FF.out.lt;replace hu:=cell_later bb hu;replace hu':=cell_later bb hu';have CC:=zVZ (zO0 x l ra rc _ (RR.out.went bb) hL);clear bb FF;go_wp2_with (go_at_call 57;refine CC.out.mono ?_;rintro e w3 ⟨a3,c3,rfl,hr3,hn3,hb3⟩;have R3:=zVZ hr3;have N3:=zVZ (show∀y,a3=some y->w.heap.size<y.block from fun y e=>by have:_<=y.block:=hn3 y e;rw[World.size_alloc]at this;omega);have F3:=zVZ (FB.out.went hb3);have G3:=zVZ (RB.out.trans (.of_below hb3) (fun x hx=> .inl hx));have hu3:=cell_later hb3 hu;have hu4:=cell_later hb3 hu';have f3:=F3.out.free (k*2);have f4:=F3.out.free (k*2+1);clear hb3 hr3 hn3);have F4:=zVZ (PUT.out w3 a3 c3 F3.out R3.out N3.out);have R4:=zVZ ((G3.out.setCell ⟨w.heap.size,k*2,none⟩ rfl (.int .i64 x)).setCell ⟨w.heap.size,k*2+1,none⟩ rfl (.slice a3 l.length c3));go_roundw
   case rel=>exact⟨k+1,by go_num,by omega,F4.out,R4.out⟩
   case measure=>first|(simp[intOf];omega)|omega
  ·obtain rfl:k=X.length:=by omega
   go_wp2;go_ret;exact⟨w.heap.size,rfl,fun w2 h=>FF.out.gave h,BR.out⟩
theorem zFn(X:List (Int×List Int))(a:Option Addr)(c:Nat)(w:World)(h:RulA a X w)(hl:X.length<=100000):
  Calls Tryz.prog 21 #[.slice a X.length c] w (zJD X w):=by
 have E:=zVZ (zMN X a c w h hl);clear h;go_enter Tryz.func21,Tryz.ntmps21;go_wp2_with (go_at_call 56;refine E.out.mono ?_;rintro e w3 ⟨b,rfl,hk,hb3⟩;have K:=zVZ hk;have B:=zVZ hb3;clear hb3 hk);go_ret;exact⟨b,rfl,K.out,B.out⟩
