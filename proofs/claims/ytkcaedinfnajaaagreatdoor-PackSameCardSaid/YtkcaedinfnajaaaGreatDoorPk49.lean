/- A part of the proof. -/
import Derived.Test.YtkcaedinfnajaaaGreatDoorPk31
import Derived.Test.YtkcaedinfnajaaaGreatDoorPk48
set_option maxHeartbeats 8000000
set_option maxRecDepth 100000
set_option linter.unusedVariables false
namespace Go.Proofs.YtkcaedinfnajaaaGreatDoor
open Go.RowKit Go.Maps
namespace Pk
open Gr (ivs)
open Go.Proofs.YtkcaedinfnajaaaGreatDoor.Sep (Fr)
section
variable {lo ps bm:Nat} {L:Nat->List (List Int)} {v:Nat->Value} {vs:Nat->List Value} {w w':World}
theorem StAt.at(h:StAt lo ps bm L v vs w)(hb:∀x,stS ps bm v x->w'.heap[x]?=w.heap[x]?):StAt lo ps bm L v vs w':=by
 obtain⟨n,X,h1,h2,h3⟩:=h.map;refine⟨(hb ps (.inl rfl)).trans h.box,⟨n,X,h1,h2.keep (hb bm (.inr (.inl rfl))),h3⟩,fun k hk=>Sep.zAD (h.row k hk) fun g e=>hb g ?_,h.ne,h.lp,h.lb⟩;rcases(by omega:k=0\/k=1)with rfl|rfl
 ·exact .inr (.inr (.inl e))
 ·exact .inr (.inr (.inr e))
theorem StAt.lo_of(h:StAt lo ps bm L v vs w){x:Nat}(hx:stS ps bm v x):lo<=x:=by
 rcases hx with rfl|rfl|e|e
 ·exact h.lp
 ·exact h.lb
 ·exact((h.row 0 (by decide)).lt x e).1
 ·exact((h.row 1 (by decide)).lt x e).1
theorem StAt.off(h:StAt lo ps bm L v vs w){x:Nat}{cur:Array Value}{T:TypeId}{f:Nat×Nat}(hx:w.heap[x]?=some (.cells cur T f))(h1:T≠60)(h2:T≠62):¬stS ps bm v x:=fun hs=>by
 rcases hs with rfl|rfl|e|e
 ·rw[h.box]at hx;injection hx with hx
  injection hx with _ hx _
  exact h1 hx.symm
 ·obtain⟨es,c,h3⟩:=h.bm_map;rw[h3]at hx;cases hx
 ·obtain⟨cur',h3⟩:=zBr (h.row 0 (by decide)) e;rw[h3]at hx;injection hx with hx
  injection hx with _ hx _
  exact h2 hx.symm
 ·obtain⟨cur',h3⟩:=zBr (h.row 1 (by decide)) e;rw[h3]at hx;injection hx with hx
  injection hx with _ hx _
  exact h2 hx.symm
end
def pkc(q0 q1 q2:Value)(vI:Nat->Value):Array Value:=#[q0,q1,q2,vI 0,.slice none 0 0,vI 1,.slice none 0 0]
def Dat(lo:Nat)(r:List Int)(u:Value)(w:World):Prop:=∃b,u=.slice (some ⟨b,0,none⟩) r.length r.length/\w.heap[b]?=some (.cells (r.map fun c=>Value.int .u16 c).toArray 64 (0,0))/\lo<=b
theorem Dat.kept{lo:Nat}{r:List Int}{u:Value}{w w':World}(h:Dat lo r u w)(hb:∀(b:Nat) (cur:Array Value),w.heap[b]?=some (.cells cur 64 (0,0))->w'.heap[b]?=w.heap[b]?):Dat lo r u w':=by
 obtain⟨b,e,h1,h2⟩:=h;exact⟨b,e,(hb b _ h1).trans h1,h2⟩
structure PkI (W:World) (pp ps bm:Nat) (q0 q1 q2:Value) (L:Nat->List (List Int)) (v:Nat->Value) (vs:Nat->List Value) (vI:Nat->Value) (iI:Nat->List Int) (w:World):Prop where
 box:w.heap[pp]?=some (.cells (pkc q0 q1 q2 vI) 32 (0,0))
 pl:pp<W.heap.size
 st:StAt W.heap.size ps bm L v vs w
 idx:∀k,k<2->w.ownsRow W.heap.size 3 1 (vI k) (iI k).length (ivs (iI k))
 ne:∀g,(vI 0).ownBlock=some g->(vI 1).ownBlock≠some g
 dat:∀k,k<2->(vs k).length=(L k).length/\∀j (h:j<(L k).length),∃u,(vs k)[j]?=some u/\Dat W.heap.size (L k)[j] u w
 fr:Fr (fun x=>x=pp) W w
theorem zBg{w:World}{base n c:Nat}{T:TypeId}{a:Option Addr}{xs:List Value}(h:w.ownsRow base T 1 (.slice a n c) n xs)(hn:0<n):∃g,a=some ⟨g,0,none⟩:=by
 rcases h.2 with⟨_,h0⟩|⟨g,_,_,h0,_⟩
 ·omega
 ·simp only[Value.slice.injEq]at h0;exact⟨g,h0.1⟩
section
variable {W:World} {pp ps bm:Nat} {q0 q1 q2:Value} {L:Nat->List (List Int)} {v:Nat->Value} {vs:Nat->List Value} {vI:Nat->Value} {iI:Nat->List Int} {w w' wa:World}
theorem PkI.went(h:PkI W pp ps bm q0 q1 q2 L v vs vI iI w)(hb:Below w.heap.size w w'):PkI W pp ps bm q0 q1 q2 L v vs vI iI w':=
 ⟨(hb.block pp (Array.getElem?_eq_some_iff.1 h.box).1).trans h.box,h.pl,h.st.went hb,fun k hk=>Sep.zAD (h.idx k hk) fun g e=>hb.block g ((h.idx k hk).lt g e).2,h.ne,
  fun k hk=>⟨(h.dat k hk).1,fun j hj=>by
   obtain⟨u,h1,h2⟩:=(h.dat k hk).2 j hj
   exact⟨u,h1,h2.kept fun b cur e=>hb.block b (Array.getElem?_eq_some_iff.1 e).1⟩⟩,h.fr.trans (.of_below hb) fun x hx=> .inl hx⟩
theorem PkI.cell(h:PkI W pp ps bm q0 q1 q2 L v vs vI iI w){k:Nat}(hk:k<2):w.cell? ⟨pp,3+k*2,none⟩=some (vI k):=by
 rcases(by omega:k=0\/k=1)with rfl|rfl
 ·exact zAA h.box (k:=3) (by simp[pkc])
 ·exact zAA h.box (k:=5) (by simp[pkc])
theorem PkI.idx_type(h:PkI W pp ps bm q0 q1 q2 L v vs vI iI w){k:Nat}(hk:k<2){g:Nat}(hg:(vI k).ownBlock=some g):∃cur,w.heap[g]?=some (.cells cur 3 (0,0)):=zBr (h.idx k hk) hg
theorem PkI.placed(h:PkI W pp ps bm q0 q1 q2 L v vs vI iI w){k:Nat}(hk:k<2){r:List Int}{u:Value}(hu:Dat W.heap.size r u w){v':Nat->Value}(hs:StAt W.heap.size ps bm (upd L k (putR (L k) r)) v' (upd vs k (if r∈L k then vs k else vs k++[u])) w')(hf:Fr (stS ps bm v) w w'):
  PkI W pp ps bm q0 q1 q2 (upd L k (putR (L k) r)) v' (upd vs k (if r∈L k then vs k else vs k++[u])) vI iI w':=by
 have hdat:∀{r u},Dat W.heap.size r u w->Dat W.heap.size r u w':=fun hd=>hd.kept fun b cur e=>hf.block b (Array.getElem?_eq_some_iff.1 e).1 (h.st.off e (by decide) (by decide))
 refine⟨(hf.block pp (Array.getElem?_eq_some_iff.1 h.box).1 fun hs=>?_).trans h.box,h.pl,hs,fun j hj=>Sep.zAD (h.idx j hj) fun g e=>?_,h.ne,fun j hj=>?_,h.fr.trans hf fun x hx=>?_⟩
 ·have:=h.st.lo_of hs;have:=h.pl;omega
 ·obtain⟨cur,e2⟩:=h.idx_type hj e;exact hf.block g (Array.getElem?_eq_some_iff.1 e2).1 (h.st.off e2 (by decide) (by decide))
 ·by_cases ek:j=k
  ·subst ek;rw[upd_same,upd_same];obtain⟨d1,d2⟩:=h.dat j hj
   by_cases hm:r∈L j
   ·rw[if_pos hm,(zC2 hm).1];refine⟨d1,fun i hi=>?_⟩;obtain⟨u',h1,h2⟩:=d2 i hi;exact⟨u',h1,hdat h2⟩
   ·rw[if_neg hm,(zBU hm).1];refine⟨by rw[List.length_append,List.length_append,d1];rfl,fun i hi=>?_⟩
    by_cases hi2:i<(L j).length
    ·obtain⟨u',h1,h2⟩:=d2 i hi2;refine⟨u',?_,?_⟩
     ·rw[List.getElem?_append_left (by omega)];exact h1
     ·rw[List.getElem_append_left hi2];exact hdat h2
    ·rw[List.length_append]at hi;simp only[List.length_cons,List.length_nil]at hi;obtain rfl:i=(L j).length:=by omega
     refine⟨u,?_,?_⟩
     ·rw[List.getElem?_append_right (by omega),d1];simp
     ·rw[List.getElem_append_right (Nat.le_refl _)]
      simpa using hdat hu
  ·rw[zAB _ _ ek,zAB _ _ ek];obtain⟨d1,d2⟩:=h.dat j hj;refine⟨d1,fun i hi=>?_⟩;obtain⟨u',h1,h2⟩:=d2 i hi;exact⟨u',h1,hdat h2⟩
 ·exact .inr (Nat.le_trans (Nat.le_refl _) (h.st.lo_of hx))
theorem PkI.rowed(h:PkI W pp ps bm q0 q1 q2 L v vs vI iI w){k:Nat}(hk:k<2){x:Int}{w7:World}(hb:Below w.heap.size w wa){v7:Value}
  (hown:w7.ownsRow W.heap.size 3 1 v7 ((iI k).length+1) (ivs (iI k)++[.int .i64 x])) (hg:wa.grownBy w7 (vI k).ownBlock) (hl:v7.ownBlock=(vI k).ownBlock\/v7.ownBlock=some wa.heap.size):
  PkI W pp ps bm q0 q1 q2 L v vs (upd vI k v7) (upd iI k (iI k++[x])) (w7.setCell ⟨pp,3+k*2,none⟩ v7):=by
 have hlow:∀g,(vI k).ownBlock=some g->W.heap.size<=g:=fun g e=>((h.idx k hk).lt g e).1
 have hpw:pp<w.heap.size:=(Array.getElem?_eq_some_iff.1 h.box).1;have hsa:=hb.size;have hpl:=h.pl;have hWw:=h.fr.size;have kept:∀b,b<w.heap.size->(vI k).ownBlock≠some b->w7.heap[b]?=w.heap[b]?:=fun b hlt hne=>(hg.block b (by omega) fun e=>hne e.symm).trans (hb.block b hlt)
 have kept2:∀b,b<w.heap.size->(vI k).ownBlock≠some b->b≠pp->(w7.setCell ⟨pp,3+k*2,none⟩ v7).heap[b]?=w.heap[b]?:=fun b hlt hne hp=>(Below.heap_setCell _ _ _ _ hp).trans (kept b hlt hne)
 have hpp7:w7.heap[pp]?=w.heap[pp]?:=kept pp hpw fun e=>by
  have:=hlow pp e;omega
 have hv7:v7.ownBlock≠some pp:=fun e=>by
  rcases hl with h1|h1
  ·have:=hlow pp (h1▸e);omega
  ·rw[h1]at e;injection e with e
   omega
 have hloc:∀x,v7.ownBlock=some x->(vI k).ownBlock=some x\/w.heap.size<=x:=fun x e=>by
  rcases hl with h1|h1
  ·exact .inl (h1▸e)
  ·rw[h1]at e;injection e with e
   omega
 have notint:∀{b:Nat} {cur:Array Value} {T:TypeId} {f:Nat×Nat},w.heap[b]?=some (.cells cur T f)->T≠3->(vI k).ownBlock≠some b:=fun e hT eo=>by
  obtain⟨cur',e2⟩:=h.idx_type hk eo;rw[e]at e2;injection e2 with e2
  injection e2 with _ e2 _
  exact hT e2
 have hlen2:(ivs (iI k)++[Value.int .i64 x])=ivs (iI k++[x]):=by simp[ivs,Gr.iv]
 refine⟨?_,h.pl,h.st.at fun b hs=>?_,fun j hj=>?_,fun g e e2=>?_,fun j hj=>?_,?_⟩
 ·rw[zAP (hpp7.trans h.box) (k:=3+k*2)];rcases(by omega:k=0\/k=1)with rfl|rfl<;>rfl
 ·have hlo:=h.st.lo_of hs;refine kept2 b ?_ (fun eo=>?_) (by omega)
  ·rcases hs with rfl|rfl|e|e
   ·exact h.st.lt
   ·obtain⟨es,c,h3⟩:=h.st.bm_map;exact(Array.getElem?_eq_some_iff.1 h3).1
   ·exact((h.st.row 0 (by decide)).lt b e).2
   ·exact((h.st.row 1 (by decide)).lt b e).2
  ·obtain⟨cur,e2⟩:=h.idx_type hk eo;exact h.st.off e2 (by decide) (by decide) hs
 ·by_cases e:j=k
  ·subst e;rw[upd_same,upd_same,List.length_append,←hlen2];exact Sep.zAD hown fun g e=>Below.heap_setCell _ _ _ _ (fun e2=>hv7 (by rw[e];exact congrArg some e2))
  ·rw[zAB _ _ e,zAB _ _ e];refine Sep.zAD (h.idx j hj) fun g eg=>kept2 g ((h.idx j hj).lt g eg).2 (fun eo=>?_) (fun e3=>?_)
   ·rcases(by omega:(j=0/\k=1)\/(j=1/\k=0))with⟨rfl,rfl⟩|⟨rfl,rfl⟩
    ·exact h.ne g eg eo
    ·exact h.ne g eo eg
   ·have:=((h.idx j hj).lt g eg).1;omega
 ·rcases(by omega:k=0\/k=1)with rfl|rfl
  ·rw[upd_same]at e;rw[zAB _ _ (by decide)]at e2;have h1:=((h.idx 1 (by decide)).lt g e2).2;rcases hloc g e with h2|h2
   ·exact h.ne g h2 e2
   ·omega
  ·rw[upd_same]at e2;rw[zAB _ _ (by decide)]at e;have h1:=((h.idx 0 (by decide)).lt g e).2;rcases hloc g e2 with h2|h2
   ·exact h.ne g e h2
   ·omega
 ·refine⟨(h.dat j hj).1,fun i hi=>?_⟩;obtain⟨u,h1,b,e,h2,h3⟩:=(h.dat j hj).2 i hi;exact⟨u,h1,b,e,(kept2 b (Array.getElem?_eq_some_iff.1 h2).1 (notint h2 (by decide)) (by omega)).trans h2,h3⟩
 ·have f1:Fr (fun x=>x=pp) W wa:=h.fr.trans (.of_below hb) fun x hx=> .inl hx
  have f2:Fr (fun x=>x=pp) W w7:=f1.grown hg fun x e=> .inr (hlow x e)
  exact f2.setCell _ rfl _
theorem PkI.mid(h:PkI W pp ps bm q0 q1 q2 L v vs vI iI w){k:Nat}(hk:k<2){w7:World}(hb:Below w.heap.size w wa)(hg:wa.grownBy w7 (vI k).ownBlock):w7.heap[pp]?=some (.cells (pkc q0 q1 q2 vI) 32 (0,0)):=by
 have hpw:pp<w.heap.size:=(Array.getElem?_eq_some_iff.1 h.box).1;have hsa:=hb.size;refine(hg.block pp (by omega) fun e=>?_).trans ((hb.block pp hpw).trans h.box);have:=((h.idx k hk).lt pp e.symm).1;have:=h.pl;omega
end
def CX(T:Tb)(j:Nat):List (List Int):=if j=0 then zAL T else if j=1 then zAO T else[]
def kX(ka kg j:Nat):Nat:=if j=0 then ka else kg
def LX(T:Tb)(ka kg j:Nat):List (List Int):=zAX ((CX T j).take (kX ka kg j))
def IX(T:Tb)(ka kg j:Nat):List Int:=(idxs (CX T j)).take (kX ka kg j)
theorem zQ3(T:Tb){j:Nat}(h0:¬j=0)(h1:¬j=1):CX T j=[]:=by
 unfold CX;rw[if_neg h0,if_neg h1]
theorem LX_a{T:Tb}{ka kg:Nat}(h:ka<(zAL T).length):upd (LX T ka kg) 0 (putR (LX T ka kg 0) (zAL T)[ka])=LX T (ka+1) kg:=by
 funext j
 unfold upd LX
 by_cases e:j=0
 ·subst e;simp only[CX,kX,if_true];exact(zCC h).symm
 ·simp only[if_neg e,kX]
theorem LX_g{T:Tb}{ka kg:Nat}(h:kg<(zAO T).length):upd (LX T ka kg) 1 (putR (LX T ka kg 1) (zAO T)[kg])=LX T ka (kg+1):=by
 funext j
 unfold upd LX
 by_cases e:j=1
 ·subst e;have h0:¬(1=0):=by decide
  simp only[CX,kX,if_neg h0,if_true];exact(zCC h).symm
 ·simp only[if_neg e]
  by_cases e0:j=0
  ·subst e0
   rfl
  ·rw[zQ3 T e0 e,List.take_nil,List.take_nil]
theorem IX_a{T:Tb}{ka kg:Nat}(h:ka<(zAL T).length):upd (IX T ka kg) 0 (IX T ka kg 0++[(plc (LX T ka kg 0) (zAL T)[ka]:Int)])=IX T (ka+1) kg:=by
 funext j
 unfold upd IX LX
 by_cases e:j=0
 ·subst e;simp only[CX,kX,if_true];exact(zHX h).symm
 ·simp only[if_neg e,kX]
theorem IX_g{T:Tb}{ka kg:Nat}(h:kg<(zAO T).length):upd (IX T ka kg) 1 (IX T ka kg 1++[(plc (LX T ka kg 1) (zAO T)[kg]:Int)])=IX T ka (kg+1):=by
 funext j
 unfold upd IX LX
 by_cases e:j=1
 ·subst e;have h0:¬(1=0):=by decide
  simp only[CX,kX,if_neg h0,if_true];exact(zHX h).symm
 ·simp only[if_neg e]
  by_cases e0:j=0
  ·subst e0
   rfl
  ·rw[zQ3 T e0 e];simp[idxs]
theorem zEJ(T:Tb)(j:Nat):LX T 0 0 j=[]:=by
 unfold LX kX;split<;>simp[zAX]
theorem zOa(T:Tb)(j:Nat):IX T 0 0 j=[]:=by
 unfold IX kX;split<;>simp
theorem zTh(T:Tb)(ka kg j:Nat)(h:(zAL T).length<=100000)(h2:(zAO T).length<=100000):(LX T ka kg j).length<=100000:=by
 unfold LX;refine Nat.le_trans (zBN _) ?_;rw[List.length_take];unfold CX;split
 ·omega
 ·split
  ·omega
  ·simp
theorem zLj(T:Tb){ka kg:Nat}(h:ka<=(zAL T).length)(h2:kg<=(zAO T).length):(IX T ka kg 0).length=ka/\(IX T ka kg 1).length=kg:=by
 have h0:¬(1=0):=by decide
 constructor
 ·unfold IX kX CX;rw[if_pos rfl,if_pos rfl,List.length_take,zAU];omega
 ·unfold IX kX CX;rw[if_neg h0,if_neg h0,if_pos rfl,List.length_take,zAU];omega
theorem zQ5(T:Tb):LX T (zAL T).length (zAO T).length 0=zAX (zAL T)/\LX T (zAL T).length (zAO T).length 1=zAX (zAO T):=by
 have h0:¬(1=0):=by decide
 constructor
 ·unfold LX kX CX;rw[if_pos rfl,if_pos rfl,List.take_length]
 ·unfold LX kX CX;rw[if_neg h0,if_neg h0,if_pos rfl,List.take_length]
theorem zQ4(T:Tb):IX T (zAL T).length (zAO T).length 0=idxs (zAL T)/\IX T (zAL T).length (zAO T).length 1=idxs (zAO T):=by
 have h0:¬(1=0):=by decide
 constructor
 ·unfold IX kX CX;rw[if_pos rfl,if_pos rfl,List.take_of_length_le (by rw[zAU];exact Nat.le_refl _)]
 ·unfold IX kX CX;rw[if_neg h0,if_neg h0,if_pos rfl,List.take_of_length_le (by rw[zAU];exact Nat.le_refl _)]
theorem PkI.rows{W:World}{pp ps bm:Nat}{q0 q1 q2:Value}{L:Nat->List (List Int)}{v:Nat->Value}{vs:Nat->List Value}{vI:Nat->Value}{iI:Nat->List Int}{w:World}(h:PkI W pp ps bm q0 q1 q2 L v vs vI iI w){k:Nat}(hk:k<2)(hs:∀r∈L k,r.length<=100000){a:Option Addr}{n c:Nat}(hv:v k=.slice a n c):zIB a (L k) w:=fun j hj=>by
 obtain⟨u,h1,b,rfl,h2,h3⟩:=(h.dat k hk).2 j hj;have hr:=h.st.row k hk;rw[hv]at hr
 have hn:n=(L k).length:=by
  obtain⟨_,_,e⟩:=Rw.zAH hr;simp only[Value.slice.injEq]at e;exact e.2.1
 subst hn;obtain⟨g,rfl⟩:=zBg hr (by omega);have t0:=World.ownsRow.cells hr (g:=g) rfl j _ h1;rw[WideShapes.add_plain]at t0;have hl:=hs _ (List.getElem_mem hj);exact⟨g,0,some ⟨b,0,none⟩,_,rfl,t0,zBi h2,Nat.le_refl _,by omega⟩
end Pk
namespace Pk
open Gr (Fits boxed)
theorem zFe(T:Tb)(aR:Option Addr)(cR:Nat)(aA:Option Addr)(cA:Nat)(aG:Option Addr)(cG:Nat)(w:World)(D:TAt T aR cR aA cA aG cG w)(S:TSm T)(h0:0<T.rules.length)(ht:0<=T.terms):
  Calls Tryz.prog 55 #[.agg (tvs T aR cR aA cA aG cG)] w (Gr.Is (.bool (zC4 T)) w):=by
 have B1:=zVZ (boxed w (.cells (tvs T aR cR aA cA aG cG) 26));have Z1:=zVZ (zA4 (T:=T) (aR:=aR) (cR:=cR) (aA:=aA) (cA:=cA) (aG:=aG) (cG:=cG) w 26);obtain⟨bR,oR,_,_,rfl,_⟩:=D.rules 0 h0;have DD:=zVZ (fun w1 (b:Below w.heap.size w w1)=>(D.went b).rules);obtain⟨m,hm⟩:∃m,T.rules.length=m+1:=⟨T.rules.length-1,by omega⟩;have FT:=zVZ (fun i (hi:i<m) (e:okL T.terms T.nons (T.rules[i]'(by rw[hm];omega))=false)=>(show zC4 T=false from zAq (L:=T.rules.take (T.rules.length-1)) (i:=i) (by rw[List.length_take];omega) (by rw[List.getElem_take];exact e)));have FE:=zVZ (fun i (h:((T.rules.take (T.rules.length-1)).take i).all (okL T.terms T.nons)=true) (hi:¬i<m)=>(show zC4 T=true from zBC h (by rw[List.length_take];omega)));have ST:=zVZ (fun i (h:((T.rules.take (T.rules.length-1)).take i).all (okL T.terms T.nons)=true) (hi:i<m) (e:okL T.terms T.nons (T.rules[i]'(by rw[hm];omega))=true)=>zBV h (i:=i) (by rw[List.length_take];omega) (by rw[List.getElem_take];exact e));have Z0:=zVZ (zBW (okL T.terms T.nons) (T.rules.take (T.rules.length-1)));have HF:=zVZ (fun i (hi:i<T.rules.length)=>D.fit.left _ (List.getElem_mem hi));obtain⟨Q,hQ⟩:∃Q,T.rules.take (T.rules.length-1)=Q:=⟨_,rfl⟩;rw[hQ]at FE ST Z0;clear hQ;generalize zC4 T=g at*;have hrl:=S.rl;have hc:=D.rc;have hw:IntKind.i64.wrap ((T.rules.length:Int)-1)=(m:Int):=by rw[IntKind.wrap_i64];omega
 have hc2:(m:Int)<=(cR:Int):=by omega
 have hc3:m<=cR:=by omega
 have hlI:(T.rules.length:Int)=(m:Int)+1:=by omega
 have hnf:=D.fit.n;clear D S;have ZQ:=zVZ (fun w' (b:Below (w.alloc (.cells (tvs T (some ⟨bR,oR,none⟩) cR aA cA aG cG) 26)).heap.size (w.alloc (.cells (tvs T (some ⟨bR,oR,none⟩) cR aA cA aG cG) 26)) w')=>Z1.out.went b);unfold TBox at Z1 ZQ;unfold tvs at*;rw[hm]at B1 Z1⊢;simp only[hm]at ZQ;obtain⟨z0,z1,z2,z3,z4⟩:=Z1.out;go_enter Tryz.func55,Tryz.ntmps55;go_wp2_with fail;generalize w.alloc (.cells #[.slice (some ⟨bR,oR,none⟩) (m+1) cR,.int .i64 T.terms,.int .i64 T.nons,.slice aA T.acts.length cA,.slice aG T.goto.length cG] 26)=w2 at*;clear z0 z1 z2 z3 z4;go_loopw [13] (fun v wr=>∃i:Nat,v=.int .i64 (i:Int)/\i<=m/\(Q.take i).all (okL T.terms T.nons)=true/\Below w2.heap.size w2 wr) (fun v _=>m-(intOf v).toNat)
 case atStart=>exact⟨0,rfl,Nat.zero_le _,Z0.out,.refl _ _⟩
 case round=>
  obtain⟨i,rfl,hi,hA,hB⟩:=hrel;have A:=zVZ hA;have B:=zVZ hB;clear hB hA
  by_cases hlt:i<m
  ·have BW:=zVZ (Gr.step B1.out B.out);obtain⟨b,o,a3,c3,e,p0,p1,_,_⟩:=DD.out wr BW.out i (by omega);simp only[Option.some.injEq,Addr.mk.injEq,and_true]at e;obtain⟨rfl,rfl⟩:=e;have hil:(i:Int)<(m:Int):=by omega
   have FTi:=zVZ (FT.out i hlt);have STi:=zVZ (ST.out i A.out hlt);have hf:=HF.out i (by omega);generalize T.rules[i]=r at*;obtain⟨x,l⟩:=r;dsimp only at p0 p1 hf;have BN:=zVZ (Gr.step B.out (boxed wr (.cells #[.int .i64 x,.slice a3 l.length c3] 55)));obtain⟨z0,z1,z2,z3,z4⟩:=ZQ.out _ BN.out;have BE:=zVZ (Gr.step B1.out BN.out);unfold Fits at hf
   by_cases h1:x<=T.terms
   ·have F2:=zVZ (FTi.out (decide_eq_false (by dsimp only;omega)));clear FTi STi;go_wp2_with fail;go_ret;exact⟨Gr.zAF F2.out,BE.out⟩
   ·have h4:IntKind.i64.wrap (x-T.terms)=x-T.terms:=by rw[IntKind.wrap_i64];omega
    by_cases h5:T.nons<x-T.terms
    ·have F2:=zVZ (FTi.out (decide_eq_false (by dsimp only;omega)));clear FTi STi;go_wp2_with fail;go_ret;exact⟨Gr.zAF F2.out,BE.out⟩
    ·have S2:=zVZ (STi.out (decide_eq_true (by dsimp only;omega)));clear FTi STi;go_wp2_with fail;go_roundw
     case rel=>exact⟨i+1,by go_num,by omega,S2.out,BN.out⟩
     case measure=>first|(simp[intOf];omega)|omega
  ·have F2:=zVZ (FE.out i A.out hlt);obtain rfl:i=m:=by omega
   go_wp2;go_ret;exact⟨Gr.zAF F2.out,Gr.step B1.out B.out⟩
end Pk
namespace Pk
open Gr (boxed)
theorem zHz(T:Tb)(aR:Option Addr)(cR:Nat)(aA:Option Addr)(cA:Nat)(aG:Option Addr)(cG:Nat)(w:World)(D:TAt T aR cR aA cA aG cG w)(S:TSm T):
  Calls Tryz.prog 20 #[.agg (tvs T aR cR aA cA aG cG)] w (Gr.Is (.bool (zAJ T)) w):=by
 have B1:=zVZ (boxed w (.cells (tvs T aR cR aA cA aG cG) 26));have Z1:=zVZ (zA4 (T:=T) (aR:=aR) (cR:=cR) (aA:=aA) (cA:=cA) (aG:=aG) (cG:=cG) w 26);have R1:=zVZ (fun w1 (b:Below w.heap.size w w1)=>zGn T aR cR aA cA aG cG w1 (D.went b) S);have R2:=zVZ (fun w1 (b:Below w.heap.size w w1)=>zEF T aR cR aA cA aG cG w1 (D.went b) S);have R3:=zVZ (fun(h0:0<T.rules.length) (ht:0<=T.terms) w1 (b:Below w.heap.size w w1)=>zFe T aR cR aA cA aG cG w1 (D.went b) S h0 ht);have RB:=zVZ (show zAJ T=(zKv T&&(zFT T&&(zFZ T&&zC4 T)))from rfl);have hrl:=S.rl;have hal:=S.al;have hgl:=S.gl;generalize zAJ T=g at*;clear D S;obtain⟨z0,z1,z2,z3,z4⟩:=Z1.out;have bad:zKv T=false->g=false:=fun h=>by rw[RB.out,h];rfl
 have HD:=zVZ (fun(h:¬(0<T.rules.length/\0<T.acts.length/\T.goto.length=T.acts.length/\0<=T.terms/\0<=T.nons))=>bad (decide_eq_false h));clear bad
 by_cases h1:T.rules.length=0
 ·have F2:=zVZ (HD.out (by omega));have g0:((T.rules.length:Int)==0)=true:=by rw[beq_iff_eq];omega
  clear h1;unfold tvs at*;go_enter Tryz.func20,Tryz.ntmps20;go_wp2_with fail;go_ret;exact⟨Gr.zAF F2.out,B1.out⟩
 have g0:((T.rules.length:Int)==0)=false:=by rw[beq_eq_false_iff_ne];omega
 by_cases h2:T.acts.length=0
 ·have F2:=zVZ (HD.out (by omega));have g1:((T.acts.length:Int)==0)=true:=by rw[beq_iff_eq];omega
  clear h1 h2;unfold tvs at*;go_enter Tryz.func20,Tryz.ntmps20;go_wp2_with fail;go_ret;exact⟨Gr.zAF F2.out,B1.out⟩
 have g1:((T.acts.length:Int)==0)=false:=by rw[beq_eq_false_iff_ne];omega
 by_cases h3:T.goto.length=T.acts.length
 rotate_left
 ·have F2:=zVZ (HD.out (by omega));have g2:((T.goto.length:Int) != (T.acts.length:Int))=true:=by rw[bne_iff_ne];omega
  clear h1 h2 h3;unfold tvs at*;go_enter Tryz.func20,Tryz.ntmps20;go_wp2_with fail;go_ret;exact⟨Gr.zAF F2.out,B1.out⟩
 have g2:((T.goto.length:Int) != (T.acts.length:Int))=false:=by rw[h3];simp
 have H3:=zVZ h3;clear h3
 by_cases h4:T.terms<0
 ·have F2:=zVZ (HD.out (by omega));unfold tvs at*;go_enter Tryz.func20,Tryz.ntmps20;go_wp2_with fail;go_ret;exact⟨Gr.zAF F2.out,B1.out⟩
 by_cases h5:T.nons<0
 ·have F2:=zVZ (HD.out (by omega));unfold tvs at*;go_enter Tryz.func20,Tryz.ntmps20;go_wp2_with fail;go_ret;exact⟨Gr.zAF F2.out,B1.out⟩
 have RR:=zVZ (R3.out (by omega) (by omega));have RC:=zVZ (show g=(zFT T&&(zFZ T&&zC4 T))by rw[RB.out,show zKv T=true from decide_eq_true ⟨by omega,by omega,H3.out,by omega,by omega⟩];rfl);generalize zFT T=ga at*;generalize zFZ T=gg at*;generalize zC4 T=gr at*;clear RB HD R3;unfold tvs at*;go_enter Tryz.func20,Tryz.ntmps20;go_wp2_with fail;generalize w.alloc (.cells #[.slice aR T.rules.length cR,.int .i64 T.terms,.int .i64 T.nons,.slice aA T.acts.length cA,.slice aG T.goto.length cG] 26)=w2 at*;refine(R1.out _ B1.out).mono ?_;rintro e w3 ⟨rfl,hb3⟩;have B3:=zVZ (Gr.step B1.out hb3);have Z3:=zVZ (Z1.out.went hb3);clear z0 z1 z2 z3 z4 hb3 Z1 B1 R1;obtain⟨z0,z1,z2,z3,z4⟩:=Z3.out;cases ga with
 |false=>
  have F2:=zVZ (show g=false by rw[RC.out];rfl);go_wp2_with fail;go_ret;exact⟨Gr.zAF F2.out,B3.out⟩
 |true=>
  go_wp2_with fail;refine(R2.out _ B3.out).mono ?_;rintro e w4 ⟨rfl,hb4⟩;have B4:=zVZ (Gr.step B3.out hb4);have Z4:=zVZ (Z3.out.went hb4);clear z0 z1 z2 z3 z4 hb4 Z3 B3 R2;obtain⟨z0,z1,z2,z3,z4⟩:=Z4.out;cases gg with
  |false=>
   have F2:=zVZ (show g=false by rw[RC.out];rfl);go_wp2_with fail;go_ret;exact⟨Gr.zAF F2.out,B4.out⟩
  |true=>
   go_wp2_with fail;refine(RR.out _ B4.out).mono ?_;rintro e w5 ⟨rfl,hb5⟩;have B5:=zVZ (Gr.step B4.out hb5);have F2:=zVZ (show g=gr by rw[RC.out];rfl);clear hb5;go_wp2;go_ret;exact⟨Gr.zAF F2.out,B5.out⟩
end Pk
namespace Pk
open Gr (boxed)
open Go.Proofs.YtkcaedinfnajaaaGreatDoor.Sep (Fr)
def zCF(T:Tb)(w:World)(e:Ending)(w':World):Prop:=
 ∃aR cR aW cW aX cX aG cG aH cH,e=.returned (.tuple #[.agg (pvs (zBa T).1 aR cR aW cW aX cX aG cG aH cH),.bool (zBa T).2])/\PAt (zBa T).1 aR cR aW cW aX cX aG cG aH cH w'/\Below w.heap.size w w'
def nils:Array Value:=#[.slice none 0 0,.int .i64 0,.int .i64 0,.slice none 0 0,.slice none 0 0,.slice none 0 0,.slice none 0 0]
theorem pat0(w:World):PAt pd0 none 0 none 0 none 0 none 0 none 0 w:=by
 refine⟨fun i hi=>absurd hi (Nat.not_lt_zero _),.nil _ _,.nil _ _ _,.nil _ _,.nil _ _ _,?_,?_,?_,?_,?_,?_,?_,?_,?_,?_,⟨?_,?_,?_,?_,?_,?_,?_,?_⟩⟩
 all_goals first|(simp[pd0];done)|(unfold Gr.Fits pd0;dsimp only;omega)
theorem zSo{T:Tb}(h:mayP T=false){w w':World}(hb:Below w.heap.size w w'):zCF T w (.returned (.tuple #[.agg nils,.bool false])) w':=by
 have e:zBa T=(pd0,false):=if_neg (by rw[h];decide);rw[zCF,e];exact⟨none,0,none,0,none,0,none,0,none,0,rfl,pat0 w',hb⟩
def set7(w:World)(p:Nat)(v0 v1 v2 v3 v4 v5 v6:Value):World:=((((((w.setCell ⟨p,0,none⟩ v0).setCell ⟨p,1,none⟩ v1).setCell ⟨p,2,none⟩ v2).setCell ⟨p,3,none⟩ v3).setCell ⟨p,4,none⟩ v4).setCell ⟨p,5,none⟩ v5).setCell ⟨p,6,none⟩ v6
theorem zH3{w:World}{p:Nat}{u0 u1 u2 u3 u4 u5 u6 v0 v1 v2 v3 v4 v5 v6:Value}{T:TypeId}(h:w.heap[p]?=some (.cells #[u0,u1,u2,u3,u4,u5,u6] T (0,0))):
  (((((((w.setCell ⟨p,0,none⟩ v0).setCell ⟨p,1,none⟩ v1).setCell ⟨p,2,none⟩ v2).setCell ⟨p,3,none⟩ v3).setCell ⟨p,4,none⟩ v4).setCell ⟨p,5,none⟩ v5).setCell ⟨p,6,none⟩ v6).heap[p]?=some (.cells #[v0,v1,v2,v3,v4,v5,v6] T (0,0)):=by
 rw[zAP (k:=6) (zAP (k:=5) (zAP (k:=4) (zAP (k:=3) (zAP (k:=2) (zAP (k:=1) (zAP (k:=0) h _) _) _) _) _) _)]
 rfl
theorem zF9{w:World}{p:Nat}{u0 u1 u2 u3 u4 u5 u6:Value}{T:TypeId}(h:w.heap[p]?=some (.cells #[u0,u1,u2,u3,u4,u5,u6] T (0,0)))(v0 v1 v2 v3 v4 v5 v6:Value):
  (set7 w p v0 v1 v2 v3 v4 v5 v6).cell? ⟨p,0,none⟩=some v0/\(set7 w p v0 v1 v2 v3 v4 v5 v6).cell? ⟨p,1,none⟩=some v1/\(set7 w p v0 v1 v2 v3 v4 v5 v6).cell? ⟨p,2,none⟩=some v2/\(set7 w p v0 v1 v2 v3 v4 v5 v6).cell? ⟨p,3,none⟩=some v3/\
   (set7 w p v0 v1 v2 v3 v4 v5 v6).cell? ⟨p,4,none⟩=some v4/\(set7 w p v0 v1 v2 v3 v4 v5 v6).cell? ⟨p,5,none⟩=some v5/\(set7 w p v0 v1 v2 v3 v4 v5 v6).cell? ⟨p,6,none⟩=some v6:=by
 have hh:(set7 w p v0 v1 v2 v3 v4 v5 v6).heap[p]?=some (.cells #[v0,v1,v2,v3,v4,v5,v6] T (0,0)):=zH3 h;exact⟨zAA hh (k:=0) (by simp),zAA hh (k:=1) (by simp),zAA hh (k:=2) (by simp),zAA hh (k:=3) (by simp),zAA hh (k:=4) (by simp),zAA hh (k:=5) (by simp),zAA hh (k:=6) (by simp)⟩
theorem zI1(w:World)(p:Nat)(v0 v1 v2 v3 v4 v5 v6:Value):Fr (fun x=>x=p) w (((((((w.setCell ⟨p,0,none⟩ v0).setCell ⟨p,1,none⟩ v1).setCell ⟨p,2,none⟩ v2).setCell ⟨p,3,none⟩ v3).setCell ⟨p,4,none⟩ v4).setCell ⟨p,5,none⟩ v5).setCell ⟨p,6,none⟩ v6):=
 (((((((Fr.refl (fun x=>x=p) w).setCell ⟨p,0,none⟩ rfl _).setCell ⟨p,1,none⟩ rfl _).setCell ⟨p,2,none⟩ rfl _).setCell ⟨p,3,none⟩ rfl _).setCell ⟨p,4,none⟩ rfl _).setCell ⟨p,5,none⟩ rfl _).setCell ⟨p,6,none⟩ rfl _
theorem zCm{q:Nat}{W X:World}(h:Below W.heap.size W X)(hq:W.heap.size<=q)(v0 v1 v2 v3 v4 v5 v6:Value):Below W.heap.size W (((((((X.setCell ⟨q,0,none⟩ v0).setCell ⟨q,1,none⟩ v1).setCell ⟨q,2,none⟩ v2).setCell ⟨q,3,none⟩ v3).setCell ⟨q,4,none⟩ v4).setCell ⟨q,5,none⟩ v5).setCell ⟨q,6,none⟩ v6):=
 h.trans ((zI1 X q v0 v1 v2 v3 v4 v5 v6).below (fun x hx=>by omega) h.size)
theorem kept_alloc{w wa:World}{cs:Array Value}{T:TypeId}(h:Below (w.alloc (.cells cs T)).drew.heap.size (w.alloc (.cells cs T)).drew wa):wa.heap[w.heap.size]?=some (.cells cs T (0,0)):=
 (h.block w.heap.size (by change w.heap.size<(w.alloc (.cells cs T)).heap.size;rw[World.size_alloc];exact Nat.lt_succ_self _)).trans (zAm w _)
structure PkB (T:Tb) (W:World) (b p:Nat) (w5:World):Prop where
 box:w5.heap[p]?=some (.cells (pkc (.slice (some ⟨b,0,none⟩) T.rules.length T.rules.length) (.int .i64 T.terms) (.int .i64 T.nons) fun _=> .slice none 0 0) 32 (0,0))
 pl:p<w5.heap.size
 lo:W.heap.size<=p
 below:Below W.heap.size W w5
 rules:∀w',Fr (fun x=>x=p\/x<W.heap.size) w5 w'->RulA (some ⟨b,0,none⟩) T.rules w'
theorem PkB.after{T:Tb}{W w1 we:World}{b:Nat}(h:Below W.heap.size W we)(hw:W.heap.size<=w1.heap.size)(hr:∀w2,(∀g,w1.heap.size<=g->g<we.heap.size->w2.heap[g]?=we.heap[g]?)->RulA (some ⟨b,0,none⟩) T.rules w2):
  PkB T W b we.heap.size (we.alloc (.cells #[.slice (some ⟨b,0,none⟩) T.rules.length T.rules.length,.int .i64 T.terms,.int .i64 T.nons,.slice none 0 0,.slice none 0 0,.slice none 0 0,.slice none 0 0] 32)):=by
 refine⟨zAm _ _,?_,h.size,Gr.step h (boxed _ _),fun w' hf=>hr w' fun g h1 h2=>?_⟩
 ·rw[World.size_alloc];exact Nat.lt_succ_self _
 ·refine(hf.block g (by rw[World.size_alloc];omega) (by omega)).trans ?_;exact(boxed we _).block g h2
theorem PkB.ahead{T:Tb}{W w1 we:World}{b:Nat}{u0 u1 u2 u3 u4 u5 u6:Value}(h:Below W.heap.size W we)(hw:W.heap.size<w1.heap.size)(kb:we.heap[W.heap.size]?=some (.cells #[u0,u1,u2,u3,u4,u5,u6] 32 (0,0)))(hr:∀w2,(∀g,w1.heap.size<=g->g<we.heap.size->w2.heap[g]?=we.heap[g]?)->RulA (some ⟨b,0,none⟩) T.rules w2):
  PkB T W b W.heap.size (((((((we.setCell ⟨W.heap.size,0,none⟩ (.slice (some ⟨b,0,none⟩) T.rules.length T.rules.length)).setCell ⟨W.heap.size,1,none⟩ (.int .i64 T.terms)).setCell ⟨W.heap.size,2,none⟩ (.int .i64 T.nons)).setCell ⟨W.heap.size,3,none⟩ (.slice none 0 0)).setCell ⟨W.heap.size,4,none⟩ (.slice none 0 0)).setCell ⟨W.heap.size,5,none⟩ (.slice none 0 0)).setCell ⟨W.heap.size,6,none⟩ (.slice none 0 0)):=by
 have f:=zI1 we W.heap.size (.slice (some ⟨b,0,none⟩) T.rules.length T.rules.length) (.int .i64 T.terms) (.int .i64 T.nons) (.slice none 0 0) (.slice none 0 0) (.slice none 0 0) (.slice none 0 0);refine⟨zH3 kb,Nat.lt_of_lt_of_le (Array.getElem?_eq_some_iff.1 kb).1 f.size,Nat.le_refl _,zCm h (Nat.le_refl _) _ _ _ _ _ _ _,fun w' hf=>hr w' fun g h1 h2=>?_⟩;exact(hf.block g (Nat.lt_of_lt_of_le h2 f.size) (by omega)).trans (f.block g h2 (by omega))
theorem zKk(T:Tb):(zAL T).length=T.acts.length:=by simp[zAL]
theorem zKl(T:Tb):(zAO T).length=T.goto.length:=by simp[zAO]
theorem zTt{T:Tb}(h:Pt T)(S:TSm T){i:Nat}(hi:i<T.acts.length):CdR (T.acts[i].map zBR):=by
 have hm:=List.getElem_mem hi;refine⟨fun c hc=>?_,by rw[List.length_map];exact S.ar _ hm⟩;obtain⟨x,hx,rfl⟩:=List.mem_map.1 hc;exact(zDI ((h.acts _ hm).2 x hx) h.a1 h.r1).2.1
theorem zTu{T:Tb}(h:Pt T)(S:TSm T){i:Nat}(hi:i<T.goto.length):CdR (T.goto[i].map zBt):=by
 have hm:=List.getElem_mem hi;refine⟨fun c hc=>?_,by rw[List.length_map];exact S.gr _ hm⟩;obtain⟨x,hx,rfl⟩:=List.mem_map.1 hc;exact(zJt ((h.goto _ hm).2 x hx) h.a1).1
theorem zNl{T:Tb}{W w5:World}{b p:Nat}(h:PkB T W b p w5){wa wb:World}(hs:wa=w5.alloc (.map #[] 0))(hb:wb=wa.alloc (.cells #[.map (some w5.heap.size),.slice none 0 0,.slice none 0 0] 60)):
  PkI w5 p (w5.heap.size+1) w5.heap.size (.slice (some ⟨b,0,none⟩) T.rules.length T.rules.length) (.int .i64 T.terms) (.int .i64 T.nons) (LX T 0 0) (fun _=> .slice none 0 0) (fun _=>[]) (fun _=> .slice none 0 0) (IX T 0 0) wb:=by
 subst hs hb;have hs1:(w5.alloc (.map #[] 0)).heap.size=w5.heap.size+1:=World.size_alloc _ _;have b1:=boxed w5 (.map #[] 0);have b2:=boxed (w5.alloc (.map #[] 0)) (.cells #[.map (some w5.heap.size),.slice none 0 0,.slice none 0 0] 60);have hpl:=h.pl;refine⟨((Gr.step b1 b2).block p hpl).trans h.box,hpl,⟨?_,⟨0,fun _=>none,Nat.zero_le _,?_,?_⟩,fun k hk=>?_,fun g e=>(by cases e),by omega,Nat.le_refl _⟩,fun k hk=>?_,fun g e=>(by cases e),fun k hk=>?_,.of_below (Gr.step b1 b2)⟩
 ·have:=zAm (w5.alloc (.map #[] 0)) (.cells #[.map (some w5.heap.size),.slice none 0 0,.slice none 0 0] 60)
  rwa [hs1]at this
 ·exact(RMap.made w5 _ _ _).keep (b2.block _ (by omega))
 ·rw[zEJ,zEJ];exact told_none
 ·rw[zEJ];exact World.ownsRow_nil _ _ _ _
 ·rw[zOa];exact World.ownsRow_nil _ _ _ _
 ·rw[zEJ];exact⟨rfl,fun j hj=>absurd hj (Nat.not_lt_zero _)⟩
end Pk
namespace Pk
open Go.Proofs.YtkcaedinfnajaaaGreatDoor.Sep (Fr)
theorem zNh{T:Tb}(h:Pt T)(S:TSm T)(hf:TFit T){W w5 wb:World}{b p:Nat}(hB:PkB T W b p w5){v vI:Nat->Value}{vs:Nat->List Value}
  (hI:PkI w5 p (w5.heap.size+1) w5.heap.size (.slice (some ⟨b,0,none⟩) T.rules.length T.rules.length) (.int .i64 T.terms) (.int .i64 T.nons) (LX T T.acts.length T.acts.length) v vs vI (IX T T.acts.length T.acts.length) wb)
  {aW aX aG aH:Option Addr} {cW nX cX cG nH cH:Nat} (e0:v 0=.slice aX nX cX) (e1:v 1=.slice aH nH cH) (i0:vI 0=.slice aW T.acts.length cW) (i1:vI 1=.slice aG T.acts.length cG) {w':World} (hw:Fr (fun x=>x=p\/x<W.heap.size) wb w'):
  nX=(zAx T).rows.length/\nH=(zAx T).gows.length/\T.acts.length=(zAx T).row.length/\T.acts.length=(zAx T).gow.length/\PAt (zAx T) (some ⟨b,0,none⟩) T.rules.length aW cW aX cX aG cG aH cH w':=by
 have hga:=h.ga;have hA:(zAL T).length=T.acts.length:=by simp[zAL]
 have hG:(zAO T).length=T.acts.length:=by simp[zAO,hga]
 have l0:LX T T.acts.length T.acts.length 0=zAX (zAL T):=by
  have:=(zQ5 T).1
  rwa [hA,hG]at this
 have l1:LX T T.acts.length T.acts.length 1=zAX (zAO T):=by
  have:=(zQ5 T).2
  rwa [hA,hG]at this
 have x0:IX T T.acts.length T.acts.length 0=idxs (zAL T):=by
  have:=(zQ4 T).1
  rwa [hA,hG]at this
 have x1:IX T T.acts.length T.acts.length 1=idxs (zAO T):=by
  have:=(zQ4 T).2
  rwa [hA,hG]at this
 have hs0:∀r∈zAX (zAL T),CdR r:=fun r hr=>by
  rw[zCB]at hr;obtain⟨i,hi,rfl⟩:=List.mem_iff_getElem.1 hr;have hi':i<T.acts.length:=by rw[←hA];exact hi
  have:=zTt h S hi'
  simpa[zAL]using this
 have hs1:∀r∈zAX (zAO T),CdR r:=fun r hr=>by
  rw[zCB]at hr;obtain⟨i,hi,rfl⟩:=List.mem_iff_getElem.1 hr;have hi':i<T.goto.length:=by rw[hga,←hG];exact hi
  have:=zTu h S hi'
  simpa[zAO]using this
 have r0:=hI.st.row 0 (by decide);have r1:=hI.st.row 1 (by decide);have y0:=hI.idx 0 (by decide);have y1:=hI.idx 1 (by decide);have A0:=hI.rows (k:=0) (by decide) (fun r hr=>(hs0 r (by rw[←l0];exact hr)).2) e0;have A1:=hI.rows (k:=1) (by decide) (fun r hr=>(hs1 r (by rw[←l1];exact hr)).2) e1;rw[l0]at A0 r0;rw[l1]at A1 r1;rw[x0]at y0;rw[x1]at y1;rw[e0]at r0;rw[e1]at r1;rw[i0,zAU,hA]at y0;rw[i1,zAU,hG]at y1
 have cap:∀{lo:Nat} {U:TypeId} {n m c:Nat} {a:Option Addr} {xs:List Value},wb.ownsRow lo U 1 (.slice a n c) m xs->n=m/\n<=c:=fun hr=>by
  rcases hr.2 with⟨h1,h2⟩|⟨_,_,_,h1,_,_,h2,_⟩
  ·simp only[Value.slice.injEq]at h1;omega
  ·simp only[Value.slice.injEq]at h1;omega
 have c0:=cap r0;have c1:=cap r1;have c2:=cap y0;have c3:=cap y1
 have hlt:∀g,w5.heap.size<=g->¬(g=p\/g<W.heap.size):=fun g hg e=>by
  have:=hB.pl;have:=hB.lo;omega
 have below5:∀{lo:Nat} {U:TypeId} {n c:Nat} {a:Option Addr} {xs:List Value},wb.ownsRow w5.heap.size U 1 (.slice a n c) n xs->Sep.Reads a xs w':=fun hr=>(Sep.Reads.of_row hr).keep fun b' o e=>by
  subst e;have:=hr.lt b' rfl;exact hw.block b' this.2 (hlt _ this.1)
 have codes:∀{X:List (List Int)} {a:Option Addr} {k:Nat},k<2->zIB a X wb->(∀j (hj:j<X.length),∃u,(vs k)[j]?=some u/\Dat w5.heap.size X[j] u wb)->wb.ownsRow w5.heap.size 62 1 (v k) X.length (vs k)->∀{n c},v k=.slice a n c->zIB a X w':=fun {X a k} hk hc hd hr {n c} hv j hj=>by
  obtain⟨g,o,ra,rc,e,h1,h2,h3,h4⟩:=hc j hj;obtain⟨u,d1,b',d2,d3,d4⟩:=hd j hj;rw[hv]at hr;have hn:n=X.length:=(cap hr).1;subst hn;subst e;have hgl:=hr.lt g rfl;have t0:=World.ownsRow.cells hr (g:=g);obtain⟨g',hg'⟩:=zBg hr (by omega);simp only[Option.some.injEq,Addr.mk.injEq]at hg';obtain⟨rfl,rfl,_⟩:=hg';have t0:=World.ownsRow.cells hr (g:=g) rfl j _ d1;rw[WideShapes.add_plain]at t0;rw[t0]at h1;injection h1 with h1
  rw[d2]at h1;simp only[Value.slice.injEq]at h1;refine⟨g,0,ra,rc,rfl,hw.cell (p:=⟨g,0+j,none⟩) (by rw[t0,d2,←h1.1,←h1.2.2]) (hlt g hgl.1),?_,h3,h4⟩;rw[←h1.1];exact zBi ((hw.block b' (Array.getElem?_eq_some_iff.1 d3).1 (hlt b' d4)).trans d3)
 have hd0:=(hI.dat 0 (by decide)).2;have hd1:=(hI.dat 1 (by decide)).2;rw[l0]at hd0;rw[l1]at hd1;have rr0:=hI.st.row 0 (by decide);have rr1:=hI.st.row 1 (by decide);rw[l0]at rr0;rw[l1]at rr1;have hpl0:=zBN (zAL T);have hpl1:=zBN (zAO T);have hal:=S.al;have hrl:=S.rl;refine⟨c0.1,c1.1,by simp[zAx,zAU,hA],by simp[zAx,zAU,hG],?_⟩;refine⟨hB.rules w' ((hI.fr.mono fun x hx=> .inl hx).trans hw fun x hx=> .inl hx),below5 (lo:=0) y0,codes (k:=0) (by decide) A0 hd0 rr0 e0,below5 (lo:=0) y1,codes (k:=1) (by decide) A1 hd1 rr1 e1,Nat.le_refl _,?_,?_,?_,?_,?_,?_,?_,?_,?_,⟨hf.t,hf.n,hf.left,hf.right,?_,?_,fun r hr=>(hs0 r hr).1,fun r hr=>(hs1 r hr).1⟩⟩
 ·show(idxs (zAL T)).length<=cW;rw[zAU,hA];exact c2.2
 ·show(zAX (zAL T)).length<=cX;omega
 ·show(idxs (zAO T)).length<=cG;rw[zAU,hG];exact c3.2
 ·show(zAX (zAO T)).length<=cH;omega
 ·show T.rules.length<= _;omega
 ·show(idxs (zAL T)).length<= _;rw[zAU];omega
 ·show(zAX (zAL T)).length<= _;omega
 ·show(idxs (zAO T)).length<= _;rw[zAU];omega
 ·show(zAX (zAO T)).length<= _;omega
 ·intro x hx;obtain⟨i,_,rfl⟩:=List.mem_map.1 hx;have:=zNo (zAX ((zAL T).take i)) ((zAL T).getD i []);have:=zBN ((zAL T).take i);have:((zAL T).take i).length<=(zAL T).length:=by rw[List.length_take];omega
  unfold Gr.Fits;omega
 ·intro x hx;obtain⟨i,_,rfl⟩:=List.mem_map.1 hx;have:=zNo (zAX ((zAO T).take i)) ((zAO T).getD i []);have:=zBN ((zAO T).take i);have:((zAO T).take i).length<=(zAO T).length:=by rw[List.length_take];omega
  unfold Gr.Fits;omega
end Pk
namespace Pk
open Gr (boxed)
theorem zSy(T:Tb)(aR:Option Addr)(cR:Nat)(aA:Option Addr)(cA:Nat)(aG:Option Addr)(cG:Nat)(w:World)(D:TAt T aR cR aA cA aG cG w)(S:TSm T)(hm:mayP T=false):
  Calls Tryz.prog 7 #[.agg (tvs T aR cR aA cA aG cG)] w (zCF T w):=by
 have NO:=zVZ (fun(w':World) (hb:Below w.heap.size w w')=>zSo hm hb);have RI:=zVZ (fun w1 (b:Below w.heap.size w w1)=>zHz T aR cR aA cA aG cG w1 (D.went b) S);have b1:=boxed w (.cells (tvs T aR cR aA cA aG cG) 26);have b2:=boxed (w.alloc (.cells (tvs T aR cR aA cA aG cG) 26)) (.cells nils 32);have B2:=zVZ (Gr.step b1 b2);have Z2:=zVZ ((zA4 (T:=T) (aR:=aR) (cR:=cR) (aA:=aA) (cA:=cA) (aG:=aG) (cG:=cG) w 26).went b2);have Y2:=zVZ (zAm (w.alloc (.cells (tvs T aR cR aA cA aG cG) 26)) (.cells nils 32));rw[World.size_alloc]at Y2;have hal:=S.al;have hrl:=S.rl
 have HM:=zVZ (show¬(T.acts.length<=16383/\T.rules.length<=16383)\/zAJ T=false from by
  unfold mayP at hm;rw[Bool.and_eq_false_iff,decide_eq_false_iff_not]at hm
  exact hm)
 clear b1 b2 D S hm;unfold tvs nils at*
 by_cases h1:16383<T.acts.length
 ·have h1':(16383:Int)<(T.acts.length:Int):=by omega
  clear HM RI Z2 Y2;go_enter Tryz.func7,Tryz.ntmps7;go_wp2;exact bodyPost_ret (v:=.tuple #[.agg #[.slice none 0 0,.int .i64 0,.int .i64 0,.slice none 0 0,.slice none 0 0,.slice none 0 0,.slice none 0 0],.bool false]) (by simp[results,Tryz.results7,go_sem]) rfl (NO.out _ B2.out)
 have h1':¬(16383:Int)<(T.acts.length:Int):=by omega
 by_cases h2:16383<T.rules.length
 ·have h2':(16383:Int)<(T.rules.length:Int):=by omega
  clear HM RI Z2 Y2;go_enter Tryz.func7,Tryz.ntmps7;go_wp2;exact bodyPost_ret (v:=.tuple #[.agg #[.slice none 0 0,.int .i64 0,.int .i64 0,.slice none 0 0,.slice none 0 0,.slice none 0 0,.slice none 0 0],.bool false]) (by simp[results,Tryz.results7,go_sem]) rfl (NO.out _ B2.out)
 have h2':¬(16383:Int)<(T.rules.length:Int):=by omega
 have hr:zAJ T=false:=by
  rcases HM.out with h|h
  ·omega
  ·exact h
 rw[hr]at RI;obtain⟨z0,z1,z2,z3,z4⟩:=Z2.out;go_enter Tryz.func7,Tryz.ntmps7;go_wp2_with fail;generalize (w.alloc (.cells #[.slice aR T.rules.length cR,.int .i64 T.terms,.int .i64 T.nons,.slice aA T.acts.length cA,.slice aG T.goto.length cG] 26)).alloc (.cells #[.slice none 0 0,.int .i64 0,.int .i64 0,.slice none 0 0,.slice none 0 0,.slice none 0 0,.slice none 0 0] 32)=w2 at*;refine(RI.out _ B2.out).mono ?_;rintro e w3 ⟨rfl,hb3⟩;have B3:=zVZ (Gr.step B2.out hb3);have Y3:=(hb3.block _ (Array.getElem?_eq_some_iff.1 Y2.out).1).trans Y2.out;have y0:=zAA Y3 (k:=0) (by simp);have y1:=zAA Y3 (k:=1) (by simp);have y2:=zAA Y3 (k:=2) (by simp);have y3:=zAA Y3 (k:=3) (by simp);have y4:=zAA Y3 (k:=4) (by simp);have y5:=zAA Y3 (k:=5) (by simp);have y6:=zAA Y3 (k:=6) (by simp);have f0:=zAK (k:=0) Y3;have f1:=zAK (k:=1) Y3;have f2:=zAK (k:=2) Y3;have f3:=zAK (k:=3) Y3;have f4:=zAK (k:=4) Y3;have f5:=zAK (k:=5) Y3;have f6:=zAK (k:=6) Y3;have EE:=zVZ (zF9 Y3 (.slice none 0 0) (.int .i64 0) (.int .i64 0) (.slice none 0 0) (.slice none 0 0) (.slice none 0 0) (.slice none 0 0));have E2:=zVZ (NO.out (set7 w3 (w.heap.size+1) (.slice none 0 0) (.int .i64 0) (.int .i64 0) (.slice none 0 0) (.slice none 0 0) (.slice none 0 0) (.slice none 0 0)) (zCm B3.out (Nat.le_succ _) _ _ _ _ _ _ _));clear z0 z1 z2 z3 z4 hb3 Y2 Z2 B2 RI NO Y3;go_wp2;change bodyPost _ _ _ _ _ (set7 w3 (w.heap.size+1) (.slice none 0 0) (.int .i64 0) (.int .i64 0) (.slice none 0 0) (.slice none 0 0) (.slice none 0 0) (.slice none 0 0));obtain⟨e0,e1,e2,e3,e4,e5,e6⟩:=EE.out;generalize set7 w3 (w.heap.size+1) (.slice none 0 0) (.int .i64 0) (.int .i64 0) (.slice none 0 0) (.slice none 0 0) (.slice none 0 0) (.slice none 0 0)=wE at*;exact bodyPost_ret (v:=.tuple #[.agg #[.slice none 0 0,.int .i64 0,.int .i64 0,.slice none 0 0,.slice none 0 0,.slice none 0 0,.slice none 0 0],.bool false]) (by simp[results,Tryz.results7,go_sem,e0,e1,e2,e3,e4,e5,e6]) rfl E2.out
end Pk
namespace Pk
open Gr (cell_later boxed drawn ivs zAz)
open Go.Proofs.YtkcaedinfnajaaaGreatDoor.Sep (Fr)
theorem zJl(w:World):(Instr.makeMap 57 none).run Tryz.prog w=.ok (.map (some w.heap.size)) (w.alloc (.map #[] 0)):=by kernel_rfl
theorem zCl(w:World)(o:Obj):Below w.heap.size w (w.alloc o).drew:=Gr.step (boxed w o) (drawn _)
theorem zJy(T:Tb)(aR:Option Addr)(cR:Nat)(aA:Option Addr)(cA:Nat)(aG:Option Addr)(cG:Nat)(w:World)(D:TAt T aR cR aA cA aG cG w)(S:TSm T)(hm:mayP T=true):
  Calls Tryz.prog 7 #[.agg (tvs T aR cR aA cA aG cG)] w (zCF T w):=by
 have PT:=zVZ (zLJ hm);have SS:=zVZ S;have FF:=zVZ D.fit;have hpo:zBa T=(zAx T,true):=if_pos hm
 have YES:=zVZ (fun(w':World) aR cR aW cW aX cX aG cG aH cH (hb:Below w.heap.size w w') (hp:PAt (zAx T) aR cR aW cW aX cX aG cG aH cH w')=>(show zCF T w (.returned (.tuple #[.agg (pvs (zAx T) aR cR aW cW aX cX aG cG aH cH),.bool true])) w' from by
  rw[zCF,hpo]
  exact⟨aR,cR,aW,cW,aX,cX,aG,cG,aH,cH,rfl,hp,hb⟩))
 have RI:=zVZ (fun w1 (b:Below w.heap.size w w1)=>zHz T aR cR aA cA aG cG w1 (D.went b) S);rw[show zAJ T=true from by unfold mayP at hm;rw[Bool.and_eq_true]at hm;exact hm.2]at RI;have CO:=zVZ (fun w1 (b:Below w.heap.size w w1)=>zFn T.rules aR cR w1 (D.went b).rules S.rl);have DD:=zVZ (fun w1 (b:Below w.heap.size w w1)=>D.went b);have b1:=boxed w (.cells (tvs T aR cR aA cA aG cG) 26);have b2:=boxed (w.alloc (.cells (tvs T aR cR aA cA aG cG) 26)) (.cells nils 32);have B2:=zVZ (Gr.step b1 b2);have Z2:=zVZ ((zA4 (T:=T) (aR:=aR) (cR:=cR) (aA:=aA) (cA:=cA) (aG:=aG) (cG:=cG) w 26).went b2);have Y2:=zVZ (zAm (w.alloc (.cells (tvs T aR cR aA cA aG cG) 26)) (.cells nils 32));rw[World.size_alloc]at Y2;have hal:=PT.out.a1;have hrl:=PT.out.r1;clear b1 b2 D S hm hpo;unfold tvs nils at*;have h1':¬(16383:Int)<(T.acts.length:Int):=by omega
 have h2':¬(16383:Int)<(T.rules.length:Int):=by omega
 obtain⟨z0,z1,z2,z3,z4⟩:=Z2.out;go_enter Tryz.func7,Tryz.ntmps7;go_wp2_with fail;generalize (w.alloc (.cells #[.slice aR T.rules.length cR,.int .i64 T.terms,.int .i64 T.nons,.slice aA T.acts.length cA,.slice aG T.goto.length cG] 26)).alloc (.cells #[.slice none 0 0,.int .i64 0,.int .i64 0,.slice none 0 0,.slice none 0 0,.slice none 0 0,.slice none 0 0] 32)=w2 at*;refine(RI.out _ B2.out).mono ?_;rintro e w3 ⟨rfl,hb3⟩;have B3:=zVZ (Gr.step B2.out hb3);have Y3:=zVZ ((hb3.block _ (Array.getElem?_eq_some_iff.1 Y2.out).1).trans Y2.out);have Z3:=zVZ (Z2.out.went hb3);clear z0 z1 z2 z3 z4 hb3 Y2 Z2 B2 RI;obtain⟨z0,z1,z2,z3,z4⟩:=Z3.out;go_wp2_with fail
 have HQ:=zVZ (show∀w',Below w3.heap.size w3 w'->w'.cell? ⟨w.heap.size,0,none⟩=some (.slice aR T.rules.length cR)/\w'.cell? ⟨w.heap.size,1,none⟩=some (.int .i64 T.terms)/\w'.cell? ⟨w.heap.size,2,none⟩=some (.int .i64 T.nons)/\Below w3.heap.size w3 w' from
  fun w' b=>⟨cell_later b z0,cell_later b z1,cell_later b z2,b⟩)
 have hbd:=drawn w3;go_cut [4]from 31 (fun v wx=>∃(p b:Nat),v=.pointer (some ⟨p,0,none⟩)/\PkB T w3 b p wx)
 case first=>
  go_region_held3 (fun w'=>w'.cell? ⟨w.heap.size,0,none⟩=some (.slice aR T.rules.length cR)/\w'.cell? ⟨w.heap.size,1,none⟩=some (.int .i64 T.terms)/\w'.cell? ⟨w.heap.size,2,none⟩=some (.int .i64 T.nons)/\Below w3.heap.size w3 w')
   (exact HQ.out _ (by with_reducible first|assumption|exact zCl _ _|exact zCm (by assumption) (Nat.le_refl _) _ _ _ _ _ _ _|exact Gr.step (by assumption) (boxed _ _)))
   (first
    | (go_at_call 21;((with_reducible refine(CO.out _ (Gr.step B3.out (by with_reducible first|assumption|exact zCl _ _|exact Gr.step (by assumption) (boxed _ _)))).mono ?_));rintro e we ⟨b,rfl,hru,hbe⟩;have kE:Below w3.heap.size w3 we:=Gr.step (by with_reducible first|assumption|exact zCl _ _|exact Gr.step (by assumption) (boxed _ _)) hbe;have RE:=zVZ hru;have BE:=zVZ hbe;clear hru hbe;first
     |((with_reducible have KB:=zVZ (kept_alloc BE.out));have y0:=zAA KB.out (k:=0) (by simp);have y1:=zAA KB.out (k:=1) (by simp);have y2:=zAA KB.out (k:=2) (by simp);have y3:=zAA KB.out (k:=3) (by simp);have y4:=zAA KB.out (k:=4) (by simp);have y5:=zAA KB.out (k:=5) (by simp);have y6:=zAA KB.out (k:=6) (by simp);have f0:=zAK (k:=0) KB.out;have f1:=zAK (k:=1) KB.out;have f2:=zAK (k:=2) KB.out;have f3:=zAK (k:=3) KB.out;have f4:=zAK (k:=4) KB.out;have f5:=zAK (k:=5) KB.out;have f6:=zAK (k:=6) KB.out)
     |skip)
    |fail)
  ·have OB:=zVZ (show PkB T w3 b we.heap.size _ from PkB.after kE (Nat.le_refl _) RE.out);go_wp2_with fail;go_meet
   case rel=>exact⟨_,_,rfl,OB.out⟩
  ·have OB:=zVZ (show PkB T w3 b w3.heap.size _ from PkB.ahead kE (by change w3.heap.size<(w3.alloc _).heap.size;rw[World.size_alloc];exact Nat.lt_succ_self _) KB.out RE.out);go_wp2_with fail;go_meet
   case rel=>exact⟨_,_,rfl,OB.out⟩
 case rest=>
  obtain⟨p,b,rfl,hOB⟩:=hcut;have OB:=zVZ hOB;clear hOB CO HQ;generalize wc=w5 at*
  have TW:=zVZ (fun(w':World) (f:Fr (fun x=>x=p) w5 w')=>(show Below w3.heap.size w3 w' from by
   have hlo:=OB.out.lo
   exact OB.out.below.trans (f.below (fun x hx=>by omega) OB.out.below.size)))
  have ZW:=zVZ (fun(w':World) (f:Fr (fun x=>x=p) w5 w')=>Z3.out.went (TW.out w' f));have DW:=zVZ (fun(w':World) (f:Fr (fun x=>x=p) w5 w')=>DD.out w' (Gr.step B3.out (TW.out w' f)));have YW:=zVZ (fun(w':World) (f:Fr (fun x=>x=p) w5 w')=>((TW.out w' f).block _ (Array.getElem?_eq_some_iff.1 Y3.out).1).trans Y3.out);obtain⟨z0,z1,z2,z3,z4⟩:=ZW.out w5 (.refl _ _);have hs1:(w5.alloc (.map #[] 0)).heap.size=w5.heap.size+1:=World.size_alloc _ _;have I0:=zVZ (zNl OB.out rfl rfl);have HGA:=zVZ PT.out.ga;have hmm:=zJl;have z3':((w5.alloc (.map #[] 0)).alloc (.cells #[.map (some w5.heap.size),.slice none 0 0,.slice none 0 0] 60)).cell? ⟨w.heap.size,3,none⟩=some (.slice aA T.acts.length cA):=cell_later (Gr.step (boxed _ _) (boxed _ _)) z3;clear DD Z3 z0 z1 z2 z4;have hp3:=OB.out.box;go_wp2_with fail;generalize (w5.alloc (.map #[] 0)).alloc (.cells #[.map (some w5.heap.size),.slice none 0 0,.slice none 0 0] 60)=w6 at*;clear z3 z3' hp3;go_loopw [36] (fun x wr=>∃(k:Nat) (v:Nat->Value) (vs:Nat->List Value) (vI:Nat->Value),x=.int .i64 (k:Int)/\k<=T.acts.length/\PkI w5 p (w5.heap.size+1) w5.heap.size (.slice (some ⟨b,0,none⟩) T.rules.length T.rules.length) (.int .i64 T.terms) (.int .i64 T.nons) (LX T k k) v vs vI (IX T k k) wr) (fun x _=>T.acts.length-(intOf x).toNat)
  case atStart=>exact⟨0,_,_,_,rfl,Nat.zero_le _,I0.out⟩
  case round=>
   obtain⟨k,v,vs,vI,rfl,hk,hI⟩:=hrel;have I:=zVZ hI;clear hI I0;have hLA:(zAL T).length=T.acts.length:=zKk T;have hLG:(zAO T).length=T.acts.length:=by rw[zKl];exact HGA.out
   by_cases hlt:k<T.acts.length
   ·have hkl:(k:Int)<(T.acts.length:Int):=by omega
    have hkg:(k:Int)<(T.goto.length:Int):=by rw[HGA.out];omega
    have hkg2:k<T.goto.length:=by rw[HGA.out];exact hlt
    have HA:=zVZ (show k<(zAL T).length by rw[hLA];exact hlt);have HG:=zVZ (show k<(zAO T).length by rw[hLG];exact hlt);have eA:(zAL T)[k]'HA.out=T.acts[k].map zBR:=by simp[zAL]
    have eG:(zAO T)[k]'HG.out=T.goto[k].map zBt:=by simp[zAO]
    have HLL:=zVZ (fun ka kg j=>zTh T ka kg j (by rw[hLA];omega) (by rw[hLG];omega));obtain⟨i1r,hj1,hy0,hy1,hy2⟩:=info_parts zAz;have fr0:=I.out.fr;obtain⟨z0,z1,z2,z3,z4⟩:=ZW.out wr fr0;have dw:=DW.out wr fr0;obtain⟨ba,oa,ra,rca,rfl,p0,hra,_,_⟩:=dw.acts k hlt
    have EA:=zVZ (zHM T.acts[k] ra rca wr.drew (hra.went (drawn wr)) (SS.out.ar _ (List.getElem_mem hlt)) (fun x hx=>by
     have:=zDI ((PT.out.acts _ (List.getElem_mem hlt)).2 x hx) PT.out.a1 PT.out.r1
     exact⟨this.2.2.1,this.2.2.2.1,this.2.2.2.2.1,this.2.2.2.2.2⟩))
    have CA:=zVZ (zTt PT.out SS.out hlt);have LAe:=zVZ (LX_a (T:=T) (ka:=k) (kg:=k) HA.out);have IAe:=zVZ (IX_a (T:=T) (ka:=k) (kg:=k) HA.out);rw[eA]at LAe IAe;have hmapA:(T.acts[k].map fun x=>Value.int .u16 (zBR x))=(T.acts[k].map zBR).map fun c=>Value.int .u16 c:=by rw[List.map_map];rfl
    have hlenA:(T.acts[k].map zBR).length=T.acts[k].length:=List.length_map _;rw[hmapA]at EA;generalize T.acts[k]=rowA at*;generalize rowA.map zBR=cA at*;obtain⟨il0,il1⟩:=zLj T (ka:=k) (kg:=k) (by omega) (by omega);obtain⟨aW,cW,i0⟩:=Rw.zAH (I.out.idx 0 (by decide));rw[il0]at i0;have c3:=I.out.cell (k:=0) (by decide);rw[i0]at c3
    have S1:=zVZ (fun(wa:World) (b1:Nat) (hlo:wr.drew.heap.size<=b1) (hh:wa.heap[b1]?=some (.cells (cA.map fun c=>Value.int .u16 c).toArray 64 (0,0))) (hb:Below wr.drew.heap.size wr.drew wa)=>
     (show PkI w5 p (w5.heap.size+1) w5.heap.size (.slice (some ⟨b,0,none⟩) T.rules.length T.rules.length) (.int .i64 T.terms) (.int .i64 T.nons) (LX T k k) v vs vI (IX T k k) wa/\Dat w5.heap.size cA (.slice (some ⟨b1,0,none⟩) rowA.length rowA.length) wa/\wa.cell? ⟨p,3,none⟩=some (.slice aW k cW)/\
      Calls Tryz.prog 22 #[.pointer (some ⟨w5.heap.size+1,0,none⟩),.int .i64 0,.slice (some ⟨b1,0,none⟩) rowA.length rowA.length] wa (zJF w5.heap.size (w5.heap.size+1) w5.heap.size (LX T k k) v vs 0 cA (.slice (some ⟨b1,0,none⟩) rowA.length rowA.length) wa)from by
      have I2:=I.out.went (Gr.step (drawn wr) hb);have c3':=I2.cell (k:=0) (by decide);rw[i0]at c3';have hp:=zE7 wa I2.st 0 (by decide) cA (some ⟨b1,0,none⟩) rowA.length (zBi hh) CA.out (fun j _=>HLL.out k k j);rw[hlenA]at hp
      exact⟨I2,⟨b1,by rw[hlenA],hh,Nat.le_trans I.out.fr.size hlo⟩,c3',hp⟩))
    have S2:=zVZ (fun(wb:World) (v':Nat->Value) (vs':Nat->List Value) (h:PkI w5 p (w5.heap.size+1) w5.heap.size (.slice (some ⟨b,0,none⟩) T.rules.length T.rules.length) (.int .i64 T.terms) (.int .i64 T.nons) (upd (LX T k k) 0 (putR (LX T k k 0) cA)) v' vs' vI (IX T k k) wb)=>
     (show wb.cell? ⟨p,3,none⟩=some (.slice aW k cW)/\(wb.alloc (.cells #[.int .i64 (plc (LX T k k 0) cA:Int)] 3)).cell? ⟨p,3,none⟩=some (.slice aW k cW)/\(wb.alloc (.cells #[.int .i64 (plc (LX T k k 0) cA:Int)] 3)).ownsRow w5.heap.size 3 1 (.slice aW k cW) k (ivs (IX T k k 0))/\
      (wb.alloc (.cells #[.int .i64 (plc (LX T k k 0) cA:Int)] 3)).ownsRow w5.heap.size 3 1 (.slice (some ⟨wb.heap.size,0,none⟩) 1 1) 1 [.int .i64 (plc (LX T k k 0) cA:Int)]/\w5.heap.size<=(wb.alloc (.cells #[.int .i64 (plc (LX T k k 0) cA:Int)] 3)).heap.size from by
      have hb:=boxed wb (.cells #[.int .i64 (plc (LX T k k 0) cA:Int)] 3);have c3':=h.cell (k:=0) (by decide);rw[i0]at c3';have hr:=(h.went hb).idx 0 (by decide);rw[i0,il0]at hr
      exact⟨c3',cell_later hb c3',hr,zEu _ wb _ _ h.fr.size _ rfl,Nat.le_trans h.fr.size hb.size⟩))
    have S3:=zVZ (fun(wb:World) (v':Nat->Value) (vs':Nat->List Value) (h:PkI w5 p (w5.heap.size+1) w5.heap.size (.slice (some ⟨b,0,none⟩) T.rules.length T.rules.length) (.int .i64 T.terms) (.int .i64 T.nons) (upd (LX T k k) 0 (putR (LX T k k 0) cA)) v' vs' vI (IX T k k) wb)
      (v7:Value) (w7:World) (hown:w7.ownsRow w5.heap.size 3 1 v7 (k+1) (ivs (IX T k k 0)++[.int .i64 (plc (LX T k k 0) cA:Int)])) (hg:(wb.alloc (.cells #[.int .i64 (plc (LX T k k 0) cA:Int)] 3)).grownBy w7 (Value.slice aW k cW).ownBlock) (hl:v7.ownBlock=(Value.slice aW k cW).ownBlock\/v7.ownBlock=some (wb.alloc (.cells #[.int .i64 (plc (LX T k k 0) cA:Int)] 3)).heap.size)=>
     (show w7.cell? ⟨p,3,none⟩=some (.slice aW k cW)/\w7.frozen? ⟨p,3,none⟩=false/\∃vI',PkI w5 p (w5.heap.size+1) w5.heap.size (.slice (some ⟨b,0,none⟩) T.rules.length T.rules.length) (.int .i64 T.terms) (.int .i64 T.nons) (LX T (k+1) k) v' vs' vI' (IX T (k+1) k) (w7.setCell ⟨p,3,none⟩ v7)from by
      rw[←i0]at hg hl;have hb:=boxed wb (.cells #[.int .i64 (plc (LX T k k 0) cA:Int)] 3);have hm:=h.mid (by decide) hb hg;rw[←LAe.out,←IAe.out];have c3':=zAA hm (k:=3) (by simp[pkc]);refine⟨c3'.trans ?_,zAK hm,_,h.rowed (k:=0) (by decide) hb (by rw[il0];exact hown) hg hl⟩;rw[←i0]
      rfl))
    clear fr0 z0 z1 z2 z4 dw hra hmapA il0 il1;go_wp2_with fail;go_cut []from 37 to 63 (fun wx=>∃(v':Nat->Value) (vs':Nat->List Value) (vI':Nat->Value),PkI w5 p (w5.heap.size+1) w5.heap.size (.slice (some ⟨b,0,none⟩) T.rules.length T.rules.length) (.int .i64 T.terms) (.int .i64 T.nons) (LX T (k+1) k) v' vs' vI' (IX T (k+1) k) wx)
    case first=>
     go_region_law (first
      |(go_simp;go_at_call 23;(with_reducible refine(EA.out).mono ?_);rintro e wa ⟨b1,rfl,hlo1,hh1,hb1⟩;obtain⟨I2',D2',c32,PL'⟩:=S1.out wa b1 hlo1 hh1 hb1;have I2:=zVZ I2';have D2:=zVZ D2';have PL:=zVZ PL';clear I2' D2' PL' hlo1 hh1 hb1)
      |(go_simp;go_at_call 22;(with_reducible refine(PL.out).mono ?_);rintro e wb ⟨rfl,v',hst,hfr,_⟩;have I3:=zVZ (I2.out.placed (by decide) D2.out hst hfr);obtain⟨c33,c34,r3',o3',s3⟩:=S2.out wb _ _ I3.out;have R3:=zVZ r3';have O3:=zVZ o3';clear hst hfr r3' o3')
      | (refine Rw.zAG _ (by rfl) _ _ 29 (by rfl) w5.heap.size 3 i1r (.int .i64 0) 1 8 Tryz.underlying29 hj1 hy0 hy1 hy2 rfl (by decide) (.slice aW k cW) k _ (by rfl) R3.out w5.heap.size (.slice (some ⟨wb.heap.size,0,none⟩) 1 1) 1 [.int .i64 (plc (LX T k k 0) cA:Int)] (by rfl) O3.out (by simp[Value.oneCell']) (by unfold maxLen;omega) (by omega) s3 ?_;intro v7 w7 hown7 hg7 hloc7;obtain⟨a7,c7,rfl⟩:=Rw.zAH hown7;obtain⟨q9,f9,x7⟩:=S3.out wb _ _ I3.out _ w7 hown7 hg7 hloc7;have R7:=zVZ x7;clear hown7 hg7 hloc7 x7))
     all_goals
      go_wp2_with fail;go_meet
      case rel=>
       obtain⟨vI',x7⟩:=R7.out;exact⟨_,_,vI',x7⟩
    case rest=>
     clear EA CA LAe IAe S1 S2 S3 c3 i0 p0 I;obtain⟨v,vs,vI,hI⟩:=hcut;have I:=zVZ hI;clear hI;generalize wc=wr at*;have fr0:=I.out.fr;obtain⟨z0,z1,z2,z3,z4⟩:=ZW.out wr fr0;have dw:=DW.out wr fr0;obtain⟨ba2,oa2,ra2,rca2,rfl,p0,hra,_,_⟩:=dw.goto k hkg2
     have EG:=zVZ (zGK T.goto[k] ra2 rca2 wr.drew (hra.went (drawn wr)) (SS.out.gr _ (List.getElem_mem hkg2)) (fun x hx=>by
      have:=zJt ((PT.out.goto _ (List.getElem_mem hkg2)).2 x hx) PT.out.a1
      omega))
     have CG:=zVZ (zTu PT.out SS.out hkg2);have LGe:=zVZ (LX_g (T:=T) (ka:=k+1) (kg:=k) HG.out);have IGe:=zVZ (IX_g (T:=T) (ka:=k+1) (kg:=k) HG.out);rw[eG]at LGe IGe;have hmapG:(T.goto[k].map fun x=>Value.int .u16 (zBt x))=(T.goto[k].map zBt).map fun c=>Value.int .u16 c:=by rw[List.map_map];rfl
     have hlenG:(T.goto[k].map zBt).length=T.goto[k].length:=List.length_map _;rw[hmapG]at EG;generalize T.goto[k]=rowG at*;generalize rowG.map zBt=cG' at*;obtain⟨il0,il1⟩:=zLj T (ka:=k+1) (kg:=k) (by omega) (by omega);obtain⟨aW,cW,i1⟩:=Rw.zAH (I.out.idx 1 (by decide));rw[il1]at i1;have c5:=I.out.cell (k:=1) (by decide);rw[i1]at c5
     have S1:=zVZ (fun(wa:World) (b1:Nat) (hlo:wr.drew.heap.size<=b1) (hh:wa.heap[b1]?=some (.cells (cG'.map fun c=>Value.int .u16 c).toArray 64 (0,0))) (hb:Below wr.drew.heap.size wr.drew wa)=>
      (show PkI w5 p (w5.heap.size+1) w5.heap.size (.slice (some ⟨b,0,none⟩) T.rules.length T.rules.length) (.int .i64 T.terms) (.int .i64 T.nons) (LX T (k+1) k) v vs vI (IX T (k+1) k) wa/\Dat w5.heap.size cG' (.slice (some ⟨b1,0,none⟩) rowG.length rowG.length) wa/\wa.cell? ⟨p,5,none⟩=some (.slice aW k cW)/\
       Calls Tryz.prog 22 #[.pointer (some ⟨w5.heap.size+1,0,none⟩),.int .i64 1,.slice (some ⟨b1,0,none⟩) rowG.length rowG.length] wa (zJF w5.heap.size (w5.heap.size+1) w5.heap.size (LX T (k+1) k) v vs 1 cG' (.slice (some ⟨b1,0,none⟩) rowG.length rowG.length) wa)from by
       have I2:=I.out.went (Gr.step (drawn wr) hb);have c5':=I2.cell (k:=1) (by decide);rw[i1]at c5';have hp:=zE7 wa I2.st 1 (by decide) cG' (some ⟨b1,0,none⟩) rowG.length (zBi hh) CG.out (fun j _=>HLL.out (k+1) k j);rw[hlenG]at hp
       exact⟨I2,⟨b1,by rw[hlenG],hh,Nat.le_trans I.out.fr.size hlo⟩,c5',hp⟩))
     have S2:=zVZ (fun(wb:World) (v':Nat->Value) (vs':Nat->List Value) (h:PkI w5 p (w5.heap.size+1) w5.heap.size (.slice (some ⟨b,0,none⟩) T.rules.length T.rules.length) (.int .i64 T.terms) (.int .i64 T.nons) (upd (LX T (k+1) k) 1 (putR (LX T (k+1) k 1) cG')) v' vs' vI (IX T (k+1) k) wb)=>
      (show wb.cell? ⟨p,5,none⟩=some (.slice aW k cW)/\(wb.alloc (.cells #[.int .i64 (plc (LX T (k+1) k 1) cG':Int)] 3)).cell? ⟨p,5,none⟩=some (.slice aW k cW)/\(wb.alloc (.cells #[.int .i64 (plc (LX T (k+1) k 1) cG':Int)] 3)).ownsRow w5.heap.size 3 1 (.slice aW k cW) k (ivs (IX T (k+1) k 1))/\
       (wb.alloc (.cells #[.int .i64 (plc (LX T (k+1) k 1) cG':Int)] 3)).ownsRow w5.heap.size 3 1 (.slice (some ⟨wb.heap.size,0,none⟩) 1 1) 1 [.int .i64 (plc (LX T (k+1) k 1) cG':Int)]/\w5.heap.size<=(wb.alloc (.cells #[.int .i64 (plc (LX T (k+1) k 1) cG':Int)] 3)).heap.size from by
       have hb:=boxed wb (.cells #[.int .i64 (plc (LX T (k+1) k 1) cG':Int)] 3);have c5':=h.cell (k:=1) (by decide);rw[i1]at c5';have hr:=(h.went hb).idx 1 (by decide);rw[i1,il1]at hr
       exact⟨c5',cell_later hb c5',hr,zEu _ wb _ _ h.fr.size _ rfl,Nat.le_trans h.fr.size hb.size⟩))
     have S3:=zVZ (fun(wb:World) (v':Nat->Value) (vs':Nat->List Value) (h:PkI w5 p (w5.heap.size+1) w5.heap.size (.slice (some ⟨b,0,none⟩) T.rules.length T.rules.length) (.int .i64 T.terms) (.int .i64 T.nons) (upd (LX T (k+1) k) 1 (putR (LX T (k+1) k 1) cG')) v' vs' vI (IX T (k+1) k) wb)
       (v7:Value) (w7:World) (hown:w7.ownsRow w5.heap.size 3 1 v7 (k+1) (ivs (IX T (k+1) k 1)++[.int .i64 (plc (LX T (k+1) k 1) cG':Int)])) (hg:(wb.alloc (.cells #[.int .i64 (plc (LX T (k+1) k 1) cG':Int)] 3)).grownBy w7 (Value.slice aW k cW).ownBlock) (hl:v7.ownBlock=(Value.slice aW k cW).ownBlock\/v7.ownBlock=some (wb.alloc (.cells #[.int .i64 (plc (LX T (k+1) k 1) cG':Int)] 3)).heap.size)=>
      (show w7.cell? ⟨p,5,none⟩=some (.slice aW k cW)/\w7.frozen? ⟨p,5,none⟩=false/\∃vI',PkI w5 p (w5.heap.size+1) w5.heap.size (.slice (some ⟨b,0,none⟩) T.rules.length T.rules.length) (.int .i64 T.terms) (.int .i64 T.nons) (LX T (k+1) (k+1)) v' vs' vI' (IX T (k+1) (k+1)) (w7.setCell ⟨p,5,none⟩ v7)from by
       rw[←i1]at hg hl;have hb:=boxed wb (.cells #[.int .i64 (plc (LX T (k+1) k 1) cG':Int)] 3);have hm:=h.mid (by decide) hb hg;rw[←LGe.out,←IGe.out];have c5':=zAA hm (k:=5) (by simp[pkc]);refine⟨c5'.trans ?_,zAK hm,_,h.rowed (k:=1) (by decide) hb (by rw[il1];exact hown) hg hl⟩;rw[←i1]
       rfl))
     clear fr0 z0 z1 z2 z3 dw hra hmapG il0 il1;go_wp2_with fail
     go_region_law (first
      |(go_simp;go_at_call 25;(with_reducible refine(EG.out).mono ?_);rintro e wa ⟨b1,rfl,hlo1,hh1,hb1⟩;obtain⟨I2',D2',c52,PL'⟩:=S1.out wa b1 hlo1 hh1 hb1;have I2:=zVZ I2';have D2:=zVZ D2';have PL:=zVZ PL';clear I2' D2' PL' hlo1 hh1 hb1)
      |(go_simp;go_at_call 22;(with_reducible refine(PL.out).mono ?_);rintro e wb ⟨rfl,v',hst,hfr,_⟩;have I3:=zVZ (I2.out.placed (by decide) D2.out hst hfr);obtain⟨c53,c54,r3',o3',s3⟩:=S2.out wb _ _ I3.out;have R3:=zVZ r3';have O3:=zVZ o3';clear hst hfr r3' o3')
      | (refine Rw.zAG _ (by rfl) _ _ 29 (by rfl) w5.heap.size 3 i1r (.int .i64 0) 1 8 Tryz.underlying29 hj1 hy0 hy1 hy2 rfl (by decide) (.slice aW k cW) k _ (by rfl) R3.out w5.heap.size (.slice (some ⟨wb.heap.size,0,none⟩) 1 1) 1 [.int .i64 (plc (LX T (k+1) k 1) cG':Int)] (by rfl) O3.out (by simp[Value.oneCell']) (by unfold maxLen;omega) (by omega) s3 ?_;intro v7 w7 hown7 hg7 hloc7;obtain⟨a7,c7,rfl⟩:=Rw.zAH hown7;obtain⟨q9,f9,x7⟩:=S3.out wb _ _ I3.out _ w7 hown7 hg7 hloc7;have R7:=zVZ x7;clear hown7 hg7 hloc7 x7))
     all_goals
      obtain⟨vI',x7⟩:=R7.out;have IE:=zVZ x7;clear x7 R7 S1 S2 S3 EG CG LGe IGe I;go_wp2_with fail;go_roundw
      case rel=>exact⟨k+1,_,_,_,by go_num,by omega,IE.out⟩
      case measure=>first|(simp[intOf];omega)|omega
   ·obtain rfl:k=T.acts.length:=by omega
    obtain⟨il0,il1⟩:=zLj T (ka:=T.acts.length) (kg:=T.acts.length) (by omega) (by omega);obtain⟨aX,cX,e0⟩:=Rw.zAH (I.out.st.row 0 (by decide));obtain⟨aH,cH,e1⟩:=Rw.zAH (I.out.st.row 1 (by decide));obtain⟨aW,cW,i0⟩:=Rw.zAH (I.out.idx 0 (by decide));obtain⟨aG',cG',i1⟩:=Rw.zAH (I.out.idx 1 (by decide));rw[il0]at i0;rw[il1]at i1;have hbx:=I.out.box;unfold pkc at hbx;rw[i0,i1]at hbx;have st:=I.out.st.box;rw[e0,e1]at st;have s1:=zAA st (k:=1) (by simp);have s2:=zAA st (k:=2) (by simp);have t0:=zAA hbx (k:=0) (by simp);have t1:=zAA hbx (k:=1) (by simp);have t2:=zAA hbx (k:=2) (by simp);have t3:=zAA hbx (k:=3) (by simp);have t4:=zAA hbx (k:=4) (by simp);have t5:=zAA hbx (k:=5) (by simp);have t6:=zAA hbx (k:=6) (by simp);have g4:=zAK (k:=4) hbx;have g6:=zAK (k:=6) hbx;simp only[List.getElem_toArray,List.getElem_cons_zero,List.getElem_cons_succ]at s1 s2 t0 t1 t2 t3 t4 t5 t6;clear hLA hLG il0 il1;go_wp2_with fail;go_region
    have hE:(((wr.setCell ⟨p,4,none⟩ (.slice aX (LX T T.acts.length T.acts.length 0).length cX)).setCell ⟨p,6,none⟩ (.slice aH (LX T T.acts.length T.acts.length 1).length cH)).drew).heap[p]?=some (.cells #[.slice (some ⟨b,0,none⟩) T.rules.length T.rules.length,.int .i64 T.terms,.int .i64 T.nons,.slice aW T.acts.length cW,.slice aX (LX T T.acts.length T.acts.length 0).length cX,.slice aG' T.acts.length cG',.slice aH (LX T T.acts.length T.acts.length 1).length cH] 32 (0,0)):=by
     show((wr.setCell ⟨p,4,none⟩ (.slice aX (LX T T.acts.length T.acts.length 0).length cX)).setCell ⟨p,6,none⟩ (.slice aH (LX T T.acts.length T.acts.length 1).length cH)).heap[p]?= _;rw[zAP (k:=6) (zAP (k:=4) hbx _)]
     rfl
    have hf:Fr (fun x=>x=p) wr ((wr.setCell ⟨p,4,none⟩ (.slice aX (LX T T.acts.length T.acts.length 0).length cX)).setCell ⟨p,6,none⟩ (.slice aH (LX T T.acts.length T.acts.length 1).length cH)).drew:=
     (((Fr.refl (fun x=>x=p) wr).setCell ⟨p,4,none⟩ rfl _).setCell ⟨p,6,none⟩ rfl _).drew
    have HF:=zVZ hf;have DN:=zVZ (fun(w':World) (hw:Fr (fun x=>x=p\/x<w3.heap.size) wr w')=>zNh PT.out SS.out FF.out OB.out I.out e0 e1 i0 i1 hw);clear e0 e1 i0 i1 hbx st s1 s2 t0 t1 t2 t3 t4 t5 t6 g4 g6 hf;generalize LX T T.acts.length T.acts.length=LL at*;generalize ((wr.setCell ⟨p,4,none⟩ (.slice aX (LL 0).length cX)).setCell ⟨p,6,none⟩ (.slice aH (LL 1).length cH)).drew=wE at*;have FE:=zVZ (I.out.fr.trans HF.out fun x hx=> .inl hx);have Y:=YW.out wE FE.out;have t0:=zAA hE (k:=0) (by simp);have t1:=zAA hE (k:=1) (by simp);have t2:=zAA hE (k:=2) (by simp);have t3:=zAA hE (k:=3) (by simp);have t4:=zAA hE (k:=4) (by simp);have t5:=zAA hE (k:=5) (by simp);have t6:=zAA hE (k:=6) (by simp);have y0:=zAA Y (k:=0) (by simp);have y1:=zAA Y (k:=1) (by simp);have y2:=zAA Y (k:=2) (by simp);have y3:=zAA Y (k:=3) (by simp);have y4:=zAA Y (k:=4) (by simp);have y5:=zAA Y (k:=5) (by simp);have y6:=zAA Y (k:=6) (by simp);have f0:=zAK (k:=0) Y;have f1:=zAK (k:=1) Y;have f2:=zAK (k:=2) Y;have f3:=zAK (k:=3) Y;have f4:=zAK (k:=4) Y;have f5:=zAK (k:=5) Y;have f6:=zAK (k:=6) Y;simp only[List.getElem_toArray,List.getElem_cons_zero,List.getElem_cons_succ]at t0 t1 t2 t3 t4 t5 t6 y0 y1 y2 y3 y4 y5 y6;have EE:=zVZ (zF9 Y (.slice (some ⟨b,0,none⟩) T.rules.length T.rules.length) (.int .i64 T.terms) (.int .i64 T.nons) (.slice aW T.acts.length cW) (.slice aX (LL 0).length cX) (.slice aG' T.acts.length cG') (.slice aH (LL 1).length cH));have BE:=zVZ (zCm (Gr.step B3.out (TW.out wE FE.out)) (Nat.le_succ w.heap.size) (.slice (some ⟨b,0,none⟩) T.rules.length T.rules.length) (.int .i64 T.terms) (.int .i64 T.nons) (.slice aW T.acts.length cW) (.slice aX (LL 0).length cX) (.slice aG' T.acts.length cG') (.slice aH (LL 1).length cH));have hs3:w.heap.size+1<w3.heap.size:=(Array.getElem?_eq_some_iff.1 Y3.out).1;have DE:=zVZ (DN.out _ ((HF.out.mono fun x hx=> .inl hx).trans ((zI1 wE (w.heap.size+1) (.slice (some ⟨b,0,none⟩) T.rules.length T.rules.length) (.int .i64 T.terms) (.int .i64 T.nons) (.slice aW T.acts.length cW) (.slice aX (LL 0).length cX) (.slice aG' T.acts.length cG') (.slice aH (LL 1).length cH)).mono (T:=fun x=>x=p\/x<w3.heap.size) fun x hx=> .inr (by omega)) fun x hx=> .inl hx));clear Y hE;go_wp2_with fail;change bodyPost _ _ _ _ _ (set7 wE (w.heap.size+1) (.slice (some ⟨b,0,none⟩) T.rules.length T.rules.length) (.int .i64 T.terms) (.int .i64 T.nons) (.slice aW T.acts.length cW) (.slice aX (LL 0).length cX) (.slice aG' T.acts.length cG') (.slice aH (LL 1).length cH));obtain⟨e0,e1,e2,e3,e4,e5,e6⟩:=EE.out;have BF:=zVZ (show Below w.heap.size w (set7 wE (w.heap.size+1) (.slice (some ⟨b,0,none⟩) T.rules.length T.rules.length) (.int .i64 T.terms) (.int .i64 T.nons) (.slice aW T.acts.length cW) (.slice aX (LL 0).length cX) (.slice aG' T.acts.length cG') (.slice aH (LL 1).length cH))from BE.out);have DF:=zVZ (show _/\_/\_/\_/\PAt (zAx T) (some ⟨b,0,none⟩) T.rules.length aW cW aX cX aG' cG' aH cH (set7 wE (w.heap.size+1) (.slice (some ⟨b,0,none⟩) T.rules.length T.rules.length) (.int .i64 T.terms) (.int .i64 T.nons) (.slice aW T.acts.length cW) (.slice aX (LL 0).length cX) (.slice aG' T.acts.length cG') (.slice aH (LL 1).length cH))from DE.out);generalize set7 wE (w.heap.size+1) (.slice (some ⟨b,0,none⟩) T.rules.length T.rules.length) (.int .i64 T.terms) (.int .i64 T.nons) (.slice aW T.acts.length cW) (.slice aX (LL 0).length cX) (.slice aG' T.acts.length cG') (.slice aH (LL 1).length cH)=wF at*;obtain⟨d0,d1,d2,d3,dP⟩:=DF.out;have YF:=YES.out wF _ _ _ _ _ _ _ _ _ _ BF.out dP;unfold pvs at YF;rw[←d0,←d1,←d2,←d3]at YF;have YF:=zVZ YF;clear d0 d1 d2 d3 dP;refine bodyPost_ret (v:=.tuple #[.agg #[.slice (some ⟨b,0,none⟩) T.rules.length T.rules.length,.int .i64 T.terms,.int .i64 T.nons,.slice aW T.acts.length cW,.slice aX (LL 0).length cX,.slice aG' T.acts.length cG',.slice aH (LL 1).length cH],.bool true]) (by simp[results,Tryz.results7,go_sem,e0,e1,e2,e3,e4,e5,e6]) rfl YF.out
