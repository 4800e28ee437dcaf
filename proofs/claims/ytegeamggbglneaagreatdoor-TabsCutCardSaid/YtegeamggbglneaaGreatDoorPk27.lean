/- Proof. -/
import Derived.Test.YtegeamggbglneaaGreatDoorPk13
import Derived.Test.YtegeamggbglneaaGreatDoorPk16
import Derived.Deep.LoopGhost
set_option maxHeartbeats 4000000
set_option maxRecDepth 100000
set_option linter.unusedVariables false
namespace Go.Proofs.YtegeamggbglneaaGreatDoor
namespace Lk
open Go.RowKit Go.Maps
open Gr (ai)
open Im
open Au
open Bt (az aO)
open Rw (Bk)
structure Stp (lab aJ:Nat->Lb) (w w':World):Prop where
 fr:Sep.Fr (fun b=>lab b≠.no) w w'
 ext:∀b,aJ b≠.no->lab b≠.no\/w.heap.size<=b
theorem Stp.trans{l m n}{a b c}(h:Stp l m a b)(k:Stp m n b c):Stp l n a c:=
 ⟨h.fr.trans k.fr h.ext,fun x hx=>by
  rcases k.ext x hx with r|r
  ·exact h.ext x r
  ·exact .inr (Nat.le_trans h.fr.size r)⟩
theorem Stp.of_below(lab){w w'}(hb:Below w.heap.size w w'):Stp lab lab w w':=⟨.of_below hb,fun _ h=> .inl h⟩
section
variable {W:World} {K:Fk} {G:ai} {q:Whole} {N M:Nt} {lab aJ:Nat->Lb} {cv qv gS lK:Value} {w w':World} {ch:Lb->Prop}
theorem NP.step(h:NP W K G q N lab cv qv w)(f:Ch ch lab w w')(hno:¬ch .no)(ag:∀b,b<w.heap.size->aJ b=lab b)(hin:∀b,aJ b≠.no->b<w'.heap.size)
  (box:Bk K.p (nb K G (states q).length gS lK) 177 w') (row:w'.ownsRow W.heap.size 219 3 gS M.ak.length (cells M)) (ways:∀k,k<M.ak.length->w'.ownsRow W.heap.size 214 3 (M.wv k) (M.Ys k).length ((M.Ys k).flatMap yc)) (ry:∀k,k<M.ak.length->∀y∈M.Ys k,oc K G y)
  (sets:∀k,k<M.ak.length->az (M.D k) (M.E k) (G.terms.length+1) (M.S k) w') (map:jz K.mb M.ak.length (ez M.ak) w') (queue:w'.ownsRow W.heap.size 3 1 lK M.qs.length (bD M.qs))
  (lr:∀g,gS.ownBlock=some g->aJ g=.row) (lw:∀k,k<M.ak.length->∀g,(M.wv k).ownBlock=some g->aJ g=.way k) (lP:∀k,k<M.ak.length->aJ (M.D k)=.sP k) (lE:∀k,k<M.ak.length->aJ (M.E k)=.sE k) (lq:∀g,lK.ownBlock=some g->aJ g=.qV):
  NP W K G q M aJ gS lK w'/\Stp lab aJ w w':=by
 have hp:=h.bk h.lp (by intro e;cases e);have hm:=h.bk h.lm (by intro e;cases e);refine⟨⟨h.fr' f hno,box,row,ways,ry,sets,map,queue,(ag _ hp).trans h.lp,(ag _ hm).trans h.lm,lr,lw,lP,lE,lq,fun b hb=>?_,hin⟩,?_,fun b hb=>?_⟩
 ·by_cases hl:b<w.heap.size
  ·rw[ag b hl]at hb;exact h.low b hb
  ·have:=h.fr.size;exact .inr (.inr (by omega))
 ·exact f.mono fun b hb=>fun e=>hno (e▸hb)
 ·by_cases hl:b<w.heap.size
  ·rw[ag b hl]at hb;exact .inl hb
  ·exact .inr (by omega)
theorem pD(h:NP W K G q N lab cv qv w)(ag:∀b,b<w.heap.size->aJ b=lab b){b}{L}(e:lab b=L)(hn:L≠.no):aJ b=L:=(ag b (h.bk e hn)).trans e
theorem NP.lead(h:NP W K G q N lab cv qv w){k}(hk:k<N.ak.length){y}(hy:oc K G y){w1 w2}(hb:Below w.heap.size w w1){v'}
  (hown:w2.ownsRow W.heap.size 214 3 v' ((N.Ys k).length+1) ((N.Ys k).flatMap yc++yc y)) (hg:w1.grownBy w2 (N.wv k).ownBlock) (hv:v'.ownBlock=(N.wv k).ownBlock\/v'.ownBlock=some w1.heap.size) {g c} (hcv:cv=.slice (some ⟨g,0,none⟩) N.ak.length c):
  ∃aJ,NP W K G q (N.lead k y v') aJ cv qv (w2.setCell ⟨g,k*3+1,none⟩ v')/\Stp lab aJ w (w2.setCell ⟨g,k*3+1,none⟩ v'):=by
 subst hcv;have hgr:=h.lr g rfl
 have f:Ch (fun L=>L=.way k\/L=.row) lab w (w2.setCell ⟨g,k*3+1,none⟩ v'):=by
  refine Sep.Fr.setCell (S:=fun b=>lab b=.way k\/lab b=.row) ?_ _ (.inr hgr) _;exact Sep.Fr.grown (Sep.Fr.of_below hb) hg fun b hb2=> .inl (.inl (h.lw k hk b hb2))
 have no:¬((fun L=>L=Lb.way k\/L=Lb.row) Lb.no):=by rintro(e|e)<;>cases e
 have hgv:∀b,v'.ownBlock=some b->b<w2.heap.size/\W.heap.size<=b:=fun b e=>⟨(hown.lt b e).2,(hown.lt b e).1⟩
 have hs:(w2.setCell ⟨g,k*3+1,none⟩ v').heap.size=w2.heap.size:=by simp[World.setCell]
 have j6:v'.ownBlock≠some g:=fun e=>by
  rcases hv with r|r
  ·have:=h.lw k hk g (r.symm.trans e);rw[hgr]at this;cases this
  ·have e2:=r.symm.trans e;injection e2 with e2
   have:=h.bk hgr (by intro e;cases e);have:=hb.size;omega
 have f2:Ch (fun L=>L=.way k) lab w w2:=Sep.Fr.grown (Sep.Fr.of_below hb) hg fun b hb2=> .inl (h.lw k hk b hb2)
 have hrow2:w2.ownsRow W.heap.size 219 3 (.slice (some ⟨g,0,none⟩) N.ak.length c) N.ak.length (cells N):=h.row' f2 (by intro e;cases e)
 obtain⟨aJ,hl',ag,hin⟩:∃aJ:Nat->Lb,(∀b,v'.ownBlock=some b->aJ b=.way k)/\(∀b,b<w.heap.size->aJ b=lab b)/\∀b,aJ b≠.no->b<w2.heap.size:=by
  rcases hv with r|r
  ·exact⟨lab,fun b e=>h.lw k hk b (r.symm.trans e),fun _ _=>rfl,fun b hb3=>Nat.lt_of_lt_of_le (h.bK b hb3) (Nat.le_trans hb.size hg.size)⟩
  ·refine⟨fS lab w1.heap.size (.way k),fun b e=>?_,fun b hb3=>pC (by have:=hb.size;omega),fun b hb3=>?_⟩
   ·have e2:=r.symm.trans e;injection e2 with e2
    rw[←e2];exact zV _ _ _
   ·by_cases e:b=w1.heap.size
    ·exact e▸(hgv _ r).1
    ·rw[pC e]at hb3;exact Nat.lt_of_lt_of_le (h.bK b hb3) (Nat.le_trans hb.size hg.size)
 refine⟨aJ,h.step f no ag (fun b hb3=>by rw[hs];exact hin b hb3) (h.fC f (by rintro(e|e)<;>cases e)) ?_ (fun a ha=>?_) (fun a ha z hz=>?_) (fun a ha=>h.je f ha (by rintro(e|e)<;>cases e) (by rintro(e|e)<;>cases e)) (h.map' f (by rintro(e|e)<;>cases e)) (h.jc f (by rintro(e|e)<;>cases e)) (fun b e=>pD h ag (h.lr b e) (by intro e;cases e)) (fun a ha b e=>?_) (fun a ha=>pD h ag (h.lP a ha) (by intro e;cases e)) (fun a ha=>pD h ag (h.lE a ha) (by intro e;cases e)) (fun b e=>pD h ag (h.lq b e) (by intro e;cases e))⟩
 ·have:=(World.ownsRow.stored hrow2 (k*3+1) v').1
  have e:=UX (N:=N) (M:=N.lead k y v') rfl hk (i:=1) (u:=v') (by omega) (fun a ha=>by
   show[_,upd N.wv k v' a,_]= _;rw[bu ha]
   rfl) (by
   show[_,upd N.wv k v' k,_]= _;rw[upd_same]
   rfl)
  rw[e]at this;exact this
 ·show(w2.setCell ⟨g,k*3+1,none⟩ v').ownsRow _ _ 3 (upd N.wv k v' a) (upd N.Ys k (N.Ys k++[y]) a).length ((upd N.Ys k (N.Ys k++[y]) a).flatMap yc)
  by_cases e:a=k
  ·subst e;rw[upd_same,upd_same,List.length_append,List.flatMap_append];refine Sep.bS (w:=w2) (by simpa using hown) fun b hb3=>Below.heap_setCell _ _ _ _ fun e2=>?_
   exact j6 (hb3.trans (congrArg some e2))
  ·rw[bu e,bu e];refine h.jf f ha ?_;rintro(e2|e2)
   ·injection e2 with e2
    exact e e2
   ·cases e2
 ·have hz':z∈upd N.Ys k (N.Ys k++[y]) a:=hz
  by_cases e:a=k
  ·subst e;rw[upd_same]at hz';rcases List.mem_append.1 hz' with r|r
   ·exact h.ry a ha z r
   ·rw[List.mem_singleton]at r;exact r▸hy
  ·rw[bu e]at hz';exact h.ry a ha z hz'
 ·have e':(upd N.wv k v' a).ownBlock=some b:=e
  by_cases ea:a=k
  ·subst ea;rw[upd_same]at e';exact hl' b e'
  ·rw[bu ea]at e';exact pD h ag (h.lw a ha b e') (by intro e;cases e)
theorem NP.wrote(h:NP W K G q N lab cv qv w){k}(hk:k<N.ak.length){B}(hs:az (N.D k) (N.E k) (G.terms.length+1) B w')(hK:aO (N.E k) w w'):
  NP W K G q {N with S:=upd N.S k B} lab cv qv w'/\Stp lab lab w w':=by
 have f:Ch (fun L=>L=.sE k) lab w w':=⟨hK.os,hK.tape,hK.output,hK.size,fun b hb hc=>hK.block b hb fun e=>hc (e▸h.lE k hk)⟩;refine h.step f (by intro e;cases e) (fun _ _=>rfl) (fun b hb=>Nat.lt_of_lt_of_le (h.bK b hb) hK.size) (h.fC f (by intro e;cases e)) (h.row' f (by intro e;cases e)) (fun a ha=>h.jf f ha (by intro e;cases e)) h.ry (fun a ha=>?_) (h.map' f (by intro e;cases e)) (h.jc f (by intro e;cases e)) h.lr h.lw h.lP h.lE h.lq;show az (N.D a) (N.E a) _ (upd N.S k B a) w'
 by_cases e:a=k
 ·subst e;rw[upd_same];exact hs
 ·rw[bu e];exact h.je f ha (by intro e;cases e) (by intro e2;injection e2 with e2;exact e e2)
theorem NP.wait(h:NP W K G q N lab cv qv w){k}(hk:k<N.ak.length){g c}(hcv:cv=.slice (some ⟨g,0,none⟩) N.ak.length c)(b):
  NP W K G q {N with Wt:=upd N.Wt k b} lab cv qv (w.setCell ⟨g,k*3+2,none⟩ (.bool b))/\Stp lab lab w (w.setCell ⟨g,k*3+2,none⟩ (.bool b)):=by
 subst hcv;have hgr:=h.lr g rfl;have f:Ch (fun L=>L=.row) lab w (w.setCell ⟨g,k*3+2,none⟩ (.bool b)):=Sep.Fr.setCell (S:=fun b=>lab b=.row) (.refl _ _) _ hgr _;have hs:(w.setCell ⟨g,k*3+2,none⟩ (.bool b)).heap.size=w.heap.size:=by simp[World.setCell]
 refine h.step f (by intro e;cases e) (fun _ _=>rfl) (fun b hb=>by rw[hs];exact h.bK b hb) (h.fC f (by intro e;cases e)) ?_ (fun a ha=>h.jf f ha (by intro e;cases e)) h.ry (fun a ha=>h.je f ha (by intro e;cases e) (by intro e;cases e)) (h.map' f (by intro e;cases e)) (h.jc f (by intro e;cases e)) h.lr h.lw h.lP h.lE h.lq;have:=(World.ownsRow.stored h.row (k*3+2) (.bool b)).1
 have e:=UX (N:=N) (M:={N with Wt:=upd N.Wt k b}) rfl hk (i:=2) (u:=.bool b) (by omega) (fun a ha=>by
  show[_,_,Value.bool (upd N.Wt k b a)]= _;rw[bu ha]
  rfl) (by
  show[_,_,Value.bool (upd N.Wt k b k)]= _;rw[upd_same]
  rfl)
 rw[e]at this;exact this
theorem YM(K)(G)(n)(cv qv u):(nb K G n cv qv).setIfInBounds 7 u=nb K G n cv u:=by simp[nb]
theorem zVU(K)(G)(n)(cv qv u):(nb K G n cv qv).setIfInBounds 5 u=nb K G n u qv:=by simp[nb]
theorem Oe(K)(G)(n)(cv qv):(nb K G n cv qv).size=8:=rfl
theorem NP.push(h:NP W K G q N lab cv qv w){w1 w2}(hb:Below w.heap.size w w1){k}(hown:w2.ownsRow W.heap.size 3 1 lK (N.qs.length+1) (bD N.qs++[.int .i64 (k:Int)]))(hg:w1.grownBy w2 qv.ownBlock)(hv:lK.ownBlock=qv.ownBlock\/lK.ownBlock=some w1.heap.size):
  ∃aJ,NP W K G q {N with qs:=N.qs++[k]} aJ cv lK (w2.setCell ⟨K.p,7,none⟩ lK)/\Stp lab aJ w (w2.setCell ⟨K.p,7,none⟩ lK):=by
 have f2:Ch (fun L=>L=.qV) lab w w2:=Sep.Fr.grown (Sep.Fr.of_below hb) hg fun b hb2=> .inl (h.lq b hb2)
 have f:Ch (fun L=>L=.qV\/L=.box) lab w (w2.setCell ⟨K.p,7,none⟩ lK):=Sep.Fr.setCell (S:=fun b=>lab b=.qV\/lab b=.box) (f2.mono fun b e=> .inl e) _ (.inr h.lp) _;have no:¬((fun L=>L=Lb.qV\/L=Lb.box) Lb.no):=by rintro(e|e)<;>cases e
 have hs:(w2.setCell ⟨K.p,7,none⟩ lK).heap.size=w2.heap.size:=by simp[World.setCell]
 have j6:lK.ownBlock≠some K.p:=fun e=>by
  rcases hv with r|r
  ·have:=h.lq K.p (r.symm.trans e);rw[h.lp]at this;cases this
  ·have e2:=r.symm.trans e;injection e2 with e2
   have:=h.bk h.lp (by intro e;cases e);have:=hb.size;omega
 obtain⟨aJ,hl',ag,hin⟩:∃aJ:Nat->Lb,(∀b,lK.ownBlock=some b->aJ b=.qV)/\(∀b,b<w.heap.size->aJ b=lab b)/\∀b,aJ b≠.no->b<w2.heap.size:=by
  rcases hv with r|r
  ·exact⟨lab,fun b e=>h.lq b (r.symm.trans e),fun _ _=>rfl,fun b hb3=>Nat.lt_of_lt_of_le (h.bK b hb3) (Nat.le_trans hb.size hg.size)⟩
  ·refine⟨fS lab w1.heap.size .qV,fun b e=>?_,fun b hb3=>pC (by have:=hb.size;omega),fun b hb3=>?_⟩
   ·have e2:=r.symm.trans e;injection e2 with e2
    rw[←e2];exact zV _ _ _
   ·by_cases e:b=w1.heap.size
    ·exact e▸(hown.lt _ r).2
    ·rw[pC e]at hb3;exact Nat.lt_of_lt_of_le (h.bK b hb3) (Nat.le_trans hb.size hg.size)
 refine⟨aJ,h.step f no ag (fun b hb3=>by rw[hs];exact hin b hb3) ?_ (h.row' f (by rintro(e|e)<;>cases e)) (fun a ha=>h.jf f ha (by rintro(e|e)<;>cases e)) h.ry (fun a ha=>h.je f ha (by rintro(e|e)<;>cases e) (by rintro(e|e)<;>cases e)) (h.map' f (by rintro(e|e)<;>cases e)) ?_ (fun b e=>pD h ag (h.lr b e) (by intro e;cases e)) (fun a ha b e=>pD h ag (h.lw a ha b e) (by intro e;cases e)) (fun a ha=>pD h ag (h.lP a ha) (by intro e;cases e)) (fun a ha=>pD h ag (h.lE a ha) (by intro e;cases e)) hl'⟩
 ·have hx:Bk K.p (nb K G (states q).length cv qv) 177 w2:=h.fC f2 (by intro e;cases e);have:=hx.set (j:=7) (by rw[Oe];omega) lK;rw[YM]at this;exact this
 ·show(w2.setCell ⟨K.p,7,none⟩ lK).ownsRow _ _ 1 lK (N.qs++[k]).length (bD (N.qs++[k]));rw[List.length_append,show bD (N.qs++[k])=bD N.qs++[.int .i64 (k:Int)]by simp[bD]];exact Sep.bS hown fun b hb3=>Below.heap_setCell _ _ _ _ fun e2=>j6 (hb3.trans (congrArg some e2))
theorem NP.shift(h:NP W K G q N lab cv qv w){a}{c}(hq:qv=.slice a N.qs.length c)(h0:0<N.qs.length):
  NP W K G q {N with qs:=N.qs.dropLast} lab cv (.slice a (N.qs.length-1) c) (w.setCell ⟨K.p,7,none⟩ (.slice a (N.qs.length-1) c))/\Stp lab lab w (w.setCell ⟨K.p,7,none⟩ (.slice a (N.qs.length-1) c)):=by
 have f:Ch (fun L=>L=.box) lab w (w.setCell ⟨K.p,7,none⟩ (.slice a (N.qs.length-1) c)):=Sep.Fr.setCell (S:=fun b=>lab b=.box) (.refl _ _) _ h.lp _;have hs:(w.setCell ⟨K.p,7,none⟩ (.slice a (N.qs.length-1) c)).heap.size=w.heap.size:=by simp[World.setCell]
 have zt:=h.queue;have Ko:=h.lq;rw[hq]at zt Ko;rcases zt.2 with⟨_,h1⟩|⟨g,cap,cur,e,hbs,hg,hnc,hcm,hcs,htake⟩
 ·omega
 ·simp only[Value.slice.injEq,true_and]at e;obtain⟨rfl,rfl⟩:=e;have hgb:lab g=.qV:=Ko g rfl;refine h.step f (by intro e;cases e) (fun _ _=>rfl) (fun b hb=>by rw[hs];exact h.bK b hb) ?_ (h.row' f (by intro e;cases e)) (fun a ha=>h.jf f ha (by intro e;cases e)) h.ry (fun a ha=>h.je f ha (by intro e;cases e) (by intro e;cases e)) (h.map' f (by intro e;cases e)) ?_ h.lr h.lw h.lP h.lE (fun b e=>?_)
  ·have:=h.box.set (j:=7) (by rw[Oe];omega) (.slice (some ⟨g,0,none⟩) (N.qs.length-1) c);rw[YM]at this;exact this
  ·show(w.setCell ⟨K.p,7,none⟩ (.slice (some ⟨g,0,none⟩) (N.qs.length-1) c)).ownsRow _ _ 1 (.slice (some ⟨g,0,none⟩) (N.qs.length-1) c) N.qs.dropLast.length (bD N.qs.dropLast);have F8:g≠K.p:=fun e=>by rw[e,h.lp]at hgb;cases hgb
   refine Sep.bS (w:=w) ?_ fun b hb3=>Below.heap_setCell _ _ _ _ fun e2=>?_
   ·rw[List.length_dropLast];refine⟨by rw[Hn,List.length_dropLast];omega,.inr ⟨g,c,cur,rfl,hbs,hg,by omega,hcm,hcs,?_⟩⟩
    have e1:bD N.qs.dropLast=(bD N.qs).take (N.qs.length-1):=by
     unfold bD;rw[List.dropLast_eq_take,List.map_take]
    rw[e1,←htake,List.take_take]
    congr 1
    omega
   ·simp only[Value.ownBlock,Option.some.injEq]at hb3;exact F8 (hb3.trans e2)
  ·exact Ko b (by simpa[Value.ownBlock]using e)
theorem NP.more(h:NP W K G q N lab cv qv w){x}(hx:x∉N.ak){w1 w2 w3}(hm:jz K.mb (N.ak.length+1) (fun y=>if y=x then some (N.ak.length:Int)else ez N.ak y) w1)(ht:w.mapTurned w1 K.mb)
  {P D} (hs:az P D (G.terms.length+1) (fun _=>false) w2) (hP:w1.heap.size<=P) (hD:w1.heap.size<=D) (hb:Below w1.heap.size w1 w2) {w2'} (hb2:Below w2.heap.size w2 w2') {gS}
  (hown:w3.ownsRow W.heap.size 219 3 gS (N.ak.length+1) (cells N++[.pointer (some ⟨P,0,none⟩),.slice none 0 0,.bool false])) (hg:w2'.grownBy w3 cv.ownBlock) (hv:gS.ownBlock=cv.ownBlock\/gS.ownBlock=some w2'.heap.size):
  ∃aJ,NP W K G q (N.cell x P D) aJ gS qv (w3.setCell ⟨K.p,5,none⟩ gS)/\Stp lab aJ w (w3.setCell ⟨K.p,5,none⟩ gS):=by
 have hsz:=(ym ht).size;have xP:=hb.size;have xQ:=hb2.size;have CY:=hg.size;have fm:Ch (fun L=>L=.map) lab w w1:=(ym ht).mono fun b e=>by rw[e];exact h.lm
 have f1:Ch (fun L=>L=.map) lab w w2':=(fm.trans (T:=fun _=>False) (Sep.Fr.of_below hb) (fun b e=>e.elim)).trans (T:=fun _=>False) (Sep.Fr.of_below hb2) (fun b e=>e.elim);have f2:Ch (fun L=>L=.map\/L=.row) lab w w3:=Sep.Fr.grown (f1.mono fun b e=> .inl e) hg fun b e=> .inl (.inr (h.lr b e))
 have f:Ch (fun L=>L=.map\/L=.row\/L=.box) lab w (w3.setCell ⟨K.p,5,none⟩ gS):=Sep.Fr.setCell (S:=fun b=>lab b=.map\/lab b=.row\/lab b=.box) (f2.mono fun b e=>e.imp id .inl) _ (.inr (.inr h.lp)) _;have no:¬((fun L=>L=Lb.map\/L=Lb.row\/L=Lb.box) Lb.no):=by rintro(e|e|e)<;>cases e
 have hsc:(w3.setCell ⟨K.p,5,none⟩ gS).heap.size=w3.heap.size:=by simp[World.setCell]
 have hpl:=h.bk h.lp (by intro e;cases e);have zn:=h.bk h.lm (by intro e;cases e)
 have j6:gS.ownBlock≠some K.p:=fun e=>by
  rcases hv with r|r
  ·have:=h.lr K.p (r.symm.trans e);rw[h.lp]at this;cases this
  ·have e2:=r.symm.trans e;injection e2 with e2
   omega
 have st:∀b,b<w2'.heap.size->cv.ownBlock≠some b->b≠K.p->(w3.setCell ⟨K.p,5,none⟩ gS).heap[b]?=w2'.heap[b]?:=fun b hb3 e e2=>(Below.heap_setCell _ _ _ _ e2).trans (hg.block b hb3 fun e3=>e e3.symm)
 have Di:∀b,w.heap.size<=b->cv.ownBlock≠some b:=fun b hb3 e=>by
  have:=h.bk (h.lr b e) (by intro e;cases e);omega
 have hPD:=hs.apart
 obtain⟨aJ,hl',hlP,hlD,ag,hin⟩:∃aJ:Nat->Lb,(∀b,gS.ownBlock=some b->aJ b=.row)/\aJ P=.sP N.ak.length/\aJ D=.sE N.ak.length/\(∀b,b<w.heap.size->aJ b=lab b)/\∀b,aJ b≠.no->b<w3.heap.size:=by
  have hPl:=hs.inp;have hDl:=hs.ind
  have base:∀b,b<w.heap.size->fS (fS lab P (.sP N.ak.length)) D (.sE N.ak.length) b=lab b:=fun b hb3=>by
   rw[pC (by omega),pC (by omega)]
  have bin:∀b,fS (fS lab P (.sP N.ak.length)) D (.sE N.ak.length) b≠.no->b<w3.heap.size:=fun b hb3=>by
   by_cases e:b=D
   ·omega
   ·rw[pC e]at hb3
    by_cases e2:b=P
    ·omega
    ·rw[pC e2]at hb3;have:=h.bK b hb3;omega
  have bP:fS (fS lab P (.sP N.ak.length)) D (.sE N.ak.length) P=.sP N.ak.length:=by rw[pC hPD,zV]
  rcases hv with r|r
  ·exact⟨_,fun b e=>(base b (h.bk (h.lr b (r.symm.trans e)) (by intro e;cases e))).trans (h.lr b (r.symm.trans e)),bP,zV _ _ _,base,bin⟩
  ·have hr:=(hown.lt _ r).2;refine⟨fS (fS (fS lab P (.sP N.ak.length)) D (.sE N.ak.length)) w2'.heap.size .row,fun b e=>?_,?_,?_,fun b hb3=>?_,fun b hb3=>?_⟩
   ·have e2:=r.symm.trans e;injection e2 with e2
    rw[←e2];exact zV _ _ _
   ·rw[pC (by omega)];exact bP
   ·rw[pC (by omega)];exact zV _ _ _
   ·rw[pC (by omega)];exact base b hb3
   ·by_cases e:b=w2'.heap.size
    ·exact e▸hr
    ·rw[pC e]at hb3;exact bin b hb3
 have hlen:(N.cell x P D).ak.length=N.ak.length+1:=by
  show(N.ak++[x]).length= _;simp
 refine⟨aJ,h.step f no ag (fun b hb3=>by rw[hsc];exact hin b hb3) ?_ ?_ (fun a ha=>?_) (fun a ha z hz=>?_) (fun a ha=>?_) ?_ (h.jc f (by rintro(e|e|e)<;>cases e)) hl' (fun a ha b e=>?_) (fun a ha=>?_) (fun a ha=>?_) (fun b e=>pD h ag (h.lq b e) (by intro e;cases e))⟩
 ·have hx:Bk K.p (nb K G (states q).length cv qv) 177 w3:=h.fC f2 (by rintro(e|e)<;>cases e);have:=hx.set (j:=5) (by rw[Oe];omega) gS;rw[zVU]at this;exact this
 ·rw[hlen]
  have e1:cells (N.cell x P D)=cells N++[.pointer (some ⟨P,0,none⟩),.slice none 0 0,.bool false]:=by
   unfold cells;rw[hlen,List.range_succ,List.flatMap_append]
   congr 1
   ·have:∀l:List Nat,(∀k∈l,k<N.ak.length)->l.flatMap (cc (N.cell x P D))=l.flatMap (cc N):=fun l hl=>by
     induction l with
     |nil=>rfl
     |cons a l ih=>
      have ha:=hl a (List.mem_cons_self ..);rw[List.flatMap_cons,List.flatMap_cons,ih fun k hk=>hl k (List.mem_cons_of_mem _ hk)]
      congr 1
      show[Value.pointer (some ⟨upd N.D N.ak.length P a,0,none⟩),upd N.wv N.ak.length (.slice none 0 0) a,Value.bool (upd N.Wt N.ak.length false a)]=cc N a;rw[bu (by omega),bu (by omega),bu (by omega)]
      rfl
    exact this _ fun k hk=>List.mem_range.1 hk
   ·show[Value.pointer (some ⟨upd N.D N.ak.length P N.ak.length,0,none⟩),upd N.wv N.ak.length (.slice none 0 0) N.ak.length,Value.bool (upd N.Wt N.ak.length false N.ak.length)]++[]= _;rw[upd_same,upd_same,upd_same]
    rfl
  rw[e1];exact Sep.bS hown fun b hb3=>Below.heap_setCell _ _ _ _ fun e2=>j6 (hb3.trans (congrArg some e2))
 ·rw[hlen]at ha;show(w3.setCell ⟨K.p,5,none⟩ gS).ownsRow _ _ 3 (upd N.wv N.ak.length (.slice none 0 0) a) (upd N.Ys N.ak.length [] a).length ((upd N.Ys N.ak.length [] a).flatMap yc)
  by_cases e:a=N.ak.length
  ·subst e;rw[upd_same,upd_same];exact World.ownsRow_nil _ _ _ _
  ·rw[bu e,bu e];exact h.jf f (by omega) (by rintro(e|e|e)<;>cases e)
 ·rw[hlen]at ha;have hz':z∈upd N.Ys N.ak.length [] a:=hz
  by_cases e:a=N.ak.length
  ·subst e;rw[upd_same]at hz';cases hz'
  ·rw[bu e]at hz';exact h.ry a (by omega) z hz'
 ·rw[hlen]at ha;show az (upd N.D N.ak.length P a) (upd N.E N.ak.length D a) _ (upd N.S N.ak.length (fun _=>false) a) _
  by_cases e:a=N.ak.length
  ·subst e;rw[upd_same,upd_same,upd_same];have h1:=hs.inp;have h2:=hs.ind;refine hs.keep (by rw[hsc];omega) ?_ ?_
   ·exact(st P (by omega) (Di P (by omega)) (by omega)).trans (hb2.block P h1)
   ·exact(st D (by omega) (Di D (by omega)) (by omega)).trans (hb2.block D h2)
  ·rw[bu e,bu e,bu e];exact h.je f (by omega) (by rintro(e|e|e)<;>cases e) (by rintro(e|e|e)<;>cases e)
 ·have e1:jz K.mb (N.ak.length+1) (ez (N.ak++[x])) w1:=hm.eq fun y=>(zOB hx y).symm
  rw[hlen];refine e1.keep ?_
  have hne:cv.ownBlock≠some K.mb:=fun e=>by
   have:=h.lr K.mb e;rw[h.lm]at this;cases this
  have Ct:K.mb≠K.p:=fun e=>by
   have:=h.lm;rw[e,h.lp]at this;cases this
  exact(st K.mb (by omega) hne Ct).trans ((hb2.block K.mb (by omega)).trans (hb.block K.mb (by omega)))
 ·rw[hlen]at ha;have e':(upd N.wv N.ak.length (.slice none 0 0) a).ownBlock=some b:=e
  by_cases ea:a=N.ak.length
  ·subst ea;rw[upd_same]at e';cases e'
  ·rw[bu ea]at e';exact pD h ag (h.lw a (by omega) b e') (by intro e;cases e)
 ·rw[hlen]at ha;show aJ (upd N.D N.ak.length P a)= _
  by_cases e:a=N.ak.length
  ·subst e;rw[upd_same];exact hlP
  ·rw[bu e];exact pD h ag (h.lP a (by omega)) (by intro e;cases e)
 ·rw[hlen]at ha;show aJ (upd N.E N.ak.length D a)= _
  by_cases e:a=N.ak.length
  ·subst e;rw[upd_same];exact hlD
  ·rw[bu e];exact pD h ag (h.lE a (by omega)) (by intro e;cases e)
end
def gM(W:World)(K:Fk)(G:ai)(q:Whole)(N:Nt)(S:Nat->Prop)(w:World):Prop:=∃lab cv qv,NP W K G q N lab cv qv w/\S=fun b=>lab b≠.no
def P8(W:World)(K:Fk)(G:ai)(q:Whole)(M:Nt)(r:Value)(S:Nat->Prop)(w:World)(e:Ending)(w':World):Prop:=e=.returned r/\∃T,gM W K G q M T w'/\Sep.Fr S w w'/\Sep.Ext T S w
theorem gM.went{W}{K}{G}{q}{N}{S}{w w'}(h:gM W K G q N S w)(hb:Below w.heap.size w w'):gM W K G q N S w':=by
 obtain⟨lab,cv,qv,h,e⟩:=h;exact⟨lab,cv,qv,h.went hb,e⟩
theorem gM.bK{W}{K}{G}{q}{N}{S}{w}(h:gM W K G q N S w):Sep.di S w:=by
 obtain⟨lab,cv,qv,h,rfl⟩:=h;exact h.bK
theorem gM.fr{W}{K}{G}{q}{N}{S}{w}(h:gM W K G q N S w):Sep.Fr (PM K) W w:=by
 obtain⟨lab,cv,qv,h,e⟩:=h;exact h.fr
end Lk
namespace Lk
open Go.RowKit Go.Maps
open Gr (ai)
open Im
open Au
open Bt (eP gains)
open Rw (Bk)
section
variable {W:World} {K:Fk} {G:ai} {q:Whole} {N M:Nt} {lab aJ:Nat->Lb} {cv qv gS lK:Value} {w w':World} {ch:Lb->Prop}
theorem NP.od{g c n}(h:NP W K G q N lab (.slice (some ⟨g,0,none⟩) n c) qv w){k}(hk:k<N.ak.length):w.cell? ⟨g,k*3,none⟩=some (.pointer (some ⟨N.D k,0,none⟩))/\w.cell? ⟨g,k*3+1,none⟩=some (N.wv k)/\w.cell? ⟨g,k*3+2,none⟩=some (.bool (N.Wt k))/\∀j,w.frozen? ⟨g,j,none⟩=false:=by
 obtain⟨g',c',e,_,_,h1,h2,h3,h4⟩:=h.cell hk;simp only[Value.slice.injEq,Option.some.injEq,Addr.mk.injEq,and_true]at e;obtain⟨rfl,_,_⟩:=e;exact⟨h1,h2,h3,h4⟩
theorem NP.mr(h:NP W K G q N lab cv qv w){w1 w2}(hb:Below w.heap.size w w1)(hg:w1.grownBy w2 qv.ownBlock):Bk K.p (nb K G (states q).length cv qv) 177 w2:=
 h.fC (ch:=fun L=>L=.qV) (Sep.Fr.grown (Sep.Fr.of_below hb) hg fun b hb2=> .inl (h.lq b hb2)) (by intro e;cases e)
theorem NP.nv(h:NP W K G q N lab cv qv w){w1 w2}(hb:Below w.heap.size w w1)(hg:w1.grownBy w2 qv.ownBlock):w2.cell? ⟨K.p,7,none⟩=some qv/\w2.frozen? ⟨K.p,7,none⟩=false:=
 ⟨(h.mr hb hg).cell rfl,(h.mr hb hg).free 7⟩
theorem NP.pg{g c n}(h:NP W K G q N lab (.slice (some ⟨g,0,none⟩) n c) qv w){k}(hk:k<N.ak.length){w1 w2}(hb:Below w.heap.size w w1)(hg:w1.grownBy w2 (N.wv k).ownBlock):w2.cell? ⟨g,k*3+1,none⟩=some (N.wv k)/\w2.frozen? ⟨g,k*3+1,none⟩=false:=by
 have hc:=h.od hk;have hgr:=h.lr g rfl;have f:Ch (fun L=>L=.way k) lab w w2:=Sep.Fr.grown (Sep.Fr.of_below hb) hg fun b hb2=> .inl (h.lw k hk b hb2)
 have e:=h.keep f hgr (by intro e;cases e) (by intro e;cases e);exact⟨(World.cell?_of_block (a:=⟨g,k*3+1,none⟩) e).trans hc.2.1,(World.frozen?_of_block (a:=⟨g,k*3+1,none⟩) e).trans (hc.2.2.2 _)⟩
theorem NP.px(h:NP W K G q N lab cv qv w){w1 w2 w2' w3}(ht:w.mapTurned w1 K.mb)(hb:Below w1.heap.size w1 w2)(hb2:Below w2.heap.size w2 w2')(hg:w2'.grownBy w3 cv.ownBlock):w3.cell? ⟨K.p,5,none⟩=some cv/\w3.frozen? ⟨K.p,5,none⟩=false:=by
 have fm:Ch (fun L=>L=.map) lab w w1:=(ym ht).mono fun b e=>by rw[e];exact h.lm
 have f1:Ch (fun L=>L=.map) lab w w2':=(fm.trans (T:=fun _=>False) (Sep.Fr.of_below hb) (fun b e=>e.elim)).trans (T:=fun _=>False) (Sep.Fr.of_below hb2) (fun b e=>e.elim);have f2:Ch (fun L=>L=.map\/L=.row) lab w w3:=Sep.Fr.grown (f1.mono fun b e=> .inl e) hg fun b e=> .inl (.inr (h.lr b e))
 have hx:Bk K.p (nb K G (states q).length cv qv) 177 w3:=h.fC f2 (by rintro(e|e)<;>cases e);exact⟨hx.cell rfl,hx.free 5⟩
theorem NP.nk(h:NP W K G q N lab cv qv w){w1}(ht:w.mapTurned w1 K.mb):Bk K.p (nb K G (states q).length cv qv) 177 w1/\w1.ownsRow W.heap.size 219 3 cv N.ak.length (cells N)/\w.heap.size<=w1.heap.size:=by
 have fm:Ch (fun L=>L=.map) lab w w1:=(ym ht).mono fun b e=>by rw[e];exact h.lm
 exact⟨h.fC fm (by intro e;cases e),h.row' fm (by intro e;cases e),(ym ht).size⟩
end
theorem zVD{m}{N:Nt}{k}{F}(h:gains (N.S k) m F=false):N.give m k F={N with S:=upd N.S k (eP (N.S k) m F)}:=by
 unfold Nt.give;rw[h]
 rfl
theorem zTL{m}{N:Nt}{k}{F}(h:N.Wt k=true):N.give m k F={N with S:=upd N.S k (eP (N.S k) m F)}:=by
 unfold Nt.give;rw[h];simp
theorem zTK{m}{N:Nt}{k}{F}(h:gains (N.S k) m F=true)(hw:N.Wt k=false):N.give m k F={N with S:=upd N.S k (eP (N.S k) m F),Wt:=upd N.Wt k true,qs:=N.qs++[k]}:=by
 unfold Nt.give;rw[h,hw]
 rfl
end Lk
namespace Bt
open Go.RowKit
theorem zN1(B)(n k):wd (more B n B) k=0:=wK.2 fun j _=>by
 unfold more;cases B (64*k+j)<;>simp
theorem zMh(B)(n k):bits BinOp.andNot IntKind.u64 (bits BinOp.and IntKind.u64 (wd B k:Int) (wd (under n) k:Int)) (wd B k:Int)=0:=by
 rw[UQ B B n k,zN1]
 rfl
def Xm(p d n:Nat)(B:Nat->Bool)(w wr:World):Prop:=az p d n B wr/\aO d w wr
theorem Og{p d n}{B}(w)(h:az p d n B w):
  Calls Tryz.prog 164 #[.pointer (some ⟨p,0,none⟩),.pointer (some ⟨p,0,none⟩)] w (Wrote false p d n B w):=by
 have HS:=af (zW w (.at_ h));have hs:sz n<=64:=uO h.upto.1;have H0:Hid (Xm p d n B w w):=⟨h,.refl _ _⟩;clear h;go_enter Tryz.func164,Tryz.ntmps164;go_wp2_with (go_at_call 187;refine HS.out.mono ?_;rintro e w' ⟨rfl,rfl⟩);go_loopw [5,10] (fun c i wr=>∃k:Nat,k<=sz n/\i=.int .i64 k/\c=.bool false/\Xm p d n B w wr) (fun _ i _=>sz n-(intOf i).toNat)
 case atStart=>exact⟨0,Nat.zero_le _,rfl,rfl,H0.out⟩
 case round=>
  obtain⟨k,hk,rfl,rfl,hi⟩:=hrel;have HI:=af hi;clear hi
  by_cases hlt:k<sz n
  ·have HW:=af (fun q=>flip (Hu (wr.drewN q) (.at_ (HI.out.1.drewN q)) k));have HA:=af (fun q=>flip (TD (wr.drewN q) (HI.out.1.drewN q) k hlt));have c0:=HI.out.1.words;have c1:=HI.out.1.holds k hlt;have c2:=HI.out.1.free k hlt;have hE:=zMh B n k;go_wp2_with fail;go_quiet (first|(go_at_call 188;exact Calls.quiet_of_same (HW.out _))|(go_at_call 189;exact Calls.quiet_of_same (HA.out _)));go_wp2;go_roundw
   case rel=>exact⟨k+1,by omega,by go_num,rfl,⟨HI.out.1.drewN _,HI.out.2.drewN _⟩⟩
   case measure=>simp[intOf];omega
  ·go_wp2;go_ret;exact⟨rfl,HI.out.1,HI.out.2⟩
end Bt
namespace Bt
open Go.RowKit
def pre(B:Nat->Bool)(k:Nat):List Nat:=(List.range k).filter B
theorem zUF(B)(k):(pre B k).length<=k:=UG B k
theorem zUC(B):pre B 4096=els B:=rfl
theorem Oh{B}{k}:∀d,(∀j,k<=j->j<k+d->B j=false)->pre B (k+d)=pre B k
 |0,_=>rfl
 |d+1,h=>by
  have ih:=Oh d fun j h1 h2=>h j h1 (by omega)
  have hb:=h (k+d) (by omega) (by omega);unfold pre at*;rw[←Nat.add_assoc,List.range_succ,List.filter_append,ih];simp[hb]
theorem zUE{B}{k m}(hk:k<=m)(hb:B m=true)(h:∀j,k<=j->j<m->B j=false):pre B (m+1)=pre B k++[m]:=by
 obtain⟨d,rfl⟩:∃d,m=k+d:=⟨m-k,by omega⟩;have e:=Oh d h;unfold pre at*;rw[List.range_succ,List.filter_append,e];simp[hb]
theorem zUD{B}{k}(hk:k<=4096)(h:∀j,j<4096->k<=j->B j=false):pre B k=els B:=by
 obtain⟨d,hd⟩:∃d,4096=k+d:=⟨4096-k,by omega⟩;rw[←zUC,hd];exact(Oh d fun j h1 h2=>h j (by omega) h1).symm
def iv(i:Nat):Value:=.int .i64 i
theorem zJU{w:World}{b o}{v}(h:w.cell? ⟨b,o,none⟩=some v):b<w.heap.size:=by
 refine Classical.byContradiction fun hn=>?_
 have:w.heap[b]?=none:=Array.getElem?_eq_none (by omega);simp[World.cell?,this]at h
theorem dA.below{v}{n}{B}{w w'}(h:dA v n B w)(hb:Below w.heap.size w w'):dA v n B w':=by
 cases h with
 |nil=>exact .nil _
 |at_ h=>exact .at_ (h.below hb h.inp h.ind)
theorem jA.below{w w'}{m}(h:jA w)(hb:Below m w w')(hm:0<m):jA w':=fun j hj=>by
 rw[hb.cell (p:=⟨0,j,none⟩) hm];exact h j hj
theorem jA.pos{w}(h:jA w):0<w.heap.size:=zJU (h 0 (by decide))
def Listed(B:Nat->Bool)(w:World)(e:Ending)(w':World):Prop:=
 ∃v,e=.returned v/\w'.ownsRow w.heap.size 3 1 v (els B).length ((els B).map iv)/\Below w.heap.size w w'
theorem pB:(Tryz.prog.info? 3).map (fun i=>(i.zero,i.size,i.bytes))=some (some (.int .i64 0),1,8):=by kernel_rfl
def zSd(B:Nat->Bool)(w:World)(g:Nat)(v i:Value)(wr:World):Prop:=
 ∃k,k<=4096/\g=4096-k/\i=.int .i64 (next B (k:Int))/\wr.ownsRow w.heap.size 3 1 v (pre B k).length ((pre B k).map iv)/\Below w.heap.size w wr
theorem Hk{v:Value}{n:Nat}{B:Nat->Bool}(w:World)(h:dA v n B w)(hT:jA w):
  Calls Tryz.prog 141 #[v] w (Listed B w):=by
 obtain⟨i0,hi,hz0,hz1,hz2⟩:=info_parts pB;have HC:=af (zMy w h);have HV:=af h;have HT:=af hT;have hl:=zTA B;clear h hT;go_enter Tryz.func141,Tryz.ntmps141;go_wp2_with (first|(go_at_call 167;refine HC.out.mono ?_;rintro e w' ⟨rfl,rfl⟩)|(refine wpList_make_own _ rfl _ _ 29 rfl w.heap.size 3 i0 (.int .i64 0) 1 Tryz.underlying29 hi hz0 hz1 .i64 .i64 _ (els B).length rfl rfl rfl (by rw[hz2];omega) (by unfold maxLen;omega) (Nat.le_refl _) ?_));intro w1 hown hg;have HO:=af hown;have IZ:=af ((Below.refl w.heap.size w).grown hg (Nat.le_refl _) (by simp));have HN:=af (WA w1 (HV.out.below IZ.out) (HT.out.below IZ.out HT.out.pos) 0 (by omega));clear hown hg;go_wp2_with (go_at_call 168;refine HN.out.mono ?_;rintro e w' ⟨rfl,rfl⟩);go_loopg [3,4] 4096 (fun g s i wr=>zSd B w g s i wr)
 case atStart=>exact⟨0,by omega,by omega,rfl,HO.out,IZ.out⟩
 case round=>
  obtain⟨k,hk,hg,hi4,hown,hb⟩:=hrel;have HG:=af hg;have yZ:=af hown;have HB:=af hb;clear hg hown hb;rcases zTr (B:=B) (k:Int)with⟨hn,hno⟩|⟨m,hn,hm,hkm,J9,hno⟩
  ·rw[hn]at hi4;subst hi4;have HE:=af (zUD hk fun j h1 h2=>hno j h1 (by omega));clear hn hno;go_wp2;go_ret;exact⟨_,rfl,by rw[←HE.out];exact yZ.out,HB.out⟩
  ·rw[hn]at hi4;subst hi4;have HE:=af (zUE (k:=k) (by omega) J9 fun j h1 h2=>hno j (by omega) h2);have hp:=zUF B k;clear hn hno J9;go_wp2_with (at_builtin;refine wpList_append_own _ rfl _ _ 29 rfl w.heap.size 3 i0 (.int .i64 0) 1 8 Tryz.underlying29 hi hz0 hz1 hz2 rfl (by decide) _ _ _ rfl (yZ.out.alloc _) ⟨wr.heap.size,0,none⟩ 1 1 [iv m] rfl rfl ?c1 ?c2 ?c3 ?c4 ?c5 ?_)
   case c1=>
    intro j u hj
    match j,hj with
    |0,hj=>simp at hj;subst hj;simp[Addr.add,iv]
   case c2=>intro u hu;simp at hu;subst hu;rfl
   case c3=>unfold maxLen;omega
   case c4=>omega
   case c5=>have:=HB.out.size;simp;omega
   intro v' w2 hown' hgrow _;have ZM:=af (show w2.ownsRow w.heap.size 3 1 v' (pre B (m+1)).length ((pre B (m+1)).map iv)by rw[HE.out];simpa using hown');have jV:Hid (Below w.heap.size w w2):=(HB.out.alloc HB.out.size _).grown hgrow (by have:=HB.out.size;simp;omega) (fun q hq=>(yZ.out.lt q hq).1);have ZL:=af (WA w2 (HV.out.below jV.out) (HT.out.below jV.out HT.out.pos) ((m:Int)+1) (by omega));clear hown' hgrow;go_wp2_with (go_at_call 168;refine ZL.out.mono ?_;rintro e w' ⟨rfl,rfl⟩);go_roundg (4096-(m+1))
   case measure=>rw[HG.out];omega
   case rel=>exact⟨m+1,by omega,rfl,by rw[show((m+1:Nat):Int)=(m:Int)+1 from by omega],ZM.out,jV.out⟩
end Bt
namespace Lk
open Go.RowKit Go.Maps
open Gr (ai boxed)
open Au
open Bt (eP gains)
def Fq(N:Nt)(k:Nat)(u:Value)(F:Nat->Bool)(w:World):Prop:=(∃m,Bt.cO (N.E k) u m F w)\/(u=.pointer (some ⟨N.D k,0,none⟩)/\F=N.S k)
theorem Ul(B)(n):gains B n B=false:=by
 cases h:gains B n B with
 |false=>rfl
 |true=>
  obtain⟨i,_,h1,h2⟩:=Eb.1 h;rw[h1]at h2;cases h2
theorem zQG{W}{K}{G}{q}{N}{lab}{cv qv}{w}(h:NP W K G q N lab cv qv w){k}(hk:k<N.ak.length){u}{F}(hu:Fq N k u F w):
  Calls Tryz.prog 164 #[.pointer (some ⟨N.D k,0,none⟩),u] w (Bt.Wrote (gains (N.S k) (G.terms.length+1) F) (N.D k) (N.E k) (G.terms.length+1) (eP (N.S k) (G.terms.length+1) F) w):=by
 rcases hu with⟨m,hu⟩|⟨rfl,rfl⟩
 ·exact Bt.ET w (h.sets k hk) hu
 ·rw[Ul,WE (Ul _ _)];exact Bt.Og w (h.sets k hk)
theorem zHu(w:World)(p)(v x)(T):∀j u,[x][j]?=some u->((w.setCell p v).alloc (.cells #[x] T)).cell? ((⟨w.heap.size,0,none⟩:Addr).add j)=some u:=by
 have h:=cell_one_new (w.setCell p v) x T;have e:(w.setCell p v).heap.size=w.heap.size:=by simp[World.setCell]
 rw[e]at h;exact h
theorem zGG(w:World)(p)(v)(o):((w.setCell p v).alloc o).heap.size=w.heap.size+1:=by simp[World.setCell]
theorem M9{W:World}{K:Fk}{G:ai}{q:Whole}{N:Nt}{S:Nat->Prop}(w:World)(h:gM W K G q N S w){k:Nat}(hk:k<N.ak.length)(hC:N.ak.length<=100000000)(hq:N.qs.length<=N.ak.length){u:Value}{F:Nat->Bool}(hu:Fq N k u F w):
  Calls Tryz.prog 139 #[.pointer (some ⟨K.p,0,none⟩),.int .i64 (k:Int),u] w (P8 W K G q (N.give (G.terms.length+1) k F) (.tuple #[]) S w):=by
 obtain⟨lab,cv,qv,h,rfl⟩:=h;have OR:=af (zQG h hk hu);obtain⟨g,c,rfl,hg,Kf,c0,c1,c2,c3⟩:=h.cell hk;obtain⟨aq,cq,rfl⟩:=Rw.cu h.queue;have H:=af h;have p5:=h.eight.2.2.2.2.2.1;have WR:=af (fun w1 hs hK=>h.wrote (w':=w1) (B:=eP (N.S k) (G.terms.length+1) F) hk hs hK);have Bg:W.heap.size<=w.heap.size:=h.fr.size;clear h hu hg Kf c1 c2;cases j6:gains (N.S k) (G.terms.length+1) F with
 |false=>
  have E:=af (zVD j6);rw[j6]at OR;generalize N.give (G.terms.length+1) k F=N' at*;clear j6;go_enter Tryz.func139,Tryz.ntmps139;go_wp2_with (go_at_call 164;refine OR.out.mono ?_;rintro e w1 ⟨rfl,hs,hK⟩;have N1:=af (WR.out w1 hs hK);clear hs hK);refine bodyPost_ret (v:=.tuple #[]) (by simp[results,Tryz.results139,go_sem]) rfl ?_;exact⟨rfl,_,⟨lab,_,_,by rw[E.out];exact N1.out.1,rfl⟩,N1.out.2.fr,N1.out.2.ext⟩
 |true=>
  cases hw:N.Wt k with
  |true=>
   have E:=af (zTL (m:=G.terms.length+1) (F:=F) hw);rw[j6]at OR;have CG:=af (fun w1 (n1:NP W K G q {N with S:=upd N.S k (eP (N.S k) (G.terms.length+1) F)} lab (.slice (some ⟨g,0,none⟩) N.ak.length c) (.slice aq N.qs.length cq) w1)=>(show w1.cell? ⟨g,k*3+2,none⟩=some (.bool true)from by rw[←hw];exact(n1.od hk).2.2.1));generalize N.give (G.terms.length+1) k F=N' at*;clear j6 hw;go_enter Tryz.func139,Tryz.ntmps139;go_wp2_with (go_at_call 164;refine OR.out.mono ?_;rintro e w1 ⟨rfl,hs,hK⟩;have N1:=af (WR.out w1 hs hK);have d2:=CG.out w1 N1.out.1;clear hs hK);refine bodyPost_ret (v:=.tuple #[]) (by simp[results,Tryz.results139,go_sem]) rfl ?_;exact⟨rfl,_,⟨lab,_,_,by rw[E.out];exact N1.out.1,rfl⟩,N1.out.2.fr,N1.out.2.ext⟩
  |false=>
   have E:=af (zTK j6 hw);rw[j6]at OR;have CG:=af (fun w1 (n1:NP W K G q {N with S:=upd N.S k (eP (N.S k) (G.terms.length+1) F)} lab (.slice (some ⟨g,0,none⟩) N.ak.length c) (.slice aq N.qs.length cq) w1)=>(show w1.cell? ⟨g,k*3+2,none⟩=some (.bool false)/\w1.frozen? ⟨g,k*3+2,none⟩=false from⟨by rw[←hw];exact(n1.od hk).2.2.1,(n1.od hk).2.2.2 _⟩));have WT:=af (fun w1 (n1:NP W K G q {N with S:=upd N.S k (eP (N.S k) (G.terms.length+1) F)} lab (.slice (some ⟨g,0,none⟩) N.ak.length c) (.slice aq N.qs.length cq) w1)=>n1.wait hk rfl true);obtain⟨i0,hj,hz0,hz1,hz2⟩:=info_parts Bt.pB;generalize N.give (G.terms.length+1) k F=N' at*;clear j6 hw;go_enter Tryz.func139,Tryz.ntmps139
   go_wp2_with (first
    |(go_at_call 164;refine OR.out.mono ?_;rintro e w1 ⟨rfl,hs,hK⟩;have N1:=af (WR.out w1 hs hK);have d2:=(CG.out w1 N1.out.1).1;have d3:=(CG.out w1 N1.out.1).2;have N2:=af (WT.out w1 N1.out.1);have e7:=N2.out.1.eight.2.2.2.2.2.2.2;have s2:W.heap.size<=w1.heap.size:=N1.out.1.fr.size;clear hs hK)
    | (at_builtin;refine wpList_append_own_at _ rfl _ _ 29 rfl W.heap.size 3 i0 (.int .i64 0) 1 8 Tryz.underlying29 hj hz0 hz1 hz2 rfl (by decide) (.slice aq N.qs.length cq) N.qs.length (bD N.qs) rfl (N2.out.1.queue.alloc _) ⟨w1.heap.size,0,none⟩ 1 1 [.int .i64 (k:Int)] rfl rfl (zHu _ _ _ _ _) (by simp[Value.oneCell']) (by unfold maxLen;omega) (by omega) (by rw[zGG];omega) ?_;intro v' w3 iW hg3 _ hloc;obtain⟨q5,f5⟩:=N2.out.1.nv (boxed _ _) hg3;obtain⟨a',c',rfl⟩:=Rw.cu iW;have N3:=af (N2.out.1.push (boxed _ _) iW hg3 hloc);clear iW hg3 hloc))
   refine bodyPost_ret (v:=.tuple #[]) (by simp[results,Tryz.results139,go_sem]) rfl ?_;obtain⟨aJ,n3,s3⟩:=N3.out;have st:=N1.out.2.trans (N2.out.2.trans s3);exact⟨rfl,_,⟨aJ,_,_,by rw[E.out];exact n3,rfl⟩,st.fr,st.ext⟩
end Lk
namespace Lk
open Go.RowKit Go.Maps
open Gr (ai bg boxed)
open Au
open Rw (gZ)
theorem zQT:(Tryz.prog.info? 214).map (fun i=>(i.zero,i.size,i.bytes))=some (some (.agg #[.pointer none,.bool false,.int .i64 0]),3,24):=by kernel_rfl
theorem zNZ:(Tryz.prog.info? 219).map (fun i=>(i.zero,i.size,i.bytes))=some (some (.agg #[.pointer none,.slice none 0 0,.bool false]),3,40):=by kernel_rfl
theorem zUh(T)(base q)(y)(w:World)(hq:q=w.heap.size)(hb:base<=q):(w.alloc (.cells #[y.v,.bool y.e,.int .i64 (y.to:Int)] T)).ownsRow base T 3 (.slice (some ⟨q,0,none⟩) 1 1) 1 (yc y):=by
 subst hq;exact World.ownsRow_lit w #[y.v,.bool y.e,.int .i64 (y.to:Int)] 1 hb (by decide) (by simp)
theorem zPS{K}{G}{y}(h:oc K G y):∀u∈yc y,u.oneCell'=true:=by
 intro u hu;simp only[yc,List.mem_cons,List.not_mem_nil,or_false]at hu;rcases hu with rfl|rfl|rfl
 ·rcases h with⟨h,_⟩|⟨k,d,_,_,h,_⟩<;>rw[h]<;>rfl
 ·rfl
 ·rfl
def Z7(W:World)(K:Fk)(G:ai)(q:Whole)(N:Nt)(k:Nat)(y:Way)(S:Nat->Prop)(w:World)(e:Ending)(w':World):Prop:=e=.returned (.tuple #[])/\∃v T,gM W K G q (N.lead k y v) T w'/\Sep.Fr S w w'/\Sep.Ext T S w
theorem zQe{W:World}{K:Fk}{G:ai}{q:Whole}{N:Nt}{S:Nat->Prop}(w:World)(h:gM W K G q N S w){k:Nat}(hk:k<N.ak.length)(hC:N.ak.length<=100000000){y:Way}(hy:oc K G y)(hl:(N.Ys k).length<=1000000000):
  Calls Tryz.prog 138 #[.pointer (some ⟨K.p,0,none⟩),.int .i64 (k:Int),.agg #[y.v,.bool y.e,.int .i64 (y.to:Int)]] w (Z7 W K G q N k y S w):=by
 obtain⟨lab,cv,qv,h,rfl⟩:=h;have bX:Below w.heap.size w (w.alloc (.cells #[y.v,.bool y.e,.int .i64 (y.to:Int)] 214)):=boxed _ _;have H:=af (h.went bX);have HB:=af bX;obtain⟨g,c,rfl,hg,Kf,c0,c1,c2,c3⟩:=H.out.cell hk;obtain⟨ay,cy,zx⟩:=Rw.cu (h.ways k hk);rw[zx]at c1;have p5:=H.out.eight.2.2.2.2.2.1;have b0:(w.alloc (.cells #[y.v,.bool y.e,.int .i64 (y.to:Int)] 214)).cell? ⟨w.heap.size,0,none⟩=some y.v:=bg rfl rfl;have b1:(w.alloc (.cells #[y.v,.bool y.e,.int .i64 (y.to:Int)] 214)).cell? ⟨w.heap.size,1,none⟩=some (.bool y.e):=bg rfl rfl;have b2:(w.alloc (.cells #[y.v,.bool y.e,.int .i64 (y.to:Int)] 214)).cell? ⟨w.heap.size,2,none⟩=some (.int .i64 (y.to:Int)):=bg rfl rfl;have Bg:W.heap.size<=w.heap.size:=h.fr.size;obtain⟨i0,hj,hz0,hz1,hz2⟩:=info_parts zQT;have YC:=af (zPS hy);have YO:=af hy;have hgl:g<(w.alloc (.cells #[y.v,.bool y.e,.int .i64 (y.to:Int)] 214)).heap.size:=H.out.bk hg (by intro e;cases e);have hbl:w.heap.size<(w.alloc (.cells #[y.v,.bool y.e,.int .i64 (y.to:Int)] 214)).heap.size:=by simp
 clear h hg Kf c2 hy bX;go_enter Tryz.func138,Tryz.ntmps138;go_wp2_with fail;generalize hw1:w.alloc (.cells #[y.v,.bool y.e,.int .i64 (y.to:Int)] 214)=w1 at*;have hs1:W.heap.size<=w1.heap.size:=Nat.le_trans Bg HB.out.size;have bY:Below w1.heap.size w1 (w1.alloc (.cells #[y.v,.bool y.e,.int .i64 (y.to:Int)] 214)).drew:=(boxed _ _).drew;have BY:=af bY;have RX:=af (H.out.ways k hk |> fun r=>Sep.bS r fun g hg=>bY.block g (r.lt g hg).2);rw[zx]at RX;have ON:=af (show(w1.alloc (.cells #[y.v,.bool y.e,.int .i64 (y.to:Int)] 214)).drew.ownsRow _ _ _ _ _ _ from zUh 214 W.heap.size w1.heap.size y w1 rfl hs1);have hs2:W.heap.size<=(w1.alloc (.cells #[y.v,.bool y.e,.int .i64 (y.to:Int)] 214)).drew.heap.size:=Nat.le_trans hs1 bY.size;have LC:=af (fun(w2:World) (hg:(w1.alloc (.cells #[y.v,.bool y.e,.int .i64 (y.to:Int)] 214)).drew.grownBy w2 (N.wv k).ownBlock)=>H.out.pg hk bY hg);have LE:=af (fun(w2:World) (v':Value) hown (hg:(w1.alloc (.cells #[y.v,.bool y.e,.int .i64 (y.to:Int)] 214)).drew.grownBy w2 (N.wv k).ownBlock) hv=>H.out.lead hk YO.out bY (w2:=w2) (v':=v') hown hg hv rfl);rw[zx]at LC LE;generalize hYs:N.Ys k=Ys at*;clear bY hw1
 go_region_law (first
  | (refine gZ _ (by rfl) _ _ 217 (by rfl) W.heap.size 214 i0 (.agg #[.pointer none,.bool false,.int .i64 0]) 3 24 Tryz.underlying217 hj hz0 hz1 hz2 rfl (by decide) (.slice ay Ys.length cy) Ys.length (Ys.flatMap yc) (by rfl) RX.out W.heap.size (.slice (some ⟨w1.heap.size,0,none⟩) 1 1) 1 (yc y) (by rfl) ON.out YC.out (by unfold maxLen;omega) (by omega) hs2 ?_;intro v4 w4 iX hg4 mg;obtain⟨a4,c4,rfl⟩:=Rw.cu iX;obtain⟨q9,f9⟩:=LC.out w4 hg4;have R4:=af (LE.out w4 _ iX hg4 mg);clear iX hg4 mg))
 all_goals
  go_wp2_with fail;refine bodyPost_ret (v:=.tuple #[]) (by simp[results,Tryz.results138,go_sem]) rfl ?_;obtain⟨aJ,n3,s3⟩:=R4.out;have st:=(Stp.of_below lab HB.out).trans s3;exact⟨rfl,_,_,⟨aJ,_,_,n3,rfl⟩,st.fr,st.ext⟩
end Lk
namespace Lk
open Go.RowKit Go.Maps
open Gr (aN)
open Bt (az cE aO cap)
def il(m:Nat)(L:List Int):Nat->Bool:=fun u=>decide (u<m/\(u:Int)∈L)
theorem XD(m):il m []=fun _=>false:=by
 funext u
 simp[il]
theorem zTY(m)(L)(t):cE (il m L) m t=il m (L++[t]):=by
 funext u
 unfold cE;split
 ·rename_i h;unfold Bt.put il;rw[Bool.eq_iff_iff,Bool.or_eq_true,decide_eq_true_iff,decide_eq_true_iff,decide_eq_true_iff,List.mem_append,List.mem_singleton];constructor
  ·rintro(⟨h1,h2⟩|h1)
   ·exact⟨h1,.inl h2⟩
   ·exact⟨by omega,.inr (by omega)⟩
  ·rintro⟨h1,h2|h2⟩
   ·exact .inl ⟨h1,h2⟩
   ·exact .inr (by omega)
 ·rename_i h;unfold il;rw[Bool.eq_iff_iff,decide_eq_true_iff,decide_eq_true_iff,List.mem_append,List.mem_singleton];constructor
  ·rintro⟨h1,h2⟩;exact⟨h1,.inl h2⟩
  ·rintro⟨h1,h2|h2⟩
   ·exact⟨h1,h2⟩
   ·exact absurd ⟨by omega,by omega⟩ h
def NQ(m:Nat)(B:Nat->Bool)(w:World)(e:Ending)(w':World):Prop:=∃P D,e=.returned (.pointer (some ⟨P,0,none⟩))/\w.heap.size<=P/\w.heap.size<=D/\az P D m B w'/\Below w.heap.size w w'
structure oK (m P D:Nat) (B:Nat->Bool) (w wr:World):Prop where
 hP:w.heap.size<=P
 hD:w.heap.size<=D
 set:az P D m B wr
 below:Below w.heap.size w wr
theorem oK.put{m P D}{L}{w wr w'}(h:oK m P D (il m L) w wr){t}(hs:az P D m (cE (il m L) m t) w')(hk:aO D wr w'):oK m P D (il m (L++[t])) w w':=
 ⟨h.hP,h.hD,by rw[←zTY];exact hs,h.below.trans (hk.below h.hD h.below.size)⟩
theorem zS1{m:Nat}(h:m<=4096):cap (m:Int)=m:=by unfold cap;omega
theorem Ol(T p:Nat)(L)(a)(c)(w)(hT:T<=1000)(hp:w.cell? ⟨p,1,none⟩=some (.int .i64 (T:Int)))(hR:Sep.Reads a (aN L) w)(hl:L.length<=1000000)(hL:∀t∈L,t<=9223372036854775807):
  Calls Tryz.prog 140 #[.pointer (some ⟨p,0,none⟩),.slice a L.length c] w (NQ (T+1) (il (T+1) L) w):=by
 have HN:=af (Bt.H7 ((T+1:Nat):Int) w);rw[zS1 (by omega)]at HN;have HR:=af hR;have HL:=af hL;have hw:IntKind.i64.wrap ((T:Int)+1)=((T+1:Nat):Int):=IntWalk.i64_in _ (by omega);clear hR hL;go_enter Tryz.func140,Tryz.ntmps140;go_wp2_with (go_at_call 165;refine HN.out.mono ?_;rintro e w1 ⟨P,D,rfl,hp,hd,hs,hb,hh⟩;have HF:Hid (oK (T+1) P D (il (T+1) (L.take 0)) w w1):=⟨hp,hd,by rw[List.take_zero,XD];exact hs,hb⟩;clear hp hd hs hb hh);go_loopw [16] (fun i wr=>∃j:Nat,j<=L.length/\i=.int .i64 j/\oK (T+1) P D (il (T+1) (L.take j)) w wr) (fun i _=>L.length-(intOf i).toNat)
 case atStart=>exact⟨0,Nat.zero_le _,rfl,HF.out⟩
 case round=>
  obtain⟨j,hj,rfl,hf⟩:=hrel;have Fs:=af hf;clear hf HF
  by_cases hlt:j<L.length
  ·obtain⟨b,o,rfl,hc⟩:=(HR.out.below Fs.out.below (Nat.le_refl _)) j (by simpa[aN]using hlt);have hc2:wr.cell? ⟨b,o+j,none⟩=some (.int .i64 L[j]):=by simpa[aN,Gr.iv]using hc
   have HP:=af (Bt.wL wr Fs.out.set L[j] (HL.out _ (List.getElem_mem hlt)));have HE:=af (show L.take j++[L[j]]=L.take (j+1)from(List.take_succ_eq_append_getElem hlt).symm);generalize L[j]=t at*;clear hc;go_wp2_with (go_at_call 166;refine HP.out.mono ?_;rintro e w' ⟨rfl,hs,Kn⟩;have yY:=af (Fs.out.put hs Kn);clear hs Kn);go_roundw
   case rel=>exact⟨j+1,by omega,by go_num,by rw[←HE.out];exact yY.out⟩
   case measure=>simp[intOf];omega
  ·have hE:j=L.length:=by omega
   have yY:=af (show oK (T+1) P D (il (T+1) L) w wr from by have:=Fs.out;rw[hE,List.take_length]at this;exact this);go_wp2;go_ret;exact⟨P,D,rfl,yY.out.hP,yY.out.hD,yY.out.set,yY.out.below⟩
