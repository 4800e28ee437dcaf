/- A part of the proof. -/
import Derived.Test.YtegeamggbglneaaGreatDoorPk17
import Derived.Test.YtegeamggbglneaaGreatDoorPk12
import Derived.Deep.LoopGhost
set_option maxHeartbeats 4000000
set_option maxRecDepth 100000
set_option linter.unusedVariables false
namespace Go.Proofs.YtegeamggbglneaaGreatDoor
namespace Lk
open Go.RowKit Go.Maps
open Gr (Gram)
open Im
open Au
open Bt (SetAt Keeps)
open Rw (Bk)
structure Stp (lab lab':Nat->Lb) (w w':World):Prop where
 fr:Sep.Fr (fun b=>lab b≠.no) w w'
 ext:∀b,lab' b≠.no->lab b≠.no\/w.heap.size<=b
theorem Stp.trans{l m n}{a b c}(h:Stp l m a b)(k:Stp m n b c):Stp l n a c:=
 ⟨h.fr.trans k.fr h.ext,fun x hx=>by
  rcases k.ext x hx with r|r
  ·exact h.ext x r
  ·exact .inr (Nat.le_trans h.fr.size r)⟩
theorem Stp.of_below(lab){w w'}(hb:Below w.heap.size w w'):Stp lab lab w w':=⟨.of_below hb,fun _ h=> .inl h⟩
section
variable {W:World} {K:Fk} {G:Gram} {q:Whole} {N M:Nt} {lab lab':Nat->Lb} {cv qv cv' qv':Value} {w w':World} {ch:Lb->Prop}
theorem NP.step(h:NP W K G q N lab cv qv w)(f:Ch ch lab w w')(hno:¬ch .no)(ag:∀b,b<w.heap.size->lab' b=lab b)(hin:∀b,lab' b≠.no->b<w'.heap.size)
  (box:Bk K.p (nb K G (states q).length cv' qv') 177 w') (row:w'.ownsRow W.heap.size 219 3 cv' M.pls.length (cells M)) (ways:∀k,k<M.pls.length->w'.ownsRow W.heap.size 214 3 (M.wv k) (M.Ys k).length ((M.Ys k).flatMap yc)) (yok:∀k,k<M.pls.length->∀y∈M.Ys k,YOk K G y)
  (sets:∀k,k<M.pls.length->SetAt (M.D k) (M.E k) (G.terms.length+1) (M.S k) w') (map:NMap K.mb M.pls.length (numX M.pls) w') (queue:w'.ownsRow W.heap.size 3 1 qv' M.qs.length (nivs M.qs))
  (lr:∀g,cv'.ownBlock=some g->lab' g=.row) (lw:∀k,k<M.pls.length->∀g,(M.wv k).ownBlock=some g->lab' g=.way k) (lP:∀k,k<M.pls.length->lab' (M.D k)=.sP k) (lE:∀k,k<M.pls.length->lab' (M.E k)=.sE k) (lq:∀g,qv'.ownBlock=some g->lab' g=.que):
  NP W K G q M lab' cv' qv' w'/\Stp lab lab' w w':=by
 have hp:=h.lab_lt h.lp (by intro e;cases e);have hm:=h.lab_lt h.lm (by intro e;cases e);refine⟨⟨h.fr' f hno,box,row,ways,yok,sets,map,queue,(ag _ hp).trans h.lp,(ag _ hm).trans h.lm,lr,lw,lP,lE,lq,fun b hb=>?_,hin⟩,?_,fun b hb=>?_⟩
 ·by_cases hl:b<w.heap.size
  ·rw[ag b hl]at hb;exact h.low b hb
  ·have:=h.fr.size;exact .inr (.inr (by omega))
 ·exact f.mono fun b hb=>fun e=>hno (e▸hb)
 ·by_cases hl:b<w.heap.size
  ·rw[ag b hl]at hb;exact .inl hb
  ·exact .inr (by omega)
theorem zBa(h:NP W K G q N lab cv qv w)(ag:∀b,b<w.heap.size->lab' b=lab b){b}{L}(e:lab b=L)(hn:L≠.no):lab' b=L:=(ag b (h.lab_lt e hn)).trans e
theorem NP.lead(h:NP W K G q N lab cv qv w){k}(hk:k<N.pls.length){y}(hy:YOk K G y){w1 w2}(hb:Below w.heap.size w w1){v'}
  (hown:w2.ownsRow W.heap.size 214 3 v' ((N.Ys k).length+1) ((N.Ys k).flatMap yc++yc y)) (hg:w1.grownBy w2 (N.wv k).ownBlock) (hv:v'.ownBlock=(N.wv k).ownBlock\/v'.ownBlock=some w1.heap.size) {g c} (hcv:cv=.slice (some ⟨g,0,none⟩) N.pls.length c):
  ∃lab',NP W K G q (N.lead k y v') lab' cv qv (w2.setCell ⟨g,k*3+1,none⟩ v')/\Stp lab lab' w (w2.setCell ⟨g,k*3+1,none⟩ v'):=by
 subst hcv;have hgr:=h.lr g rfl
 have f:Ch (fun L=>L=.way k\/L=.row) lab w (w2.setCell ⟨g,k*3+1,none⟩ v'):=by
  refine Sep.Fr.setCell (S:=fun b=>lab b=.way k\/lab b=.row) ?_ _ (.inr hgr) _;exact Sep.Fr.grown (Sep.Fr.of_below hb) hg fun b hb2=> .inl (.inl (h.lw k hk b hb2))
 have no:¬((fun L=>L=Lb.way k\/L=Lb.row) Lb.no):=by rintro(e|e)<;>cases e
 have hgv:∀b,v'.ownBlock=some b->b<w2.heap.size/\W.heap.size<=b:=fun b e=>⟨(hown.lt b e).2,(hown.lt b e).1⟩
 have hs:(w2.setCell ⟨g,k*3+1,none⟩ v').heap.size=w2.heap.size:=by simp[World.setCell]
 have hgn:v'.ownBlock≠some g:=fun e=>by
  rcases hv with r|r
  ·have:=h.lw k hk g (r.symm.trans e);rw[hgr]at this;cases this
  ·have e2:=r.symm.trans e;injection e2 with e2
   have:=h.lab_lt hgr (by intro e;cases e);have:=hb.size;omega
 have f2:Ch (fun L=>L=.way k) lab w w2:=Sep.Fr.grown (Sep.Fr.of_below hb) hg fun b hb2=> .inl (h.lw k hk b hb2)
 have hrow2:w2.ownsRow W.heap.size 219 3 (.slice (some ⟨g,0,none⟩) N.pls.length c) N.pls.length (cells N):=h.row' f2 (by intro e;cases e)
 obtain⟨lab',hl',ag,hin⟩:∃lab':Nat->Lb,(∀b,v'.ownBlock=some b->lab' b=.way k)/\(∀b,b<w.heap.size->lab' b=lab b)/\∀b,lab' b≠.no->b<w2.heap.size:=by
  rcases hv with r|r
  ·exact⟨lab,fun b e=>h.lw k hk b (r.symm.trans e),fun _ _=>rfl,fun b hb3=>Nat.lt_of_lt_of_le (h.inn b hb3) (Nat.le_trans hb.size hg.size)⟩
  ·refine⟨lab1 lab w1.heap.size (.way k),fun b e=>?_,fun b hb3=>zBA (by have:=hb.size;omega),fun b hb3=>?_⟩
   ·have e2:=r.symm.trans e;injection e2 with e2
    rw[←e2];exact zC6 _ _ _
   ·by_cases e:b=w1.heap.size
    ·exact e▸(hgv _ r).1
    ·rw[zBA e]at hb3;exact Nat.lt_of_lt_of_le (h.inn b hb3) (Nat.le_trans hb.size hg.size)
 refine⟨lab',h.step f no ag (fun b hb3=>by rw[hs];exact hin b hb3) (h.box' f (by rintro(e|e)<;>cases e)) ?_ (fun a ha=>?_) (fun a ha z hz=>?_) (fun a ha=>h.sets' f ha (by rintro(e|e)<;>cases e) (by rintro(e|e)<;>cases e)) (h.map' f (by rintro(e|e)<;>cases e)) (h.queue' f (by rintro(e|e)<;>cases e)) (fun b e=>zBa h ag (h.lr b e) (by intro e;cases e)) (fun a ha b e=>?_) (fun a ha=>zBa h ag (h.lP a ha) (by intro e;cases e)) (fun a ha=>zBa h ag (h.lE a ha) (by intro e;cases e)) (fun b e=>zBa h ag (h.lq b e) (by intro e;cases e))⟩
 ·have:=(World.ownsRow.stored hrow2 (k*3+1) v').1
  have e:=zHj (N:=N) (M:=N.lead k y v') rfl hk (i:=1) (u:=v') (by omega) (fun a ha=>by
   show[_,upd N.wv k v' a,_]= _;rw[zAB ha]
   rfl) (by
   show[_,upd N.wv k v' k,_]= _;rw[upd_same]
   rfl)
  rw[e]at this;exact this
 ·show(w2.setCell ⟨g,k*3+1,none⟩ v').ownsRow _ _ 3 (upd N.wv k v' a) (upd N.Ys k (N.Ys k++[y]) a).length ((upd N.Ys k (N.Ys k++[y]) a).flatMap yc)
  by_cases e:a=k
  ·subst e;rw[upd_same,upd_same,List.length_append,List.flatMap_append];refine Sep.zAE (w:=w2) (by simpa using hown) fun b hb3=>Below.heap_setCell _ _ _ _ fun e2=>?_
   exact hgn (hb3.trans (congrArg some e2))
  ·rw[zAB e,zAB e];refine h.ways' f ha ?_;rintro(e2|e2)
   ·injection e2 with e2
    exact e e2
   ·cases e2
 ·have hz':z∈upd N.Ys k (N.Ys k++[y]) a:=hz
  by_cases e:a=k
  ·subst e;rw[upd_same]at hz';rcases List.mem_append.1 hz' with r|r
   ·exact h.yok a ha z r
   ·rw[List.mem_singleton]at r;exact r▸hy
  ·rw[zAB e]at hz';exact h.yok a ha z hz'
 ·have e':(upd N.wv k v' a).ownBlock=some b:=e
  by_cases ea:a=k
  ·subst ea;rw[upd_same]at e';exact hl' b e'
  ·rw[zAB ea]at e';exact zBa h ag (h.lw a ha b e') (by intro e;cases e)
theorem NP.wrote(h:NP W K G q N lab cv qv w){k}(hk:k<N.pls.length){B}(hs:SetAt (N.D k) (N.E k) (G.terms.length+1) B w')(hK:Keeps (N.E k) w w'):
  NP W K G q {N with S:=upd N.S k B} lab cv qv w'/\Stp lab lab w w':=by
 have f:Ch (fun L=>L=.sE k) lab w w':=⟨hK.os,hK.tape,hK.output,hK.size,fun b hb hc=>hK.block b hb fun e=>hc (e▸h.lE k hk)⟩;refine h.step f (by intro e;cases e) (fun _ _=>rfl) (fun b hb=>Nat.lt_of_lt_of_le (h.inn b hb) hK.size) (h.box' f (by intro e;cases e)) (h.row' f (by intro e;cases e)) (fun a ha=>h.ways' f ha (by intro e;cases e)) h.yok (fun a ha=>?_) (h.map' f (by intro e;cases e)) (h.queue' f (by intro e;cases e)) h.lr h.lw h.lP h.lE h.lq;show SetAt (N.D a) (N.E a) _ (upd N.S k B a) w'
 by_cases e:a=k
 ·subst e;rw[upd_same];exact hs
 ·rw[zAB e];exact h.sets' f ha (by intro e;cases e) (by intro e2;injection e2 with e2;exact e e2)
theorem NP.wait(h:NP W K G q N lab cv qv w){k}(hk:k<N.pls.length){g c}(hcv:cv=.slice (some ⟨g,0,none⟩) N.pls.length c)(b):
  NP W K G q {N with Wt:=upd N.Wt k b} lab cv qv (w.setCell ⟨g,k*3+2,none⟩ (.bool b))/\Stp lab lab w (w.setCell ⟨g,k*3+2,none⟩ (.bool b)):=by
 subst hcv;have hgr:=h.lr g rfl;have f:Ch (fun L=>L=.row) lab w (w.setCell ⟨g,k*3+2,none⟩ (.bool b)):=Sep.Fr.setCell (S:=fun b=>lab b=.row) (.refl _ _) _ hgr _;have hs:(w.setCell ⟨g,k*3+2,none⟩ (.bool b)).heap.size=w.heap.size:=by simp[World.setCell]
 refine h.step f (by intro e;cases e) (fun _ _=>rfl) (fun b hb=>by rw[hs];exact h.inn b hb) (h.box' f (by intro e;cases e)) ?_ (fun a ha=>h.ways' f ha (by intro e;cases e)) h.yok (fun a ha=>h.sets' f ha (by intro e;cases e) (by intro e;cases e)) (h.map' f (by intro e;cases e)) (h.queue' f (by intro e;cases e)) h.lr h.lw h.lP h.lE h.lq;have:=(World.ownsRow.stored h.row (k*3+2) (.bool b)).1
 have e:=zHj (N:=N) (M:={N with Wt:=upd N.Wt k b}) rfl hk (i:=2) (u:=.bool b) (by omega) (fun a ha=>by
  show[_,_,Value.bool (upd N.Wt k b a)]= _;rw[zAB ha]
  rfl) (by
  show[_,_,Value.bool (upd N.Wt k b k)]= _;rw[upd_same]
  rfl)
 rw[e]at this;exact this
theorem zRq(K)(G)(n)(cv qv u):(nb K G n cv qv).setIfInBounds 7 u=nb K G n cv u:=by simp[nb]
theorem zUt(K)(G)(n)(cv qv u):(nb K G n cv qv).setIfInBounds 5 u=nb K G n u qv:=by simp[nb]
theorem zJP(K)(G)(n)(cv qv):(nb K G n cv qv).size=8:=rfl
theorem NP.push(h:NP W K G q N lab cv qv w){w1 w2}(hb:Below w.heap.size w w1){k}(hown:w2.ownsRow W.heap.size 3 1 qv' (N.qs.length+1) (nivs N.qs++[.int .i64 (k:Int)]))(hg:w1.grownBy w2 qv.ownBlock)(hv:qv'.ownBlock=qv.ownBlock\/qv'.ownBlock=some w1.heap.size):
  ∃lab',NP W K G q {N with qs:=N.qs++[k]} lab' cv qv' (w2.setCell ⟨K.p,7,none⟩ qv')/\Stp lab lab' w (w2.setCell ⟨K.p,7,none⟩ qv'):=by
 have f2:Ch (fun L=>L=.que) lab w w2:=Sep.Fr.grown (Sep.Fr.of_below hb) hg fun b hb2=> .inl (h.lq b hb2)
 have f:Ch (fun L=>L=.que\/L=.box) lab w (w2.setCell ⟨K.p,7,none⟩ qv'):=Sep.Fr.setCell (S:=fun b=>lab b=.que\/lab b=.box) (f2.mono fun b e=> .inl e) _ (.inr h.lp) _;have no:¬((fun L=>L=Lb.que\/L=Lb.box) Lb.no):=by rintro(e|e)<;>cases e
 have hs:(w2.setCell ⟨K.p,7,none⟩ qv').heap.size=w2.heap.size:=by simp[World.setCell]
 have hgn:qv'.ownBlock≠some K.p:=fun e=>by
  rcases hv with r|r
  ·have:=h.lq K.p (r.symm.trans e);rw[h.lp]at this;cases this
  ·have e2:=r.symm.trans e;injection e2 with e2
   have:=h.lab_lt h.lp (by intro e;cases e);have:=hb.size;omega
 obtain⟨lab',hl',ag,hin⟩:∃lab':Nat->Lb,(∀b,qv'.ownBlock=some b->lab' b=.que)/\(∀b,b<w.heap.size->lab' b=lab b)/\∀b,lab' b≠.no->b<w2.heap.size:=by
  rcases hv with r|r
  ·exact⟨lab,fun b e=>h.lq b (r.symm.trans e),fun _ _=>rfl,fun b hb3=>Nat.lt_of_lt_of_le (h.inn b hb3) (Nat.le_trans hb.size hg.size)⟩
  ·refine⟨lab1 lab w1.heap.size .que,fun b e=>?_,fun b hb3=>zBA (by have:=hb.size;omega),fun b hb3=>?_⟩
   ·have e2:=r.symm.trans e;injection e2 with e2
    rw[←e2];exact zC6 _ _ _
   ·by_cases e:b=w1.heap.size
    ·exact e▸(hown.lt _ r).2
    ·rw[zBA e]at hb3;exact Nat.lt_of_lt_of_le (h.inn b hb3) (Nat.le_trans hb.size hg.size)
 refine⟨lab',h.step f no ag (fun b hb3=>by rw[hs];exact hin b hb3) ?_ (h.row' f (by rintro(e|e)<;>cases e)) (fun a ha=>h.ways' f ha (by rintro(e|e)<;>cases e)) h.yok (fun a ha=>h.sets' f ha (by rintro(e|e)<;>cases e) (by rintro(e|e)<;>cases e)) (h.map' f (by rintro(e|e)<;>cases e)) ?_ (fun b e=>zBa h ag (h.lr b e) (by intro e;cases e)) (fun a ha b e=>zBa h ag (h.lw a ha b e) (by intro e;cases e)) (fun a ha=>zBa h ag (h.lP a ha) (by intro e;cases e)) (fun a ha=>zBa h ag (h.lE a ha) (by intro e;cases e)) hl'⟩
 ·have hx:Bk K.p (nb K G (states q).length cv qv) 177 w2:=h.box' f2 (by intro e;cases e);have:=hx.set (j:=7) (by rw[zJP];omega) qv';rw[zRq]at this;exact this
 ·show(w2.setCell ⟨K.p,7,none⟩ qv').ownsRow _ _ 1 qv' (N.qs++[k]).length (nivs (N.qs++[k]));rw[List.length_append,show nivs (N.qs++[k])=nivs N.qs++[.int .i64 (k:Int)]by simp[nivs]];exact Sep.zAE hown fun b hb3=>Below.heap_setCell _ _ _ _ fun e2=>hgn (hb3.trans (congrArg some e2))
theorem NP.shift(h:NP W K G q N lab cv qv w){a}{c}(hq:qv=.slice a N.qs.length c)(h0:0<N.qs.length):
  NP W K G q {N with qs:=N.qs.dropLast} lab cv (.slice a (N.qs.length-1) c) (w.setCell ⟨K.p,7,none⟩ (.slice a (N.qs.length-1) c))/\Stp lab lab w (w.setCell ⟨K.p,7,none⟩ (.slice a (N.qs.length-1) c)):=by
 have f:Ch (fun L=>L=.box) lab w (w.setCell ⟨K.p,7,none⟩ (.slice a (N.qs.length-1) c)):=Sep.Fr.setCell (S:=fun b=>lab b=.box) (.refl _ _) _ h.lp _;have hs:(w.setCell ⟨K.p,7,none⟩ (.slice a (N.qs.length-1) c)).heap.size=w.heap.size:=by simp[World.setCell]
 have hqr:=h.queue;have hlq:=h.lq;rw[hq]at hqr hlq;rcases hqr.2 with⟨_,h1⟩|⟨g,cap,cur,e,hbs,hg,hnc,hcm,hcs,htake⟩
 ·omega
 ·simp only[Value.slice.injEq,true_and]at e;obtain⟨rfl,rfl⟩:=e;have hgb:lab g=.que:=hlq g rfl;refine h.step f (by intro e;cases e) (fun _ _=>rfl) (fun b hb=>by rw[hs];exact h.inn b hb) ?_ (h.row' f (by intro e;cases e)) (fun a ha=>h.ways' f ha (by intro e;cases e)) h.yok (fun a ha=>h.sets' f ha (by intro e;cases e) (by intro e;cases e)) (h.map' f (by intro e;cases e)) ?_ h.lr h.lw h.lP h.lE (fun b e=>?_)
  ·have:=h.box.set (j:=7) (by rw[zJP];omega) (.slice (some ⟨g,0,none⟩) (N.qs.length-1) c);rw[zRq]at this;exact this
  ·show(w.setCell ⟨K.p,7,none⟩ (.slice (some ⟨g,0,none⟩) (N.qs.length-1) c)).ownsRow _ _ 1 (.slice (some ⟨g,0,none⟩) (N.qs.length-1) c) N.qs.dropLast.length (nivs N.qs.dropLast);have hgp:g≠K.p:=fun e=>by rw[e,h.lp]at hgb;cases hgb
   refine Sep.zAE (w:=w) ?_ fun b hb3=>Below.heap_setCell _ _ _ _ fun e2=>?_
   ·rw[List.length_dropLast];refine⟨by rw[zEw,List.length_dropLast];omega,.inr ⟨g,c,cur,rfl,hbs,hg,by omega,hcm,hcs,?_⟩⟩
    have e1:nivs N.qs.dropLast=(nivs N.qs).take (N.qs.length-1):=by
     unfold nivs;rw[List.dropLast_eq_take,List.map_take]
    rw[e1,←htake,List.take_take]
    congr 1
    omega
   ·simp only[Value.ownBlock,Option.some.injEq]at hb3;exact hgp (hb3.trans e2)
  ·exact hlq b (by simpa[Value.ownBlock]using e)
theorem NP.more(h:NP W K G q N lab cv qv w){x}(hx:x∉N.pls){w1 w2 w3}(hm:NMap K.mb (N.pls.length+1) (fun y=>if y=x then some (N.pls.length:Int)else numX N.pls y) w1)(ht:w.mapTurned w1 K.mb)
  {P D} (hs:SetAt P D (G.terms.length+1) (fun _=>false) w2) (hP:w1.heap.size<=P) (hD:w1.heap.size<=D) (hb:Below w1.heap.size w1 w2) {w2'} (hb2:Below w2.heap.size w2 w2') {cv'}
  (hown:w3.ownsRow W.heap.size 219 3 cv' (N.pls.length+1) (cells N++[.pointer (some ⟨P,0,none⟩),.slice none 0 0,.bool false])) (hg:w2'.grownBy w3 cv.ownBlock) (hv:cv'.ownBlock=cv.ownBlock\/cv'.ownBlock=some w2'.heap.size):
  ∃lab',NP W K G q (N.cell x P D) lab' cv' qv (w3.setCell ⟨K.p,5,none⟩ cv')/\Stp lab lab' w (w3.setCell ⟨K.p,5,none⟩ cv'):=by
 have hsz:=(zB0 ht).size;have hsz2:=hb.size;have hsz3:=hb2.size;have hsz4:=hg.size;have fm:Ch (fun L=>L=.map) lab w w1:=(zB0 ht).mono fun b e=>by rw[e];exact h.lm
 have f1:Ch (fun L=>L=.map) lab w w2':=(fm.trans (T:=fun _=>False) (Sep.Fr.of_below hb) (fun b e=>e.elim)).trans (T:=fun _=>False) (Sep.Fr.of_below hb2) (fun b e=>e.elim);have f2:Ch (fun L=>L=.map\/L=.row) lab w w3:=Sep.Fr.grown (f1.mono fun b e=> .inl e) hg fun b e=> .inl (.inr (h.lr b e))
 have f:Ch (fun L=>L=.map\/L=.row\/L=.box) lab w (w3.setCell ⟨K.p,5,none⟩ cv'):=Sep.Fr.setCell (S:=fun b=>lab b=.map\/lab b=.row\/lab b=.box) (f2.mono fun b e=>e.imp id .inl) _ (.inr (.inr h.lp)) _;have no:¬((fun L=>L=Lb.map\/L=Lb.row\/L=Lb.box) Lb.no):=by rintro(e|e|e)<;>cases e
 have hsc:(w3.setCell ⟨K.p,5,none⟩ cv').heap.size=w3.heap.size:=by simp[World.setCell]
 have hpl:=h.lab_lt h.lp (by intro e;cases e);have hml:=h.lab_lt h.lm (by intro e;cases e)
 have hgn:cv'.ownBlock≠some K.p:=fun e=>by
  rcases hv with r|r
  ·have:=h.lr K.p (r.symm.trans e);rw[h.lp]at this;cases this
  ·have e2:=r.symm.trans e;injection e2 with e2
   omega
 have st:∀b,b<w2'.heap.size->cv.ownBlock≠some b->b≠K.p->(w3.setCell ⟨K.p,5,none⟩ cv').heap[b]?=w2'.heap[b]?:=fun b hb3 e e2=>(Below.heap_setCell _ _ _ _ e2).trans (hg.block b hb3 fun e3=>e e3.symm)
 have nrow:∀b,w.heap.size<=b->cv.ownBlock≠some b:=fun b hb3 e=>by
  have:=h.lab_lt (h.lr b e) (by intro e;cases e);omega
 have hPD:=hs.apart
 obtain⟨lab',hl',hlP,hlD,ag,hin⟩:∃lab':Nat->Lb,(∀b,cv'.ownBlock=some b->lab' b=.row)/\lab' P=.sP N.pls.length/\lab' D=.sE N.pls.length/\(∀b,b<w.heap.size->lab' b=lab b)/\∀b,lab' b≠.no->b<w3.heap.size:=by
  have hPl:=hs.inp;have hDl:=hs.ind
  have base:∀b,b<w.heap.size->lab1 (lab1 lab P (.sP N.pls.length)) D (.sE N.pls.length) b=lab b:=fun b hb3=>by
   rw[zBA (by omega),zBA (by omega)]
  have bin:∀b,lab1 (lab1 lab P (.sP N.pls.length)) D (.sE N.pls.length) b≠.no->b<w3.heap.size:=fun b hb3=>by
   by_cases e:b=D
   ·omega
   ·rw[zBA e]at hb3
    by_cases e2:b=P
    ·omega
    ·rw[zBA e2]at hb3;have:=h.inn b hb3;omega
  have bP:lab1 (lab1 lab P (.sP N.pls.length)) D (.sE N.pls.length) P=.sP N.pls.length:=by rw[zBA hPD,zC6]
  rcases hv with r|r
  ·exact⟨_,fun b e=>(base b (h.lab_lt (h.lr b (r.symm.trans e)) (by intro e;cases e))).trans (h.lr b (r.symm.trans e)),bP,zC6 _ _ _,base,bin⟩
  ·have hr:=(hown.lt _ r).2;refine⟨lab1 (lab1 (lab1 lab P (.sP N.pls.length)) D (.sE N.pls.length)) w2'.heap.size .row,fun b e=>?_,?_,?_,fun b hb3=>?_,fun b hb3=>?_⟩
   ·have e2:=r.symm.trans e;injection e2 with e2
    rw[←e2];exact zC6 _ _ _
   ·rw[zBA (by omega)];exact bP
   ·rw[zBA (by omega)];exact zC6 _ _ _
   ·rw[zBA (by omega)];exact base b hb3
   ·by_cases e:b=w2'.heap.size
    ·exact e▸hr
    ·rw[zBA e]at hb3;exact bin b hb3
 have hlen:(N.cell x P D).pls.length=N.pls.length+1:=by
  show(N.pls++[x]).length= _;simp
 refine⟨lab',h.step f no ag (fun b hb3=>by rw[hsc];exact hin b hb3) ?_ ?_ (fun a ha=>?_) (fun a ha z hz=>?_) (fun a ha=>?_) ?_ (h.queue' f (by rintro(e|e|e)<;>cases e)) hl' (fun a ha b e=>?_) (fun a ha=>?_) (fun a ha=>?_) (fun b e=>zBa h ag (h.lq b e) (by intro e;cases e))⟩
 ·have hx:Bk K.p (nb K G (states q).length cv qv) 177 w3:=h.box' f2 (by rintro(e|e)<;>cases e);have:=hx.set (j:=5) (by rw[zJP];omega) cv';rw[zUt]at this;exact this
 ·rw[hlen]
  have e1:cells (N.cell x P D)=cells N++[.pointer (some ⟨P,0,none⟩),.slice none 0 0,.bool false]:=by
   unfold cells;rw[hlen,List.range_succ,List.flatMap_append]
   congr 1
   ·have:∀l:List Nat,(∀k∈l,k<N.pls.length)->l.flatMap (cc (N.cell x P D))=l.flatMap (cc N):=fun l hl=>by
     induction l with
     |nil=>rfl
     |cons a l ih=>
      have ha:=hl a (List.mem_cons_self ..);rw[List.flatMap_cons,List.flatMap_cons,ih fun k hk=>hl k (List.mem_cons_of_mem _ hk)]
      congr 1
      show[Value.pointer (some ⟨upd N.D N.pls.length P a,0,none⟩),upd N.wv N.pls.length (.slice none 0 0) a,Value.bool (upd N.Wt N.pls.length false a)]=cc N a;rw[zAB (by omega),zAB (by omega),zAB (by omega)]
      rfl
    exact this _ fun k hk=>List.mem_range.1 hk
   ·show[Value.pointer (some ⟨upd N.D N.pls.length P N.pls.length,0,none⟩),upd N.wv N.pls.length (.slice none 0 0) N.pls.length,Value.bool (upd N.Wt N.pls.length false N.pls.length)]++[]= _;rw[upd_same,upd_same,upd_same]
    rfl
  rw[e1];exact Sep.zAE hown fun b hb3=>Below.heap_setCell _ _ _ _ fun e2=>hgn (hb3.trans (congrArg some e2))
 ·rw[hlen]at ha;show(w3.setCell ⟨K.p,5,none⟩ cv').ownsRow _ _ 3 (upd N.wv N.pls.length (.slice none 0 0) a) (upd N.Ys N.pls.length [] a).length ((upd N.Ys N.pls.length [] a).flatMap yc)
  by_cases e:a=N.pls.length
  ·subst e;rw[upd_same,upd_same];exact World.ownsRow_nil _ _ _ _
  ·rw[zAB e,zAB e];exact h.ways' f (by omega) (by rintro(e|e|e)<;>cases e)
 ·rw[hlen]at ha;have hz':z∈upd N.Ys N.pls.length [] a:=hz
  by_cases e:a=N.pls.length
  ·subst e;rw[upd_same]at hz';cases hz'
  ·rw[zAB e]at hz';exact h.yok a (by omega) z hz'
 ·rw[hlen]at ha;show SetAt (upd N.D N.pls.length P a) (upd N.E N.pls.length D a) _ (upd N.S N.pls.length (fun _=>false) a) _
  by_cases e:a=N.pls.length
  ·subst e;rw[upd_same,upd_same,upd_same];have h1:=hs.inp;have h2:=hs.ind;refine hs.keep (by rw[hsc];omega) ?_ ?_
   ·exact(st P (by omega) (nrow P (by omega)) (by omega)).trans (hb2.block P h1)
   ·exact(st D (by omega) (nrow D (by omega)) (by omega)).trans (hb2.block D h2)
  ·rw[zAB e,zAB e,zAB e];exact h.sets' f (by omega) (by rintro(e|e|e)<;>cases e) (by rintro(e|e|e)<;>cases e)
 ·have e1:NMap K.mb (N.pls.length+1) (numX (N.pls++[x])) w1:=hm.eq fun y=>(zNs hx y).symm
  rw[hlen];refine e1.keep ?_
  have hne:cv.ownBlock≠some K.mb:=fun e=>by
   have:=h.lr K.mb e;rw[h.lm]at this;cases this
  have hpm:K.mb≠K.p:=fun e=>by
   have:=h.lm;rw[e,h.lp]at this;cases this
  exact(st K.mb (by omega) hne hpm).trans ((hb2.block K.mb (by omega)).trans (hb.block K.mb (by omega)))
 ·rw[hlen]at ha;have e':(upd N.wv N.pls.length (.slice none 0 0) a).ownBlock=some b:=e
  by_cases ea:a=N.pls.length
  ·subst ea;rw[upd_same]at e';cases e'
  ·rw[zAB ea]at e';exact zBa h ag (h.lw a (by omega) b e') (by intro e;cases e)
 ·rw[hlen]at ha;show lab' (upd N.D N.pls.length P a)= _
  by_cases e:a=N.pls.length
  ·subst e;rw[upd_same];exact hlP
  ·rw[zAB e];exact zBa h ag (h.lP a (by omega)) (by intro e;cases e)
 ·rw[hlen]at ha;show lab' (upd N.E N.pls.length D a)= _
  by_cases e:a=N.pls.length
  ·subst e;rw[upd_same];exact hlD
  ·rw[zAB e];exact zBa h ag (h.lE a (by omega)) (by intro e;cases e)
end
def NAt(W:World)(K:Fk)(G:Gram)(q:Whole)(N:Nt)(S:Nat->Prop)(w:World):Prop:=∃lab cv qv,NP W K G q N lab cv qv w/\S=fun b=>lab b≠.no
def NWr(W:World)(K:Fk)(G:Gram)(q:Whole)(M:Nt)(r:Value)(S:Nat->Prop)(w:World)(e:Ending)(w':World):Prop:=e=.returned r/\∃T,NAt W K G q M T w'/\Sep.Fr S w w'/\Sep.Ext T S w
theorem NAt.went{W}{K}{G}{q}{N}{S}{w w'}(h:NAt W K G q N S w)(hb:Below w.heap.size w w'):NAt W K G q N S w':=by
 obtain⟨lab,cv,qv,h,e⟩:=h;exact⟨lab,cv,qv,h.went hb,e⟩
theorem NAt.inn{W}{K}{G}{q}{N}{S}{w}(h:NAt W K G q N S w):Sep.Inn S w:=by
 obtain⟨lab,cv,qv,h,rfl⟩:=h;exact h.inn
theorem NAt.fr{W}{K}{G}{q}{N}{S}{w}(h:NAt W K G q N S w):Sep.Fr (PM K) W w:=by
 obtain⟨lab,cv,qv,h,e⟩:=h;exact h.fr
end Lk
namespace Lk
open Go.RowKit Go.Maps
open Gr (Gram)
open Im
open Au
open Bt (orr gains)
open Rw (Bk)
section
variable {W:World} {K:Fk} {G:Gram} {q:Whole} {N M:Nt} {lab lab':Nat->Lb} {cv qv cv' qv':Value} {w w':World} {ch:Lb->Prop}
theorem NP.cellg{g c n}(h:NP W K G q N lab (.slice (some ⟨g,0,none⟩) n c) qv w){k}(hk:k<N.pls.length):w.cell? ⟨g,k*3,none⟩=some (.pointer (some ⟨N.D k,0,none⟩))/\w.cell? ⟨g,k*3+1,none⟩=some (N.wv k)/\w.cell? ⟨g,k*3+2,none⟩=some (.bool (N.Wt k))/\∀j,w.frozen? ⟨g,j,none⟩=false:=by
 obtain⟨g',c',e,_,_,h1,h2,h3,h4⟩:=h.cell hk;simp only[Value.slice.injEq,Option.some.injEq,Addr.mk.injEq,and_true]at e;obtain⟨rfl,_,_⟩:=e;exact⟨h1,h2,h3,h4⟩
theorem NP.push_box(h:NP W K G q N lab cv qv w){w1 w2}(hb:Below w.heap.size w w1)(hg:w1.grownBy w2 qv.ownBlock):Bk K.p (nb K G (states q).length cv qv) 177 w2:=
 h.box' (ch:=fun L=>L=.que) (Sep.Fr.grown (Sep.Fr.of_below hb) hg fun b hb2=> .inl (h.lq b hb2)) (by intro e;cases e)
theorem NP.push_seven(h:NP W K G q N lab cv qv w){w1 w2}(hb:Below w.heap.size w w1)(hg:w1.grownBy w2 qv.ownBlock):w2.cell? ⟨K.p,7,none⟩=some qv/\w2.frozen? ⟨K.p,7,none⟩=false:=
 ⟨(h.push_box hb hg).cell rfl,(h.push_box hb hg).free 7⟩
theorem NP.lead_cell{g c n}(h:NP W K G q N lab (.slice (some ⟨g,0,none⟩) n c) qv w){k}(hk:k<N.pls.length){w1 w2}(hb:Below w.heap.size w w1)(hg:w1.grownBy w2 (N.wv k).ownBlock):w2.cell? ⟨g,k*3+1,none⟩=some (N.wv k)/\w2.frozen? ⟨g,k*3+1,none⟩=false:=by
 have hc:=h.cellg hk;have hgr:=h.lr g rfl;have f:Ch (fun L=>L=.way k) lab w w2:=Sep.Fr.grown (Sep.Fr.of_below hb) hg fun b hb2=> .inl (h.lw k hk b hb2)
 have e:=h.keep f hgr (by intro e;cases e) (by intro e;cases e);exact⟨(World.cell?_of_block (a:=⟨g,k*3+1,none⟩) e).trans hc.2.1,(World.frozen?_of_block (a:=⟨g,k*3+1,none⟩) e).trans (hc.2.2.2 _)⟩
theorem NP.more_five(h:NP W K G q N lab cv qv w){w1 w2 w2' w3}(ht:w.mapTurned w1 K.mb)(hb:Below w1.heap.size w1 w2)(hb2:Below w2.heap.size w2 w2')(hg:w2'.grownBy w3 cv.ownBlock):w3.cell? ⟨K.p,5,none⟩=some cv/\w3.frozen? ⟨K.p,5,none⟩=false:=by
 have fm:Ch (fun L=>L=.map) lab w w1:=(zB0 ht).mono fun b e=>by rw[e];exact h.lm
 have f1:Ch (fun L=>L=.map) lab w w2':=(fm.trans (T:=fun _=>False) (Sep.Fr.of_below hb) (fun b e=>e.elim)).trans (T:=fun _=>False) (Sep.Fr.of_below hb2) (fun b e=>e.elim);have f2:Ch (fun L=>L=.map\/L=.row) lab w w3:=Sep.Fr.grown (f1.mono fun b e=> .inl e) hg fun b e=> .inl (.inr (h.lr b e))
 have hx:Bk K.p (nb K G (states q).length cv qv) 177 w3:=h.box' f2 (by rintro(e|e)<;>cases e);exact⟨hx.cell rfl,hx.free 5⟩
theorem NP.map_turned(h:NP W K G q N lab cv qv w){w1}(ht:w.mapTurned w1 K.mb):Bk K.p (nb K G (states q).length cv qv) 177 w1/\w1.ownsRow W.heap.size 219 3 cv N.pls.length (cells N)/\w.heap.size<=w1.heap.size:=by
 have fm:Ch (fun L=>L=.map) lab w w1:=(zB0 ht).mono fun b e=>by rw[e];exact h.lm
 exact⟨h.box' fm (by intro e;cases e),h.row' fm (by intro e;cases e),(zB0 ht).size⟩
end
theorem zUd{m}{N:Nt}{k}{F}(h:gains (N.S k) m F=false):N.give m k F={N with S:=upd N.S k (orr (N.S k) m F)}:=by
 unfold Nt.give;rw[h]
 rfl
theorem zSm{m}{N:Nt}{k}{F}(h:N.Wt k=true):N.give m k F={N with S:=upd N.S k (orr (N.S k) m F)}:=by
 unfold Nt.give;rw[h];simp
theorem zSl{m}{N:Nt}{k}{F}(h:gains (N.S k) m F=true)(hw:N.Wt k=false):N.give m k F={N with S:=upd N.S k (orr (N.S k) m F),Wt:=upd N.Wt k true,qs:=N.qs++[k]}:=by
 unfold Nt.give;rw[h,hw]
 rfl
end Lk
namespace Bt
open Go.RowKit
theorem zNh(B)(n k):wd (more B n B) k=0:=zCx.2 fun j _=>by
 unfold more;cases B (64*k+j)<;>simp
theorem zMT(B)(n k):bits BinOp.andNot IntKind.u64 (bits BinOp.and IntKind.u64 (wd B k:Int) (wd (under n) k:Int)) (wd B k:Int)=0:=by
 rw[zHd B B n k,zNh]
 rfl
def zMG(p d n:Nat)(B:Nat->Bool)(w wr:World):Prop:=SetAt p d n B wr/\Keeps d w wr
theorem zJQ{p d n}{B}(w)(h:SetAt p d n B w):
  Calls Tryz.prog 164 #[.pointer (some ⟨p,0,none⟩),.pointer (some ⟨p,0,none⟩)] w (Wrote false p d n B w):=by
 have HS:=zV7 (zDE w (.at_ h));have hs:sz n<=64:=zHP h.upto.1;have H0:Hid (zMG p d n B w w):=⟨h,.refl _ _⟩;clear h;go_enter Tryz.func164,Tryz.ntmps164;go_wp2_with (go_at_call 187;refine HS.out.mono ?_;rintro e w' ⟨rfl,rfl⟩);go_loopw [5,10] (fun c i wr=>∃k:Nat,k<=sz n/\i=.int .i64 k/\c=.bool false/\zMG p d n B w wr) (fun _ i _=>sz n-(intOf i).toNat)
 case atStart=>exact⟨0,Nat.zero_le _,rfl,rfl,H0.out⟩
 case round=>
  obtain⟨k,hk,rfl,rfl,hi⟩:=hrel;have HI:=zV7 hi;clear hi
  by_cases hlt:k<sz n
  ·have HW:=zV7 (fun q=>flip (zEy (wr.drewN q) (.at_ (HI.out.1.drewN q)) k));have HA:=zV7 (fun q=>flip (zE3 (wr.drewN q) (HI.out.1.drewN q) k hlt));have c0:=HI.out.1.words;have c1:=HI.out.1.holds k hlt;have c2:=HI.out.1.free k hlt;have hE:=zMT B n k;go_wp2_with fail;go_quiet (first|(go_at_call 188;exact Calls.quiet_of_same (HW.out _))|(go_at_call 189;exact Calls.quiet_of_same (HA.out _)));go_wp2;go_roundw
   case rel=>exact⟨k+1,by omega,by go_num,rfl,⟨HI.out.1.drewN _,HI.out.2.drewN _⟩⟩
   case measure=>simp[intOf];omega
  ·go_wp2;go_ret;exact⟨rfl,HI.out.1,HI.out.2⟩
end Bt
namespace Bt
open Go.RowKit
def pre(B:Nat->Bool)(k:Nat):List Nat:=(List.range k).filter B
theorem zTf(B)(k):(pre B k).length<=k:=zHr B k
theorem zTc(B):pre B 4096=els B:=rfl
theorem zJS{B}{k}:∀d,(∀j,k<=j->j<k+d->B j=false)->pre B (k+d)=pre B k
 |0,_=>rfl
 |d+1,h=>by
  have ih:=zJS d fun j h1 h2=>h j h1 (by omega)
  have hb:=h (k+d) (by omega) (by omega);unfold pre at*;rw[←Nat.add_assoc,List.range_succ,List.filter_append,ih];simp[hb]
theorem zTe{B}{k m}(hk:k<=m)(hb:B m=true)(h:∀j,k<=j->j<m->B j=false):pre B (m+1)=pre B k++[m]:=by
 obtain⟨d,rfl⟩:∃d,m=k+d:=⟨m-k,by omega⟩;have e:=zJS d h;unfold pre at*;rw[List.range_succ,List.filter_append,e];simp[hb]
theorem zTd{B}{k}(hk:k<=4096)(h:∀j,j<4096->k<=j->B j=false):pre B k=els B:=by
 obtain⟨d,hd⟩:∃d,4096=k+d:=⟨4096-k,by omega⟩;rw[←zTc,hd];exact(zJS d fun j h1 h2=>h j (by omega) h1).symm
def iv(i:Nat):Value:=.int .i64 i
theorem zJL{w:World}{b o}{v}(h:w.cell? ⟨b,o,none⟩=some v):b<w.heap.size:=by
 refine Classical.byContradiction fun hn=>?_
 have:w.heap[b]?=none:=Array.getElem?_eq_none (by omega);simp[World.cell?,this]at h
theorem SetV.below{v}{n}{B}{w w'}(h:SetV v n B w)(hb:Below w.heap.size w w'):SetV v n B w':=by
 cases h with
 |nil=>exact .nil _
 |at_ h=>exact .at_ (h.below hb h.inp h.ind)
theorem Tab.below{w w'}{m}(h:Tab w)(hb:Below m w w')(hm:0<m):Tab w':=fun j hj=>by
 rw[hb.cell (p:=⟨0,j,none⟩) hm];exact h j hj
theorem Tab.pos{w}(h:Tab w):0<w.heap.size:=zJL (h 0 (by decide))
def Listed(B:Nat->Bool)(w:World)(e:Ending)(w':World):Prop:=
 ∃v,e=.returned v/\w'.ownsRow w.heap.size 3 1 v (els B).length ((els B).map iv)/\Below w.heap.size w w'
theorem zA0:(Tryz.prog.info? 3).map (fun i=>(i.zero,i.size,i.bytes))=some (some (.int .i64 0),1,8):=by kernel_rfl
def zR3(B:Nat->Bool)(w:World)(g:Nat)(v i:Value)(wr:World):Prop:=
 ∃k,k<=4096/\g=4096-k/\i=.int .i64 (next B (k:Int))/\wr.ownsRow w.heap.size 3 1 v (pre B k).length ((pre B k).map iv)/\Below w.heap.size w wr
theorem zEt{v:Value}{n:Nat}{B:Nat->Bool}(w:World)(h:SetV v n B w)(hT:Tab w):
  Calls Tryz.prog 141 #[v] w (Listed B w):=by
 obtain⟨i0,hi,hz0,hz1,hz2⟩:=info_parts zA0;have HC:=zV7 (zMh w h);have HV:=zV7 h;have HT:=zV7 hT;have hl:=zSa B;clear h hT;go_enter Tryz.func141,Tryz.ntmps141;go_wp2_with (first|(go_at_call 167;refine HC.out.mono ?_;rintro e w' ⟨rfl,rfl⟩)|(refine wpList_make_own _ rfl _ _ 29 rfl w.heap.size 3 i0 (.int .i64 0) 1 Tryz.underlying29 hi hz0 hz1 .i64 .i64 _ (els B).length rfl rfl rfl (by rw[hz2];omega) (by unfold maxLen;omega) (Nat.le_refl _) ?_));intro w1 hown hg;have HO:=zV7 hown;have HB1:=zV7 ((Below.refl w.heap.size w).grown hg (Nat.le_refl _) (by simp));have HN:=zV7 (zKM w1 (HV.out.below HB1.out) (HT.out.below HB1.out HT.out.pos) 0 (by omega));clear hown hg;go_wp2_with (go_at_call 168;refine HN.out.mono ?_;rintro e w' ⟨rfl,rfl⟩);go_loopg [3,4] 4096 (fun g s i wr=>zR3 B w g s i wr)
 case atStart=>exact⟨0,by omega,by omega,rfl,HO.out,HB1.out⟩
 case round=>
  obtain⟨k,hk,hg,hi4,hown,hb⟩:=hrel;have HG:=zV7 hg;have HO2:=zV7 hown;have HB:=zV7 hb;clear hg hown hb;rcases zTI (B:=B) (k:Int)with⟨hn,hno⟩|⟨m,hn,hm,hkm,hbm,hno⟩
  ·rw[hn]at hi4;subst hi4;have HE:=zV7 (zTd hk fun j h1 h2=>hno j h1 (by omega));clear hn hno;go_wp2;go_ret;exact⟨_,rfl,by rw[←HE.out];exact HO2.out,HB.out⟩
  ·rw[hn]at hi4;subst hi4;have HE:=zV7 (zTe (k:=k) (by omega) hbm fun j h1 h2=>hno j (by omega) h2);have hp:=zTf B k;clear hn hno hbm;go_wp2_with (at_builtin;refine wpList_append_own _ rfl _ _ 29 rfl w.heap.size 3 i0 (.int .i64 0) 1 8 Tryz.underlying29 hi hz0 hz1 hz2 rfl (by decide) _ _ _ rfl (HO2.out.alloc _) ⟨wr.heap.size,0,none⟩ 1 1 [iv m] rfl rfl ?c1 ?c2 ?c3 ?c4 ?c5 ?_)
   case c1=>
    intro j u hj
    match j,hj with
    |0,hj=>simp at hj;subst hj;simp[Addr.add,iv]
   case c2=>intro u hu;simp at hu;subst hu;rfl
   case c3=>unfold maxLen;omega
   case c4=>omega
   case c5=>have:=HB.out.size;simp;omega
   intro v' w2 hown' hgrow _;have HO3:=zV7 (show w2.ownsRow w.heap.size 3 1 v' (pre B (m+1)).length ((pre B (m+1)).map iv)by rw[HE.out];simpa using hown');have HB2:Hid (Below w.heap.size w w2):=(HB.out.alloc HB.out.size _).grown hgrow (by have:=HB.out.size;simp;omega) (fun q hq=>(HO2.out.lt q hq).1);have HN2:=zV7 (zKM w2 (HV.out.below HB2.out) (HT.out.below HB2.out HT.out.pos) ((m:Int)+1) (by omega));clear hown' hgrow;go_wp2_with (go_at_call 168;refine HN2.out.mono ?_;rintro e w' ⟨rfl,rfl⟩);go_roundg (4096-(m+1))
   case measure=>rw[HG.out];omega
   case rel=>exact⟨m+1,by omega,rfl,by rw[show((m+1:Nat):Int)=(m:Int)+1 from by omega],HO3.out,HB2.out⟩
end Bt
namespace Lk
open Go.RowKit Go.Maps
open Gr (Gram boxed)
open Au
open Bt (orr gains)
def Gvn(N:Nt)(k:Nat)(u:Value)(F:Nat->Bool)(w:World):Prop:=(∃m,Bt.OtherV (N.E k) u m F w)\/(u=.pointer (some ⟨N.D k,0,none⟩)/\F=N.S k)
theorem zGK(B)(n):gains B n B=false:=by
 cases h:gains B n B with
 |false=>rfl
 |true=>
  obtain⟨i,_,h1,h2⟩:=zCp.1 h;rw[h1]at h2;cases h2
theorem zPo{W}{K}{G}{q}{N}{lab}{cv qv}{w}(h:NP W K G q N lab cv qv w){k}(hk:k<N.pls.length){u}{F}(hu:Gvn N k u F w):
  Calls Tryz.prog 164 #[.pointer (some ⟨N.D k,0,none⟩),u] w (Bt.Wrote (gains (N.S k) (G.terms.length+1) F) (N.D k) (N.E k) (G.terms.length+1) (orr (N.S k) (G.terms.length+1) F) w):=by
 rcases hu with⟨m,hu⟩|⟨rfl,rfl⟩
 ·exact Bt.zIJ w (h.sets k hk) hu
 ·rw[zGK,zKP (zGK _ _)];exact Bt.zJQ w (h.sets k hk)
theorem zHi(w:World)(p)(v x)(T):∀j u,[x][j]?=some u->((w.setCell p v).alloc (.cells #[x] T)).cell? ((⟨w.heap.size,0,none⟩:Addr).add j)=some u:=by
 have h:=cell_one_new (w.setCell p v) x T;have e:(w.setCell p v).heap.size=w.heap.size:=by simp[World.setCell]
 rw[e]at h;exact h
theorem zGB(w:World)(p)(v)(o):((w.setCell p v).alloc o).heap.size=w.heap.size+1:=by simp[World.setCell]
theorem zGv{W:World}{K:Fk}{G:Gram}{q:Whole}{N:Nt}{S:Nat->Prop}(w:World)(h:NAt W K G q N S w){k:Nat}(hk:k<N.pls.length)(hC:N.pls.length<=100000000)(hq:N.qs.length<=N.pls.length){u:Value}{F:Nat->Bool}(hu:Gvn N k u F w):
  Calls Tryz.prog 139 #[.pointer (some ⟨K.p,0,none⟩),.int .i64 (k:Int),u] w (NWr W K G q (N.give (G.terms.length+1) k F) (.tuple #[]) S w):=by
 obtain⟨lab,cv,qv,h,rfl⟩:=h;have OR:=zV7 (zPo h hk hu);obtain⟨g,c,rfl,hg,hgW,c0,c1,c2,c3⟩:=h.cell hk;obtain⟨aq,cq,rfl⟩:=Rw.zAG h.queue;have H:=zV7 h;have p5:=h.eight.2.2.2.2.2.1;have WR:=zV7 (fun w1 hs hK=>h.wrote (w':=w1) (B:=orr (N.S k) (G.terms.length+1) F) hk hs hK);have hWs:W.heap.size<=w.heap.size:=h.fr.size;clear h hu hg hgW c1 c2;cases hgn:gains (N.S k) (G.terms.length+1) F with
 |false=>
  have E:=zV7 (zUd hgn);rw[hgn]at OR;generalize N.give (G.terms.length+1) k F=N' at*;clear hgn;go_enter Tryz.func139,Tryz.ntmps139;go_wp2_with (go_at_call 164;refine OR.out.mono ?_;rintro e w1 ⟨rfl,hs,hK⟩;have N1:=zV7 (WR.out w1 hs hK);clear hs hK);refine bodyPost_ret (v:=.tuple #[]) (by simp[results,Tryz.results139,go_sem]) rfl ?_;exact⟨rfl,_,⟨lab,_,_,by rw[E.out];exact N1.out.1,rfl⟩,N1.out.2.fr,N1.out.2.ext⟩
 |true=>
  cases hw:N.Wt k with
  |true=>
   have E:=zV7 (zSm (m:=G.terms.length+1) (F:=F) hw);rw[hgn]at OR;have CG:=zV7 (fun w1 (n1:NP W K G q {N with S:=upd N.S k (orr (N.S k) (G.terms.length+1) F)} lab (.slice (some ⟨g,0,none⟩) N.pls.length c) (.slice aq N.qs.length cq) w1)=>(show w1.cell? ⟨g,k*3+2,none⟩=some (.bool true)from by rw[←hw];exact(n1.cellg hk).2.2.1));generalize N.give (G.terms.length+1) k F=N' at*;clear hgn hw;go_enter Tryz.func139,Tryz.ntmps139;go_wp2_with (go_at_call 164;refine OR.out.mono ?_;rintro e w1 ⟨rfl,hs,hK⟩;have N1:=zV7 (WR.out w1 hs hK);have d2:=CG.out w1 N1.out.1;clear hs hK);refine bodyPost_ret (v:=.tuple #[]) (by simp[results,Tryz.results139,go_sem]) rfl ?_;exact⟨rfl,_,⟨lab,_,_,by rw[E.out];exact N1.out.1,rfl⟩,N1.out.2.fr,N1.out.2.ext⟩
  |false=>
   have E:=zV7 (zSl hgn hw);rw[hgn]at OR;have CG:=zV7 (fun w1 (n1:NP W K G q {N with S:=upd N.S k (orr (N.S k) (G.terms.length+1) F)} lab (.slice (some ⟨g,0,none⟩) N.pls.length c) (.slice aq N.qs.length cq) w1)=>(show w1.cell? ⟨g,k*3+2,none⟩=some (.bool false)/\w1.frozen? ⟨g,k*3+2,none⟩=false from⟨by rw[←hw];exact(n1.cellg hk).2.2.1,(n1.cellg hk).2.2.2 _⟩));have WT:=zV7 (fun w1 (n1:NP W K G q {N with S:=upd N.S k (orr (N.S k) (G.terms.length+1) F)} lab (.slice (some ⟨g,0,none⟩) N.pls.length c) (.slice aq N.qs.length cq) w1)=>n1.wait hk rfl true);obtain⟨i0,hj,hz0,hz1,hz2⟩:=info_parts Bt.zA0;generalize N.give (G.terms.length+1) k F=N' at*;clear hgn hw;go_enter Tryz.func139,Tryz.ntmps139
   go_wp2_with (first
    |(go_at_call 164;refine OR.out.mono ?_;rintro e w1 ⟨rfl,hs,hK⟩;have N1:=zV7 (WR.out w1 hs hK);have d2:=(CG.out w1 N1.out.1).1;have d3:=(CG.out w1 N1.out.1).2;have N2:=zV7 (WT.out w1 N1.out.1);have e7:=N2.out.1.eight.2.2.2.2.2.2.2;have s2:W.heap.size<=w1.heap.size:=N1.out.1.fr.size;clear hs hK)
    | (at_builtin;refine wpList_append_own_at _ rfl _ _ 29 rfl W.heap.size 3 i0 (.int .i64 0) 1 8 Tryz.underlying29 hj hz0 hz1 hz2 rfl (by decide) (.slice aq N.qs.length cq) N.qs.length (nivs N.qs) rfl (N2.out.1.queue.alloc _) ⟨w1.heap.size,0,none⟩ 1 1 [.int .i64 (k:Int)] rfl rfl (zHi _ _ _ _ _) (by simp[Value.oneCell']) (by unfold maxLen;omega) (by omega) (by rw[zGB];omega) ?_;intro v' w3 hown3 hg3 _ hloc;obtain⟨q5,f5⟩:=N2.out.1.push_seven (boxed _ _) hg3;obtain⟨a',c',rfl⟩:=Rw.zAG hown3;have N3:=zV7 (N2.out.1.push (boxed _ _) hown3 hg3 hloc);clear hown3 hg3 hloc))
   refine bodyPost_ret (v:=.tuple #[]) (by simp[results,Tryz.results139,go_sem]) rfl ?_;obtain⟨lab',n3,s3⟩:=N3.out;have st:=N1.out.2.trans (N2.out.2.trans s3);exact⟨rfl,_,⟨lab',_,_,by rw[E.out];exact n3,rfl⟩,st.fr,st.ext⟩
end Lk
namespace Lk
open Go.RowKit Go.Maps
open Gr (Gram zAC boxed)
open Au
open Rw (zAH)
theorem zPz:(Tryz.prog.info? 214).map (fun i=>(i.zero,i.size,i.bytes))=some (some (.agg #[.pointer none,.bool false,.int .i64 0]),3,24):=by kernel_rfl
theorem zNG:(Tryz.prog.info? 219).map (fun i=>(i.zero,i.size,i.bytes))=some (some (.agg #[.pointer none,.slice none 0 0,.bool false]),3,40):=by kernel_rfl
theorem zT6(T)(base q)(y)(w:World)(hq:q=w.heap.size)(hb:base<=q):(w.alloc (.cells #[y.v,.bool y.e,.int .i64 (y.to:Int)] T)).ownsRow base T 3 (.slice (some ⟨q,0,none⟩) 1 1) 1 (yc y):=by
 subst hq;exact World.ownsRow_lit w #[y.v,.bool y.e,.int .i64 (y.to:Int)] 1 hb (by decide) (by simp)
theorem zO1{K}{G}{y}(h:YOk K G y):∀u∈yc y,u.oneCell'=true:=by
 intro u hu;simp only[yc,List.mem_cons,List.not_mem_nil,or_false]at hu;rcases hu with rfl|rfl|rfl
 ·rcases h with⟨h,_⟩|⟨k,d,_,_,h,_⟩<;>rw[h]<;>rfl
 ·rfl
 ·rfl
def Led(W:World)(K:Fk)(G:Gram)(q:Whole)(N:Nt)(k:Nat)(y:Way)(S:Nat->Prop)(w:World)(e:Ending)(w':World):Prop:=e=.returned (.tuple #[])/\∃v T,NAt W K G q (N.lead k y v) T w'/\Sep.Fr S w w'/\Sep.Ext T S w
theorem zP9{W:World}{K:Fk}{G:Gram}{q:Whole}{N:Nt}{S:Nat->Prop}(w:World)(h:NAt W K G q N S w){k:Nat}(hk:k<N.pls.length)(hC:N.pls.length<=100000000){y:Way}(hy:YOk K G y)(hl:(N.Ys k).length<=1000000000):
  Calls Tryz.prog 138 #[.pointer (some ⟨K.p,0,none⟩),.int .i64 (k:Int),.agg #[y.v,.bool y.e,.int .i64 (y.to:Int)]] w (Led W K G q N k y S w):=by
 obtain⟨lab,cv,qv,h,rfl⟩:=h;have bX:Below w.heap.size w (w.alloc (.cells #[y.v,.bool y.e,.int .i64 (y.to:Int)] 214)):=boxed _ _;have H:=zV7 (h.went bX);have HB:=zV7 bX;obtain⟨g,c,rfl,hg,hgW,c0,c1,c2,c3⟩:=H.out.cell hk;obtain⟨ay,cy,hwv⟩:=Rw.zAG (h.ways k hk);rw[hwv]at c1;have p5:=H.out.eight.2.2.2.2.2.1;have b0:(w.alloc (.cells #[y.v,.bool y.e,.int .i64 (y.to:Int)] 214)).cell? ⟨w.heap.size,0,none⟩=some y.v:=zAC rfl rfl;have b1:(w.alloc (.cells #[y.v,.bool y.e,.int .i64 (y.to:Int)] 214)).cell? ⟨w.heap.size,1,none⟩=some (.bool y.e):=zAC rfl rfl;have b2:(w.alloc (.cells #[y.v,.bool y.e,.int .i64 (y.to:Int)] 214)).cell? ⟨w.heap.size,2,none⟩=some (.int .i64 (y.to:Int)):=zAC rfl rfl;have hWs:W.heap.size<=w.heap.size:=h.fr.size;obtain⟨i0,hj,hz0,hz1,hz2⟩:=info_parts zPz;have YC:=zV7 (zO1 hy);have YO:=zV7 hy;have hgl:g<(w.alloc (.cells #[y.v,.bool y.e,.int .i64 (y.to:Int)] 214)).heap.size:=H.out.lab_lt hg (by intro e;cases e);have hbl:w.heap.size<(w.alloc (.cells #[y.v,.bool y.e,.int .i64 (y.to:Int)] 214)).heap.size:=by simp
 clear h hg hgW c2 hy bX;go_enter Tryz.func138,Tryz.ntmps138;go_wp2_with fail;generalize hw1:w.alloc (.cells #[y.v,.bool y.e,.int .i64 (y.to:Int)] 214)=w1 at*;have hs1:W.heap.size<=w1.heap.size:=Nat.le_trans hWs HB.out.size;have bY:Below w1.heap.size w1 (w1.alloc (.cells #[y.v,.bool y.e,.int .i64 (y.to:Int)] 214)).drew:=(boxed _ _).drew;have BY:=zV7 bY;have RX:=zV7 (H.out.ways k hk |> fun r=>Sep.zAE r fun g hg=>bY.block g (r.lt g hg).2);rw[hwv]at RX;have ON:=zV7 (show(w1.alloc (.cells #[y.v,.bool y.e,.int .i64 (y.to:Int)] 214)).drew.ownsRow _ _ _ _ _ _ from zT6 214 W.heap.size w1.heap.size y w1 rfl hs1);have hs2:W.heap.size<=(w1.alloc (.cells #[y.v,.bool y.e,.int .i64 (y.to:Int)] 214)).drew.heap.size:=Nat.le_trans hs1 bY.size;have LC:=zV7 (fun(w2:World) (hg:(w1.alloc (.cells #[y.v,.bool y.e,.int .i64 (y.to:Int)] 214)).drew.grownBy w2 (N.wv k).ownBlock)=>H.out.lead_cell hk bY hg);have LE:=zV7 (fun(w2:World) (v':Value) hown (hg:(w1.alloc (.cells #[y.v,.bool y.e,.int .i64 (y.to:Int)] 214)).drew.grownBy w2 (N.wv k).ownBlock) hv=>H.out.lead hk YO.out bY (w2:=w2) (v':=v') hown hg hv rfl);rw[hwv]at LC LE;generalize hYs:N.Ys k=Ys at*;clear bY hw1
 go_region_law (first
  | (refine zAH _ (by rfl) _ _ 217 (by rfl) W.heap.size 214 i0 (.agg #[.pointer none,.bool false,.int .i64 0]) 3 24 Tryz.underlying217 hj hz0 hz1 hz2 rfl (by decide) (.slice ay Ys.length cy) Ys.length (Ys.flatMap yc) (by rfl) RX.out W.heap.size (.slice (some ⟨w1.heap.size,0,none⟩) 1 1) 1 (yc y) (by rfl) ON.out YC.out (by unfold maxLen;omega) (by omega) hs2 ?_;intro v4 w4 hown4 hg4 hloc4;obtain⟨a4,c4,rfl⟩:=Rw.zAG hown4;obtain⟨q9,f9⟩:=LC.out w4 hg4;have R4:=zV7 (LE.out w4 _ hown4 hg4 hloc4);clear hown4 hg4 hloc4))
 all_goals
  go_wp2_with fail;refine bodyPost_ret (v:=.tuple #[]) (by simp[results,Tryz.results138,go_sem]) rfl ?_;obtain⟨lab',n3,s3⟩:=R4.out;have st:=(Stp.of_below lab HB.out).trans s3;exact⟨rfl,_,_,⟨lab',_,_,n3,rfl⟩,st.fr,st.ext⟩
end Lk
namespace Lk
open Go.RowKit Go.Maps
open Gr (ivs)
open Bt (SetAt putI Keeps cap)
def inL(m:Nat)(L:List Int):Nat->Bool:=fun u=>decide (u<m/\(u:Int)∈L)
theorem zNB(m):inL m []=fun _=>false:=by
 funext u
 simp[inL]
theorem zSy(m)(L)(t):putI (inL m L) m t=inL m (L++[t]):=by
 funext u
 unfold putI;split
 ·rename_i h;unfold Bt.put inL;rw[Bool.eq_iff_iff,Bool.or_eq_true,decide_eq_true_iff,decide_eq_true_iff,decide_eq_true_iff,List.mem_append,List.mem_singleton];constructor
  ·rintro(⟨h1,h2⟩|h1)
   ·exact⟨h1,.inl h2⟩
   ·exact⟨by omega,.inr (by omega)⟩
  ·rintro⟨h1,h2|h2⟩
   ·exact .inl ⟨h1,h2⟩
   ·exact .inr (by omega)
 ·rename_i h;unfold inL;rw[Bool.eq_iff_iff,decide_eq_true_iff,decide_eq_true_iff,List.mem_append,List.mem_singleton];constructor
  ·rintro⟨h1,h2⟩;exact⟨h1,.inl h2⟩
  ·rintro⟨h1,h2|h2⟩
   ·exact⟨h1,h2⟩
   ·exact absurd ⟨by omega,by omega⟩ h
def zIk(m:Nat)(B:Nat->Bool)(w:World)(e:Ending)(w':World):Prop:=∃P D,e=.returned (.pointer (some ⟨P,0,none⟩))/\w.heap.size<=P/\w.heap.size<=D/\SetAt P D m B w'/\Below w.heap.size w w'
structure Fill (m P D:Nat) (B:Nat->Bool) (w wr:World):Prop where
 hP:w.heap.size<=P
 hD:w.heap.size<=D
 set:SetAt P D m B wr
 below:Below w.heap.size w wr
theorem Fill.put{m P D}{L}{w wr w'}(h:Fill m P D (inL m L) w wr){t}(hs:SetAt P D m (putI (inL m L) m t) w')(hk:Keeps D wr w'):Fill m P D (inL m (L++[t])) w w':=
 ⟨h.hP,h.hD,by rw[←zSy];exact hs,h.below.trans (hk.below h.hD h.below.size)⟩
theorem zSQ{m:Nat}(h:m<=4096):cap (m:Int)=m:=by unfold cap;omega
theorem zJX(T p:Nat)(L)(a)(c)(w)(hT:T<=1000)(hp:w.cell? ⟨p,1,none⟩=some (.int .i64 (T:Int)))(hR:Sep.Reads a (ivs L) w)(hl:L.length<=1000000)(hL:∀t∈L,t<=9223372036854775807):
  Calls Tryz.prog 140 #[.pointer (some ⟨p,0,none⟩),.slice a L.length c] w (zIk (T+1) (inL (T+1) L) w):=by
 have HN:=zV7 (Bt.zHC ((T+1:Nat):Int) w);rw[zSQ (by omega)]at HN;have HR:=zV7 hR;have HL:=zV7 hL;have hw:IntKind.i64.wrap ((T:Int)+1)=((T+1:Nat):Int):=IntWalk.i64_in _ (by omega);clear hR hL;go_enter Tryz.func140,Tryz.ntmps140;go_wp2_with (go_at_call 165;refine HN.out.mono ?_;rintro e w1 ⟨P,D,rfl,hp,hd,hs,hb,hh⟩;have HF:Hid (Fill (T+1) P D (inL (T+1) (L.take 0)) w w1):=⟨hp,hd,by rw[List.take_zero,zNB];exact hs,hb⟩;clear hp hd hs hb hh);go_loopw [16] (fun i wr=>∃j:Nat,j<=L.length/\i=.int .i64 j/\Fill (T+1) P D (inL (T+1) (L.take j)) w wr) (fun i _=>L.length-(intOf i).toNat)
 case atStart=>exact⟨0,Nat.zero_le _,rfl,HF.out⟩
 case round=>
  obtain⟨j,hj,rfl,hf⟩:=hrel;have HF2:=zV7 hf;clear hf HF
  by_cases hlt:j<L.length
  ·obtain⟨b,o,rfl,hc⟩:=(HR.out.below HF2.out.below (Nat.le_refl _)) j (by simpa[ivs]using hlt);have hc2:wr.cell? ⟨b,o+j,none⟩=some (.int .i64 L[j]):=by simpa[ivs,Gr.iv]using hc
   have HP:=zV7 (Bt.zCs wr HF2.out.set L[j] (HL.out _ (List.getElem_mem hlt)));have HE:=zV7 (show L.take j++[L[j]]=L.take (j+1)from(List.take_succ_eq_append_getElem hlt).symm);generalize L[j]=t at*;clear hc;go_wp2_with (go_at_call 166;refine HP.out.mono ?_;rintro e w' ⟨rfl,hs,hkp⟩;have HF3:=zV7 (HF2.out.put hs hkp);clear hs hkp);go_roundw
   case rel=>exact⟨j+1,by omega,by go_num,by rw[←HE.out];exact HF3.out⟩
   case measure=>simp[intOf];omega
  ·have hE:j=L.length:=by omega
   have HF3:=zV7 (show Fill (T+1) P D (inL (T+1) L) w wr from by have:=HF2.out;rw[hE,List.take_length]at this;exact this);go_wp2;go_ret;exact⟨P,D,rfl,HF3.out.hP,HF3.out.hD,HF3.out.set,HF3.out.below⟩
