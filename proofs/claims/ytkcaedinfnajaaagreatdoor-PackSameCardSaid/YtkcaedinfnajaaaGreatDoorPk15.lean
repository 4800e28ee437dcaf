/- A part of the proof. -/
import Derived.Test.YtkcaedinfnajaaaGreatDoorPk09
import Derived.Test.YtkcaedinfnajaaaGreatDoorPk11
set_option maxHeartbeats 4000000
set_option maxRecDepth 100000
set_option linter.unusedVariables false
namespace Go.Proofs.YtkcaedinfnajaaaGreatDoor
namespace Lk
open Go.RowKit Go.Maps
open Gr (Gram)
open Im
open Au
open Bt (SetAt Keeps)
open Rw (Bk)
structure Stp (lab lab':Nat->Lb) (w w':World):Prop where
 fr:Sep.Fr (fun b=>lab b≠.no) w w'
 ext:∀b,lab' b≠.no->lab b≠.no\/w.heap.size<=b
theorem Stp.trans{l m n:Nat->Lb}{a b c:World}(h:Stp l m a b)(k:Stp m n b c):Stp l n a c:=
 ⟨h.fr.trans k.fr h.ext,fun x hx=>by
  rcases k.ext x hx with r|r
  ·exact h.ext x r
  ·exact .inr (Nat.le_trans h.fr.size r)⟩
theorem Stp.of_below(lab:Nat->Lb){w w':World}(hb:Below w.heap.size w w'):Stp lab lab w w':=⟨.of_below hb,fun _ h=> .inl h⟩
section
variable {W:World} {K:Fk} {G:Gram} {q:Whole} {N M:Nt} {lab lab':Nat->Lb} {cv qv cv' qv':Value} {w w':World} {ch:Lb->Prop}
theorem NP.step(h:NP W K G q N lab cv qv w)(f:Ch ch lab w w')(hno:¬ch .no)(ag:∀b,b<w.heap.size->lab' b=lab b)(hin:∀b,lab' b≠.no->b<w'.heap.size)
  (box:Bk K.p (nb K G (states q).length cv' qv') 150 w') (row:w'.ownsRow W.heap.size 191 3 cv' M.pls.length (cells M)) (ways:∀k,k<M.pls.length->w'.ownsRow W.heap.size 186 3 (M.wv k) (M.Ys k).length ((M.Ys k).flatMap yc)) (yok:∀k,k<M.pls.length->∀y∈M.Ys k,YOk K G y)
  (sets:∀k,k<M.pls.length->SetAt (M.D k) (M.E k) (G.terms.length+1) (M.S k) w') (map:NMap K.mb M.pls.length (numX M.pls) w') (queue:w'.ownsRow W.heap.size 3 1 qv' M.qs.length (nivs M.qs))
  (lr:∀g,cv'.ownBlock=some g->lab' g=.row) (lw:∀k,k<M.pls.length->∀g,(M.wv k).ownBlock=some g->lab' g=.way k) (lP:∀k,k<M.pls.length->lab' (M.D k)=.sP k) (lE:∀k,k<M.pls.length->lab' (M.E k)=.sE k) (lq:∀g,qv'.ownBlock=some g->lab' g=.que):
  NP W K G q M lab' cv' qv' w'/\Stp lab lab' w w':=by
 have hp:=h.lab_lt h.lp (by intro e;cases e);have hm:=h.lab_lt h.lm (by intro e;cases e);refine⟨⟨h.fr' f hno,box,row,ways,yok,sets,map,queue,(ag _ hp).trans h.lp,(ag _ hm).trans h.lm,lr,lw,lP,lE,lq,fun b hb=>?_,hin⟩,?_,fun b hb=>?_⟩
 ·by_cases hl:b<w.heap.size
  ·rw[ag b hl]at hb;exact h.low b hb
  ·have:=h.fr.size;exact .inr (.inr (by omega))
 ·exact f.mono fun b hb=>fun e=>hno (e▸hb)
 ·by_cases hl:b<w.heap.size
  ·rw[ag b hl]at hb;exact .inl hb
  ·exact .inr (by omega)
theorem zBT(h:NP W K G q N lab cv qv w)(ag:∀b,b<w.heap.size->lab' b=lab b){b:Nat}{L:Lb}(e:lab b=L)(hn:L≠.no):lab' b=L:=(ag b (h.lab_lt e hn)).trans e
theorem NP.lead(h:NP W K G q N lab cv qv w){k:Nat}(hk:k<N.pls.length){y:Way}(hy:YOk K G y){w1 w2:World}(hb:Below w.heap.size w w1){v':Value}
  (hown:w2.ownsRow W.heap.size 186 3 v' ((N.Ys k).length+1) ((N.Ys k).flatMap yc++yc y)) (hg:w1.grownBy w2 (N.wv k).ownBlock) (hv:v'.ownBlock=(N.wv k).ownBlock\/v'.ownBlock=some w1.heap.size) {g c:Nat} (hcv:cv=.slice (some ⟨g,0,none⟩) N.pls.length c):
  ∃lab',NP W K G q (N.lead k y v') lab' cv qv (w2.setCell ⟨g,k*3+1,none⟩ v')/\Stp lab lab' w (w2.setCell ⟨g,k*3+1,none⟩ v'):=by
 subst hcv;have hgr:=h.lr g rfl
 have f:Ch (fun L=>L=.way k\/L=.row) lab w (w2.setCell ⟨g,k*3+1,none⟩ v'):=by
  refine Sep.Fr.setCell (S:=fun b=>lab b=.way k\/lab b=.row) ?_ _ (.inr hgr) _;exact Sep.Fr.grown (Sep.Fr.of_below hb) hg fun b hb2=> .inl (.inl (h.lw k hk b hb2))
 have no:¬((fun L=>L=Lb.way k\/L=Lb.row) Lb.no):=by rintro(e|e)<;>cases e
 have hgv:∀b,v'.ownBlock=some b->b<w2.heap.size/\W.heap.size<=b:=fun b e=>⟨(hown.lt b e).2,(hown.lt b e).1⟩
 have hs:(w2.setCell ⟨g,k*3+1,none⟩ v').heap.size=w2.heap.size:=by simp[World.setCell]
 have hgn:v'.ownBlock≠some g:=fun e=>by
  rcases hv with r|r
  ·have:=h.lw k hk g (r.symm.trans e);rw[hgr]at this;cases this
  ·have e2:=r.symm.trans e;injection e2 with e2
   have:=h.lab_lt hgr (by intro e;cases e);have:=hb.size;omega
 have f2:Ch (fun L=>L=.way k) lab w w2:=Sep.Fr.grown (Sep.Fr.of_below hb) hg fun b hb2=> .inl (h.lw k hk b hb2)
 have hrow2:w2.ownsRow W.heap.size 191 3 (.slice (some ⟨g,0,none⟩) N.pls.length c) N.pls.length (cells N):=h.row' f2 (by intro e;cases e)
 obtain⟨lab',hl',ag,hin⟩:∃lab':Nat->Lb,(∀b,v'.ownBlock=some b->lab' b=.way k)/\(∀b,b<w.heap.size->lab' b=lab b)/\∀b,lab' b≠.no->b<w2.heap.size:=by
  rcases hv with r|r
  ·exact⟨lab,fun b e=>h.lw k hk b (r.symm.trans e),fun _ _=>rfl,fun b hb3=>Nat.lt_of_lt_of_le (h.inn b hb3) (Nat.le_trans hb.size hg.size)⟩
  ·refine⟨lab1 lab w1.heap.size (.way k),fun b e=>?_,fun b hb3=>zA0 (by have:=hb.size;omega),fun b hb3=>?_⟩
   ·have e2:=r.symm.trans e;injection e2 with e2
    rw[←e2];exact zCo _ _ _
   ·by_cases e:b=w1.heap.size
    ·exact e▸(hgv _ r).1
    ·rw[zA0 e]at hb3;exact Nat.lt_of_lt_of_le (h.inn b hb3) (Nat.le_trans hb.size hg.size)
 refine⟨lab',h.step f no ag (fun b hb3=>by rw[hs];exact hin b hb3) (h.box' f (by rintro(e|e)<;>cases e)) ?_ (fun a ha=>?_) (fun a ha z hz=>?_) (fun a ha=>h.sets' f ha (by rintro(e|e)<;>cases e) (by rintro(e|e)<;>cases e)) (h.map' f (by rintro(e|e)<;>cases e)) (h.queue' f (by rintro(e|e)<;>cases e)) (fun b e=>zBT h ag (h.lr b e) (by intro e;cases e)) (fun a ha b e=>?_) (fun a ha=>zBT h ag (h.lP a ha) (by intro e;cases e)) (fun a ha=>zBT h ag (h.lE a ha) (by intro e;cases e)) (fun b e=>zBT h ag (h.lq b e) (by intro e;cases e))⟩
 ·have:=(World.ownsRow.stored hrow2 (k*3+1) v').1
  have e:=zHB (N:=N) (M:=N.lead k y v') rfl hk (i:=1) (u:=v') (by omega) (fun a ha=>by
   show[_,upd N.wv k v' a,_]= _;rw[zAB ha]
   rfl) (by
   show[_,upd N.wv k v' k,_]= _;rw[upd_same]
   rfl)
  rw[e]at this;exact this
 ·show(w2.setCell ⟨g,k*3+1,none⟩ v').ownsRow _ _ 3 (upd N.wv k v' a) (upd N.Ys k (N.Ys k++[y]) a).length ((upd N.Ys k (N.Ys k++[y]) a).flatMap yc)
  by_cases e:a=k
  ·subst e;rw[upd_same,upd_same,List.length_append,List.flatMap_append];refine Sep.zAD (w:=w2) (by simpa using hown) fun b hb3=>Below.heap_setCell _ _ _ _ fun e2=>?_
   exact hgn (hb3.trans (congrArg some e2))
  ·rw[zAB e,zAB e];refine h.ways' f ha ?_;rintro(e2|e2)
   ·injection e2 with e2
    exact e e2
   ·cases e2
 ·have hz':z∈upd N.Ys k (N.Ys k++[y]) a:=hz
  by_cases e:a=k
  ·subst e;rw[upd_same]at hz';rcases List.mem_append.1 hz' with r|r
   ·exact h.yok a ha z r
   ·rw[List.mem_singleton]at r;exact r▸hy
  ·rw[zAB e]at hz';exact h.yok a ha z hz'
 ·have e':(upd N.wv k v' a).ownBlock=some b:=e
  by_cases ea:a=k
  ·subst ea;rw[upd_same]at e';exact hl' b e'
  ·rw[zAB ea]at e';exact zBT h ag (h.lw a ha b e') (by intro e;cases e)
theorem NP.wrote(h:NP W K G q N lab cv qv w){k:Nat}(hk:k<N.pls.length){B:Nat->Bool}(hs:SetAt (N.D k) (N.E k) (G.terms.length+1) B w')(hK:Keeps (N.E k) w w'):
  NP W K G q {N with S:=upd N.S k B} lab cv qv w'/\Stp lab lab w w':=by
 have f:Ch (fun L=>L=.sE k) lab w w':=⟨hK.os,hK.tape,hK.output,hK.size,fun b hb hc=>hK.block b hb fun e=>hc (e▸h.lE k hk)⟩;refine h.step f (by intro e;cases e) (fun _ _=>rfl) (fun b hb=>Nat.lt_of_lt_of_le (h.inn b hb) hK.size) (h.box' f (by intro e;cases e)) (h.row' f (by intro e;cases e)) (fun a ha=>h.ways' f ha (by intro e;cases e)) h.yok (fun a ha=>?_) (h.map' f (by intro e;cases e)) (h.queue' f (by intro e;cases e)) h.lr h.lw h.lP h.lE h.lq;show SetAt (N.D a) (N.E a) _ (upd N.S k B a) w'
 by_cases e:a=k
 ·subst e;rw[upd_same];exact hs
 ·rw[zAB e];exact h.sets' f ha (by intro e;cases e) (by intro e2;injection e2 with e2;exact e e2)
theorem NP.wait(h:NP W K G q N lab cv qv w){k:Nat}(hk:k<N.pls.length){g c:Nat}(hcv:cv=.slice (some ⟨g,0,none⟩) N.pls.length c)(b:Bool):
  NP W K G q {N with Wt:=upd N.Wt k b} lab cv qv (w.setCell ⟨g,k*3+2,none⟩ (.bool b))/\Stp lab lab w (w.setCell ⟨g,k*3+2,none⟩ (.bool b)):=by
 subst hcv;have hgr:=h.lr g rfl;have f:Ch (fun L=>L=.row) lab w (w.setCell ⟨g,k*3+2,none⟩ (.bool b)):=Sep.Fr.setCell (S:=fun b=>lab b=.row) (.refl _ _) _ hgr _;have hs:(w.setCell ⟨g,k*3+2,none⟩ (.bool b)).heap.size=w.heap.size:=by simp[World.setCell]
 refine h.step f (by intro e;cases e) (fun _ _=>rfl) (fun b hb=>by rw[hs];exact h.inn b hb) (h.box' f (by intro e;cases e)) ?_ (fun a ha=>h.ways' f ha (by intro e;cases e)) h.yok (fun a ha=>h.sets' f ha (by intro e;cases e) (by intro e;cases e)) (h.map' f (by intro e;cases e)) (h.queue' f (by intro e;cases e)) h.lr h.lw h.lP h.lE h.lq;have:=(World.ownsRow.stored h.row (k*3+2) (.bool b)).1
 have e:=zHB (N:=N) (M:={N with Wt:=upd N.Wt k b}) rfl hk (i:=2) (u:=.bool b) (by omega) (fun a ha=>by
  show[_,_,Value.bool (upd N.Wt k b a)]= _;rw[zAB ha]
  rfl) (by
  show[_,_,Value.bool (upd N.Wt k b k)]= _;rw[upd_same]
  rfl)
 rw[e]at this;exact this
theorem zRH(K:Fk)(G:Gram)(n:Nat)(cv qv u:Value):(nb K G n cv qv).setIfInBounds 7 u=nb K G n cv u:=by simp[nb]
theorem zUP(K:Fk)(G:Gram)(n:Nat)(cv qv u:Value):(nb K G n cv qv).setIfInBounds 5 u=nb K G n u qv:=by simp[nb]
theorem zIu(K:Fk)(G:Gram)(n:Nat)(cv qv:Value):(nb K G n cv qv).size=8:=rfl
theorem NP.push(h:NP W K G q N lab cv qv w){w1 w2:World}(hb:Below w.heap.size w w1){k:Nat}(hown:w2.ownsRow W.heap.size 3 1 qv' (N.qs.length+1) (nivs N.qs++[.int .i64 (k:Int)]))(hg:w1.grownBy w2 qv.ownBlock)(hv:qv'.ownBlock=qv.ownBlock\/qv'.ownBlock=some w1.heap.size):
  ∃lab',NP W K G q {N with qs:=N.qs++[k]} lab' cv qv' (w2.setCell ⟨K.p,7,none⟩ qv')/\Stp lab lab' w (w2.setCell ⟨K.p,7,none⟩ qv'):=by
 have f2:Ch (fun L=>L=.que) lab w w2:=Sep.Fr.grown (Sep.Fr.of_below hb) hg fun b hb2=> .inl (h.lq b hb2)
 have f:Ch (fun L=>L=.que\/L=.box) lab w (w2.setCell ⟨K.p,7,none⟩ qv'):=Sep.Fr.setCell (S:=fun b=>lab b=.que\/lab b=.box) (f2.mono fun b e=> .inl e) _ (.inr h.lp) _;have no:¬((fun L=>L=Lb.que\/L=Lb.box) Lb.no):=by rintro(e|e)<;>cases e
 have hs:(w2.setCell ⟨K.p,7,none⟩ qv').heap.size=w2.heap.size:=by simp[World.setCell]
 have hgn:qv'.ownBlock≠some K.p:=fun e=>by
  rcases hv with r|r
  ·have:=h.lq K.p (r.symm.trans e);rw[h.lp]at this;cases this
  ·have e2:=r.symm.trans e;injection e2 with e2
   have:=h.lab_lt h.lp (by intro e;cases e);have:=hb.size;omega
 obtain⟨lab',hl',ag,hin⟩:∃lab':Nat->Lb,(∀b,qv'.ownBlock=some b->lab' b=.que)/\(∀b,b<w.heap.size->lab' b=lab b)/\∀b,lab' b≠.no->b<w2.heap.size:=by
  rcases hv with r|r
  ·exact⟨lab,fun b e=>h.lq b (r.symm.trans e),fun _ _=>rfl,fun b hb3=>Nat.lt_of_lt_of_le (h.inn b hb3) (Nat.le_trans hb.size hg.size)⟩
  ·refine⟨lab1 lab w1.heap.size .que,fun b e=>?_,fun b hb3=>zA0 (by have:=hb.size;omega),fun b hb3=>?_⟩
   ·have e2:=r.symm.trans e;injection e2 with e2
    rw[←e2];exact zCo _ _ _
   ·by_cases e:b=w1.heap.size
    ·exact e▸(hown.lt _ r).2
    ·rw[zA0 e]at hb3;exact Nat.lt_of_lt_of_le (h.inn b hb3) (Nat.le_trans hb.size hg.size)
 refine⟨lab',h.step f no ag (fun b hb3=>by rw[hs];exact hin b hb3) ?_ (h.row' f (by rintro(e|e)<;>cases e)) (fun a ha=>h.ways' f ha (by rintro(e|e)<;>cases e)) h.yok (fun a ha=>h.sets' f ha (by rintro(e|e)<;>cases e) (by rintro(e|e)<;>cases e)) (h.map' f (by rintro(e|e)<;>cases e)) ?_ (fun b e=>zBT h ag (h.lr b e) (by intro e;cases e)) (fun a ha b e=>zBT h ag (h.lw a ha b e) (by intro e;cases e)) (fun a ha=>zBT h ag (h.lP a ha) (by intro e;cases e)) (fun a ha=>zBT h ag (h.lE a ha) (by intro e;cases e)) hl'⟩
 ·have hx:Bk K.p (nb K G (states q).length cv qv) 150 w2:=h.box' f2 (by intro e;cases e);have:=hx.set (j:=7) (by rw[zIu];omega) qv';rw[zRH]at this;exact this
 ·show(w2.setCell ⟨K.p,7,none⟩ qv').ownsRow _ _ 1 qv' (N.qs++[k]).length (nivs (N.qs++[k]));rw[List.length_append,show nivs (N.qs++[k])=nivs N.qs++[.int .i64 (k:Int)]by simp[nivs]];exact Sep.zAD hown fun b hb3=>Below.heap_setCell _ _ _ _ fun e2=>hgn (hb3.trans (congrArg some e2))
theorem NP.shift(h:NP W K G q N lab cv qv w){a:Option Addr}{c:Nat}(hq:qv=.slice a N.qs.length c)(h0:0<N.qs.length):
  NP W K G q {N with qs:=N.qs.dropLast} lab cv (.slice a (N.qs.length-1) c) (w.setCell ⟨K.p,7,none⟩ (.slice a (N.qs.length-1) c))/\Stp lab lab w (w.setCell ⟨K.p,7,none⟩ (.slice a (N.qs.length-1) c)):=by
 have f:Ch (fun L=>L=.box) lab w (w.setCell ⟨K.p,7,none⟩ (.slice a (N.qs.length-1) c)):=Sep.Fr.setCell (S:=fun b=>lab b=.box) (.refl _ _) _ h.lp _;have hs:(w.setCell ⟨K.p,7,none⟩ (.slice a (N.qs.length-1) c)).heap.size=w.heap.size:=by simp[World.setCell]
 have hqr:=h.queue;have hlq:=h.lq;rw[hq]at hqr hlq;rcases hqr.2 with⟨_,h1⟩|⟨g,cap,cur,e,hbs,hg,hnc,hcm,hcs,htake⟩
 ·omega
 ·simp only[Value.slice.injEq,true_and]at e;obtain⟨rfl,rfl⟩:=e;have hgb:lab g=.que:=hlq g rfl;refine h.step f (by intro e;cases e) (fun _ _=>rfl) (fun b hb=>by rw[hs];exact h.inn b hb) ?_ (h.row' f (by intro e;cases e)) (fun a ha=>h.ways' f ha (by intro e;cases e)) h.yok (fun a ha=>h.sets' f ha (by intro e;cases e) (by intro e;cases e)) (h.map' f (by intro e;cases e)) ?_ h.lr h.lw h.lP h.lE (fun b e=>?_)
  ·have:=h.box.set (j:=7) (by rw[zIu];omega) (.slice (some ⟨g,0,none⟩) (N.qs.length-1) c);rw[zRH]at this;exact this
  ·show(w.setCell ⟨K.p,7,none⟩ (.slice (some ⟨g,0,none⟩) (N.qs.length-1) c)).ownsRow _ _ 1 (.slice (some ⟨g,0,none⟩) (N.qs.length-1) c) N.qs.dropLast.length (nivs N.qs.dropLast);have hgp:g≠K.p:=fun e=>by rw[e,h.lp]at hgb;cases hgb
   refine Sep.zAD (w:=w) ?_ fun b hb3=>Below.heap_setCell _ _ _ _ fun e2=>?_
   ·rw[List.length_dropLast];refine⟨by rw[zER,List.length_dropLast];omega,.inr ⟨g,c,cur,rfl,hbs,hg,by omega,hcm,hcs,?_⟩⟩
    have e1:nivs N.qs.dropLast=(nivs N.qs).take (N.qs.length-1):=by
     unfold nivs;rw[List.dropLast_eq_take,List.map_take]
    rw[e1,←htake,List.take_take]
    congr 1
    omega
   ·simp only[Value.ownBlock,Option.some.injEq]at hb3;exact hgp (hb3.trans e2)
  ·exact hlq b (by simpa[Value.ownBlock]using e)
theorem NP.more(h:NP W K G q N lab cv qv w){x:Pl}(hx:x∉N.pls){w1 w2 w3:World}(hm:NMap K.mb (N.pls.length+1) (fun y=>if y=x then some (N.pls.length:Int)else numX N.pls y) w1)(ht:w.mapTurned w1 K.mb)
  {P D:Nat} (hs:SetAt P D (G.terms.length+1) (fun _=>false) w2) (hP:w1.heap.size<=P) (hD:w1.heap.size<=D) (hb:Below w1.heap.size w1 w2) {w2':World} (hb2:Below w2.heap.size w2 w2') {cv':Value}
  (hown:w3.ownsRow W.heap.size 191 3 cv' (N.pls.length+1) (cells N++[.pointer (some ⟨P,0,none⟩),.slice none 0 0,.bool false])) (hg:w2'.grownBy w3 cv.ownBlock) (hv:cv'.ownBlock=cv.ownBlock\/cv'.ownBlock=some w2'.heap.size):
  ∃lab',NP W K G q (N.cell x P D) lab' cv' qv (w3.setCell ⟨K.p,5,none⟩ cv')/\Stp lab lab' w (w3.setCell ⟨K.p,5,none⟩ cv'):=by
 have hsz:=(zBs ht).size;have hsz2:=hb.size;have hsz3:=hb2.size;have hsz4:=hg.size;have fm:Ch (fun L=>L=.map) lab w w1:=(zBs ht).mono fun b e=>by rw[e];exact h.lm
 have f1:Ch (fun L=>L=.map) lab w w2':=(fm.trans (T:=fun _=>False) (Sep.Fr.of_below hb) (fun b e=>e.elim)).trans (T:=fun _=>False) (Sep.Fr.of_below hb2) (fun b e=>e.elim);have f2:Ch (fun L=>L=.map\/L=.row) lab w w3:=Sep.Fr.grown (f1.mono fun b e=> .inl e) hg fun b e=> .inl (.inr (h.lr b e))
 have f:Ch (fun L=>L=.map\/L=.row\/L=.box) lab w (w3.setCell ⟨K.p,5,none⟩ cv'):=Sep.Fr.setCell (S:=fun b=>lab b=.map\/lab b=.row\/lab b=.box) (f2.mono fun b e=>e.imp id .inl) _ (.inr (.inr h.lp)) _;have no:¬((fun L=>L=Lb.map\/L=Lb.row\/L=Lb.box) Lb.no):=by rintro(e|e|e)<;>cases e
 have hsc:(w3.setCell ⟨K.p,5,none⟩ cv').heap.size=w3.heap.size:=by simp[World.setCell]
 have hpl:=h.lab_lt h.lp (by intro e;cases e);have hml:=h.lab_lt h.lm (by intro e;cases e)
 have hgn:cv'.ownBlock≠some K.p:=fun e=>by
  rcases hv with r|r
  ·have:=h.lr K.p (r.symm.trans e);rw[h.lp]at this;cases this
  ·have e2:=r.symm.trans e;injection e2 with e2
   omega
 have st:∀b,b<w2'.heap.size->cv.ownBlock≠some b->b≠K.p->(w3.setCell ⟨K.p,5,none⟩ cv').heap[b]?=w2'.heap[b]?:=fun b hb3 e e2=>(Below.heap_setCell _ _ _ _ e2).trans (hg.block b hb3 fun e3=>e e3.symm)
 have nrow:∀b,w.heap.size<=b->cv.ownBlock≠some b:=fun b hb3 e=>by
  have:=h.lab_lt (h.lr b e) (by intro e;cases e);omega
 have hPD:=hs.apart
 obtain⟨lab',hl',hlP,hlD,ag,hin⟩:∃lab':Nat->Lb,(∀b,cv'.ownBlock=some b->lab' b=.row)/\lab' P=.sP N.pls.length/\lab' D=.sE N.pls.length/\(∀b,b<w.heap.size->lab' b=lab b)/\∀b,lab' b≠.no->b<w3.heap.size:=by
  have hPl:=hs.inp;have hDl:=hs.ind
  have base:∀b,b<w.heap.size->lab1 (lab1 lab P (.sP N.pls.length)) D (.sE N.pls.length) b=lab b:=fun b hb3=>by
   rw[zA0 (by omega),zA0 (by omega)]
  have bin:∀b,lab1 (lab1 lab P (.sP N.pls.length)) D (.sE N.pls.length) b≠.no->b<w3.heap.size:=fun b hb3=>by
   by_cases e:b=D
   ·omega
   ·rw[zA0 e]at hb3
    by_cases e2:b=P
    ·omega
    ·rw[zA0 e2]at hb3;have:=h.inn b hb3;omega
  have bP:lab1 (lab1 lab P (.sP N.pls.length)) D (.sE N.pls.length) P=.sP N.pls.length:=by rw[zA0 hPD,zCo]
  rcases hv with r|r
  ·exact⟨_,fun b e=>(base b (h.lab_lt (h.lr b (r.symm.trans e)) (by intro e;cases e))).trans (h.lr b (r.symm.trans e)),bP,zCo _ _ _,base,bin⟩
  ·have hr:=(hown.lt _ r).2;refine⟨lab1 (lab1 (lab1 lab P (.sP N.pls.length)) D (.sE N.pls.length)) w2'.heap.size .row,fun b e=>?_,?_,?_,fun b hb3=>?_,fun b hb3=>?_⟩
   ·have e2:=r.symm.trans e;injection e2 with e2
    rw[←e2];exact zCo _ _ _
   ·rw[zA0 (by omega)];exact bP
   ·rw[zA0 (by omega)];exact zCo _ _ _
   ·rw[zA0 (by omega)];exact base b hb3
   ·by_cases e:b=w2'.heap.size
    ·exact e▸hr
    ·rw[zA0 e]at hb3;exact bin b hb3
 have hlen:(N.cell x P D).pls.length=N.pls.length+1:=by
  show(N.pls++[x]).length= _;simp
 refine⟨lab',h.step f no ag (fun b hb3=>by rw[hsc];exact hin b hb3) ?_ ?_ (fun a ha=>?_) (fun a ha z hz=>?_) (fun a ha=>?_) ?_ (h.queue' f (by rintro(e|e|e)<;>cases e)) hl' (fun a ha b e=>?_) (fun a ha=>?_) (fun a ha=>?_) (fun b e=>zBT h ag (h.lq b e) (by intro e;cases e))⟩
 ·have hx:Bk K.p (nb K G (states q).length cv qv) 150 w3:=h.box' f2 (by rintro(e|e)<;>cases e);have:=hx.set (j:=5) (by rw[zIu];omega) cv';rw[zUP]at this;exact this
 ·rw[hlen]
  have e1:cells (N.cell x P D)=cells N++[.pointer (some ⟨P,0,none⟩),.slice none 0 0,.bool false]:=by
   unfold cells;rw[hlen,List.range_succ,List.flatMap_append]
   congr 1
   ·have:∀l:List Nat,(∀k∈l,k<N.pls.length)->l.flatMap (cc (N.cell x P D))=l.flatMap (cc N):=fun l hl=>by
     induction l with
     |nil=>rfl
     |cons a l ih=>
      have ha:=hl a (List.mem_cons_self ..);rw[List.flatMap_cons,List.flatMap_cons,ih fun k hk=>hl k (List.mem_cons_of_mem _ hk)]
      congr 1
      show[Value.pointer (some ⟨upd N.D N.pls.length P a,0,none⟩),upd N.wv N.pls.length (.slice none 0 0) a,Value.bool (upd N.Wt N.pls.length false a)]=cc N a;rw[zAB (by omega),zAB (by omega),zAB (by omega)]
      rfl
    exact this _ fun k hk=>List.mem_range.1 hk
   ·show[Value.pointer (some ⟨upd N.D N.pls.length P N.pls.length,0,none⟩),upd N.wv N.pls.length (.slice none 0 0) N.pls.length,Value.bool (upd N.Wt N.pls.length false N.pls.length)]++[]= _;rw[upd_same,upd_same,upd_same]
    rfl
  rw[e1];exact Sep.zAD hown fun b hb3=>Below.heap_setCell _ _ _ _ fun e2=>hgn (hb3.trans (congrArg some e2))
 ·rw[hlen]at ha;show(w3.setCell ⟨K.p,5,none⟩ cv').ownsRow _ _ 3 (upd N.wv N.pls.length (.slice none 0 0) a) (upd N.Ys N.pls.length [] a).length ((upd N.Ys N.pls.length [] a).flatMap yc)
  by_cases e:a=N.pls.length
  ·subst e;rw[upd_same,upd_same];exact World.ownsRow_nil _ _ _ _
  ·rw[zAB e,zAB e];exact h.ways' f (by omega) (by rintro(e|e|e)<;>cases e)
 ·rw[hlen]at ha;have hz':z∈upd N.Ys N.pls.length [] a:=hz
  by_cases e:a=N.pls.length
  ·subst e;rw[upd_same]at hz';cases hz'
  ·rw[zAB e]at hz';exact h.yok a (by omega) z hz'
 ·rw[hlen]at ha;show SetAt (upd N.D N.pls.length P a) (upd N.E N.pls.length D a) _ (upd N.S N.pls.length (fun _=>false) a) _
  by_cases e:a=N.pls.length
  ·subst e;rw[upd_same,upd_same,upd_same];have h1:=hs.inp;have h2:=hs.ind;refine hs.keep (by rw[hsc];omega) ?_ ?_
   ·exact(st P (by omega) (nrow P (by omega)) (by omega)).trans (hb2.block P h1)
   ·exact(st D (by omega) (nrow D (by omega)) (by omega)).trans (hb2.block D h2)
  ·rw[zAB e,zAB e,zAB e];exact h.sets' f (by omega) (by rintro(e|e|e)<;>cases e) (by rintro(e|e|e)<;>cases e)
 ·have e1:NMap K.mb (N.pls.length+1) (numX (N.pls++[x])) w1:=hm.eq fun y=>(zNW hx y).symm
  rw[hlen];refine e1.keep ?_
  have hne:cv.ownBlock≠some K.mb:=fun e=>by
   have:=h.lr K.mb e;rw[h.lm]at this;cases this
  have hpm:K.mb≠K.p:=fun e=>by
   have:=h.lm;rw[e,h.lp]at this;cases this
  exact(st K.mb (by omega) hne hpm).trans ((hb2.block K.mb (by omega)).trans (hb.block K.mb (by omega)))
 ·rw[hlen]at ha;have e':(upd N.wv N.pls.length (.slice none 0 0) a).ownBlock=some b:=e
  by_cases ea:a=N.pls.length
  ·subst ea;rw[upd_same]at e';cases e'
  ·rw[zAB ea]at e';exact zBT h ag (h.lw a (by omega) b e') (by intro e;cases e)
 ·rw[hlen]at ha;show lab' (upd N.D N.pls.length P a)= _
  by_cases e:a=N.pls.length
  ·subst e;rw[upd_same];exact hlP
  ·rw[zAB e];exact zBT h ag (h.lP a (by omega)) (by intro e;cases e)
 ·rw[hlen]at ha;show lab' (upd N.E N.pls.length D a)= _
  by_cases e:a=N.pls.length
  ·subst e;rw[upd_same];exact hlD
  ·rw[zAB e];exact zBT h ag (h.lE a (by omega)) (by intro e;cases e)
end
def NAt(W:World)(K:Fk)(G:Gram)(q:Whole)(N:Nt)(S:Nat->Prop)(w:World):Prop:=∃lab cv qv,NP W K G q N lab cv qv w/\S=fun b=>lab b≠.no
def NWr(W:World)(K:Fk)(G:Gram)(q:Whole)(M:Nt)(r:Value)(S:Nat->Prop)(w:World)(e:Ending)(w':World):Prop:=e=.returned r/\∃T,NAt W K G q M T w'/\Sep.Fr S w w'/\Sep.Ext T S w
theorem NAt.went{W:World}{K:Fk}{G:Gram}{q:Whole}{N:Nt}{S:Nat->Prop}{w w':World}(h:NAt W K G q N S w)(hb:Below w.heap.size w w'):NAt W K G q N S w':=by
 obtain⟨lab,cv,qv,h,e⟩:=h;exact⟨lab,cv,qv,h.went hb,e⟩
theorem NAt.inn{W:World}{K:Fk}{G:Gram}{q:Whole}{N:Nt}{S:Nat->Prop}{w:World}(h:NAt W K G q N S w):Sep.Inn S w:=by
 obtain⟨lab,cv,qv,h,rfl⟩:=h;exact h.inn
theorem NAt.fr{W:World}{K:Fk}{G:Gram}{q:Whole}{N:Nt}{S:Nat->Prop}{w:World}(h:NAt W K G q N S w):Sep.Fr (PM K) W w:=by
 obtain⟨lab,cv,qv,h,e⟩:=h;exact h.fr
end Lk
namespace Lk
open Go.RowKit Go.Maps
open Gr (Gram)
open Im
open Au
open Bt (orr gains)
open Rw (Bk)
section
variable {W:World} {K:Fk} {G:Gram} {q:Whole} {N M:Nt} {lab lab':Nat->Lb} {cv qv cv' qv':Value} {w w':World} {ch:Lb->Prop}
theorem NP.cellg{g c n:Nat}(h:NP W K G q N lab (.slice (some ⟨g,0,none⟩) n c) qv w){k:Nat}(hk:k<N.pls.length):w.cell? ⟨g,k*3,none⟩=some (.pointer (some ⟨N.D k,0,none⟩))/\w.cell? ⟨g,k*3+1,none⟩=some (N.wv k)/\w.cell? ⟨g,k*3+2,none⟩=some (.bool (N.Wt k))/\∀j,w.frozen? ⟨g,j,none⟩=false:=by
 obtain⟨g',c',e,_,_,h1,h2,h3,h4⟩:=h.cell hk;simp only[Value.slice.injEq,Option.some.injEq,Addr.mk.injEq,and_true]at e;obtain⟨rfl,_,_⟩:=e;exact⟨h1,h2,h3,h4⟩
theorem NP.push_box(h:NP W K G q N lab cv qv w){w1 w2:World}(hb:Below w.heap.size w w1)(hg:w1.grownBy w2 qv.ownBlock):Bk K.p (nb K G (states q).length cv qv) 150 w2:=
 h.box' (ch:=fun L=>L=.que) (Sep.Fr.grown (Sep.Fr.of_below hb) hg fun b hb2=> .inl (h.lq b hb2)) (by intro e;cases e)
theorem NP.push_seven(h:NP W K G q N lab cv qv w){w1 w2:World}(hb:Below w.heap.size w w1)(hg:w1.grownBy w2 qv.ownBlock):w2.cell? ⟨K.p,7,none⟩=some qv/\w2.frozen? ⟨K.p,7,none⟩=false:=
 ⟨(h.push_box hb hg).cell rfl,(h.push_box hb hg).free 7⟩
theorem NP.lead_cell{g c n:Nat}(h:NP W K G q N lab (.slice (some ⟨g,0,none⟩) n c) qv w){k:Nat}(hk:k<N.pls.length){w1 w2:World}(hb:Below w.heap.size w w1)(hg:w1.grownBy w2 (N.wv k).ownBlock):w2.cell? ⟨g,k*3+1,none⟩=some (N.wv k)/\w2.frozen? ⟨g,k*3+1,none⟩=false:=by
 have hc:=h.cellg hk;have hgr:=h.lr g rfl;have f:Ch (fun L=>L=.way k) lab w w2:=Sep.Fr.grown (Sep.Fr.of_below hb) hg fun b hb2=> .inl (h.lw k hk b hb2)
 have e:=h.keep f hgr (by intro e;cases e) (by intro e;cases e);exact⟨(World.cell?_of_block (a:=⟨g,k*3+1,none⟩) e).trans hc.2.1,(World.frozen?_of_block (a:=⟨g,k*3+1,none⟩) e).trans (hc.2.2.2 _)⟩
theorem NP.more_five(h:NP W K G q N lab cv qv w){w1 w2 w2' w3:World}(ht:w.mapTurned w1 K.mb)(hb:Below w1.heap.size w1 w2)(hb2:Below w2.heap.size w2 w2')(hg:w2'.grownBy w3 cv.ownBlock):w3.cell? ⟨K.p,5,none⟩=some cv/\w3.frozen? ⟨K.p,5,none⟩=false:=by
 have fm:Ch (fun L=>L=.map) lab w w1:=(zBs ht).mono fun b e=>by rw[e];exact h.lm
 have f1:Ch (fun L=>L=.map) lab w w2':=(fm.trans (T:=fun _=>False) (Sep.Fr.of_below hb) (fun b e=>e.elim)).trans (T:=fun _=>False) (Sep.Fr.of_below hb2) (fun b e=>e.elim);have f2:Ch (fun L=>L=.map\/L=.row) lab w w3:=Sep.Fr.grown (f1.mono fun b e=> .inl e) hg fun b e=> .inl (.inr (h.lr b e))
 have hx:Bk K.p (nb K G (states q).length cv qv) 150 w3:=h.box' f2 (by rintro(e|e)<;>cases e);exact⟨hx.cell rfl,hx.free 5⟩
theorem NP.map_turned(h:NP W K G q N lab cv qv w){w1:World}(ht:w.mapTurned w1 K.mb):Bk K.p (nb K G (states q).length cv qv) 150 w1/\w1.ownsRow W.heap.size 191 3 cv N.pls.length (cells N)/\w.heap.size<=w1.heap.size:=by
 have fm:Ch (fun L=>L=.map) lab w w1:=(zBs ht).mono fun b e=>by rw[e];exact h.lm
 exact⟨h.box' fm (by intro e;cases e),h.row' fm (by intro e;cases e),(zBs ht).size⟩
end
theorem zT9{m:Nat}{N:Nt}{k:Nat}{F:Nat->Bool}(h:gains (N.S k) m F=false):N.give m k F={N with S:=upd N.S k (orr (N.S k) m F)}:=by
 unfold Nt.give;rw[h]
 rfl
theorem zSG{m:Nat}{N:Nt}{k:Nat}{F:Nat->Bool}(h:N.Wt k=true):N.give m k F={N with S:=upd N.S k (orr (N.S k) m F)}:=by
 unfold Nt.give;rw[h];simp
theorem zSF{m:Nat}{N:Nt}{k:Nat}{F:Nat->Bool}(h:gains (N.S k) m F=true)(hw:N.Wt k=false):N.give m k F={N with S:=upd N.S k (orr (N.S k) m F),Wt:=upd N.Wt k true,qs:=N.qs++[k]}:=by
 unfold Nt.give;rw[h,hw]
 rfl
end Lk
namespace Bt
open Go.RowKit
theorem zNM(B:Nat->Bool)(n k:Nat):wd (more B n B) k=0:=zCi.2 fun j _=>by
 unfold more;cases B (64*k+j)<;>simp
theorem zL5(B:Nat->Bool)(n k:Nat):bits BinOp.andNot IntKind.u64 (bits BinOp.and IntKind.u64 (wd B k:Int) (wd (under n) k:Int)) (wd B k:Int)=0:=by
 rw[zG5 B B n k,zNM]
 rfl
def zLp(p d n:Nat)(B:Nat->Bool)(w wr:World):Prop:=SetAt p d n B wr/\Keeps d w wr
theorem zIv{p d n:Nat}{B:Nat->Bool}(w:World)(h:SetAt p d n B w):
  Calls Tryz.prog 137 #[.pointer (some ⟨p,0,none⟩),.pointer (some ⟨p,0,none⟩)] w (Wrote false p d n B w):=by
 have HS:=zVZ (zCt w (.at_ h));have hs:sz n<=64:=zGs h.upto.1;have H0:Hid (zLp p d n B w w):=⟨h,.refl _ _⟩;clear h;go_enter Tryz.func137,Tryz.ntmps137;go_wp2_with (go_at_call 160;refine HS.out.mono ?_;rintro e w' ⟨rfl,rfl⟩);go_loopw [5,10] (fun c i wr=>∃k:Nat,k<=sz n/\i=.int .i64 k/\c=.bool false/\zLp p d n B w wr) (fun _ i _=>sz n-(intOf i).toNat)
 case atStart=>exact⟨0,Nat.zero_le _,rfl,rfl,H0.out⟩
 case round=>
  obtain⟨k,hk,rfl,rfl,hi⟩:=hrel;have HI:=zVZ hi;clear hi
  by_cases hlt:k<sz n
  ·have HW:=zVZ (fun q=>flip (zET (wr.drewN q) (.at_ (HI.out.1.drewN q)) k));have HA:=zVZ (fun q=>flip (zEX (wr.drewN q) (HI.out.1.drewN q) k hlt));have c0:=HI.out.1.words;have c1:=HI.out.1.holds k hlt;have c2:=HI.out.1.free k hlt;have hE:=zL5 B n k;go_wp2_with fail;go_quiet (first|(go_at_call 161;exact Calls.quiet_of_same (HW.out _))|(go_at_call 162;exact Calls.quiet_of_same (HA.out _)));go_wp2;go_roundw
   case rel=>exact⟨k+1,by omega,by go_num,rfl,⟨HI.out.1.drewN _,HI.out.2.drewN _⟩⟩
   case measure=>simp[intOf];omega
  ·go_wp2;go_ret;exact⟨rfl,HI.out.1,HI.out.2⟩
end Bt
namespace Lk
open Go.RowKit Go.Maps
open Gr (Gram boxed)
open Au
open Bt (orr gains)
def Gvn(N:Nt)(k:Nat)(u:Value)(F:Nat->Bool)(w:World):Prop:=(∃m,Bt.OtherV (N.E k) u m F w)\/(u=.pointer (some ⟨N.D k,0,none⟩)/\F=N.S k)
theorem zFq(B:Nat->Bool)(n:Nat):gains B n B=false:=by
 cases h:gains B n B with
 |false=>rfl
 |true=>
  obtain⟨i,_,h1,h2⟩:=zCb.1 h;rw[h1]at h2;cases h2
theorem zPI{W:World}{K:Fk}{G:Gram}{q:Whole}{N:Nt}{lab:Nat->Lb}{cv qv:Value}{w:World}(h:NP W K G q N lab cv qv w){k:Nat}(hk:k<N.pls.length){u:Value}{F:Nat->Bool}(hu:Gvn N k u F w):
  Calls Tryz.prog 137 #[.pointer (some ⟨N.D k,0,none⟩),u] w (Bt.Wrote (gains (N.S k) (G.terms.length+1) F) (N.D k) (N.E k) (G.terms.length+1) (orr (N.S k) (G.terms.length+1) F) w):=by
 rcases hu with⟨m,hu⟩|⟨rfl,rfl⟩
 ·exact Bt.zHm w (h.sets k hk) hu
 ·rw[zFq,zJv (zFq _ _)];exact Bt.zIv w (h.sets k hk)
theorem zHA(w:World)(p:Addr)(v x:Value)(T:TypeId):∀j u,[x][j]?=some u->((w.setCell p v).alloc (.cells #[x] T)).cell? ((⟨w.heap.size,0,none⟩:Addr).add j)=some u:=by
 have h:=cell_one_new (w.setCell p v) x T;have e:(w.setCell p v).heap.size=w.heap.size:=by simp[World.setCell]
 rw[e]at h;exact h
theorem zFh(w:World)(p:Addr)(v:Value)(o:Obj):((w.setCell p v).alloc o).heap.size=w.heap.size+1:=by simp[World.setCell]
theorem zGQ{W:World}{K:Fk}{G:Gram}{q:Whole}{N:Nt}{S:Nat->Prop}(w:World)(h:NAt W K G q N S w){k:Nat}(hk:k<N.pls.length)(hC:N.pls.length<=100000000)(hq:N.qs.length<=N.pls.length){u:Value}{F:Nat->Bool}(hu:Gvn N k u F w):
  Calls Tryz.prog 112 #[.pointer (some ⟨K.p,0,none⟩),.int .i64 (k:Int),u] w (NWr W K G q (N.give (G.terms.length+1) k F) (.tuple #[]) S w):=by
 obtain⟨lab,cv,qv,h,rfl⟩:=h;have OR:=zVZ (zPI h hk hu);obtain⟨g,c,rfl,hg,hgW,c0,c1,c2,c3⟩:=h.cell hk;obtain⟨aq,cq,rfl⟩:=Rw.zAH h.queue;have H:=zVZ h;have p5:=h.eight.2.2.2.2.2.1;have WR:=zVZ (fun w1 hs hK=>h.wrote (w':=w1) (B:=orr (N.S k) (G.terms.length+1) F) hk hs hK);have hWs:W.heap.size<=w.heap.size:=h.fr.size;clear h hu hg hgW c1 c2;cases hgn:gains (N.S k) (G.terms.length+1) F with
 |false=>
  have E:=zVZ (zT9 hgn);rw[hgn]at OR;generalize N.give (G.terms.length+1) k F=N' at*;clear hgn;go_enter Tryz.func112,Tryz.ntmps112;go_wp2_with (go_at_call 137;refine OR.out.mono ?_;rintro e w1 ⟨rfl,hs,hK⟩;have N1:=zVZ (WR.out w1 hs hK);clear hs hK);refine bodyPost_ret (v:=.tuple #[]) (by simp[results,Tryz.results112,go_sem]) rfl ?_;exact⟨rfl,_,⟨lab,_,_,by rw[E.out];exact N1.out.1,rfl⟩,N1.out.2.fr,N1.out.2.ext⟩
 |true=>
  cases hw:N.Wt k with
  |true=>
   have E:=zVZ (zSG (m:=G.terms.length+1) (F:=F) hw);rw[hgn]at OR;have CG:=zVZ (fun w1 (n1:NP W K G q {N with S:=upd N.S k (orr (N.S k) (G.terms.length+1) F)} lab (.slice (some ⟨g,0,none⟩) N.pls.length c) (.slice aq N.qs.length cq) w1)=>(show w1.cell? ⟨g,k*3+2,none⟩=some (.bool true)from by rw[←hw];exact(n1.cellg hk).2.2.1));generalize N.give (G.terms.length+1) k F=N' at*;clear hgn hw;go_enter Tryz.func112,Tryz.ntmps112;go_wp2_with (go_at_call 137;refine OR.out.mono ?_;rintro e w1 ⟨rfl,hs,hK⟩;have N1:=zVZ (WR.out w1 hs hK);have d2:=CG.out w1 N1.out.1;clear hs hK);refine bodyPost_ret (v:=.tuple #[]) (by simp[results,Tryz.results112,go_sem]) rfl ?_;exact⟨rfl,_,⟨lab,_,_,by rw[E.out];exact N1.out.1,rfl⟩,N1.out.2.fr,N1.out.2.ext⟩
  |false=>
   have E:=zVZ (zSF hgn hw);rw[hgn]at OR;have CG:=zVZ (fun w1 (n1:NP W K G q {N with S:=upd N.S k (orr (N.S k) (G.terms.length+1) F)} lab (.slice (some ⟨g,0,none⟩) N.pls.length c) (.slice aq N.qs.length cq) w1)=>(show w1.cell? ⟨g,k*3+2,none⟩=some (.bool false)/\w1.frozen? ⟨g,k*3+2,none⟩=false from⟨by rw[←hw];exact(n1.cellg hk).2.2.1,(n1.cellg hk).2.2.2 _⟩));have WT:=zVZ (fun w1 (n1:NP W K G q {N with S:=upd N.S k (orr (N.S k) (G.terms.length+1) F)} lab (.slice (some ⟨g,0,none⟩) N.pls.length c) (.slice aq N.qs.length cq) w1)=>n1.wait hk rfl true);obtain⟨i0,hj,hz0,hz1,hz2⟩:=info_parts Bt.zAz;generalize N.give (G.terms.length+1) k F=N' at*;clear hgn hw;go_enter Tryz.func112,Tryz.ntmps112
   go_wp2_with (first
    |(go_at_call 137;refine OR.out.mono ?_;rintro e w1 ⟨rfl,hs,hK⟩;have N1:=zVZ (WR.out w1 hs hK);have d2:=(CG.out w1 N1.out.1).1;have d3:=(CG.out w1 N1.out.1).2;have N2:=zVZ (WT.out w1 N1.out.1);have e7:=N2.out.1.eight.2.2.2.2.2.2.2;have s2:W.heap.size<=w1.heap.size:=N1.out.1.fr.size;clear hs hK)
    | (at_builtin;refine wpList_append_own_at _ rfl _ _ 29 rfl W.heap.size 3 i0 (.int .i64 0) 1 8 Tryz.underlying29 hj hz0 hz1 hz2 rfl (by decide) (.slice aq N.qs.length cq) N.qs.length (nivs N.qs) rfl (N2.out.1.queue.alloc _) ⟨w1.heap.size,0,none⟩ 1 1 [.int .i64 (k:Int)] rfl rfl (zHA _ _ _ _ _) (by simp[Value.oneCell']) (by unfold maxLen;omega) (by omega) (by rw[zFh];omega) ?_;intro v' w3 hown3 hg3 _ hloc;obtain⟨q5,f5⟩:=N2.out.1.push_seven (boxed _ _) hg3;obtain⟨a',c',rfl⟩:=Rw.zAH hown3;have N3:=zVZ (N2.out.1.push (boxed _ _) hown3 hg3 hloc);clear hown3 hg3 hloc))
   refine bodyPost_ret (v:=.tuple #[]) (by simp[results,Tryz.results112,go_sem]) rfl ?_;obtain⟨lab',n3,s3⟩:=N3.out;have st:=N1.out.2.trans (N2.out.2.trans s3);exact⟨rfl,_,⟨lab',_,_,by rw[E.out];exact n3,rfl⟩,st.fr,st.ext⟩
end Lk
namespace Lk
open Go.RowKit Go.Maps
open Gr (ivs)
open Bt (SetAt putI Keeps cap)
def inL(m:Nat)(L:List Int):Nat->Bool:=fun u=>decide (u<m/\(u:Int)∈L)
theorem zMo(m:Nat):inL m []=fun _=>false:=by
 funext u
 simp[inL]
theorem zSU(m:Nat)(L:List Int)(t:Int):putI (inL m L) m t=inL m (L++[t]):=by
 funext u
 unfold putI;split
 ·rename_i h;unfold Bt.put inL;rw[Bool.eq_iff_iff,Bool.or_eq_true,decide_eq_true_iff,decide_eq_true_iff,decide_eq_true_iff,List.mem_append,List.mem_singleton];constructor
  ·rintro(⟨h1,h2⟩|h1)
   ·exact⟨h1,.inl h2⟩
   ·exact⟨by omega,.inr (by omega)⟩
  ·rintro⟨h1,h2|h2⟩
   ·exact .inl ⟨h1,h2⟩
   ·exact .inr (by omega)
 ·rename_i h;unfold inL;rw[Bool.eq_iff_iff,decide_eq_true_iff,decide_eq_true_iff,List.mem_append,List.mem_singleton];constructor
  ·rintro⟨h1,h2⟩;exact⟨h1,.inl h2⟩
  ·rintro⟨h1,h2|h2⟩
   ·exact⟨h1,h2⟩
   ·exact absurd ⟨by omega,by omega⟩ h
def zIF(m:Nat)(B:Nat->Bool)(w:World)(e:Ending)(w':World):Prop:=∃P D,e=.returned (.pointer (some ⟨P,0,none⟩))/\w.heap.size<=P/\w.heap.size<=D/\SetAt P D m B w'/\Below w.heap.size w w'
structure Fill (m P D:Nat) (B:Nat->Bool) (w wr:World):Prop where
 hP:w.heap.size<=P
 hD:w.heap.size<=D
 set:SetAt P D m B wr
 below:Below w.heap.size w wr
theorem Fill.put{m P D:Nat}{L:List Int}{w wr w':World}(h:Fill m P D (inL m L) w wr){t:Int}(hs:SetAt P D m (putI (inL m L) m t) w')(hk:Keeps D wr w'):Fill m P D (inL m (L++[t])) w w':=
 ⟨h.hP,h.hD,by rw[←zSU];exact hs,h.below.trans (hk.below h.hD h.below.size)⟩
theorem zRv{m:Nat}(h:m<=4096):cap (m:Int)=m:=by unfold cap;omega
theorem zI2(T p:Nat)(L:List Int)(a:Option Addr)(c:Nat)(w:World)(hT:T<=1000)(hp:w.cell? ⟨p,1,none⟩=some (.int .i64 (T:Int)))(hR:Sep.Reads a (ivs L) w)(hl:L.length<=1000000)(hL:∀t∈L,t<=9223372036854775807):
  Calls Tryz.prog 113 #[.pointer (some ⟨p,0,none⟩),.slice a L.length c] w (zIF (T+1) (inL (T+1) L) w):=by
 have HN:=zVZ (Bt.zGg ((T+1:Nat):Int) w);rw[zRv (by omega)]at HN;have HR:=zVZ hR;have HL:=zVZ hL;have hw:IntKind.i64.wrap ((T:Int)+1)=((T+1:Nat):Int):=IntWalk.i64_in _ (by omega);clear hR hL;go_enter Tryz.func113,Tryz.ntmps113;go_wp2_with (go_at_call 138;refine HN.out.mono ?_;rintro e w1 ⟨P,D,rfl,hp,hd,hs,hb,hh⟩;have HF:Hid (Fill (T+1) P D (inL (T+1) (L.take 0)) w w1):=⟨hp,hd,by rw[List.take_zero,zMo];exact hs,hb⟩;clear hp hd hs hb hh);go_loopw [16] (fun i wr=>∃j:Nat,j<=L.length/\i=.int .i64 j/\Fill (T+1) P D (inL (T+1) (L.take j)) w wr) (fun i _=>L.length-(intOf i).toNat)
 case atStart=>exact⟨0,Nat.zero_le _,rfl,HF.out⟩
 case round=>
  obtain⟨j,hj,rfl,hf⟩:=hrel;have HF2:=zVZ hf;clear hf HF
  by_cases hlt:j<L.length
  ·obtain⟨b,o,rfl,hc⟩:=(HR.out.below HF2.out.below (Nat.le_refl _)) j (by simpa[ivs]using hlt);have hc2:wr.cell? ⟨b,o+j,none⟩=some (.int .i64 L[j]):=by simpa[ivs,Gr.iv]using hc
   have HP:=zVZ (Bt.zCd wr HF2.out.set L[j] (HL.out _ (List.getElem_mem hlt)));have HE:=zVZ (show L.take j++[L[j]]=L.take (j+1)from(List.take_succ_eq_append_getElem hlt).symm);generalize L[j]=t at*;clear hc;go_wp2_with (go_at_call 139;refine HP.out.mono ?_;rintro e w' ⟨rfl,hs,hkp⟩;have HF3:=zVZ (HF2.out.put hs hkp);clear hs hkp);go_roundw
   case rel=>exact⟨j+1,by omega,by go_num,by rw[←HE.out];exact HF3.out⟩
   case measure=>simp[intOf];omega
  ·have hE:j=L.length:=by omega
   have HF3:=zVZ (show Fill (T+1) P D (inL (T+1) L) w wr from by have:=HF2.out;rw[hE,List.take_length]at this;exact this);go_wp2;go_ret;exact⟨P,D,rfl,HF3.out.hP,HF3.out.hD,HF3.out.set,HF3.out.below⟩
end Lk
namespace Fi
open Go.RowKit Go.Maps
open Bt (SetAt Keeps OtherV)
open Rw (Bk)
inductive Ix:Type
 |e:Ix
 |f:Nat->Ix
 |g:Nat->Ix
 |o:Ix
structure Fam (I:Ix->Prop) (P D:Ix->Nat) (R:Ix->Nat) (V:Ix->Nat->Bool) (w:World):Prop where
 at_:∀k,I k->SetAt (P k) (D k) (R k) (V k) w
 inj:∀j k,I j->I k->D j=D k->j=k
 off:∀j k,I j->I k->D j≠P k
theorem zFI{p d n:Nat}{B:Nat->Bool}{w w':World}(h:SetAt p d n B w)(hb:Below w.heap.size w w'):SetAt p d n B w':=h.below hb h.inp h.ind
theorem Fam.went{I:Ix->Prop}{P D R:Ix->Nat}{V:Ix->Nat->Bool}{w w':World}(h:Fam I P D R V w)(hb:Below w.heap.size w w'):Fam I P D R V w':=⟨fun k hk=>zFI (h.at_ k hk) hb,h.inj,h.off⟩
open Classical in
noncomputable def upd(V:Ix->Nat->Bool)(k:Ix)(B:Nat->Bool):Ix->Nat->Bool:=fun j=>if j=k then B else V j
theorem zB2(V:Ix->Nat->Bool)(k:Ix)(B:Nat->Bool):upd V k B k=B:=by unfold upd;rw[if_pos rfl]
theorem zAf(V:Ix->Nat->Bool){j k:Ix}(B:Nat->Bool)(h:j≠k):upd V k B j=V j:=by unfold upd;rw[if_neg h]
theorem upd_same(V:Ix->Nat->Bool)(k:Ix):upd V k (V k)=V:=by
 funext j
 by_cases h:j=k
 ·subst h;rw[zB2]
 ·rw[zAf _ _ h]
theorem zOR(V:Ix->Nat->Bool)(k:Ix)(B C:Nat->Bool):upd (upd V k B) k C=upd V k C:=by
 funext j
 by_cases h:j=k
 ·subst h;rw[zB2,zB2]
 ·rw[zAf _ _ h,zAf _ _ h,zAf _ _ h]
theorem Fam.wrote{I:Ix->Prop}{P D R:Ix->Nat}{V:Ix->Nat->Bool}{w w':World}(h:Fam I P D R V w){k:Ix}(hk:I k){B:Nat->Bool}(hs:SetAt (P k) (D k) (R k) B w')(hK:Keeps (D k) w w'):Fam I P D R (upd V k B) w':=by
 refine⟨fun j hj=>?_,h.inj,h.off⟩
 by_cases e:j=k
 ·subst e;rw[zB2];exact hs
 ·rw[zAf _ _ e];exact(h.at_ j hj).keeps hK (fun e2=>h.off k j hk hj e2.symm) (fun e2=>e (h.inj j k hj hk e2))
theorem Fam.other{I:Ix->Prop}{P D R:Ix->Nat}{V:Ix->Nat->Bool}{w:World}(h:Fam I P D R V w){j k:Ix}(hk:I k)(hj:I j)(hne:j≠k):OtherV (D k) (.pointer (some ⟨P j,0,none⟩)) (R j) (V j) w:=
 .at_ (h.at_ j hj) (fun e=>h.off k j hk hj e.symm) (fun e=>hne (h.inj j k hj hk e))
def rm(t n:Nat):Ix->Nat
 | .e=>n
 |_=>t+1
structure SAt (I:Ix->Prop) (P D:Ix->Nat) (p q1 q2 t n:Nat) (V:Ix->Nat->Bool) (w:World):Prop where
 box:Bk p #[.int .i64 (t:Int),.int .i64 (n:Int),.pointer (some ⟨P .e,0,none⟩),.slice (some ⟨q1,0,none⟩) n n,.slice (some ⟨q2,0,none⟩) n n] 231 w
 firsts:∀s,s<n->w.cell? ⟨q1,s,none⟩=some (.pointer (some ⟨P (.f s),0,none⟩))
 follows:∀s,s<n->w.cell? ⟨q2,s,none⟩=some (if t<s then .pointer (some ⟨P (.g s),0,none⟩)else .pointer none)
 fam:Fam I P D (rm t n) V w
 off:∀k,I k->D k≠p/\D k≠q1/\D k≠q2
 ie:I .e
 if_:∀s,s<n->I (.f s)
 ig:∀s,t<s->s<n->I (.g s)
 tn:t<n
 n4:n<=4000
theorem SAt.went{I:Ix->Prop}{P D:Ix->Nat}{p q1 q2 t n:Nat}{V:Ix->Nat->Bool}{w w':World}(h:SAt I P D p q1 q2 t n V w)(hb:Below w.heap.size w w'):SAt I P D p q1 q2 t n V w':=
 ⟨h.box.went hb,fun s hs=>Gr.cell_later hb (h.firsts s hs),fun s hs=>Gr.cell_later hb (h.follows s hs),h.fam.went hb,h.off,h.ie,h.if_,h.ig,h.tn,h.n4⟩
theorem SAt.wrote{I:Ix->Prop}{P D:Ix->Nat}{p q1 q2 t n:Nat}{V:Ix->Nat->Bool}{w w':World}(h:SAt I P D p q1 q2 t n V w){k:Ix}(hk:I k){B:Nat->Bool}(hs:SetAt (P k) (D k) (rm t n k) B w')(hK:Keeps (D k) w w'):SAt I P D p q1 q2 t n (upd V k B) w':=by
 have ho:=h.off k hk;have hF:Sep.Fr (fun b=>b=D k) w w':=⟨hK.os,hK.tape,hK.output,hK.size,fun i hi hb=>hK.block i hi hb⟩;exact⟨h.box.fr hF (fun e=>ho.1 e.symm),fun s hs=>hF.cell (h.firsts s hs) (fun e=>ho.2.1 e.symm),fun s hs=>hF.cell (h.follows s hs) (fun e=>ho.2.2 e.symm),h.fam.wrote hk hs hK,h.off,h.ie,h.if_,h.ig,h.tn,h.n4⟩
def tv(C:Int->Bool)(F B:Int->Int->Bool)(O:Nat->Bool):Ix->Nat->Bool
 | .e=>rw' C
 | .f s=>rw' (F (s:Int))
 | .g s=>rw' (B (s:Int))
 | .o=>O
structure TOk (t n:Nat) (C:Int->Bool) (F B:Int->Int->Bool):Prop where
 c:Rng C n
 f1:∀x,Rng (F x) (t+1)
 f2:∀x i,F x i=true->0<=x/\x<(n:Int)
 b1:∀x,Rng (B x) (t+1)
 b2:∀x i,B x i=true->(t:Int)<x/\x<(n:Int)
theorem tv_e{C D:Int->Bool}{F B:Int->Int->Bool}{O:Nat->Bool}{V:Nat->Bool}(h:V=rw' D):upd (tv C F B O) .e V=tv D F B O:=by
 funext j
 cases j with
 |e=>rw[zB2,h];rfl
 |f s=>rw[zAf _ _ (by intro h;cases h)];rfl
 |g s=>rw[zAf _ _ (by intro h;cases h)];rfl
 |o=>rw[zAf _ _ (by intro h;cases h)];rfl
theorem tv_f{C:Int->Bool}{F H B:Int->Int->Bool}{O:Nat->Bool}{V:Nat->Bool}{s:Nat}(h:V=rw' (H (s:Int)))(ho:∀x:Int,x≠(s:Int)->H x=F x):upd (tv C F B O) (.f s) V=tv C H B O:=by
 funext j
 cases j with
 |e=>rw[zAf _ _ (by intro h;cases h)];rfl
 |f k=>
  by_cases e:k=s
  ·subst e;rw[zB2,h];rfl
  ·rw[zAf _ _ (by intro h;injection h with h;exact e h)];show rw' (F (k:Int))=rw' (H (k:Int));rw[ho _ (by omega)]
 |g s=>rw[zAf _ _ (by intro h;cases h)];rfl
 |o=>rw[zAf _ _ (by intro h;cases h)];rfl
theorem tv_g{C:Int->Bool}{F B H:Int->Int->Bool}{O:Nat->Bool}{V:Nat->Bool}{s:Nat}(h:V=rw' (H (s:Int)))(ho:∀x:Int,x≠(s:Int)->H x=B x):upd (tv C F B O) (.g s) V=tv C F H O:=by
 funext j
 cases j with
 |e=>rw[zAf _ _ (by intro h;cases h)];rfl
 |f s=>rw[zAf _ _ (by intro h;cases h)];rfl
 |g k=>
  by_cases e:k=s
  ·subst e;rw[zB2,h];rfl
  ·rw[zAf _ _ (by intro h;injection h with h;exact e h)];show rw' (B (k:Int))=rw' (H (k:Int));rw[ho _ (by omega)]
 |o=>rw[zAf _ _ (by intro h;cases h)];rfl
theorem SAt.more{I:Ix->Prop}{P D:Ix->Nat}{p q1 q2 t n:Nat}{C:Int->Bool}{F B:Int->Int->Bool}{O:Nat->Bool}{w w':World}(h:SAt I P D p q1 q2 t n (tv C F B O) w)(hI:¬I .o)(hb:Below w.heap.size w w'){po d:Nat}{N:Nat->Bool}(hs:SetAt po d (t+1) N w')(hp:w.heap.size<=po)(hd:w.heap.size<=d):
  ∃I' P' D',SAt I' P' D' p q1 q2 t n (tv C F B N) w'/\I' .o/\P' .o=po/\D' .o=d:=by
 have hq1:q1<w.heap.size:=World.block_lt_of_cell? w ⟨q1,0,none⟩ (h.firsts 0 (by have:=h.tn;omega));have hq2:q2<w.heap.size:=World.block_lt_of_cell? w ⟨q2,0,none⟩ (h.follows 0 (by have:=h.tn;omega));have hp0:=h.box.lt;refine⟨fun k=>I k\/k=.o,fun k=>match k with| .o=>po|k=>P k,fun k=>match k with| .o=>d|k=>D k,⟨(h.went hb).box,?_,?_,⟨?_,?_,?_⟩,?_,.inl h.ie,fun s hs=> .inl (h.if_ s hs),fun s h1 h2=> .inl (h.ig s h1 h2),h.tn,h.n4⟩,.inr rfl,rfl,rfl⟩
 ·exact(h.went hb).firsts
 ·exact(h.went hb).follows
 ·rintro(_|s|s|_) hk
  ·exact(h.went hb).fam.at_ .e h.ie
  ·rcases hk with hk|hk
   ·exact(h.went hb).fam.at_ (.f s) hk
   ·cases hk
  ·rcases hk with hk|hk
   ·exact(h.went hb).fam.at_ (.g s) hk
   ·cases hk
  ·exact hs
 ·have key:∀j,I j->D j≠d:=fun j hj e=>by have:=(h.fam.at_ j hj).ind;omega
  rintro(_|s|s|_) (_|s'|s'|_) hj hk he
  all_goals first
   |rfl
   |exact absurd he (key _ (by rcases hj with hj|hj<;>first|exact hj|cases hj))
   |exact absurd he.symm (key _ (by rcases hk with hk|hk<;>first|exact hk|cases hk))
   |exact h.fam.inj _ _ (by rcases hj with hj|hj<;>first|exact hj|cases hj) (by rcases hk with hk|hk<;>first|exact hk|cases hk) he
 ·have k1:∀j,I j->D j≠po:=fun j hj e=>by have:=(h.fam.at_ j hj).ind;omega
  have k2:∀j,I j->d≠P j:=fun j hj e=>by have:=(h.fam.at_ j hj).inp;omega
  rintro(_|s|s|_) (_|s'|s'|_) hj hk
  all_goals first
   |exact hs.apart.symm
   |exact k1 _ (by rcases hj with hj|hj<;>first|exact hj|cases hj)
   |exact k2 _ (by rcases hk with hk|hk<;>first|exact hk|cases hk)
   |exact h.fam.off _ _ (by rcases hj with hj|hj<;>first|exact hj|cases hj) (by rcases hk with hk|hk<;>first|exact hk|cases hk)
 ·rintro(_|s|s|_) hk
  ·exact h.off .e h.ie
  ·rcases hk with hk|hk
   ·exact h.off _ hk
   ·cases hk
  ·rcases hk with hk|hk
   ·exact h.off _ hk
   ·cases hk
  ·show d≠p/\d≠q1/\d≠q2;omega
def VS(nl:Bool)(I:Ix->Prop)(P D:Ix->Nat)(v:Value)(t n:Nat)(C:Int->Bool)(F B:Int->Int->Bool)(O:Nat->Bool)(w:World):Prop:=
 (nl=true/\v=.pointer none/\C=(fun _=>false)/\F=(fun _ _=>false)/\B=(fun _ _=>false))\/(nl=false/\∃p q1 q2,v=.pointer (some ⟨p,0,none⟩)/\SAt I P D p q1 q2 t n (tv C F B O) w)
theorem VS.went{nl:Bool}{I:Ix->Prop}{P D:Ix->Nat}{v:Value}{t n:Nat}{C:Int->Bool}{F B:Int->Int->Bool}{O:Nat->Bool}{w w':World}(h:VS nl I P D v t n C F B O w)(hb:Below w.heap.size w w'):VS nl I P D v t n C F B O w':=by
 rcases h with h|⟨h1,p,q1,q2,h2,h3⟩
 ·exact .inl h
 ·exact .inr ⟨h1,p,q1,q2,h2,h3.went hb⟩
end Fi
namespace Fi
open Go.RowKit Go.Maps
open Gr (Is boxed cell_later zAF)
open Bt (has)
open Rw (Bk)
theorem Bk.five{q:Nat}{a b c d e:Value}{T:TypeId}{w:World}(h:Bk q #[a,b,c,d,e] T w):w.cell? ⟨q,0,none⟩=some a/\w.cell? ⟨q,1,none⟩=some b/\w.cell? ⟨q,2,none⟩=some c/\w.cell? ⟨q,3,none⟩=some d/\w.cell? ⟨q,4,none⟩=some e:=
 ⟨h.cell rfl,h.cell rfl,h.cell rfl,h.cell rfl,h.cell rfl⟩
def symB(n:Nat)(x:Int):Bool:=decide (0<=x/\x<(n:Int))
def ntB(t n:Nat)(x:Int):Bool:=decide ((t:Int)<x/\x<(n:Int))
theorem zLY(t n:Nat)(x:Int)(w:World)(hn:n<=4000):
  Calls Tryz.prog 194 #[.agg #[.int .i64 (t:Int),.int .i64 (n:Int)],.int .i64 x] w (Is (.bool (symB n x)) w):=by
 go_enter Tryz.func194,Tryz.ntmps194;go_wp2
 all_goals
  go_ret;refine⟨zAF ?_,boxed _ _⟩;go_light;unfold symB
  first|(rw[decide_eq_true_iff];omega)|(rw[decide_eq_false_iff_not];omega)|(rw[Bool.eq_iff_iff];simp only[decide_eq_true_eq];omega)
theorem zRI(t n:Nat)(x:Int)(w:World)(hn:n<=4000):
  Calls Tryz.prog 155 #[.agg #[.int .i64 (t:Int),.int .i64 (n:Int)],.int .i64 x] w (Is (.bool (ntB t n x)) w):=by
 go_enter Tryz.func155,Tryz.ntmps155;go_wp2
 all_goals
  go_ret;refine⟨zAF ?_,boxed _ _⟩;go_light;unfold ntB
  first|(rw[decide_eq_true_iff];omega)|(rw[decide_eq_false_iff_not];omega)|(rw[Bool.eq_iff_iff];simp only[decide_eq_true_eq];omega)
def fptr(P:Ix->Nat)(n:Nat)(x:Int):Value:=if 0<=x/\x<(n:Int)then .pointer (some ⟨P (.f x.toNat),0,none⟩)else .pointer none
def gptr(P:Ix->Nat)(t n:Nat)(x:Int):Value:=if(t:Int)<x/\x<(n:Int)then .pointer (some ⟨P (.g x.toNat),0,none⟩)else .pointer none
theorem zGO{I:Ix->Prop}{P D:Ix->Nat}{p q1 q2 t n:Nat}{V:Ix->Nat->Bool}(w:World)(h:SAt I P D p q1 q2 t n V w)(x:Int):
  Calls Tryz.prog 158 #[.pointer (some ⟨p,0,none⟩),.int .i64 x] w (Is (fptr P n x) w):=by
 have H:=zVZ h;have S:=zVZ (fun w1=>zLY t n x w1 h.n4);have h4:=h.n4;obtain⟨x0,x1,x2,x3,x4⟩:=Bk.five h.box;clear h
 by_cases hx:0<=x/\x<(n:Int)
 ·have e:symB n x=true:=decide_eq_true hx;obtain⟨s,rfl⟩:∃s:Nat,x=(s:Int):=⟨x.toNat,by omega⟩;have EF:=zVZ (show fptr P n (s:Int)=.pointer (some ⟨P (.f s),0,none⟩)by unfold fptr;rw[if_pos hx];rfl);have hs:s<n:=by omega
  rw[e]at S;clear e;go_enter Tryz.func158,Tryz.ntmps158;go_wp2_with (go_at_call 194;refine(S.out _).mono ?_;rintro e w1 ⟨rfl,hb⟩;have HB:=zVZ hb;have y3:=cell_later hb x3;have z:=cell_later hb (H.out.firsts s hs);clear hb x0 x1 x2 x3 x4);go_ret;rw[EF.out];exact⟨rfl,HB.out⟩
 ·have e:symB n x=false:=decide_eq_false hx;have EF:=zVZ (show fptr P n x=.pointer none by unfold fptr;rw[if_neg hx]);rw[e]at S;clear e hx;go_enter Tryz.func158,Tryz.ntmps158;go_wp2_with (go_at_call 194;refine(S.out _).mono ?_;rintro e w1 ⟨rfl,hb⟩;have HB:=zVZ hb;clear hb);go_ret;rw[EF.out];exact⟨rfl,HB.out⟩
theorem zMZ{I:Ix->Prop}{P D:Ix->Nat}{p q1 q2 t n:Nat}{V:Ix->Nat->Bool}(w:World)(h:SAt I P D p q1 q2 t n V w)(x:Int):
  Calls Tryz.prog 159 #[.pointer (some ⟨p,0,none⟩),.int .i64 x] w (Is (gptr P t n x) w):=by
 have H:=zVZ h;have S:=zVZ (fun w1=>zRI t n x w1 h.n4);have h4:=h.n4;obtain⟨x0,x1,x2,x3,x4⟩:=Bk.five h.box;clear h
 by_cases hx:(t:Int)<x/\x<(n:Int)
 ·have e:ntB t n x=true:=decide_eq_true hx;obtain⟨s,rfl⟩:∃s:Nat,x=(s:Int):=⟨x.toNat,by omega⟩;have EF:=zVZ (show gptr P t n (s:Int)=.pointer (some ⟨P (.g s),0,none⟩)by unfold gptr;rw[if_pos hx];rfl);have hs:s<n:=by omega
  have hz:=H.out.follows s hs;rw[if_pos (by omega)]at hz;have HZ:=zVZ hz;rw[e]at S;clear e hz;go_enter Tryz.func159,Tryz.ntmps159;go_wp2_with (go_at_call 155;refine(S.out _).mono ?_;rintro e w1 ⟨rfl,hb⟩;have HB:=zVZ hb;have y3:=cell_later hb x4;have z:=cell_later hb HZ.out;clear hb x0 x1 x2 x3 x4);go_ret;rw[EF.out];exact⟨rfl,HB.out⟩
 ·have e:ntB t n x=false:=decide_eq_false hx;have EF:=zVZ (show gptr P t n x=.pointer none by unfold gptr;rw[if_neg hx]);rw[e]at S;clear e hx;go_enter Tryz.func159,Tryz.ntmps159;go_wp2_with (go_at_call 155;refine(S.out _).mono ?_;rintro e w1 ⟨rfl,hb⟩;have HB:=zVZ hb;clear hb);go_ret;rw[EF.out];exact⟨rfl,HB.out⟩
theorem zIR(w:World)(m:Nat):Below w.heap.size w (w.drewN m):=⟨rfl,rfl,rfl,Nat.le_refl _,fun _ _=>rfl⟩
theorem zO4{I:Ix->Prop}{P D:Ix->Nat}{p q1 q2 t n:Nat}{C:Int->Bool}{F B:Int->Int->Bool}{O:Nat->Bool}(w:World)(h:SAt I P D p q1 q2 t n (tv C F B O) w)(hC:Rng C n)(x:Int)(hx:x<=9223372036854775807):
  Calls Tryz.prog 193 #[.pointer (some ⟨p,0,none⟩),.int .i64 x] w (Is (.bool (C x)) w):=by
 have H:=zVZ (Bt.zMf w (.at_ (h.fam.at_ .e h.ie)) x hx);rw[show has (tv C F B O .e) x=C x from zUE hC x]at H;obtain⟨x0,x1,x2,x3,x4⟩:=Bk.five h.box;clear h;go_enter Tryz.func193,Tryz.ntmps193;go_wp2_with (go_at_call 164;refine H.out.mono ?_;rintro e w1 ⟨rfl,m,rfl⟩);go_ret;exact⟨rfl,zIR _ _⟩
theorem zQp{I:Ix->Prop}{P D:Ix->Nat}{p q1 q2 t n:Nat}{V:Ix->Nat->Bool}(w:World)(h:SAt I P D p q1 q2 t n V w):
  Calls Tryz.prog 154 #[.pointer (some ⟨p,0,none⟩)] w (Bt.Made (t+1) w):=by
 have hcap:Bt.cap ((t:Int)+1)=t+1:=by have:=h.tn;have:=h.n4;unfold Bt.cap;omega
 have N:=zVZ (Bt.zGg ((t:Int)+1) w);rw[hcap]at N;have ht:=h.tn;have h4:=h.n4;obtain⟨x0,x1,x2,x3,x4⟩:=Bk.five h.box;clear h hcap;go_enter Tryz.func154,Tryz.ntmps154;go_wp2_with (go_at_call 138;refine N.out.mono ?_;rintro e w2 ⟨p,d,rfl,hM⟩;have M:=zVZ hM;clear hM);go_ret;exact⟨p,d,rfl,M.out⟩
