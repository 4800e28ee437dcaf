/- Proof. -/
import Derived.Test.YtegeamggbglneaaGreatDoorPk06
import Derived.Test.YtegeamggbglneaaGreatDoorPk10
set_option linter.unusedVariables false
namespace Go.Proofs.YtegeamggbglneaaGreatDoor
namespace Au
open Go.RowKit Go.Maps Go.WideShapes Go.ChangeShapes Go.Joins Go.Deep
open Gr (cell_later)
open Im
abbrev mK:=List au×List (Int×Int)
def Ic(a:Option Addr)(i:Nat)(s:mK)(w:World):Prop:=
 ∃b o a1 c1 a2 c2,a=some ⟨b,o,none⟩/\w.cell? ⟨b,o+i*2,none⟩=some (.slice a1 s.1.length c1)/\w.cell? ⟨b,o+i*2+1,none⟩=some (.slice a2 s.2.length c2)/\bG a1 s.1 w/\bG a2 s.2 w/\s.1.length<=c1/\s.2.length<=c2
def fB(a:Option Addr)(X:List mK)(w:World):Prop:=∀i (h:i<X.length),Ic a i X[i] w
theorem Ic.went{a}{i}{s}{w w'}(h:Ic a i s w)(hb:Below w.heap.size w w'):Ic a i s w':=by
 obtain⟨b,o,a1,c1,a2,c2,e,h1,h2,h3,h4,h5,h6⟩:=h;exact⟨b,o,a1,c1,a2,c2,e,cell_later hb h1,cell_later hb h2,h3.went hb,h4.went hb,h5,h6⟩
theorem fB.went{a}{X}{w w'}(h:fB a X w)(hb:Below w.heap.size w w'):fB a X w':=fun i hi=>(h i hi).went hb
theorem fB.nil(a)(w):fB a [] w:=fun i hi=>absurd hi (Nat.not_lt_zero i)
end Au
namespace Au
open Go.RowKit Go.Maps
open Im
def eT(Y:List au)(u v:Value)(w:World):Prop:=∃a c,u=.slice a Y.length c/\Y.length<=c/\bG a Y w/\(Y≠[]->∀b o,a=some ⟨b,o,none⟩->v.ownBlock≠some b)
theorem z7{a}{Y}{w}(h:bG a Y w)(hn:Y≠[]){b o}(e:a=some ⟨b,o,none⟩):b<w.heap.size:=by
 cases Y with
 |nil=>exact absurd rfl hn
 |cons y Y=>
  obtain⟨b',o',e',hc⟩:=h 0 (by rw[rC];simp);rw[e]at e';injection e' with e'
  injection e' with e1 e2
  subst e1;exact World.block_lt_of_cell? _ _ hc
theorem eT.to{Y}{u v v'}{w w'}(h:eT Y u v w)(hb:∀b,b<w.heap.size->v.ownBlock≠some b->w'.heap[b]?=w.heap[b]?)(hv:∀b,b<w.heap.size->v.ownBlock≠some b->v'.ownBlock≠some b):eT Y u v' w':=by
 obtain⟨a,c,h1,h2,h3,h4⟩:=h
 by_cases hn:Y=[]
 ·subst hn;exact⟨a,c,h1,h2,.nil _ _,fun q=>absurd rfl q⟩
 ·exact⟨a,c,h1,h2,h3.keep fun b o e=>hb b (z7 h3 hn e) (h4 hn b o e),fun _ b o e=>hv b (z7 h3 hn e) (h4 hn b o e)⟩
theorem eT.went{Y}{u v}{w w'}(h:eT Y u v w)(hb:Below w.heap.size w w'):eT Y u v w':=h.to (fun b hl _=>hb.block b hl) fun _ _ q=>q
theorem eT.grown{Y}{u v v'}{w w'}(h:eT Y u v w)(hg:w.grownBy w' v.ownBlock)(hv:v'.ownBlock=v.ownBlock\/∃n,w.heap.size<=n/\v'.ownBlock=some n):eT Y u v' w':=
 h.to (fun b hl q=>hg.block b hl fun e=>q e.symm) fun b hl q e=>by
  rcases hv with h1|⟨n,hn,h1⟩
  ·exact q (h1.symm.trans e)
  ·rw[h1]at e;injection e with e
   omega
abbrev Ju:=mK×(Value×Value)
def sc(x:Ju):List Value:=[x.2.1,x.2.2]
theorem Vu(x):(sc x).length=2:=rfl
structure nV (T:TypeId) (base:Nat) (L:List Ju) (v:Value) (w:World):Prop where
 row:w.ownsRow base T 2 v L.length (L.flatMap sc)
 lists:∀x∈L,eT x.1.1 x.2.1 v w/\eT x.1.2 x.2.2 v w
theorem nV.went{T}{base}{L}{v}{w w'}(h:nV T base L v w)(hb:Below w.heap.size w w'):nV T base L v w':=
 ⟨Sep.bS h.row fun g hg=>hb.block g (h.row.lt g hg).2,fun x hx=>⟨(h.lists x hx).1.went hb,(h.lists x hx).2.went hb⟩⟩
theorem nV.nil(T)(base)(w):nV T base [] (.slice none 0 0) w:=⟨World.ownsRow_nil _ _ _ _,fun x hx=>by cases hx⟩
theorem nV.len{T}{base}{L}{v}{w}(h:nV T base L v w):∃a c,v=.slice a L.length c/\L.length<=c:=by
 rcases h.row.2 with⟨rfl,h0⟩|⟨g,cap,cur,rfl,_,_,h5,_⟩
 ·exact⟨none,0,by rw[h0],by rw[h0];exact Nat.le_refl _⟩
 ·exact⟨_,cap,rfl,h5⟩
theorem nV.at{T}{base}{L}{a}{c}{w}(h:nV T base L (.slice a L.length c) w):fB a (L.map Prod.fst) w:=by
 intro i hi;have hi':i<L.length:=by simpa using hi
 rcases h.row.2 with⟨_,h0⟩|⟨g,cap,cur,he,_⟩
 ·omega
 ·simp only[Value.slice.injEq]at he;obtain⟨rfl,_,_⟩:=he;have hc:=World.ownsRow.cells h.row (g:=g) rfl;obtain⟨⟨a1,c1,u1,l1,i1,_⟩,⟨a2,c2,u2,l2,i2,_⟩⟩:=h.lists _ (List.getElem_mem hi');have t0:=hc (i*2+0) _ (Rw.mE sc Vu L i hi' 0 (by omega));have t1:=hc (i*2+1) _ (Rw.mE sc Vu L i hi' 1 (by omega));rw[WideShapes.add_plain]at t0 t1;rw[List.getElem_map];refine⟨g,0,a1,c1,a2,c2,rfl,?_,?_,i1,i2,l1,l2⟩
  ·rw[←u1]
   simpa using t0
  ·rw[←u2]
   simpa using t1
theorem nV.snoc{T}{base}{L}{v v'}{w w'}(h:nV T base L v w)(x)(hx:eT x.1.1 x.2.1 v w/\eT x.1.2 x.2.2 v w)(hr:w'.ownsRow base T 2 v' (L.length+1) (L.flatMap sc++sc x))(hg:w.grownBy w' v.ownBlock)(hv:v'.ownBlock=v.ownBlock\/∃n,w.heap.size<=n/\v'.ownBlock=some n):nV T base (L++[x]) v' w':=by
 refine⟨?_,fun y hy=>?_⟩
 ·rw[List.length_append,List.flatMap_append]
  simpa using hr
 ·have key:eT y.1.1 y.2.1 v w/\eT y.1.2 y.2.2 v w:=by
   rcases List.mem_append.1 hy with q|q
   ·exact h.lists y q
   ·rw[List.mem_singleton]at q;rw[q];exact hx
  exact⟨key.1.grown hg hv,key.2.grown hg hv⟩
end Au
namespace Au
open Go.RowKit Go.Maps
open Gr (cell_later)
open Im
def upd{α:Type}(f:Nat->α)(s:Nat)(x:α):Nat->α:=fun r=>if r=s then x else f r
theorem upd_same{α}(f)(s)(x:α):upd f s x s=x:=if_pos rfl
theorem bu{α}{f}{s r}{x:α}(h:r≠s):upd f s x r=f r:=if_neg h
structure fY (T:TypeId) (b m n:Nat) (F:Nat->List au) (D:Nat->Value) (w:World):Prop where
 cell:∀s,s<n->w.cell? ⟨b,s,none⟩=some (D s)
 free:∀s,w.frozen? ⟨b,s,none⟩=false
 row:∀s,s<n->bw T m (F s) (D s) w
 off:∀s r,s<n->r<n->s≠r->∀g,(D s).ownBlock=some g->(D r).ownBlock≠some g
 bm:b<m
 le:m<=w.heap.size
theorem fY.went{T}{b m n}{F}{D}{w w'}(h:fY T b m n F D w)(hb:Below w.heap.size w w'):fY T b m n F D w':=
 have hl:b<w.heap.size:=Nat.lt_of_lt_of_le h.bm h.le
 ⟨fun s hs=>cell_later hb (h.cell s hs),fun s=>(World.frozen?_of_block (a:=⟨b,s,none⟩) (hb.block b hl)).trans (h.free s),fun s hs=>(h.row s hs).went hb,h.off,h.bm,Nat.le_trans h.le hb.size⟩
theorem fY.congr{T}{b m n}{F F'}{D}{w}(h:fY T b m n F D w)(e:∀s,s<n->F s=F' s):fY T b m n F' D w:=
 ⟨h.cell,h.free,fun s hs=>by rw[←e s hs];exact h.row s hs,h.off,h.bm,h.le⟩
theorem fY.put{T}{b m n}{F}{D}{w w'}(h:fY T b m n F D w){s}(hs:s<n){y}{v'}(hr:bw T m (F s++[y]) v' w')(hg:w.grownBy w' (D s).ownBlock)(hv:v'.ownBlock=(D s).ownBlock\/v'.ownBlock=some w.heap.size):
  fY T b m n (upd F s (F s++[y])) (upd D s v') (w'.setCell ⟨b,s,none⟩ v'):=by
 have hl:b<w.heap.size:=Nat.lt_of_lt_of_le h.bm h.le;have own:∀r,r<n->∀g,(D r).ownBlock=some g->m<=g/\g<w.heap.size:=fun r hr g hg=>World.ownsRow.lt (h.row r hr) g hg
 have eb:w'.heap[b]?=w.heap[b]?:=hg.block b hl fun e=>by
  have:=(own s hs b e.symm).1;have:=h.bm;omega
 have LH:∀g,v'.ownBlock=some g->m<=g:=fun g hg=>(World.ownsRow.lt hr g hg).1
 have other:∀g,g≠b->(w'.setCell ⟨b,s,none⟩ v').heap[g]?=w'.heap[g]?:=fun g hg=>Below.heap_setCell _ _ _ _ hg
 refine⟨fun r hr'=>?_,fun r=>?_,fun r hr'=>?_,fun r z hr' hq hne g e1 e2=>?_,h.bm,?_⟩
 ·by_cases e:r=s
  ·subst e;rw[upd_same];exact World.cell?_setCell_same _ _ _ ((World.cell?_of_block (a:=⟨b,r,none⟩) eb).trans (h.cell r hr'))
  ·rw[bu e,World.cell?_setCell_other _ _ _ _ (fun q=>e (congrArg Addr.off q).symm)];exact(World.cell?_of_block (a:=⟨b,r,none⟩) eb).trans (h.cell r hr')
 ·rw[World.frozen?_setCell];exact(World.frozen?_of_block (a:=⟨b,r,none⟩) eb).trans (h.free r)
 ·by_cases e:r=s
  ·subst e;rw[upd_same,upd_same];exact hr.keep fun g e=>other g (by have:=LH g e;have:=h.bm;omega)
  ·rw[bu e,bu e];refine(h.row r hr').keep fun g hg'=>?_
   have h1:=own r hr' g hg';rw[other g (by have:=h.bm;omega)];exact hg.block g h1.2 fun q=>h.off r s hr' hs e g hg' q.symm
 ·by_cases er:r=s
  ·subst er;rw[upd_same]at e1;rw[bu (fun q=>hne q.symm)]at e2;rcases hv with k|k
   ·exact h.off r z hr' hq hne g (k▸e1) e2
   ·have:=(own _ hq g e2).2;rw[k]at e1;injection e1 with e1
    omega
  ·rw[bu er]at e1
   by_cases eq:z=s
   ·subst eq;rw[upd_same]at e2;rcases hv with q'|q'
    ·exact h.off r z hr' hq hne g e1 (q'▸e2)
    ·have:=(own _ hr' g e1).2;rw[q']at e2;injection e2 with e2
     omega
   ·rw[bu eq]at e2;exact h.off r z hr' hq hne g e1 e2
 ·rw[show(w'.setCell ⟨b,s,none⟩ v').heap.size=w'.heap.size by simp[World.setCell]];exact Nat.le_trans h.le hg.size
theorem fY.fr{T}{b m n}{F}{D}{w w'}{v'}(h:fY T b m n F D w){s}(hs:s<n)(hg:w.grownBy w' (D s).ownBlock){w0}(f:Sep.Fr (· =b) w0 w)(hm:w0.heap.size<=m):Sep.Fr (· =b) w0 (w'.setCell ⟨b,s,none⟩ v'):=
 (f.grown hg fun k hk=> .inr (Nat.le_trans hm (World.ownsRow.lt (h.row s hs) k hk).1)).setCell _ rfl _
end Au
namespace Lk
open Gr (ai checkN lM ax cN dD top rF sf wH nN nK jN)
open Im
open Au
open Fi (mM)
def dm(G:ai)(s:Int)(m:Nat):List Nat:=(List.range m).filter fun k=>(ax G (k:Int)).1==s
def eI(G:ai)(s:Int):List Nat:=dm G s (G.rules.length+1)
theorem zPo{G}{s}{m:Nat}(h:(ax G (m:Int)).1=s):dm G s (m+1)=dm G s m++[m]:=by
 simp[dm,List.range_succ,List.filter_append,h]
theorem zMj{G}{s}{m:Nat}(h:(ax G (m:Int)).1≠s):dm G s (m+1)=dm G s m:=by
 simp[dm,List.range_succ,List.filter_append,h]
theorem VE(G)(s)(m):(dm G s m).length<=m:=by
 unfold dm;have:=List.length_filter_le (fun k:Nat=>(ax G (k:Int)).1==s) (List.range m)
 simpa using this
theorem zQs{G}{s}{m k}:k∈dm G s m↔k<m/\(ax G (k:Int)).1=s:=by
 simp[dm]
theorem rE{G}{s}{k}:k∈eI G s↔k<=G.rules.length/\(ax G (k:Int)).1=s:=by
 unfold eI;rw[zQs];omega
theorem zLD(G)(s)(m):(dm G s m).Nodup:=List.Pairwise.filter _ List.nodup_range
theorem EK{G}{s}(hs:s≠0){k}:k∈eI G s↔k∈dD G s:=by
 rw[rE,rF];constructor
 ·rintro⟨h1,h2⟩
  by_cases e:k=G.rules.length
  ·subst e;rw[(nK G).2]at h2;exact absurd h2.symm hs
  ·have hk:k<G.rules.length:=by omega
   rw[(nN hk).2]at h2;exact⟨hk,by rw[sf hk];exact h2⟩
 ·rintro⟨h1,h2⟩;rw[sf h1]at h2;exact⟨Nat.le_of_lt h1,by rw[(nN h1).2];exact h2⟩
theorem uw{G}(hv:checkN G=0){k}(hk:k<=G.rules.length):(k=G.rules.length/\(ax G (k:Int)).1=0)\/(k<G.rules.length/\(G.terms.length:Int)<(ax G (k:Int)).1/\(ax G (k:Int)).1<=(top G:Int)):=by
 by_cases e:k=G.rules.length
 ·exact .inl ⟨e,by rw[e,(nK G).2]⟩
 ·have hk:k<G.rules.length:=by omega
  have h1:=wH (lM hv).2.2.2.1 hk;rw[sf hk]at h1;have:=jN.1 h1;refine .inr ⟨hk,?_,?_⟩
  ·rw[(nN hk).2];omega
  ·rw[(nN hk).2];unfold top;omega
theorem VZ{G}(hv:checkN G=0){k}(h:k∈eI G 0):k=G.rules.length:=by
 obtain⟨h1,h2⟩:=rE.1 h;rcases uw hv h1 with⟨e,_⟩|⟨_,e,_⟩
 ·exact e
 ·omega
def hd(G:ai)(s:Int):au:=((((eI G s).headD 0:Nat):Int),0)
def rep(G:ai)(x:au):au:=if x.2=0 then hd G (ax G x.1).1 else x
theorem uE{G}{x}(h:x.2≠0):rep G x=x:=if_neg h
theorem yG{G}{x}(h:x.2=0):rep G x=hd G (ax G x.1).1:=if_pos h
theorem yD{G}{k:Nat}(hk:k<=G.rules.length):(eI G (ax G (k:Int)).1).headD 0∈eI G (ax G (k:Int)).1:=by
 have:k∈eI G (ax G (k:Int)).1:=rE.2 ⟨hk,rfl⟩;cases h:eI G (ax G (k:Int)).1 with
 |nil=>rw[h]at this;cases this
 |cons a l=>exact List.mem_cons_self ..
theorem head_ne{G}{s}(h:eI G s≠[]):(eI G s).headD 0∈eI G s:=by
 cases e:eI G s with
 |nil=>exact absurd e h
 |cons a l=>exact List.mem_cons_self ..
theorem Hp{G}{s}{r}(h:r∈eI G s):rep G ((r:Int),0)=hd G s:=by
 rw[yG rfl,(rE.1 h).2]
theorem Yy{G}{s}(h:eI G s≠[]):rep G (hd G s)=hd G s:=Hp (head_ne h)
theorem zUI{G}{x}(h:cN G x.1=true):rep G (rep G x)=rep G x:=by
 by_cases e:x.2=0
 ·unfold cN at h;obtain⟨h1,h2⟩:=of_decide_eq_true h;obtain⟨k,hk⟩:=Int.eq_ofNat_of_zero_le h1;rw[yG e];refine Yy fun q=>?_
  have:=yD (G:=G) (k:=k) (by omega);rw[←hk,q]at this;cases this
 ·rw[uE e,uE e]
theorem Wj{G}{s}(h:eI G s≠[]):bo G (hd G s)=true:=wC (rE.1 (head_ne h)).1
theorem zOg{G}{x}(h:bo G x=true):bo G (rep G x)=true:=by
 by_cases e:x.2=0
 ·obtain⟨⟨h1,h2⟩,_⟩:=iD.1 h;obtain⟨k,hk⟩:=Int.eq_ofNat_of_zero_le h1;rw[yG e];refine Wj fun q=>?_
  have:=yD (G:=G) (k:=k) (by omega);rw[←hk,q]at this;cases this
 ·rw[uE e];exact h
theorem Ig{G}{q}(hv:checkN G=0){i}{x}{t}(hx:cN G x.1=true):La G q i (rep G x) t↔La G q i x t:=by
 by_cases e:x.2=0
 ·obtain⟨r,d⟩:=x;dsimp only at e hx;subst e;unfold cN at hx;obtain⟨h1,h2⟩:=of_decide_eq_true hx;obtain⟨k,rfl⟩:=Int.eq_ofNat_of_zero_le h1;have hk:k<=G.rules.length:=by omega
  have hm:=yD (G:=G) hk;have e1:rep G ((k:Int),0)=((((eI G (ax G (k:Int)).1).headD 0:Nat):Int),0):=rfl;rw[e1];generalize (eI G (ax G (k:Int)).1).headD 0=k0 at hm;obtain⟨m1,m2⟩:=rE.1 hm
  have key:∀a b:Nat,a<=G.rules.length->b<=G.rules.length->(ax G (a:Int)).1=(ax G (b:Int)).1->La G q i ((a:Int),0) t->La G q i ((b:Int),0) t:=by
   intro a b ha hb hab hl;generalize hy:(((a:Int),(0:Int)):au)=y at hl;cases hl with
   |start=>
    injection hy with hy _
    have ea:a=G.rules.length:=by omega
    subst ea;rw[(nK G).2]at hab;rcases uw hv hb with⟨e,_⟩|⟨_,e,_⟩
    ·subst e;exact .start
    ·omega
   |move h0 hb0 _=>
    injection hy with _ hy
    have:=(iD.1 (kx.1 hb0).1).2.1;omega
   |opens h0 hb0 hr hl=>
    injection hy with hy _
    rename_i r y t0 _;obtain rfl:a=r:=by omega
    obtain⟨a1,a2⟩:=rF.1 hr;rw[sf a1]at a2;rw[(nN a1).2]at hab;refine .opens h0 hb0 (rF.2 ?_) hl;rcases uw hv hb with⟨e,e2⟩|⟨e,e2,_⟩
    ·rcases uw hv ha with⟨e3,_⟩|⟨e3,e4,_⟩
     ·omega
     ·rw[(nN a1).2]at e4;omega
    ·refine⟨e,?_⟩;rw[sf e];rw[(nN e).2]at hab;rw[←hab];exact a2
  exact⟨key _ _ m1 hk m2,key _ _ hk m1 m2.symm⟩
 ·rw[uE e]
def dZ(G:ai)(K:List au)(ss:List Int):List au:=K++ss.flatMap fun s=>(eI G s).map fun k:Nat=>(((k:Int),0):au)
theorem zQt{G}{K}{ss}{x}:x∈dZ G K ss↔x∈K\/∃s∈ss,∃k∈eI G s,x=((k:Int),0):=by
 unfold dZ;rw[List.mem_append,List.mem_flatMap];constructor
 ·rintro(h|⟨s,h1,h2⟩)
  ·exact .inl h
  ·obtain⟨k,h3,h4⟩:=List.mem_map.1 h2;exact .inr ⟨s,h1,k,h3,h4.symm⟩
 ·rintro(h|⟨s,h1,k,h2,rfl⟩)
  ·exact .inl h
  ·exact .inr ⟨s,h1,List.mem_map.2 ⟨k,h2,rfl⟩⟩
def jU(q:Whole)(i:Nat):List Int:=(q.2.getD i []).map Prod.fst
theorem Hm{G}{q}(D:Done G q){i}(hi:i<q.1.length){s}:s∈jU q i↔∃m:Nat,m<top G/\s=((m+1:Nat):Int)/\cd G (fH G (bp q.1 i)) s≠[]:=by
 unfold jU;have hl:i<q.2.length:=by rw[D.all];exact hi
 rw[D.ok.trans i hl,List.mem_map];constructor
 ·rintro⟨⟨a,b⟩,h,rfl⟩;obtain⟨m,h1,rfl,h2,_⟩:=rA.1 h;exact⟨m,h1,rfl,h2⟩
 ·rintro⟨m,h1,rfl,h2⟩;exact⟨_,rA.2 ⟨m,h1,rfl,h2,rfl⟩,rfl⟩
theorem yO{G}{q}(D:Done G q)(hv:checkN G=0){i}(hi:i<q.1.length)(x):x∈dZ G (bp q.1 i) (jU q i)↔cM G (bp q.1 i) x:=by
 rw[zQt];constructor
 ·rintro(h|⟨s,h1,k,h2,rfl⟩)
  ·exact .of h ((D.ok.good _ (ux hi)).2.2 _ h)
  ·obtain⟨m,hm,rfl,hn⟩:=(Hm D hi).1 h1;obtain⟨y,hy⟩:=List.exists_mem_of_ne_nil _ hn;obtain⟨z,z1,z2,z3,_⟩:=((rN _ _ _).2 y).1 hy;refine .next (((sQ _ _).2 z).1 z1) z2 ?_;rw[z3];exact(EK (by omega)).1 h2
 ·intro h;cases h with
  |of h _=>exact .inl h
  |next hc hb hr=>
   rename_i y r;refine .inr ?_;obtain⟨yr,yd⟩:=y;obtain⟨b1,b2⟩:=kx.1 hb;obtain⟨c1,c2⟩:=iD.1 b1;dsimp only at c1 c2 b2;obtain⟨n,rfl⟩:=Int.eq_ofNat_of_zero_le c1.1;obtain⟨d,rfl⟩:=Int.eq_ofNat_of_zero_le c2.1
   have ij:cN G (n:Int)=true:=by
    unfold cN;exact decide_eq_true c1
   have hd:d<(ax G (n:Int)).2.length:=by
    unfold cQ at b2;omega
   obtain⟨s1,s2⟩:=si ij hd;obtain⟨k1,k2⟩:=uA hv ij hd;obtain⟨m,hm⟩:=Int.eq_ofNat_of_zero_le (show 0<=(ax G (n:Int)).2[d]-1 by omega);have es:aQ G ((n:Int),(d:Int))=((m+1:Nat):Int):=by rw[s2];omega
   rw[es]at hr;refine⟨((m+1:Nat):Int),(Hm D hi).2 ⟨m,by omega,rfl,fun e=>?_⟩,r,(EK (by omega)).2 hr,rfl⟩;have:((n:Int),((d:Int)+1))∈cd G (fH G (bp q.1 i)) ((m+1:Nat):Int):=((rN _ _ _).2 _).2 ⟨((n:Int),(d:Int)),((sQ _ _).2 _).2 hc,s1,es,rfl⟩;rw[e]at this;cases this
theorem zM1{G}{q}(D:Done G q)(hv:checkN G=0){i}(hi:i<q.1.length){x}(hx:cM G (bp q.1 i) x)(hb:aZ G x=true):∃j:Nat,j<q.1.length/\leads (q.2.getD i []) (aQ G x)=(j:Int)/\(x.1,x.2+1)∈bp q.1 j:=by
 obtain⟨yr,yd⟩:=x;obtain⟨b1,b2⟩:=kx.1 hb;obtain⟨c1,c2⟩:=iD.1 b1;dsimp only at c1 c2 b2;obtain⟨n,rfl⟩:=Int.eq_ofNat_of_zero_le c1.1;obtain⟨d,rfl⟩:=Int.eq_ofNat_of_zero_le c2.1
 have ij:cN G (n:Int)=true:=by
  unfold cN;exact decide_eq_true c1
 have hd:d<(ax G (n:Int)).2.length:=by
  unfold cQ at b2;omega
 obtain⟨j,h1,h2,h3⟩:=D.one hv hi ij hd (((sQ _ _).2 _).2 hx);exact⟨j,h1,by rw[(si ij hd).2];exact h2,by simpa using h3⟩
theorem UH{G}{q}(D:Done G q){j}(h0:0<j)(hj:j<q.1.length){y}(hy:y∈bp q.1 j):∃(i:Nat) (x:au),i<q.1.length/\cM G (bp q.1 i) x/\aZ G x=true/\leads (q.2.getD i []) (aQ G x)=(j:Int)/\y=(x.1,x.2+1):=by
 obtain⟨i,s,h1,h2,h3,h4⟩:=D.ok.early j h0 hj;rw[h4]at hy;obtain⟨x,x1,x2,x3,x4⟩:=((rN _ _ _).2 y).1 hy;refine⟨i,x,by omega,((sQ _ _).2 x).1 x1,x2,?_,x4⟩;rw[x3,D.ok.trans i h2];have hn:cd G (fH G (bp q.1 i)) ((s+1:Nat):Int)≠[]:=fun e=>by rw[←h4]at e;exact(D.ok.good _ (ux hj)).1 e
 rw[TU h3 hn]
 congr 1
 rw[←h4,wJ hj];exact D.ok.nodup.idxOf_getElem j hj
theorem DY{α:Type}[DecidableEq α]:∀{l M:List α},l.Nodup->(∀x∈l,x∈M)->l.length<=M.length
 |[],_,_,_=>Nat.zero_le _
 |x::l,M,h,k=>by
  have h':=List.nodup_cons.1 h;have hm:=k x (List.mem_cons_self ..);have:=DY (M:=M.erase x) h'.2 fun z hz=>(List.mem_erase_of_ne (fun e=>h'.1 (by rw[←e];exact hz))).2 (k z (List.mem_cons_of_mem _ hz))
  rw[List.length_erase_of_mem hm]at this;have:=List.length_pos_of_mem hm;rw[List.length_cons];omega
abbrev Pl:=Nat×au
structure Way where
 v:Value
 f:Nat->Bool
 e:Bool
 «to»:Nat
structure Nt where
 ak:List Pl
 D:Nat->Nat
 E:Nat->Nat
 Ys:Nat->List Way
 wv:Nat->Value
 S:Nat->Nat->Bool
 Wt:Nat->Bool
 qs:List Nat
def Way.Ov(y:Way):Prop:=y.e=true/\∀u,y.f u=false
def Way.In(G:ai)(x:au)(y:Way):Prop:=(y.e=true↔∀z∈yU G x,Fi.Can G z)/\∀u:Nat,y.f u=true↔mM G (yU G x) (u:Int)
def sZ(G:ai)(q:Whole)(ak:List Pl)(i:Nat)(x:au)(y:Way):Prop:=
 (∃j:Nat,leads (q.2.getD i []) (aQ G x)=(j:Int)/\ak[y.to]?=some (j,(x.1,x.2+1))/\y.Ov)\/(eI G (aQ G x)≠[]/\ak[y.to]?=some (i,hd G (aQ G x))/\y.In G x)
structure lD (G:ai) (q:Whole) (N:Nt):Prop where
 nd:N.ak.Nodup
 can:∀p∈N.ak,p.1<q.1.length/\rep G p.2=p.2/\bo G p.2=true
 sound:∀(k i:Nat) (c:au),N.ak[k]?=some (i,c)->∀y∈N.Ys k,∃x,cM G (bp q.1 i) x/\rep G x=c/\aZ G x=true/\sZ G q N.ak i x y
def nT(G:ai)(q:Whole)(N:Nt)(i:Nat)(x:au):Prop:=
 aZ G x=true->∃k:Nat,N.ak[k]?=some (i,rep G x)/\(∃j:Nat,leads (q.2.getD i []) (aQ G x)=(j:Int)/\∃y∈N.Ys k,N.ak[y.to]?=some (j,(x.1,x.2+1))/\y.Ov)/\(eI G (aQ G x)≠[]->∃y∈N.Ys k,N.ak[y.to]?=some (i,hd G (aQ G x))/\y.In G x)
structure oM (N M:Nt):Prop where
 ak:∀(k:Nat) (p:Pl),N.ak[k]?=some p->M.ak[k]?=some p
 ys:∀k,k<N.ak.length->∀y∈N.Ys k,y∈M.Ys k
theorem nE{α:Type}{l:List α}{k}{p}(h:l[k]?=some p):k<l.length:=by
 rcases Nat.lt_or_ge k l.length with q|q
 ·exact q
 ·rw[List.getElem?_eq_none q]at h;cases h
theorem oM.refl(N):oM N N:=⟨fun _ _ h=>h,fun _ _ _ h=>h⟩
theorem oM.len{N M}(h:oM N M):N.ak.length<=M.ak.length:=by
 rcases Nat.lt_or_ge M.ak.length N.ak.length with q|q
 ·have:=h.ak M.ak.length _ (List.getElem?_eq_getElem q);rw[List.getElem?_eq_none (Nat.le_refl _)]at this;cases this
 ·exact q
theorem oM.trans{N M L}(h:oM N M)(k:oM M L):oM N L:=⟨fun a p e=>k.ak a p (h.ak a p e),fun a ha y hy=>k.ys a (Nat.lt_of_lt_of_le ha h.len) y (h.ys a ha y hy)⟩
theorem nT.AY{G}{q}{N M}{i}{x}(h:nT G q N i x)(g:oM N M):nT G q M i x:=fun hb=>by
 obtain⟨k,h1,⟨j,h2,y,h3,h4,h5⟩,h6⟩:=h hb;have hk:=nE h1;refine⟨k,g.ak _ _ h1,⟨j,h2,y,g.ys k hk y h3,g.ak _ _ h4,h5⟩,fun hn=>?_⟩;obtain⟨z,z1,z2,z3⟩:=h6 hn;exact⟨z,g.ys k hk z z1,g.ak _ _ z2,z3⟩
theorem sZ.AY{G}{q}{a b}{i}{x}{y}(h:sZ G q a i x y)(g:∀(k:Nat) (p:Pl),a[k]?=some p->b[k]?=some p):sZ G q b i x y:=by
 rcases h with⟨j,h1,h2,h3⟩|⟨h1,h2,h3⟩
 ·exact .inl ⟨j,h1,g _ _ h2,h3⟩
 ·exact .inr ⟨h1,g _ _ h2,h3⟩
def Nt.cell(N:Nt)(p:Pl)(d e:Nat):Nt:=
 {ak:=N.ak++[p],D:=upd N.D N.ak.length d,E:=upd N.E N.ak.length e,Ys:=upd N.Ys N.ak.length [],wv:=upd N.wv N.ak.length (.slice none 0 0),S:=upd N.S N.ak.length (fun _=>false),Wt:=upd N.Wt N.ak.length false,qs:=N.qs}
theorem Nt.lZ(N)(p)(d e):oM N (N.cell p d e):=by
 refine⟨fun k r h=>?_,fun k hk y hy=>?_⟩
 ·show(N.ak++[p])[k]?=some r;rw[List.getElem?_append_left (nE h)];exact h
 ·show y∈upd N.Ys N.ak.length [] k;rw[bu (by omega)];exact hy
theorem lD.cell{G}{q}{N}(h:lD G q N){i}{c}(hn:(i,c)∉N.ak)(hi:i<q.1.length)(hc:rep G c=c)(hr:bo G c=true)(d e):lD G q (N.cell (i,c) d e):=by
 refine⟨?_,fun p hp=>?_,fun k j x hk y hy=>?_⟩
 ·show(N.ak++[(i,c)]).Nodup;rw[List.nodup_append];refine⟨h.nd,by simp,fun a ha b hb=>?_⟩;rw[List.mem_singleton]at hb;subst hb;exact fun e=>hn (e▸ha)
 ·rcases List.mem_append.1 (show p∈N.ak++[(i,c)]from hp)with k|k
  ·exact h.can p k
  ·rw[List.mem_singleton]at k;subst k;exact⟨hi,hc,hr⟩
 ·have hy':y∈upd N.Ys N.ak.length [] k:=hy
  by_cases ek:k=N.ak.length
  ·subst ek;rw[upd_same]at hy';cases hy'
  ·rw[bu ek]at hy';have hk':(N.ak++[(i,c)])[k]?=some (j,x):=hk;have hl:=nE hk';rw[List.length_append]at hl;simp only[List.length_cons,List.length_nil]at hl;rw[List.getElem?_append_left (by omega)]at hk';obtain⟨z,z1,z2,z3,z4⟩:=h.sound k j x hk' y hy';exact⟨z,z1,z2,z3,z4.AY fun a p e'=>(N.lZ (i,c) d e).ak a p e'⟩
def Nt.lead(N:Nt)(k:Nat)(y:Way)(v:Value):Nt:={N with Ys:=upd N.Ys k (N.Ys k++[y]),wv:=upd N.wv k v}
theorem Nt.gD(N)(k)(y)(v):oM N (N.lead k y v):=by
 refine⟨fun _ _ h=>h,fun a ha z hz=>?_⟩;show z∈upd N.Ys k (N.Ys k++[y]) a
 by_cases e:a=k
 ·subst e;rw[upd_same];exact List.mem_append_left _ hz
 ·rw[bu e];exact hz
theorem Nt.iZ(N:Nt)(k)(y)(v):y∈(N.lead k y v).Ys k:=by
 show y∈upd N.Ys k (N.Ys k++[y]) k;rw[upd_same];exact List.mem_append_right _ (List.mem_singleton.2 rfl)
theorem lD.lead{G}{q}{N}(h:lD G q N){k i:Nat}{x}(hk:N.ak[k]?=some (i,rep G x))(hx:cM G (bp q.1 i) x)(hb:aZ G x=true){y}(hy:sZ G q N.ak i x y)(v):lD G q (N.lead k y v):=by
 refine⟨h.nd,h.can,fun a j c ha z hz=>?_⟩;have hz':z∈upd N.Ys k (N.Ys k++[y]) a:=hz
 by_cases e:a=k
 ·subst e;rw[upd_same]at hz';rcases List.mem_append.1 hz' with r|r
  ·exact h.sound a j c ha z r
  ·rw[List.mem_singleton]at r;subst r;have ha':N.ak[a]?=some (j,c):=ha;rw[hk]at ha';injection ha' with ha'
   injection ha' with e1 e2
   subst e1 e2;exact⟨x,hx,rfl,hb,hy⟩
 ·rw[bu e]at hz';exact h.sound a j c ha z hz'
theorem lD.len{G}{q}{N}(h:lD G q N){A:List au}(hA:∀x,bo G x=true->x∈A):N.ak.length<=q.1.length*A.length:=by
 have h1:N.ak.length<=((List.range q.1.length).flatMap fun i=>A.map fun x=>((i,x):Pl)).length:=by
  refine DY h.nd fun p hp=>?_
  obtain⟨k1,_,k3⟩:=h.can p hp;exact List.mem_flatMap.2 ⟨p.1,List.mem_range.2 k1,List.mem_map.2 ⟨p.2,hA _ k3,rfl⟩⟩
 have h2:∀l:List Nat,(l.flatMap fun i=>A.map fun x=>((i,x):Pl)).length=l.length*A.length:=fun l=>by
  induction l with
  |nil=>simp
  |cons a l ih=>rw[List.flatMap_cons,List.length_append,ih,List.length_map,List.length_cons,Nat.succ_mul];omega
 rw[h2,List.length_range]at h1;exact h1
end Lk
namespace Lk
open Gr (ai checkN lM ax cN cp rF wH nK jN)
open Im
open Au
open Bt (bz eP gains)
theorem Eb{B C}{n}:gains B n C=true↔∃i,i<n/\C i=true/\B i=false:=by
 unfold gains;rw[List.any_eq_true];constructor
 ·rintro⟨i,h1,h2⟩;rw[Bool.and_eq_true,Bool.not_eq_true']at h2;exact⟨i,List.mem_range.1 h1,h2.1,h2.2⟩
 ·rintro⟨i,h1,h2,h3⟩;exact⟨i,List.mem_range.2 h1,by rw[h2,h3];rfl⟩
theorem YU(B C)(n){i}(h:B i=true):eP B n C i=true:=by
 unfold eP;rw[h]
 rfl
theorem OD(B C)(n){i}(h:C i=true)(hi:i<n):eP B n C i=true:=by
 unfold eP;rw[h];simp[hi]
theorem MN{B C}{n i}(h:eP B n C i=true):B i=true\/(C i=true/\i<n):=by
 unfold eP at h;rw[Bool.or_eq_true,Bool.and_eq_true,decide_eq_true_iff]at h;exact h
theorem WE{B C}{n}(h:gains B n C=false):eP B n C=B:=by
 funext i
 cases hb:B i with
 |true=>exact YU B C n hb
 |false=>
  cases ho:eP B n C i with
  |false=>rfl
  |true=>
   rcases MN ho with q|⟨q1,q2⟩
   ·rw[hb]at q;cases q
   ·rw[Eb.2 ⟨i,q2,q1,hb⟩]at h;cases h
theorem zRJ{B C}{n}(h:bz B n):bz (eP B n C) n:=⟨h.1,fun i hi=>by
 cases ho:eP B n C i with
 |false=>rfl
 |true=>
  rcases MN ho with q|⟨_,q2⟩
  ·rw[h.2 i hi]at q;cases q
  ·omega⟩
def Nt.give(m:Nat)(N:Nt)(k:Nat)(F:Nat->Bool):Nt:=
 {N with S:=upd N.S k (eP (N.S k) m F),Wt:=if gains (N.S k) m F&& !N.Wt k then upd N.Wt k true else N.Wt,qs:=if gains (N.S k) m F&& !N.Wt k then N.qs++[k]else N.qs}
def Fx(S:Nat->Nat->Bool)(k:Nat)(y:Way):Prop:=(∀t,y.f t=true->S y.to t=true)/\(y.e=true->∀t,S k t=true->S y.to t=true)
theorem rJ(m)(N:Nt)(k)(F){a t}(h:N.S a t=true):(N.give m k F).S a t=true:=by
 show upd N.S k (eP (N.S k) m F) a t=true
 by_cases e:a=k
 ·subst e;rw[upd_same];exact YU _ _ _ h
 ·rw[bu e];exact h
theorem Ew(m)(N:Nt)(k)(F)(hF:bz F m){t}(h:F t=true):(N.give m k F).S k t=true:=by
 show upd N.S k (eP (N.S k) m F) k t=true;rw[upd_same];refine OD _ _ _ h ?_;rcases Nat.lt_or_ge t m with q|q
 ·exact q
 ·rw[hF.2 t q]at h;cases h
theorem Um{m}{N:Nt}{k}{F}{a t}(h:(N.give m k F).S a t=true):N.S a t=true\/(a=k/\F t=true):=by
 have h':upd N.S k (eP (N.S k) m F) a t=true:=h
 by_cases e:a=k
 ·subst e;rw[upd_same]at h';exact(MN h').imp id fun q=>⟨rfl,q.1⟩
 ·rw[bu e]at h';exact .inl h'
theorem U5{m}{N:Nt}{k}{F}(h:gains (N.S k) m F=false):N.give m k F=N:=by
 unfold Nt.give;rw[h,WE h]
 have:upd N.S k (N.S k)=N.S:=by
  funext a
  by_cases e:a=k
  ·subst e;rw[upd_same]
  ·rw[bu e]
 rw[this]
 rfl
theorem zTM{m}{N:Nt}{k}{F}{a}(h:N.Wt a=true):(N.give m k F).Wt a=true:=by
 show(if gains (N.S k) m F&& !N.Wt k then upd N.Wt k true else N.Wt) a=true;split
 ·by_cases e:a=k
  ·subst e;rw[upd_same]
  ·rw[bu e];exact h
 ·exact h
theorem zLW{m}{N:Nt}{k}{F}(h:gains (N.S k) m F=true):(N.give m k F).Wt k=true:=by
 show(if gains (N.S k) m F&& !N.Wt k then upd N.Wt k true else N.Wt) k=true;rw[h,Bool.true_and];cases hw:N.Wt k with
 |true=>simpa using hw
 |false=>
  rw[if_pos (by rfl),upd_same]
theorem Un{m}{N:Nt}{k}{F}{a}(h:a≠k):(N.give m k F).S a=N.S a:=bu h
structure jY (G:ai) (q:Whole) (m:Nat) (N:Nt) (X:Nat->List Way):Prop where
 upto:∀k,k<N.ak.length->bz (N.S k) m
 snd:∀(k i:Nat) (c:au),N.ak[k]?=some (i,c)->∀t:Nat,N.S k t=true->La G q i c (t:Int)
 nd:N.qs.Nodup
 qu:∀k,k∈N.qs↔k<N.ak.length/\N.Wt k=true
 full:∀k,k<N.ak.length->N.Wt k=true->∃t,N.S k t=true
 set:∀k,k<N.ak.length->N.Wt k=true\/(∀t,N.S k t=false)\/∀y∈X k,Fx N.S k y
theorem jY.give{G}{q}{m}{N}{X}(h:jY G q m N X){k:Nat}{i}{c}(hk:N.ak[k]?=some (i,c)){F}(hF:∀t:Nat,F t=true->La G q i c (t:Int)):jY G q m (N.give m k F) X:=by
 have hl:=nE hk;cases hg:gains (N.S k) m F with
 |false=>rw[U5 hg];exact h
 |true=>
  refine⟨fun a ha=>?_,fun a j d ha t ht=>?_,?_,fun a=>?_,fun a ha hw=>?_,fun a ha=>?_⟩
  ·show bz (upd N.S k (eP (N.S k) m F) a) m
   by_cases e:a=k
   ·subst e;rw[upd_same];exact zRJ (h.upto a hl)
   ·rw[bu e];exact h.upto a ha
  ·rcases Um ht with r|⟨rfl,r⟩
   ·exact h.snd a j d ha t r
   ·have ha':N.ak[a]?=some (j,d):=ha;rw[hk]at ha';injection ha' with ha'
    injection ha' with e1 e2
    subst e1 e2;exact hF t r
  ·show(if gains (N.S k) m F&& !N.Wt k then N.qs++[k]else N.qs).Nodup;split
   ·rename_i hc;rw[Bool.and_eq_true,Bool.not_eq_true']at hc;rw[List.nodup_append];refine⟨h.nd,by simp,fun a ha b hb=>?_⟩;rw[List.mem_singleton]at hb;subst hb;intro e;subst e;have:=((h.qu a).1 ha).2;rw[hc.2]at this;cases this
   ·exact h.nd
  ·show a∈(if gains (N.S k) m F&& !N.Wt k then N.qs++[k]else N.qs)↔a<N.ak.length/\(if gains (N.S k) m F&& !N.Wt k then upd N.Wt k true else N.Wt) a=true;split
   ·rename_i hc;rw[List.mem_append,List.mem_singleton,h.qu]
    by_cases e:a=k
    ·subst e;rw[upd_same];exact⟨fun _=>⟨hl,rfl⟩,fun _=> .inr rfl⟩
    ·rw[bu e];constructor
     ·rintro(r|r)
      ·exact r
      ·exact absurd r e
     ·exact .inl
   ·exact h.qu a
  ·by_cases e:a=k
   ·subst e;obtain⟨t,_,h2,_⟩:=Eb.1 hg;obtain⟨t,h1,h2,h3⟩:=Eb.1 hg;refine⟨t,?_⟩;show upd N.S a (eP (N.S a) m F) a t=true;rw[upd_same];exact OD _ _ _ h2 h1
   ·have hw':N.Wt a=true:=by
     have hw1:(if gains (N.S k) m F&& !N.Wt k then upd N.Wt k true else N.Wt) a=true:=hw;split at hw1
     ·rw[bu e]at hw1;exact hw1
     ·exact hw1
    obtain⟨t,ht⟩:=h.full a ha hw';exact⟨t,rJ _ _ _ _ ht⟩
  ·by_cases e:a=k
   ·subst e;exact .inl (zLW hg)
   ·rcases h.set a ha with r|r|r
    ·exact .inl (zTM r)
    ·exact .inr (.inl fun t=>by rw[Un e];exact r t)
    ·refine .inr (.inr fun y hy=>⟨fun t ht=>rJ _ _ _ _ ((r y hy).1 t ht),fun he t ht=>?_⟩);rw[Un e]at ht;exact rJ _ _ _ _ ((r y hy).2 he t ht)
def Nt.pop(N:Nt)(k:Nat):Nt:={N with Wt:=upd N.Wt k false,qs:=N.qs.dropLast}
theorem jY.pop{G}{q}{m}{N}{X}(h:jY G q m N X){l}{k}(e:N.qs=l++[k]):k<N.ak.length/\(∃t,N.S k t=true)/\jY G q m (N.pop k) (upd X k []):=by
 have hk:=(h.qu k).1 (by rw[e];exact List.mem_append_right _ (List.mem_singleton.2 rfl));have hnd:=h.nd;rw[e,List.nodup_append]at hnd;have hd:N.qs.dropLast=l:=by rw[e];simp
 refine⟨hk.1,h.full k hk.1 hk.2,h.upto,h.snd,?_,fun a=>?_,fun a ha hw=>?_,fun a ha=>?_⟩
 ·show N.qs.dropLast.Nodup;rw[hd];exact hnd.1
 ·show a∈N.qs.dropLast↔a<N.ak.length/\upd N.Wt k false a=true;rw[hd]
  by_cases ea:a=k
  ·subst ea;rw[upd_same];exact⟨fun q=>absurd rfl (hnd.2.2 a q a (List.mem_singleton.2 rfl)),fun q=>by cases q.2⟩
  ·rw[bu ea,←h.qu,e,List.mem_append,List.mem_singleton];exact⟨.inl,fun q=>q.resolve_right ea⟩
 ·have hw':upd N.Wt k false a=true:=hw
  by_cases ea:a=k
  ·subst ea;rw[upd_same]at hw';cases hw'
  ·rw[bu ea]at hw';exact h.full a ha hw'
 ·show upd N.Wt k false a=true\/(∀t,N.S a t=false)\/∀y∈upd X k [] a,Fx N.S a y
  by_cases ea:a=k
  ·subst ea;rw[upd_same,upd_same];exact .inr (.inr fun y hy=>by cases hy)
  ·rw[bu ea,bu ea];exact h.set a ha
def Nt.go(m:Nat)(N:Nt)(k:Nat)(y:Way):Nt:=if y.e=true then(N.give m y.to y.f).give m y.to ((N.give m y.to y.f).S k)else N.give m y.to y.f
theorem zWR(m)(N:Nt)(k)(y){a t}(h:N.S a t=true):(N.go m k y).S a t=true:=by
 unfold Nt.go;split
 ·exact rJ _ _ _ _ (rJ _ _ _ _ h)
 ·exact rJ _ _ _ _ h
theorem zVH{m}{N:Nt}{k}{y}(hf:bz y.f m)(hS:bz ((N.give m y.to y.f).S k) m):Fx (N.go m k y).S k y:=by
 unfold Nt.go;split
 ·refine⟨fun t ht=>rJ _ _ _ _ (Ew _ _ _ _ hf ht),fun _ t ht=>?_⟩;rcases Um ht with r|⟨rfl,r⟩
  ·exact Ew _ _ _ _ hS r
  ·exact Ew _ _ _ _ hS r
 ·rename_i he;exact⟨fun t ht=>Ew _ _ _ _ hf ht,fun e=>absurd e he⟩
theorem jY.go{G}{q}{m}{N}{X}(h:jY G q m N X){k}(hk:k<N.ak.length)(h0:∃t,N.S k t=true){y:Way}(kO:y.to<N.ak.length)(hf:bz y.f m)
  (hF:∀(i:Nat) (c:au),N.ak[y.to]?=some (i,c)->∀t:Nat,y.f t=true->La G q i c (t:Int)) (hE:y.e=true->∀(i:Nat) (c:au) (j:Nat) (d:au),N.ak[y.to]?=some (i,c)->N.ak[k]?=some (j,d)->∀t:Nat,La G q j d (t:Int)->La G q i c (t:Int)):
  jY G q m (N.go m k y) (upd X k (X k++[y])):=by
 obtain⟨⟨i,c⟩,hp⟩:∃p,N.ak[y.to]?=some p:=⟨_,List.getElem?_eq_getElem kO⟩;obtain⟨⟨j,d⟩,hq⟩:∃p,N.ak[k]?=some p:=⟨_,List.getElem?_eq_getElem hk⟩;have h1:=h.give hp (hF i c hp);have hS:bz ((N.give m y.to y.f).S k) m:=h1.upto k hk;have st:=zVH (N:=N) (k:=k) hf hS
 have h2:jY G q m (N.go m k y) X:=by
  unfold Nt.go;split
  ·rename_i he;exact h1.give (k:=y.to) (i:=i) (c:=c) hp fun t ht=>hE he i c j d hp hq t (h1.snd k j d hq t ht)
  ·exact h1
 refine⟨h2.upto,h2.snd,h2.nd,h2.qu,h2.full,fun a ha=>?_⟩
 by_cases e:a=k
 ·subst e;rw[upd_same];refine(h2.set a ha).imp id fun r=>r.imp id fun r z hz=>?_
  rcases List.mem_append.1 hz with r2|r2
  ·exact r z r2
  ·rw[List.mem_singleton]at r2;subst r2;exact st
 ·rw[bu e];exact h2.set a ha
theorem zVG(m)(N:Nt)(k)(y):(N.go m k y).ak=N.ak/\(N.go m k y).Ys=N.Ys/\(N.go m k y).D=N.D/\(N.go m k y).E=N.E/\(N.go m k y).wv=N.wv:=by
 unfold Nt.go;split<;>exact⟨rfl,rfl,rfl,rfl,rfl⟩
def Nt.lack(m:Nat)(N:Nt):Nat:=((List.range N.ak.length).flatMap fun k=>(List.range m).map fun t=>(k,t)).countP fun e=> !N.S e.1 e.2
theorem UF{α:Type}{p r}:∀{l:List α},(∀x∈l,p x=true->r x=true)->l.countP p<=l.countP r/\((∃x∈l,p x=false/\r x=true)->l.countP p<l.countP r)
 |[],_=>⟨Nat.le_refl _,fun⟨x,h,_⟩=>by cases h⟩
 |y::l,h=>by
  obtain⟨i1,i2⟩:=UF (l:=l) (p:=p) (r:=r) fun x hx=>h x (List.mem_cons_of_mem _ hx)
  have hy:=h y (List.mem_cons_self ..);rw[List.countP_cons,List.countP_cons];refine⟨?_,?_⟩
  ·cases e1:p y<;>cases e2:r y<;>simp_all<;>omega
  ·rintro⟨x,h1,h2,h3⟩;rcases List.mem_cons.1 h1 with e|e
   ·subst e;rw[h2,h3];simp;omega
   ·have:=i2 ⟨x,e,h2,h3⟩;cases e1:p y<;>cases e2:r y<;>simp_all<;>omega
theorem zNl{m}{N:Nt}{k}(hk:k<N.ak.length)(F):(N.give m k F).lack m<=N.lack m/\(gains (N.S k) m F=true->(N.give m k F).lack m<N.lack m):=by
 have hc:=UF (l:=(List.range N.ak.length).flatMap fun k=>(List.range m).map fun t=>(k,t)) (p:=fun e:Nat×Nat=> !(N.give m k F).S e.1 e.2) (r:=fun e=> !N.S e.1 e.2) (fun e _ h=>by
  rw[Bool.not_eq_true']at h⊢;cases e2:N.S e.1 e.2 with
  |false=>rfl
  |true=>rw[rJ m N k F e2]at h;cases h)
 refine⟨hc.1,fun hg=>hc.2 ?_⟩;obtain⟨t,h1,h2,h3⟩:=Eb.1 hg;refine⟨(k,t),List.mem_flatMap.2 ⟨k,List.mem_range.2 hk,List.mem_map.2 ⟨t,List.mem_range.2 h1,rfl⟩⟩,?_,?_⟩
 ·dsimp only
  have:(N.give m k F).S k t=true:=by
   show upd N.S k (eP (N.S k) m F) k t=true;rw[upd_same];exact OD _ _ _ h2 h1
  rw[this]
  rfl
 ·dsimp only;rw[h3]
  rfl
def Nt.num(m:Nat)(N:Nt):Nat:=N.lack m*(N.ak.length+1)+N.qs.length
theorem WB{m}{N:Nt}{k}(hk:k<N.ak.length)(hq:N.qs.length<=N.ak.length)(F):(N.give m k F).num m<=N.num m:=by
 cases hg:gains (N.S k) m F with
 |false=>rw[U5 hg];exact Nat.le_refl _
 |true=>
  have h1:=(zNl (m:=m) hk F).2 hg
  have h2:(N.give m k F).qs.length<=N.qs.length+1:=by
   show(if gains (N.S k) m F&& !N.Wt k then N.qs++[k]else N.qs).length<= _;split<;>simp
  have h3:(N.give m k F).ak=N.ak:=rfl;unfold Nt.num;rw[h3];generalize (N.give m k F).lack m=a at*;generalize N.lack m=b at*;have:(a+1)*(N.ak.length+1)<=b*(N.ak.length+1):=Nat.mul_le_mul_right _ h1;rw[Nat.succ_mul]at this;omega
theorem jY.qU{G}{q}{m}{N}{X}(h:jY G q m N X):N.qs.length<=N.ak.length:=by
 have:=DY h.nd (M:=List.range N.ak.length) fun k hk=>List.mem_range.2 ((h.qu k).1 hk).1
 simpa using this
theorem zTt{m}{N:Nt}{l}{k}(e:N.qs=l++[k]):(N.pop k).num m<N.num m:=by
 have:(N.pop k).qs=l:=by
  show N.qs.dropLast=l;rw[e];simp
 unfold Nt.num;rw[this,e,List.length_append];show N.lack m*(N.ak.length+1)+l.length<N.lack m*(N.ak.length+1)+(l.length+1);omega
theorem zVV{G}{q}{m}{N}{X}(h:jY G q m N X){k}{y}(kO:y.to<N.ak.length)(hq:(N.give m y.to y.f).qs.length<=N.ak.length):(N.go m k y).num m<=N.num m:=by
 have h1:=WB (m:=m) kO h.qU y.f;unfold Nt.go;split
 ·exact Nat.le_trans (WB (m:=m) (N:=N.give m y.to y.f) kO hq _) h1
 ·exact h1
open Classical in
theorem zQD{G}{q}(D:Done G q)(hv:checkN G=0){N}{m}(h1:lD G q N)(h3:jY G q m N N.Ys)(hq:N.qs=[])(hL:∀i,i<q.1.length->∀x,cM G (bp q.1 i) x->nT G q N i x)
  {k0:Nat} (rX:N.ak[k0]?=some (0,((G.rules.length:Int),0))) (h0:N.S k0 0=true) {k i:Nat} {c} (hk:N.ak[k]?=some (i,c)) (t):N.S k t=true↔La G q i c (t:Int):=by
 have idle:∀a,a<N.ak.length->N.Wt a=false:=fun a ha=>by
  cases hw:N.Wt a with
  |false=>rfl
  |true=>
   have:=(h3.qu a).2 ⟨ha,hw⟩;rw[hq]at this;cases this
 have settled:∀a,a<N.ak.length->(∃t,N.S a t=true)->∀y∈N.Ys a,Fx N.S a y:=fun a ha ⟨t,ht⟩=>by
  rcases h3.set a ha with r|r|r
  ·rw[idle a ha]at r;cases r
  ·rw[r t]at ht;cases ht
  ·exact r
 have one:∀{a b:Nat} {p:Pl},N.ak[a]?=some p->N.ak[b]?=some p->a=b:=fun {a b p} ha hb=>by
  have la:=nE ha;have lb:=nE hb;rw[List.getElem?_eq_getElem la,Option.some.injEq]at ha;rw[List.getElem?_eq_getElem lb,Option.some.injEq]at hb;rcases Nat.lt_trichotomy a b with r|r|r
  ·exact absurd (ha.trans hb.symm) (List.pairwise_iff_getElem.1 h1.nd a b la lb r)
  ·exact r
  ·exact absurd (hb.trans ha.symm) (List.pairwise_iff_getElem.1 h1.nd b a lb la r)
 refine⟨h3.snd k i c hk t,fun hl=>?_⟩
 have key:∀{i:Nat} {x:au} {t:Int},La G q i x t->∃(k:Nat) (n:Nat),N.ak[k]?=some (i,rep G x)/\t=(n:Int)/\N.S k n=true:=by
  intro i x t hl
  induction hl with
  |start=>
   refine⟨k0,0,?_,rfl,h0⟩;rw[rX]
   have:rep G ((G.rules.length:Int),0)=((G.rules.length:Int),0):=by
    have hm:=yD (G:=G) (k:=G.rules.length) (Nat.le_refl _);rw[yG rfl];unfold hd;dsimp only;rw[(nK G).2]at hm⊢;rw[VZ hv hm]
   rw[this]
  |move h0 hb hl ih=>
   rename_i i j x t;obtain⟨k,n,e1,e2,e3⟩:=ih;obtain⟨p1,p2⟩:=uI D hv h0;obtain⟨k',f1,⟨j',f2,y,f3,f4,f5⟩,_⟩:=hL i p1 x p2 hb;obtain rfl:=one f1 e1;have:j'=j:=by rw[hl]at f2;omega
   subst this;have st:=settled _ (nE f1) ⟨n,e3⟩ y f3;have hx:=(iD.1 (kx.1 hb).1).2.1;exact⟨y.to,n,by rw[uE (show(x.1,x.2+1).2≠0 from by dsimp only;omega)];exact f4,e2,st.2 f5.1 n e3⟩
  |opens h0 hb hr hl ih=>
   rename_i i r x t u;obtain⟨k,n,e1,e2,e3⟩:=ih;obtain⟨p1,p2⟩:=uI D hv h0;have hleft:=rF.1 hr
   have hnb:cp G (aQ G x)=true:=by
    rw[←hleft.2];exact wH (lM hv).2.2.2.1 hleft.1
   have hne:aQ G x≠0:=by
    have:=jN.1 hnb;omega
   have ij:r∈eI G (aQ G x):=(EK hne).2 hr;obtain⟨k',f1,_,f2⟩:=hL i p1 x p2 hb;obtain⟨y,f3,f4,f5⟩:=f2 fun e=>by rw[e]at ij;cases ij
   obtain rfl:=one f1 e1;have st:=settled _ (nE f1) ⟨n,e3⟩ y f3;have hu:=Fi.DV hl;obtain⟨u',rfl⟩:=Int.eq_ofNat_of_zero_le hu.1;refine⟨y.to,u',by rw[Hp ij];exact f4,rfl,?_⟩;rcases(zR hv (Hv h0)).1 hl with r1|⟨r1,r2⟩
   ·exact st.1 u' ((f5.2 u').2 r1)
   ·have:u'=n:=by omega
    subst this;exact st.2 (f5.1.2 r1) u' e3
 obtain⟨k',n,e1,e2,e3⟩:=key hl;have hc:=(h1.can (i,c) (List.mem_iff_getElem?.2 ⟨k,hk⟩)).2.1;rw[show rep G c=c from hc]at e1;obtain rfl:=one e1 hk;have:n=t:=by omega
 rw[←this];exact e3
theorem zVv{G}{q}(hv:checkN G=0){N}(h1:lD G q N){k j:Nat}{d}(hk:N.ak[k]?=some (j,d)){y}(hy:y∈N.Ys k){t0:Nat}(ht:La G q j d (t0:Int)){i}{c}(hc:N.ak[y.to]?=some (i,c)):
  (∀t:Nat,y.f t=true->La G q i c (t:Int))/\(y.e=true->∀t:Nat,La G q j d (t:Int)->La G q i c (t:Int)):=by
 obtain⟨x,x1,x2,x3,x4⟩:=h1.sound k j d hk y hy
 have hrx:cN G x.1=true:=by
  have:=(iD.1 (oF x1)).1;unfold cN;exact decide_eq_true this
 subst x2;have hx:=(Ig (q:=q) hv hrx).1 ht;rcases x4 with⟨j',f1,f2,f3⟩|⟨f1,f2,f3⟩
 ·rw[hc]at f2;injection f2 with f2
  injection f2 with e1 e2
  subst e1 e2;refine⟨fun t h=>(by rw[f3.2 t]at h;cases h),fun _ t h=>?_⟩;exact .move ((Ig hv hrx).1 h) x3 f1
 ·rw[hc]at f2;injection f2 with f2
  injection f2 with e1 e2
  subst e1 e2;have hm:=head_ne f1
  have hne:aQ G x≠0:=by
   obtain⟨xr,xd⟩:=x;obtain⟨b1,b2⟩:=kx.1 x3;obtain⟨c1,c2⟩:=iD.1 b1;dsimp only at c1 c2 b2;obtain⟨n,rfl⟩:=Int.eq_ofNat_of_zero_le c1.1;obtain⟨d,rfl⟩:=Int.eq_ofNat_of_zero_le c2.1
   have hd:d<(ax G (n:Int)).2.length:=by
    unfold cQ at b2;omega
   rw[(si hrx hd).2];have:=uA hv hrx hd;omega
  have hof:=(EK hne).1 hm;refine⟨fun t h=>?_,fun e t h=>?_⟩
  ·exact .opens hx x3 hof ((zR hv (Hv hx)).2 (.inl ((f3.2 t).1 h)))
  ·have hx':=(Ig (q:=q) hv hrx).1 h;exact .opens hx' x3 hof ((zR hv (Hv hx')).2 (.inr ⟨f3.1.1 e,rfl⟩))
end Lk
namespace Lk
open Go.RowKit Go.Maps
open Im
def tB(p:Pl):Prop:=(Lit.int .i64 (p.1:Int)).wf=true/\dY p.2
def pv(p:Pl):Value:=.agg #[.int .i64 (p.1:Int),.int .i64 p.2.1,.int .i64 p.2.2]
def pk(p:Pl):Lit:=.string (keyBytes [.int .i64 (p.1:Int),.int .i64 p.2.1,.int .i64 p.2.2])
theorem zVf{x y}(hx:tB x)(hy:tB y)(h:pk x=pk y):x=y:=by
 unfold pk at h;simp only[Lit.string.injEq]at h
 have:=keyBytes_inj (l:=[.int .i64 (x.1:Int),.int .i64 x.2.1,.int .i64 x.2.2]) (l':=[.int .i64 (y.1:Int),.int .i64 y.2.1,.int .i64 y.2.2]) (by simp[Alike,Lit.sameKind])
  (fun a ha=>by
   simp only[List.mem_cons,List.not_mem_nil,or_false]at ha;rcases ha with rfl|rfl|rfl
   ·exact hx.1
   ·exact hx.2.1
   ·exact hx.2.2)
  (fun a ha=>by
   simp only[List.mem_cons,List.not_mem_nil,or_false]at ha;rcases ha with rfl|rfl|rfl
   ·exact hy.1
   ·exact hy.2.1
   ·exact hy.2.2) h
 simp at this;obtain⟨h1,h2,h3⟩:=this;obtain⟨a,b,c⟩:=x;obtain⟨a',b',c'⟩:=y;dsimp only at h1 h2 h3;subst h2 h3;have:a=a':=by omega
 rw[this]
structure Kp (P:Program) (K:TypeId):Prop where
 law:Keyed P K
 key:∀x,tB x->keyOf P K (pv x)=some (pk x)
theorem zWX{P}{K}(fa fb ga gb)(law:Keyed P K)(hu:P.underlying K=some (.struct #[fa,fb]))(ha:P.underlying fa.type=some (.int .i64))(hb:P.underlying fb.type=some (.struct #[ga,gb]))
  (F6:P.underlying ga.type=some (.int .i64)) (hgb:P.underlying gb.type=some (.int .i64)) (vr:P.keyType K=true) (hcells:P.cellsOf K=3) (cb2:P.cellsOf fb.type=2)
  (ca:P.cellsOf fa.type=1) (cga:P.cellsOf ga.type=1) (cgb:P.cellsOf gb.type=1) (oa:fa.offset=0) (ob:fb.offset=1) (oga:ga.offset=0) (ogb:gb.offset=1)
  (na:(fa.name != "_")=true) (nb:(fb.name != "_")=true) (nga:(ga.name != "_")=true) (ngb:(gb.name != "_")=true) (n) (hn:P.types.size=n+2):Kp P K:=by
 refine⟨law,fun x hx=>?_⟩;unfold keyOf pv;rw[hu];simp only[vr,Bool.true_and];rw[if_pos (by simp[Value.formed,hu,hcells])];rw[hn];simp[Program.keyLits,hu,hcells,ca,cb2,cga,cgb,oa,ob,oga,ogb,ha,hb,F6,hgb,na,nb,hx.1,hx.2.1,hx.2.2,Value.cells,pk]
 rw[if_pos (by
  intro i hi;rcases(by omega:i=0\/i=1)with rfl|rfl
  ·simpa using nga
  ·simpa using ngb)]
 rfl
section
variable {P:Program} {K T E:TypeId}
def fL(P:Program)(K E:TypeId)(b n:Nat)(X:Pl->Option Int)(w:World):Prop:=
 ∃D:DataW Unit,w.ownsMap P K (plainElem P E) b n D/\∀x,tB x->has D (pk x)=(X x).isSome/\D.atKey (pk x) (.lit (.int .i64 0))=.lit (.int .i64 ((X x).getD 0))
theorem fL.made(w:World)(P)(K E):fL P K E w.heap.size 0 (fun _=>none) (w.alloc (.map #[] 0)):=
 ⟨_,World.ownsMap_made w P K _,fun x _=>⟨rfl,rfl⟩⟩
theorem fL.eq{b n}{X Y}{w}(h:fL P K E b n X w)(e:∀x,X x=Y x):fL P K E b n Y w:=by
 obtain⟨D,h,k⟩:=h;exact⟨D,h,fun x hx=>by rw[←e x];exact k x hx⟩
theorem fL.keep{b n}{X}{w w'}(h:fL P K E b n X w)(hb:w'.heap[b]?=w.heap[b]?):fL P K E b n X w':=by
 obtain⟨D,h,k⟩:=h;exact⟨D,Sep.ownsMap_at h hb,k⟩
theorem fL.store{b n}{X}{w}(h:fL P K E b n X w)(k:Kp P K)(ht:P.underlying T=some (.map K E))(he:P.underlying E=some (.int .i64))(hn:n<maxLen){x}(hx:tB x){t}(hw:(Lit.int .i64 t).wf=true):
  ∃w',(Instr.mapUpdate T (.map (some b)) (pv x) (.int .i64 t)).run P w=.ok () w'/\fL P K E b (n+1) (fun y=>if y=x then some t else X y) w'/\w.mapTurned w' b:=by
 obtain⟨D,ho,kd⟩:=h;obtain⟨w',hrun,h1,h2⟩:=ho.store k.law ht hn (k.key x hx) (plainElem_int he hw);refine⟨w',hrun,⟨_,h1,fun y hy=>?_⟩,h2⟩
 by_cases e:y=x
 ·subst e;show _=(if y=y then some t else X y).isSome/\_=DataW.lit (Lit.int .i64 ((if y=y then some t else X y).getD 0));rw[if_pos rfl,has_put_same ho.isMap (k.law.key (k.key y hy)),atKey_put_same ho.isMap (k.law.key (k.key y hy))];exact⟨rfl,rfl⟩
 ·have hne:pk y≠pk x:=fun q=>e (zVf hy hx q)
  show _=(if y=x then some t else X y).isSome/\_=DataW.lit (Lit.int .i64 ((if y=x then some t else X y).getD 0));rw[if_neg e,has_put_other hne,atKey_put_other hne];exact kd y hy
theorem fL.look{b n}{X}{w}(h:fL P K E b n X w)(k:Kp P K)(ht:P.underlying T=some (.map K E))(he:P.underlying E=some (.int .i64))(hz:(zeroValue E).run P w=.ok (.int .i64 0) w){x}(hx:tB x):
  (Instr.lookup T (.map (some b)) (pv x) true).run P w=.ok (.tuple #[.int .i64 ((X x).getD 0),.bool (X x).isSome]) w:=by
 obtain⟨D,ho,kd⟩:=h;have hzd:plainElem (H:=Unit) P E (.int .i64 0)=some (.lit (.int .i64 0),[]):=plainElem_int he (by decide);obtain⟨v,ps,hrun,hR⟩:=ho.look_ok k.law ht hz hzd (k.key x hx);rw[(kd x hx).2]at hR;rw[(kd x hx).1]at hrun
 have hv:v=.int .i64 ((X x).getD 0):=by
  unfold plainElem at hR;rw[he]at hR;cases v<;>simp at hR
  simp_all
 rw[hrun,hv]
end
def ez(L:List Pl)(p:Pl):Option Int:=if p∈L then some (L.idxOf p:Int)else none
theorem zQ3{L}{p}(h:p∈L):ez L p=some (L.idxOf p:Int)/\L[L.idxOf p]?=some p:=by
 refine⟨if_pos h,?_⟩;have:=List.idxOf_lt_length_of_mem h;rw[List.getElem?_eq_getElem this];exact congrArg some (List.getElem_idxOf _)
theorem zOA{L}{p}(h:p∉L):ez L p=none:=if_neg h
theorem zOB{L}{p}(h:p∉L)(y):ez (L++[p]) y=if y=p then some (L.length:Int)else ez L y:=by
 unfold ez
 by_cases e:y=p
 ·subst e;rw[if_pos (List.mem_append_right _ (List.mem_singleton.2 rfl)),if_pos rfl,List.idxOf_append,if_neg h];simp
 ·rw[if_neg e]
  by_cases hy:y∈L
  ·rw[if_pos (List.mem_append_left _ hy),if_pos hy,List.idxOf_append,if_pos hy]
  ·rw[if_neg hy,if_neg];rw[List.mem_append,List.mem_singleton];exact fun q=>q.elim hy e
end Lk
namespace Au
open Go.RowKit Go.Maps
open Im
open It (E3 d7 num Vh Vi)
structure Ka (P:Program) (K:TypeId):Prop where
 law:Keyed P K
 key:∀x,dY x->keyOf P K (iv x)=some (ik x)
theorem zWW{P}{K E}(law:Keyed P K)(hu:P.underlying K=some (.array 2 E))(he:P.underlying E=some (.int .i64))(vr:P.keyType K=true)(hcells:P.cellsOf K=2)(ce:P.cellsOf E=1)(n)(hn:P.types.size=n+1):Ka P K:=by
 refine⟨law,fun x hx=>?_⟩;unfold keyOf iv;rw[hu];simp only[vr,Bool.true_and];rw[if_pos (by simp[Value.formed,hu,hcells])];rw[hn];have hr:List.range 2=[0,1]:=rfl;simp[Program.keyLits,hu,hcells,ce,he,hx.1,hx.2,Value.cells,ik,hr]
section
variable {P:Program} {K T E:TypeId}
def fe(P:Program)(K E:TypeId)(b n:Nat)(X:au->Option Int)(w:World):Prop:=
 ∃D:DataW Unit,w.ownsMap P K (plainElem P E) b n D/\∀x,dY x->has D (ik x)=(X x).isSome/\D.atKey (ik x) (.lit (.int .i64 0))=.lit (.int .i64 ((X x).getD 0))
theorem fe.made(w:World)(P)(K E):fe P K E w.heap.size 0 (fun _=>none) (w.alloc (.map #[] 0)):=
 ⟨_,World.ownsMap_made w P K _,fun x _=>⟨rfl,rfl⟩⟩
theorem fe.mono{b n n'}{X}{w}(h:fe P K E b n X w)(hn:n<=n'):fe P K E b n' X w:=by
 obtain⟨D,h,k⟩:=h;exact⟨D,h.mono hn,k⟩
theorem fe.eq{b n}{X Y}{w}(h:fe P K E b n X w)(e:∀x,X x=Y x):fe P K E b n Y w:=by
 obtain⟨D,h,k⟩:=h;exact⟨D,h,fun x hx=>by rw[←e x];exact k x hx⟩
theorem fe.keep{b n}{X}{w w'}(h:fe P K E b n X w)(hb:w'.heap[b]?=w.heap[b]?):fe P K E b n X w':=by
 obtain⟨D,h,k⟩:=h;exact⟨D,Sep.ownsMap_at h hb,k⟩
theorem fe.store{b n}{X}{w}(h:fe P K E b n X w)(k:Ka P K)(ht:P.underlying T=some (.map K E))(he:P.underlying E=some (.int .i64))(hn:n<maxLen){x}(hx:dY x){t}(hw:(Lit.int .i64 t).wf=true):
  ∃w',(Instr.mapUpdate T (.map (some b)) (iv x) (.int .i64 t)).run P w=.ok () w'/\fe P K E b (n+1) (fun y=>if y=x then some t else X y) w'/\w.mapTurned w' b:=by
 obtain⟨D,ho,kd⟩:=h;obtain⟨w',hrun,h1,h2⟩:=ho.store k.law ht hn (k.key x hx) (plainElem_int he hw);refine⟨w',hrun,⟨_,h1,fun y hy=>?_⟩,h2⟩
 by_cases e:y=x
 ·subst e;show _=(if y=y then some t else X y).isSome/\_=DataW.lit (Lit.int .i64 ((if y=y then some t else X y).getD 0));rw[if_pos rfl,has_put_same ho.isMap (k.law.key (k.key y hy)),atKey_put_same ho.isMap (k.law.key (k.key y hy))];exact⟨rfl,rfl⟩
 ·have hne:ik y≠ik x:=fun q=>e (Oz hy hx q)
  show _=(if y=x then some t else X y).isSome/\_=DataW.lit (Lit.int .i64 ((if y=x then some t else X y).getD 0));rw[if_neg e,has_put_other hne,atKey_put_other hne];exact kd y hy
theorem Tk{ops}{rest}{o}{a}{Q}(w)(hg:o.guard=none)(m y)(hop:o.op=Op.lookup T m y true)(k:Ka P K)(ht:P.underlying T=some (.map K E))(he:P.underlying E=some (.int .i64))
  (hz:(zeroValue E).run P w=.ok (.int .i64 0) w) (b n) (X) (hm:a.eval m=.map (some b)) (h:fe P K E b n X w) (x) (hy:a.eval y=iv x) (hx:dY x)
  (hK:wpList P ops Q rest (a.put o.dst (.tuple #[.int .i64 ((X x).getD 0),.bool (X x).isSome])) w):wpList P ops Q (o::rest) a w:=by
 obtain⟨D,ho,kd⟩:=h;refine wpList_lookup_own_ok_int w hg m y T hop K E .i64 k.law ht he hz b n D hm ho _ _ hy (k.key x hx) fun d hat _=>?_
 rw[(kd x hx).2]at hat;simp only[DataW.lit.injEq,Lit.int.injEq,true_and]at hat;subst hat;rw[(kd x hx).1];exact hK
def SMap(P:Program)(K E:TypeId)(b n:Nat)(L:List ByteArray)(w:World):Prop:=∃D:DataW Unit,w.ownsMap P K (plainElem P E) b n D/\E3 L D
theorem SMap.made(w:World)(P)(K E):SMap P K E w.heap.size 0 [] (w.alloc (.map #[] 0)):=⟨_,World.ownsMap_made w P K _,Vh⟩
theorem SMap.lt{b n}{L}{w}(h:SMap P K E b n L w):b<w.heap.size:=by
 obtain⟨D,h,_⟩:=h;exact h.lt
theorem SMap.keep{b n}{L}{w w'}(h:SMap P K E b n L w)(hb:w'.heap[b]?=w.heap[b]?):SMap P K E b n L w':=by
 obtain⟨D,h,k⟩:=h;exact⟨D,Sep.ownsMap_at h hb,k⟩
theorem Tj{ops}{rest}{o}{a}{Q}(w)(hg:o.guard=none)(m y)(hop:o.op=Op.lookup T m y true)(law:Keyed P K)(hk:P.underlying K=some .string)(ht:P.underlying T=some (.map K E))(he:P.underlying E=some (.int .i64))
  (hz:(zeroValue E).run P w=.ok (.int .i64 0) w) (b n) (L) (hm:a.eval m=.map (some b)) (h:SMap P K E b n L w) (s) (hy:a.eval y=.string s) (hs:s.size<=maxLen)
  (hK:wpList P ops Q rest (a.put o.dst (.tuple #[.int .i64 (num L s),.bool (d7 L s)])) w):wpList P ops Q (o::rest) a w:=by
 obtain⟨D,ho,kd⟩:=h;refine wpList_lookup_own_ok_int w hg m y T hop K E .i64 law ht he hz b n D hm ho _ _ hy (WideMaps.keyOf_string_mk hk hs) fun d hat _=>?_
 rw[(kd s).2]at hat;simp only[DataW.lit.injEq,Lit.int.injEq,true_and]at hat;subst hat;rw[(kd s).1];exact hK
theorem zFx{ops}{rest}{o}{a}{Q}(w)(hg:o.guard=none)(m y v)(hop:o.op=Op.mapUpdate T m y v)(law:Keyed P K)(hk:P.underlying K=some .string)(ht:P.underlying T=some (.map K E))(he:P.underlying E=some (.int .i64))
  (b n) (L) (hm:a.eval m=.map (some b)) (h:SMap P K E b n L w) (hn:n<maxLen) (s) (hy:a.eval y=.string s) (hs:s.size<=maxLen) (hnew:d7 L s=false) (z) (hv:a.eval v=.int .i64 z) (hzl:z=(L.length:Int)) (hl:L.length<9223372036854775808)
  (hK:∀w',SMap P K E b (n+1) (L++[s]) w'->w.grownBy w' (some b)->wpList P ops Q rest (a.put o.dst undef) w'):wpList P ops Q (o::rest) a w:=by
 obtain⟨D,ho,kd⟩:=h;subst hzl;refine wpList_mapUpdate_own w hg m y v T hop K E law ht (plainElem P E) b n D hm ho hn _ _ _ hy hv (WideMaps.keyOf_string_mk hk hs) _ [] (plainElem_int he (by simp only[Lit.wf,IntKind.min,IntKind.max,IntKind.signed,IntKind.bits,Bool.and_eq_true,decide_eq_true_eq,if_true];omega)) fun w' h1 h2=>hK w' ⟨_,h1,Vi ho.isMap (law.key (WideMaps.keyOf_string_mk hk hs)) kd hnew⟩ h2
end
