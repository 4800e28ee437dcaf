/- A part of the proof. -/
import Derived.Test.YtegeamggbglneaaGreatDoorPk35
import Derived.Test.YtegeamggbglneaaGreatDoorPk49
set_option maxHeartbeats 8000000
set_option maxRecDepth 100000
set_option linter.unusedVariables false
namespace Go.Proofs.YtegeamggbglneaaGreatDoor
open Go.RowKit Go.Maps
namespace Pk
open Go.Proofs.YtegeamggbglneaaGreatDoor.Sep (Fr)
theorem zI2{n nx}{L:List Int}{i}(hi):zAf n nx (L.drop i)=if L[i]<0\/nx<L[i]then false else zAf n (max nx (L[i]+1)) (L.drop (i+1)):=by
 rw[List.drop_eq_getElem_cons hi]
 rfl
theorem zLH{n nx}{L:List Int}{i}(hi:¬i<L.length):zAf n nx (L.drop i)=decide (nx=n):=by
 rw[List.drop_of_length_le (by omega)]
 rfl
theorem zGJ(L:List Int)(a:Option Addr)(c:Nat)(n:Int)(w:World)(h:IntA a L w)(hl:L.length<=17592186044416):
  Calls Tryz.prog 84 #[.slice a L.length c,.int .i64 n] w (Gr.Is (.bool (zAf n 0 L)) w):=by
 have HR:=zV7 (fun w1 (b:Below w.heap.size w w1)=>h.went b);have E0:=zV7 (show zAf n 0 (L.drop 0)=zAf n 0 L by rw[List.drop_zero]);generalize zAf n 0 L=g at*;have ST:=zV7 (fun nx i (hi:i<L.length) (e:zAf n nx (L.drop i)=g)=>(show g=if L[i]<0\/nx<L[i]then false else zAf n (max nx (L[i]+1)) (L.drop (i+1))by rw[←e];exact zI2 hi));have EN:=zV7 (fun nx i (hi:¬i<L.length) (e:zAf n nx (L.drop i)=g)=>(show g=decide (nx=n)by rw[←e];exact zLH hi));clear h;go_enter Tryz.func84,Tryz.ntmps84;go_wp2_with fail;go_loopw [5,10] (fun u v wr=>∃(i nx:Nat),u=.int .i64 (nx:Int)/\v=.int .i64 (i:Int)/\i<=L.length/\nx<=i/\zAf n (nx:Int) (L.drop i)=g/\Below w.heap.size w wr) (fun _ v _=>L.length-(intOf v).toNat)
 case atStart=>exact⟨0,0,rfl,rfl,Nat.zero_le _,Nat.le_refl _,E0.out,.refl _ _⟩
 case round=>
  obtain⟨i,nx,rfl,rfl,hi,hn,hF,hB⟩:=hrel;have B:=zV7 hB;have FF:=zV7 hF;clear hF hB
  by_cases hlt:i<L.length
  ·obtain⟨b,o,rfl,p0⟩:=(HR.out wr B.out).at hlt;have hil:(i:Int)<(L.length:Int):=by omega
   have S:=zV7 (ST.out nx i hlt FF.out);generalize L[i]=x at*
   by_cases h1:x<0
   ·have G2:=zV7 (show g=false by rw[S.out,if_pos (.inl h1)]);clear S FF;go_wp2_with fail;go_ret;exact⟨Gr.zAD G2.out,B.out⟩
   by_cases h2:(nx:Int)<x
   ·have G2:=zV7 (show g=false by rw[S.out,if_pos (.inr h2)]);clear S FF;go_wp2_with fail;go_ret;exact⟨Gr.zAD G2.out,B.out⟩
   obtain⟨y,rfl⟩:∃y:Nat,x=(y:Int):=⟨x.toNat,by omega⟩;have hm:max (nx:Int) ((y:Int)+1)=((max nx (y+1):Nat):Int):=by omega
   have G2:=zV7 (show zAf n ((max nx (y+1):Nat):Int) (L.drop (i+1))=g by rw[S.out,if_neg (by omega),hm]);have hmb:max nx (y+1)<=i+1:=by omega
   have hw1:IntKind.i64.wrap ((y:Int)+1)=(y:Int)+1:=by rw[IntKind.wrap_i64];omega
   clear S FF;generalize hmx:max nx (y+1)=mx at*
   by_cases h3:(nx:Int)<(y:Int)+1
   ·have hmy:mx=y+1:=by omega
    subst hmy;clear hmx hm;go_wp2_with fail;go_roundw
    case rel=>exact⟨i+1,y+1,by go_num,by go_num,by omega,hmb,G2.out,B.out⟩
    case measure=>first|(simp[intOf];omega)|omega
   ·have hmy:mx=nx:=by omega
    subst hmy;clear hmx hm;go_wp2_with fail;go_roundw
    case rel=>exact⟨i+1,mx,by go_num,by go_num,by omega,hmb,G2.out,B.out⟩
    case measure=>first|(simp[intOf];omega)|omega
  ·have G2:=zV7 (EN.out nx i hlt FF.out);obtain rfl:i=L.length:=by omega
   go_wp2;go_ret;refine⟨Gr.zAD ?_,B.out⟩;rw[G2.out,Bool.eq_iff_iff,decide_eq_true_iff,beq_iff_eq]
def zR1(lo ps bm:Nat)(L:Nat->List (List Int))(k:Nat)(X:List (List Int))(w:World)(e:Ending)(w':World):Prop:=
 e=.returned (.bool (decide X.Nodup))/\(X.Nodup->∃v' vs',StAt lo ps bm (upd L k X) v' vs' w')/\Below lo w w'
theorem zLc{X:List (List Int)}{i}(hi)(h:(X.take i).Nodup)(hn:X[i]∉X.take i):(X.take (i+1)).Nodup:=by
 have:=zIQ (r:=X[i]) h;rw[(zBL hn).1]at this;rw[List.take_succ_eq_append_getElem hi];exact this
theorem zPa{X:List (List Int)}{i}(hi)(hn:X[i]∈X.take i):¬X.Nodup:=fun h=>by
 obtain⟨j,hj,e⟩:=List.mem_iff_getElem.1 hn;rw[List.length_take]at hj;rw[List.getElem_take]at e;have:=List.nodup_iff_pairwise_ne.1 h;have:=(List.pairwise_iff_getElem.1 this) j i (by omega) hi (by omega);exact this e
theorem zEW{lo ps bm:Nat}{L:Nat->List (List Int)}{v:Nat->Value}{vs:Nat->List Value}(w:World)(h:StAt lo ps bm L v vs w)(k:Nat)(hk:k<2)(he:L k=[])(hl:∀j,j<2->(L j).length<=100000)(X:List (List Int))(a:Option Addr)(c:Nat)
  (hR:∀w1,Below lo w w1->zGi a X w1) (hX:X.length<=100000) (hc:∀r∈X,CdR r):
  Calls Tryz.prog 85 #[.pointer (some ⟨ps,0,none⟩),.int .i64 (k:Int),.slice a X.length c] w (zR1 lo ps bm L k X w):=by
 have hlo:lo<=w.heap.size:=Nat.le_trans h.lp (Nat.le_of_lt h.lt);have HC:=zV7 hc;have HR:=zV7 hR
 have HL:=zV7 (fun i j (hj:j<2)=>(show(upd L k (X.take i) j).length<=100000 by
  unfold upd;split
  ·rw[List.length_take];omega
  ·exact hl j hj))
 have S0:=zV7 (show StAt lo ps bm (upd L k (X.take 0)) v vs w by
  rw[List.take_zero,←he,zD3]
  exact h)
 clear h hc hR hl he;go_enter Tryz.func85,Tryz.ntmps85;go_wp2_with fail;go_loopw [11] (fun u wr=>∃(i:Nat) (v:Nat->Value) (vs:Nat->List Value),u=.int .i64 (i:Int)/\i<=X.length/\(X.take i).Nodup/\StAt lo ps bm (upd L k (X.take i)) v vs wr/\Below lo w wr) (fun u _=>X.length-(intOf u).toNat)
 case atStart=>exact⟨0,v,vs,rfl,Nat.zero_le _,List.nodup_nil,S0.out,.refl _ _⟩
 case round=>
  obtain⟨i,v,vs,rfl,hi,hN,hS,hB⟩:=hrel;have B:=zV7 hB;have N:=zV7 hN;have S:=zV7 hS;clear hN hS hB S0
  by_cases hlt:i<X.length
  ·obtain⟨b,o,ra,rc,rfl,p0,hr,_,_⟩:=HR.out wr B.out i hlt;have hil:(i:Int)<(X.length:Int):=by omega
   have PL:=zV7 (zFa wr S.out k hk X[i] ra rc hr (HC.out _ (List.getElem_mem hlt)) (HL.out i));unfold zJl at PL;rw[upd_same]at PL;have hli:(X.take i).length=i:=by rw[List.length_take];omega
   have hSB:=zV7 (fun(w':World) (f:Fr (stS ps bm v) wr w')=>(show Below lo w w' from B.out.trans (f.below (fun x hx=>S.out.lo_of hx) (Nat.le_trans S.out.lp (Nat.le_of_lt S.out.lt)))))
   by_cases hin:X[i]∈X.take i
   ·have hlt2:=(zCi hin).2.2;rw[hli]at hlt2;have ND:=zV7 (zPa hlt hin);generalize X[i]=r at*;generalize plc (X.take i) r=z at*;have hne:((z:Int) != (i:Int))=true:=by rw[bne_iff_ne];omega
    clear hin hr hli hlt2;go_wp2_with fail;refine PL.out.mono ?_;rintro e w3 ⟨rfl,v',_,hf,_⟩;have B3:=zV7 (hSB.out w3 hf);clear hf;go_wp2_with fail;go_ret;exact⟨Gr.zAD (decide_eq_false ND.out),fun hn=>absurd hn ND.out,B3.out⟩
   ·have hz:=(zBL hin).2;have hput:=(zBL hin).1;rw[hli]at hz;have N2:=zV7 (zLc hlt N.out hin)
    have E2:=zV7 (show upd (upd L k (X.take i)) k (putR (X.take i) X[i])=upd L k (X.take (i+1))by
     rw[hput,List.take_succ_eq_append_getElem hlt]
     funext j
     unfold upd
     split<;>rfl)
    rw[E2.out,hz]at PL;generalize X[i]=r at*;have hne:((i:Int) != (i:Int))=false:=by simp
    clear hin hr hli hz hput E2;go_wp2_with fail;refine PL.out.mono ?_;rintro e w3 ⟨rfl,v',hs,hf,_⟩;have B3:=zV7 (hSB.out w3 hf);have S3:=zV7 hs;clear hf hs;go_wp2_with fail;go_roundw
    case rel=>exact⟨i+1,v',_,by go_num,by omega,N2.out,S3.out,B3.out⟩
    case measure=>first|(simp[intOf];omega)|omega
  ·obtain rfl:i=X.length:=by omega
   have N2:=N.out;have S2:=S.out;rw[List.take_length]at N2 S2;have N3:=zV7 N2;have S3:=zV7 S2;clear N2 S2;go_wp2;go_ret;exact⟨Gr.zAD (decide_eq_true N3.out),fun _=>⟨v,vs,S3.out⟩,B.out⟩
end Pk
namespace Pk
open Go.Proofs.YtegeamggbglneaaGreatDoor.Sep (Fr)
open Im (ic)
def Lst(E F:TypeId)(lo:Nat)(X:List (Nat×List Value))(v:Value)(w:World):Prop:=
 ∃vs,w.ownsRow lo E 1 v X.length vs/\∀j (h:j<X.length),∃b,vs[j]?=some (.slice (some ⟨b,0,none⟩) X[j].1 X[j].1)/\w.heap[b]?=some (.cells X[j].2.toArray F (0,0))/\lo<=b
section
variable {E F U:TypeId} {lo:Nat} {X:List (Nat×List Value)} {v:Value} {w w':World}
theorem Lst.nil(E F)(lo)(w):Lst E F lo [] (.slice none 0 0) w:=⟨[],World.ownsRow_nil _ _ _ _,fun j h=>absurd h (Nat.not_lt_zero _)⟩
theorem Lst.shape(h:Lst E F lo X v w):∃a c,v=.slice a X.length c:=by
 obtain⟨vs,h1,_⟩:=h;exact Rw.zAG h1
theorem Lst.lo_of(h:Lst E F lo X v w){g}(e:v.ownBlock=some g):lo<=g/\g<w.heap.size:=by
 obtain⟨vs,h1,_⟩:=h;exact h1.lt g e
theorem Lst.own(h:Lst E F lo X v w){g}(e:v.ownBlock=some g):∃cur,w.heap[g]?=some (.cells cur E (0,0)):=by
 obtain⟨vs,h1,_⟩:=h;exact zBz h1 e
theorem Lst.at(h:Lst E F lo X v w)(hb:∀b,lo<=b->∀cur T,(T=E\/T=F)->w.heap[b]?=some (.cells cur T (0,0))->w'.heap[b]?=w.heap[b]?):Lst E F lo X v w':=by
 obtain⟨vs,h1,h2⟩:=h;refine⟨vs,Sep.zAE h1 fun g e=>?_,fun j hj=>?_⟩
 ·obtain⟨cur,hc⟩:=zBz h1 e;exact hb g (h1.lt g e).1 cur E (.inl rfl) hc
 ·obtain⟨b,e,h3,h4⟩:=h2 j hj;exact⟨b,e,(hb b h4 _ F (.inr rfl) h3).trans h3,h4⟩
theorem Lst.went(h:Lst E F lo X v w)(hb:Below w.heap.size w w'):Lst E F lo X v w':=h.at fun b _ cur T _ e=>hb.block b (Array.getElem?_eq_some_iff.1 e).1
theorem Lst.kept(h:Lst E F lo X v w){x}{cur}(hx:w.heap[x]?=some (.cells cur U (0,0)))(hE:E≠U)(hF:F≠U)(hg:w.grownBy w' (some x)):Lst E F lo X v w':=h.at fun b _ cur' T hT e=>hg.block b (Array.getElem?_eq_some_iff.1 e).1 fun e2=>by
 injection e2 with e2
 subst e2;rw[hx]at e;injection e with e
 injection e with _ e _
 rcases hT with h|h
 ·exact hE (h▸e.symm)
 ·exact hF (h▸e.symm)
theorem Lst.kept'(h:Lst E F lo X v w){u:Value}(hu:∀g,u.ownBlock=some g->∃cur,w.heap[g]?=some (.cells cur U (0,0)))(hE:E≠U)(hF:F≠U)(hg:w.grownBy w' u.ownBlock):Lst E F lo X v w':=by
 cases ho:u.ownBlock with
 |none=>
  rw[ho]at hg;exact h.went ⟨hg.os,hg.tape,hg.output,hg.size,fun x hx=>hg.block x hx (by simp)⟩
 |some g=>
  rw[ho]at hg;obtain⟨cur,hc⟩:=hu g ho;exact h.kept hc hE hF hg
theorem Lst.snoc(h:Lst E F lo X v w)(hEF:E≠F){b n}{cs}(hb:w.heap[b]?=some (.cells cs.toArray F (0,0)))(hlo:lo<=b){v'}{vs'}(hvs:∃vs,w.ownsRow lo E 1 v X.length vs/\vs'=vs++[.slice (some ⟨b,0,none⟩) n n]/\∀j (h:j<X.length),∃b,vs[j]?=some (.slice (some ⟨b,0,none⟩) X[j].1 X[j].1)/\w.heap[b]?=some (.cells X[j].2.toArray F (0,0))/\lo<=b)
  (hown:w'.ownsRow lo E 1 v' (X.length+1) vs') (hg:w.grownBy w' v.ownBlock):Lst E F lo (X++[(n,cs)]) v' w':=by
 obtain⟨vs,h1,rfl,h2⟩:=hvs
 have hk:∀{c:Nat} {cur:Array Value},w.heap[c]?=some (.cells cur F (0,0))->w'.heap[c]?=some (.cells cur F (0,0)):=fun {c cur} e=>(hg.block c (Array.getElem?_eq_some_iff.1 e).1 fun e2=>by
  obtain⟨cur',e3⟩:=h.own e2.symm;rw[e]at e3;injection e3 with e3
  injection e3 with _ e3 _
  exact hEF e3.symm).trans e
 have hl:vs.length=X.length:=by simpa using h1.1
 refine⟨_,by rw[List.length_append];exact hown,fun j hj=>?_⟩;rw[List.length_append]at hj;simp only[List.length_cons,List.length_nil]at hj
 by_cases e:j<X.length
 ·obtain⟨b',e1,e2,e3⟩:=h2 j e;refine⟨b',?_,?_,e3⟩
  ·rw[List.getElem?_append_left (by omega),List.getElem_append_left e];exact e1
  ·rw[List.getElem_append_left e];exact hk e2
 ·obtain rfl:j=X.length:=by omega
  refine⟨b,?_,?_,hlo⟩
  ·rw[List.getElem?_append_right (by omega),hl,List.getElem_append_right (Nat.le_refl _)];simp
  ·rw[List.getElem_append_right (Nat.le_refl _)]
   simpa using hk hb
theorem Lst.reads{α}{R}{Y}{f:List α->List Value}(hR:∀{b y},w.heap[b]?=some (.cells (f y).toArray F (0,0))->R (some ⟨b,0,none⟩) y w){a}{n c}(h:Lst E F lo X (.slice a n c) w)(hX:X=Y.map fun y=>(y.length,f y))(hl:∀y∈Y,y.length<=100000):
  n=Y.length/\n<=c/\zEf R a Y w:=by
 subst hX;obtain⟨vs,h1,h2⟩:=h
 have hn:n=(Y.map fun y=>(y.length,f y)).length/\n<=c:=by
  rcases h1.2 with⟨e1,e2⟩|⟨_,_,_,e1,_,_,e2,_⟩
  ·simp only[Value.slice.injEq]at e1;omega
  ·simp only[Value.slice.injEq]at e1;omega
 obtain⟨hn,hc⟩:=hn;have hY:(Y.map fun y=>(y.length,f y)).length=Y.length:=List.length_map _;refine⟨hn.trans hY,hc,fun j hj=>?_⟩;subst hn;obtain⟨b,e1,e2,e3⟩:=h2 j (by rw[hY];exact hj);obtain⟨g,rfl⟩:=zBW h1 (by rw[hY];omega);have t0:=World.ownsRow.cells h1 (g:=g) rfl j _ e1;rw[WideShapes.add_plain]at t0;simp only[List.getElem_map]at t0 e2;have:=hl _ (List.getElem_mem hj);exact⟨g,0,some ⟨b,0,none⟩,_,rfl,t0,hR e2,Nat.le_refl _,by omega⟩
end
structure UnI (W:World) (pp:Nat) (q0 q1 q2:Value) (XA XG:List (Nat×List Value)) (vA vG:Value) (w:World):Prop where
 box:w.heap[pp]?=some (.cells #[q0,q1,q2,vA,vG] 26 (0,0))
 pl:pp<W.heap.size
 A:Lst 53 57 W.heap.size XA vA w
 G:Lst 29 3 W.heap.size XG vG w
 fr:Fr (fun x=>x=pp) W w
section
variable {W:World} {pp:Nat} {q0 q1 q2:Value} {XA XG:List (Nat×List Value)} {vA vG:Value} {w w' wa w7:World}
theorem UnI.went(h:UnI W pp q0 q1 q2 XA XG vA vG w)(hb:Below w.heap.size w w'):UnI W pp q0 q1 q2 XA XG vA vG w':=
 ⟨(hb.block pp (Array.getElem?_eq_some_iff.1 h.box).1).trans h.box,h.pl,h.A.went hb,h.G.went hb,h.fr.trans (.of_below hb) fun x hx=> .inl hx⟩
theorem UnI.midA(h:UnI W pp q0 q1 q2 XA XG vA vG w)(hg:w.grownBy w7 vA.ownBlock):w7.heap[pp]?=some (.cells #[q0,q1,q2,vA,vG] 26 (0,0)):=(hg.block pp (Array.getElem?_eq_some_iff.1 h.box).1 fun e=>by
 have:=(h.A.lo_of e.symm).1;have:=h.pl
 omega).trans h.box
theorem UnI.midG(h:UnI W pp q0 q1 q2 XA XG vA vG w)(hg:w.grownBy w7 vG.ownBlock):w7.heap[pp]?=some (.cells #[q0,q1,q2,vA,vG] 26 (0,0)):=(hg.block pp (Array.getElem?_eq_some_iff.1 h.box).1 fun e=>by
 have:=(h.G.lo_of e.symm).1;have:=h.pl
 omega).trans h.box
theorem zDX{E F}{lo}{X}{v}(h:Lst E F lo X v w){p k}(hp:p<lo)(u):Lst E F lo X v (w.setCell ⟨p,k,none⟩ u):=h.at fun b hb _ _ _ _=>Below.heap_setCell _ _ _ _ (by simp;omega)
theorem UnI.nextA(h:UnI W pp q0 q1 q2 XA XG vA vG w){b n}{cs}(hb:w.heap[b]?=some (.cells cs.toArray 57 (0,0)))(hlo:W.heap.size<=b){v'}{vs}
  (hvs:w.ownsRow W.heap.size 53 1 vA XA.length vs/\∀j (h:j<XA.length),∃b,vs[j]?=some (.slice (some ⟨b,0,none⟩) XA[j].1 XA[j].1)/\w.heap[b]?=some (.cells XA[j].2.toArray 57 (0,0))/\W.heap.size<=b)
  (hown:w7.ownsRow W.heap.size 53 1 v' (XA.length+1) (vs++[.slice (some ⟨b,0,none⟩) n n])) (hg:w.grownBy w7 vA.ownBlock):UnI W pp q0 q1 q2 (XA++[(n,cs)]) XG v' vG (w7.setCell ⟨pp,3,none⟩ v'):=by
 have hpl:=h.pl;refine⟨?_,hpl,zDX (h.A.snoc (by decide) hb hlo ⟨vs,hvs.1,rfl,hvs.2⟩ hown hg) hpl _,zDX (h.G.kept' (fun g e=>h.A.own e) (by decide) (by decide) hg) hpl _,(h.fr.grown hg fun x e=> .inr (h.A.lo_of e).1).setCell _ rfl _⟩;rw[zAU (h.midA hg) (k:=3)]
 rfl
theorem UnI.nextG(h:UnI W pp q0 q1 q2 XA XG vA vG w){b n}{cs}(hb:w.heap[b]?=some (.cells cs.toArray 3 (0,0)))(hlo:W.heap.size<=b){v'}{vs}
  (hvs:w.ownsRow W.heap.size 29 1 vG XG.length vs/\∀j (h:j<XG.length),∃b,vs[j]?=some (.slice (some ⟨b,0,none⟩) XG[j].1 XG[j].1)/\w.heap[b]?=some (.cells XG[j].2.toArray 3 (0,0))/\W.heap.size<=b)
  (hown:w7.ownsRow W.heap.size 29 1 v' (XG.length+1) (vs++[.slice (some ⟨b,0,none⟩) n n])) (hg:w.grownBy w7 vG.ownBlock):UnI W pp q0 q1 q2 XA (XG++[(n,cs)]) vA v' (w7.setCell ⟨pp,4,none⟩ v'):=by
 have hpl:=h.pl;refine⟨?_,hpl,zDX (h.A.kept' (fun g e=>h.G.own e) (by decide) (by decide) hg) hpl _,zDX (h.G.snoc (by decide) hb hlo ⟨vs,hvs.1,rfl,hvs.2⟩ hown hg) hpl _,(h.fr.grown hg fun x e=> .inr (h.G.lo_of e).1).setCell _ rfl _⟩;rw[zAU (h.midG hg) (k:=4)]
 rfl
end
theorem zEY{n}:∀{L:List Int} {nx:Int},zAf n nx L=true->nx<=n/\∀x∈L,0<=x/\x<n:=by
 intro L
 induction L with
 |nil=>
  intro nx h;have:=of_decide_eq_true h;exact⟨by omega,fun x hx=>by cases hx⟩
 |cons a l ih=>
  intro nx h;rw[zAf]at h;split at h
  ·cases h
  ·obtain⟨h1,h2⟩:=ih h;refine⟨by omega,fun x hx=>?_⟩;rcases List.mem_cons.1 hx with rfl|hx
   ·omega
   ·exact h2 x hx
structure Up (P:Pd):Prop where
 ga:P.gow.length=P.row.length
 wl:P.row.length<=16383
 rl:P.rules.length<=16383
 row:∀x∈P.row,0<=x/\x<(P.rows.length:Int)
 gow:∀x∈P.gow,0<=x/\x<(P.gows.length:Int)
theorem zRT{P}(h:zCM P=true):Up P:=by
 simp only[zCM,zLL,zDt,Bool.and_eq_true,decide_eq_true_eq]at h;obtain⟨⟨_,h2,h3,_,h5,_⟩,_,_,h6,h7,_⟩:=h;exact⟨h3,h2,h5,(zEY h6).2,(zEY h7).2⟩
def AX(P:Pd)(k:Nat):List (Nat×List Value):=(((P.row.map fun i=>(P.rows.getD i.toNat []).map zAb).take k).map fun y=>(y.length,y.flatMap ic))
def GX(P:Pd)(k:Nat):List (Nat×List Value):=(((P.gow.map fun i=>(P.gows.getD i.toNat []).map toOf).take k).map fun y=>(y.length,y.map (Value.int .i64)))
theorem zR0{P}{k}(hk){j:Nat}(e:P.row[k]=(j:Int))(hj):AX P (k+1)=AX P k++[(P.rows[j].length,(P.rows[j].map zAb).flatMap ic)]:=by
 unfold AX;rw[List.take_succ_eq_append_getElem (by rw[List.length_map];exact hk),List.map_append]
 congr 1
 simp[e,List.getD_eq_getElem?_getD,hj]
theorem zR2{P}{k}(hk){j:Nat}(e:P.gow[k]=(j:Int))(hj):GX P (k+1)=GX P k++[(P.gows[j].length,P.gows[j].map fun x=>Value.int .i64 (toOf x))]:=by
 unfold GX;rw[List.take_succ_eq_append_getElem (by rw[List.length_map];exact hk),List.map_append]
 congr 1
 simp[e,List.getD_eq_getElem?_getD,hj]
theorem zT7{P}{k}(hk:k<=P.row.length):(AX P k).length=k:=by
 unfold AX;rw[List.length_map,List.length_take,List.length_map];omega
theorem zUA{P}{k}(hk:k<=P.gow.length):(GX P k).length=k:=by
 unfold GX;rw[List.length_map,List.length_take,List.length_map];omega
end Pk
namespace Pk
open Gr (boxed Fits)
open Go.Proofs.YtegeamggbglneaaGreatDoor.Sep (Fr)
open Im (ItsA ic)
def zHV(P:Pd)(w:World)(e:Ending)(w':World):Prop:=
 ∃aR cR aA cA aG cG,e=.returned (.agg (tvs (unO P) aR cR aA cA aG cG))/\TAt (unO P) aR cR aA cA aG cG w'/\Below w.heap.size w w'
def nil5:Array Value:=#[.slice none 0 0,.int .i64 0,.int .i64 0,.slice none 0 0,.slice none 0 0]
def set5(w:World)(p:Nat)(v0 v1 v2 v3 v4:Value):World:=((((w.setCell ⟨p,0,none⟩ v0).setCell ⟨p,1,none⟩ v1).setCell ⟨p,2,none⟩ v2).setCell ⟨p,3,none⟩ v3).setCell ⟨p,4,none⟩ v4
theorem zD0{w:World}{p}{u0 u1 u2 u3 u4 v0 v1 v2 v3 v4}{T}(h:w.heap[p]?=some (.cells #[u0,u1,u2,u3,u4] T (0,0))):
  (((((w.setCell ⟨p,0,none⟩ v0).setCell ⟨p,1,none⟩ v1).setCell ⟨p,2,none⟩ v2).setCell ⟨p,3,none⟩ v3).setCell ⟨p,4,none⟩ v4).heap[p]?=some (.cells #[v0,v1,v2,v3,v4] T (0,0)):=by
 rw[zAU (k:=4) (zAU (k:=3) (zAU (k:=2) (zAU (k:=1) (zAU (k:=0) h _) _) _) _)]
 rfl
theorem zLt{w}{p}{u0 u1 u2 u3 u4}{T}(h:w.heap[p]?=some (.cells #[u0,u1,u2,u3,u4] T (0,0)))(v0 v1 v2 v3 v4):
  (set5 w p v0 v1 v2 v3 v4).cell? ⟨p,0,none⟩=some v0/\(set5 w p v0 v1 v2 v3 v4).cell? ⟨p,1,none⟩=some v1/\(set5 w p v0 v1 v2 v3 v4).cell? ⟨p,2,none⟩=some v2/\(set5 w p v0 v1 v2 v3 v4).cell? ⟨p,3,none⟩=some v3/\(set5 w p v0 v1 v2 v3 v4).cell? ⟨p,4,none⟩=some v4:=by
 have hh:(set5 w p v0 v1 v2 v3 v4).heap[p]?=some (.cells #[v0,v1,v2,v3,v4] T (0,0)):=zD0 h;exact⟨zAA hh (k:=0) (by simp),zAA hh (k:=1) (by simp),zAA hh (k:=2) (by simp),zAA hh (k:=3) (by simp),zAA hh (k:=4) (by simp)⟩
theorem zEM(w)(p)(v0 v1 v2 v3 v4):Fr (fun x=>x=p) w (((((w.setCell ⟨p,0,none⟩ v0).setCell ⟨p,1,none⟩ v1).setCell ⟨p,2,none⟩ v2).setCell ⟨p,3,none⟩ v3).setCell ⟨p,4,none⟩ v4):=
 (((((Fr.refl (fun x=>x=p) w).setCell ⟨p,0,none⟩ rfl _).setCell ⟨p,1,none⟩ rfl _).setCell ⟨p,2,none⟩ rfl _).setCell ⟨p,3,none⟩ rfl _).setCell ⟨p,4,none⟩ rfl _
theorem zCC{q}{W X}(h:Below W.heap.size W X)(hq:W.heap.size<=q)(v0 v1 v2 v3 v4):Below W.heap.size W (((((X.setCell ⟨q,0,none⟩ v0).setCell ⟨q,1,none⟩ v1).setCell ⟨q,2,none⟩ v2).setCell ⟨q,3,none⟩ v3).setCell ⟨q,4,none⟩ v4):=
 h.trans ((zEM X q v0 v1 v2 v3 v4).below (fun x hx=>by omega) h.size)
structure UnB (P:Pd) (W:World) (b p:Nat) (w5:World):Prop where
 box:w5.heap[p]?=some (.cells #[.slice (some ⟨b,0,none⟩) P.rules.length P.rules.length,.int .i64 P.terms,.int .i64 P.nons,.slice none 0 0,.slice none 0 0] 26 (0,0))
 pl:p<w5.heap.size
 lo:W.heap.size<=p
 below:Below W.heap.size W w5
 rules:∀w',Fr (fun x=>x=p\/x<W.heap.size) w5 w'->RulA (some ⟨b,0,none⟩) P.rules w'
theorem UnB.after{P}{W w1 we:World}{b}(h:Below W.heap.size W we)(hw:W.heap.size<=w1.heap.size)(hr:∀w2,(∀g,w1.heap.size<=g->g<we.heap.size->w2.heap[g]?=we.heap[g]?)->RulA (some ⟨b,0,none⟩) P.rules w2):
  UnB P W b we.heap.size (we.alloc (.cells #[.slice (some ⟨b,0,none⟩) P.rules.length P.rules.length,.int .i64 P.terms,.int .i64 P.nons,.slice none 0 0,.slice none 0 0] 26)):=by
 refine⟨zAd _ _,?_,h.size,Gr.step h (boxed _ _),fun w' hf=>hr w' fun g h1 h2=>?_⟩
 ·rw[World.size_alloc];exact Nat.lt_succ_self _
 ·refine(hf.block g (by rw[World.size_alloc];omega) (by omega)).trans ?_;exact(boxed we _).block g h2
theorem UnB.ahead{P}{W w1 we:World}{b}{u0 u1 u2 u3 u4}(h:Below W.heap.size W we)(hw:W.heap.size<w1.heap.size)(kb:we.heap[W.heap.size]?=some (.cells #[u0,u1,u2,u3,u4] 26 (0,0)))(hr:∀w2,(∀g,w1.heap.size<=g->g<we.heap.size->w2.heap[g]?=we.heap[g]?)->RulA (some ⟨b,0,none⟩) P.rules w2):
  UnB P W b W.heap.size (((((we.setCell ⟨W.heap.size,0,none⟩ (.slice (some ⟨b,0,none⟩) P.rules.length P.rules.length)).setCell ⟨W.heap.size,1,none⟩ (.int .i64 P.terms)).setCell ⟨W.heap.size,2,none⟩ (.int .i64 P.nons)).setCell ⟨W.heap.size,3,none⟩ (.slice none 0 0)).setCell ⟨W.heap.size,4,none⟩ (.slice none 0 0)):=by
 have f:=zEM we W.heap.size (.slice (some ⟨b,0,none⟩) P.rules.length P.rules.length) (.int .i64 P.terms) (.int .i64 P.nons) (.slice none 0 0) (.slice none 0 0);refine⟨zD0 kb,Nat.lt_of_lt_of_le (Array.getElem?_eq_some_iff.1 kb).1 f.size,Nat.le_refl _,zCC h (Nat.le_refl _) _ _ _ _ _,fun w' hf=>hr w' fun g h1 h2=>?_⟩;exact(hf.block g (Nat.lt_of_lt_of_le h2 f.size) (by omega)).trans (f.block g h2 (by omega))
theorem UnB.start{P}{W w5}{b p}(h:UnB P W b p w5):UnI w5 p (.slice (some ⟨b,0,none⟩) P.rules.length P.rules.length) (.int .i64 P.terms) (.int .i64 P.nons) (AX P 0) (GX P 0) (.slice none 0 0) (.slice none 0 0) w5:=
 ⟨h.box,h.pl,.nil _ _ _ _,.nil _ _ _ _,.refl _ _⟩
theorem zT0{P}(h:zCM P=true)(S:PSm P)(hf:PFit P){W w5 wb}{b p}(hB:UnB P W b p w5){aA aG}{nA cA nG cG}
  (hI:UnI w5 p (.slice (some ⟨b,0,none⟩) P.rules.length P.rules.length) (.int .i64 P.terms) (.int .i64 P.nons) (AX P P.row.length) (GX P P.row.length) (.slice aA nA cA) (.slice aG nG cG) wb) {w'} (hw:Fr (fun x=>x=p\/x<W.heap.size) wb w'):
  nA=(unP P).acts.length/\nG=(unP P).goto.length/\TAt (unP P) (some ⟨b,0,none⟩) P.rules.length aA cA aG cG w':=by
 have U:=zRT h;have hga:=U.ga;have hwl:=S.wl;have hrl:=S.rl
 have hlt:∀g,w5.heap.size<=g->¬(g=p\/g<W.heap.size):=fun g hg e=>by
  have:=hB.pl;have:=hB.lo;omega
 have keep:∀b',w5.heap.size<=b'->∀cur T,wb.heap[b']?=some (.cells cur T (0,0))->w'.heap[b']?=wb.heap[b']?:=fun b' hb' cur T e=>hw.block b' (Array.getElem?_eq_some_iff.1 e).1 (hlt b' hb')
 have LA:=hI.A.at (w':=w') fun b' hb' cur T _ e=>keep b' hb' cur T e
 have LG:=hI.G.at (w':=w') fun b' hb' cur T _ e=>keep b' hb' cur T e
 have hpick:∀{X:List (List Int)},(∀r∈X,r.length<=100000)->∀i:Int,(X.getD i.toNat []).length<=100000:=fun {X} hX i=>by
  by_cases hi:i.toNat<X.length
  ·rw[List.getD_eq_getElem?_getD,List.getElem?_eq_getElem hi];exact hX _ (List.getElem_mem hi)
  ·rw[List.getD_eq_getElem?_getD,List.getElem?_eq_none (by omega)];simp
 have hcds:∀{X:List (List Int)},(∀r∈X,∀x∈r,Cd x)->∀i:Int,∀x∈X.getD i.toNat [],Cd x:=fun {X} hX i x hx=>by
  by_cases hi:i.toNat<X.length
  ·rw[List.getD_eq_getElem?_getD,List.getElem?_eq_getElem hi]at hx;exact hX _ (List.getElem_mem hi) x hx
  ·rw[List.getD_eq_getElem?_getD,List.getElem?_eq_none (by omega)]at hx;simp at hx
 have hsA:∀y∈(unP P).acts,y.length<=100000:=fun y hy=>by
  obtain⟨i,_,rfl⟩:=List.mem_map.1 hy;rw[List.length_map];exact hpick S.wr i
 have hsG:∀y∈(unP P).goto,y.length<=100000:=fun y hy=>by
  obtain⟨i,_,rfl⟩:=List.mem_map.1 hy;rw[List.length_map];exact hpick S.gr i
 have eA:AX P P.row.length=(unP P).acts.map fun y=>(y.length,y.flatMap ic):=by
  unfold AX unP;dsimp only;rw[List.take_of_length_le (by rw[List.length_map];exact Nat.le_refl _)]
 have eG:GX P P.row.length=(unP P).goto.map fun y=>(y.length,y.map (Value.int .i64)):=by
  unfold GX unP;dsimp only;rw[List.take_of_length_le (by rw[List.length_map];omega)]
 obtain⟨a1,a2,a3⟩:=LA.reads (R:=ItsA) (Y:=(unP P).acts) (f:=fun y=>y.flatMap ic) (fun e=>zBq e) eA hsA;obtain⟨g1,g2,g3⟩:=LG.reads (R:=IntA) (Y:=(unP P).goto) (f:=fun y=>y.map (Value.int .i64)) (fun e=>zBq e) eG hsG;have hlA:(unP P).acts.length=P.row.length:=List.length_map _;have hlG:(unP P).goto.length=P.gow.length:=List.length_map _;refine⟨a1,g1,hB.rules w' ((hI.fr.mono fun x hx=> .inl hx).trans hw fun x hx=> .inl hx),a3,g3,Nat.le_refl _,?_,by omega,by omega,⟨hf.t,hf.n,hf.left,hf.right,fun r hr x hx=>?_,fun r hr x hx=>?_⟩⟩
 ·show P.rules.length<= _;omega
 ·obtain⟨i,_,rfl⟩:=List.mem_map.1 hr;obtain⟨c,hc,rfl⟩:=List.mem_map.1 hx;have:=hcds hf.rows i c hc;unfold Cd at this;unfold zAb Fits;split<;>dsimp only<;>omega
 ·obtain⟨i,_,rfl⟩:=List.mem_map.1 hr;obtain⟨c,hc,rfl⟩:=List.mem_map.1 hx;have:=hcds hf.gows i c hc;unfold Cd at this;unfold toOf Fits;omega
end Pk
namespace Pk
open Gr (boxed)
theorem zFe(P:Pd)(aR:Option Addr)(cR:Nat)(aW:Option Addr)(cW:Nat)(aX:Option Addr)(cX:Nat)(aG:Option Addr)(cG:Nat)(aH:Option Addr)(cH:Nat)(w:World)(D:PAt P aR cR aW cW aX cX aG cG aH cH w)(h0:0<P.rules.length)(ht:0<=P.terms):
  Calls Tryz.prog 38 #[.agg (pvs P aR cR aW cW aX cX aG cG aH cH)] w (Gr.Is (.bool (zFi P)) w):=by
 have b1:=boxed w (.cells (pvs P aR cR aW cW aX cX aG cG aH cH) 32);have B1:=zV7 b1;have Z1:=zV7 (zAr (P:=P) (aR:=aR) (cR:=cR) (aW:=aW) (cW:=cW) (aX:=aX) (cX:=cX) (aG:=aG) (cG:=cG) (aH:=aH) (cH:=cH) w 32);obtain⟨bR,oR,_,_,rfl, -⟩:=D.rules 0 h0;obtain⟨m,hm⟩:∃m,P.rules.length=m+1:=⟨P.rules.length-1,by omega⟩;have hlm:(P.rules.take (P.rules.length-1)).length=m:=by rw[List.length_take];omega
 have hrl:=D.rl;have hc:=D.rc
 have hrt:RulA (some ⟨bR,oR,none⟩) (P.rules.take (P.rules.length-1)) w:=fun i hi=>by
  have hi':i<P.rules.length:=by omega
  obtain⟨b,o,ra,rc,e,h1,h2,h3,h4⟩:=D.rules i hi';rw[List.getElem_take];exact⟨b,o,ra,rc,e,h1,h2,h3,h4⟩
 have CT:=zV7 (zF1 P (some ⟨bR,oR,none⟩) cR aW cW aX cX aG cG aH cH w.heap.size _ Z1.out ht (P.rules.take (P.rules.length-1)) (some ⟨bR,oR,none⟩) cR (hrt.went b1) (by omega) (fun x hx=>D.fit.left _ (List.mem_of_mem_take hx)));have RP:=zV7 (show zFi P=(P.rules.take (P.rules.length-1)).all (okL P.terms P.nons)from rfl);rw[hlm]at CT;generalize zFi P=g at*;generalize (P.rules.take (P.rules.length-1)).all (okL P.terms P.nons)=al at*;have hw:IntKind.i64.wrap ((P.rules.length:Int)-1)=(m:Int):=by rw[IntKind.wrap_i64];omega
 have hc2:(m:Int)<=(cR:Int):=by omega
 have hc3:m<=cR:=by omega
 clear D hrt b1 hlm hm hc hrl h0;unfold pvs at*;obtain⟨z0,z1,z2,z3,z4,z5,z6⟩:=Z1.out;go_enter Tryz.func38,Tryz.ntmps38;go_wp2_with fail;refine CT.out.mono ?_;rintro e w3 ⟨rfl,hb3⟩;have B3:=zV7 (Gr.step B1.out hb3);clear hb3;go_wp2_with fail;go_ret;exact⟨Gr.zAD RP.out,B3.out⟩
theorem zFc(P:Pd)(aR:Option Addr)(cR:Nat)(aW:Option Addr)(cW:Nat)(aX:Option Addr)(cX:Nat)(aG:Option Addr)(cG:Nat)(aH:Option Addr)(cH:Nat)(w:World)(D:PAt P aR cR aW cW aX cX aG cG aH cH w)(S:PSm P):
  Calls Tryz.prog 39 #[.agg (pvs P aR cR aW cW aX cX aG cG aH cH)] w (Gr.Is (.bool (zDM P)) w):=by
 have B1:=zV7 (boxed w (.cells (pvs P aR cR aW cW aX cX aG cG aH cH) 32));have Z1:=zV7 (zAr (P:=P) (aR:=aR) (cR:=cR) (aW:=aW) (cW:=cW) (aX:=aX) (cX:=cX) (aG:=aG) (cG:=cG) (aH:=aH) (cH:=cH) w 32);have DX:=zV7 (fun w1 (b:Below w.heap.size w w1)=>(D.went b).rows);have DH:=zV7 (fun w1 (b:Below w.heap.size w w1)=>(D.went b).gows);have CX:=zV7 (fun b w1 Z L a c h hl hp=>zFz P aR cR aW cW aX cX aG cG aH cH b w1 Z D.wl D.rl L a c h hl hp);have CH:=zV7 (fun b w1 Z L a c h hl hp=>zF0 P aR cR aW cW aX cX aG cG aH cH b w1 Z D.wl L a c h hl hp);have FX:=zV7 (fun i (hi:i<P.rows.length)=>D.fit.rows _ (List.getElem_mem hi));have FH:=zV7 (fun i (hi:i<P.gows.length)=>D.fit.gows _ (List.getElem_mem hi));have SX:=zV7 (fun i (hi:i<P.rows.length)=>zEI S.wr hi);have SH:=zV7 (fun i (hi:i<P.gows.length)=>zEI S.gr hi);have hxl:=S.wsl;have hhl:=S.gsl;have CP:=zV7 (show zDM P=(P.rows.all (okCR P.row.length P.rules.length P.terms)&&P.gows.all (okGR P.row.length P.nons))from rfl);have FT:=zV7 (fun i (hi:i<P.rows.length) (e:okCR P.row.length P.rules.length P.terms P.rows[i]=false)=>(show zDM P=false by rw[CP.out,zAc hi e];rfl));have FE:=zV7 (fun i (h:(P.rows.take i).all (okCR P.row.length P.rules.length P.terms)=true) (hi:¬i<P.rows.length)=>(show zDM P=P.gows.all (okGR P.row.length P.nons)by rw[CP.out,zAt h hi];rfl));have ST:=zV7 (fun i (h:(P.rows.take i).all (okCR P.row.length P.rules.length P.terms)=true) (hi:i<P.rows.length) (e:okCR P.row.length P.rules.length P.terms P.rows[i]=true)=>zAy h hi e);have Z0:=zV7 (zAz (okCR P.row.length P.rules.length P.terms) P.rows);have GT:=zV7 (fun i (hi:i<P.gows.length) (e:okGR P.row.length P.nons P.gows[i]=false)=>(show P.gows.all (okGR P.row.length P.nons)=false from zAc hi e));have GE:=zV7 (fun i (h:(P.gows.take i).all (okGR P.row.length P.nons)=true) (hi:¬i<P.gows.length)=>(show P.gows.all (okGR P.row.length P.nons)=true from zAt h hi));have GS:=zV7 (fun i (h:(P.gows.take i).all (okGR P.row.length P.nons)=true) (hi:i<P.gows.length) (e:okGR P.row.length P.nons P.gows[i]=true)=>zAy h hi e);have G0:=zV7 (zAz (okGR P.row.length P.nons) P.gows);generalize zDM P=g at*;generalize P.gows.all (okGR P.row.length P.nons)=gg at*;clear D S CP;obtain⟨z0,z1,z2,z3,z4,z5,z6⟩:=Z1.out;unfold pvs at*;go_enter Tryz.func39,Tryz.ntmps39;go_wp2_with fail;generalize w.alloc (.cells #[.slice aR P.rules.length cR,.int .i64 P.terms,.int .i64 P.nons,.slice aW P.row.length cW,.slice aX P.rows.length cX,.slice aG P.gow.length cG,.slice aH P.gows.length cH] 32)=w2 at*;clear z0 z1 z2 z3 z4 z5 z6;go_loopw [10] (fun v wr=>∃i:Nat,v=.int .i64 (i:Int)/\i<=P.rows.length/\(P.rows.take i).all (okCR P.row.length P.rules.length P.terms)=true/\Below w2.heap.size w2 wr) (fun v _=>P.rows.length-(intOf v).toNat)
 case atStart=>exact⟨0,rfl,Nat.zero_le _,Z0.out,.refl _ _⟩
 case round=>
  obtain⟨i,rfl,hi,hA,hB⟩:=hrel;have A:=zV7 hA;have B:=zV7 hB;clear hB hA Z0
  by_cases hlt:i<P.rows.length
  ·have BW:=zV7 (Gr.step B1.out B.out);obtain⟨b,o,ra,c,rfl,p0,p1,_,_⟩:=DX.out wr BW.out i hlt;obtain⟨z0,z1,z2,z3,z4,z5,z6⟩:=Z1.out.went B.out;have hil:(i:Int)<(P.rows.length:Int):=by omega
   have FTi:=zV7 (FT.out i hlt);have STi:=zV7 (ST.out i A.out hlt);have hlen:=SX.out i hlt;have CT:=zV7 (CX.out _ wr (Z1.out.went B.out) P.rows[i] ra c p1 (by omega) (FX.out i hlt));clear p1;unfold okCR at FTi STi;generalize P.rows[i]=row at*;have hw:IntKind.i64.wrap ((row.length:Int)-1)=(row.length:Int)-1:=by rw[IntKind.wrap_i64];omega
   by_cases hr:(row.length:Int)-1=P.terms
   ·have hbn:((row.length:Int)-1 != P.terms)=false:=by rw[hr];simp
    have HR:=zV7 hr;clear hr;cases hok:row.all (okC P.row.length P.rules.length)with
    |true=>
     have S2:=zV7 (STi.out (by rw[hok,decide_eq_true HR.out];rfl));rw[hok]at CT;clear hok FTi STi;go_wp2_with fail;refine CT.out.mono ?_;rintro e w6 ⟨rfl,hb6⟩;have K6:=zV7 (Gr.step B.out hb6);clear hb6;go_wp2_with fail;go_roundw
     case rel=>exact⟨i+1,by go_num,by omega,S2.out,K6.out⟩
     case measure=>first|(simp[intOf];omega)|omega
    |false=>
     have F2:=zV7 (FTi.out (by rw[hok,Bool.and_false]));rw[hok]at CT;clear hok FTi STi;go_wp2_with fail;refine CT.out.mono ?_;rintro e w6 ⟨rfl,hb6⟩;have K6:=zV7 (Gr.step BW.out hb6);clear hb6;go_wp2_with fail;go_ret;exact⟨Gr.zAD F2.out,K6.out⟩
   ·have F2:=zV7 (FTi.out (by rw[decide_eq_false hr];rfl));have hbn:((row.length:Int)-1 != P.terms)=true:=by rw[bne_iff_ne];exact hr
    clear FTi STi CT;go_wp2_with fail;go_ret;exact⟨Gr.zAD F2.out,BW.out⟩
  ·have F1:=zV7 (FE.out i A.out hlt);obtain rfl:i=P.rows.length:=by omega
   obtain⟨z0,z1,z2,z3,z4,z5,z6⟩:=Z1.out.went B.out;have Z5:=zV7 (Z1.out.went B.out);have B5:=zV7 (Gr.step B1.out B.out);clear FT FE ST CX FX SX A DX Z1 B1 B;go_wp2_with fail;generalize wr=w5 at*;clear z0 z1 z2 z3 z4 z5 z6;go_loopw [29] (fun v wz=>∃i:Nat,v=.int .i64 (i:Int)/\i<=P.gows.length/\(P.gows.take i).all (okGR P.row.length P.nons)=true/\Below w5.heap.size w5 wz) (fun v _=>P.gows.length-(intOf v).toNat)
   case atStart=>exact⟨0,rfl,Nat.zero_le _,G0.out,.refl _ _⟩
   case round=>
    obtain⟨i,rfl,hi,hA,hB⟩:=hrel;have A:=zV7 hA;have B:=zV7 hB;clear hB hA G0
    by_cases hlt:i<P.gows.length
    ·have BW:=zV7 (Gr.step B5.out B.out);obtain⟨b,o,ra,c,rfl,p0,p1,_,_⟩:=DH.out wr BW.out i hlt;obtain⟨z0,z1,z2,z3,z4,z5,z6⟩:=Z5.out.went B.out;have hil:(i:Int)<(P.gows.length:Int):=by omega
     have FTi:=zV7 (GT.out i hlt);have STi:=zV7 (GS.out i A.out hlt);have hlen:=SH.out i hlt;have CT:=zV7 (CH.out _ wr (Z5.out.went B.out) P.gows[i] ra c p1 (by omega) (FH.out i hlt));clear p1;unfold okGR at FTi STi;generalize P.gows[i]=row at*
     by_cases hr:(row.length:Int)=P.nons
     ·have hbn:((row.length:Int) != P.nons)=false:=by rw[hr];simp
      have HR:=zV7 hr;clear hr;cases hok:row.all (okG P.row.length)with
      |true=>
       have S2:=zV7 (STi.out (by rw[hok,decide_eq_true HR.out];rfl));rw[hok]at CT;clear hok FTi STi;go_wp2_with fail;refine CT.out.mono ?_;rintro e w6 ⟨rfl,hb6⟩;have K6:=zV7 (Gr.step B.out hb6);clear hb6;go_wp2_with fail;go_roundw
       case rel=>exact⟨i+1,by go_num,by omega,S2.out,K6.out⟩
       case measure=>first|(simp[intOf];omega)|omega
      |false=>
       have F2:=zV7 (FTi.out (by rw[hok,Bool.and_false]));rw[hok]at CT;clear hok FTi STi;go_wp2_with fail;refine CT.out.mono ?_;rintro e w6 ⟨rfl,hb6⟩;have K6:=zV7 (Gr.step BW.out hb6);clear hb6;go_wp2_with fail;go_ret;exact⟨Gr.zAD (by rw[F1.out,F2.out]),K6.out⟩
     ·have F2:=zV7 (FTi.out (by rw[decide_eq_false hr];rfl));have hbn:((row.length:Int) != P.nons)=true:=by rw[bne_iff_ne];exact hr
      clear FTi STi CT;go_wp2_with fail;go_ret;exact⟨Gr.zAD (by rw[F1.out,F2.out]),BW.out⟩
    ·have F2:=zV7 (GE.out i A.out hlt);obtain rfl:i=P.gows.length:=by omega
     go_wp2;go_ret;exact⟨Gr.zAD (by rw[F1.out,F2.out]),Gr.step B5.out B.out⟩
theorem zTU{P}{aR}{cR}{aW}{cW}{aX}{cX}{aG}{cG}{aH}{cH b}{w w'}(h:PBox P aR cR aW cW aX cX aG cG aH cH b w)(hb:Below (b+1) w w'):PBox P aR cR aW cW aX cX aG cG aH cH b w':=by
 obtain⟨h0,h1,h2,h3,h4,h5,h6⟩:=h;exact⟨(hb.cell (Nat.lt_succ_self _)).trans h0,(hb.cell (Nat.lt_succ_self _)).trans h1,(hb.cell (Nat.lt_succ_self _)).trans h2,(hb.cell (Nat.lt_succ_self _)).trans h3,(hb.cell (Nat.lt_succ_self _)).trans h4,(hb.cell (Nat.lt_succ_self _)).trans h5,(hb.cell (Nat.lt_succ_self _)).trans h6⟩
theorem zRH(w:World):StAt w.heap.size (w.heap.size+1) w.heap.size (fun _=>[]) (fun _=> .slice none 0 0) (fun _=>[]) ((w.alloc (.map #[] 0)).alloc (.cells #[.map (some w.heap.size),.slice none 0 0,.slice none 0 0] 64)):=by
 have hs1:(w.alloc (.map #[] 0)).heap.size=w.heap.size+1:=World.size_alloc _ _;have b2:=boxed (w.alloc (.map #[] 0)) (.cells #[.map (some w.heap.size),.slice none 0 0,.slice none 0 0] 64);refine⟨?_,⟨0,fun _=>none,Nat.zero_le _,(RMap.made w _ _ _).keep (b2.block _ (by omega)),told_none⟩,fun k hk=>World.ownsRow_nil _ _ _ _,fun g e=>(by cases e),by omega,Nat.le_refl _⟩;have:=zAd (w.alloc (.map #[] 0)) (.cells #[.map (some w.heap.size),.slice none 0 0,.slice none 0 0] 64)
 rwa [hs1]at this
theorem zFd(P:Pd)(aR:Option Addr)(cR:Nat)(aW:Option Addr)(cW:Nat)(aX:Option Addr)(cX:Nat)(aG:Option Addr)(cG:Nat)(aH:Option Addr)(cH:Nat)(w:World)(D:PAt P aR cR aW cW aX cX aG cG aH cH w)(S:PSm P):
  Calls Tryz.prog 40 #[.agg (pvs P aR cR aW cW aX cX aG cG aH cH)] w (Gr.Is (.bool (zDt P)) w):=by
 have B1:=zV7 (boxed w (.cells (pvs P aR cR aW cW aX cX aG cG aH cH) 32));have Z1:=zV7 (zAr (P:=P) (aR:=aR) (cR:=cR) (aW:=aW) (cW:=cW) (aX:=aX) (cX:=cX) (aG:=aG) (cG:=cG) (aH:=aH) (cH:=cH) w 32);have FR:=zV7 (fun n w1 (b:Below w.heap.size w w1)=>zGJ P.row aW cW n w1 (D.went b).row D.wl);have FG:=zV7 (fun n w1 (b:Below w.heap.size w w1)=>zGJ P.gow aG cG n w1 (D.went b).gow D.gl);have DX:=zV7 (fun w1 (b:Below w.heap.size w w1)=>(D.went b).rows);have DH:=zV7 (fun w1 (b:Below w.heap.size w w1)=>(D.went b).gows);have hxl:=S.wsl;have hhl:=S.gsl;have CX:=zV7 (show∀r∈P.rows,CdR r from fun r hr=>⟨D.fit.rows r hr,S.wr r hr⟩);have CH:=zV7 (show∀r∈P.gows,CdR r from fun r hr=>⟨D.fit.gows r hr,S.gr r hr⟩);have OP:=zV7 (show zDt P=(zAf (P.rows.length:Int) 0 P.row&&(zAf (P.gows.length:Int) 0 P.gow&&(decide P.rows.Nodup&&decide P.gows.Nodup)))from rfl);generalize zDt P=g at*;have FR1:=zV7 (FR.out (P.rows.length:Int));have FG1:=zV7 (FG.out (P.gows.length:Int));generalize zAf (P.rows.length:Int) 0 P.row=f1 at*;generalize zAf (P.gows.length:Int) 0 P.gow=f2 at*;have hmm:=zKI;have S0:=zRH (w.alloc (.cells (pvs P aR cR aW cW aX cX aG cG aH cH) 32));rw[World.size_alloc]at S0;have S3:=zV7 S0;have hb2:=Gr.step (boxed (w.alloc (.cells (pvs P aR cR aW cW aX cX aG cG aH cH) 32)) (.map #[] 0)) (boxed _ (.cells #[.map (some (w.heap.size+1)),.slice none 0 0,.slice none 0 0] 64));have B3:=zV7 (Gr.step B1.out hb2);have Z3:=zV7 (Z1.out.went hb2);clear D S FR FG hb2 S0;obtain⟨z0,z1,z2,z3,z4,z5,z6⟩:=Z1.out;unfold pvs at*;go_enter Tryz.func40,Tryz.ntmps40;go_wp2_with fail;generalize ((w.alloc (.cells #[.slice aR P.rules.length cR,.int .i64 P.terms,.int .i64 P.nons,.slice aW P.row.length cW,.slice aX P.rows.length cX,.slice aG P.gow.length cG,.slice aH P.gows.length cH] 32)).alloc (.map #[] 0)).alloc (.cells #[.map (some (w.heap.size+1)),.slice none 0 0,.slice none 0 0] 64)=w3 at*;clear z0 z1 z2 z3 z4 z5 z6 Z1 B1 hmm;refine(FR1.out _ B3.out).mono ?_;rintro e w4 ⟨rfl,hb4⟩;have B4:=zV7 (Gr.step B3.out hb4);have Z4:=zV7 (Z3.out.went hb4);have S4:=zV7 (S3.out.went hb4);clear hb4 Z3 S3 B3 FR1;obtain⟨z0,z1,z2,z3,z4,z5,z6⟩:=Z4.out;cases f1 with
 |false=>
  have G2:=zV7 (show g=false by rw[OP.out];rfl);clear OP;go_wp2_with fail;go_ret;exact⟨Gr.zAD G2.out,B4.out⟩
 |true=>
  go_wp2_with fail;refine(FG1.out _ B4.out).mono ?_;rintro e w5 ⟨rfl,hb5⟩;have B5:=zV7 (Gr.step B4.out hb5);have Z5:=zV7 (Z4.out.went hb5);have S5:=zV7 (S4.out.went hb5);clear hb5 Z4 S4 B4 FG1 z0 z1 z2 z3 z4 z5 z6;obtain⟨z0,z1,z2,z3,z4,z5,z6⟩:=Z5.out;cases f2 with
  |false=>
   have G2:=zV7 (show g=false by rw[OP.out];rfl);clear OP;go_wp2_with fail;go_ret;exact⟨Gr.zAD G2.out,B5.out⟩
  |true=>
   have D1:=zV7 (zEW w5 S5.out 0 (by decide) rfl (fun j _=>Nat.zero_le _) P.rows aX cX (fun w1 b=>DX.out w1 (B5.out.trans (b.mono (Nat.le_succ _)))) hxl CX.out);unfold zR1 at D1
   by_cases hn:P.rows.Nodup
   ·have hd:=decide_eq_true hn;rw[hd]at D1 OP;have HN:=zV7 hn;clear hd hn;go_wp2_with fail;refine D1.out.mono ?_;rintro e w6 ⟨rfl,hs6,hb6⟩;obtain⟨v',vs',hs6'⟩:=hs6 HN.out;have S6:=zV7 hs6';have B6:=zV7 (B5.out.trans (hb6.mono (Nat.le_succ _)));have Z6:=zV7 (zTU Z5.out hb6);have D2:=zV7 (zEW w6 hs6' 1 (by decide) rfl (fun j hj=>by unfold upd;split;exact hxl;exact Nat.zero_le _) P.gows aH cH (fun w1 b=>DH.out w1 (B6.out.trans (b.mono (Nat.le_succ _)))) hhl CH.out);unfold zR1 at D2;have G2:=zV7 (show g=decide P.gows.Nodup by rw[OP.out];rfl);clear hs6 hs6' hb6 z0 z1 z2 z3 z4 z5 z6 OP D1 HN;generalize decide P.gows.Nodup=gn at*;obtain⟨z0,z1,z2,z3,z4,z5,z6⟩:=Z6.out;go_wp2_with fail;refine D2.out.mono ?_;rintro e w7 ⟨rfl,_,hb7⟩;have B7:=zV7 (B6.out.trans (hb7.mono (Nat.le_succ _)));clear hb7;go_wp2_with fail;go_ret;exact⟨Gr.zAD G2.out,B7.out⟩
   ·have hd:=decide_eq_false hn;rw[hd]at D1 OP;have G2:=zV7 (show g=false by rw[OP.out];rfl);clear OP hd hn;go_wp2_with fail;refine D1.out.mono ?_;rintro e w6 ⟨rfl,_,hb6⟩;have B6:=zV7 (B5.out.trans (hb6.mono (Nat.le_succ _)));clear hb6;go_wp2_with fail;go_ret;exact⟨Gr.zAD G2.out,B6.out⟩
theorem zC9(P:Pd)(aR:Option Addr)(cR:Nat)(aW:Option Addr)(cW:Nat)(aX:Option Addr)(cX:Nat)(aG:Option Addr)(cG:Nat)(aH:Option Addr)(cH:Nat)(w:World)(D:PAt P aR cR aW cW aX cX aG cG aH cH w)(S:PSm P):
  Calls Tryz.prog 12 #[.agg (pvs P aR cR aW cW aX cX aG cG aH cH)] w (Gr.Is (.bool (zCM P)) w):=by
 have B1:=zV7 (boxed w (.cells (pvs P aR cR aW cW aX cX aG cG aH cH) 32));have Z1:=zV7 (zAr (P:=P) (aR:=aR) (cR:=cR) (aW:=aW) (cW:=cW) (aX:=aX) (cX:=cX) (aG:=aG) (cG:=cG) (aH:=aH) (cH:=cH) w 32);have R1:=zV7 (fun(h0:0<P.rules.length) (ht:0<=P.terms) w1 (b:Below w.heap.size w w1)=>zFe P aR cR aW cW aX cX aG cG aH cH w1 (D.went b) h0 ht);have R2:=zV7 (fun w1 (b:Below w.heap.size w w1)=>zFc P aR cR aW cW aX cX aG cG aH cH w1 (D.went b) S);have R3:=zV7 (fun w1 (b:Below w.heap.size w w1)=>zFd P aR cR aW cW aX cX aG cG aH cH w1 (D.went b) S);have RB:=zV7 (show zCM P=(zLL P&&(zFi P&&(zDM P&&zDt P)))from rfl);have hrl:=S.rl;have hwl:=S.wl;have hgl:=S.gl;generalize zCM P=g at*;clear D S;obtain⟨z0,z1,z2,z3,z4,z5,z6⟩:=Z1.out;have HD:=zV7 (fun(h:¬(0<P.row.length/\P.row.length<=16383/\P.gow.length=P.row.length/\0<P.rules.length/\P.rules.length<=16383/\0<=P.terms/\0<=P.nons))=>(show g=false by rw[RB.out,show zLL P=false from decide_eq_false h];rfl))
 by_cases h1:P.row.length=0
 ·have F2:=zV7 (HD.out (by omega));have g0:((P.row.length:Int)==0)=true:=by rw[beq_iff_eq];omega
  clear h1;unfold pvs at*;go_enter Tryz.func12,Tryz.ntmps12;go_wp2_with fail;go_ret;exact⟨Gr.zAD F2.out,B1.out⟩
 have g0:((P.row.length:Int)==0)=false:=by rw[beq_eq_false_iff_ne];omega
 by_cases h2:16383<P.row.length
 ·have F2:=zV7 (HD.out (by omega));have h2':(16383:Int)<(P.row.length:Int):=by omega
  unfold pvs at*;go_enter Tryz.func12,Tryz.ntmps12;go_wp2_with fail;go_ret;exact⟨Gr.zAD F2.out,B1.out⟩
 have h2':¬(16383:Int)<(P.row.length:Int):=by omega
 by_cases h3:P.gow.length=P.row.length
 rotate_left
 ·have F2:=zV7 (HD.out (by omega));have g2:((P.gow.length:Int) != (P.row.length:Int))=true:=by rw[bne_iff_ne];omega
  clear h3;unfold pvs at*;go_enter Tryz.func12,Tryz.ntmps12;go_wp2_with fail;go_ret;exact⟨Gr.zAD F2.out,B1.out⟩
 have g2:((P.gow.length:Int) != (P.row.length:Int))=false:=by rw[h3];simp
 have H3:=zV7 h3;clear h3
 by_cases h4:P.rules.length=0
 ·have F2:=zV7 (HD.out (by omega));have g4:((P.rules.length:Int)==0)=true:=by rw[beq_iff_eq];omega
  clear h4;unfold pvs at*;go_enter Tryz.func12,Tryz.ntmps12;go_wp2_with fail;go_ret;exact⟨Gr.zAD F2.out,B1.out⟩
 have g4:((P.rules.length:Int)==0)=false:=by rw[beq_eq_false_iff_ne];omega
 by_cases h5:16383<P.rules.length
 ·have F2:=zV7 (HD.out (by omega));have h5':(16383:Int)<(P.rules.length:Int):=by omega
  unfold pvs at*;go_enter Tryz.func12,Tryz.ntmps12;go_wp2_with fail;go_ret;exact⟨Gr.zAD F2.out,B1.out⟩
 have h5':¬(16383:Int)<(P.rules.length:Int):=by omega
 by_cases h6:P.terms<0
 ·have F2:=zV7 (HD.out (by omega));unfold pvs at*;go_enter Tryz.func12,Tryz.ntmps12;go_wp2_with fail;go_ret;exact⟨Gr.zAD F2.out,B1.out⟩
 by_cases h7:P.nons<0
 ·have F2:=zV7 (HD.out (by omega));unfold pvs at*;go_enter Tryz.func12,Tryz.ntmps12;go_wp2_with fail;go_ret;exact⟨Gr.zAD F2.out,B1.out⟩
 have RR:=zV7 (R1.out (by omega) (by omega));have RC:=zV7 (show g=(zFi P&&(zDM P&&zDt P))by rw[RB.out,show zLL P=true from decide_eq_true ⟨by omega,by omega,H3.out,by omega,by omega,by omega,by omega⟩];rfl);generalize zFi P=ga at*;generalize zDM P=gg at*;generalize zDt P=gr at*;clear RB HD R1;unfold pvs at*;go_enter Tryz.func12,Tryz.ntmps12;go_wp2_with fail;generalize w.alloc (.cells #[.slice aR P.rules.length cR,.int .i64 P.terms,.int .i64 P.nons,.slice aW P.row.length cW,.slice aX P.rows.length cX,.slice aG P.gow.length cG,.slice aH P.gows.length cH] 32)=w2 at*;refine(RR.out _ B1.out).mono ?_;rintro e w3 ⟨rfl,hb3⟩;have B3:=zV7 (Gr.step B1.out hb3);have Z3:=zV7 (Z1.out.went hb3);clear z0 z1 z2 z3 z4 z5 z6 hb3 Z1 B1 RR;obtain⟨z0,z1,z2,z3,z4,z5,z6⟩:=Z3.out;cases ga with
 |false=>
  have F2:=zV7 (show g=false by rw[RC.out];rfl);go_wp2_with fail;go_ret;exact⟨Gr.zAD F2.out,B3.out⟩
 |true=>
  go_wp2_with fail;refine(R2.out _ B3.out).mono ?_;rintro e w4 ⟨rfl,hb4⟩;have B4:=zV7 (Gr.step B3.out hb4);have Z4:=zV7 (Z3.out.went hb4);clear z0 z1 z2 z3 z4 z5 z6 hb4 Z3 B3 R2;obtain⟨z0,z1,z2,z3,z4,z5,z6⟩:=Z4.out;cases gg with
  |false=>
   have F2:=zV7 (show g=false by rw[RC.out];rfl);go_wp2_with fail;go_ret;exact⟨Gr.zAD F2.out,B4.out⟩
  |true=>
   go_wp2_with fail;refine(R3.out _ B4.out).mono ?_;rintro e w5 ⟨rfl,hb5⟩;have B5:=zV7 (Gr.step B4.out hb5);have F2:=zV7 (show g=gr by rw[RC.out];rfl);clear hb5;go_wp2;go_ret;exact⟨Gr.zAD F2.out,B5.out⟩
end Pk
namespace Pk
open Gr (cell_later boxed drawn)
open Go.Proofs.YtegeamggbglneaaGreatDoor.Sep (Fr)
open Im (ic)
theorem zDV:(Tryz.prog.info? 53).map (fun i=>(i.zero,i.size,i.bytes))=some (some (.slice none 0 0),1,24):=by kernel_rfl
theorem zDW:(Tryz.prog.info? 29).map (fun i=>(i.zero,i.size,i.bytes))=some (some (.slice none 0 0),1,24):=by kernel_rfl
theorem zEQ(P:Pd)(aR:Option Addr)(cR:Nat)(aW:Option Addr)(cW:Nat)(aX:Option Addr)(cX:Nat)(aG:Option Addr)(cG:Nat)(aH:Option Addr)(cH:Nat)(w:World)(D:PAt P aR cR aW cW aX cX aG cG aH cH w)(S:PSm P)(hm:zCM P=true):
  Calls Tryz.prog 14 #[.agg (pvs P aR cR aW cW aX cX aG cG aH cH)] w (zHV P w):=by
 have HM:=zV7 hm;have SS:=zV7 S;have FF:=zV7 D.fit;have hpo:unO P=unP P:=if_pos hm
 have YES:=zV7 (fun(w':World) aR cR aA cA aG cG (hb:Below w.heap.size w w') (hp:TAt (unP P) aR cR aA cA aG cG w')=>(show zHV P w (.returned (.agg (tvs (unP P) aR cR aA cA aG cG))) w' from by
  rw[zHV,hpo]
  exact⟨aR,cR,aA,cA,aG,cG,rfl,hp,hb⟩))
 have RI:=zV7 (fun w1 (b:Below w.heap.size w w1)=>zC9 P aR cR aW cW aX cX aG cG aH cH w1 (D.went b) S);rw[hm]at RI;have CO:=zV7 (fun w1 (b:Below w.heap.size w w1)=>zGH P.rules aR cR w1 (D.went b).rules S.rl);have DD:=zV7 (fun w1 (b:Below w.heap.size w w1)=>D.went b);have b1:=boxed w (.cells (pvs P aR cR aW cW aX cX aG cG aH cH) 32);have b2:=boxed (w.alloc (.cells (pvs P aR cR aW cW aX cX aG cG aH cH) 32)) (.cells nil5 26);have B2:=zV7 (Gr.step b1 b2);have Z2:=zV7 ((zAr (P:=P) (aR:=aR) (cR:=cR) (aW:=aW) (cW:=cW) (aX:=aX) (cX:=cX) (aG:=aG) (cG:=cG) (aH:=aH) (cH:=cH) w 32).went b2);have Y2:=zV7 (zAd (w.alloc (.cells (pvs P aR cR aW cW aX cX aG cG aH cH) 32)) (.cells nil5 26));rw[World.size_alloc]at Y2;have hwl:=(zRT hm).wl;have hrl:=(zRT hm).rl;have UP:=zV7 (zRT hm);have hxl:=S.wsl;have hhl:=S.gsl;clear b1 b2 D S hm hpo;unfold pvs nil5 at*;obtain⟨z0,z1,z2,z3,z4,z5,z6⟩:=Z2.out;go_enter Tryz.func14,Tryz.ntmps14;go_wp2_with fail;generalize (w.alloc (.cells #[.slice aR P.rules.length cR,.int .i64 P.terms,.int .i64 P.nons,.slice aW P.row.length cW,.slice aX P.rows.length cX,.slice aG P.gow.length cG,.slice aH P.gows.length cH] 32)).alloc (.cells #[.slice none 0 0,.int .i64 0,.int .i64 0,.slice none 0 0,.slice none 0 0] 26)=w2 at*;refine(RI.out _ B2.out).mono ?_;rintro e w3 ⟨rfl,hb3⟩;have B3:=zV7 (Gr.step B2.out hb3);have Y3:=zV7 ((hb3.block _ (Array.getElem?_eq_some_iff.1 Y2.out).1).trans Y2.out);have Z3:=zV7 (Z2.out.went hb3);clear z0 z1 z2 z3 z4 z5 z6 hb3 Y2 Z2 B2 RI;obtain⟨z0,z1,z2,z3,z4,z5,z6⟩:=Z3.out;go_wp2_with fail
 have HQ:=zV7 (show∀w',Below w3.heap.size w3 w'->w'.cell? ⟨w.heap.size,0,none⟩=some (.slice aR P.rules.length cR)/\w'.cell? ⟨w.heap.size,1,none⟩=some (.int .i64 P.terms)/\w'.cell? ⟨w.heap.size,2,none⟩=some (.int .i64 P.nons)/\Below w3.heap.size w3 w' from
  fun w' b=>⟨cell_later b z0,cell_later b z1,cell_later b z2,b⟩)
 have hbd:=drawn w3;go_cut [3]from 17 (fun v wx=>∃(p b:Nat),v=.pointer (some ⟨p,0,none⟩)/\UnB P w3 b p wx)
 case first=>
  go_region_held3 (fun w'=>w'.cell? ⟨w.heap.size,0,none⟩=some (.slice aR P.rules.length cR)/\w'.cell? ⟨w.heap.size,1,none⟩=some (.int .i64 P.terms)/\w'.cell? ⟨w.heap.size,2,none⟩=some (.int .i64 P.nons)/\Below w3.heap.size w3 w')
   (exact HQ.out _ (by with_reducible first|assumption|exact zC4 _ _|exact zCC (by assumption) (Nat.le_refl _) _ _ _ _ _|exact Gr.step (by assumption) (boxed _ _)))
   (first
    | (go_at_call 27;((with_reducible refine(CO.out _ (Gr.step B3.out (by with_reducible first|assumption|exact zC4 _ _|exact Gr.step (by assumption) (boxed _ _)))).mono ?_));rintro e we ⟨b,rfl,hru,hbe⟩;have kE:Below w3.heap.size w3 we:=Gr.step (by with_reducible first|assumption|exact zC4 _ _|exact Gr.step (by assumption) (boxed _ _)) hbe;have RE:=zV7 hru;have BE:=zV7 hbe;clear hru hbe;first
     |((with_reducible have KB:=zV7 (kept_alloc BE.out));have y0:=zAA KB.out (k:=0) (by simp);have y1:=zAA KB.out (k:=1) (by simp);have y2:=zAA KB.out (k:=2) (by simp);have y3:=zAA KB.out (k:=3) (by simp);have y4:=zAA KB.out (k:=4) (by simp);have f0:=zAM (k:=0) KB.out;have f1:=zAM (k:=1) KB.out;have f2:=zAM (k:=2) KB.out;have f3:=zAM (k:=3) KB.out;have f4:=zAM (k:=4) KB.out)
     |skip)
    |fail)
  ·have OB:=zV7 (show UnB P w3 b we.heap.size _ from UnB.after kE (Nat.le_refl _) RE.out);go_wp2_with fail;go_meet
   case rel=>exact⟨_,_,rfl,OB.out⟩
  ·have OB:=zV7 (show UnB P w3 b w3.heap.size _ from UnB.ahead kE (by change w3.heap.size<(w3.alloc _).heap.size;rw[World.size_alloc];exact Nat.lt_succ_self _) KB.out RE.out);go_wp2_with fail;go_meet
   case rel=>exact⟨_,_,rfl,OB.out⟩
 case rest=>
  obtain⟨p,b,rfl,hOB⟩:=hcut;have OB:=zV7 hOB;clear hOB CO HQ;generalize wc=w5 at*
  have TW:=zV7 (fun(w':World) (f:Fr (fun x=>x=p) w5 w')=>(show Below w3.heap.size w3 w' from by
   have hlo:=OB.out.lo
   exact OB.out.below.trans (f.below (fun x hx=>by omega) OB.out.below.size)))
  have ZW:=zV7 (fun(w':World) (f:Fr (fun x=>x=p) w5 w')=>Z3.out.went (TW.out w' f));have DW:=zV7 (fun(w':World) (f:Fr (fun x=>x=p) w5 w')=>DD.out w' (Gr.step B3.out (TW.out w' f)));have YW:=zV7 (fun(w':World) (f:Fr (fun x=>x=p) w5 w')=>((TW.out w' f).block _ (Array.getElem?_eq_some_iff.1 Y3.out).1).trans Y3.out);obtain⟨z0,z1,z2,z3,z4,z5,z6⟩:=ZW.out w5 (.refl _ _);have I0:=zV7 OB.out.start;have HGA:=zV7 UP.out.ga;clear DD Z3;go_wp2_with fail;clear z0 z1 z2 z3 z4 z5 z6;go_loopw [20] (fun x wr=>∃(k:Nat) (vA vG:Value),x=.int .i64 (k:Int)/\k<=P.row.length/\UnI w5 p (.slice (some ⟨b,0,none⟩) P.rules.length P.rules.length) (.int .i64 P.terms) (.int .i64 P.nons) (AX P k) (GX P k) vA vG wr) (fun x _=>P.row.length-(intOf x).toNat)
  case atStart=>exact⟨0,_,_,rfl,Nat.zero_le _,I0.out⟩
  case round=>
   obtain⟨k,vA,vG,rfl,hk,hI⟩:=hrel;have I:=zV7 hI;clear hI I0
   by_cases hlt:k<P.row.length
   ·have hkl:(k:Int)<(P.row.length:Int):=by omega
    have hkg2:k<P.gow.length:=by rw[HGA.out];exact hlt
    have hkg:(k:Int)<(P.gow.length:Int):=by omega
    obtain⟨ia,hja,ya0,ya1,ya2⟩:=info_parts zDV;obtain⟨ig,hjg,yg0,yg1,yg2⟩:=info_parts zDW;have fr0:=I.out.fr;obtain⟨z0,z1,z2,z3,z4,z5,z6⟩:=ZW.out wr fr0;have dw:=DW.out wr fr0
    obtain⟨j,hj1,hj2⟩:∃j:Nat,P.row[k]=(j:Int)/\j<P.rows.length:=by
     have:=UP.out.row _ (List.getElem_mem hlt);exact⟨P.row[k].toNat,by omega,by omega⟩
    obtain⟨bw,ow,rfl,p0⟩:=dw.row.at hlt;rw[hj1]at p0;obtain⟨bx,ox,ra,rca,rfl,p1,hra,_,_⟩:=dw.rows j hj2;have EA:=zV7 (zIx P.rows[j] ra rca wr.drew (hra.went (drawn wr)) (SS.out.wr _ (List.getElem_mem hj2)) (FF.out.rows _ (List.getElem_mem hj2)));have AXe:=zV7 (zR0 hlt hj1 hj2);have hjl:(j:Int)<(P.rows.length:Int):=by omega
    generalize P.rows[j]=rowA at*;generalize (rowA.map zAb).flatMap ic=cs at*;have la:=zT7 (P:=P) (k:=k) (by omega);obtain⟨aA,cA,eA⟩:=I.out.A.shape;rw[la]at eA
    have c3:wr.cell? ⟨p,3,none⟩=some (.slice aA k cA):=by
     have:=zAA I.out.box (k:=3) (by simp);rw[←eA];exact this
    have S1:=zV7 (fun(wa:World) (b1:Nat) (hlo:wr.drew.heap.size<=b1) (hh:wa.heap[b1]?=some (.cells cs.toArray 57 (0,0))) (hb:Below wr.drew.heap.size wr.drew wa)=>
     (show wa.cell? ⟨p,3,none⟩=some (.slice aA k cA)/\(wa.alloc (.cells #[.slice (some ⟨b1,0,none⟩) rowA.length rowA.length] 53)).cell? ⟨p,3,none⟩=some (.slice aA k cA)/\w5.heap.size<=(wa.alloc (.cells #[.slice (some ⟨b1,0,none⟩) rowA.length rowA.length] 53)).heap.size/\
      (wa.alloc (.cells #[.slice (some ⟨b1,0,none⟩) rowA.length rowA.length] 53)).ownsRow w5.heap.size 53 1 (.slice (some ⟨wa.heap.size,0,none⟩) 1 1) 1 [.slice (some ⟨b1,0,none⟩) rowA.length rowA.length]/\
      ∃vs,(wa.alloc (.cells #[.slice (some ⟨b1,0,none⟩) rowA.length rowA.length] 53)).ownsRow w5.heap.size 53 1 (.slice aA k cA) k vs/\
       ∀v7 w7,w7.ownsRow w5.heap.size 53 1 v7 (k+1) (vs++[.slice (some ⟨b1,0,none⟩) rowA.length rowA.length])->(wa.alloc (.cells #[.slice (some ⟨b1,0,none⟩) rowA.length rowA.length] 53)).grownBy w7 (Value.slice aA k cA).ownBlock->
        w7.cell? ⟨p,3,none⟩=some (.slice aA k cA)/\w7.frozen? ⟨p,3,none⟩=false/\UnI w5 p (.slice (some ⟨b,0,none⟩) P.rules.length P.rules.length) (.int .i64 P.terms) (.int .i64 P.nons) (AX P (k+1)) (GX P k) v7 vG (w7.setCell ⟨p,3,none⟩ v7)from by
      have hbb:=boxed wa (.cells #[.slice (some ⟨b1,0,none⟩) rowA.length rowA.length] 53);have hba:=Gr.step (drawn wr) hb;have IL:=(I.out.went hba).went hbb;have c3':=cell_later hba c3;obtain⟨vs,v1,v2⟩:=IL.A;refine⟨c3',cell_later hbb c3',IL.fr.size,zCr _ wa _ _ (Nat.le_trans I.out.fr.size hba.size) _ rfl,vs,by rw[←eA];rw[la]at v1;exact v1,fun v7 w7 hown hg=>?_⟩;rw[←eA]at hg;have hm:=IL.midA hg;have cm:=zAA hm (k:=3) (by simp);refine⟨by rw[←eA];exact cm,zAM hm,?_⟩;rw[AXe.out]
      exact IL.nextA (hbb.block _ (Array.getElem?_eq_some_iff.1 hh).1 |>.trans hh) (Nat.le_trans I.out.fr.size hlo) ⟨v1,v2⟩ (by rw[la];exact hown) hg))
    clear fr0 dw hra hj1;go_wp2_with fail;go_cut []from 21 to 53 (fun wx=>∃vA',UnI w5 p (.slice (some ⟨b,0,none⟩) P.rules.length P.rules.length) (.int .i64 P.terms) (.int .i64 P.nons) (AX P (k+1)) (GX P k) vA' vG wx)
    case first=>
     go_region_law (first
      |(go_simp;go_at_call 42;(with_reducible refine(EA.out).mono ?_);rintro e wa ⟨b1,rfl,hlo1,hh1,hb1⟩;obtain⟨c33,c34,s3,o3',vs,r3',fin⟩:=S1.out wa b1 hlo1 hh1 hb1;have O3:=zV7 o3';have R3:=zV7 r3';have FIN:=zV7 fin;clear hlo1 hh1 hb1 o3' r3' fin)
      | (refine Rw.zAH _ (by rfl) _ _ 23 (by rfl) w5.heap.size 53 ia (.slice none 0 0) 1 24 Tryz.underlying23 hja ya0 ya1 ya2 rfl (by decide) (.slice aA k cA) k _ (by rfl) R3.out w5.heap.size (.slice (some ⟨wa.heap.size,0,none⟩) 1 1) 1 [.slice (some ⟨b1,0,none⟩) rowA.length rowA.length] (by rfl) O3.out (by simp[Value.oneCell']) (by unfold maxLen;omega) (by omega) s3 ?_;intro v7 w7 hown7 hg7 hloc7;obtain⟨a7,c7,rfl⟩:=Rw.zAG hown7;obtain⟨q9,f9,x7⟩:=FIN.out _ w7 hown7 hg7;have R7:=zV7 x7;clear hown7 hg7 hloc7 x7))
     all_goals
      go_wp2_with fail;go_meet
      case rel=>exact⟨_,R7.out⟩
    case rest=>
     clear EA AXe S1 c3 eA p0 p1 la I z0 z1 z2 z3 z4 z5 z6 hj2 hjl;obtain⟨vA,hI⟩:=hcut;have I:=zV7 hI;clear hI;generalize wc=wr at*;have fr0:=I.out.fr;obtain⟨z0,z1,z2,z3,z4,z5,z6⟩:=ZW.out wr fr0;have dw:=DW.out wr fr0
     obtain⟨j,hj1,hj2⟩:∃j:Nat,P.gow[k]=(j:Int)/\j<P.gows.length:=by
      have:=UP.out.gow _ (List.getElem_mem hkg2);exact⟨P.gow[k].toNat,by omega,by omega⟩
     obtain⟨bw2,ow2,rfl,p0⟩:=dw.gow.at hkg2;rw[hj1]at p0;obtain⟨bx2,ox2,ra2,rca2,rfl,p1,hra,_,_⟩:=dw.gows j hj2;have EG:=zV7 (zIy P.gows[j] ra2 rca2 wr.drew (hra.went (drawn wr)) (SS.out.gr _ (List.getElem_mem hj2)) (FF.out.gows _ (List.getElem_mem hj2)));have GXe:=zV7 (zR2 hkg2 hj1 hj2);have hjl:(j:Int)<(P.gows.length:Int):=by omega
     generalize P.gows[j]=rowG at*;generalize (rowG.map fun x=>Value.int .i64 (toOf x))=cs2 at*;have lg:=zUA (P:=P) (k:=k) (by omega);obtain⟨aA2,cA2,eG⟩:=I.out.G.shape;rw[lg]at eG
     have c4:wr.cell? ⟨p,4,none⟩=some (.slice aA2 k cA2):=by
      have:=zAA I.out.box (k:=4) (by simp);rw[←eG];exact this
     have S1:=zV7 (fun(wa:World) (b1:Nat) (hlo:wr.drew.heap.size<=b1) (hh:wa.heap[b1]?=some (.cells cs2.toArray 3 (0,0))) (hb:Below wr.drew.heap.size wr.drew wa)=>
      (show wa.cell? ⟨p,4,none⟩=some (.slice aA2 k cA2)/\(wa.alloc (.cells #[.slice (some ⟨b1,0,none⟩) rowG.length rowG.length] 29)).cell? ⟨p,4,none⟩=some (.slice aA2 k cA2)/\w5.heap.size<=(wa.alloc (.cells #[.slice (some ⟨b1,0,none⟩) rowG.length rowG.length] 29)).heap.size/\
       (wa.alloc (.cells #[.slice (some ⟨b1,0,none⟩) rowG.length rowG.length] 29)).ownsRow w5.heap.size 29 1 (.slice (some ⟨wa.heap.size,0,none⟩) 1 1) 1 [.slice (some ⟨b1,0,none⟩) rowG.length rowG.length]/\
       ∃vs,(wa.alloc (.cells #[.slice (some ⟨b1,0,none⟩) rowG.length rowG.length] 29)).ownsRow w5.heap.size 29 1 (.slice aA2 k cA2) k vs/\
        ∀v7 w7,w7.ownsRow w5.heap.size 29 1 v7 (k+1) (vs++[.slice (some ⟨b1,0,none⟩) rowG.length rowG.length])->(wa.alloc (.cells #[.slice (some ⟨b1,0,none⟩) rowG.length rowG.length] 29)).grownBy w7 (Value.slice aA2 k cA2).ownBlock->
         w7.cell? ⟨p,4,none⟩=some (.slice aA2 k cA2)/\w7.frozen? ⟨p,4,none⟩=false/\UnI w5 p (.slice (some ⟨b,0,none⟩) P.rules.length P.rules.length) (.int .i64 P.terms) (.int .i64 P.nons) (AX P (k+1)) (GX P (k+1)) vA v7 (w7.setCell ⟨p,4,none⟩ v7)from by
       have hbb:=boxed wa (.cells #[.slice (some ⟨b1,0,none⟩) rowG.length rowG.length] 29);have hba:=Gr.step (drawn wr) hb;have IL:=(I.out.went hba).went hbb;have c4':=cell_later hba c4;obtain⟨vs,v1,v2⟩:=IL.G;refine⟨c4',cell_later hbb c4',IL.fr.size,zCr _ wa _ _ (Nat.le_trans I.out.fr.size hba.size) _ rfl,vs,by rw[←eG];rw[lg]at v1;exact v1,fun v7 w7 hown hg=>?_⟩;rw[←eG]at hg;have hm:=IL.midG hg;have cm:=zAA hm (k:=4) (by simp);refine⟨by rw[←eG];exact cm,zAM hm,?_⟩;rw[GXe.out]
       exact IL.nextG (hbb.block _ (Array.getElem?_eq_some_iff.1 hh).1 |>.trans hh) (Nat.le_trans I.out.fr.size hlo) ⟨v1,v2⟩ (by rw[lg];exact hown) hg))
     clear fr0 dw hra hj1;go_wp2_with fail
     go_region_law (first
      |(go_simp;go_at_call 44;(with_reducible refine(EG.out).mono ?_);rintro e wa ⟨b1,rfl,hlo1,hh1,hb1⟩;obtain⟨c43,c44,s3,o3',vs,r3',fin⟩:=S1.out wa b1 hlo1 hh1 hb1;have O3:=zV7 o3';have R3:=zV7 r3';have FIN:=zV7 fin;clear hlo1 hh1 hb1 o3' r3' fin)
      | (refine Rw.zAH _ (by rfl) _ _ 24 (by rfl) w5.heap.size 29 ig (.slice none 0 0) 1 24 Tryz.underlying24 hjg yg0 yg1 yg2 rfl (by decide) (.slice aA2 k cA2) k _ (by rfl) R3.out w5.heap.size (.slice (some ⟨wa.heap.size,0,none⟩) 1 1) 1 [.slice (some ⟨b1,0,none⟩) rowG.length rowG.length] (by rfl) O3.out (by simp[Value.oneCell']) (by unfold maxLen;omega) (by omega) s3 ?_;intro v7 w7 hown7 hg7 hloc7;obtain⟨a7,c7,rfl⟩:=Rw.zAG hown7;obtain⟨q9,f9,x7⟩:=FIN.out _ w7 hown7 hg7;have R7:=zV7 x7;clear hown7 hg7 hloc7 x7))
     all_goals
      clear S1 EG GXe I c4 eG p0 p1 lg;go_wp2_with fail;go_roundw
      case rel=>exact⟨k+1,_,_,by go_num,by omega,R7.out⟩
      case measure=>first|(simp[intOf];omega)|omega
   ·obtain rfl:k=P.row.length:=by omega
    obtain⟨aA,cA,eA⟩:=I.out.A.shape;obtain⟨aG',cG',eG⟩:=I.out.G.shape;have hbx:=I.out.box;rw[eA,eG]at hbx;have HI2:=I.out;rw[eA,eG]at HI2;have HI2:=zV7 HI2;have DN:=zV7 (fun(w':World) (hw:Fr (fun x=>x=p\/x<w3.heap.size) wr w')=>zT0 HM.out SS.out FF.out OB.out HI2.out hw);have Y:=YW.out wr I.out.fr;have t0:=zAA hbx (k:=0) (by simp);have t1:=zAA hbx (k:=1) (by simp);have t2:=zAA hbx (k:=2) (by simp);have t3:=zAA hbx (k:=3) (by simp);have t4:=zAA hbx (k:=4) (by simp);have y0:=zAA Y (k:=0) (by simp);have y1:=zAA Y (k:=1) (by simp);have y2:=zAA Y (k:=2) (by simp);have y3:=zAA Y (k:=3) (by simp);have y4:=zAA Y (k:=4) (by simp);have f0:=zAM (k:=0) Y;have f1:=zAM (k:=1) Y;have f2:=zAM (k:=2) Y;have f3:=zAM (k:=3) Y;have f4:=zAM (k:=4) Y;simp only[List.getElem_toArray,List.getElem_cons_zero,List.getElem_cons_succ]at t0 t1 t2 t3 t4 y0 y1 y2 y3 y4;have hs3:w.heap.size+1<w3.heap.size:=(Array.getElem?_eq_some_iff.1 Y3.out).1;have BR:=zV7 (Gr.step B3.out (TW.out wr I.out.fr));clear eA eG hbx;generalize (AX P P.row.length).length=la at*;generalize (GX P P.row.length).length=lg at*;have EE:=zV7 (zLt Y (.slice (some ⟨b,0,none⟩) P.rules.length P.rules.length) (.int .i64 P.terms) (.int .i64 P.nons) (.slice aA la cA) (.slice aG' lg cG'));have BF:=zV7 (show Below w.heap.size w (set5 wr (w.heap.size+1) (.slice (some ⟨b,0,none⟩) P.rules.length P.rules.length) (.int .i64 P.terms) (.int .i64 P.nons) (.slice aA la cA) (.slice aG' lg cG'))from zCC BR.out (Nat.le_succ w.heap.size) _ _ _ _ _);have DF:=zV7 (DN.out (set5 wr (w.heap.size+1) (.slice (some ⟨b,0,none⟩) P.rules.length P.rules.length) (.int .i64 P.terms) (.int .i64 P.nons) (.slice aA la cA) (.slice aG' lg cG')) ((zEM wr (w.heap.size+1) (.slice (some ⟨b,0,none⟩) P.rules.length P.rules.length) (.int .i64 P.terms) (.int .i64 P.nons) (.slice aA la cA) (.slice aG' lg cG')).mono (T:=fun x=>x=p\/x<w3.heap.size) fun x hx=> .inr (by omega)));clear Y DN;go_wp2_with fail;change bodyPost _ _ _ _ _ (set5 wr (w.heap.size+1) (.slice (some ⟨b,0,none⟩) P.rules.length P.rules.length) (.int .i64 P.terms) (.int .i64 P.nons) (.slice aA la cA) (.slice aG' lg cG'));obtain⟨e0,e1,e2,e3,e4⟩:=EE.out;generalize set5 wr (w.heap.size+1) (.slice (some ⟨b,0,none⟩) P.rules.length P.rules.length) (.int .i64 P.terms) (.int .i64 P.nons) (.slice aA la cA) (.slice aG' lg cG')=wF at*;obtain⟨d0,d1,dP⟩:=DF.out;have YF:=YES.out wF _ _ _ _ _ _ BF.out dP;unfold tvs at YF;rw[←d0,←d1]at YF;have YF:=zV7 YF;clear d0 d1 dP;refine bodyPost_ret (v:=.agg #[.slice (some ⟨b,0,none⟩) P.rules.length P.rules.length,.int .i64 P.terms,.int .i64 P.nons,.slice aA la cA,.slice aG' lg cG']) (by simp[results,Tryz.results14,go_sem,e0,e1,e2,e3,e4]) rfl YF.out
