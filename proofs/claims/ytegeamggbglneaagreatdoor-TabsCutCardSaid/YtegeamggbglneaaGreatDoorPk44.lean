/- Proof. -/
import Derived.Test.YtegeamggbglneaaGreatDoorPk36
import Derived.Test.YtegeamggbglneaaGreatDoorPk33
import Derived.Laws.CopyRow
import Derived.Lib.AppendZerosOnto
import Derived.Lib.Overlaps
import Derived.Shelf.Spec.SlicesInsert
set_option maxHeartbeats 8000000
set_option maxRecDepth 100000
set_option linter.unusedVariables false
namespace Go.Proofs.YtegeamggbglneaaGreatDoor
namespace Lk
open Go.RowKit Go.Maps
open Gr (ai checkN)
open Im
open Au
theorem Ym(G)(ks)(c):∀n:Nat,((jS G ks c n).map Prod.fst).Pairwise (· < ·)
 |0=>List.Pairwise.nil
 |n+1=>by
  rw[yo,List.map_append,List.pairwise_append];refine⟨Ym G ks c n,?_,fun a ha b hb=>?_⟩
  ·split
   ·exact List.Pairwise.nil
   ·exact List.pairwise_singleton _ _
  ·obtain⟨⟨s,t⟩,h1,rfl⟩:=List.mem_map.1 ha;obtain⟨m,hm,e,_⟩:=rA.1 h1;split at hb
   ·cases hb
   ·simp only[List.map_cons,List.map_nil,List.mem_singleton]at hb;rw[hb,e];omega
theorem zMB{G}{q}(D:Done G q){i}(hi:i<q.1.length):(jU q i).Nodup:=by
 unfold jU;rw[D.ok.trans i (by rw[D.all];exact hi)];exact(Ym _ _ _ _).imp fun h=>Int.ne_of_lt h
theorem Mn{G}{q}(D:Done G q)(hv:checkN G=0){i}(hi:i<q.1.length):(dZ G (bp q.1 i) (jU q i)).Nodup:=by
 unfold dZ;rw[List.nodup_append];refine⟨Vx (D.ok.good _ (ux hi)).2.1,?_,fun a ha b hb e=>?_⟩
 ·refine List.pairwise_flatMap.2 ⟨fun s hs=>?_,(zMB D hi).imp fun {s1 s2} hne x hx y hy e=>?_⟩
  ·refine List.pairwise_map.2 ((zLD G s _).imp fun {a b} hab e=>hab ?_);injection e with e
   omega
  ·obtain⟨k1,h1,rfl⟩:=List.mem_map.1 hx;obtain⟨k2,h2,rfl⟩:=List.mem_map.1 hy;injection e with e
   obtain rfl:k1=k2:=by omega
   exact hne ((rE.1 h1).2.symm.trans (rE.1 h2).2)
 ·obtain⟨s,hs,h2⟩:=List.mem_flatMap.1 hb;obtain⟨k,hk,rfl⟩:=List.mem_map.1 h2;subst e;obtain⟨m,_,rfl,_⟩:=(Hm D hi).1 hs;obtain⟨k1,k2⟩:=rE.1 hk
  by_cases h0:i=0
  ·subst h0;rw[D.ok.zero,List.mem_singleton]at ha;injection ha with ha
   rcases uw hv k1 with⟨e1,e2⟩|⟨e1,_⟩
   ·rw[e2]at k2;omega
   ·omega
  ·obtain⟨i',x,_,hc,_,_,e⟩:=UH D (by omega) hi ha;have:=(iD.1 (oF hc)).2.1;injection e with e1 e2
   omega
theorem TG:∀{a b:List Int},a.Pairwise (· < ·)->b.Pairwise (· < ·)->(∀x,x∈a↔x∈b)->a=b
 |[],[],_,_,_=>rfl
 |[],y::b,_,_,h=>absurd ((h y).2 (List.mem_cons_self ..)) (by simp)
 |x::a,[],_,_,h=>absurd ((h x).1 (List.mem_cons_self ..)) (by simp)
 |x::a,y::b,ha,hb,h=>by
  have ha':=List.pairwise_cons.1 ha;have hb':=List.pairwise_cons.1 hb
  have e:x=y:=by
   rcases List.mem_cons.1 ((h x).1 (List.mem_cons_self ..))with e|h1
   ·exact e
   ·rcases List.mem_cons.1 ((h y).2 (List.mem_cons_self ..))with e|h2
    ·exact e.symm
    ·have:=hb'.1 x h1;have:=ha'.1 y h2;omega
  subst e;refine congrArg _ (TG ha'.2 hb'.2 fun z=>⟨fun hz=>?_,fun hz=>?_⟩)
  ·rcases List.mem_cons.1 ((h z).1 (List.mem_cons_of_mem _ hz))with e|h1
   ·have:=ha'.1 z hz;omega
   ·exact h1
  ·rcases List.mem_cons.1 ((h z).2 (List.mem_cons_of_mem _ hz))with e|h1
   ·have:=hb'.1 z hz;omega
   ·exact h1
def iP(G:ai)(L:List au):List Int:=(L.filter fun x=> !aZ G x).map (·.1)
theorem UI(G)(L)(x):iP G (L++[x])=iP G L++(if aZ G x then[]else[x.1]):=by
 unfold iP;rw[List.filter_append,List.map_append]
 congr 1
 cases h:aZ G x<;>simp[h]
theorem zP4(G)(L):(iP G L).length<=L.length:=by
 unfold iP;rw[List.length_map];exact List.length_filter_le _ _
theorem zQu{G}{q}(D:Done G q)(hv:checkN G=0){i}(hi:i<q.1.length){z}:z∈iP G (dZ G (bp q.1 i) (jU q i))↔∃k:Nat,k<=G.rules.length/\z=(k:Int)/\cM G (bp q.1 i) (aV G k):=by
 unfold iP;rw[List.mem_map];constructor
 ·rintro⟨x,hx,rfl⟩;obtain⟨h1,h2⟩:=List.mem_filter.1 hx;have hc:=(yO D hv hi x).1 h1;obtain⟨k,hk,e⟩:=(Er hc).1 (by simpa using h2);exact⟨k,hk,by rw[e];rfl,e▸hc⟩
 ·rintro⟨k,hk,rfl,hc⟩;exact⟨aV G k,List.mem_filter.2 ⟨(yO D hv hi _).2 hc,by rw[(Er hc).2 ⟨k,hk,rfl⟩];rfl⟩,rfl⟩
theorem zLR{G}{q}(D:Done G q)(hv:checkN G=0){i}(hi:i<q.1.length):(iP G (dZ G (bp q.1 i) (jU q i))).Nodup:=by
 unfold iP;refine List.pairwise_map.2 ((List.Pairwise.filter _ (Mn D hv hi)).imp_of_mem fun {a b} ha hb hab e=>hab ?_);obtain⟨a1,a2⟩:=List.mem_filter.1 ha;obtain⟨b1,b2⟩:=List.mem_filter.1 hb;obtain⟨k,_,e1⟩:=(Er ((yO D hv hi a).1 a1)).1 (by simpa using a2);obtain⟨m,_,e2⟩:=(Er ((yO D hv hi b).1 b1)).1 (by simpa using b2);subst e1 e2;have:((k:Nat):Int)=(m:Int):=e;rw[show k=m by omega]
open Classical in
theorem zP5(G)(q)(i):((dL G q i).map fun y=>(y.1:Int)).Pairwise (· < ·):=by
 unfold dL;rw[List.map_map];refine List.pairwise_map.2 ((List.Pairwise.filter _ List.pairwise_lt_range).imp fun {a b} h=>?_);show((a:Nat):Int)<(b:Int);omega
open Classical in
theorem zI8{G}{q}(D:Done G q)(hv:checkN G=0){i}(hi:i<q.1.length){X Y:List gF}(hX:X.map (·.1)=iP G (dZ G (bp q.1 i) (jU q i)))(hp:Y.Perm X)(hs:Y.Pairwise (fun a b=>¬b.1<a.1)):
  Y.map (·.1)=(dL G q i).map fun y=>(y.1:Int):=by
 have hn:(Y.map (·.1)).Nodup:=by
  refine(hp.map _).nodup_iff.2 ?_;rw[hX];exact zLR D hv hi
 refine TG ?_ (zP5 G q i) fun z=>?_
 ·have h1:=List.pairwise_map.1 hn;refine List.pairwise_map.2 (hs.imp₂ (fun {a b} h1 h2=>?_) h1);have h2':a.1≠b.1:=h2;omega
 ·rw[(hp.map _).mem_iff,hX,zQu D hv hi];unfold dL;rw[List.map_map,List.mem_map];constructor
  ·rintro⟨k,h1,rfl,h2⟩;exact⟨k,List.mem_filter.2 ⟨List.mem_range.2 (by omega),decide_eq_true h2⟩,rfl⟩
  ·rintro⟨k,h1,rfl⟩;obtain⟨h2,h3⟩:=List.mem_filter.1 h1;exact⟨k,by have:=List.mem_range.1 h2;omega,rfl,of_decide_eq_true h3⟩
def E8(base:Nat)(x:gF)(Y:List Nat)(w:World):Prop:=w.ownsRow base 3 1 (fT x) Y.length (bD Y)
def fJ(base:Nat)(Y:List (Nat×List Nat))(v:Value)(w:World):Prop:=
 ∃X:List gF,dE base X v w/\X.map (·.1)=Y.map (fun y=>(y.1:Int))/\∀k (h:k<X.length) (h':k<Y.length),E8 base X[k] Y[k].2 w
structure dU (G:ai) (q:Whole) (i base:Nat) (L:List au) (X:List gF) (v:Value) (w:World):Prop where
 row:dE base X v w
 rules:X.map (·.1)=iP G L
 terms:∀x∈X,E8 base x (gj G q i (aV G x.1.toNat)) w
 off:∀x∈X,∀g,(fT x).ownBlock=some g->v.ownBlock≠some g
theorem dU.went{G}{q}{i base}{L}{X}{v}{w w'}(h:dU G q i base L X v w)(hb:Below w.heap.size w w'):dU G q i base L X v w':=
 ⟨Sep.bS h.row fun g hg=>hb.block g (World.ownsRow.lt h.row g hg).2,h.rules,fun x hx=>Sep.bS (h.terms x hx) fun g hg=>hb.block g (World.ownsRow.lt (h.terms x hx) g hg).2,h.off⟩
theorem dU.nil(G)(q)(i base)(w):dU G q i base [] [] (.slice none 0 0) w:=⟨World.ownsRow_nil _ _ _ _,rfl,(fun x hx=>by cases hx),(fun x hx=>by cases hx)⟩
theorem dU.skip{G}{q}{i base}{L}{X}{v}{w}(h:dU G q i base L X v w){x}(hx:aZ G x=true):dU G q i base (L++[x]) X v w:=
 ⟨h.row,by rw[UI,hx];simpa using h.rules,h.terms,h.off⟩
theorem dU.len{G}{q}{i base}{L}{X}{v}{w}(h:dU G q i base L X v w):X.length<=L.length:=by
 have:=congrArg List.length h.rules;rw[List.length_map]at this;rw[this];exact zP4 G L
theorem dU.snoc{G}{q}{i base}{L}{X}{v v'}{w w1 w2}(h:dU G q i base L X v w){k}(hk:aZ G (aV G k)=false){y}(hy:y.1=(k:Int))(hw:Below w.heap.size w w1)(hz:base<=w.heap.size)
  (hT:w1.ownsRow w.heap.size 3 1 (fT y) (gj G q i (aV G k)).length (bD (gj G q i (aV G k)))) (hown:w2.ownsRow base 186 2 v' (X.length+1) (X.flatMap lc++lc y)) (hg:w1.grownBy w2 v.ownBlock) (hv:v'.ownBlock=v.ownBlock\/∀g,v'.ownBlock=some g->w1.heap.size<=g):
  dU G q i base (L++[aV G k]) (X++[y]) v' w2:=by
 have hlt:=fun g (e:(fT y).ownBlock=some g)=>World.ownsRow.lt hT g e
 have hnew:∀g,(fT y).ownBlock=some g->v.ownBlock≠some g:=fun g e e2=>by
  have h1:=(World.ownsRow.lt h.row g e2).2;have h2:=(hlt g e).1;omega
 refine⟨?_,?_,fun x hx=>?_,fun x hx g e e2=>?_⟩
 ·unfold dE;rw[List.length_append,List.flatMap_append]
  simpa using hown
 ·rw[List.map_append,h.rules,UI,hk];simp[hy,aV]
 ·rcases List.mem_append.1 hx with hx|hx
  ·refine Sep.bS (h.terms x hx) fun g e=>?_
   have hl:=(World.ownsRow.lt (h.terms x hx) g e).2;exact(hg.block g (Nat.lt_of_lt_of_le hl hw.size) fun e2=>h.off x hx g e e2.symm).trans (hw.block g hl)
  ·rw[List.mem_singleton]at hx;subst hx;unfold E8;rw[hy];refine Rw.su (Sep.bS hT fun g e=>hg.block g (hlt g e).2 fun e2=>hnew g e e2.symm) hz
 ·have hl:g<w1.heap.size/\v.ownBlock≠some g:=by
   rcases List.mem_append.1 hx with hx|hx
   ·exact⟨Nat.lt_of_lt_of_le (World.ownsRow.lt (h.terms x hx) g e).2 hw.size,h.off x hx g e⟩
   ·rw[List.mem_singleton]at hx;subst hx;exact⟨(hlt g e).2,hnew g e⟩
  rcases hv with r|r
  ·exact hl.2 (r.symm.trans e2)
  ·have:=r g e2;omega
theorem dU.sorted{G}{q}(D:Done G q)(hv:checkN G=0){i base}(hi:i<q.1.length){X Y}{v}{w w2}(h:dU G q i base (dZ G (bp q.1 i) (jU q i)) X v w)(hp:Y.Perm X)(hs:Y.Pairwise (fun a b=>¬b.1<a.1))(hr:dE base Y v w2)(hg:w.grownBy w2 v.ownBlock):
  fJ base (dL G q i) v w2:=by
 have hm:=zI8 D hv hi h.rules hp hs;refine⟨Y,hr,hm,fun k h1 h2=>?_⟩;have hx:Y[k]∈X:=hp.mem_iff.1 (List.getElem_mem h1)
 have e1:Y[k].1=(((dL G q i)[k]).1:Int):=by
  have h3:(Y.map (·.1))[k]?=((dL G q i).map fun y=>(y.1:Int))[k]?:=by rw[hm]
  rw[List.getElem?_map,List.getElem?_map,List.getElem?_eq_getElem h1,List.getElem?_eq_getElem h2]at h3;injection h3
 have e2:((dL G q i)[k]).2=gj G q i (aV G ((dL G q i)[k]).1):=by
  have h3:=List.getElem_mem h2;generalize (dL G q i)[k]=z at h3;unfold dL at h3;obtain⟨k',_,rfl⟩:=List.mem_map.1 h3
  rfl
 have ht:=h.terms _ hx;rw[e1,Int.toNat_natCast,←e2]at ht;exact Sep.bS ht fun g e=>hg.block g (World.ownsRow.lt ht g e).2 fun e2=>h.off _ hx g e e2.symm
theorem fJ.went{base}{Y}{v}{w w'}(h:fJ base Y v w)(hb:Below w.heap.size w w'):fJ base Y v w':=by
 obtain⟨X,h1,h2,h3⟩:=h;exact⟨X,Sep.bS h1 fun g hg=>hb.block g (World.ownsRow.lt h1 g hg).2,h2,fun k a b=>Sep.bS (h3 k a b) fun g hg=>hb.block g (World.ownsRow.lt (h3 k a b) g hg).2⟩
end Lk
namespace Lk
open Go.RowKit Go.Maps
open Gr (ai ax cN checkN)
open Im
open Au
theorem zM3{G}{q}(D:Done G q)(hv:checkN G=0){N}(hL:∀j,j<q.1.length->∀y,cM G (bp q.1 j) y->nT G q N j y){i}(hi:i<q.1.length){x}(hx:cM G (bp q.1 i) x)(hb:aZ G x=false):(i,rep G x)∈N.ak:=by
 cases hx with
 |of h _=>
  by_cases h0:i=0
  ·subst h0;rw[D.ok.zero,List.mem_singleton]at h;subst h
   exfalso
   have hr:aZ G ((G.rules.length:Int),0)=true:=by
    refine kx.2 ⟨wC (Nat.le_refl _),?_⟩;show(0:Int)<(cQ G (G.rules.length:Int):Int);unfold cQ;rw[(Gr.nK G).2];simp
   rw[hr]at hb;cases hb
  ·obtain⟨i',y,hi',hc,hb',hg,rfl⟩:=UH D (by omega) hi h;obtain⟨k,_,⟨j,hj,z,_,hz,_⟩,_⟩:=hL i' hi' y hc hb';rw[hg]at hj;obtain rfl:i=j:=by omega
   have h2:=(iD.1 (oF hc)).2.1;rw[uE (show((y.1,y.2+1):au).2≠0 from by dsimp only;omega)];exact List.mem_of_getElem? hz
 |next hc hb' hr=>
  rename_i y r;obtain⟨yr,yd⟩:=y;obtain⟨b1,b2⟩:=kx.1 hb';obtain⟨c1,c2⟩:=iD.1 b1;dsimp only at c1 c2 b2;obtain⟨n,rfl⟩:=Int.eq_ofNat_of_zero_le c1.1;obtain⟨d,rfl⟩:=Int.eq_ofNat_of_zero_le c2.1
  have ij:cN G (n:Int)=true:=by
   unfold cN;exact decide_eq_true c1
  have hd:d<(ax G (n:Int)).2.length:=by
   unfold cQ at b2;omega
  obtain⟨s1,s2⟩:=si ij hd;obtain⟨k1,k2⟩:=uA hv ij hd;rw[←s2]at k1;have hm:=(EK (by omega)).2 hr;obtain⟨k,_,_,h3⟩:=hL i hi _ hc hb';obtain⟨z,_,hz,_⟩:=h3 (fun e=>by rw[e]at hm;cases hm);rw[Hp hm];exact List.mem_of_getElem? hz
theorem zQm(T)(base q)(y)(w:World)(hq:q=w.heap.size)(hb:base<=q):(w.alloc (.cells #[.int .i64 y.1,fT y] T)).ownsRow base T 2 (.slice (some ⟨q,0,none⟩) 1 1) 1 (lc y):=by
 subst hq;exact World.ownsRow_lit w #[.int .i64 y.1,fT y] 1 hb (by decide) (by simp)
theorem yx:(Tryz.prog.info? 186).map (fun i=>(i.zero,i.size,i.bytes))=some (some (.agg #[.int .i64 0,.slice none 0 0]),2,32):=by kernel_rfl
theorem z8(y):∀u∈lc y,u.oneCell'=true:=fun u hu=>by
 simp[lc,fT]at hu;rcases hu with rfl|rfl<;>rfl
theorem fJ.mono{b b'}{Y}{v}{w}(h:fJ b Y v w)(hb:b'<=b):fJ b' Y v w:=by
 obtain⟨X,h1,h2,h3⟩:=h;exact⟨X,Rw.su h1 hb,h2,fun k p1 p2=>Rw.su (h3 k p1 p2) hb⟩
def Xi(G:ai)(q:Whole)(i:Nat)(w:World)(e:Ending)(w':World):Prop:=
 ∃a c,e=.returned (.slice a (dL G q i).length c)/\fJ w.heap.size (dL G q i) (.slice a (dL G q i).length c) w'/\Below w.heap.size w w'
end Lk
namespace Lk
open Go.RowKit Go.Maps
open Gr (ai cell_later bg boxed drawn step ax cN)
open Im
open Au
open Bt (els EJ)
open Rw (gZ)
theorem Xv{X:List gF}{Y:List (Nat×List Nat)}(h:X.map (·.1)=Y.map fun y=>(y.1:Int)):X.length=Y.length:=by
 have:=congrArg List.length h
 simpa using this
theorem zHt{W}{K}{G}{q}{N}{S}(FX:Fix W K G q)(w)(h:gM W K G q N S w)(L1:lD G q N)(i r)(d)(hi:i<q.1.length)(hr:r<=G.rules.length)(hd0:0<=d)(hd1:d<=1000000){kk:Nat}(hk:N.ak[kk]?=some (i,rep G ((r:Int),d))):
  Calls Tryz.prog 116 #[.pointer (some ⟨K.p,0,none⟩),.int .i64 (i:Int),.agg #[.int .i64 (r:Int),.int .i64 d]] w (fun e w'=>e=.returned (.int .i64 (kk:Int))/\Below w.heap.size w w'):=by
 have SM:=Fi.jq FX.ok;have hT:=SM.t;have hR:=SM.r;have hq:=FX.len;refine(Ei FX w h (Nat.le_trans (yu FX.ok L1 hq) (by omega)) (by omega) i r d (by omega) hr (by omega) hd0 hd1).mono ?_;rintro e w' ⟨k,M,rfl,hM,hc,_⟩;have hin:=List.mem_of_getElem? hk;rcases hc with⟨_,rfl,hb⟩|⟨h1,_⟩
 ·refine⟨?_,hb⟩;have hl:=nE hk;have hl2:=nE hM;rw[List.getElem?_eq_getElem hl]at hk;rw[List.getElem?_eq_getElem hl2]at hM;injection hk with hk
  injection hM with hM
  have h1:=L1.nd.idxOf_getElem k hl2;have h2:=L1.nd.idxOf_getElem kk hl;rw[hM]at h1;rw[hk]at h2;rw[←h1,←h2]
 ·exact absurd hin h1
open Classical in
theorem zP6{W:World}{K:Fk}{G:ai}{q:Whole}{N:Nt}{S:Nat->Prop}(FX:Fix W K G q)(w:World)(h:gM W K G q N S w)(L1:lD G q N)(hF:∀(k i:Nat) (c:au) (t:Nat),N.ak[k]?=some (i,c)->(N.S k t=true↔La G q i c (t:Int)))
  (hL:∀j,j<q.1.length->∀y,cM G (bp q.1 j) y->nT G q N j y) (bF:Bt.jA w) (i:Nat) (hi:i<q.1.length):
  Calls Tryz.prog 117 #[.pointer (some ⟨K.p,0,none⟩),.int .i64 (i:Int)] w (Xi G q i w):=by
 have Fj:=af (Tq FX w h i hi);have CE:=af (fun w1 (b:Below w.heap.size w w1) (r:Nat) (d:Int) (hr:r<=G.rules.length) (hd0:0<=d) (hd1:d<=1000000) (kk:Nat) (hk:N.ak[kk]?=some (i,rep G ((r:Int),d)))=>zHt FX w1 (h.went b) L1 i r d hi hr hd0 hd1 hk);obtain⟨lab,cv,qv,h,_⟩:=h;obtain⟨aC,cC,rfl⟩:=Rw.cu h.row;have F:=af (fun w1 (b:Below w.heap.size w w1)=>FX.at_ w1 (h.went b).fr);have P:=af (fun w1 (b:Below w.heap.size w w1)=>(h.went b).eight);have CC:=af (fun w1 (b:Below w.heap.size w w1) (k:Nat) (hk:k<N.ak.length)=>(h.went b).cell hk)
 have LI:=af (fun w1 (b:Below w.heap.size w w1) (k:Nat) (hk:k<N.ak.length) (x:au) (hx:N.ak[k]?=some (i,rep G x)) (hr:cN G x.1=true)=>(show Calls Tryz.prog 141 #[.pointer (some ⟨N.D k,0,none⟩)] w1 (fun e w'=>∃a c,e=.returned (.slice a (gj G q i x).length c)/\w'.ownsRow w1.heap.size 3 1 (.slice a (gj G q i x).length c) (gj G q i x).length (bD (gj G q i x))/\Below w1.heap.size w1 w')from by
  have hs:=(h.went b).sets k hk;refine(Bt.Hk w1 (.at_ hs) (bF.below b bF.pos)).mono ?_;rintro e w' ⟨v,rfl,h1,h2⟩
  have he:els (N.S k)=gj G q i x:=by
   rw[EJ (Bt.dA.upto (.at_ hs))];unfold gj;refine List.filter_congr fun t _=>?_
   rw[Bool.eq_iff_iff,hF k i _ t hx,Ig FX.ok hr,decide_eq_true_iff]
  rw[he]at h1;obtain⟨a,c,rfl⟩:=Rw.cu h1
  exact⟨a,c,rfl,h1,h2⟩))
 have SM:=Fi.jq FX.ok;have hR:=SM.r;have hq:=FX.len;have Bg:W.heap.size<=w.heap.size:=h.fr.size;have wV:=af (fun x=>yO FX.done FX.ok hi x);have EP:=af (fun x hx hb=>zM3 FX.done FX.ok hL hi (x:=x) hx hb);have hcl:(dZ G (bp q.1 i) (jU q i)).length<=2709:=Nat.le_trans (DY (Mn FX.done FX.ok hi) (M:=allI G) fun x hx=>uC (oF ((wV.out x).1 hx))) (se FX.ok);have SO:=af (fun(base:Nat) (X Y:List gF) (v:Value) (w1 w2:World) (e:dU G q i base (dZ G (bp q.1 i) (jU q i)) X v w1)=>e.sorted FX.done FX.ok hi (Y:=Y) (w2:=w2));have RS:=af (fun w1 (F:fF K G q w1) (r:Nat) (hr:r<=G.rules.length)=>F.rules r hr);have Pg:=af (fun x hx=>(Er ((yO FX.done FX.ok hi x).1 hx)));have hrs:=fun(r:Nat) (hr:r<=G.rules.length)=>D7 FX.ok (r:=r) hr
 have oX:K.p<w.heap.size:=h.bk h.lp (by intro e;cases e);have hgC:∀g,aC=some ⟨g,0,none⟩->g<w.heap.size:=fun g e=>h.bk (h.lr g (by rw[e];rfl)) (by intro e;cases e)
 obtain⟨i0,hj,hz0,hz1,hz2⟩:=info_parts yx;unfold Xi;clear h bF L1 hF hL;generalize dZ G (bp q.1 i) (jU q i)=L at*;go_enter Tryz.func117,Tryz.ntmps117;go_wp2_with (go_at_call 113;refine Fj.out.mono ?_;rintro e w1 ⟨aL,cL,rfl,h1,h2⟩;have V1:=af h1;have B1:=af h2;clear h1 h2);go_loopw [5,12] (fun v t wr=>∃(j:Nat) (X:List gF) (a:Option Addr) (c:Nat),t=.int .i64 j/\j<=L.length/\v=.slice a X.length c/\dU G q i w1.heap.size (L.take j) X v wr/\Below w1.heap.size w1 wr) (fun _ t _=>L.length-(intOf t).toNat)
 case atStart=>exact⟨0,[],none,0,rfl,Nat.zero_le _,rfl,dU.nil G q i _ _,.refl _ _⟩
 case round=>
  obtain⟨j,X,a,c,rfl,iU,rfl,hE,hB⟩:=hrel;have E:=af hE;have B:=af (B1.out.trans (hB.mono B1.out.size));have BL:=af hB;clear hE hB;have hXl:X.length<=2709:=Nat.le_trans E.out.len (by rw[List.length_take];omega)
  by_cases hlt:j<L.length
  ·have Sd:=List.getElem_mem hlt;have Gk:=(wV.out _).1 Sd;have Zu:=af (EP.out _ Gk);obtain⟨⟨r0,r1⟩,d0,d1⟩:=iD.1 (oF Gk);have hxs:L.take (j+1)=L.take j++[L[j]]:=by rw[List.take_succ_eq_append_getElem hlt]
   have hxe:=Pg.out _ Sd;obtain⟨b2,o2,rfl,t0,t1⟩:=(V1.out.went BL.out).reads.at j hlt;generalize L[j]=x at*;obtain⟨xr,xd⟩:=x;dsimp only at r0 r1 d0 d1 t0 t1;obtain⟨r,rfl⟩:=Int.eq_ofNat_of_zero_le r0;obtain⟨d,rfl⟩:=Int.eq_ofNat_of_zero_le d0;have ub:r<=G.rules.length:=by omega
   have ij:cN G (r:Int)=true:=by unfold cN;exact decide_eq_true ⟨r0,r1⟩
   have hrl:cQ G (r:Int)=(ax G (r:Int)).2.length:=rfl;have KJ:=hrs r ub;rw[hrl]at d1 KJ;have bx:Below wr.heap.size wr (wr.alloc (.cells #[.int .i64 (r:Int),.int .i64 (d:Int)] 181)):=boxed _ _;have x0:(wr.alloc (.cells #[.int .i64 (r:Int),.int .i64 (d:Int)] 181)).cell? ⟨wr.heap.size,0,none⟩=some (.int .i64 (r:Int)):=bg rfl rfl;have x1:(wr.alloc (.cells #[.int .i64 (r:Int),.int .i64 (d:Int)] 181)).cell? ⟨wr.heap.size,1,none⟩=some (.int .i64 (d:Int)):=bg rfl rfl;have BX:=af bx;have Bx:=af (Gr.step B.out bx);obtain⟨_,_,p2,_,_,p5,_,_⟩:=P.out _ Bx.out;obtain⟨aR,cR,_,f1,_⟩:=RS.out _ (F.out _ Bx.out) r ub;have Gi:(r:Int)<((G.rules.length+1:Nat):Int):=by omega
   have aby:(r:Int)<(G.rules.length:Int)+1:=by omega
   have hsz:=B.out.size;clear bx;go_wp2_with fail;generalize wr.alloc (.cells #[.int .i64 (r:Int),.int .i64 (d:Int)] 181)=wx at*;go_region;have kA0:=drawn wx;have Pe:=af (BX.out.drew);have Zq:=af (Bx.out.drew)
   by_cases BD:d=(ax G (r:Int)).2.length
   ·have hb:aZ G ((r:Int),(d:Int))=false:=by
     cases e:aZ G ((r:Int),(d:Int))with
     |false=>rfl
     |true=>
      have:=(kx.1 e).2;dsimp only at this;omega
    have hex:((r:Int),(d:Int))=aV G r:=by unfold aV;rw[BD]
    have hin:=Zu.out hb;obtain⟨kk,hkl,hkk⟩:=List.getElem_of_mem hin;have hkk:N.ak[kk]?=some (i,rep G ((r:Int),(d:Int))):=by rw[List.getElem?_eq_getElem hkl,hkk]
    obtain⟨g,cg,eg,_,_,g0,_,_,_⟩:=CC.out _ Zq.out kk hkl;injection eg with eg _ ecg
    subst eg;subst ecg;have hgl:=hgC g rfl;have Zr:=af (fun w1 (b:Below w.heap.size w w1)=>CE.out w1 b r (d:Int) ub (by omega) (by omega) kk hkk);have PR:=af (fun w1 (b:Below w.heap.size w w1)=>LI.out w1 b kk hkl _ hkk ij);have abd:(kk:Int)<(N.ak.length:Int):=by omega
    have abc:(0:Int)<=(kk:Int):=by omega
    have gx:wx.cell? ⟨g,kk*3,none⟩=some (.pointer (some ⟨N.D kk,0,none⟩)):=by simpa using g0
    have ue:=BL.out.size;have kA:Below wx.heap.size wx wx.drew.drew:=Gr.step (drawn wx) (drawn _);rw[hex]at PR
    have Rx:(gj G q i (aV G r)).length<=1000000:=by
     unfold gj;refine Nat.le_trans (List.length_filter_le _ _) ?_;rw[List.length_range];have:=SM.t;omega
    generalize J0:gj G q i (aV G r)=T at*;have hgX:∀g2,a=some ⟨g2,0,none⟩->w1.heap.size<=g2/\g2<wr.heap.size:=fun g2 e=>World.ownsRow.lt E.out.row g2 (by rw[e];rfl)
    have hw1:=B1.out.size;have hvb:∀g2,(Value.slice a X.length c).ownBlock=some g2->w1.heap.size<=g2/\g2<wr.heap.size:=fun g2 e=>World.ownsRow.lt E.out.row g2 e
    have KD:=af (fun(w8 w9:World) (b8:Below wx.heap.size wx w8) (hg:w8.grownBy w9 (Value.slice a X.length c).ownBlock)=>(show w9.cell? ⟨K.p,5,none⟩=some (.slice (some ⟨g,0,none⟩) N.ak.length cC)/\w9.cell? ⟨wr.heap.size,0,none⟩=some (.int .i64 (r:Int))/\w9.cell? ⟨wr.heap.size,1,none⟩=some (.int .i64 (d:Int))/\w9.cell? ⟨g,kk*3,none⟩=some (.pointer (some ⟨N.D kk,0,none⟩))from by
     have k:∀(p:Addr) u,wx.cell? p=some u->(∀g2,(Value.slice a X.length c).ownBlock=some g2->g2≠p.block)->w9.cell? p=some u:=fun p u hu hne=>by
      have hlt:=World.block_lt_of_cell? wx p hu;exact(World.cell?_of_block (hg.block p.block (Nat.lt_of_lt_of_le hlt b8.size) fun e=>hne _ e.symm rfl)).trans (cell_later b8 hu)
     refine⟨k _ _ p5 fun g2 e e2=>?_,k _ _ x0 fun g2 e e2=>?_,k _ _ x1 fun g2 e e2=>?_,k _ _ gx fun g2 e e2=>?_⟩<;>(have:=hvb g2 e;dsimp only at e2;omega)))
    have HQ:=af (fun w' (b:Below wx.heap.size wx w')=>(show w'.cell? ⟨K.p,5,none⟩=some (.slice (some ⟨g,0,none⟩) N.ak.length cC)/\w'.cell? ⟨wr.heap.size,0,none⟩=some (.int .i64 (r:Int))/\w'.cell? ⟨wr.heap.size,1,none⟩=some (.int .i64 (d:Int))/\w'.cell? ⟨g,kk*3,none⟩=some (.pointer (some ⟨N.D kk,0,none⟩))from⟨cell_later b p5,cell_later b x0,cell_later b x1,cell_later b gx⟩))
    have FN:=af (fun(w8:World) (a8:Option Addr) (c8:Nat) (w7:World) (b7:Below wx.heap.size wx w7) (h8:w8.ownsRow w7.heap.size 3 1 (.slice a8 T.length c8) T.length (bD T)) (b8:Below wx.heap.size wx w8)=>(show
      (w8.alloc (.cells #[.int .i64 (r:Int),.slice a8 T.length c8] 186)).ownsRow w1.heap.size 186 2 (.slice a X.length c) X.length (X.flatMap lc)/\
      (w8.alloc (.cells #[.int .i64 (r:Int),.slice a8 T.length c8] 186)).ownsRow w1.heap.size 186 2 (.slice (some ⟨w8.heap.size,0,none⟩) 1 1) 1 [.int .i64 (r:Int),.slice a8 T.length c8]/\
      ∀w9 v',w9.ownsRow w1.heap.size 186 2 v' (X.length+1) (X.flatMap lc++[.int .i64 (r:Int),.slice a8 T.length c8])->(w8.alloc (.cells #[.int .i64 (r:Int),.slice a8 T.length c8] 186)).grownBy w9 (Value.slice a X.length c).ownBlock->(v'.ownBlock=(Value.slice a X.length c).ownBlock\/v'.ownBlock=some (w8.alloc (.cells #[.int .i64 (r:Int),.slice a8 T.length c8] 186)).heap.size)->
       dU G q i w1.heap.size (L.take (j+1)) (X++[((r:Int),a8,T.length,c8)]) v' w9/\Below w1.heap.size w1 w9 from by
     have ba:=boxed w8 (.cells #[.int .i64 (r:Int),.slice a8 T.length c8] 186);have JA:Below wr.heap.size wr (w8.alloc (.cells #[.int .i64 (r:Int),.slice a8 T.length c8] 186)):=Gr.step (Gr.step BX.out b8) ba;refine⟨((E.out.went JA).row),zQm 186 w1.heap.size w8.heap.size ((r:Int),a8,T.length,c8) w8 rfl (Nat.le_trans ue (Nat.le_trans BX.out.size b8.size)),fun w9 v' hown hg hv=>⟨?_,?_⟩⟩
     ·rw[hxs,hex];rw[hex]at hb;refine E.out.snoc hb (y:=((r:Int),a8,T.length,c8)) rfl JA ue ?_ hown hg (hv.imp id fun e g2 e2=>?_)
      ·rw[J0];exact Sep.bS (Rw.su h8 (Nat.le_trans BX.out.size b7.size)) fun g2 e=>ba.block g2 (World.ownsRow.lt h8 g2 e).2
      ·rw[e]at e2;injection e2 with e2
       omega
     ·have b9:Below w1.heap.size w1 (w8.alloc (.cells #[.int .i64 (r:Int),.slice a8 T.length c8] 186)):=BL.out.trans (JA.mono ue)
      exact b9.trans ⟨hg.os,hg.tape,hg.output,hg.size,fun k hk=>hg.block k (Nat.lt_of_lt_of_le hk b9.size) fun e=>by
       have:=(hvb k e.symm).1
       omega⟩))
    clear CE LI E B V1 P F RS wV Pg hex hb J0 hxs hxe;generalize (ax G (r:Int)).2.length=ln at*;subst BD;go_wp2_with fail
    go_region_held3 (fun w'=>w'.cell? ⟨K.p,5,none⟩=some (.slice (some ⟨g,0,none⟩) N.ak.length cC)/\w'.cell? ⟨wr.heap.size,0,none⟩=some (.int .i64 (r:Int))/\w'.cell? ⟨wr.heap.size,1,none⟩=some (.int .i64 (d:Int))/\w'.cell? ⟨g,kk*3,none⟩=some (.pointer (some ⟨N.D kk,0,none⟩)))
     (first|assumption|exact HQ.out _ (by assumption)|exact HQ.out _ (Below.alloc (by assumption) (Below.size (by assumption)) _))
     (first
      |(go_at_call 116;(with_reducible refine(Zr.out _ (Bx.out.trans (kA.mono Bx.out.size))).mono ?_);rintro e w7 ⟨rfl,Bn⟩;have k7:Below wx.heap.size wx w7:=Gr.step kA Bn;clear Bn)
      |(go_at_call 141;((with_reducible refine(PR.out _ (Bx.out.trans (k7.mono Bx.out.size))).mono ?_);rintro e w8 ⟨a8,c8,rfl,h8,FM⟩;have k8:Below wx.heap.size wx w8:=Gr.step k7 FM;obtain⟨hr1,hr2,hr3⟩:=FN.out w8 a8 c8 w7 k7 h8 k8;have R1:=af hr1;have R2:=af hr2;have R3:=af hr3;have zu:w1.heap.size<=(w8.alloc (.cells #[.int .i64 (r:Int),.slice a8 T.length c8] 186)).heap.size:=Nat.le_trans ue (Nat.le_trans BX.out.size (Nat.le_trans k8.size (by simp)));clear hr1 hr2 hr3 h8 FM))
      |(refine gZ _ (by rfl) _ _ 145 (by rfl) w1.heap.size 186 i0 (.agg #[.int .i64 0,.slice none 0 0]) 2 32 Tryz.underlying145 hj hz0 hz1 hz2 rfl (by decide) (.slice a X.length c) X.length (X.flatMap lc) (by rfl) R1.out w1.heap.size (.slice (some ⟨w8.heap.size,0,none⟩) 1 1) 1 [.int .i64 (r:Int),.slice a8 T.length c8] (by rfl) R2.out (z8 ((r:Int),a8,T.length,c8)) (by unfold maxLen;omega) (by omega) zu ?_;intro v9 w9 aY ey cJ;have kd:=KD.out _ w9 (Gr.step k8 (boxed _ _)) ey;have R9:=af (R3.out w9 v9 aY ey cJ);obtain⟨a9,c9,rfl⟩:=Rw.cu aY;clear aY ey cJ)
      |fail)
    go_wp2_with fail;go_roundw
    case rel=>exact⟨j+1,X++[((r:Int),a8,T.length,c8)],a9,c9,by go_num,by omega,by rw[List.length_append];rfl,R9.out.1,R9.out.2⟩
    case measure=>simp[intOf];omega
   ·have hb:aZ G ((r:Int),(d:Int))=true:=kx.2 ⟨iD.2 ⟨⟨r0,r1⟩,d0,by dsimp only;omega⟩,by dsimp only;omega⟩;go_wp2_with fail;go_roundw
    case rel=>exact⟨j+1,X,a,c,by go_num,by omega,rfl,by rw[hxs];exact(E.out.went Pe.out).skip hb,BL.out.trans (Pe.out.mono BL.out.size)⟩
    case measure=>simp[intOf];omega
  ·have hjl:j=L.length:=by omega
   subst hjl;have E2:=af (show dU G q i w1.heap.size L X (.slice a X.length c) wr from by have:=E.out;rwa [List.take_length]at this);go_wp2_with (go_at_call 142;(refine(zRq w1.heap.size X a c wr E2.out.row (by omega)).mono ?_;rintro e w9 ⟨rfl,Y,hp,hs,hr,hg⟩;have V9:=af (SO.out _ _ _ _ _ _ E2.out hp (hs.imp fun h=>Int.not_lt.1 h) hr hg);have G9:=af hg;clear hp hs hr hg));go_ret
   have hl:X.length=(dL G q i).length:=by
    obtain⟨Z,z1,z2,z3⟩:=V9.out;have:=Rw.cu z1;obtain⟨a',c',e⟩:=this;injection e with _ e
    rw[e];exact Xv z2
   have hb9:Below w.heap.size w w9:=B.out.trans ⟨G9.out.os,G9.out.tape,G9.out.output,G9.out.size,fun k hk=>G9.out.block k (Nat.lt_of_lt_of_le hk B.out.size) fun e=>by
    have:=(World.ownsRow.lt E2.out.row k e.symm).1;have:=B1.out.size
    omega⟩
   rw[hl]at V9;exact⟨a,c,(by show Ending.returned (Value.slice a X.length c)= _;rw[hl]),V9.out.mono B1.out.size,hb9⟩
end Lk
namespace Lk
open Go.RowKit Go.Maps
open Gr (ai checkN)
open Im
open Au
def dV(base:Nat)(Y:List (Nat×List Nat))(v:Value)(w:World)(o:Option Nat):Prop:=
 ∃X:List gF,dE base X v w/\X.map (·.1)=Y.map (fun y=>(y.1:Int))/\(∀k (h:k<X.length) (h':k<Y.length),E8 base X[k] Y[k].2 w)/\(∀g,v.ownBlock=some g->o≠some g)/\∀k (h:k<X.length) (h':k<Y.length),∀g,(fT X[k]).ownBlock=some g->o≠some g
section
variable {base:Nat} {Y:List (Nat×List Nat)} {v:Value} {w w':World} {o o':Option Nat}
theorem dV.JG(h:dV base Y v w o):fJ base Y v w:=by
 obtain⟨X,h1,h2,h3,_⟩:=h;exact⟨X,h1,h2,h3⟩
theorem fJ.JF(h:fJ base Y v w)(ho:∀g,o=some g->g<base):dV base Y v w o:=by
 obtain⟨X,h1,h2,h3⟩:=h;refine⟨X,h1,h2,h3,fun g e e2=>?_,fun k a b g e e2=>?_⟩
 ·have p1:=(World.ownsRow.lt h1 g e).1;have p2:=ho g e2;omega
 ·have p1:=(World.ownsRow.lt (h3 k a b) g e).1;have p2:=ho g e2;omega
theorem dV.mono{b'}(h:dV base Y v w o)(hb:b'<=base):dV b' Y v w o:=by
 obtain⟨X,h1,h2,h3,h4⟩:=h;exact⟨X,Rw.su h1 hb,h2,fun k a b=>Rw.su (h3 k a b) hb,h4⟩
theorem dV.keep(h:dV base Y v w o)(hg:w.grownBy w' o):dV base Y v w' o:=by
 obtain⟨X,h1,h2,h3,h4,h5⟩:=h;exact⟨X,Sep.bS h1 fun g e=>hg.block g (World.ownsRow.lt h1 g e).2 fun e2=>h4 g e e2.symm,h2,fun k a b=>Sep.bS (h3 k a b) fun g e=>hg.block g (World.ownsRow.lt (h3 k a b) g e).2 fun e2=>h5 k a b g e e2.symm,h4,h5⟩
theorem dV.went(h:dV base Y v w o)(hb:Below w.heap.size w w'):dV base Y v w' o:=by
 obtain⟨X,h1,h2,h3,h4⟩:=h;exact⟨X,Sep.bS h1 fun g e=>hb.block g (World.ownsRow.lt h1 g e).2,h2,fun k a b=>Sep.bS (h3 k a b) fun g e=>hb.block g (World.ownsRow.lt (h3 k a b) g e).2,h4⟩
theorem dV.turn(h:dV base Y v w o)(ho:∀g,o'=some g->w.heap.size<=g):dV base Y v w o':=by
 obtain⟨X,h1,h2,h3,_⟩:=h;refine⟨X,h1,h2,h3,fun g e e2=>?_,fun k a b g e e2=>?_⟩
 ·have p1:=(World.ownsRow.lt h1 g e).2;have p2:=ho g e2;omega
 ·have p1:=(World.ownsRow.lt (h3 k a b) g e).2;have p2:=ho g e2;omega
end
theorem dV.grow{base}{Y}{v}{w w'}{o o'}(h:dV base Y v w o)(hg:w.grownBy w' o)(hr:o'=o\/∀g,o'=some g->w.heap.size<=g):dV base Y v w' o':=by
 rcases hr with r|r
 ·rw[r];exact h.keep hg
 ·obtain⟨X,h1,h2,h3,h4,h5⟩:=h;refine⟨X,Sep.bS h1 fun g e=>hg.block g (World.ownsRow.lt h1 g e).2 fun e2=>h4 g e e2.symm,h2,fun k a b=>Sep.bS (h3 k a b) fun g e=>hg.block g (World.ownsRow.lt (h3 k a b) g e).2 fun e2=>h5 k a b g e e2.symm,fun g e e2=>?_,fun k a b g e e2=>?_⟩
  ·have p1:=(World.ownsRow.lt h1 g e).2;have p2:=r g e2;omega
  ·have p1:=(World.ownsRow.lt (h3 k a b) g e).2;have p2:=r g e2;omega
theorem zOa(V)(i)(u:Value):(List.range (i+1)).map (upd V i u)=(List.range i).map V++[u]:=by
 rw[List.range_succ,List.map_append,List.map_cons,List.map_nil,upd_same]
 congr 1
 refine List.map_congr_left fun k hk=>bu ?_
 have:=List.mem_range.1 hk;omega
structure tA (G:ai) (q:Whole) (base i:Nat) (V:Nat->Value) (v:Value) (w:World):Prop where
 row:w.ownsRow base 145 1 v i ((List.range i).map V)
 ends:∀k,k<i->dV base (dL G q k) (V k) w v.ownBlock
theorem tA.nil(G)(q)(base)(V)(w):tA G q base 0 V (.slice none 0 0) w:=⟨World.ownsRow_nil _ _ _ _,fun k hk=>absurd hk (Nat.not_lt_zero k)⟩
theorem tA.snoc{G}{q}{base i}{V}{v v' u}{w w1 w2}(h:tA G q base i V v w)(hz:base<=w.heap.size)(hw:Below w.heap.size w w1)(hE:fJ w.heap.size (dL G q i) u w1)(hown:w2.ownsRow base 145 1 v' (i+1) ((List.range i).map V++[u]))(hg:w1.grownBy w2 v.ownBlock)(hv:v'.ownBlock=v.ownBlock\/∀g,v'.ownBlock=some g->w1.heap.size<=g):
  tA G q base (i+1) (upd V i u) v' w2:=by
 refine⟨by rw[zOa];exact hown,fun k hk=>?_⟩
 have h1:dV base (dL G q k) (upd V i u k) w1 v.ownBlock:=by
  by_cases e:k=i
  ·subst e;rw[upd_same];exact(hE.JF fun g e=>(World.ownsRow.lt h.row g e).2).mono hz
  ·rw[bu e];exact(h.ends k (by omega)).went hw
 exact h1.grow hg hv
def mS(base:Nat)(Ys:List (List (Nat×List Nat)))(v:Value)(w:World):Prop:=
 ∃V:Nat->Value,w.ownsRow base 145 1 v Ys.length ((List.range Ys.length).map V)/\∀k (h:k<Ys.length),fJ base Ys[k] (V k) w
theorem tA.all{G}{q}{base}{V}{v}{w}(h:tA G q base q.1.length V v w):mS base (pY G q) v w:=by
 refine⟨V,by rw[yz];exact h.row,fun k hk=>?_⟩;have hk':k<q.1.length:=by rw[yz]at hk;exact hk
 have e:(pY G q)[k]=dL G q k:=by simp[pY]
 rw[e];exact(h.ends k hk').JG
theorem mS.mono{b b'}{Ys}{v}{w}(h:mS b Ys v w)(hb:b'<=b):mS b' Ys v w:=by
 obtain⟨V,h1,h2⟩:=h;exact⟨V,Rw.su h1 hb,fun k hk=>(h2 k hk).mono hb⟩
inductive iM (G:ai):Int->List (List (Nat×List Nat))->Prop
 |bad {er:Int}:bE G er []->er≠0->iM G er []
 |all {q:Whole}:checkN G=0->Done G q->q.1.length<=2000->bE G 0 (states q)->iM G 0 (pY G q)
def zPY(G:ai)(w:World)(e:Ending)(w':World):Prop:=
 ∃(er:Int) (Ys:List (List (Nat×List Nat))) (a:Option Addr) (c:Nat),e=.returned (.tuple #[.slice a Ys.length c,.int .i64 er])/\iM G er Ys/\mS w.heap.size Ys (.slice a Ys.length c) w'/\Below w.heap.size w w'
theorem Tn{G}{X:List mK}(h:bE G 0 X):Small X:=(zU5 h).small
theorem Mq{G}{er}{X:List mK}(h:bE G er X):(er≠0/\X=[]/\bE G er [])\/(er=0/\checkN G=0/\∃q,X=states q/\Done G q/\q.1.length<=2000/\bE G 0 (states q)):=by
 cases h with
 |bad h1=>exact .inl ⟨h1,rfl,.bad h1⟩
 |many h1 h2 h3=>exact .inl ⟨by decide,rfl,.many h1 h2 h3⟩
 |all h1 h2 h3=>exact .inr ⟨rfl,h1,_,rfl,h2.done h3,by omega,.all h1 h2 h3⟩
structure jX (W:World) (K:Fk) (G:ai) (q:Whole) (S:Nat->Prop) (i j:Nat) (L:List au) (N:Nt) (T:Nat->Prop) (w:World):Prop where
 at_:gM W K G q N T w
 fr:Sep.Fr S W w
 ext:Sep.Ext T S W
 lk:ir G q N (2*(i*3000+j))
 past:∀k,k<i->∀x,cM G (bp q.1 k) x->nT G q N k x
 here:∀x∈L.take j,nT G q N i x
section
variable {W:World} {K:Fk} {G:ai} {q:Whole} {S T:Nat->Prop} {i j:Nat} {L:List au} {N:Nt} {w w':World}
theorem jX.went(h:jX W K G q S i j L N T w)(hb:Below w.heap.size w w'):jX W K G q S i j L N T w':=
 ⟨h.at_.went hb,h.fr.trans (.of_below hb) h.ext,h.ext,h.lk,h.past,h.here⟩
theorem jX.open(h:jX W K G q S i 0 [] N T w)(L):jX W K G q S i 0 L N T w:=⟨h.at_,h.fr,h.ext,h.lk,h.past,fun x hx=>by cases hx⟩
theorem jX.next(h:jX W K G q S i L.length L N T w)(hl:L.length<=3000)(hm:∀x,cM G (bp q.1 i) x->x∈L):jX W K G q S (i+1) 0 [] N T w:=
 ⟨h.at_,h.fr,h.ext,h.lk.mono (by omega),fun k hk x hx=>by
  by_cases e:k=i
  ·subst e;exact h.here x (by rw[List.take_length];exact hm x hx)
  ·exact h.past k (by omega) x hx,fun x hx=>by cases hx⟩
end
end Lk
namespace Lk
open Go.RowKit Go.Maps
open Gr (cell_later)
open Im
open Au
def lS(a:Option Addr)(Y:List (Nat×List Nat))(w:World):Prop:=
 ∀k (h:k<Y.length),∃b a3 c3,a=some ⟨b,0,none⟩/\w.cell? ⟨b,k*2,none⟩=some (.int .i64 (Y[k].1:Int))/\w.cell? ⟨b,k*2+1,none⟩=some (.slice a3 Y[k].2.length c3)/\Sep.Reads a3 (bD Y[k].2) w
def xe(a:Option Addr)(Ys:List (List (Nat×List Nat)))(w:World):Prop:=
 ∀i (h:i<Ys.length),∃b a2 c2,a=some ⟨b,0,none⟩/\w.cell? ⟨b,i,none⟩=some (.slice a2 Ys[i].length c2)/\lS a2 Ys[i] w
theorem lS.went{a}{Y}{w w'}(h:lS a Y w)(hb:Below w.heap.size w w'):lS a Y w':=fun k hk=>by
 obtain⟨b,a3,c3,e,h1,h2,h3⟩:=h k hk;exact⟨b,a3,c3,e,cell_later hb h1,cell_later hb h2,h3.below hb (Nat.le_refl _)⟩
theorem xe.went{a}{Ys}{w w'}(h:xe a Ys w)(hb:Below w.heap.size w w'):xe a Ys w':=fun i hi=>by
 obtain⟨b,a2,c2,e,h1,h2⟩:=h i hi;exact⟨b,a2,c2,e,cell_later hb h1,h2.went hb⟩
theorem sw{w:World}{base n size}{e}{a}{c}{xs}(h:w.ownsRow base e size (.slice a n c) n xs)(hn:0<n):∃b,a=some ⟨b,0,none⟩:=by
 rcases h.2 with⟨_,h0⟩|⟨g,cap,cur,e1,_⟩
 ·omega
 ·simp only[Value.slice.injEq]at e1;exact⟨g,e1.1⟩
end Lk
namespace Ac
open Go.RowKit Go.Maps
open Gr (cell_later checkN)
open Lk (xe lS)
open Au
open Rg
open Go.Proofs.YtegeamggbglneaaGreatDoor.Sep
attribute [local go_sem] Oper.semAt_some
structure Dat (m:Am) (q:Whole) (wD:World):Prop where
 hv:checkN m.G=0
 done:Done m.G q
 small:Small (states q)
 nS:m.nS=(states q).length
 nL:m.nL=q.1.length
 Me:fB m.aS (states q) wD
 fT:xe m.aL ((List.range q.1.length).map (aP m.G q)) wD
 len:q.1.length<=2000
 few:m.G.rules.length<=100000/\m.G.terms.length<=100000
theorem Dat.went{m}{q}{wD w}(h:Dat m q wD)(hb:Below wD.heap.size wD w):Dat m q w:=
 ⟨h.hv,h.done,h.small,h.nS,h.nL,h.Me.went hb,h.fT.went hb,h.len,h.few⟩
theorem aF{w:World}{b}{cs}{T}(h:w.heap[b]?=some (.cells cs T (0,0))){k}(hk):w.cell? ⟨b,k,none⟩=some cs[k]:=by
 unfold World.cell?;simp only[h];exact Array.getElem?_eq_getElem hk
def OX(m:Am)(b:Nat)(w:World):Prop:=
 w.cell? ⟨b,0,none⟩=some (.slice m.h.a1 m.G.terms.length m.h.c1)/\w.cell? ⟨b,1,none⟩=some (.slice m.h.a2 m.G.ah.length m.h.c2)/\w.cell? ⟨b,2,none⟩=some (.slice m.h.a3 m.G.rules.length m.h.c3)/\w.cell? ⟨b,3,none⟩=some (.int .i64 m.G.start)/\
 w.cell? ⟨b,4,none⟩=some (.slice m.aS m.nS m.cS)/\w.cell? ⟨b,5,none⟩=some (.slice m.aL m.nL m.cL)
theorem jh{m}{b}{w}{T}(h:w.heap[b]?=some (.cells (bV m) T (0,0))):OX m b w:=
 ⟨aF h (k:=0) (by simp[bV]),aF h (k:=1) (by simp[bV]),aF h (k:=2) (by simp[bV]),aF h (k:=3) (by simp[bV]),aF h (k:=4) (by simp[bV]),aF h (k:=5) (by simp[bV])⟩
theorem zPI{G}{q}{i}{y}(h:y∈aP G q i)(hf:G.terms.length<=100000):y.2.length<=200000:=by
 classical
 have hl:∀x,(Lk.gj G q i x).length<=200000:=fun x=>by
  unfold Lk.gj;refine Nat.le_trans (List.length_filter_le _ _) ?_;rw[List.length_range];omega
 unfold aP at h;rw[Nj,List.mem_append,List.mem_map]at h;rcases h with h|⟨k,hk,rfl⟩
 ·split at h
  ·rw[List.mem_singleton]at h;subst h;exact hl _
  ·cases h
 ·exact hl _
def lv(wD:World)(b1 b2 b3:Nat):Nat->Prop:=fun k=>k<wD.heap.size\/k=b1\/k=b2\/k=b3
noncomputable def bM(m:Am)(q:Whole)(i t:Nat):Nat->Array Value:=fun k=>#[AJ ((bh m.G q i t).getD k (0,0))]
theorem Ub(m:Am)(q:Whole)(wD w0:World)(D:Dat m q wD)(hb:Below wD.heap.size wD w0)(i t b1 b2 b3:Nat)(hi:i<q.1.length)
  (h1:w0.heap[b1]?=some (.cells (bV m) 104 (0,0))) (h2:w0.heap[b2]?=some (.cells #[.int .i64 (i:Int)] 3 (0,0))) (h3:w0.heap[b3]?=some (.cells #[.int .i64 (t:Int)] 3 (0,0))):
  Rg.Yields Tryz.prog 120 #[.pointer (some ⟨b1,0,none⟩),.pointer (some ⟨b2,0,none⟩),.pointer (some ⟨b3,0,none⟩)] (bM m q i t) (bh m.G q i t).length (lv wD b1 b2 b3) w0:=by
 intro l J Jx S X W hF hO hin Kk hJ Ba hY h0;have hlt:∀b o,w0.heap[b]?=some o->b<w0.heap.size:=fun b o h=>(Array.getElem?_eq_some_iff.1 h).1
 have qy:di (lv wD b1 b2 b3) w0:=by
  rintro k (h|rfl|rfl|rfl)
  ·have:=hb.size;omega
  ·exact hlt _ _ h1
  ·exact hlt _ _ h2
  ·exact hlt _ _ h3
 have ve:=qy.le hF.size;have hat:∀{b:Nat} {o:Obj},w0.heap[b]?=some o->lv wD b1 b2 b3 b->W.heap[b]?=some o:=fun {b o} h ho=>(hF.block b (hlt _ _ h) fun hs=>hO b hs ho).trans h
 have g1:=hat h1 (.inr (.inl rfl));have g2:=hat h2 (.inr (.inr (.inl rfl)));have g3:=hat h3 (.inr (.inr (.inr rfl)));have hbW:Below wD.heap.size wD W:=⟨hF.os.trans hb.os,hF.tape.trans hb.tape,hF.output.trans hb.output,Nat.le_trans hb.size hF.size,fun x hx=>(hF.block x (by have:=hb.size;omega) fun hs=>hO x hs (.inl hx)).trans (hb.block x hx)⟩;clear h1 h2 h3 hat hlt;have Rf:((List.range q.1.length).map (aP m.G q))[i]?=some (aP m.G q i):=by rw[List.getElem?_map,List.getElem?_range hi];rfl
 obtain⟨Ra,Q9⟩:=List.getElem?_eq_some_iff.1 Rf;obtain⟨bL,a2,c2,eL,hL,hE⟩:=D.fT i Ra;rw[Q9]at hL hE;clear Rf Ra Q9;have hnL:(i:Int)<(m.nL:Int):=by rw[D.nL];omega
 have hsm:=D.len;have abm:m.nL=q.1.length:=D.nL
 have Re:(aP m.G q i).length<=200000:=by
  have h1:=D.few.1;have h2:(aP m.G q i).length=(Lk.dL m.G q i).length:=zPg _ _
  have h3:(Lk.dL m.G q i).length<=m.G.rules.length+1:=by
   unfold Lk.dL;rw[List.length_map];refine Nat.le_trans (List.length_filter_le _ _) ?_;rw[List.length_range];exact Nat.le_refl _
  omega
 have RD:=af (show∀(J':Nat->(Nat->Prop)->World->Prop) (k:Nat) (S1:Nat->Prop) (W1:World),St J' S (lv wD b1 b2 b3) W k S1 W1->Dat m q W1/\(W1.cell? ⟨b1,0,none⟩=some (.slice m.h.a1 m.G.terms.length m.h.c1)/\W1.cell? ⟨b1,1,none⟩=some (.slice m.h.a2 m.G.ah.length m.h.c2)/\W1.cell? ⟨b1,2,none⟩=some (.slice m.h.a3 m.G.rules.length m.h.c3)/\W1.cell? ⟨b1,3,none⟩=some (.int .i64 m.G.start)/\
   W1.cell? ⟨b1,4,none⟩=some (.slice m.aS m.nS m.cS)/\W1.cell? ⟨b1,5,none⟩=some (.slice (some ⟨bL,0,none⟩) m.nL m.cL))/\W1.cell? ⟨b2,0,none⟩=some (.int .i64 (i:Int))/\W1.cell? ⟨b3,0,none⟩=some (.int .i64 (t:Int))/\W1.cell? ⟨bL,i,none⟩=some (.slice a2 (aP m.G q i).length c2)/\lS a2 (aP m.G q i) W1 from
  fun J' k S1 W1 st=>by
   have bW:=st.below hO hbW (fun x hx=> .inl hx) (Nat.le_trans hb.size hF.size);obtain⟨x0,x1,x2,x3,x4,x5⟩:=jh ((st.same ve hO (.inr (.inl rfl))).trans g1);rw[eL]at x5
   exact⟨D.went bW,⟨x0,x1,x2,x3,x4,x5⟩,
    aF (cs:=#[.int .i64 (i:Int)]) ((st.same ve hO (.inr (.inr (.inl rfl)))).trans g2) (k:=0) (by simp),aF (cs:=#[.int .i64 (t:Int)]) ((st.same ve hO (.inr (.inr (.inr rfl)))).trans g3) (k:=0) (by simp),cell_later bW hL,hE.went bW⟩)
 have YD:=af (show∀(k:Nat) (x:mR) (S1:Nat->Prop) (W1:World),(bh m.G q i t)[k]?=some x->St J S (lv wD b1 b2 b3) W k S1 W1->YieldAt Fence.wide 0 Tryz.prog l #[.agg #[.int .i64 x.1,.int .i64 x.2]] W1 (Said X J Jx k S1 W1)from
  fun k x S1 W1 hx st=>by
   have h:=hY k S1 W1 (List.getElem?_eq_some_iff.1 hx).1 st.j st.bK;unfold bM AJ at h;rw[List.getD_eq_getElem?_getD,hx]at h
   exact h)
 have S0:=af (St.start (O:=lv wD b1 b2 b3) h0 hin hO);have TH:=af (show∀(k:Nat) (S1 S':Nat->Prop) (W1 W2:World),St J S (lv wD b1 b2 b3) W k S1 W1->Ext S' S1 W1->Fr S1 W1 W2->di S' W2->J (k+1) S' W2->St J S (lv wD b1 b2 b3) W (k+1) S' W2 from fun k S1 S' W1 W2 st he hf hi hj=>st.then ve he hf hi hj);have WT:=af (show∀(k:Nat) (S1:Nat->Prop) (W1 W2:World),St J S (lv wD b1 b2 b3) W k S1 W1->Below W1.heap.size W1 W2->St J S (lv wD b1 b2 b3) W k S1 W2 from fun k S1 W1 W2 st h=>st.went hJ h);have GT:=af (show∀W1,Dat m q W1->Calls Tryz.prog 99 #[.slice m.aS m.nS m.cS,.int .i64 (i:Int),.int .i64 (t:Int)] W1 (Gr.Is (.int .i64 (p8 (states q) (i:Int) (t:Int))) W1)from fun W1 d=>by rw[d.nS];exact Na (states q) m.aS m.cS i t W1 d.Me d.small)
 have DN:=af (show∀(k:Nat) (S1:Nat->Prop) (W1:World),k=(bh m.G q i t).length->St J S (lv wD b1 b2 b3) W k S1 W1->∀v,(∃v',Ending.returned v=.returned v')/\∃S',di S' W1/\((Ext S' S W/\Fr S W W1/\J (bh m.G q i t).length S' W1)\/(Ext S' (dK S X) W/\Fr (dK S X) W W1/\∃k,k<=(bh m.G q i t).length/\Jx k S' W1))from
  fun k S1 W1 e st v=>⟨⟨v,rfl⟩,S1,st.bK,.inl ⟨st.ext,st.fr,e▸st.j⟩⟩)
 have XN:=af (show∀(k:Nat) (x:mR) (S1 S':Nat->Prop) (W1 W2:World),(bh m.G q i t)[k]?=some x->St J S (lv wD b1 b2 b3) W k S1 W1->Ext S' (dK S1 X) W1->Fr (dK S1 X) W1 W2->di S' W2->Jx (k+1) S' W2->∀v,(∃v',Ending.returned v=.returned v')/\∃S',di S' W2/\((Ext S' S W/\Fr S W W2/\J (bh m.G q i t).length S' W2)\/(Ext S' (dK S X) W/\Fr (dK S X) W W2/\∃k,k<=(bh m.G q i t).length/\Jx k S' W2))from
  fun k x S1 S' W1 W2 hx st he hf hi hj v=>by
   have s2:=st.stop he hf hi hj
   exact⟨⟨v,rfl⟩,S',s2.bK,.inr ⟨s2.ext,s2.fr,k+1,(List.getElem?_eq_some_iff.1 hx).1,hj⟩⟩)
 have SH:=Uc D.done hi t;have AT:=af (fun(mm:Nat) (h:mm<(aP m.G q i).length) (ht:t∈(aP m.G q i)[mm].2)=>zUp D.done D.hv h ht);have AL:=af (zSi D.done D.hv i t);have few:=D.few;obtain⟨d0,⟨c0,c1,rW,c3,c4,c5⟩,c6,c7,c8,QE⟩:=RD.out _ _ _ _ S0.out;clear hY h0 hin hE hL eL g1 g2 g3 qy ve D hb hbW hF hO;refine VF (n:=9) (o:=none) ?_;refine callsIn_of_wp Tryz.func120 rfl trivial ?_ rfl;simp only[Tryz.ntmps120,List.size_toArray,List.length_cons,List.length_nil,Nat.reduceAdd,Nat.reduceSub,Array.replicate_succ,Array.replicate_zero,List.push_toArray,List.append_toArray,List.nil_append,List.cons_append];rcases SH with⟨hg,hs⟩|⟨n,hg,hn,hs⟩
 case' inl=>
  rw[hg]at GT
  gi_wp2_with (refine⟨trivial,?_⟩;gi_at_call 99;refine(uy (GT.out _ d0)).mono ?_;rintro e w1 ⟨rfl,hb1⟩;have S1:=af (WT.out _ _ _ _ S0.out hb1);clear c0 c1 rW c3 c4 c5 c6 c7 c8;obtain⟨d1,⟨c0,c1,rW,c3,c4,c5⟩,c6,c7,c8,JR⟩:=RD.out _ _ _ _ S1.out)
  refine⟨fun _ h=>(by cases h),?_⟩;have SL:=af (show St J S (lv wD b1 b2 b3) W ((lN q i t).length+part (aP m.G q i) t 0) S w1 from by rw[hs,Vp];exact S1.out);clear hb1 d0 d1 QE JR
  gi_wp2
 case' inr=>
  rw[hg]at GT
  have h0:(bh m.G q i t)[0]?=some (1,(n:Int)):=by
   unfold bh;rw[hs]
   rfl
  gi_wp2_with (refine⟨trivial,?_⟩;gi_at_call 99;refine(uy (GT.out _ d0)).mono ?_;rintro e w1 ⟨rfl,hb1⟩;have S1:=af (WT.out _ _ _ _ S0.out hb1);clear c0 c1 rW c3 c4 c5 c6 c7 c8;obtain⟨fn,tm,Qo,bd,hy,hR⟩:=YD.out 0 _ _ _ h0 S1.out)
  refine(Ha hR).mono ?_;rintro e w2 ⟨S2,hin,(⟨rfl,he,hf,hj⟩|⟨rfl,he,hf,hj⟩)⟩
  case' inl=>
   have S3:=af (TH.out _ _ _ _ _ S1.out he hf hin hj);obtain⟨d1,⟨c0,c1,rW,c3,c4,c5⟩,c6,c7,c8,JR⟩:=RD.out _ _ _ _ S3.out;have SL:=af (show St J S (lv wD b1 b2 b3) W ((lN q i t).length+part (aP m.G q i) t 0) S2 w2 from by rw[hs,Vp];exact S3.out);clear hb1 d0 d1 QE JR S1 hy hR he hf hin hj;have S1:=S3;clear S3
   gi_wp2
  case inr=>
   have EX:=af (XN.out _ _ _ _ _ _ h0 S1.out he hf hin hj)
   gi_wp2
   refine bodyPost_ret (results_none rfl _ _ _) rfl ?_;exact EX.out _
 all_goals
  gi_loopw [30] (fun v wr=>∃(mm:Nat) (S1:Nat->Prop),v=.int .i64 (mm:Int)/\mm<=(aP m.G q i).length/\St J S (lv wD b1 b2 b3) W ((lN q i t).length+part (aP m.G q i) t mm) S1 wr) (fun v _=>(aP m.G q i).length-(intOf v).toNat)
  case atStart=>exact⟨0,_,rfl,Nat.zero_le _,SL.out⟩
  case round=>
   clear c0 c1 rW c3 c4 c5 c6 c7 c8 S1 SL;obtain⟨mm,S2,rfl,hmm,st⟩:=hrel;have ST:=af st;clear st;obtain⟨d2,⟨c0,c1,rW,c3,c4,c5⟩,c6,c7,c8,FD⟩:=RD.out _ _ _ _ ST.out
   by_cases hlt:mm<(aP m.G q i).length
   ·obtain⟨b',a3,c9,rfl,e1,e2,e3⟩:=FD mm hlt;have hmem:=zK6 (List.getElem_mem hlt);have hle:=zPI (List.getElem_mem hlt) few.2;have BS:=af (fun W1 (h:Below wr.heap.size wr W1)=>zUt (aP m.G q i)[mm].2 a3 c9 t W1 (e3.below h (Nat.le_refl _)) hmem.1 (by omega))
    have RU:=af (show∀W1,Calls Tryz.prog 122 #[.agg #[.slice m.h.a1 m.G.terms.length m.h.c1,.slice m.h.a2 m.G.ah.length m.h.c2,.slice m.h.a3 m.G.rules.length m.h.c3,.int .i64 m.G.start,.slice m.aS m.nS m.cS,.slice (some ⟨bL,0,none⟩) q.1.length m.cL],.int .i64 ((aP m.G q i)[mm].1:Int)] W1 (fun e w'=>e=.returned (.agg #[.int .i64 (jI m.G.rules.length (aP m.G q i)[mm].1).1,.int .i64 (jI m.G.rules.length (aP m.G q i)[mm].1).2])/\Below W1.heap.size W1 w')from
     fun W1=>zUH {m with aL:=some ⟨bL,0,none⟩,nL:=q.1.length} (aP m.G q i)[mm].1 W1 hmem.2)
    have hx1:(wr.alloc (.cells #[.int .i64 ((aP m.G q i)[mm].1:Int),.slice a3 (aP m.G q i)[mm].2.length c9] 186)).cell? ⟨wr.heap.size,0,none⟩=some (.int .i64 ((aP m.G q i)[mm].1:Int)):=aF (cs:=#[.int .i64 ((aP m.G q i)[mm].1:Int),.slice a3 (aP m.G q i)[mm].2.length c9]) (World.alloc_heap_new _ _) (k:=0) (by simp);have iT:Below wr.heap.size wr (wr.alloc (.cells #[.int .i64 ((aP m.G q i)[mm].1:Int),.slice a3 (aP m.G q i)[mm].2.length c9] 186)):=(Below.refl _ wr).alloc (Nat.le_refl _) _;have c10:=cell_later iT c7;have ps:=zOT (t:=t) hlt
    by_cases ht:t∈(aP m.G q i)[mm].2
    ·have hk:=AT.out mm hlt ht;rw[if_pos ht]at ps;rw[decide_eq_true ht]at BS;clear FD hmem e3 d2
     gi_wp2_with (first
      |(refine⟨trivial,?_⟩;gi_at_call 121;refine(uy (BS.out _ iT)).mono ?_;rintro e w2 ⟨p,rfl,hb2⟩;have S4:=af (WT.out _ _ _ _ (WT.out _ _ _ _ ST.out iT) hb2);clear c0 c1 rW c3 c4 c5 c6 c7 c8 e1 e2;obtain⟨d2,⟨c0,c1,rW,c3,c4,c5⟩,c6,c7,c8,FD⟩:=RD.out _ _ _ _ S4.out;have hx2:=cell_later hb2 hx1)
      | (refine⟨trivial,?_⟩;gi_at_call 122;refine(uy (RU.out _)).mono ?_;rintro e w3 ⟨rfl,hb3⟩;have S5:=af (WT.out _ _ _ _ S4.out hb3);obtain⟨fn,tm,Qo,bd,hy,hR⟩:=YD.out _ _ _ _ hk S5.out))
     refine(Ha hR).mono ?_;rintro e w4 ⟨S6,hin,(⟨rfl,he,hf,hj⟩|⟨rfl,he,hf,hj⟩)⟩
     ·have S7:=af (TH.out _ _ _ _ _ S5.out he hf hin hj);clear hy hR he hf hin hj c0 c1 rW c3 c4 c5 c6 c7 c8 hx1 hx2
      gi_wp2
      go_roundw
      case rel=>exact⟨mm+1,S6,by simp,by omega,by rw[ps,←Nat.add_assoc];exact S7.out⟩
      case measure=>simp[intOf];omega
     ·have EX:=af (XN.out _ _ _ _ _ _ hk S5.out he hf hin hj);clear hR he hf hin hj c0 c1 rW c3 c4 c5 c6 c7 c8 hx1 hx2
      gi_wp2
      refine bodyPost_ret (results_none rfl _ _ _) rfl ?_;exact EX.out _
    ·rw[if_neg ht]at ps;rw[decide_eq_false ht]at BS;clear FD hmem e3 d2
     gi_wp2_with (first|(refine⟨trivial,?_⟩;gi_at_call 121;refine(uy (BS.out _ iT)).mono ?_;rintro e w2 ⟨p,rfl,hb2⟩;have S4:=af (WT.out _ _ _ _ (WT.out _ _ _ _ ST.out iT) hb2)))
     refine⟨trivial,?_⟩
     gi_wp2
     refine⟨fun _ h=>(by cases h),?_⟩
     gi_wp2
     go_roundw
     case rel=>exact⟨mm+1,S2,by simp,by omega,by rw[ps];exact S4.out⟩
     case measure=>simp[intOf];omega
   ·obtain rfl:mm=(aP m.G q i).length:=by omega
    gi_wp2
    go_end0;exact DN.out _ _ _ AL.out.symm ST.out _
end Ac
namespace Ac
open Go.RowKit
theorem Gv{P}(w)(dT sT ty elem)(g o dLen dCap)(a)(sLen sCap K)(cur)(t)(cs)
  (hu:P.underlying dT=some (.slice elem)) (hs:(P.info? elem).map (·.size)=some K)
  (hg:w.heap[g]?=some (.cells cur t (0,0))) (hn:cs.length=Nat.min sLen dLen*K)
  (hsrc:∀j v,cs[j]?=some v->w.cell? (a.add j)=some v) (hfit:o+cs.length<=cur.size) (h1:∀v∈cs,v.oneCell'=true):
  (Builtin.copy_ #[dT,sT] ty #[.slice (some ⟨g,o,none⟩) dLen dCap,.slice (some a) sLen sCap]).run P w=
   .ok (goInt (Nat.min sLen dLen)) (w.setRow g (cur.toList.take o++cs++cur.toList.drop (o+cs.length)).toArray):=by
 have hl:=run_loadCells_list (P:=P) w a cs hsrc;have hst:=run_storeCells_at P g o t cs 0 cur w hg (by simpa using hfit) h1;cases hq:P.info? elem with
 |none=>simp[hq]at hs
 |some i=>
  have hi:i.size=K:=by simpa[hq]using hs
  simp[Builtin.copy_,run_underlying hu,Builtin.lenOf,Builtin.firstCells,sizeOf,typeInfo,hq,hi,←hn,hl,hst]
