/- A part of the proof. -/
import Derived.Test.YtkcaedinfnajaaaGreatDoorPk25
import Derived.Test.YtkcaedinfnajaaaGreatDoorPk29
import Derived.Laws.CopyRow
import Derived.Lib.AppendZerosOnto
import Derived.Lib.Overlaps
import Derived.Shelf.Spec.SlicesInsert
set_option maxHeartbeats 8000000
set_option maxRecDepth 100000
set_option linter.unusedVariables false
namespace Go.Proofs.YtkcaedinfnajaaaGreatDoor
namespace Lk
open Go.RowKit Go.Maps
open Gr (Gram checkN)
open Im
open Au
theorem zOF(G:Gram)(ks:List (List Itm))(c:List Itm):∀n:Nat,((zBA G ks c n).map Prod.fst).Pairwise (· < ·)
 |0=>List.Pairwise.nil
 |n+1=>by
  rw[zBG,List.map_append,List.pairwise_append];refine⟨zOF G ks c n,?_,fun a ha b hb=>?_⟩
  ·split
   ·exact List.Pairwise.nil
   ·exact List.pairwise_singleton _ _
  ·obtain⟨⟨s,t⟩,h1,rfl⟩:=List.mem_map.1 ha;obtain⟨m,hm,e,_⟩:=zAw.1 h1;split at hb
   ·cases hb
   ·simp only[List.map_cons,List.map_nil,List.mem_singleton]at hb;rw[hb,e];omega
theorem zLZ{G:Gram}{q:Whole}(D:Done G q){i:Nat}(hi:i<q.1.length):(zBy q i).Nodup:=by
 unfold zBy;rw[D.ok.trans i (by rw[D.all];exact hi)];exact(zOF _ _ _ _).imp fun h=>Int.ne_of_lt h
theorem zDo{G:Gram}{q:Whole}(D:Done G q)(hv:checkN G=0){i:Nat}(hi:i<q.1.length):(cloL G (zAI q.1 i) (zBy q i)).Nodup:=by
 unfold cloL;rw[List.nodup_append];refine⟨zH4 (D.ok.good _ (zA3 hi)).2.1,?_,fun a ha b hb e=>?_⟩
 ·refine List.pairwise_flatMap.2 ⟨fun s hs=>?_,(zLZ D hi).imp fun {s1 s2} hne x hx y hy e=>?_⟩
  ·refine List.pairwise_map.2 ((zKa G s _).imp fun {a b} hab e=>hab ?_);injection e with e
   omega
  ·obtain⟨k1,h1,rfl⟩:=List.mem_map.1 hx;obtain⟨k2,h2,rfl⟩:=List.mem_map.1 hy;injection e with e
   obtain rfl:k1=k2:=by omega
   exact hne ((zBp.1 h1).2.symm.trans (zBp.1 h2).2)
 ·obtain⟨s,hs,h2⟩:=List.mem_flatMap.1 hb;obtain⟨k,hk,rfl⟩:=List.mem_map.1 h2;subst e;obtain⟨m,_,rfl,_⟩:=(zEQ D hi).1 hs;obtain⟨k1,k2⟩:=zBp.1 hk
  by_cases h0:i=0
  ·subst h0;rw[D.ok.zero,List.mem_singleton]at ha;injection ha with ha
   rcases zA1 hv k1 with⟨e1,e2⟩|⟨e1,_⟩
   ·rw[e2]at k2;omega
   ·omega
  ·obtain⟨i',x,_,hc,_,_,e⟩:=zHL D (by omega) hi ha;have:=(zAQ.1 (zAk hc)).2.1;injection e with e1 e2
   omega
theorem zEo:∀{a b:List Int},a.Pairwise (· < ·)->b.Pairwise (· < ·)->(∀x,x∈a↔x∈b)->a=b
 |[],[],_,_,_=>rfl
 |[],y::b,_,_,h=>absurd ((h y).2 (List.mem_cons_self ..)) (by simp)
 |x::a,[],_,_,h=>absurd ((h x).1 (List.mem_cons_self ..)) (by simp)
 |x::a,y::b,ha,hb,h=>by
  have ha':=List.pairwise_cons.1 ha;have hb':=List.pairwise_cons.1 hb
  have e:x=y:=by
   rcases List.mem_cons.1 ((h x).1 (List.mem_cons_self ..))with e|h1
   ·exact e
   ·rcases List.mem_cons.1 ((h y).2 (List.mem_cons_self ..))with e|h2
    ·exact e.symm
    ·have:=hb'.1 x h1;have:=ha'.1 y h2;omega
  subst e;refine congrArg _ (zEo ha'.2 hb'.2 fun z=>⟨fun hz=>?_,fun hz=>?_⟩)
  ·rcases List.mem_cons.1 ((h z).1 (List.mem_cons_of_mem _ hz))with e|h1
   ·have:=ha'.1 z hz;omega
   ·exact h1
  ·rcases List.mem_cons.1 ((h z).2 (List.mem_cons_of_mem _ hz))with e|h1
   ·have:=hb'.1 z hz;omega
   ·exact h1
def endR(G:Gram)(L:List Itm):List Int:=(L.filter fun x=> !behB G x).map (·.1)
theorem zHO(G:Gram)(L:List Itm)(x:Itm):endR G (L++[x])=endR G L++(if behB G x then[]else[x.1]):=by
 unfold endR;rw[List.filter_append,List.map_append]
 congr 1
 cases h:behB G x<;>simp[h]
theorem zO5(G:Gram)(L:List Itm):(endR G L).length<=L.length:=by
 unfold endR;rw[List.length_map];exact List.length_filter_le _ _
theorem zPs{G:Gram}{q:Whole}(D:Done G q)(hv:checkN G=0){i:Nat}(hi:i<q.1.length){z:Int}:z∈endR G (cloL G (zAI q.1 i) (zBy q i))↔∃k:Nat,k<=G.rules.length/\z=(k:Int)/\Clo G (zAI q.1 i) (endI G k):=by
 unfold endR;rw[List.mem_map];constructor
 ·rintro⟨x,hx,rfl⟩;obtain⟨h1,h2⟩:=List.mem_filter.1 hx;have hc:=(zEd D hv hi x).1 h1;obtain⟨k,hk,e⟩:=(zEg hc).1 (by simpa using h2);exact⟨k,hk,by rw[e];rfl,e▸hc⟩
 ·rintro⟨k,hk,rfl,hc⟩;exact⟨endI G k,List.mem_filter.2 ⟨(zEd D hv hi _).2 hc,by rw[(zEg hc).2 ⟨k,hk,rfl⟩];rfl⟩,rfl⟩
theorem zKn{G:Gram}{q:Whole}(D:Done G q)(hv:checkN G=0){i:Nat}(hi:i<q.1.length):(endR G (cloL G (zAI q.1 i) (zBy q i))).Nodup:=by
 unfold endR;refine List.pairwise_map.2 ((List.Pairwise.filter _ (zDo D hv hi)).imp_of_mem fun {a b} ha hb hab e=>hab ?_);obtain⟨a1,a2⟩:=List.mem_filter.1 ha;obtain⟨b1,b2⟩:=List.mem_filter.1 hb;obtain⟨k,_,e1⟩:=(zEg ((zEd D hv hi a).1 a1)).1 (by simpa using a2);obtain⟨m,_,e2⟩:=(zEg ((zEd D hv hi b).1 b1)).1 (by simpa using b2);subst e1 e2;have:((k:Nat):Int)=(m:Int):=e;rw[show k=m by omega]
open Classical in
theorem zO6(G:Gram)(q:Whole)(i:Nat):((zAl G q i).map fun y=>(y.1:Int)).Pairwise (· < ·):=by
 unfold zAl;rw[List.map_map];refine List.pairwise_map.2 ((List.Pairwise.filter _ List.pairwise_lt_range).imp fun {a b} h=>?_);show((a:Nat):Int)<(b:Int);omega
open Classical in
theorem zIU{G:Gram}{q:Whole}(D:Done G q)(hv:checkN G=0){i:Nat}(hi:i<q.1.length){X Y:List Lkx}(hX:X.map (·.1)=endR G (cloL G (zAI q.1 i) (zBy q i)))(hp:Y.Perm X)(hs:Y.Pairwise (fun a b=>¬b.1<a.1)):
  Y.map (·.1)=(zAl G q i).map fun y=>(y.1:Int):=by
 have hn:(Y.map (·.1)).Nodup:=by
  refine(hp.map _).nodup_iff.2 ?_;rw[hX];exact zKn D hv hi
 refine zEo ?_ (zO6 G q i) fun z=>?_
 ·have h1:=List.pairwise_map.1 hn;refine List.pairwise_map.2 (hs.imp₂ (fun {a b} h1 h2=>?_) h1);have h2':a.1≠b.1:=h2;omega
 ·rw[(hp.map _).mem_iff,hX,zPs D hv hi];unfold zAl;rw[List.map_map,List.mem_map];constructor
  ·rintro⟨k,h1,rfl,h2⟩;exact⟨k,List.mem_filter.2 ⟨List.mem_range.2 (by omega),decide_eq_true h2⟩,rfl⟩
  ·rintro⟨k,h1,rfl⟩;obtain⟨h2,h3⟩:=List.mem_filter.1 h1;exact⟨k,by have:=List.mem_range.1 h2;omega,rfl,of_decide_eq_true h3⟩
def zLs(base:Nat)(x:Lkx)(Y:List Nat)(w:World):Prop:=w.ownsRow base 3 1 (lks x) Y.length (nivs Y)
def EndV(base:Nat)(Y:List (Nat×List Nat))(v:Value)(w:World):Prop:=
 ∃X:List Lkx,LksV base X v w/\X.map (·.1)=Y.map (fun y=>(y.1:Int))/\∀k (h:k<X.length) (h':k<Y.length),zLs base X[k] Y[k].2 w
structure EndI (G:Gram) (q:Whole) (i base:Nat) (L:List Itm) (X:List Lkx) (v:Value) (w:World):Prop where
 row:LksV base X v w
 rules:X.map (·.1)=endR G L
 terms:∀x∈X,zLs base x (laL G q i (endI G x.1.toNat)) w
 off:∀x∈X,∀g,(lks x).ownBlock=some g->v.ownBlock≠some g
theorem EndI.went{G:Gram}{q:Whole}{i base:Nat}{L:List Itm}{X:List Lkx}{v:Value}{w w':World}(h:EndI G q i base L X v w)(hb:Below w.heap.size w w'):EndI G q i base L X v w':=
 ⟨Sep.zAD h.row fun g hg=>hb.block g (World.ownsRow.lt h.row g hg).2,h.rules,fun x hx=>Sep.zAD (h.terms x hx) fun g hg=>hb.block g (World.ownsRow.lt (h.terms x hx) g hg).2,h.off⟩
theorem EndI.nil(G:Gram)(q:Whole)(i base:Nat)(w:World):EndI G q i base [] [] (.slice none 0 0) w:=⟨World.ownsRow_nil _ _ _ _,rfl,(fun x hx=>by cases hx),(fun x hx=>by cases hx)⟩
theorem EndI.skip{G:Gram}{q:Whole}{i base:Nat}{L:List Itm}{X:List Lkx}{v:Value}{w:World}(h:EndI G q i base L X v w){x:Itm}(hx:behB G x=true):EndI G q i base (L++[x]) X v w:=
 ⟨h.row,by rw[zHO,hx];simpa using h.rules,h.terms,h.off⟩
theorem EndI.len{G:Gram}{q:Whole}{i base:Nat}{L:List Itm}{X:List Lkx}{v:Value}{w:World}(h:EndI G q i base L X v w):X.length<=L.length:=by
 have:=congrArg List.length h.rules;rw[List.length_map]at this;rw[this];exact zO5 G L
theorem EndI.snoc{G:Gram}{q:Whole}{i base:Nat}{L:List Itm}{X:List Lkx}{v v':Value}{w w1 w2:World}(h:EndI G q i base L X v w){k:Nat}(hk:behB G (endI G k)=false){y:Lkx}(hy:y.1=(k:Int))(hw:Below w.heap.size w w1)(hz:base<=w.heap.size)
  (hT:w1.ownsRow w.heap.size 3 1 (lks y) (laL G q i (endI G k)).length (nivs (laL G q i (endI G k)))) (hown:w2.ownsRow base 159 2 v' (X.length+1) (X.flatMap lc++lc y)) (hg:w1.grownBy w2 v.ownBlock) (hv:v'.ownBlock=v.ownBlock\/∀g,v'.ownBlock=some g->w1.heap.size<=g):
  EndI G q i base (L++[endI G k]) (X++[y]) v' w2:=by
 have hlt:=fun g (e:(lks y).ownBlock=some g)=>World.ownsRow.lt hT g e
 have hnew:∀g,(lks y).ownBlock=some g->v.ownBlock≠some g:=fun g e e2=>by
  have h1:=(World.ownsRow.lt h.row g e2).2;have h2:=(hlt g e).1;omega
 refine⟨?_,?_,fun x hx=>?_,fun x hx g e e2=>?_⟩
 ·unfold LksV;rw[List.length_append,List.flatMap_append]
  simpa using hown
 ·rw[List.map_append,h.rules,zHO,hk];simp[hy,endI]
 ·rcases List.mem_append.1 hx with hx|hx
  ·refine Sep.zAD (h.terms x hx) fun g e=>?_
   have hl:=(World.ownsRow.lt (h.terms x hx) g e).2;exact(hg.block g (Nat.lt_of_lt_of_le hl hw.size) fun e2=>h.off x hx g e e2.symm).trans (hw.block g hl)
  ·rw[List.mem_singleton]at hx;subst hx;unfold zLs;rw[hy];refine Rw.zBY (Sep.zAD hT fun g e=>hg.block g (hlt g e).2 fun e2=>hnew g e e2.symm) hz
 ·have hl:g<w1.heap.size/\v.ownBlock≠some g:=by
   rcases List.mem_append.1 hx with hx|hx
   ·exact⟨Nat.lt_of_lt_of_le (World.ownsRow.lt (h.terms x hx) g e).2 hw.size,h.off x hx g e⟩
   ·rw[List.mem_singleton]at hx;subst hx;exact⟨(hlt g e).2,hnew g e⟩
  rcases hv with r|r
  ·exact hl.2 (r.symm.trans e2)
  ·have:=r g e2;omega
theorem EndI.sorted{G:Gram}{q:Whole}(D:Done G q)(hv:checkN G=0){i base:Nat}(hi:i<q.1.length){X Y:List Lkx}{v:Value}{w w2:World}(h:EndI G q i base (cloL G (zAI q.1 i) (zBy q i)) X v w)(hp:Y.Perm X)(hs:Y.Pairwise (fun a b=>¬b.1<a.1))(hr:LksV base Y v w2)(hg:w.grownBy w2 v.ownBlock):
  EndV base (zAl G q i) v w2:=by
 have hm:=zIU D hv hi h.rules hp hs;refine⟨Y,hr,hm,fun k h1 h2=>?_⟩;have hx:Y[k]∈X:=hp.mem_iff.1 (List.getElem_mem h1)
 have e1:Y[k].1=(((zAl G q i)[k]).1:Int):=by
  have h3:(Y.map (·.1))[k]?=((zAl G q i).map fun y=>(y.1:Int))[k]?:=by rw[hm]
  rw[List.getElem?_map,List.getElem?_map,List.getElem?_eq_getElem h1,List.getElem?_eq_getElem h2]at h3;injection h3
 have e2:((zAl G q i)[k]).2=laL G q i (endI G ((zAl G q i)[k]).1):=by
  have h3:=List.getElem_mem h2;generalize (zAl G q i)[k]=z at h3;unfold zAl at h3;obtain⟨k',_,rfl⟩:=List.mem_map.1 h3
  rfl
 have ht:=h.terms _ hx;rw[e1,Int.toNat_natCast,←e2]at ht;exact Sep.zAD ht fun g e=>hg.block g (World.ownsRow.lt ht g e).2 fun e2=>h.off _ hx g e e2.symm
theorem EndV.went{base:Nat}{Y:List (Nat×List Nat)}{v:Value}{w w':World}(h:EndV base Y v w)(hb:Below w.heap.size w w'):EndV base Y v w':=by
 obtain⟨X,h1,h2,h3⟩:=h;exact⟨X,Sep.zAD h1 fun g hg=>hb.block g (World.ownsRow.lt h1 g hg).2,h2,fun k a b=>Sep.zAD (h3 k a b) fun g hg=>hb.block g (World.ownsRow.lt (h3 k a b) g hg).2⟩
end Lk
namespace Lk
open Go.RowKit Go.Maps
open Gr (Gram zAE zAY checkN)
open Im
open Au
theorem zMO{G:Gram}{q:Whole}(D:Done G q)(hv:checkN G=0){N:Nt}(hL:∀j,j<q.1.length->∀y,Clo G (zAI q.1 j) y->Lkd G q N j y){i:Nat}(hi:i<q.1.length){x:Itm}(hx:Clo G (zAI q.1 i) x)(hb:behB G x=false):(i,rep G x)∈N.pls:=by
 cases hx with
 |of h _=>
  by_cases h0:i=0
  ·subst h0;rw[D.ok.zero,List.mem_singleton]at h;subst h
   exfalso
   have hr:behB G ((G.rules.length:Int),0)=true:=by
    refine zAo.2 ⟨zBJ (Nat.le_refl _),?_⟩;show(0:Int)<(rlen G (G.rules.length:Int):Int);unfold rlen;rw[(Gr.zAr G).2];simp
   rw[hr]at hb;cases hb
  ·obtain⟨i',y,hi',hc,hb',hg,rfl⟩:=zHL D (by omega) hi h;obtain⟨k,_,⟨j,hj,z,_,hz,_⟩,_⟩:=hL i' hi' y hc hb';rw[hg]at hj;obtain rfl:i=j:=by omega
   have h2:=(zAQ.1 (zAk hc)).2.1;rw[zCR (show((y.1,y.2+1):Itm).2≠0 from by dsimp only;omega)];exact List.mem_of_getElem? hz
 |next hc hb' hr=>
  rename_i y r;obtain⟨yr,yd⟩:=y;obtain⟨b1,b2⟩:=zAo.1 hb';obtain⟨c1,c2⟩:=zAQ.1 b1;dsimp only at c1 c2 b2;obtain⟨n,rfl⟩:=Int.eq_ofNat_of_zero_le c1.1;obtain⟨d,rfl⟩:=Int.eq_ofNat_of_zero_le c2.1
  have hrb:zAY G (n:Int)=true:=by
   unfold zAY;exact decide_eq_true c1
  have hd:d<(zAE G (n:Int)).2.length:=by
   unfold rlen at b2;omega
  obtain⟨s1,s2⟩:=zBx hrb hd;obtain⟨k1,k2⟩:=zBP hv hrb hd;rw[←s2]at k1;have hm:=(zG7 (by omega)).2 hr;obtain⟨k,_,_,h3⟩:=hL i hi _ hc hb';obtain⟨z,_,hz,_⟩:=h3 (fun e=>by rw[e]at hm;cases hm);rw[zES hm];exact List.mem_of_getElem? hz
theorem zPk(T:TypeId)(base q:Nat)(y:Lkx)(w:World)(hq:q=w.heap.size)(hb:base<=q):(w.alloc (.cells #[.int .i64 y.1,lks y] T)).ownsRow base T 2 (.slice (some ⟨q,0,none⟩) 1 1) 1 (lc y):=by
 subst hq;exact World.ownsRow_lit w #[.int .i64 y.1,lks y] 1 hb (by decide) (by simp)
theorem zBn:(Tryz.prog.info? 159).map (fun i=>(i.zero,i.size,i.bytes))=some (some (.agg #[.int .i64 0,.slice none 0 0]),2,32):=by kernel_rfl
theorem zFz(y:Lkx):∀u∈lc y,u.oneCell'=true:=fun u hu=>by
 simp[lc,lks]at hu;rcases hu with rfl|rfl<;>rfl
theorem EndV.mono{b b':Nat}{Y:List (Nat×List Nat)}{v:Value}{w:World}(h:EndV b Y v w)(hb:b'<=b):EndV b' Y v w:=by
 obtain⟨X,h1,h2,h3⟩:=h;exact⟨X,Rw.zBY h1 hb,h2,fun k p1 p2=>Rw.zBY (h3 k p1 p2) hb⟩
def zLi(G:Gram)(q:Whole)(i:Nat)(w:World)(e:Ending)(w':World):Prop:=
 ∃a c,e=.returned (.slice a (zAl G q i).length c)/\EndV w.heap.size (zAl G q i) (.slice a (zAl G q i).length c) w'/\Below w.heap.size w w'
end Lk
namespace Lk
open Go.RowKit Go.Maps
open Gr (Gram cell_later zAC boxed drawn step zAE zAY)
open Im
open Au
open Bt (els zHN)
open Rw (zAG)
theorem zMa{X:List Lkx}{Y:List (Nat×List Nat)}(h:X.map (·.1)=Y.map fun y=>(y.1:Int)):X.length=Y.length:=by
 have:=congrArg List.length h
 simpa using this
theorem zG9{W:World}{K:Fk}{G:Gram}{q:Whole}{N:Nt}{S:Nat->Prop}(FX:Fix W K G q)(w:World)(h:NAt W K G q N S w)(L1:Lk1 G q N)(i r:Nat)(d:Int)(hi:i<q.1.length)(hr:r<=G.rules.length)(hd0:0<=d)(hd1:d<=1000000){kk:Nat}(hk:N.pls[kk]?=some (i,rep G ((r:Int),d))):
  Calls Tryz.prog 89 #[.pointer (some ⟨K.p,0,none⟩),.int .i64 (i:Int),.agg #[.int .i64 (r:Int),.int .i64 d]] w (fun e w'=>e=.returned (.int .i64 (kk:Int))/\Below w.heap.size w w'):=by
 have SM:=Fi.zA8 FX.ok;have hT:=SM.t;have hR:=SM.r;have hq:=FX.len;refine(zDL FX w h (Nat.le_trans (zBj FX.ok L1 hq) (by omega)) (by omega) i r d (by omega) hr (by omega) hd0 hd1).mono ?_;rintro e w' ⟨k,M,rfl,hM,hc,_⟩;have hin:=List.mem_of_getElem? hk;rcases hc with⟨_,rfl,hb⟩|⟨h1,_⟩
 ·refine⟨?_,hb⟩;have hl:=zAi hk;have hl2:=zAi hM;rw[List.getElem?_eq_getElem hl]at hk;rw[List.getElem?_eq_getElem hl2]at hM;injection hk with hk
  injection hM with hM
  have h1:=L1.nd.idxOf_getElem k hl2;have h2:=L1.nd.idxOf_getElem kk hl;rw[hM]at h1;rw[hk]at h2;rw[←h1,←h2]
 ·exact absurd hin h1
open Classical in
theorem zO7{W:World}{K:Fk}{G:Gram}{q:Whole}{N:Nt}{S:Nat->Prop}(FX:Fix W K G q)(w:World)(h:NAt W K G q N S w)(L1:Lk1 G q N)(hF:∀(k i:Nat) (c:Itm) (t:Nat),N.pls[k]?=some (i,c)->(N.S k t=true↔La G q i c (t:Int)))
  (hL:∀j,j<q.1.length->∀y,Clo G (zAI q.1 j) y->Lkd G q N j y) (htab:Bt.Tab w) (i:Nat) (hi:i<q.1.length):
  Calls Tryz.prog 90 #[.pointer (some ⟨K.p,0,none⟩),.int .i64 (i:Int)] w (zLi G q i w):=by
 have CLO:=zVZ (zEf FX w h i hi);have CE:=zVZ (fun w1 (b:Below w.heap.size w w1) (r:Nat) (d:Int) (hr:r<=G.rules.length) (hd0:0<=d) (hd1:d<=1000000) (kk:Nat) (hk:N.pls[kk]?=some (i,rep G ((r:Int),d)))=>zG9 FX w1 (h.went b) L1 i r d hi hr hd0 hd1 hk);obtain⟨lab,cv,qv,h,_⟩:=h;obtain⟨aC,cC,rfl⟩:=Rw.zAH h.row;have F:=zVZ (fun w1 (b:Below w.heap.size w w1)=>FX.at_ w1 (h.went b).fr);have P:=zVZ (fun w1 (b:Below w.heap.size w w1)=>(h.went b).eight);have CC:=zVZ (fun w1 (b:Below w.heap.size w w1) (k:Nat) (hk:k<N.pls.length)=>(h.went b).cell hk)
 have LI:=zVZ (fun w1 (b:Below w.heap.size w w1) (k:Nat) (hk:k<N.pls.length) (x:Itm) (hx:N.pls[k]?=some (i,rep G x)) (hr:zAY G x.1=true)=>(show Calls Tryz.prog 114 #[.pointer (some ⟨N.D k,0,none⟩)] w1 (fun e w'=>∃a c,e=.returned (.slice a (laL G q i x).length c)/\w'.ownsRow w1.heap.size 3 1 (.slice a (laL G q i x).length c) (laL G q i x).length (nivs (laL G q i x))/\Below w1.heap.size w1 w')from by
  have hs:=(h.went b).sets k hk;refine(Bt.zEO w1 (.at_ hs) (htab.below b htab.pos)).mono ?_;rintro e w' ⟨v,rfl,h1,h2⟩
  have he:els (N.S k)=laL G q i x:=by
   rw[zHN (Bt.SetV.upto (.at_ hs))];unfold laL;refine List.filter_congr fun t _=>?_
   rw[Bool.eq_iff_iff,hF k i _ t hx,zJh FX.ok hr,decide_eq_true_iff]
  rw[he]at h1;obtain⟨a,c,rfl⟩:=Rw.zAH h1
  exact⟨a,c,rfl,h1,h2⟩))
 have SM:=Fi.zA8 FX.ok;have hR:=SM.r;have hq:=FX.len;have hWs:W.heap.size<=w.heap.size:=h.fr.size;have CLm:=zVZ (fun x=>zEd FX.done FX.ok hi x);have EP:=zVZ (fun x hx hb=>zMO FX.done FX.ok hL hi (x:=x) hx hb);have hcl:(cloL G (zAI q.1 i) (zBy q i)).length<=2709:=Nat.le_trans (zB9 (zDo FX.done FX.ok hi) (M:=allI G) fun x hx=>zCM (zAk ((CLm.out x).1 hx))) (zA5 FX.ok);have SO:=zVZ (fun(base:Nat) (X Y:List Lkx) (v:Value) (w1 w2:World) (e:EndI G q i base (cloL G (zAI q.1 i) (zBy q i)) X v w1)=>e.sorted FX.done FX.ok hi (Y:=Y) (w2:=w2));have RS:=zVZ (fun w1 (F:FixAt K G q w1) (r:Nat) (hr:r<=G.rules.length)=>F.rules r hr);have CLr:=zVZ (fun x hx=>(zEg ((zEd FX.done FX.ok hi x).1 hx)));have hrs:=fun(r:Nat) (hr:r<=G.rules.length)=>zCD FX.ok (r:=r) hr
 have hKp:K.p<w.heap.size:=h.lab_lt h.lp (by intro e;cases e);have hgC:∀g,aC=some ⟨g,0,none⟩->g<w.heap.size:=fun g e=>h.lab_lt (h.lr g (by rw[e];rfl)) (by intro e;cases e)
 obtain⟨i0,hj,hz0,hz1,hz2⟩:=info_parts zBn;unfold zLi;clear h htab L1 hF hL;generalize cloL G (zAI q.1 i) (zBy q i)=L at*;go_enter Tryz.func90,Tryz.ntmps90;go_wp2_with (go_at_call 86;refine CLO.out.mono ?_;rintro e w1 ⟨aL,cL,rfl,h1,h2⟩;have V1:=zVZ h1;have B1:=zVZ h2;clear h1 h2);go_loopw [5,12] (fun v t wr=>∃(j:Nat) (X:List Lkx) (a:Option Addr) (c:Nat),t=.int .i64 j/\j<=L.length/\v=.slice a X.length c/\EndI G q i w1.heap.size (L.take j) X v wr/\Below w1.heap.size w1 wr) (fun _ t _=>L.length-(intOf t).toNat)
 case atStart=>exact⟨0,[],none,0,rfl,Nat.zero_le _,rfl,EndI.nil G q i _ _,.refl _ _⟩
 case round=>
  obtain⟨j,X,a,c,rfl,hj1,rfl,hE,hB⟩:=hrel;have E:=zVZ hE;have B:=zVZ (B1.out.trans (hB.mono B1.out.size));have BL:=zVZ hB;clear hE hB;have hXl:X.length<=2709:=Nat.le_trans E.out.len (by rw[List.length_take];omega)
  by_cases hlt:j<L.length
  ·have hxm:=List.getElem_mem hlt;have hxc:=(CLm.out _).1 hxm;have EPx:=zVZ (EP.out _ hxc);obtain⟨⟨r0,r1⟩,d0,d1⟩:=zAQ.1 (zAk hxc);have hxs:L.take (j+1)=L.take j++[L[j]]:=by rw[List.take_succ_eq_append_getElem hlt]
   have hxe:=CLr.out _ hxm;obtain⟨b2,o2,rfl,t0,t1⟩:=(V1.out.went BL.out).reads.at j hlt;generalize L[j]=x at*;obtain⟨xr,xd⟩:=x;dsimp only at r0 r1 d0 d1 t0 t1;obtain⟨r,rfl⟩:=Int.eq_ofNat_of_zero_le r0;obtain⟨d,rfl⟩:=Int.eq_ofNat_of_zero_le d0;have hrr:r<=G.rules.length:=by omega
   have hrb:zAY G (r:Int)=true:=by unfold zAY;exact decide_eq_true ⟨r0,r1⟩
   have hrl:rlen G (r:Int)=(zAE G (r:Int)).2.length:=rfl;have hrs1:=hrs r hrr;rw[hrl]at d1 hrs1;have bx:Below wr.heap.size wr (wr.alloc (.cells #[.int .i64 (r:Int),.int .i64 (d:Int)] 154)):=boxed _ _;have x0:(wr.alloc (.cells #[.int .i64 (r:Int),.int .i64 (d:Int)] 154)).cell? ⟨wr.heap.size,0,none⟩=some (.int .i64 (r:Int)):=zAC rfl rfl;have x1:(wr.alloc (.cells #[.int .i64 (r:Int),.int .i64 (d:Int)] 154)).cell? ⟨wr.heap.size,1,none⟩=some (.int .i64 (d:Int)):=zAC rfl rfl;have BX:=zVZ bx;have Bx:=zVZ (Gr.step B.out bx);obtain⟨_,_,p2,_,_,p5,_,_⟩:=P.out _ Bx.out;obtain⟨aR,cR,_,f1,_⟩:=RS.out _ (F.out _ Bx.out) r hrr;have hri:(r:Int)<((G.rules.length+1:Nat):Int):=by omega
   have hri2:(r:Int)<(G.rules.length:Int)+1:=by omega
   have hsz:=B.out.size;clear bx;go_wp2_with fail;generalize wr.alloc (.cells #[.int .i64 (r:Int),.int .i64 (d:Int)] 154)=wx at*;go_region;have kA0:=drawn wx;have BX1:=zVZ (BX.out.drew);have Bx1:=zVZ (Bx.out.drew)
   by_cases hde:d=(zAE G (r:Int)).2.length
   ·have hb:behB G ((r:Int),(d:Int))=false:=by
     cases e:behB G ((r:Int),(d:Int))with
     |false=>rfl
     |true=>
      have:=(zAo.1 e).2;dsimp only at this;omega
    have hex:((r:Int),(d:Int))=endI G r:=by unfold endI;rw[hde]
    have hin:=EPx.out hb;obtain⟨kk,hkl,hkk⟩:=List.getElem_of_mem hin;have hkk:N.pls[kk]?=some (i,rep G ((r:Int),(d:Int))):=by rw[List.getElem?_eq_getElem hkl,hkk]
    obtain⟨g,cg,eg,_,_,g0,_,_,_⟩:=CC.out _ Bx1.out kk hkl;injection eg with eg _ ecg
    subst eg;subst ecg;have hgl:=hgC g rfl;have CEx:=zVZ (fun w1 (b:Below w.heap.size w w1)=>CE.out w1 b r (d:Int) hrr (by omega) (by omega) kk hkk);have LIx:=zVZ (fun w1 (b:Below w.heap.size w w1)=>LI.out w1 b kk hkl _ hkk hrb);have hkki:(kk:Int)<(N.pls.length:Int):=by omega
    have hkk0:(0:Int)<=(kk:Int):=by omega
    have gx:wx.cell? ⟨g,kk*3,none⟩=some (.pointer (some ⟨N.D kk,0,none⟩)):=by simpa using g0
    have hw1r:=BL.out.size;have kA:Below wx.heap.size wx wx.drew.drew:=Gr.step (drawn wx) (drawn _);rw[hex]at LIx
    have hla:(laL G q i (endI G r)).length<=1000000:=by
     unfold laL;refine Nat.le_trans (List.length_filter_le _ _) ?_;rw[List.length_range];have:=SM.t;omega
    generalize hLL:laL G q i (endI G r)=T at*;have hgX:∀g2,a=some ⟨g2,0,none⟩->w1.heap.size<=g2/\g2<wr.heap.size:=fun g2 e=>World.ownsRow.lt E.out.row g2 (by rw[e];rfl)
    have hw1:=B1.out.size;have hvb:∀g2,(Value.slice a X.length c).ownBlock=some g2->w1.heap.size<=g2/\g2<wr.heap.size:=fun g2 e=>World.ownsRow.lt E.out.row g2 e
    have KD:=zVZ (fun(w8 w9:World) (b8:Below wx.heap.size wx w8) (hg:w8.grownBy w9 (Value.slice a X.length c).ownBlock)=>(show w9.cell? ⟨K.p,5,none⟩=some (.slice (some ⟨g,0,none⟩) N.pls.length cC)/\w9.cell? ⟨wr.heap.size,0,none⟩=some (.int .i64 (r:Int))/\w9.cell? ⟨wr.heap.size,1,none⟩=some (.int .i64 (d:Int))/\w9.cell? ⟨g,kk*3,none⟩=some (.pointer (some ⟨N.D kk,0,none⟩))from by
     have k:∀(p:Addr) u,wx.cell? p=some u->(∀g2,(Value.slice a X.length c).ownBlock=some g2->g2≠p.block)->w9.cell? p=some u:=fun p u hu hne=>by
      have hlt:=World.block_lt_of_cell? wx p hu;exact(World.cell?_of_block (hg.block p.block (Nat.lt_of_lt_of_le hlt b8.size) fun e=>hne _ e.symm rfl)).trans (cell_later b8 hu)
     refine⟨k _ _ p5 fun g2 e e2=>?_,k _ _ x0 fun g2 e e2=>?_,k _ _ x1 fun g2 e e2=>?_,k _ _ gx fun g2 e e2=>?_⟩<;>(have:=hvb g2 e;dsimp only at e2;omega)))
    have HQ:=zVZ (fun w' (b:Below wx.heap.size wx w')=>(show w'.cell? ⟨K.p,5,none⟩=some (.slice (some ⟨g,0,none⟩) N.pls.length cC)/\w'.cell? ⟨wr.heap.size,0,none⟩=some (.int .i64 (r:Int))/\w'.cell? ⟨wr.heap.size,1,none⟩=some (.int .i64 (d:Int))/\w'.cell? ⟨g,kk*3,none⟩=some (.pointer (some ⟨N.D kk,0,none⟩))from⟨cell_later b p5,cell_later b x0,cell_later b x1,cell_later b gx⟩))
    have FN:=zVZ (fun(w8:World) (a8:Option Addr) (c8:Nat) (w7:World) (b7:Below wx.heap.size wx w7) (h8:w8.ownsRow w7.heap.size 3 1 (.slice a8 T.length c8) T.length (nivs T)) (b8:Below wx.heap.size wx w8)=>(show
      (w8.alloc (.cells #[.int .i64 (r:Int),.slice a8 T.length c8] 159)).ownsRow w1.heap.size 159 2 (.slice a X.length c) X.length (X.flatMap lc)/\
      (w8.alloc (.cells #[.int .i64 (r:Int),.slice a8 T.length c8] 159)).ownsRow w1.heap.size 159 2 (.slice (some ⟨w8.heap.size,0,none⟩) 1 1) 1 [.int .i64 (r:Int),.slice a8 T.length c8]/\
      ∀w9 v',w9.ownsRow w1.heap.size 159 2 v' (X.length+1) (X.flatMap lc++[.int .i64 (r:Int),.slice a8 T.length c8])->(w8.alloc (.cells #[.int .i64 (r:Int),.slice a8 T.length c8] 159)).grownBy w9 (Value.slice a X.length c).ownBlock->(v'.ownBlock=(Value.slice a X.length c).ownBlock\/v'.ownBlock=some (w8.alloc (.cells #[.int .i64 (r:Int),.slice a8 T.length c8] 159)).heap.size)->
       EndI G q i w1.heap.size (L.take (j+1)) (X++[((r:Int),a8,T.length,c8)]) v' w9/\Below w1.heap.size w1 w9 from by
     have ba:=boxed w8 (.cells #[.int .i64 (r:Int),.slice a8 T.length c8] 159);have bwa:Below wr.heap.size wr (w8.alloc (.cells #[.int .i64 (r:Int),.slice a8 T.length c8] 159)):=Gr.step (Gr.step BX.out b8) ba;refine⟨((E.out.went bwa).row),zPk 159 w1.heap.size w8.heap.size ((r:Int),a8,T.length,c8) w8 rfl (Nat.le_trans hw1r (Nat.le_trans BX.out.size b8.size)),fun w9 v' hown hg hv=>⟨?_,?_⟩⟩
     ·rw[hxs,hex];rw[hex]at hb;refine E.out.snoc hb (y:=((r:Int),a8,T.length,c8)) rfl bwa hw1r ?_ hown hg (hv.imp id fun e g2 e2=>?_)
      ·rw[hLL];exact Sep.zAD (Rw.zBY h8 (Nat.le_trans BX.out.size b7.size)) fun g2 e=>ba.block g2 (World.ownsRow.lt h8 g2 e).2
      ·rw[e]at e2;injection e2 with e2
       omega
     ·have b9:Below w1.heap.size w1 (w8.alloc (.cells #[.int .i64 (r:Int),.slice a8 T.length c8] 159)):=BL.out.trans (bwa.mono hw1r)
      exact b9.trans ⟨hg.os,hg.tape,hg.output,hg.size,fun k hk=>hg.block k (Nat.lt_of_lt_of_le hk b9.size) fun e=>by
       have:=(hvb k e.symm).1
       omega⟩))
    clear CE LI E B V1 P F RS CLm CLr hex hb hLL hxs hxe;generalize (zAE G (r:Int)).2.length=ln at*;subst hde;go_wp2_with fail
    go_region_held3 (fun w'=>w'.cell? ⟨K.p,5,none⟩=some (.slice (some ⟨g,0,none⟩) N.pls.length cC)/\w'.cell? ⟨wr.heap.size,0,none⟩=some (.int .i64 (r:Int))/\w'.cell? ⟨wr.heap.size,1,none⟩=some (.int .i64 (d:Int))/\w'.cell? ⟨g,kk*3,none⟩=some (.pointer (some ⟨N.D kk,0,none⟩)))
     (first|assumption|exact HQ.out _ (by assumption)|exact HQ.out _ (Below.alloc (by assumption) (Below.size (by assumption)) _))
     (first
      |(go_at_call 89;(with_reducible refine(CEx.out _ (Bx.out.trans (kA.mono Bx.out.size))).mono ?_);rintro e w7 ⟨rfl,hb7⟩;have k7:Below wx.heap.size wx w7:=Gr.step kA hb7;clear hb7)
      |(go_at_call 114;((with_reducible refine(LIx.out _ (Bx.out.trans (k7.mono Bx.out.size))).mono ?_);rintro e w8 ⟨a8,c8,rfl,h8,hb8⟩;have k8:Below wx.heap.size wx w8:=Gr.step k7 hb8;obtain⟨hr1,hr2,hr3⟩:=FN.out w8 a8 c8 w7 k7 h8 k8;have R1:=zVZ hr1;have R2:=zVZ hr2;have R3:=zVZ hr3;have hs8:w1.heap.size<=(w8.alloc (.cells #[.int .i64 (r:Int),.slice a8 T.length c8] 159)).heap.size:=Nat.le_trans hw1r (Nat.le_trans BX.out.size (Nat.le_trans k8.size (by simp)));clear hr1 hr2 hr3 h8 hb8))
      |(refine zAG _ (by rfl) _ _ 120 (by rfl) w1.heap.size 159 i0 (.agg #[.int .i64 0,.slice none 0 0]) 2 32 Tryz.underlying120 hj hz0 hz1 hz2 rfl (by decide) (.slice a X.length c) X.length (X.flatMap lc) (by rfl) R1.out w1.heap.size (.slice (some ⟨w8.heap.size,0,none⟩) 1 1) 1 [.int .i64 (r:Int),.slice a8 T.length c8] (by rfl) R2.out (zFz ((r:Int),a8,T.length,c8)) (by unfold maxLen;omega) (by omega) hs8 ?_;intro v9 w9 hown9 hg9 hloc9;have kd:=KD.out _ w9 (Gr.step k8 (boxed _ _)) hg9;have R9:=zVZ (R3.out w9 v9 hown9 hg9 hloc9);obtain⟨a9,c9,rfl⟩:=Rw.zAH hown9;clear hown9 hg9 hloc9)
      |fail)
    go_wp2_with fail;go_roundw
    case rel=>exact⟨j+1,X++[((r:Int),a8,T.length,c8)],a9,c9,by go_num,by omega,by rw[List.length_append];rfl,R9.out.1,R9.out.2⟩
    case measure=>simp[intOf];omega
   ·have hb:behB G ((r:Int),(d:Int))=true:=zAo.2 ⟨zAQ.2 ⟨⟨r0,r1⟩,d0,by dsimp only;omega⟩,by dsimp only;omega⟩;go_wp2_with fail;go_roundw
    case rel=>exact⟨j+1,X,a,c,by go_num,by omega,rfl,by rw[hxs];exact(E.out.went BX1.out).skip hb,BL.out.trans (BX1.out.mono BL.out.size)⟩
    case measure=>simp[intOf];omega
  ·have hjl:j=L.length:=by omega
   subst hjl;have E2:=zVZ (show EndI G q i w1.heap.size L X (.slice a X.length c) wr from by have:=E.out;rwa [List.take_length]at this);go_wp2_with (go_at_call 115;(refine(zQi w1.heap.size X a c wr E2.out.row (by omega)).mono ?_;rintro e w9 ⟨rfl,Y,hp,hs,hr,hg⟩;have V9:=zVZ (SO.out _ _ _ _ _ _ E2.out hp (hs.imp fun h=>Int.not_lt.1 h) hr hg);have G9:=zVZ hg;clear hp hs hr hg));go_ret
   have hl:X.length=(zAl G q i).length:=by
    obtain⟨Z,z1,z2,z3⟩:=V9.out;have:=Rw.zAH z1;obtain⟨a',c',e⟩:=this;injection e with _ e
    rw[e];exact zMa z2
   have hb9:Below w.heap.size w w9:=B.out.trans ⟨G9.out.os,G9.out.tape,G9.out.output,G9.out.size,fun k hk=>G9.out.block k (Nat.lt_of_lt_of_le hk B.out.size) fun e=>by
    have:=(World.ownsRow.lt E2.out.row k e.symm).1;have:=B1.out.size
    omega⟩
   rw[hl]at V9;exact⟨a,c,(by show Ending.returned (Value.slice a X.length c)= _;rw[hl]),V9.out.mono B1.out.size,hb9⟩
end Lk
namespace Lk
open Go.RowKit Go.Maps
open Gr (Gram checkN)
open Im
open Au
def EndO(base:Nat)(Y:List (Nat×List Nat))(v:Value)(w:World)(o:Option Nat):Prop:=
 ∃X:List Lkx,LksV base X v w/\X.map (·.1)=Y.map (fun y=>(y.1:Int))/\(∀k (h:k<X.length) (h':k<Y.length),zLs base X[k] Y[k].2 w)/\(∀g,v.ownBlock=some g->o≠some g)/\∀k (h:k<X.length) (h':k<Y.length),∀g,(lks X[k]).ownBlock=some g->o≠some g
section
variable {base:Nat} {Y:List (Nat×List Nat)} {v:Value} {w w':World} {o o':Option Nat}
theorem EndO.endV(h:EndO base Y v w o):EndV base Y v w:=by
 obtain⟨X,h1,h2,h3,_⟩:=h;exact⟨X,h1,h2,h3⟩
theorem EndV.endO(h:EndV base Y v w)(ho:∀g,o=some g->g<base):EndO base Y v w o:=by
 obtain⟨X,h1,h2,h3⟩:=h;refine⟨X,h1,h2,h3,fun g e e2=>?_,fun k a b g e e2=>?_⟩
 ·have p1:=(World.ownsRow.lt h1 g e).1;have p2:=ho g e2;omega
 ·have p1:=(World.ownsRow.lt (h3 k a b) g e).1;have p2:=ho g e2;omega
theorem EndO.mono{b':Nat}(h:EndO base Y v w o)(hb:b'<=base):EndO b' Y v w o:=by
 obtain⟨X,h1,h2,h3,h4⟩:=h;exact⟨X,Rw.zBY h1 hb,h2,fun k a b=>Rw.zBY (h3 k a b) hb,h4⟩
theorem EndO.keep(h:EndO base Y v w o)(hg:w.grownBy w' o):EndO base Y v w' o:=by
 obtain⟨X,h1,h2,h3,h4,h5⟩:=h;exact⟨X,Sep.zAD h1 fun g e=>hg.block g (World.ownsRow.lt h1 g e).2 fun e2=>h4 g e e2.symm,h2,fun k a b=>Sep.zAD (h3 k a b) fun g e=>hg.block g (World.ownsRow.lt (h3 k a b) g e).2 fun e2=>h5 k a b g e e2.symm,h4,h5⟩
theorem EndO.went(h:EndO base Y v w o)(hb:Below w.heap.size w w'):EndO base Y v w' o:=by
 obtain⟨X,h1,h2,h3,h4⟩:=h;exact⟨X,Sep.zAD h1 fun g e=>hb.block g (World.ownsRow.lt h1 g e).2,h2,fun k a b=>Sep.zAD (h3 k a b) fun g e=>hb.block g (World.ownsRow.lt (h3 k a b) g e).2,h4⟩
theorem EndO.turn(h:EndO base Y v w o)(ho:∀g,o'=some g->w.heap.size<=g):EndO base Y v w o':=by
 obtain⟨X,h1,h2,h3,_⟩:=h;refine⟨X,h1,h2,h3,fun g e e2=>?_,fun k a b g e e2=>?_⟩
 ·have p1:=(World.ownsRow.lt h1 g e).2;have p2:=ho g e2;omega
 ·have p1:=(World.ownsRow.lt (h3 k a b) g e).2;have p2:=ho g e2;omega
end
theorem EndO.grow{base:Nat}{Y:List (Nat×List Nat)}{v:Value}{w w':World}{o o':Option Nat}(h:EndO base Y v w o)(hg:w.grownBy w' o)(hr:o'=o\/∀g,o'=some g->w.heap.size<=g):EndO base Y v w' o':=by
 rcases hr with r|r
 ·rw[r];exact h.keep hg
 ·obtain⟨X,h1,h2,h3,h4,h5⟩:=h;refine⟨X,Sep.zAD h1 fun g e=>hg.block g (World.ownsRow.lt h1 g e).2 fun e2=>h4 g e e2.symm,h2,fun k a b=>Sep.zAD (h3 k a b) fun g e=>hg.block g (World.ownsRow.lt (h3 k a b) g e).2 fun e2=>h5 k a b g e e2.symm,fun g e e2=>?_,fun k a b g e e2=>?_⟩
  ·have p1:=(World.ownsRow.lt h1 g e).2;have p2:=r g e2;omega
  ·have p1:=(World.ownsRow.lt (h3 k a b) g e).2;have p2:=r g e2;omega
theorem zNr(V:Nat->Value)(i:Nat)(u:Value):(List.range (i+1)).map (upd V i u)=(List.range i).map V++[u]:=by
 rw[List.range_succ,List.map_append,List.map_cons,List.map_nil,upd_same]
 congr 1
 refine List.map_congr_left fun k hk=>zAB ?_
 have:=List.mem_range.1 hk;omega
structure LsI (G:Gram) (q:Whole) (base i:Nat) (V:Nat->Value) (v:Value) (w:World):Prop where
 row:w.ownsRow base 120 1 v i ((List.range i).map V)
 ends:∀k,k<i->EndO base (zAl G q k) (V k) w v.ownBlock
theorem LsI.nil(G:Gram)(q:Whole)(base:Nat)(V:Nat->Value)(w:World):LsI G q base 0 V (.slice none 0 0) w:=⟨World.ownsRow_nil _ _ _ _,fun k hk=>absurd hk (Nat.not_lt_zero k)⟩
theorem LsI.snoc{G:Gram}{q:Whole}{base i:Nat}{V:Nat->Value}{v v' u:Value}{w w1 w2:World}(h:LsI G q base i V v w)(hz:base<=w.heap.size)(hw:Below w.heap.size w w1)(hE:EndV w.heap.size (zAl G q i) u w1)(hown:w2.ownsRow base 120 1 v' (i+1) ((List.range i).map V++[u]))(hg:w1.grownBy w2 v.ownBlock)(hv:v'.ownBlock=v.ownBlock\/∀g,v'.ownBlock=some g->w1.heap.size<=g):
  LsI G q base (i+1) (upd V i u) v' w2:=by
 refine⟨by rw[zNr];exact hown,fun k hk=>?_⟩
 have h1:EndO base (zAl G q k) (upd V i u k) w1 v.ownBlock:=by
  by_cases e:k=i
  ·subst e;rw[upd_same];exact(hE.endO fun g e=>(World.ownsRow.lt h.row g e).2).mono hz
  ·rw[zAB e];exact(h.ends k (by omega)).went hw
 exact h1.grow hg hv
def AllV(base:Nat)(Ys:List (List (Nat×List Nat)))(v:Value)(w:World):Prop:=
 ∃V:Nat->Value,w.ownsRow base 120 1 v Ys.length ((List.range Ys.length).map V)/\∀k (h:k<Ys.length),EndV base Ys[k] (V k) w
theorem LsI.all{G:Gram}{q:Whole}{base:Nat}{V:Nat->Value}{v:Value}{w:World}(h:LsI G q base q.1.length V v w):AllV base (zCV G q) v w:=by
 refine⟨V,by rw[zBo];exact h.row,fun k hk=>?_⟩;have hk':k<q.1.length:=by rw[zBo]at hk;exact hk
 have e:(zCV G q)[k]=zAl G q k:=by simp[zCV]
 rw[e];exact(h.ends k hk').endV
theorem AllV.mono{b b':Nat}{Ys:List (List (Nat×List Nat))}{v:Value}{w:World}(h:AllV b Ys v w)(hb:b'<=b):AllV b' Ys v w:=by
 obtain⟨V,h1,h2⟩:=h;exact⟨V,Rw.zBY h1 hb,fun k hk=>(h2 k hk).mono hb⟩
inductive LookIs (G:Gram):Int->List (List (Nat×List Nat))->Prop
 |bad {er:Int}:Built G er []->er≠0->LookIs G er []
 |all {q:Whole}:checkN G=0->Done G q->q.1.length<=2000->Built G 0 (states q)->LookIs G 0 (zCV G q)
def zOc(G:Gram)(w:World)(e:Ending)(w':World):Prop:=
 ∃(er:Int) (Ys:List (List (Nat×List Nat))) (a:Option Addr) (c:Nat),e=.returned (.tuple #[.slice a Ys.length c,.int .i64 er])/\LookIs G er Ys/\AllV w.heap.size Ys (.slice a Ys.length c) w'/\Below w.heap.size w w'
theorem zEZ{G:Gram}{X:List Sta}(h:Built G 0 X):Small X:=(zT1 h).small
theorem zDA{G:Gram}{er:Int}{X:List Sta}(h:Built G er X):(er≠0/\X=[]/\Built G er [])\/(er=0/\checkN G=0/\∃q,X=states q/\Done G q/\q.1.length<=2000/\Built G 0 (states q)):=by
 cases h with
 |bad h1=>exact .inl ⟨h1,rfl,.bad h1⟩
 |many h1 h2 h3=>exact .inl ⟨by decide,rfl,.many h1 h2 h3⟩
 |all h1 h2 h3=>exact .inr ⟨rfl,h1,_,rfl,h2.done h3,by omega,.all h1 h2 h3⟩
structure OfI (W:World) (K:Fk) (G:Gram) (q:Whole) (S:Nat->Prop) (i j:Nat) (L:List Itm) (N:Nt) (T:Nat->Prop) (w:World):Prop where
 at_:NAt W K G q N T w
 fr:Sep.Fr S W w
 ext:Sep.Ext T S W
 lk:LkI G q N (2*(i*3000+j))
 past:∀k,k<i->∀x,Clo G (zAI q.1 k) x->Lkd G q N k x
 here:∀x∈L.take j,Lkd G q N i x
section
variable {W:World} {K:Fk} {G:Gram} {q:Whole} {S T:Nat->Prop} {i j:Nat} {L:List Itm} {N:Nt} {w w':World}
theorem OfI.went(h:OfI W K G q S i j L N T w)(hb:Below w.heap.size w w'):OfI W K G q S i j L N T w':=
 ⟨h.at_.went hb,h.fr.trans (.of_below hb) h.ext,h.ext,h.lk,h.past,h.here⟩
theorem OfI.open(h:OfI W K G q S i 0 [] N T w)(L:List Itm):OfI W K G q S i 0 L N T w:=⟨h.at_,h.fr,h.ext,h.lk,h.past,fun x hx=>by cases hx⟩
theorem OfI.next(h:OfI W K G q S i L.length L N T w)(hl:L.length<=3000)(hm:∀x,Clo G (zAI q.1 i) x->x∈L):OfI W K G q S (i+1) 0 [] N T w:=
 ⟨h.at_,h.fr,h.ext,h.lk.mono (by omega),fun k hk x hx=>by
  by_cases e:k=i
  ·subst e;exact h.here x (by rw[List.take_length];exact hm x hx)
  ·exact h.past k (by omega) x hx,fun x hx=>by cases hx⟩
end
end Lk
namespace Lk
open Go.RowKit Go.Maps
open Gr (cell_later)
open Im
open Au
def EndR(a:Option Addr)(Y:List (Nat×List Nat))(w:World):Prop:=
 ∀k (h:k<Y.length),∃b a3 c3,a=some ⟨b,0,none⟩/\w.cell? ⟨b,k*2,none⟩=some (.int .i64 (Y[k].1:Int))/\w.cell? ⟨b,k*2+1,none⟩=some (.slice a3 Y[k].2.length c3)/\Sep.Reads a3 (nivs Y[k].2) w
def LkR(a:Option Addr)(Ys:List (List (Nat×List Nat)))(w:World):Prop:=
 ∀i (h:i<Ys.length),∃b a2 c2,a=some ⟨b,0,none⟩/\w.cell? ⟨b,i,none⟩=some (.slice a2 Ys[i].length c2)/\EndR a2 Ys[i] w
theorem EndR.went{a:Option Addr}{Y:List (Nat×List Nat)}{w w':World}(h:EndR a Y w)(hb:Below w.heap.size w w'):EndR a Y w':=fun k hk=>by
 obtain⟨b,a3,c3,e,h1,h2,h3⟩:=h k hk;exact⟨b,a3,c3,e,cell_later hb h1,cell_later hb h2,h3.below hb (Nat.le_refl _)⟩
theorem LkR.went{a:Option Addr}{Ys:List (List (Nat×List Nat))}{w w':World}(h:LkR a Ys w)(hb:Below w.heap.size w w'):LkR a Ys w':=fun i hi=>by
 obtain⟨b,a2,c2,e,h1,h2⟩:=h i hi;exact⟨b,a2,c2,e,cell_later hb h1,h2.went hb⟩
theorem zBg{w:World}{base n size:Nat}{e:TypeId}{a:Option Addr}{c:Nat}{xs:List Value}(h:w.ownsRow base e size (.slice a n c) n xs)(hn:0<n):∃b,a=some ⟨b,0,none⟩:=by
 rcases h.2 with⟨_,h0⟩|⟨g,cap,cur,e1,_⟩
 ·omega
 ·simp only[Value.slice.injEq]at e1;exact⟨g,e1.1⟩
end Lk
namespace Ac
open Go.RowKit
theorem zBh{P:Program}(w:World)(dT sT ty elem:TypeId)(g o dLen dCap:Nat)(a:Addr)(sLen sCap K:Nat)(cur:Array Value)(t:TypeId)(cs:List Value)
  (hu:P.underlying dT=some (.slice elem)) (hs:(P.info? elem).map (·.size)=some K)
  (hg:w.heap[g]?=some (.cells cur t (0,0))) (hn:cs.length=Nat.min sLen dLen*K)
  (hsrc:∀j v,cs[j]?=some v->w.cell? (a.add j)=some v) (hfit:o+cs.length<=cur.size) (h1:∀v∈cs,v.oneCell'=true):
  (Builtin.copy_ #[dT,sT] ty #[.slice (some ⟨g,o,none⟩) dLen dCap,.slice (some a) sLen sCap]).run P w=
   .ok (goInt (Nat.min sLen dLen)) (w.setRow g (cur.toList.take o++cs++cur.toList.drop (o+cs.length)).toArray):=by
 have hl:=run_loadCells_list (P:=P) w a cs hsrc;have hst:=run_storeCells_at P g o t cs 0 cur w hg (by simpa using hfit) h1;cases hq:P.info? elem with
 |none=>simp[hq]at hs
 |some i=>
  have hi:i.size=K:=by simpa[hq]using hs
  simp[Builtin.copy_,run_underlying hu,Builtin.lenOf,Builtin.firstCells,sizeOf,typeInfo,hq,hi,←hn,hl,hst]
end Ac
namespace Pk
open Go.RowKit Go.Maps
abbrev Kx:=Nat×ByteArray
def KOk(p:Kx):Prop:=(Lit.int .i64 (p.1:Int)).wf=true/\p.2.size<=maxLen
def kv(p:Kx):Value:=.agg #[.int .i64 (p.1:Int),.string p.2]
def kk(p:Kx):Lit:=.string (keyBytes [.int .i64 (p.1:Int),.string p.2.data.toList])
theorem zUJ{x y:Kx}(hx:KOk x)(hy:KOk y)(h:kk x=kk y):x=y:=by
 unfold kk at h;simp only[Lit.string.injEq]at h
 have:=keyBytes_inj (l:=[.int .i64 (x.1:Int),.string x.2.data.toList]) (l':=[.int .i64 (y.1:Int),.string y.2.data.toList]) (by simp[Alike,Lit.sameKind])
  (fun a ha=>by
   simp only[List.mem_cons,List.not_mem_nil,or_false]at ha;rcases ha with rfl|rfl
   ·exact hx.1
   ·have:=hx.2;simp only[Lit.keyWf]
    simpa[maxLen]using this)
  (fun a ha=>by
   simp only[List.mem_cons,List.not_mem_nil,or_false]at ha;rcases ha with rfl|rfl
   ·exact hy.1
   ·have:=hy.2;simp only[Lit.keyWf]
    simpa[maxLen]using this) h
 simp only[List.cons.injEq,Lit.int.injEq,Lit.string.injEq,true_and,and_true]at this;obtain⟨h1,h2⟩:=this;obtain⟨a,b⟩:=x;obtain⟨a',b'⟩:=y;dsimp only at h1 h2;have e1:a=a':=by omega
 have e2:b=b':=by
  cases b;cases b';simp only[ByteArray.mk.injEq];exact Array.toList_inj.1 h2
 rw[e1,e2]
structure Kr (P:Program) (K:TypeId):Prop where
 law:Keyed P K
 key:∀x,KOk x->keyOf P K (kv x)=some (kk x)
theorem zVE{P:Program}{K:TypeId}(fa fb:Field)(law:Keyed P K)(hu:P.underlying K=some (.struct #[fa,fb]))(ha:P.underlying fa.type=some (.int .i64))(hb:P.underlying fb.type=some .string)
  (hkt:P.keyType K=true) (hcells:P.cellsOf K=2) (ca:P.cellsOf fa.type=1) (cb:P.cellsOf fb.type=1) (oa:fa.offset=0) (ob:fb.offset=1)
  (na:(fa.name != "_")=true) (nb:(fb.name != "_")=true) (n:Nat) (hn:P.types.size=n+1):Kr P K:=by
 refine⟨law,fun x hx=>?_⟩;unfold keyOf kv;rw[hu];simp only[hkt,Bool.true_and];rw[if_pos (by simp[Value.formed,hu,hcells])];rw[hn];have h2:=hx.2;simp[Program.keyLits,hu,hcells,ca,cb,oa,ob,ha,hb,na,nb,hx.1,h2,Value.cells,kk]
section
variable {P:Program} {K T E:TypeId}
def RMap(P:Program)(K E:TypeId)(b n:Nat)(X:Kx->Option Int)(w:World):Prop:=
 ∃D:DataW Unit,w.ownsMap P K (plainElem P E) b n D/\∀x,KOk x->has D (kk x)=(X x).isSome/\D.atKey (kk x) (.lit (.int .i64 0))=.lit (.int .i64 ((X x).getD 0))
theorem RMap.made(w:World)(P:Program)(K E:TypeId):RMap P K E w.heap.size 0 (fun _=>none) (w.alloc (.map #[] 0)):=
 ⟨_,World.ownsMap_made w P K _,fun x _=>⟨rfl,rfl⟩⟩
theorem RMap.lt{b n:Nat}{X:Kx->Option Int}{w:World}(h:RMap P K E b n X w):b<w.heap.size:=by
 obtain⟨D,h,_⟩:=h;exact h.lt
theorem RMap.keep{b n:Nat}{X:Kx->Option Int}{w w':World}(h:RMap P K E b n X w)(hb:w'.heap[b]?=w.heap[b]?):RMap P K E b n X w':=by
 obtain⟨D,h,k⟩:=h;exact⟨D,Sep.ownsMap_at h hb,k⟩
theorem RMap.store{b n:Nat}{X:Kx->Option Int}{w:World}(h:RMap P K E b n X w)(k:Kr P K)(ht:P.underlying T=some (.map K E))(he:P.underlying E=some (.int .i64))(hn:n<maxLen){x:Kx}(hx:KOk x){t:Int}(hw:(Lit.int .i64 t).wf=true):
  ∃w',(Instr.mapUpdate T (.map (some b)) (kv x) (.int .i64 t)).run P w=.ok () w'/\RMap P K E b (n+1) (fun y=>if y=x then some t else X y) w'/\w.mapTurned w' b:=by
 obtain⟨D,ho,kd⟩:=h;obtain⟨w',hrun,h1,h2⟩:=ho.store k.law ht hn (k.key x hx) (plainElem_int he hw);refine⟨w',hrun,⟨_,h1,fun y hy=>?_⟩,h2⟩
 by_cases e:y=x
 ·subst e;show _=(if y=y then some t else X y).isSome/\_=DataW.lit (Lit.int .i64 ((if y=y then some t else X y).getD 0));rw[if_pos rfl,has_put_same ho.isMap (k.law.key (k.key y hy)),atKey_put_same ho.isMap (k.law.key (k.key y hy))];exact⟨rfl,rfl⟩
 ·have hne:kk y≠kk x:=fun q=>e (zUJ hy hx q)
  show _=(if y=x then some t else X y).isSome/\_=DataW.lit (Lit.int .i64 ((if y=x then some t else X y).getD 0));rw[if_neg e,has_put_other hne,atKey_put_other hne];exact kd y hy
theorem RMap.look{b n:Nat}{X:Kx->Option Int}{w:World}(h:RMap P K E b n X w)(k:Kr P K)(ht:P.underlying T=some (.map K E))(he:P.underlying E=some (.int .i64))(hz:(zeroValue E).run P w=.ok (.int .i64 0) w){x:Kx}(hx:KOk x):
  (Instr.lookup T (.map (some b)) (kv x) true).run P w=.ok (.tuple #[.int .i64 ((X x).getD 0),.bool (X x).isSome]) w:=by
 obtain⟨D,ho,kd⟩:=h;have hzd:plainElem (H:=Unit) P E (.int .i64 0)=some (.lit (.int .i64 0),[]):=plainElem_int he (by decide);obtain⟨v,ps,hrun,hR⟩:=ho.look_ok k.law ht hz hzd (k.key x hx);rw[(kd x hx).2]at hR;rw[(kd x hx).1]at hrun
 have hv:v=.int .i64 ((X x).getD 0):=by
  unfold plainElem at hR;rw[he]at hR;cases v<;>simp at hR
  simp_all
 rw[hrun,hv]
end
def tx(r:List Int):ByteArray:=strOfNums (txt r)
def CdR(r:List Int):Prop:=(∀c∈r,Cd c)/\r.length<=100000
theorem zRQ{r s:List Int}(hr:CdR r)(hs:CdR s)(h:tx r=tx s):r=s:=by
 have h':(strOfNums (txt r)).data.toList=(strOfNums (txt s)).data.toList:=by unfold tx at h;rw[h]
 rw[strOfNums_data,strOfNums_data]at h';exact zTS (Au.bytes_inj (zKK hr.1) (zKK hs.1) h')
theorem zVW{r:List Int}(h:CdR r)(k:Nat)(hk:k<=1):KOk (k,tx r):=by
 refine⟨?_,?_⟩
 ·show(Lit.int .i64 (k:Int)).wf=true;rcases(by omega:k=0\/k=1)with rfl|rfl<;>decide
 ·unfold tx;rw[strOfNums_size,zD0];have:=h.2;unfold maxLen;omega
def numL(L:List (List Int))(r:List Int):Option Int:=if r∈L then some (L.idxOf r:Int)else none
def Told(L0 L1:List (List Int))(X:Kx->Option Int):Prop:=∀r,CdR r->X (0,tx r)=numL L0 r/\X (1,tx r)=numL L1 r
theorem told_none:Told [] [] (fun _=>none):=fun r _=>⟨rfl,rfl⟩
theorem zHh{L:List (List Int)}{r:List Int}(h:r∉L)(y:List Int):numL (L++[r]) y=if y=r then some (L.length:Int)else numL L y:=by
 unfold numL
 by_cases e:y=r
 ·subst e;rw[if_pos (List.mem_append_right _ (List.mem_singleton.2 rfl)),if_pos rfl,List.idxOf_append,if_neg h];simp
 ·rw[if_neg e]
  by_cases hy:y∈L
  ·rw[if_pos (List.mem_append_left _ hy),if_pos hy,List.idxOf_append,if_pos hy]
  ·rw[if_neg hy,if_neg];rw[List.mem_append,List.mem_singleton];exact fun q=>q.elim hy e
theorem Told.put0{L0 L1:List (List Int)}{X:Kx->Option Int}(h:Told L0 L1 X){r:List Int}(hr:CdR r)(hn:r∉L0):Told (L0++[r]) L1 (fun y=>if y=(0,tx r)then some (L0.length:Int)else X y):=fun s hs=>by
 constructor
 ·rw[zHh hn];show(if((0,tx s):Kx)=(0,tx r)then some _ else _)= _
  by_cases e:s=r
  ·subst e;rw[if_pos rfl,if_pos rfl]
  ·rw[if_neg (fun q:((0,tx s):Kx)=(0,tx r)=>e (zRQ hs hr (congrArg Prod.snd q))),if_neg e];exact(h s hs).1
 ·show(if((1,tx s):Kx)=(0,tx r)then _ else _)= _;rw[if_neg (fun q=>absurd (Prod.mk.inj q).1 (by decide))];exact(h s hs).2
theorem Told.put1{L0 L1:List (List Int)}{X:Kx->Option Int}(h:Told L0 L1 X){r:List Int}(hr:CdR r)(hn:r∉L1):Told L0 (L1++[r]) (fun y=>if y=(1,tx r)then some (L1.length:Int)else X y):=fun s hs=>by
 constructor
 ·show(if((0,tx s):Kx)=(1,tx r)then _ else _)= _;rw[if_neg (fun q=>absurd (Prod.mk.inj q).1 (by decide))];exact(h s hs).1
 ·rw[zHh hn];show(if((1,tx s):Kx)=(1,tx r)then some _ else _)= _
  by_cases e:s=r
  ·subst e;rw[if_pos rfl,if_pos rfl]
  ·rw[if_neg (fun q:((1,tx s):Kx)=(1,tx r)=>e (zRQ hs hr (congrArg Prod.snd q))),if_neg e];exact(h s hs).2
end Pk
namespace Pk
open Go.RowKit Go.Maps
open Gr (boxed zAC)
open Au (zB3 bvs zDR zAu zDn)
theorem zK5(n:Nat)(hn:n<=100000)(w:World):
  (Instr.makeSlice 131 (.int .i64 0) (.int .i64 (2*(n:Int)))).run Tryz.prog w=.ok (.slice (some ⟨w.heap.size,0,none⟩) 0 (2*n)) (w.alloc (.cells (madeCells #[.int .u8 0] (2*n)) 5)):=by
 obtain⟨i0,hi,hz0,hz1,hz2⟩:=info_parts zDR;have hr:=run_make (P:=Tryz.prog) w 131 5 i0 (.int .u8 0) Tryz.underlying131 hi hz0 .i64 .i64 0 (2*(n:Int)) (by omega) (by omega) (by rw[hz2];omega) (by omega);rw[show(2*(n:Int)).toNat=2*n by omega]at hr;rw[hr,hz1];simp
 rfl
theorem zTR(w:World)(n:Nat)(hn:n=w.heap.size)(x y:Value)(t:TypeId):∀j u,[x,y][j]?=some u->(w.alloc (.cells #[x,y] t)).cell? ((⟨n,0,none⟩:Addr).add j)=some u:=by
 intro j u hj;subst hn;rw[WideShapes.add_plain]
 match j,hj with
 |0,hj=>exact zAC rfl (by simpa using hj)
 |1,hj=>exact zAC rfl (by simpa using hj)
theorem zKb{base:Nat}{r:List Int}{v:Value}{w:World}{k:Nat}(hk:k<r.length){p q:Int}(e:p=r[k] / 256/\q=r[k] % 256){n:Nat}(hn:n=(txt (r.take k)).length+2)(h:w.ownsRow base 5 1 v n (bvs (txt (r.take k))++[.int .u8 p,.int .u8 q])):zB3 base (txt (r.take (k+1))) v w:=by
 subst hn;obtain⟨rfl,rfl⟩:=e;unfold zB3;rw[zQt hk,zDn,List.length_append];exact h
theorem zQq(r:List Int)(a:Option Addr)(c:Nat)(w:World)(h:CodA a r w)(hr:CdR r):
  Calls Tryz.prog 59 #[.slice a r.length c] w (Gr.Is (.string (tx r)) w):=by
 obtain⟨i0,hi,hz0,hz1,hz2⟩:=info_parts zDR;have hmk:=fun w=>zK5 r.length hr.2 w
 have hl:=hr.2;have HR:=zVZ (fun w1 (b:Below w.heap.size w w1)=>h.went b);have HP:=zVZ hr.1;have B1:=zVZ (boxed w (.cells (madeCells #[.int .u8 0] (2*r.length)) 5));have R0:=zVZ (show zB3 w.heap.size (txt (r.take 0)) (.slice (some ⟨w.heap.size,0,none⟩) 0 (2*r.length)) (w.alloc (.cells (madeCells #[.int .u8 0] (2*r.length)) 5))from World.ownsRow_made w _ _ (Nat.le_refl _) (by unfold maxLen;omega) (by rw[size_madeCells];omega));have hw2:IntKind.i64.wrap (2*(r.length:Int))=2*(r.length:Int):=by rw[IntKind.wrap_i64];omega
 clear h hr;go_enter Tryz.func59,Tryz.ntmps59;go_wp2_with fail;generalize hq:w.alloc (.cells (madeCells #[.int .u8 0] (2*r.length)) 5)=w2 at*;clear hq hmk;go_loopw [3,12] (fun v i wr=>∃j:Nat,j<=r.length/\i=.int .i64 (j:Int)/\zB3 w.heap.size (txt (r.take j)) v wr/\Below w.heap.size w wr) (fun _ i _=>r.length-(intOf i).toNat)
 case atStart=>exact⟨0,Nat.zero_le _,rfl,R0.out,B1.out⟩
 case round=>
  obtain⟨j,hj,rfl,hB,hW⟩:=hrel;obtain⟨av,cv,rfl⟩:=hB.shape
  by_cases hlt:j<r.length
  ·obtain⟨b,o,rfl,c0⟩:=(HR.out wr hW).at hlt;have hx:=HP.out _ (List.getElem_mem hlt);have HM:=zVZ (fun(v:Value) (w':World) (n:Nat) (p q:Int) e hn h=>zKb (base:=w.heap.size) (v:=v) (w:=w') hlt (p:=p) (q:=q) (n:=n) e hn h)
   have hl2:(txt (r.take j)).length<=200000:=by
    rw[zD0,List.length_take];omega
   have B:=zVZ hB;have W:=zVZ hW;clear hB hW;generalize r[j]=x at*;unfold Cd at hx;obtain⟨n,rfl⟩:∃n:Nat,x=(n:Int):=⟨x.toNat,by omega⟩;have hjl:(j:Int)<(r.length:Int):=by omega
   generalize txt (r.take j)=X at B HM hl2;have HB2:=zVZ (Gr.step W.out (boxed wr (.cells #[.int .u8 ((n:Int) / 256),.int .u8 ((n:Int) % 256)] 5)));have RB:=zVZ (B.out.went (boxed wr (.cells #[.int .u8 ((n:Int) / 256),.int .u8 ((n:Int) % 256)] 5)));have NW:=zVZ (zTR wr wr.heap.size rfl (.int .u8 ((n:Int) / 256)) (.int .u8 ((n:Int) % 256)) 5);have hsz:=HB2.out.size;have HBL:=zVZ (show∀g,(Value.slice av X.length cv).ownBlock=some g->w.heap.size<=g from fun g hg=>(World.ownsRow.lt B.out g hg).1);clear B W;have hx2:=hx.2;go_wp2_with (at_builtin;refine wpList_append_own_at _ rfl _ _ 131 rfl w.heap.size 5 i0 (.int .u8 0) 1 1 Tryz.underlying131 hi hz0 hz1 hz2 rfl (by decide) _ _ _ rfl RB.out ⟨wr.heap.size,0,none⟩ 2 2 [.int .u8 ((n:Int) / 256),.int .u8 ((n:Int) % 256)] rfl rfl NW.out (by simp[Value.oneCell']) (by unfold maxLen;omega) (by omega) hsz ?_;intro v' w' hown hg _ _;have HO:=zVZ hown;have HG:=zVZ (HB2.out.trans (zAu hg hsz HBL.out));clear hown hg);go_roundw
   case rel=>exact⟨j+1,by omega,by go_num,HM.out _ _ _ _ _ ⟨rfl,rfl⟩ rfl HO.out,HG.out⟩
   case measure=>simp[intOf];omega
  ·have hE:j=r.length:=by omega
   subst hE;rw[List.take_length]at hB;rw[List.take_length];have T:=hB.text;have HK:=zVZ (show strOfNums (txt r)=tx r from rfl);generalize txt r=X at*;generalize strOfNums X=s at*;go_wp2;have e:=HK.out;subst e;go_ret;exact⟨rfl,hW⟩
