/- A part of the proof. -/
import Derived.Test.YtegeamggbglneaaGreatDoorPk20
import Derived.Test.YtegeamggbglneaaGreatDoorPk32
import Derived.Laws.CopyRow
import Derived.Lib.AppendZerosOnto
import Derived.Lib.Overlaps
import Derived.Shelf.Spec.SlicesInsert
set_option maxHeartbeats 8000000
set_option maxRecDepth 100000
set_option linter.unusedVariables false
namespace Go.Proofs.YtegeamggbglneaaGreatDoor
namespace Lk
open Go.RowKit Go.Maps
open Gr (Gram checkN)
open Im
open Au
theorem zOj(G)(ks)(c):∀n:Nat,((zBI G ks c n).map Prod.fst).Pairwise (· < ·)
 |0=>List.Pairwise.nil
 |n+1=>by
  rw[zBO,List.map_append,List.pairwise_append];refine⟨zOj G ks c n,?_,fun a ha b hb=>?_⟩
  ·split
   ·exact List.Pairwise.nil
   ·exact List.pairwise_singleton _ _
  ·obtain⟨⟨s,t⟩,h1,rfl⟩:=List.mem_map.1 ha;obtain⟨m,hm,e,_⟩:=zA8.1 h1;split at hb
   ·cases hb
   ·simp only[List.map_cons,List.map_nil,List.mem_singleton]at hb;rw[hb,e];omega
theorem zL1{G}{q}(D:Done G q){i}(hi:i<q.1.length):(zB7 q i).Nodup:=by
 unfold zB7;rw[D.ok.trans i (by rw[D.all];exact hi)];exact(zOj _ _ _ _).imp fun h=>Int.ne_of_lt h
theorem zEA{G}{q}(D:Done G q)(hv:checkN G=0){i}(hi:i<q.1.length):(cloL G (zAK q.1 i) (zB7 q i)).Nodup:=by
 unfold cloL;rw[List.nodup_append];refine⟨zIb (D.ok.good _ (zBD hi)).2.1,?_,fun a ha b hb e=>?_⟩
 ·refine List.pairwise_flatMap.2 ⟨fun s hs=>?_,(zL1 D hi).imp fun {s1 s2} hne x hx y hy e=>?_⟩
  ·refine List.pairwise_map.2 ((zK3 G s _).imp fun {a b} hab e=>hab ?_);injection e with e
   omega
  ·obtain⟨k1,h1,rfl⟩:=List.mem_map.1 hx;obtain⟨k2,h2,rfl⟩:=List.mem_map.1 hy;injection e with e
   obtain rfl:k1=k2:=by omega
   exact hne ((zBx.1 h1).2.symm.trans (zBx.1 h2).2)
 ·obtain⟨s,hs,h2⟩:=List.mem_flatMap.1 hb;obtain⟨k,hk,rfl⟩:=List.mem_map.1 h2;subst e;obtain⟨m,_,rfl,_⟩:=(zEv D hi).1 hs;obtain⟨k1,k2⟩:=zBx.1 hk
  by_cases h0:i=0
  ·subst h0;rw[D.ok.zero,List.mem_singleton]at ha;injection ha with ha
   rcases zBB hv k1 with⟨e1,e2⟩|⟨e1,_⟩
   ·rw[e2]at k2;omega
   ·omega
  ·obtain⟨i',x,_,hc,_,_,e⟩:=zHt D (by omega) hi ha;have:=(zAS.1 (zAn hc)).2.1;injection e with e1 e2
   omega
theorem zFJ:∀{a b:List Int},a.Pairwise (· < ·)->b.Pairwise (· < ·)->(∀x,x∈a↔x∈b)->a=b
 |[],[],_,_,_=>rfl
 |[],y::b,_,_,h=>absurd ((h y).2 (List.mem_cons_self ..)) (by simp)
 |x::a,[],_,_,h=>absurd ((h x).1 (List.mem_cons_self ..)) (by simp)
 |x::a,y::b,ha,hb,h=>by
  have ha':=List.pairwise_cons.1 ha;have hb':=List.pairwise_cons.1 hb
  have e:x=y:=by
   rcases List.mem_cons.1 ((h x).1 (List.mem_cons_self ..))with e|h1
   ·exact e
   ·rcases List.mem_cons.1 ((h y).2 (List.mem_cons_self ..))with e|h2
    ·exact e.symm
    ·have:=hb'.1 x h1;have:=ha'.1 y h2;omega
  subst e;refine congrArg _ (zFJ ha'.2 hb'.2 fun z=>⟨fun hz=>?_,fun hz=>?_⟩)
  ·rcases List.mem_cons.1 ((h z).1 (List.mem_cons_of_mem _ hz))with e|h1
   ·have:=ha'.1 z hz;omega
   ·exact h1
  ·rcases List.mem_cons.1 ((h z).2 (List.mem_cons_of_mem _ hz))with e|h1
   ·have:=hb'.1 z hz;omega
   ·exact h1
def endR(G:Gram)(L:List Itm):List Int:=(L.filter fun x=> !behB G x).map (·.1)
theorem zHw(G)(L)(x):endR G (L++[x])=endR G L++(if behB G x then[]else[x.1]):=by
 unfold endR;rw[List.filter_append,List.map_append]
 congr 1
 cases h:behB G x<;>simp[h]
theorem zPc(G)(L):(endR G L).length<=L.length:=by
 unfold endR;rw[List.length_map];exact List.length_filter_le _ _
theorem zQN{G}{q}(D:Done G q)(hv:checkN G=0){i}(hi:i<q.1.length){z}:z∈endR G (cloL G (zAK q.1 i) (zB7 q i))↔∃k:Nat,k<=G.rules.length/\z=(k:Int)/\Clo G (zAK q.1 i) (endI G k):=by
 unfold endR;rw[List.mem_map];constructor
 ·rintro⟨x,hx,rfl⟩;obtain⟨h1,h2⟩:=List.mem_filter.1 hx;have hc:=(zE9 D hv hi x).1 h1;obtain⟨k,hk,e⟩:=(zFC hc).1 (by simpa using h2);exact⟨k,hk,by rw[e];rfl,e▸hc⟩
 ·rintro⟨k,hk,rfl,hc⟩;exact⟨endI G k,List.mem_filter.2 ⟨(zE9 D hv hi _).2 hc,by rw[(zFC hc).2 ⟨k,hk,rfl⟩];rfl⟩,rfl⟩
theorem zLE{G}{q}(D:Done G q)(hv:checkN G=0){i}(hi:i<q.1.length):(endR G (cloL G (zAK q.1 i) (zB7 q i))).Nodup:=by
 unfold endR;refine List.pairwise_map.2 ((List.Pairwise.filter _ (zEA D hv hi)).imp_of_mem fun {a b} ha hb hab e=>hab ?_);obtain⟨a1,a2⟩:=List.mem_filter.1 ha;obtain⟨b1,b2⟩:=List.mem_filter.1 hb;obtain⟨k,_,e1⟩:=(zFC ((zE9 D hv hi a).1 a1)).1 (by simpa using a2);obtain⟨m,_,e2⟩:=(zFC ((zE9 D hv hi b).1 b1)).1 (by simpa using b2);subst e1 e2;have:((k:Nat):Int)=(m:Int):=e;rw[show k=m by omega]
open Classical in
theorem zPd(G)(q)(i):((zAo G q i).map fun y=>(y.1:Int)).Pairwise (· < ·):=by
 unfold zAo;rw[List.map_map];refine List.pairwise_map.2 ((List.Pairwise.filter _ List.pairwise_lt_range).imp fun {a b} h=>?_);show((a:Nat):Int)<(b:Int);omega
open Classical in
theorem zIz{G}{q}(D:Done G q)(hv:checkN G=0){i}(hi:i<q.1.length){X Y:List Lkx}(hX:X.map (·.1)=endR G (cloL G (zAK q.1 i) (zB7 q i)))(hp:Y.Perm X)(hs:Y.Pairwise (fun a b=>¬b.1<a.1)):
  Y.map (·.1)=(zAo G q i).map fun y=>(y.1:Int):=by
 have hn:(Y.map (·.1)).Nodup:=by
  refine(hp.map _).nodup_iff.2 ?_;rw[hX];exact zLE D hv hi
 refine zFJ ?_ (zPd G q i) fun z=>?_
 ·have h1:=List.pairwise_map.1 hn;refine List.pairwise_map.2 (hs.imp₂ (fun {a b} h1 h2=>?_) h1);have h2':a.1≠b.1:=h2;omega
 ·rw[(hp.map _).mem_iff,hX,zQN D hv hi];unfold zAo;rw[List.map_map,List.mem_map];constructor
  ·rintro⟨k,h1,rfl,h2⟩;exact⟨k,List.mem_filter.2 ⟨List.mem_range.2 (by omega),decide_eq_true h2⟩,rfl⟩
  ·rintro⟨k,h1,rfl⟩;obtain⟨h2,h3⟩:=List.mem_filter.1 h1;exact⟨k,by have:=List.mem_range.1 h2;omega,rfl,of_decide_eq_true h3⟩
def zMJ(base:Nat)(x:Lkx)(Y:List Nat)(w:World):Prop:=w.ownsRow base 3 1 (lks x) Y.length (nivs Y)
def EndV(base:Nat)(Y:List (Nat×List Nat))(v:Value)(w:World):Prop:=
 ∃X:List Lkx,LksV base X v w/\X.map (·.1)=Y.map (fun y=>(y.1:Int))/\∀k (h:k<X.length) (h':k<Y.length),zMJ base X[k] Y[k].2 w
structure EndI (G:Gram) (q:Whole) (i base:Nat) (L:List Itm) (X:List Lkx) (v:Value) (w:World):Prop where
 row:LksV base X v w
 rules:X.map (·.1)=endR G L
 terms:∀x∈X,zMJ base x (laL G q i (endI G x.1.toNat)) w
 off:∀x∈X,∀g,(lks x).ownBlock=some g->v.ownBlock≠some g
theorem EndI.went{G}{q}{i base}{L}{X}{v}{w w'}(h:EndI G q i base L X v w)(hb:Below w.heap.size w w'):EndI G q i base L X v w':=
 ⟨Sep.zAE h.row fun g hg=>hb.block g (World.ownsRow.lt h.row g hg).2,h.rules,fun x hx=>Sep.zAE (h.terms x hx) fun g hg=>hb.block g (World.ownsRow.lt (h.terms x hx) g hg).2,h.off⟩
theorem EndI.nil(G)(q)(i base)(w):EndI G q i base [] [] (.slice none 0 0) w:=⟨World.ownsRow_nil _ _ _ _,rfl,(fun x hx=>by cases hx),(fun x hx=>by cases hx)⟩
theorem EndI.skip{G}{q}{i base}{L}{X}{v}{w}(h:EndI G q i base L X v w){x}(hx:behB G x=true):EndI G q i base (L++[x]) X v w:=
 ⟨h.row,by rw[zHw,hx];simpa using h.rules,h.terms,h.off⟩
theorem EndI.len{G}{q}{i base}{L}{X}{v}{w}(h:EndI G q i base L X v w):X.length<=L.length:=by
 have:=congrArg List.length h.rules;rw[List.length_map]at this;rw[this];exact zPc G L
theorem EndI.snoc{G}{q}{i base}{L}{X}{v v'}{w w1 w2}(h:EndI G q i base L X v w){k}(hk:behB G (endI G k)=false){y}(hy:y.1=(k:Int))(hw:Below w.heap.size w w1)(hz:base<=w.heap.size)
  (hT:w1.ownsRow w.heap.size 3 1 (lks y) (laL G q i (endI G k)).length (nivs (laL G q i (endI G k)))) (hown:w2.ownsRow base 186 2 v' (X.length+1) (X.flatMap lc++lc y)) (hg:w1.grownBy w2 v.ownBlock) (hv:v'.ownBlock=v.ownBlock\/∀g,v'.ownBlock=some g->w1.heap.size<=g):
  EndI G q i base (L++[endI G k]) (X++[y]) v' w2:=by
 have hlt:=fun g (e:(lks y).ownBlock=some g)=>World.ownsRow.lt hT g e
 have hnew:∀g,(lks y).ownBlock=some g->v.ownBlock≠some g:=fun g e e2=>by
  have h1:=(World.ownsRow.lt h.row g e2).2;have h2:=(hlt g e).1;omega
 refine⟨?_,?_,fun x hx=>?_,fun x hx g e e2=>?_⟩
 ·unfold LksV;rw[List.length_append,List.flatMap_append]
  simpa using hown
 ·rw[List.map_append,h.rules,zHw,hk];simp[hy,endI]
 ·rcases List.mem_append.1 hx with hx|hx
  ·refine Sep.zAE (h.terms x hx) fun g e=>?_
   have hl:=(World.ownsRow.lt (h.terms x hx) g e).2;exact(hg.block g (Nat.lt_of_lt_of_le hl hw.size) fun e2=>h.off x hx g e e2.symm).trans (hw.block g hl)
  ·rw[List.mem_singleton]at hx;subst hx;unfold zMJ;rw[hy];refine Rw.zBd (Sep.zAE hT fun g e=>hg.block g (hlt g e).2 fun e2=>hnew g e e2.symm) hz
 ·have hl:g<w1.heap.size/\v.ownBlock≠some g:=by
   rcases List.mem_append.1 hx with hx|hx
   ·exact⟨Nat.lt_of_lt_of_le (World.ownsRow.lt (h.terms x hx) g e).2 hw.size,h.off x hx g e⟩
   ·rw[List.mem_singleton]at hx;subst hx;exact⟨(hlt g e).2,hnew g e⟩
  rcases hv with r|r
  ·exact hl.2 (r.symm.trans e2)
  ·have:=r g e2;omega
theorem EndI.sorted{G}{q}(D:Done G q)(hv:checkN G=0){i base}(hi:i<q.1.length){X Y}{v}{w w2}(h:EndI G q i base (cloL G (zAK q.1 i) (zB7 q i)) X v w)(hp:Y.Perm X)(hs:Y.Pairwise (fun a b=>¬b.1<a.1))(hr:LksV base Y v w2)(hg:w.grownBy w2 v.ownBlock):
  EndV base (zAo G q i) v w2:=by
 have hm:=zIz D hv hi h.rules hp hs;refine⟨Y,hr,hm,fun k h1 h2=>?_⟩;have hx:Y[k]∈X:=hp.mem_iff.1 (List.getElem_mem h1)
 have e1:Y[k].1=(((zAo G q i)[k]).1:Int):=by
  have h3:(Y.map (·.1))[k]?=((zAo G q i).map fun y=>(y.1:Int))[k]?:=by rw[hm]
  rw[List.getElem?_map,List.getElem?_map,List.getElem?_eq_getElem h1,List.getElem?_eq_getElem h2]at h3;injection h3
 have e2:((zAo G q i)[k]).2=laL G q i (endI G ((zAo G q i)[k]).1):=by
  have h3:=List.getElem_mem h2;generalize (zAo G q i)[k]=z at h3;unfold zAo at h3;obtain⟨k',_,rfl⟩:=List.mem_map.1 h3
  rfl
 have ht:=h.terms _ hx;rw[e1,Int.toNat_natCast,←e2]at ht;exact Sep.zAE ht fun g e=>hg.block g (World.ownsRow.lt ht g e).2 fun e2=>h.off _ hx g e e2.symm
theorem EndV.went{base}{Y}{v}{w w'}(h:EndV base Y v w)(hb:Below w.heap.size w w'):EndV base Y v w':=by
 obtain⟨X,h1,h2,h3⟩:=h;exact⟨X,Sep.zAE h1 fun g hg=>hb.block g (World.ownsRow.lt h1 g hg).2,h2,fun k a b=>Sep.zAE (h3 k a b) fun g hg=>hb.block g (World.ownsRow.lt (h3 k a b) g hg).2⟩
end Lk
namespace Lk
open Go.RowKit Go.Maps
open Gr (Gram zAF zAY checkN)
open Im
open Au
theorem zMm{G}{q}(D:Done G q)(hv:checkN G=0){N}(hL:∀j,j<q.1.length->∀y,Clo G (zAK q.1 j) y->Lkd G q N j y){i}(hi:i<q.1.length){x}(hx:Clo G (zAK q.1 i) x)(hb:behB G x=false):(i,rep G x)∈N.pls:=by
 cases hx with
 |of h _=>
  by_cases h0:i=0
  ·subst h0;rw[D.ok.zero,List.mem_singleton]at h;subst h
   exfalso
   have hr:behB G ((G.rules.length:Int),0)=true:=by
    refine zAu.2 ⟨zBS (Nat.le_refl _),?_⟩;show(0:Int)<(rlen G (G.rules.length:Int):Int);unfold rlen;rw[(Gr.zA1 G).2];simp
   rw[hr]at hb;cases hb
  ·obtain⟨i',y,hi',hc,hb',hg,rfl⟩:=zHt D (by omega) hi h;obtain⟨k,_,⟨j,hj,z,_,hz,_⟩,_⟩:=hL i' hi' y hc hb';rw[hg]at hj;obtain rfl:i=j:=by omega
   have h2:=(zAS.1 (zAn hc)).2.1;rw[zCb (show((y.1,y.2+1):Itm).2≠0 from by dsimp only;omega)];exact List.mem_of_getElem? hz
 |next hc hb' hr=>
  rename_i y r;obtain⟨yr,yd⟩:=y;obtain⟨b1,b2⟩:=zAu.1 hb';obtain⟨c1,c2⟩:=zAS.1 b1;dsimp only at c1 c2 b2;obtain⟨n,rfl⟩:=Int.eq_ofNat_of_zero_le c1.1;obtain⟨d,rfl⟩:=Int.eq_ofNat_of_zero_le c2.1
  have hrb:zAY G (n:Int)=true:=by
   unfold zAY;exact decide_eq_true c1
  have hd:d<(zAF G (n:Int)).2.length:=by
   unfold rlen at b2;omega
  obtain⟨s1,s2⟩:=zB6 hrb hd;obtain⟨k1,k2⟩:=zBX hv hrb hd;rw[←s2]at k1;have hm:=(zHf (by omega)).2 hr;obtain⟨k,_,_,h3⟩:=hL i hi _ hc hb';obtain⟨z,_,hz,_⟩:=h3 (fun e=>by rw[e]at hm;cases hm);rw[zEx hm];exact List.mem_of_getElem? hz
theorem zQF(T)(base q)(y)(w:World)(hq:q=w.heap.size)(hb:base<=q):(w.alloc (.cells #[.int .i64 y.1,lks y] T)).ownsRow base T 2 (.slice (some ⟨q,0,none⟩) 1 1) 1 (lc y):=by
 subst hq;exact World.ownsRow_lit w #[.int .i64 y.1,lks y] 1 hb (by decide) (by simp)
theorem zBv:(Tryz.prog.info? 186).map (fun i=>(i.zero,i.size,i.bytes))=some (some (.agg #[.int .i64 0,.slice none 0 0]),2,32):=by kernel_rfl
theorem zGT(y):∀u∈lc y,u.oneCell'=true:=fun u hu=>by
 simp[lc,lks]at hu;rcases hu with rfl|rfl<;>rfl
theorem EndV.mono{b b'}{Y}{v}{w}(h:EndV b Y v w)(hb:b'<=b):EndV b' Y v w:=by
 obtain⟨X,h1,h2,h3⟩:=h;exact⟨X,Rw.zBd h1 hb,h2,fun k p1 p2=>Rw.zBd (h3 k p1 p2) hb⟩
def zL9(G:Gram)(q:Whole)(i:Nat)(w:World)(e:Ending)(w':World):Prop:=
 ∃a c,e=.returned (.slice a (zAo G q i).length c)/\EndV w.heap.size (zAo G q i) (.slice a (zAo G q i).length c) w'/\Below w.heap.size w w'
end Lk
namespace Lk
open Go.RowKit Go.Maps
open Gr (Gram cell_later zAC boxed drawn step zAF zAY)
open Im
open Au
open Bt (els zHv)
open Rw (zAH)
theorem zMx{X:List Lkx}{Y:List (Nat×List Nat)}(h:X.map (·.1)=Y.map fun y=>(y.1:Int)):X.length=Y.length:=by
 have:=congrArg List.length h
 simpa using this
theorem zHh{W}{K}{G}{q}{N}{S}(FX:Fix W K G q)(w)(h:NAt W K G q N S w)(L1:Lk1 G q N)(i r)(d)(hi:i<q.1.length)(hr:r<=G.rules.length)(hd0:0<=d)(hd1:d<=1000000){kk:Nat}(hk:N.pls[kk]?=some (i,rep G ((r:Int),d))):
  Calls Tryz.prog 116 #[.pointer (some ⟨K.p,0,none⟩),.int .i64 (i:Int),.agg #[.int .i64 (r:Int),.int .i64 d]] w (fun e w'=>e=.returned (.int .i64 (kk:Int))/\Below w.heap.size w w'):=by
 have SM:=Fi.zBG FX.ok;have hT:=SM.t;have hR:=SM.r;have hq:=FX.len;refine(zDe FX w h (Nat.le_trans (zBr FX.ok L1 hq) (by omega)) (by omega) i r d (by omega) hr (by omega) hd0 hd1).mono ?_;rintro e w' ⟨k,M,rfl,hM,hc,_⟩;have hin:=List.mem_of_getElem? hk;rcases hc with⟨_,rfl,hb⟩|⟨h1,_⟩
 ·refine⟨?_,hb⟩;have hl:=zAk hk;have hl2:=zAk hM;rw[List.getElem?_eq_getElem hl]at hk;rw[List.getElem?_eq_getElem hl2]at hM;injection hk with hk
  injection hM with hM
  have h1:=L1.nd.idxOf_getElem k hl2;have h2:=L1.nd.idxOf_getElem kk hl;rw[hM]at h1;rw[hk]at h2;rw[←h1,←h2]
 ·exact absurd hin h1
open Classical in
theorem zPe{W:World}{K:Fk}{G:Gram}{q:Whole}{N:Nt}{S:Nat->Prop}(FX:Fix W K G q)(w:World)(h:NAt W K G q N S w)(L1:Lk1 G q N)(hF:∀(k i:Nat) (c:Itm) (t:Nat),N.pls[k]?=some (i,c)->(N.S k t=true↔La G q i c (t:Int)))
  (hL:∀j,j<q.1.length->∀y,Clo G (zAK q.1 j) y->Lkd G q N j y) (htab:Bt.Tab w) (i:Nat) (hi:i<q.1.length):
  Calls Tryz.prog 117 #[.pointer (some ⟨K.p,0,none⟩),.int .i64 (i:Int)] w (zL9 G q i w):=by
 have CLO:=zV7 (zFB FX w h i hi);have CE:=zV7 (fun w1 (b:Below w.heap.size w w1) (r:Nat) (d:Int) (hr:r<=G.rules.length) (hd0:0<=d) (hd1:d<=1000000) (kk:Nat) (hk:N.pls[kk]?=some (i,rep G ((r:Int),d)))=>zHh FX w1 (h.went b) L1 i r d hi hr hd0 hd1 hk);obtain⟨lab,cv,qv,h,_⟩:=h;obtain⟨aC,cC,rfl⟩:=Rw.zAG h.row;have F:=zV7 (fun w1 (b:Below w.heap.size w w1)=>FX.at_ w1 (h.went b).fr);have P:=zV7 (fun w1 (b:Below w.heap.size w w1)=>(h.went b).eight);have CC:=zV7 (fun w1 (b:Below w.heap.size w w1) (k:Nat) (hk:k<N.pls.length)=>(h.went b).cell hk)
 have LI:=zV7 (fun w1 (b:Below w.heap.size w w1) (k:Nat) (hk:k<N.pls.length) (x:Itm) (hx:N.pls[k]?=some (i,rep G x)) (hr:zAY G x.1=true)=>(show Calls Tryz.prog 141 #[.pointer (some ⟨N.D k,0,none⟩)] w1 (fun e w'=>∃a c,e=.returned (.slice a (laL G q i x).length c)/\w'.ownsRow w1.heap.size 3 1 (.slice a (laL G q i x).length c) (laL G q i x).length (nivs (laL G q i x))/\Below w1.heap.size w1 w')from by
  have hs:=(h.went b).sets k hk;refine(Bt.zEt w1 (.at_ hs) (htab.below b htab.pos)).mono ?_;rintro e w' ⟨v,rfl,h1,h2⟩
  have he:els (N.S k)=laL G q i x:=by
   rw[zHv (Bt.SetV.upto (.at_ hs))];unfold laL;refine List.filter_congr fun t _=>?_
   rw[Bool.eq_iff_iff,hF k i _ t hx,zKE FX.ok hr,decide_eq_true_iff]
  rw[he]at h1;obtain⟨a,c,rfl⟩:=Rw.zAG h1
  exact⟨a,c,rfl,h1,h2⟩))
 have SM:=Fi.zBG FX.ok;have hR:=SM.r;have hq:=FX.len;have hWs:W.heap.size<=w.heap.size:=h.fr.size;have CLm:=zV7 (fun x=>zE9 FX.done FX.ok hi x);have EP:=zV7 (fun x hx hb=>zMm FX.done FX.ok hL hi (x:=x) hx hb);have hcl:(cloL G (zAK q.1 i) (zB7 q i)).length<=2709:=Nat.le_trans (zCJ (zEA FX.done FX.ok hi) (M:=allI G) fun x hx=>zCW (zAn ((CLm.out x).1 hx))) (zBE FX.ok);have SO:=zV7 (fun(base:Nat) (X Y:List Lkx) (v:Value) (w1 w2:World) (e:EndI G q i base (cloL G (zAK q.1 i) (zB7 q i)) X v w1)=>e.sorted FX.done FX.ok hi (Y:=Y) (w2:=w2));have RS:=zV7 (fun w1 (F:FixAt K G q w1) (r:Nat) (hr:r<=G.rules.length)=>F.rules r hr);have CLr:=zV7 (fun x hx=>(zFC ((zE9 FX.done FX.ok hi x).1 hx)));have hrs:=fun(r:Nat) (hr:r<=G.rules.length)=>zCN FX.ok (r:=r) hr
 have hKp:K.p<w.heap.size:=h.lab_lt h.lp (by intro e;cases e);have hgC:∀g,aC=some ⟨g,0,none⟩->g<w.heap.size:=fun g e=>h.lab_lt (h.lr g (by rw[e];rfl)) (by intro e;cases e)
 obtain⟨i0,hj,hz0,hz1,hz2⟩:=info_parts zBv;unfold zL9;clear h htab L1 hF hL;generalize cloL G (zAK q.1 i) (zB7 q i)=L at*;go_enter Tryz.func117,Tryz.ntmps117;go_wp2_with (go_at_call 113;refine CLO.out.mono ?_;rintro e w1 ⟨aL,cL,rfl,h1,h2⟩;have V1:=zV7 h1;have B1:=zV7 h2;clear h1 h2);go_loopw [5,12] (fun v t wr=>∃(j:Nat) (X:List Lkx) (a:Option Addr) (c:Nat),t=.int .i64 j/\j<=L.length/\v=.slice a X.length c/\EndI G q i w1.heap.size (L.take j) X v wr/\Below w1.heap.size w1 wr) (fun _ t _=>L.length-(intOf t).toNat)
 case atStart=>exact⟨0,[],none,0,rfl,Nat.zero_le _,rfl,EndI.nil G q i _ _,.refl _ _⟩
 case round=>
  obtain⟨j,X,a,c,rfl,hj1,rfl,hE,hB⟩:=hrel;have E:=zV7 hE;have B:=zV7 (B1.out.trans (hB.mono B1.out.size));have BL:=zV7 hB;clear hE hB;have hXl:X.length<=2709:=Nat.le_trans E.out.len (by rw[List.length_take];omega)
  by_cases hlt:j<L.length
  ·have hxm:=List.getElem_mem hlt;have hxc:=(CLm.out _).1 hxm;have EPx:=zV7 (EP.out _ hxc);obtain⟨⟨r0,r1⟩,d0,d1⟩:=zAS.1 (zAn hxc);have hxs:L.take (j+1)=L.take j++[L[j]]:=by rw[List.take_succ_eq_append_getElem hlt]
   have hxe:=CLr.out _ hxm;obtain⟨b2,o2,rfl,t0,t1⟩:=(V1.out.went BL.out).reads.at j hlt;generalize L[j]=x at*;obtain⟨xr,xd⟩:=x;dsimp only at r0 r1 d0 d1 t0 t1;obtain⟨r,rfl⟩:=Int.eq_ofNat_of_zero_le r0;obtain⟨d,rfl⟩:=Int.eq_ofNat_of_zero_le d0;have hrr:r<=G.rules.length:=by omega
   have hrb:zAY G (r:Int)=true:=by unfold zAY;exact decide_eq_true ⟨r0,r1⟩
   have hrl:rlen G (r:Int)=(zAF G (r:Int)).2.length:=rfl;have hrs1:=hrs r hrr;rw[hrl]at d1 hrs1;have bx:Below wr.heap.size wr (wr.alloc (.cells #[.int .i64 (r:Int),.int .i64 (d:Int)] 181)):=boxed _ _;have x0:(wr.alloc (.cells #[.int .i64 (r:Int),.int .i64 (d:Int)] 181)).cell? ⟨wr.heap.size,0,none⟩=some (.int .i64 (r:Int)):=zAC rfl rfl;have x1:(wr.alloc (.cells #[.int .i64 (r:Int),.int .i64 (d:Int)] 181)).cell? ⟨wr.heap.size,1,none⟩=some (.int .i64 (d:Int)):=zAC rfl rfl;have BX:=zV7 bx;have Bx:=zV7 (Gr.step B.out bx);obtain⟨_,_,p2,_,_,p5,_,_⟩:=P.out _ Bx.out;obtain⟨aR,cR,_,f1,_⟩:=RS.out _ (F.out _ Bx.out) r hrr;have hri:(r:Int)<((G.rules.length+1:Nat):Int):=by omega
   have hri2:(r:Int)<(G.rules.length:Int)+1:=by omega
   have hsz:=B.out.size;clear bx;go_wp2_with fail;generalize wr.alloc (.cells #[.int .i64 (r:Int),.int .i64 (d:Int)] 181)=wx at*;go_region;have kA0:=drawn wx;have BX1:=zV7 (BX.out.drew);have Bx1:=zV7 (Bx.out.drew)
   by_cases hde:d=(zAF G (r:Int)).2.length
   ·have hb:behB G ((r:Int),(d:Int))=false:=by
     cases e:behB G ((r:Int),(d:Int))with
     |false=>rfl
     |true=>
      have:=(zAu.1 e).2;dsimp only at this;omega
    have hex:((r:Int),(d:Int))=endI G r:=by unfold endI;rw[hde]
    have hin:=EPx.out hb;obtain⟨kk,hkl,hkk⟩:=List.getElem_of_mem hin;have hkk:N.pls[kk]?=some (i,rep G ((r:Int),(d:Int))):=by rw[List.getElem?_eq_getElem hkl,hkk]
    obtain⟨g,cg,eg,_,_,g0,_,_,_⟩:=CC.out _ Bx1.out kk hkl;injection eg with eg _ ecg
    subst eg;subst ecg;have hgl:=hgC g rfl;have CEx:=zV7 (fun w1 (b:Below w.heap.size w w1)=>CE.out w1 b r (d:Int) hrr (by omega) (by omega) kk hkk);have LIx:=zV7 (fun w1 (b:Below w.heap.size w w1)=>LI.out w1 b kk hkl _ hkk hrb);have hkki:(kk:Int)<(N.pls.length:Int):=by omega
    have hkk0:(0:Int)<=(kk:Int):=by omega
    have gx:wx.cell? ⟨g,kk*3,none⟩=some (.pointer (some ⟨N.D kk,0,none⟩)):=by simpa using g0
    have hw1r:=BL.out.size;have kA:Below wx.heap.size wx wx.drew.drew:=Gr.step (drawn wx) (drawn _);rw[hex]at LIx
    have hla:(laL G q i (endI G r)).length<=1000000:=by
     unfold laL;refine Nat.le_trans (List.length_filter_le _ _) ?_;rw[List.length_range];have:=SM.t;omega
    generalize hLL:laL G q i (endI G r)=T at*;have hgX:∀g2,a=some ⟨g2,0,none⟩->w1.heap.size<=g2/\g2<wr.heap.size:=fun g2 e=>World.ownsRow.lt E.out.row g2 (by rw[e];rfl)
    have hw1:=B1.out.size;have hvb:∀g2,(Value.slice a X.length c).ownBlock=some g2->w1.heap.size<=g2/\g2<wr.heap.size:=fun g2 e=>World.ownsRow.lt E.out.row g2 e
    have KD:=zV7 (fun(w8 w9:World) (b8:Below wx.heap.size wx w8) (hg:w8.grownBy w9 (Value.slice a X.length c).ownBlock)=>(show w9.cell? ⟨K.p,5,none⟩=some (.slice (some ⟨g,0,none⟩) N.pls.length cC)/\w9.cell? ⟨wr.heap.size,0,none⟩=some (.int .i64 (r:Int))/\w9.cell? ⟨wr.heap.size,1,none⟩=some (.int .i64 (d:Int))/\w9.cell? ⟨g,kk*3,none⟩=some (.pointer (some ⟨N.D kk,0,none⟩))from by
     have k:∀(p:Addr) u,wx.cell? p=some u->(∀g2,(Value.slice a X.length c).ownBlock=some g2->g2≠p.block)->w9.cell? p=some u:=fun p u hu hne=>by
      have hlt:=World.block_lt_of_cell? wx p hu;exact(World.cell?_of_block (hg.block p.block (Nat.lt_of_lt_of_le hlt b8.size) fun e=>hne _ e.symm rfl)).trans (cell_later b8 hu)
     refine⟨k _ _ p5 fun g2 e e2=>?_,k _ _ x0 fun g2 e e2=>?_,k _ _ x1 fun g2 e e2=>?_,k _ _ gx fun g2 e e2=>?_⟩<;>(have:=hvb g2 e;dsimp only at e2;omega)))
    have HQ:=zV7 (fun w' (b:Below wx.heap.size wx w')=>(show w'.cell? ⟨K.p,5,none⟩=some (.slice (some ⟨g,0,none⟩) N.pls.length cC)/\w'.cell? ⟨wr.heap.size,0,none⟩=some (.int .i64 (r:Int))/\w'.cell? ⟨wr.heap.size,1,none⟩=some (.int .i64 (d:Int))/\w'.cell? ⟨g,kk*3,none⟩=some (.pointer (some ⟨N.D kk,0,none⟩))from⟨cell_later b p5,cell_later b x0,cell_later b x1,cell_later b gx⟩))
    have FN:=zV7 (fun(w8:World) (a8:Option Addr) (c8:Nat) (w7:World) (b7:Below wx.heap.size wx w7) (h8:w8.ownsRow w7.heap.size 3 1 (.slice a8 T.length c8) T.length (nivs T)) (b8:Below wx.heap.size wx w8)=>(show
      (w8.alloc (.cells #[.int .i64 (r:Int),.slice a8 T.length c8] 186)).ownsRow w1.heap.size 186 2 (.slice a X.length c) X.length (X.flatMap lc)/\
      (w8.alloc (.cells #[.int .i64 (r:Int),.slice a8 T.length c8] 186)).ownsRow w1.heap.size 186 2 (.slice (some ⟨w8.heap.size,0,none⟩) 1 1) 1 [.int .i64 (r:Int),.slice a8 T.length c8]/\
      ∀w9 v',w9.ownsRow w1.heap.size 186 2 v' (X.length+1) (X.flatMap lc++[.int .i64 (r:Int),.slice a8 T.length c8])->(w8.alloc (.cells #[.int .i64 (r:Int),.slice a8 T.length c8] 186)).grownBy w9 (Value.slice a X.length c).ownBlock->(v'.ownBlock=(Value.slice a X.length c).ownBlock\/v'.ownBlock=some (w8.alloc (.cells #[.int .i64 (r:Int),.slice a8 T.length c8] 186)).heap.size)->
       EndI G q i w1.heap.size (L.take (j+1)) (X++[((r:Int),a8,T.length,c8)]) v' w9/\Below w1.heap.size w1 w9 from by
     have ba:=boxed w8 (.cells #[.int .i64 (r:Int),.slice a8 T.length c8] 186);have bwa:Below wr.heap.size wr (w8.alloc (.cells #[.int .i64 (r:Int),.slice a8 T.length c8] 186)):=Gr.step (Gr.step BX.out b8) ba;refine⟨((E.out.went bwa).row),zQF 186 w1.heap.size w8.heap.size ((r:Int),a8,T.length,c8) w8 rfl (Nat.le_trans hw1r (Nat.le_trans BX.out.size b8.size)),fun w9 v' hown hg hv=>⟨?_,?_⟩⟩
     ·rw[hxs,hex];rw[hex]at hb;refine E.out.snoc hb (y:=((r:Int),a8,T.length,c8)) rfl bwa hw1r ?_ hown hg (hv.imp id fun e g2 e2=>?_)
      ·rw[hLL];exact Sep.zAE (Rw.zBd h8 (Nat.le_trans BX.out.size b7.size)) fun g2 e=>ba.block g2 (World.ownsRow.lt h8 g2 e).2
      ·rw[e]at e2;injection e2 with e2
       omega
     ·have b9:Below w1.heap.size w1 (w8.alloc (.cells #[.int .i64 (r:Int),.slice a8 T.length c8] 186)):=BL.out.trans (bwa.mono hw1r)
      exact b9.trans ⟨hg.os,hg.tape,hg.output,hg.size,fun k hk=>hg.block k (Nat.lt_of_lt_of_le hk b9.size) fun e=>by
       have:=(hvb k e.symm).1
       omega⟩))
    clear CE LI E B V1 P F RS CLm CLr hex hb hLL hxs hxe;generalize (zAF G (r:Int)).2.length=ln at*;subst hde;go_wp2_with fail
    go_region_held3 (fun w'=>w'.cell? ⟨K.p,5,none⟩=some (.slice (some ⟨g,0,none⟩) N.pls.length cC)/\w'.cell? ⟨wr.heap.size,0,none⟩=some (.int .i64 (r:Int))/\w'.cell? ⟨wr.heap.size,1,none⟩=some (.int .i64 (d:Int))/\w'.cell? ⟨g,kk*3,none⟩=some (.pointer (some ⟨N.D kk,0,none⟩)))
     (first|assumption|exact HQ.out _ (by assumption)|exact HQ.out _ (Below.alloc (by assumption) (Below.size (by assumption)) _))
     (first
      |(go_at_call 116;(with_reducible refine(CEx.out _ (Bx.out.trans (kA.mono Bx.out.size))).mono ?_);rintro e w7 ⟨rfl,hb7⟩;have k7:Below wx.heap.size wx w7:=Gr.step kA hb7;clear hb7)
      |(go_at_call 141;((with_reducible refine(LIx.out _ (Bx.out.trans (k7.mono Bx.out.size))).mono ?_);rintro e w8 ⟨a8,c8,rfl,h8,hb8⟩;have k8:Below wx.heap.size wx w8:=Gr.step k7 hb8;obtain⟨hr1,hr2,hr3⟩:=FN.out w8 a8 c8 w7 k7 h8 k8;have R1:=zV7 hr1;have R2:=zV7 hr2;have R3:=zV7 hr3;have hs8:w1.heap.size<=(w8.alloc (.cells #[.int .i64 (r:Int),.slice a8 T.length c8] 186)).heap.size:=Nat.le_trans hw1r (Nat.le_trans BX.out.size (Nat.le_trans k8.size (by simp)));clear hr1 hr2 hr3 h8 hb8))
      |(refine zAH _ (by rfl) _ _ 145 (by rfl) w1.heap.size 186 i0 (.agg #[.int .i64 0,.slice none 0 0]) 2 32 Tryz.underlying145 hj hz0 hz1 hz2 rfl (by decide) (.slice a X.length c) X.length (X.flatMap lc) (by rfl) R1.out w1.heap.size (.slice (some ⟨w8.heap.size,0,none⟩) 1 1) 1 [.int .i64 (r:Int),.slice a8 T.length c8] (by rfl) R2.out (zGT ((r:Int),a8,T.length,c8)) (by unfold maxLen;omega) (by omega) hs8 ?_;intro v9 w9 hown9 hg9 hloc9;have kd:=KD.out _ w9 (Gr.step k8 (boxed _ _)) hg9;have R9:=zV7 (R3.out w9 v9 hown9 hg9 hloc9);obtain⟨a9,c9,rfl⟩:=Rw.zAG hown9;clear hown9 hg9 hloc9)
      |fail)
    go_wp2_with fail;go_roundw
    case rel=>exact⟨j+1,X++[((r:Int),a8,T.length,c8)],a9,c9,by go_num,by omega,by rw[List.length_append];rfl,R9.out.1,R9.out.2⟩
    case measure=>simp[intOf];omega
   ·have hb:behB G ((r:Int),(d:Int))=true:=zAu.2 ⟨zAS.2 ⟨⟨r0,r1⟩,d0,by dsimp only;omega⟩,by dsimp only;omega⟩;go_wp2_with fail;go_roundw
    case rel=>exact⟨j+1,X,a,c,by go_num,by omega,rfl,by rw[hxs];exact(E.out.went BX1.out).skip hb,BL.out.trans (BX1.out.mono BL.out.size)⟩
    case measure=>simp[intOf];omega
  ·have hjl:j=L.length:=by omega
   subst hjl;have E2:=zV7 (show EndI G q i w1.heap.size L X (.slice a X.length c) wr from by have:=E.out;rwa [List.take_length]at this);go_wp2_with (go_at_call 142;(refine(zRG w1.heap.size X a c wr E2.out.row (by omega)).mono ?_;rintro e w9 ⟨rfl,Y,hp,hs,hr,hg⟩;have V9:=zV7 (SO.out _ _ _ _ _ _ E2.out hp (hs.imp fun h=>Int.not_lt.1 h) hr hg);have G9:=zV7 hg;clear hp hs hr hg));go_ret
   have hl:X.length=(zAo G q i).length:=by
    obtain⟨Z,z1,z2,z3⟩:=V9.out;have:=Rw.zAG z1;obtain⟨a',c',e⟩:=this;injection e with _ e
    rw[e];exact zMx z2
   have hb9:Below w.heap.size w w9:=B.out.trans ⟨G9.out.os,G9.out.tape,G9.out.output,G9.out.size,fun k hk=>G9.out.block k (Nat.lt_of_lt_of_le hk B.out.size) fun e=>by
    have:=(World.ownsRow.lt E2.out.row k e.symm).1;have:=B1.out.size
    omega⟩
   rw[hl]at V9;exact⟨a,c,(by show Ending.returned (Value.slice a X.length c)= _;rw[hl]),V9.out.mono B1.out.size,hb9⟩
end Lk
namespace Au
open Gr (Gram checkN zAl zB1 top)
open Im
theorem zCw{G}(hv:checkN G=0):top G<=240:=by
 have h:=(zAl hv).1;unfold zB1 at h;simp only[Bool.or_eq_false_iff,decide_eq_false_iff_not]at h;unfold top;omega
structure Ent (G:Gram) (X:List Sta):Prop where
 hv:checkN G=0
 small:Small X
 len:X.length<=2000
 right:∀s∈X,Srt s.1/\∀x∈s.1,zAI G x=true
 «to»:∀k (h:k<X.length) j (h':j<X[k].2.length),∃n:Nat,X[k].2[j].2=(n:Int)/\∃hn:n<X.length,∀x∈X[n].1,zI0 G X[k].2[j].1 x
 early:∀t,0<t->t<X.length->∃k,∃h:k<X.length,∃j,∃h':j<X[k].2.length,k<t/\X[k].2[j].2=(t:Int)
 some:∀t (h:t<X.length),X[t].1≠[]
 spells:∀i (hi:i<X.length) (r:Int),Gr.zAY G r=true->(Gr.zAF G r).2.length≠0->Clo G X[i].1 (r,0)->∃j:Nat,∃hj:j<X.length,zGD X (i:Int) (Gr.zAF G r).2=(j:Int)/\(r,((Gr.zAF G r).2.length:Int))∈X[j].1
theorem zUU{G}{X:List Sta}(h:Built G 0 X):Ent G X:=by
 generalize he:(0:Int)=e at h;cases h with
 |bad hb=>exact absurd he.symm hb
 |many _ _ _=>cases he
 |all hv hs hf=>
  rename_i n;have D:=hs.done hf;generalize runs G (top G) n=q at*;have hl:=zAv D.all
  have at1:∀i (h:i<(states q).length),(states q)[i]=(zAK q.1 i,q.2.getD i []):=fun i h=>by
   have:=zCO D.all (i:=i) (by omega);rw[List.getElem?_eq_getElem h,Option.some.injEq]at this;exact this
  have good:∀s∈states q,s.1∈q.1:=fun s hs=>by
   obtain⟨i,hi,rfl⟩:=List.mem_iff_getElem.1 hs;rw[at1 i hi];exact zBD (by omega)
  have hr:∀s∈states q,Srt s.1/\∀x∈s.1,zAI G x=true:=fun s hs=>(D.ok.good _ (good s hs)).2
  refine⟨hv,⟨by omega,fun s hs=>?_,fun s hs=>?_⟩,by omega,hr,fun k h j h'=>?_,fun t h0 ht=>?_,fun t ht=>?_,fun i hi r hr h0 hx=>?_⟩
  ·have:=Nat.le_trans (zHO (hr s hs).1 (hr s hs).2) (zBE hv);omega
  ·obtain⟨i,hi,rfl⟩:=List.mem_iff_getElem.1 hs;rw[at1 i hi];have hi2:i<q.2.length:=by rw[D.all];omega
   rw[←zN2 D.ok hi2];have:=zN3 q.2 (i:Int) (top G+1);have:=zCw hv;dsimp only;omega
  ·have hk:k<q.1.length:=by omega
   have e2:(states q)[k].2=q.2.getD k []:=by rw[at1 k h]
   have hm:(states q)[k].2[j]∈q.2.getD k []:=by
    rw[←e2];exact List.getElem_mem h'
   obtain⟨n,h1,h2,h3⟩:=D.enters hk (s:=(states q)[k].2[j].1) (t:=(states q)[k].2[j].2) hm;refine⟨n,h1,by omega,?_⟩;rw[at1 n (by omega)];exact h3
  ·obtain⟨k,s,h1,h2⟩:=D.early h0 (by omega);have hk:k<(states q).length:=by omega
   have e2:(states q)[k].2=q.2.getD k []:=by rw[at1 k hk]
   rw[←e2]at h2;obtain⟨j,hj,e⟩:=List.mem_iff_getElem.1 h2;exact⟨k,hk,j,hj,h1,by rw[e]⟩
  ·rw[at1 t ht];exact D.some (by omega)
  ·rw[at1 i hi]at hx;obtain⟨j,h1,h2,h3⟩:=D.spells hv (i:=i) (by omega) hr h0 (((zF5 _ _).2 _).2 hx);refine⟨j,by omega,?_,by rw[at1 j (by omega)];exact h3⟩;rw[←hl,zOz (fun i h=>by rw[at1 i h])]at h2;exact h2
end Au
namespace Lk
open Go.RowKit Go.Maps
open Gr (Gram checkN)
open Im
open Au
def EndO(base:Nat)(Y:List (Nat×List Nat))(v:Value)(w:World)(o:Option Nat):Prop:=
 ∃X:List Lkx,LksV base X v w/\X.map (·.1)=Y.map (fun y=>(y.1:Int))/\(∀k (h:k<X.length) (h':k<Y.length),zMJ base X[k] Y[k].2 w)/\(∀g,v.ownBlock=some g->o≠some g)/\∀k (h:k<X.length) (h':k<Y.length),∀g,(lks X[k]).ownBlock=some g->o≠some g
section
variable {base:Nat} {Y:List (Nat×List Nat)} {v:Value} {w w':World} {o o':Option Nat}
theorem EndO.endV(h:EndO base Y v w o):EndV base Y v w:=by
 obtain⟨X,h1,h2,h3,_⟩:=h;exact⟨X,h1,h2,h3⟩
theorem EndV.endO(h:EndV base Y v w)(ho:∀g,o=some g->g<base):EndO base Y v w o:=by
 obtain⟨X,h1,h2,h3⟩:=h;refine⟨X,h1,h2,h3,fun g e e2=>?_,fun k a b g e e2=>?_⟩
 ·have p1:=(World.ownsRow.lt h1 g e).1;have p2:=ho g e2;omega
 ·have p1:=(World.ownsRow.lt (h3 k a b) g e).1;have p2:=ho g e2;omega
theorem EndO.mono{b'}(h:EndO base Y v w o)(hb:b'<=base):EndO b' Y v w o:=by
 obtain⟨X,h1,h2,h3,h4⟩:=h;exact⟨X,Rw.zBd h1 hb,h2,fun k a b=>Rw.zBd (h3 k a b) hb,h4⟩
theorem EndO.keep(h:EndO base Y v w o)(hg:w.grownBy w' o):EndO base Y v w' o:=by
 obtain⟨X,h1,h2,h3,h4,h5⟩:=h;exact⟨X,Sep.zAE h1 fun g e=>hg.block g (World.ownsRow.lt h1 g e).2 fun e2=>h4 g e e2.symm,h2,fun k a b=>Sep.zAE (h3 k a b) fun g e=>hg.block g (World.ownsRow.lt (h3 k a b) g e).2 fun e2=>h5 k a b g e e2.symm,h4,h5⟩
theorem EndO.went(h:EndO base Y v w o)(hb:Below w.heap.size w w'):EndO base Y v w' o:=by
 obtain⟨X,h1,h2,h3,h4⟩:=h;exact⟨X,Sep.zAE h1 fun g e=>hb.block g (World.ownsRow.lt h1 g e).2,h2,fun k a b=>Sep.zAE (h3 k a b) fun g e=>hb.block g (World.ownsRow.lt (h3 k a b) g e).2,h4⟩
theorem EndO.turn(h:EndO base Y v w o)(ho:∀g,o'=some g->w.heap.size<=g):EndO base Y v w o':=by
 obtain⟨X,h1,h2,h3,_⟩:=h;refine⟨X,h1,h2,h3,fun g e e2=>?_,fun k a b g e e2=>?_⟩
 ·have p1:=(World.ownsRow.lt h1 g e).2;have p2:=ho g e2;omega
 ·have p1:=(World.ownsRow.lt (h3 k a b) g e).2;have p2:=ho g e2;omega
end
theorem EndO.grow{base}{Y}{v}{w w'}{o o'}(h:EndO base Y v w o)(hg:w.grownBy w' o)(hr:o'=o\/∀g,o'=some g->w.heap.size<=g):EndO base Y v w' o':=by
 rcases hr with r|r
 ·rw[r];exact h.keep hg
 ·obtain⟨X,h1,h2,h3,h4,h5⟩:=h;refine⟨X,Sep.zAE h1 fun g e=>hg.block g (World.ownsRow.lt h1 g e).2 fun e2=>h4 g e e2.symm,h2,fun k a b=>Sep.zAE (h3 k a b) fun g e=>hg.block g (World.ownsRow.lt (h3 k a b) g e).2 fun e2=>h5 k a b g e e2.symm,fun g e e2=>?_,fun k a b g e e2=>?_⟩
  ·have p1:=(World.ownsRow.lt h1 g e).2;have p2:=r g e2;omega
  ·have p1:=(World.ownsRow.lt (h3 k a b) g e).2;have p2:=r g e2;omega
theorem zOJ(V)(i)(u:Value):(List.range (i+1)).map (upd V i u)=(List.range i).map V++[u]:=by
 rw[List.range_succ,List.map_append,List.map_cons,List.map_nil,upd_same]
 congr 1
 refine List.map_congr_left fun k hk=>zAB ?_
 have:=List.mem_range.1 hk;omega
structure LsI (G:Gram) (q:Whole) (base i:Nat) (V:Nat->Value) (v:Value) (w:World):Prop where
 row:w.ownsRow base 145 1 v i ((List.range i).map V)
 ends:∀k,k<i->EndO base (zAo G q k) (V k) w v.ownBlock
theorem LsI.nil(G)(q)(base)(V)(w):LsI G q base 0 V (.slice none 0 0) w:=⟨World.ownsRow_nil _ _ _ _,fun k hk=>absurd hk (Nat.not_lt_zero k)⟩
theorem LsI.snoc{G}{q}{base i}{V}{v v' u}{w w1 w2}(h:LsI G q base i V v w)(hz:base<=w.heap.size)(hw:Below w.heap.size w w1)(hE:EndV w.heap.size (zAo G q i) u w1)(hown:w2.ownsRow base 145 1 v' (i+1) ((List.range i).map V++[u]))(hg:w1.grownBy w2 v.ownBlock)(hv:v'.ownBlock=v.ownBlock\/∀g,v'.ownBlock=some g->w1.heap.size<=g):
  LsI G q base (i+1) (upd V i u) v' w2:=by
 refine⟨by rw[zOJ];exact hown,fun k hk=>?_⟩
 have h1:EndO base (zAo G q k) (upd V i u k) w1 v.ownBlock:=by
  by_cases e:k=i
  ·subst e;rw[upd_same];exact(hE.endO fun g e=>(World.ownsRow.lt h.row g e).2).mono hz
  ·rw[zAB e];exact(h.ends k (by omega)).went hw
 exact h1.grow hg hv
def AllV(base:Nat)(Ys:List (List (Nat×List Nat)))(v:Value)(w:World):Prop:=
 ∃V:Nat->Value,w.ownsRow base 145 1 v Ys.length ((List.range Ys.length).map V)/\∀k (h:k<Ys.length),EndV base Ys[k] (V k) w
theorem LsI.all{G}{q}{base}{V}{v}{w}(h:LsI G q base q.1.length V v w):AllV base (zCh G q) v w:=by
 refine⟨V,by rw[zBw];exact h.row,fun k hk=>?_⟩;have hk':k<q.1.length:=by rw[zBw]at hk;exact hk
 have e:(zCh G q)[k]=zAo G q k:=by simp[zCh]
 rw[e];exact(h.ends k hk').endV
theorem AllV.mono{b b'}{Ys}{v}{w}(h:AllV b Ys v w)(hb:b'<=b):AllV b' Ys v w:=by
 obtain⟨V,h1,h2⟩:=h;exact⟨V,Rw.zBd h1 hb,fun k hk=>(h2 k hk).mono hb⟩
inductive LookIs (G:Gram):Int->List (List (Nat×List Nat))->Prop
 |bad {er:Int}:Built G er []->er≠0->LookIs G er []
 |all {q:Whole}:checkN G=0->Done G q->q.1.length<=2000->Built G 0 (states q)->LookIs G 0 (zCh G q)
def zO7(G:Gram)(w:World)(e:Ending)(w':World):Prop:=
 ∃(er:Int) (Ys:List (List (Nat×List Nat))) (a:Option Addr) (c:Nat),e=.returned (.tuple #[.slice a Ys.length c,.int .i64 er])/\LookIs G er Ys/\AllV w.heap.size Ys (.slice a Ys.length c) w'/\Below w.heap.size w w'
theorem zE5{G}{X:List Sta}(h:Built G 0 X):Small X:=(zUU h).small
theorem zDS{G}{er}{X:List Sta}(h:Built G er X):(er≠0/\X=[]/\Built G er [])\/(er=0/\checkN G=0/\∃q,X=states q/\Done G q/\q.1.length<=2000/\Built G 0 (states q)):=by
 cases h with
 |bad h1=>exact .inl ⟨h1,rfl,.bad h1⟩
 |many h1 h2 h3=>exact .inl ⟨by decide,rfl,.many h1 h2 h3⟩
 |all h1 h2 h3=>exact .inr ⟨rfl,h1,_,rfl,h2.done h3,by omega,.all h1 h2 h3⟩
structure OfI (W:World) (K:Fk) (G:Gram) (q:Whole) (S:Nat->Prop) (i j:Nat) (L:List Itm) (N:Nt) (T:Nat->Prop) (w:World):Prop where
 at_:NAt W K G q N T w
 fr:Sep.Fr S W w
 ext:Sep.Ext T S W
 lk:LkI G q N (2*(i*3000+j))
 past:∀k,k<i->∀x,Clo G (zAK q.1 k) x->Lkd G q N k x
 here:∀x∈L.take j,Lkd G q N i x
section
variable {W:World} {K:Fk} {G:Gram} {q:Whole} {S T:Nat->Prop} {i j:Nat} {L:List Itm} {N:Nt} {w w':World}
theorem OfI.went(h:OfI W K G q S i j L N T w)(hb:Below w.heap.size w w'):OfI W K G q S i j L N T w':=
 ⟨h.at_.went hb,h.fr.trans (.of_below hb) h.ext,h.ext,h.lk,h.past,h.here⟩
theorem OfI.open(h:OfI W K G q S i 0 [] N T w)(L):OfI W K G q S i 0 L N T w:=⟨h.at_,h.fr,h.ext,h.lk,h.past,fun x hx=>by cases hx⟩
theorem OfI.next(h:OfI W K G q S i L.length L N T w)(hl:L.length<=3000)(hm:∀x,Clo G (zAK q.1 i) x->x∈L):OfI W K G q S (i+1) 0 [] N T w:=
 ⟨h.at_,h.fr,h.ext,h.lk.mono (by omega),fun k hk x hx=>by
  by_cases e:k=i
  ·subst e;exact h.here x (by rw[List.take_length];exact hm x hx)
  ·exact h.past k (by omega) x hx,fun x hx=>by cases hx⟩
end
end Lk
namespace Lk
open Go.RowKit Go.Maps
open Gr (cell_later)
open Im
open Au
def EndR(a:Option Addr)(Y:List (Nat×List Nat))(w:World):Prop:=
 ∀k (h:k<Y.length),∃b a3 c3,a=some ⟨b,0,none⟩/\w.cell? ⟨b,k*2,none⟩=some (.int .i64 (Y[k].1:Int))/\w.cell? ⟨b,k*2+1,none⟩=some (.slice a3 Y[k].2.length c3)/\Sep.Reads a3 (nivs Y[k].2) w
def LkR(a:Option Addr)(Ys:List (List (Nat×List Nat)))(w:World):Prop:=
 ∀i (h:i<Ys.length),∃b a2 c2,a=some ⟨b,0,none⟩/\w.cell? ⟨b,i,none⟩=some (.slice a2 Ys[i].length c2)/\EndR a2 Ys[i] w
theorem EndR.went{a}{Y}{w w'}(h:EndR a Y w)(hb:Below w.heap.size w w'):EndR a Y w':=fun k hk=>by
 obtain⟨b,a3,c3,e,h1,h2,h3⟩:=h k hk;exact⟨b,a3,c3,e,cell_later hb h1,cell_later hb h2,h3.below hb (Nat.le_refl _)⟩
theorem LkR.went{a}{Ys}{w w'}(h:LkR a Ys w)(hb:Below w.heap.size w w'):LkR a Ys w':=fun i hi=>by
 obtain⟨b,a2,c2,e,h1,h2⟩:=h i hi;exact⟨b,a2,c2,e,cell_later hb h1,h2.went hb⟩
theorem zBW{w:World}{base n size}{e}{a}{c}{xs}(h:w.ownsRow base e size (.slice a n c) n xs)(hn:0<n):∃b,a=some ⟨b,0,none⟩:=by
 rcases h.2 with⟨_,h0⟩|⟨g,cap,cur,e1,_⟩
 ·omega
 ·simp only[Value.slice.injEq]at e1;exact⟨g,e1.1⟩
end Lk
namespace Ac
open Go.RowKit
theorem zBo{P}(w)(dT sT ty elem)(g o dLen dCap)(a)(sLen sCap K)(cur)(t)(cs)
  (hu:P.underlying dT=some (.slice elem)) (hs:(P.info? elem).map (·.size)=some K)
  (hg:w.heap[g]?=some (.cells cur t (0,0))) (hn:cs.length=Nat.min sLen dLen*K)
  (hsrc:∀j v,cs[j]?=some v->w.cell? (a.add j)=some v) (hfit:o+cs.length<=cur.size) (h1:∀v∈cs,v.oneCell'=true):
  (Builtin.copy_ #[dT,sT] ty #[.slice (some ⟨g,o,none⟩) dLen dCap,.slice (some a) sLen sCap]).run P w=
   .ok (goInt (Nat.min sLen dLen)) (w.setRow g (cur.toList.take o++cs++cur.toList.drop (o+cs.length)).toArray):=by
 have hl:=run_loadCells_list (P:=P) w a cs hsrc;have hst:=run_storeCells_at P g o t cs 0 cur w hg (by simpa using hfit) h1;cases hq:P.info? elem with
 |none=>simp[hq]at hs
 |some i=>
  have hi:i.size=K:=by simpa[hq]using hs
  simp[Builtin.copy_,run_underlying hu,Builtin.lenOf,Builtin.firstCells,sizeOf,typeInfo,hq,hi,←hn,hl,hst]
end Ac
namespace Au
open Gr (Gram checkN zE6 zDg plnS top ofN)
open Im
def cloS(G:Gram)(out:List Itm):List Itm:=out.foldl (fun o y=>if behB G y then adds o (ofN G (behV G y))else o) out
theorem zKK{G}{L}:∀(l out:List Itm),Mid G L out->(∀y∈l,Clo G L y)->Mid G L (l.foldl (fun o y=>if behB G y then adds o (ofN G (behV G y))else o) out)
 |[],out,h,_=>h
 |y::l,out,h,k=>by
  rw[List.foldl_cons];refine zKK l _ ?_ fun z hz=>k z (List.mem_cons_of_mem _ hz)
  split
  ·rename_i hb;exact h.adds (k y (List.mem_cons_self ..)) hb
  ·exact h
theorem zNg{G}{L out}(h:Mid G L out):Mid G L (cloS G out):=zKK out out h fun y hy=>h.sub y hy
def cloN(G:Gram):Nat->List Itm->List Itm
 |0,out=>out
 |n+1,out=>cloN G n (cloS G out)
theorem zGU{G}{L}:∀(n:Nat) (out:List Itm),Mid G L out->Mid G L (cloN G n out)
 |0,_,h=>h
 |n+1,_,h=>zGU n _ (zNg h)
def zU5(G:Gram)(out:List Itm):Bool:=out.all fun y=> !behB G y||(ofN G (behV G y)).all fun r=>decide (((r:Int),(0:Int))∈out)
theorem zTo{G}{out}(h:zU5 G out=true):Im.Shut G out:=fun y hy hb r hr=>by
 have h1:=List.all_eq_true.1 h y hy;rw[hb,Bool.not_true,Bool.false_or]at h1;exact of_decide_eq_true (List.all_eq_true.1 h1 r hr)
def srtB(l:List Itm):Bool:=decide (l.Pairwise ltP)
theorem zKk{l}(h:srtB l=true):Srt l:=of_decide_eq_true (p:=l.Pairwise ltP) h
theorem zDL{G}{L}(n)(h1:srtB L=true)(h2:(L.all fun x=>zAI G x)=true)(h3:zU5 G (cloN G n L)=true):Is (cloN G n L) (Clo G L):=
 (zGU n L (.start ⟨zKk h1,fun x=>⟨fun h=>⟨h,List.all_eq_true.1 h2 x h⟩,fun h=>h.1⟩⟩)).done (zTo h3)
def zTO(G:Gram)(c:List Itm)(s:Nat)(p:Half):Half:=
 if zBH G c s=[]then p else(if zBH G c s∈p.1 then p.1 else p.1++[zBH G c s],p.2++[((s:Int),((p.1++[zBH G c s]).idxOf (zBH G c s):Int))])
def zGW(G:Gram)(c:List Itm):Nat->Half->Half
 |0,p=>p
 |n+1,p=>zTO G c (n+1) (zGW G c n p)
theorem zNx{G}{c}(h:Srt c)(p):∀n,zDK G c n p=zGW G c n p
 |0=>rfl
 |n+1=>by
  rw[zCK,zNx h p n];show oneS G c (n+1) (zGW G c n p)=zTO G c (n+1) (zGW G c n p);unfold oneS zTO;rw[zKl h]
theorem zOO{G}{t}{q}{C}(hq)(hC:Is C (Clo G q.1[q.2.length])):rnd G t q=((zGW G C t (q.1,[])).1,q.2++[(zGW G C t (q.1,[])).2]):=by
 rw[zKb hq,(zF5 G q.1[q.2.length]).uniq hC,zNx hC.1]
def GB:Gram:={terms:=[⟨#[65]⟩,⟨#[66]⟩],nons:=[⟨#[115]⟩],rules:=[(3,[1,3]),(3,[2])],start:=3}
theorem zC5:checkN GB=0:=by
 refine zE6 (by decide+kernel) ?_ (by decide+kernel) (by decide+kernel) (by decide+kernel) (by decide+kernel);have h1:plnS ⟨#[65]⟩=true:=by decide+kernel
 have h2:plnS ⟨#[66]⟩=true:=by decide+kernel
 have h3:plnS ⟨#[115]⟩=true:=by decide+kernel
 simp[zDg,GB,h1,h2,h3]
abbrev k0:List Itm:=[(2,0)]
abbrev k1:List Itm:=[(0,1)]
abbrev k2:List Itm:=[(1,1)]
abbrev k3:List Itm:=[(2,1)]
abbrev k4:List Itm:=[(0,2)]
abbrev t0:List (Int×Int):=[(1,1),(2,2),(3,3)]
abbrev t1:List (Int×Int):=[(1,1),(2,2),(3,4)]
theorem rb0:runs GB (top GB) 0=([k0],[]):=rfl
theorem rb1:runs GB (top GB) 1=([k0,k1,k2,k3],[t0]):=by
 show rnd GB (top GB) (runs GB (top GB) 0)= _;rw[rb0,zOO (by decide) (zDL (L:=k0) 4 (by decide+kernel) (by decide+kernel) (by decide+kernel))]
 decide+kernel
theorem rb2:runs GB (top GB) 2=([k0,k1,k2,k3,k4],[t0,t1]):=by
 show rnd GB (top GB) (runs GB (top GB) 1)= _;rw[rb1,zOO (by decide) (zDL (L:=k1) 4 (by decide+kernel) (by decide+kernel) (by decide+kernel))]
 decide+kernel
theorem rb3:runs GB (top GB) 3=([k0,k1,k2,k3,k4],[t0,t1,[]]):=by
 show rnd GB (top GB) (runs GB (top GB) 2)= _;rw[rb2,zOO (by decide) (zDL (L:=k2) 4 (by decide+kernel) (by decide+kernel) (by decide+kernel))]
 decide+kernel
theorem rb4:runs GB (top GB) 4=([k0,k1,k2,k3,k4],[t0,t1,[],[]]):=by
 show rnd GB (top GB) (runs GB (top GB) 3)= _;rw[rb3,zOO (by decide) (zDL (L:=k3) 4 (by decide+kernel) (by decide+kernel) (by decide+kernel))]
 decide+kernel
theorem rb5:runs GB (top GB) 5=([k0,k1,k2,k3,k4],[t0,t1,[],[],[]]):=by
 show rnd GB (top GB) (runs GB (top GB) 4)= _;rw[rb4,zOO (by decide) (zDL (L:=k4) 4 (by decide+kernel) (by decide+kernel) (by decide+kernel))]
 decide+kernel
def XB:List (List Itm×List (Int×Int)):=[(k0,t0),(k1,t1),(k2,[]),(k3,[]),(k4,[])]
theorem zMU:Built GB 0 XB:=by
 have h:=Built.all (G:=GB) (n:=5) zC5 ⟨.inr (by rw[rb5];rfl),fun m hm=>by
  have:m=0\/m=1\/m=2\/m=3\/m=4:=by omega
  unfold Stop;rcases this with rfl|rfl|rfl|rfl|rfl
  ·rw[rb0];decide
  ·rw[rb1];decide
  ·rw[rb2];decide
  ·rw[rb3];decide
  ·rw[rb4];decide⟩ (by rw[rb5];decide)
 rw[rb5]at h;exact h
