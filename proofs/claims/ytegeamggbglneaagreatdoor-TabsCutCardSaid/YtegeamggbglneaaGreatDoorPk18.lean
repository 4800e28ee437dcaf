/- Proof. -/
import Derived.Test.YtegeamggbglneaaGreatDoorPk17
import Derived.Test.YtegeamggbglneaaGreatDoorPk14
import Derived.RangeFuncBox
set_option maxHeartbeats 8000000
set_option maxRecDepth 100000
set_option linter.unusedVariables false
namespace Go.Proofs.YtegeamggbglneaaGreatDoor
namespace Pk
open Go.RowKit Go.Maps
open Gr (boxed drawn bg)
theorem zWc:laidOutB Tryz.prog=true:=by kernel_rfl
theorem L8:123<Tryz.prog.types.size:=of_decide_eq_true (by kernel_rfl)
theorem zWl:1<=Tryz.prog.types.size:=of_decide_eq_true (by kernel_rfl)
theorem Lm:Keyed Tryz.prog 123:=.of_law (deep_law_laid zWc (m:=2) (by omega) L8 (by kernel_rfl) (by rw[Tryz.underlying123]))
theorem Sl:Kr Tryz.prog 123:=
 zWY _ _ Lm Tryz.underlying123 Tryz.underlying3 Tryz.underlying9 (by kernel_rfl) (by kernel_rfl) (by kernel_rfl) (by kernel_rfl) rfl rfl (by decide) (by decide) (Tryz.prog.types.size-1) (by have:=zWl;omega)
theorem zWt(w):(zeroValue 3).run Tryz.prog w=.ok (.int .i64 0) w:=by kernel_rfl
theorem GW:(Tryz.prog.info? 66).map (fun i=>(i.zero,i.size,i.bytes))=some (some (.slice none 0 0),1,24):=by kernel_rfl
abbrev RM:=fM Tryz.prog 123 3
structure bH (lo ps bm:Nat) (L:Nat->List (List Int)) (v:Nat->Value) (vs:Nat->List Value) (w:World):Prop where
 box:w.heap[ps]?=some (.cells #[.map (some bm),v 0,v 1] 64 (0,0))
 map:∃n X,n<=(L 0).length+(L 1).length/\RM bm n X w/\Told (L 0) (L 1) X
 row:∀k,k<2->w.ownsRow lo 66 1 (v k) (L k).length (vs k)
 ne:∀g,(v 0).ownBlock=some g->(v 1).ownBlock≠some g
 lp:lo<=ps
 lb:lo<=bm
def r9(ps bm:Nat)(v:Nat->Value)(x:Nat):Prop:=x=ps\/x=bm\/(v 0).ownBlock=some x\/(v 1).ownBlock=some x
def upd{α:Type}(f:Nat->α)(k:Nat)(a:α):Nat->α:=fun j=>if j=k then a else f j
theorem upd_same{α}(f)(k)(a:α):upd f k a k=a:=if_pos rfl
theorem bu{α}(f){k j}(a:α)(h:j≠k):upd f k a j=f j:=if_neg h
theorem Ef{α}(f:Nat->α)(k):upd f k (f k)=f:=by
 funext j
 unfold upd;split
 ·rename_i e;rw[e]
 ·rfl
section
variable {lo ps bm:Nat} {L:Nat->List (List Int)} {v:Nat->Value} {vs:Nat->List Value} {w w':World}
theorem bH.lt(h:bH lo ps bm L v vs w):ps<w.heap.size:=(Array.getElem?_eq_some_iff.1 h.box).1
theorem bH.went(h:bH lo ps bm L v vs w)(hb:Below w.heap.size w w'):bH lo ps bm L v vs w':=by
 obtain⟨n,X,h1,h2,h3⟩:=h.map;exact⟨(hb.block ps h.lt).trans h.box,⟨n,X,h1,h2.keep (hb.block bm h2.lt),h3⟩,fun k hk=>Sep.bS (h.row k hk) fun g e=>hb.block g ((h.row k hk).lt g e).2,h.ne,h.lp,h.lb⟩
theorem bH.map_cell(h:bH lo ps bm L v vs w):w.cell? ⟨ps,0,none⟩=some (.map (some bm)):=aF h.box (k:=0) (by simp)
theorem bH.qY(h:bH lo ps bm L v vs w){k}(hk:k<2):w.cell? ⟨ps,1+k,none⟩=some (v k):=by
 rcases(by omega:k=0\/k=1)with rfl|rfl
 ·exact aF h.box (k:=1) (by simp)
 ·exact aF h.box (k:=2) (by simp)
theorem bH.kJ(h:bH lo ps bm L v vs w):∃es c,w.heap[bm]?=some (.map es c):=by
 obtain⟨n,X,h1,⟨D,⟨es,c,h2,_⟩,_⟩,h3⟩:=h.map;exact⟨es,c,h2⟩
theorem bH.vP(h:bH lo ps bm L v vs w):ps≠bm:=fun e=>by
 obtain⟨es,c,h2⟩:=h.kJ;have:=h.box;rw[e,h2]at this;cases this
theorem Ed{base n}{T}{u}{xs}(h:w.ownsRow base T 1 u n xs){g}(hg:u.ownBlock=some g):∃cur,w.heap[g]?=some (.cells cur T (0,0)):=by
 rcases h.2 with⟨h0,_⟩|⟨g',cap,cur,h0,_,h1,_⟩
 ·rw[h0]at hg;cases hg
 ·rw[h0]at hg;injection hg with hg
  dsimp only at hg;subst hg;exact⟨cur,h1⟩
theorem bH.kS(h:bH lo ps bm L v vs w){k}(hk:k<2):(v k).ownBlock≠some ps:=fun e=>by
 obtain⟨cur,h1⟩:=Ed (h.row k hk) e;rw[h.box]at h1;injection h1 with h1
 injection h1 with _ h1 _
 exact absurd h1 (by decide)
theorem bH.qQ(h:bH lo ps bm L v vs w){k}(hk:k<2):(v k).ownBlock≠some bm:=fun e=>by
 obtain⟨cur,h1⟩:=Ed (h.row k hk) e;obtain⟨es,c,h2⟩:=h.kJ;rw[h2]at h1;cases h1
theorem bH.turned(h:bH lo ps bm L v vs w)(ht:w.mapTurned w' bm):w'.heap[ps]?=w.heap[ps]?/\(∀k,k<2->w'.ownsRow lo 66 1 (v k) (L k).length (vs k)):=by
 have hg:=ht.grown;refine⟨hg.block ps h.lt fun e=>h.vP (by injection e),fun k hk=>Sep.bS (h.row k hk) fun g e=>hg.block g ((h.row k hk).lt g e).2 fun e2=>?_⟩;injection e2 with e2
 exact h.qQ hk (e2▸e)
theorem bH.more{k}{r}{u}{w5 wa w7}(h:bH lo ps bm L v vs w)(hk:k<2)(hr:mH r)(hn:r∉L k){n}{X}(hX:Told (L 0) (L 1) X)(hnl:n<=(L 0).length+(L 1).length)
  (hm:RM bm (n+1) (fun y=>if y=(k,tx r)then some ((L k).length:Int)else X y) w5) (ht:w.mapTurned w5 bm) (hb:Below w5.heap.size w5 wa) {v'}
  (hown:w7.ownsRow lo 66 1 v' ((L k).length+1) (vs k++[u])) (hg:wa.grownBy w7 (v k).ownBlock) (hl:v'.ownBlock=(v k).ownBlock\/v'.ownBlock=some wa.heap.size):
  bH lo ps bm (upd L k (bZ (L k) r)) (upd v k v') (upd vs k (vs k++[u])) (w7.setCell ⟨ps,1+k,none⟩ v')/\Sep.Fr (r9 ps bm v) w (w7.setCell ⟨ps,1+k,none⟩ v')/\∀j x,(upd v k v' j).ownBlock=some x->(v j).ownBlock=some x\/w.heap.size<=x:=by
 obtain⟨t1,t2⟩:=h.turned ht;have hs5:=ht.grown.size;have hsa:=hb.size;have hlt:=h.lt;have Kz:w5.heap[ps]?= _:=t1.trans h.box;have KC:wa.heap[ps]?= _:=(hb.block ps (by omega)).trans Kz;have KA:w7.heap[ps]?= _:=(hg.block ps (by omega) fun e=>h.kS hk e.symm).trans KC;have kN:∀j,j<2->∀g,(v j).ownBlock=some g->g<w.heap.size:=fun j hj g e=>((h.row j hj).lt g e).2
 have Kb:=hm.lt;have mh:bZ (L k) r=L k++[r]:=(sA hn).1
 have hloc:∀x,v'.ownBlock=some x->(v k).ownBlock=some x\/w.heap.size<=x:=fun x e=>by
  rcases hl with h1|h1
  ·exact .inl (h1▸e)
  ·rw[h1]at e;injection e with e
   omega
 have KX:v'.ownBlock≠some ps:=fun e=>by
  rcases hl with h1|h1
  ·exact h.kS hk (h1▸e)
  ·rw[h1]at e;injection e with e
   omega
 have Cx:∀j,j<2->j≠k->w7.ownsRow lo 66 1 (v j) (L j).length (vs j):=fun j hj hjk=>Sep.bS (t2 j hj) fun g e=>by
  have h1:=kN j hj g e;refine(hg.block g (by omega) fun e2=>?_).trans (hb.block g (by omega));rcases(by omega:(j=0/\k=1)\/(j=1/\k=0))with⟨rfl,rfl⟩|⟨rfl,rfl⟩
  ·exact h.ne g e e2.symm
  ·exact h.ne g e2.symm e
 refine⟨⟨?_,?_,fun j hj=>?_,fun g e=>?_,h.lp,h.lb⟩,?_,fun j x e=>?_⟩
 ·rw[ft KA (k:=1+k)];rcases(by omega:k=0\/k=1)with rfl|rfl<;>rfl
 ·refine⟨n+1,_,?_,hm.keep ?_,?_⟩
  ·rcases(by omega:k=0\/k=1)with rfl|rfl
   ·rw[upd_same,bu _ _ (by decide),mh,List.length_append];simp only[List.length_cons,List.length_nil];omega
   ·rw[upd_same,bu _ _ (by decide),mh,List.length_append];simp only[List.length_cons,List.length_nil];omega
  ·rw[Below.heap_setCell _ _ _ _ (fun e=>h.vP e.symm)];exact(hg.block bm (by omega) fun e=>h.qQ hk e.symm).trans (hb.block bm Kb)
  ·rcases(by omega:k=0\/k=1)with rfl|rfl
   ·rw[upd_same,bu _ _ (by decide),mh];exact hX.LQ hr hn
   ·rw[upd_same,bu _ _ (by decide),mh];exact hX.LU hr hn
 ·by_cases e:j=k
  ·subst e;rw[upd_same,upd_same,upd_same,mh,List.length_append];exact Sep.bS hown fun g e=>Below.heap_setCell _ _ _ _ (fun e2=>KX (by rw[e];exact congrArg some e2))
  ·rw[bu _ _ e,bu _ _ e,bu _ _ e];exact Sep.bS (Cx j hj e) fun g e=>Below.heap_setCell _ _ _ _ (fun e2=>h.kS hj (by rw[e];exact congrArg some e2))
 ·intro e2;rcases(by omega:k=0\/k=1)with rfl|rfl
  ·rw[upd_same]at e;rw[bu _ _ (by decide)]at e2;have h1:=kN 1 (by decide) g e2;rcases hloc g e with h2|h2
   ·exact h.ne g h2 e2
   ·omega
  ·rw[upd_same]at e2;rw[bu _ _ (by decide)]at e;have h1:=kN 0 (by decide) g e;rcases hloc g e2 with h2|h2
   ·exact h.ne g e h2
   ·omega
 ·have f1:Sep.Fr (r9 ps bm v) w w5:=(Sep.Fr.refl _ _).grown ht.grown fun x e=> .inl (.inr (.inl (by injection e with e;exact e.symm)))
  have f2:Sep.Fr (r9 ps bm v) w wa:=f1.trans (.of_below hb) fun x hx=> .inl hx
  have f3:Sep.Fr (r9 ps bm v) w w7:=f2.grown hg fun x e=> .inl (by
   rcases(by omega:k=0\/k=1)with rfl|rfl
   ·exact .inr (.inr (.inl e))
   ·exact .inr (.inr (.inr e)))
  exact f3.setCell _ (.inl rfl) _
 ·by_cases e2:j=k
  ·subst e2;rw[upd_same]at e;exact hloc x e
  ·rw[bu _ _ e2]at e;exact .inl e
end
def Ie(lo ps bm:Nat)(L:Nat->List (List Int))(v:Nat->Value)(vs:Nat->List Value)(k:Nat)(r:List Int)(u:Value)(w:World)(e:Ending)(w':World):Prop:=
 e=.returned (.int .i64 (eQ (L k) r:Int))/\∃v',bH lo ps bm (upd L k (bZ (L k) r)) v' (upd vs k (if r∈L k then vs k else vs k++[u])) w'/\Sep.Fr (r9 ps bm v) w w'/\∀j x,(v' j).ownBlock=some x->(v j).ownBlock=some x\/w.heap.size<=x
theorem zVz{n:Nat}(h:n<=1000000):(Lit.int .i64 (n:Int)).wf=true:=by
 simp only[Lit.wf,IntKind.min,IntKind.max,IntKind.signed,IntKind.bits,Bool.and_eq_true,decide_eq_true_eq,if_true];omega
theorem yM(base)(w:World)(u)(T)(hb:base<=w.heap.size)(q)(hq:q=w.heap.size):(w.alloc (.cells #[u] T)).ownsRow base T 1 (.slice (some ⟨q,0,none⟩) 1 1) 1 [u]:=by
 subst hq;exact World.ownsRow_lit w #[u] 1 hb (by decide) (by simp)
theorem MP{lo ps bm:Nat}{L:Nat->List (List Int)}{v:Nat->Value}{vs:Nat->List Value}(w:World)(h:bH lo ps bm L v vs w)(k:Nat)(hk:k<2)(r:List Int)(a:Option Addr)(c:Nat)(hR:fy a r w)(hr:mH r)(hl:∀k,k<2->(L k).length<=100000):
  Calls Tryz.prog 28 #[.pointer (some ⟨ps,0,none⟩),.int .i64 (k:Int),.slice a r.length c] w (Ie lo ps bm L v vs k r (.slice a r.length c) w):=by
 have TX:=af (zRy r a c w hR hr);have H0:=af h;have hok:=zWr hr k (by omega);have hlk:=hl k hk;have hl0:=hl 0 (by decide);have iJ:=hl 1 (by decide);have hk2:(k:Int)<2:=by omega
 have hlo:lo<=w.heap.size:=Nat.le_trans h.lp (Nat.le_of_lt h.lt);obtain⟨i0,hj,hz0,hz1,hz2⟩:=info_parts GW;have HR:=af hr;clear hR h hr hl;go_enter Tryz.func28,Tryz.ntmps28;go_wp2_with (go_at_call 76;refine TX.out.mono ?_;rintro e w2 ⟨rfl,hb2⟩;have B2:=af hb2;clear hb2);have b3:=boxed w2 (.cells #[.int .i64 (k:Int),.string (tx r)] 123);have c0:(w2.alloc (.cells #[.int .i64 (k:Int),.string (tx r)] 123)).cell? ⟨w2.heap.size,0,none⟩=some (.int .i64 (k:Int)):=bg rfl rfl;have c1:(w2.alloc (.cells #[.int .i64 (k:Int),.string (tx r)] 123)).cell? ⟨w2.heap.size,1,none⟩=some (.string (tx r)):=bg rfl rfl;have B3:=af (Gr.step B2.out b3);clear b3 TX;generalize w2.alloc (.cells #[.int .i64 (k:Int),.string (tx r)] 123)=w3 at*;have H3:=af (H0.out.went B3.out);have p0:=H3.out.map_cell;have p1:=H3.out.qY hk;obtain⟨n,X,hnl,hX,oh⟩:=H3.out.map;have hn:n<maxLen:=by unfold maxLen;omega
 have hval:=oh r HR.out
 have J8:X (k,tx r)=mq (L k) r:=by
  rcases(by omega:k=0\/k=1)with rfl|rfl
  ·exact hval.1
  ·exact hval.2
 have LK:(Instr.lookup 61 (.map (some bm)) (.agg #[.int .i64 (k:Int),.string (tx r)]) true).run Tryz.prog w3.drew=.ok (.tuple #[.int .i64 ((X (k,tx r)).getD 0),.bool (X (k,tx r)).isSome]) w3.drew:=
  (hX.keep rfl:RM bm n X w3.drew).look Sl Tryz.underlying61 Tryz.underlying3 (zWt _) hok
 rw[J8]at LK
 by_cases hin:r∈L k
 ·have xL:=yS hin;have kM:mq (L k) r=some ((L k).idxOf r:Int):=if_pos hin;rw[kM]at LK;simp only[Option.getD_some,Option.isSome_some]at LK;have E1:=af xL.1;have E2:=af xL.2.1;clear xL kM hX oh hval J8;go_region;go_wp2_with fail;go_ret;refine⟨Gr.jP (by rw[E2.out]),v,?_,.of_below (Gr.step B3.out (drawn w3)),fun j x e=> .inl e⟩;rw[E1.out,if_pos hin,Ef,Ef];exact H3.out.went (drawn w3)
 ·have kM:mq (L k) r=none:=if_neg hin;rw[kM]at LK;simp only[Option.getD_none,Option.isSome_none]at LK;have E2:=af (sA hin).2;have hwf:=zVz (n:=(L k).length) (by omega)
  have MU:∃w5,(Instr.mapUpdate 61 (.map (some bm)) (.agg #[.int .i64 (k:Int),.string (tx r)]) (.int .i64 ((L k).length:Int))).run Tryz.prog w3.drew.drew=.ok () w5/\RM bm (n+1) (fun y=>if y=(k,tx r)then some ((L k).length:Int)else X y) w5/\w3.drew.drew.mapTurned w5 bm:=
   (hX.keep rfl:RM bm n X w3.drew.drew).store Sl Tryz.underlying61 Tryz.underlying3 hn hok hwf
  obtain⟨w5,hrun,Ci,vC⟩:=MU;obtain⟨av,cv,hvk⟩:=Rw.cu (H3.out.row k hk);rw[hvk]at p1;have H4:=af ((H3.out.went (drawn w3)).went (drawn w3.drew));obtain⟨t1,t2⟩:=H4.out.turned vC;have q0:w5.heap[ps]?=some (.cells #[.map (some bm),v 0,v 1] 64 (0,0)):=t1.trans H4.out.box;have Kv:ps<w5.heap.size:=(Array.getElem?_eq_some_iff.1 q0).1;have hs5:w3.heap.size<=w5.heap.size:=vC.grown.size;have iV:lo<=w5.heap.size:=Nat.le_trans hlo (Nat.le_trans B3.out.size hs5)
  have q1:w5.cell? ⟨ps,1+k,none⟩=some (.slice av (L k).length cv):=by
   rw[←hvk];rcases(by omega:k=0\/k=1)with rfl|rfl
   ·exact aF q0 (k:=1) (by simp)
   ·exact aF q0 (k:=2) (by simp)
  have BW:=af (show Below w5.heap.size w5 (w5.drew.alloc (.cells #[.slice a r.length c] 66))from(drawn w5).alloc (Nat.le_refl _) _);have hsz:(w5.drew.alloc (.cells #[.slice a r.length c] 66)).heap.size=w5.heap.size+1:=World.size_alloc _ _;have xR:lo<=(w5.drew.alloc (.cells #[.slice a r.length c] 66)).heap.size:=by omega
  have RX:=af (show(w5.drew.alloc (.cells #[.slice a r.length c] 66)).ownsRow lo 66 1 (.slice av (L k).length cv) (L k).length (vs k)from by
   have:=t2 k hk;rw[hvk]at this
   exact Sep.bS this fun g e=>BW.out.block g (this.lt g e).2)
  have ON:=af (yM lo w5.drew (.slice a r.length c) 66 iV w5.heap.size rfl)
  have SEE:=af (fun(w7:World) (hg:(w5.drew.alloc (.cells #[.slice a r.length c] 66)).grownBy w7 (Value.slice av (L k).length cv).ownBlock)=>(show w7.cell? ⟨ps,1+k,none⟩=some (.slice av (L k).length cv)/\w7.frozen? ⟨ps,1+k,none⟩=false from by
   have e:w7.heap[ps]?=w5.heap[ps]?:=(hg.block ps (by omega) fun e=>H4.out.kS hk (by rw[hvk];exact e.symm)).trans (BW.out.block ps Kv)
   exact⟨(World.cell?_of_block (a:=⟨ps,1+k,none⟩) e).trans q1,fu (e.trans q0)⟩))
  have mI:=af (fun(w7:World) (v':Value) (hown:w7.ownsRow lo 66 1 v' ((L k).length+1) (vs k++[.slice a r.length c])) (hg:(w5.drew.alloc (.cells #[.slice a r.length c] 66)).grownBy w7 (v k).ownBlock) (hloc:v'.ownBlock=(v k).ownBlock\/v'.ownBlock=some (w5.drew.alloc (.cells #[.slice a r.length c] 66)).heap.size)=>
   H4.out.more hk HR.out hin oh hnl Ci vC BW.out hown hg hloc)
  rw[hvk]at mI;have B4:=af (Gr.step B3.out (Gr.step (drawn w3) (drawn w3.drew)));clear kM hX oh hval J8 Ci vC t1 t2 q0 H0 hsz;go_region;go_wp2_with fail;go_region;go_wp2_with fail;clear hrun LK p0 p1 c0 c1
  go_region_law (first
   | (refine Rw.gZ _ (by rfl) _ _ 30 (by rfl) lo 66 i0 (.slice none 0 0) 1 24 Tryz.underlying30 hj hz0 hz1 hz2 rfl (by decide) (.slice av (L k).length cv) (L k).length (vs k) (by rfl) RX.out lo (.slice (some ⟨w5.heap.size,0,none⟩) 1 1) 1 [.slice a r.length c] (by rfl) ON.out (by simp[Value.oneCell']) (by unfold maxLen;omega) (by omega) xR ?_;intro v7 w7 aM cV bQ;obtain⟨a7,c7,rfl⟩:=Rw.cu aM;obtain⟨q9,f9⟩:=SEE.out w7 cV;have R7:=af (mI.out w7 _ aM cV bQ);clear aM cV bQ))
  all_goals
   go_wp2_with fail;go_ret;obtain⟨r1,r2,r3⟩:=R7.out;refine⟨Gr.jP (by rw[E2.out]),_,?_,(Sep.Fr.of_below B4.out).trans r2 (.refl _ _),fun j x e=>(r3 j x e).imp id fun h=>Nat.le_trans B4.out.size h⟩;rw[if_neg hin];exact r1
end Pk
namespace Pk
open Go.RowKit Go.Maps
open Gr (aN)
open Go.Proofs.YtegeamggbglneaaGreatDoor.Sep (Fr)
section
variable {lo ps bm:Nat} {L:Nat->List (List Int)} {v:Nat->Value} {vs:Nat->List Value} {w w':World}
theorem bH.at(h:bH lo ps bm L v vs w)(hb:∀x,r9 ps bm v x->w'.heap[x]?=w.heap[x]?):bH lo ps bm L v vs w':=by
 obtain⟨n,X,h1,h2,h3⟩:=h.map;refine⟨(hb ps (.inl rfl)).trans h.box,⟨n,X,h1,h2.keep (hb bm (.inr (.inl rfl))),h3⟩,fun k hk=>Sep.bS (h.row k hk) fun g e=>hb g ?_,h.ne,h.lp,h.lb⟩;rcases(by omega:k=0\/k=1)with rfl|rfl
 ·exact .inr (.inr (.inl e))
 ·exact .inr (.inr (.inr e))
theorem bH.ow(h:bH lo ps bm L v vs w){x}(hx:r9 ps bm v x):lo<=x:=by
 rcases hx with rfl|rfl|e|e
 ·exact h.lp
 ·exact h.lb
 ·exact((h.row 0 (by decide)).lt x e).1
 ·exact((h.row 1 (by decide)).lt x e).1
theorem bH.off(h:bH lo ps bm L v vs w){x}{cur}{T}{f}(hx:w.heap[x]?=some (.cells cur T f))(h1:T≠64)(h2:T≠66):¬r9 ps bm v x:=fun hs=>by
 rcases hs with rfl|rfl|e|e
 ·rw[h.box]at hx;injection hx with hx
  injection hx with _ hx _
  exact h1 hx.symm
 ·obtain⟨es,c,h3⟩:=h.kJ;rw[h3]at hx;cases hx
 ·obtain⟨cur',h3⟩:=Ed (h.row 0 (by decide)) e;rw[h3]at hx;injection hx with hx
  injection hx with _ hx _
  exact h2 hx.symm
 ·obtain⟨cur',h3⟩:=Ed (h.row 1 (by decide)) e;rw[h3]at hx;injection hx with hx
  injection hx with _ hx _
  exact h2 hx.symm
end
def vO(q0 q1 q2:Value)(vI:Nat->Value):Array Value:=#[q0,q1,q2,vI 0,.slice none 0 0,vI 1,.slice none 0 0]
def Dat(lo:Nat)(r:List Int)(u:Value)(w:World):Prop:=∃b,u=.slice (some ⟨b,0,none⟩) r.length r.length/\w.heap[b]?=some (.cells (r.map fun c=>Value.int .u16 c).toArray 48 (0,0))/\lo<=b
theorem Dat.kept{lo}{r}{u}{w w'}(h:Dat lo r u w)(hb:∀(b:Nat) (cur:Array Value),w.heap[b]?=some (.cells cur 48 (0,0))->w'.heap[b]?=w.heap[b]?):Dat lo r u w':=by
 obtain⟨b,e,h1,h2⟩:=h;exact⟨b,e,(hb b _ h1).trans h1,h2⟩
structure gA (W:World) (pp ps bm:Nat) (q0 q1 q2:Value) (L:Nat->List (List Int)) (v:Nat->Value) (vs:Nat->List Value) (vI:Nat->Value) (iI:Nat->List Int) (w:World):Prop where
 box:w.heap[pp]?=some (.cells (vO q0 q1 q2 vI) 32 (0,0))
 pl:pp<W.heap.size
 st:bH W.heap.size ps bm L v vs w
 idx:∀k,k<2->w.ownsRow W.heap.size 3 1 (vI k) (iI k).length (aN (iI k))
 ne:∀g,(vI 0).ownBlock=some g->(vI 1).ownBlock≠some g
 dat:∀k,k<2->(vs k).length=(L k).length/\∀j (h:j<(L k).length),∃u,(vs k)[j]?=some u/\Dat W.heap.size (L k)[j] u w
 fr:Fr (fun x=>x=pp) W w
theorem sw{w:World}{base n c}{T}{a}{xs}(h:w.ownsRow base T 1 (.slice a n c) n xs)(hn:0<n):∃g,a=some ⟨g,0,none⟩:=by
 rcases h.2 with⟨_,h0⟩|⟨g,_,_,h0,_⟩
 ·omega
 ·simp only[Value.slice.injEq]at h0;exact⟨g,h0.1⟩
section
variable {W:World} {pp ps bm:Nat} {q0 q1 q2:Value} {L:Nat->List (List Int)} {v:Nat->Value} {vs:Nat->List Value} {vI:Nat->Value} {iI:Nat->List Int} {w w' wa:World}
theorem gA.went(h:gA W pp ps bm q0 q1 q2 L v vs vI iI w)(hb:Below w.heap.size w w'):gA W pp ps bm q0 q1 q2 L v vs vI iI w':=
 ⟨(hb.block pp (Array.getElem?_eq_some_iff.1 h.box).1).trans h.box,h.pl,h.st.went hb,fun k hk=>Sep.bS (h.idx k hk) fun g e=>hb.block g ((h.idx k hk).lt g e).2,h.ne,
  fun k hk=>⟨(h.dat k hk).1,fun j hj=>by
   obtain⟨u,h1,h2⟩:=(h.dat k hk).2 j hj
   exact⟨u,h1,h2.kept fun b cur e=>hb.block b (Array.getElem?_eq_some_iff.1 e).1⟩⟩,h.fr.trans (.of_below hb) fun x hx=> .inl hx⟩
theorem gA.cell(h:gA W pp ps bm q0 q1 q2 L v vs vI iI w){k}(hk:k<2):w.cell? ⟨pp,3+k*2,none⟩=some (vI k):=by
 rcases(by omega:k=0\/k=1)with rfl|rfl
 ·exact aF h.box (k:=3) (by simp[vO])
 ·exact aF h.box (k:=5) (by simp[vO])
theorem gA.iY(h:gA W pp ps bm q0 q1 q2 L v vs vI iI w){k}(hk:k<2){g}(hg:(vI k).ownBlock=some g):∃cur,w.heap[g]?=some (.cells cur 3 (0,0)):=Ed (h.idx k hk) hg
theorem gA.qT(h:gA W pp ps bm q0 q1 q2 L v vs vI iI w){k}(hk:k<2){r}{u}(hu:Dat W.heap.size r u w){v'}(hs:bH W.heap.size ps bm (upd L k (bZ (L k) r)) v' (upd vs k (if r∈L k then vs k else vs k++[u])) w')(hf:Fr (r9 ps bm v) w w'):
  gA W pp ps bm q0 q1 q2 (upd L k (bZ (L k) r)) v' (upd vs k (if r∈L k then vs k else vs k++[u])) vI iI w':=by
 have tY:∀{r u},Dat W.heap.size r u w->Dat W.heap.size r u w':=fun hd=>hd.kept fun b cur e=>hf.block b (Array.getElem?_eq_some_iff.1 e).1 (h.st.off e (by decide) (by decide))
 refine⟨(hf.block pp (Array.getElem?_eq_some_iff.1 h.box).1 fun hs=>?_).trans h.box,h.pl,hs,fun j hj=>Sep.bS (h.idx j hj) fun g e=>?_,h.ne,fun j hj=>?_,h.fr.trans hf fun x hx=>?_⟩
 ·have:=h.st.ow hs;have:=h.pl;omega
 ·obtain⟨cur,e2⟩:=h.iY hj e;exact hf.block g (Array.getElem?_eq_some_iff.1 e2).1 (h.st.off e2 (by decide) (by decide))
 ·by_cases ek:j=k
  ·subst ek;rw[upd_same,upd_same];obtain⟨d1,d2⟩:=h.dat j hj
   by_cases hm:r∈L j
   ·rw[if_pos hm,(yS hm).1];refine⟨d1,fun i hi=>?_⟩;obtain⟨u',h1,h2⟩:=d2 i hi;exact⟨u',h1,tY h2⟩
   ·rw[if_neg hm,(sA hm).1];refine⟨by rw[List.length_append,List.length_append,d1];rfl,fun i hi=>?_⟩
    by_cases hi2:i<(L j).length
    ·obtain⟨u',h1,h2⟩:=d2 i hi2;refine⟨u',?_,?_⟩
     ·rw[List.getElem?_append_left (by omega)];exact h1
     ·rw[List.getElem_append_left hi2];exact tY h2
    ·rw[List.length_append]at hi;simp only[List.length_cons,List.length_nil]at hi;obtain rfl:i=(L j).length:=by omega
     refine⟨u,?_,?_⟩
     ·rw[List.getElem?_append_right (by omega),d1];simp
     ·rw[List.getElem_append_right (Nat.le_refl _)]
      simpa using tY hu
  ·rw[bu _ _ ek,bu _ _ ek];obtain⟨d1,d2⟩:=h.dat j hj;refine⟨d1,fun i hi=>?_⟩;obtain⟨u',h1,h2⟩:=d2 i hi;exact⟨u',h1,tY h2⟩
 ·exact .inr (Nat.le_trans (Nat.le_refl _) (h.st.ow hx))
theorem gA.vT(h:gA W pp ps bm q0 q1 q2 L v vs vI iI w){k}(hk:k<2){x}{w7}(hb:Below w.heap.size w wa){v7}
  (hown:w7.ownsRow W.heap.size 3 1 v7 ((iI k).length+1) (aN (iI k)++[.int .i64 x])) (hg:wa.grownBy w7 (vI k).ownBlock) (hl:v7.ownBlock=(vI k).ownBlock\/v7.ownBlock=some wa.heap.size):
  gA W pp ps bm q0 q1 q2 L v vs (upd vI k v7) (upd iI k (iI k++[x])) (w7.setCell ⟨pp,3+k*2,none⟩ v7):=by
 have qE:∀g,(vI k).ownBlock=some g->W.heap.size<=g:=fun g e=>((h.idx k hk).lt g e).1
 have hpw:pp<w.heap.size:=(Array.getElem?_eq_some_iff.1 h.box).1;have hsa:=hb.size;have hpl:=h.pl;have hWw:=h.fr.size;have kept:∀b,b<w.heap.size->(vI k).ownBlock≠some b->w7.heap[b]?=w.heap[b]?:=fun b hlt hne=>(hg.block b (by omega) fun e=>hne e.symm).trans (hb.block b hlt)
 have qL:∀b,b<w.heap.size->(vI k).ownBlock≠some b->b≠pp->(w7.setCell ⟨pp,3+k*2,none⟩ v7).heap[b]?=w.heap[b]?:=fun b hlt hne hp=>(Below.heap_setCell _ _ _ _ hp).trans (kept b hlt hne)
 have Ky:w7.heap[pp]?=w.heap[pp]?:=kept pp hpw fun e=>by
  have:=qE pp e;omega
 have xV:v7.ownBlock≠some pp:=fun e=>by
  rcases hl with h1|h1
  ·have:=qE pp (h1▸e);omega
  ·rw[h1]at e;injection e with e
   omega
 have hloc:∀x,v7.ownBlock=some x->(vI k).ownBlock=some x\/w.heap.size<=x:=fun x e=>by
  rcases hl with h1|h1
  ·exact .inl (h1▸e)
  ·rw[h1]at e;injection e with e
   omega
 have ye:∀{b:Nat} {cur:Array Value} {T:TypeId} {f:Nat×Nat},w.heap[b]?=some (.cells cur T f)->T≠3->(vI k).ownBlock≠some b:=fun e hT eo=>by
  obtain⟨cur',e2⟩:=h.iY hk eo;rw[e]at e2;injection e2 with e2
  injection e2 with _ e2 _
  exact hT e2
 have Ce:(aN (iI k)++[Value.int .i64 x])=aN (iI k++[x]):=by simp[aN,Gr.iv]
 refine⟨?_,h.pl,h.st.at fun b hs=>?_,fun j hj=>?_,fun g e e2=>?_,fun j hj=>?_,?_⟩
 ·rw[ft (Ky.trans h.box) (k:=3+k*2)];rcases(by omega:k=0\/k=1)with rfl|rfl<;>rfl
 ·have hlo:=h.st.ow hs;refine qL b ?_ (fun eo=>?_) (by omega)
  ·rcases hs with rfl|rfl|e|e
   ·exact h.st.lt
   ·obtain⟨es,c,h3⟩:=h.st.kJ;exact(Array.getElem?_eq_some_iff.1 h3).1
   ·exact((h.st.row 0 (by decide)).lt b e).2
   ·exact((h.st.row 1 (by decide)).lt b e).2
  ·obtain⟨cur,e2⟩:=h.iY hk eo;exact h.st.off e2 (by decide) (by decide) hs
 ·by_cases e:j=k
  ·subst e;rw[upd_same,upd_same,List.length_append,←Ce];exact Sep.bS hown fun g e=>Below.heap_setCell _ _ _ _ (fun e2=>xV (by rw[e];exact congrArg some e2))
  ·rw[bu _ _ e,bu _ _ e];refine Sep.bS (h.idx j hj) fun g eg=>qL g ((h.idx j hj).lt g eg).2 (fun eo=>?_) (fun e3=>?_)
   ·rcases(by omega:(j=0/\k=1)\/(j=1/\k=0))with⟨rfl,rfl⟩|⟨rfl,rfl⟩
    ·exact h.ne g eg eo
    ·exact h.ne g eo eg
   ·have:=((h.idx j hj).lt g eg).1;omega
 ·rcases(by omega:k=0\/k=1)with rfl|rfl
  ·rw[upd_same]at e;rw[bu _ _ (by decide)]at e2;have h1:=((h.idx 1 (by decide)).lt g e2).2;rcases hloc g e with h2|h2
   ·exact h.ne g h2 e2
   ·omega
  ·rw[upd_same]at e2;rw[bu _ _ (by decide)]at e;have h1:=((h.idx 0 (by decide)).lt g e).2;rcases hloc g e2 with h2|h2
   ·exact h.ne g e h2
   ·omega
 ·refine⟨(h.dat j hj).1,fun i hi=>?_⟩;obtain⟨u,h1,b,e,h2,h3⟩:=(h.dat j hj).2 i hi;exact⟨u,h1,b,e,(qL b (Array.getElem?_eq_some_iff.1 h2).1 (ye h2 (by decide)) (by omega)).trans h2,h3⟩
 ·have f1:Fr (fun x=>x=pp) W wa:=h.fr.trans (.of_below hb) fun x hx=> .inl hx
  have f2:Fr (fun x=>x=pp) W w7:=f1.grown hg fun x e=> .inr (qE x e)
  exact f2.setCell _ rfl _
theorem gA.mid(h:gA W pp ps bm q0 q1 q2 L v vs vI iI w){k}(hk:k<2){w7}(hb:Below w.heap.size w wa)(hg:wa.grownBy w7 (vI k).ownBlock):w7.heap[pp]?=some (.cells (vO q0 q1 q2 vI) 32 (0,0)):=by
 have hpw:pp<w.heap.size:=(Array.getElem?_eq_some_iff.1 h.box).1;have hsa:=hb.size;refine(hg.block pp (by omega) fun e=>?_).trans ((hb.block pp hpw).trans h.box);have:=((h.idx k hk).lt pp e.symm).1;have:=h.pl;omega
end
def CX(T:Tb)(j:Nat):List (List Int):=if j=0 then df T else if j=1 then dC T else[]
def kX(ka kg j:Nat):Nat:=if j=0 then ka else kg
def LX(T:Tb)(ka kg j:Nat):List (List Int):=dt ((CX T j).take (kX ka kg j))
def IX(T:Tb)(ka kg j:Nat):List Int:=(idxs (CX T j)).take (kX ka kg j)
theorem Yr(T){j}(h0:¬j=0)(h1:¬j=1):CX T j=[]:=by
 unfold CX;rw[if_neg h0,if_neg h1]
theorem Jj{T}{ka kg}(h):upd (LX T ka kg) 0 (bZ (LX T ka kg 0) (df T)[ka])=LX T (ka+1) kg:=by
 funext j
 unfold upd LX
 by_cases e:j=0
 ·subst e;simp only[CX,kX,if_true];exact(Mx h).symm
 ·simp only[if_neg e,kX]
theorem Jk{T}{ka kg}(h):upd (LX T ka kg) 1 (bZ (LX T ka kg 1) (dC T)[kg])=LX T ka (kg+1):=by
 funext j
 unfold upd LX
 by_cases e:j=1
 ·subst e;have h0:¬(1=0):=by decide
  simp only[CX,kX,if_neg h0,if_true];exact(Mx h).symm
 ·simp only[if_neg e]
  by_cases e0:j=0
  ·subst e0
   rfl
  ·rw[Yr T e0 e,List.take_nil,List.take_nil]
theorem Jb{T}{ka kg}(h):upd (IX T ka kg) 0 (IX T ka kg 0++[(eQ (LX T ka kg 0) (df T)[ka]:Int)])=IX T (ka+1) kg:=by
 funext j
 unfold upd IX LX
 by_cases e:j=0
 ·subst e;simp only[CX,kX,if_true];exact(Va h).symm
 ·simp only[if_neg e,kX]
theorem Jc{T}{ka kg}(h):upd (IX T ka kg) 1 (IX T ka kg 1++[(eQ (LX T ka kg 1) (dC T)[kg]:Int)])=IX T ka (kg+1):=by
 funext j
 unfold upd IX LX
 by_cases e:j=1
 ·subst e;have h0:¬(1=0):=by decide
  simp only[CX,kX,if_neg h0,if_true];exact(Va h).symm
 ·simp only[if_neg e]
  by_cases e0:j=0
  ·subst e0
   rfl
  ·rw[Yr T e0 e];simp[idxs]
theorem Hd(T)(j):LX T 0 0 j=[]:=by
 unfold LX kX;split<;>simp[dt]
theorem zPW(T)(j):IX T 0 0 j=[]:=by
 unfold IX kX;split<;>simp
theorem zUk(T)(ka kg j)(h:(df T).length<=100000)(h2:(dC T).length<=100000):(LX T ka kg j).length<=100000:=by
 unfold LX;refine Nat.le_trans (sk _) ?_;rw[List.length_take];unfold CX;split
 ·omega
 ·split
  ·omega
  ·simp
theorem Ot(T){ka kg}(h:ka<=(df T).length)(h2:kg<=(dC T).length):(IX T ka kg 0).length=ka/\(IX T ka kg 1).length=kg:=by
 have h0:¬(1=0):=by decide
 constructor
 ·unfold IX kX CX;rw[if_pos rfl,if_pos rfl,List.length_take,jM];omega
 ·unfold IX kX CX;rw[if_neg h0,if_neg h0,if_pos rfl,List.length_take,jM];omega
theorem Yu(T):LX T (df T).length (dC T).length 0=dt (df T)/\LX T (df T).length (dC T).length 1=dt (dC T):=by
 have h0:¬(1=0):=by decide
 constructor
 ·unfold LX kX CX;rw[if_pos rfl,if_pos rfl,List.take_length]
 ·unfold LX kX CX;rw[if_neg h0,if_neg h0,if_pos rfl,List.take_length]
theorem Yt(T):IX T (df T).length (dC T).length 0=idxs (df T)/\IX T (df T).length (dC T).length 1=idxs (dC T):=by
 have h0:¬(1=0):=by decide
 constructor
 ·unfold IX kX CX;rw[if_pos rfl,if_pos rfl,List.take_of_length_le (by rw[jM];exact Nat.le_refl _)]
 ·unfold IX kX CX;rw[if_neg h0,if_neg h0,if_pos rfl,List.take_of_length_le (by rw[jM];exact Nat.le_refl _)]
theorem gA.rows{W}{pp ps bm}{q0 q1 q2}{L}{v}{vs}{vI}{iI}{w}(h:gA W pp ps bm q0 q1 q2 L v vs vI iI w){k}(hk:k<2)(hs:∀r∈L k,r.length<=100000){a}{n c}(hv:v k=.slice a n c):wQ a (L k) w:=fun j hj=>by
 obtain⟨u,h1,b,rfl,h2,h3⟩:=(h.dat k hk).2 j hj;have hr:=h.st.row k hk;rw[hv]at hr
 have hn:n=(L k).length:=by
  obtain⟨_,_,e⟩:=Rw.cu hr;simp only[Value.slice.injEq]at e;exact e.2.1
 subst hn;obtain⟨g,rfl⟩:=sw hr (by omega);have t0:=World.ownsRow.cells hr (g:=g) rfl j _ h1;rw[WideShapes.add_plain]at t0;have hl:=hs _ (List.getElem_mem hj);exact⟨g,0,some ⟨b,0,none⟩,_,rfl,t0,GH h2,Nat.le_refl _,by omega⟩
end Pk
namespace Pk
open Go.RowKit Go.Maps
theorem zEI{P}(w){ops}{rest}{o}{a}{Q}(hgd:o.guard=none)(s x)(t)
  (ho:o.op=.call {callee:=.builtin .append,args:=#[s,x],argTypes:=#[t,t]})
  (base) (e) (i) (z) (size bytes) (ht:P.underlying t=some (.slice e)) (hi:P.info? e=some i) (hz:i.zero=some z)
  (hsize:i.size=size) (hby:i.bytes=bytes) (hzs:z.cells.size=size) (hpos:0<size) (v) (n) (xs) (hs:a.eval s=v) (hown:w.ownsRow base e size v n xs)
  (ad) (m c) (news) (hx:a.eval x=.slice ad m c) (hl:news.length=m*size) (hr:∀p,ad=some p->∀j u,news[j]?=some u->w.cell? (p.add j)=some u) (hn:ad=none->m=0) (h1:∀u∈news,u.oneCell'=true)
  (h63:n+m<=maxLen) (hbytes:(n+m)*bytes<=140737488355328) (hbase:base<=w.heap.size)
  (h:∀v' w',w'.ownsRow base e size v' (n+m) (xs++news)->w.grownBy w' v.ownBlock->(v'.ownBlock=v.ownBlock\/v'.ownBlock=some w.heap.size)->wpList P ops Q rest (a.put o.dst v') w'):wpList P ops Q (o::rest) a w:=
 wpList_plain hgd fun K hK=>Rw.zHc w s x t ho base e i z size bytes ht hi hz hsize hby hzs hpos v n xs hs hown ad m c news hx hl hr hn h1 h63 hbytes hbase fun v' w' a1 a2 a3=>hK _ _ (h v' w' a1 a2 a3)
theorem zUN{R}{a}{c}{X:List (List Int)}{vs}{base}{w}(hl:vs.length=X.length)(hown:w.ownsRow base 66 1 (.slice a X.length c) X.length vs)(h:∀j (hj:j<X.length),∃ra rc,vs[j]?=some (.slice ra X[j].length rc)/\R ra X[j] w/\X[j].length<=rc/\X[j].length<=35184372088832):sY R a X w:=fun j hj=>by
 obtain⟨ra,rc,e,h1⟩:=h j hj;obtain⟨b,rfl⟩:=sw hown (by omega);have t0:=World.ownsRow.cells hown (g:=b) rfl j _ e;rw[WideShapes.add_plain]at t0;exact⟨b,0,ra,rc,rfl,t0,h1⟩
theorem wM{w:World}{base n c size}{T}{a}{xs}(h:w.ownsRow base T size (.slice a n c) n xs):n<=c:=by
 rcases h.2 with⟨h1,h2⟩|⟨g,cap,cur,h1,_,_,h2,_⟩
 ·omega
 ·simp only[Value.slice.injEq]at h1;omega
def gp(a:Option Addr)(r:List Int)(w:World):Prop:=fy a r w/\∀b o,a=some ⟨b,o,none⟩->0<r.length->Ty b 48 w
def lB(a:Option Addr)(X:List (List Int))(w:World):Prop:=sY gp a X w/\∀b o,a=some ⟨b,o,none⟩->0<X.length->Ty b 66 w
theorem gp.went{a}{r}{w w'}(h:gp a r w)(hb:Below w.heap.size w w'):gp a r w':=⟨h.1.went hb,fun b o e hl=>(h.2 b o e hl).went hb⟩
theorem lB.went{a}{X}{w w'}(h:lB a X w)(hb:Below w.heap.size w w'):lB a X w':=⟨h.1.went (fun k=>k.went) hb,fun b o e hl=>(h.2 b o e hl).went hb⟩
theorem lB.plain{a}{X}{w}(h:lB a X w):wQ a X w:=fun i hi=>by
 obtain⟨b,o,ra,rc,e,h1,h2,h3⟩:=h.1 i hi;exact⟨b,o,ra,rc,e,h1,h2.1,h3⟩
theorem lB.nil(w):lB none [] w:=⟨.nil _ _ _,fun b o e=>by cases e⟩
theorem gp.kept{a}{r}{w w'}{x}{U}(h:gp a r w)(hx:Ty x U w)(hU:48≠U)(hg:w.grownBy w' (some x)):gp a r w':=by
 refine⟨fun i hi=>?_,fun b o e hl=>(h.2 b o e hl).kept' hx hU hg⟩;obtain⟨b,o,e,h1⟩:=h.1 i hi
 have hl:0<r.length:=by
  rw[List.length_map]at hi;omega
 have hb:=(h.2 b o e hl).kept hx hU hg;exact⟨b,o,e,(World.cell?_of_block hb).trans h1⟩
theorem lB.kept{a}{X}{w w'}{x}{U}(h:lB a X w)(hx:Ty x U w)(hU:48≠U)(hV:66≠U)(hg:w.grownBy w' (some x)):lB a X w':=by
 refine⟨fun i hi=>?_,fun b o e hl=>(h.2 b o e hl).kept' hx hV hg⟩;obtain⟨b,o,ra,rc,e,h1,h2,h3⟩:=h.1 i hi;have hb:=(h.2 b o e (by omega)).kept hx hV hg;exact⟨b,o,ra,rc,e,(World.cell?_of_block hb).trans h1,h2.kept hx hU hg,h3⟩
end Pk
namespace Pk
open Go.RowKit Go.Maps Go.WideShapes
open Go.Proofs.YtegeamggbglneaaGreatDoor.Sep (bS)
section
variable {w w':World} {base s n:Nat} {E:TypeId} {v:Value} {xs:List Value}
theorem Nz{x}{U}(h:w.ownsRow base E s v n xs)(hx:Ty x U w)(hE:E≠U)(hg:w.grownBy w' (some x)):w'.ownsRow base E s v n xs:=bS h fun g e=>(pI h e).kept hx hE hg
theorem Em(h:w.ownsRow base E s v n xs)(hb:Below w.heap.size w w'):w'.ownsRow base E s v n xs:=bS h fun g e=>hb.block g (World.ownsRow.lt h g e).2
theorem zPx{a}{r}{c}(h:w.ownsRow base 48 1 (.slice a r.length c) r.length (r.map (.int .u16))):gp a r w:=by
 refine⟨fun i hi=>?_,fun b o e _=>pI h (by rw[e];rfl)⟩;rw[List.length_map]at hi;obtain⟨b,rfl⟩:=sw h (by omega);have t0:=World.ownsRow.cells h (g:=b) rfl i (.int .u16 r[i]) (by simp[hi]);rw[WideShapes.add_plain]at t0;exact⟨b,0,rfl,by simpa using t0⟩
end
end Pk
namespace Im
open Go.RowKit Go.Maps
theorem Ih(x y):ltOf mY x y=decide (gH x y):=by
 unfold ltOf mY Gp Lib.compareInt gH
 by_cases h1:x.1<y.1
 ·simp[h1]
 ·by_cases h2:y.1<x.1
  ·have h3:¬x.1=y.1:=by omega
   simp[h1,h2,h3]
  ·have h3:x.1=y.1:=by omega
   by_cases h4:x.2<y.2
   ·simp[h3,h4]
   ·by_cases h5:y.2<x.2<;>simp[h3,h4,h5]
theorem zUS:Go.Sort.SWO (ltOf mY) where
 irrefl x:=by
  rw[Ih,decide_eq_false_iff_not];exact fun h=>h.ne rfl
 trans x y z h1 h2:=by
  rw[Ih,decide_eq_true_iff]at*;exact h1.trans h2
 ntrans x y z h1 h2:=by
  rw[Ih,decide_eq_false_iff_not]at*;unfold gH at*;omega
theorem Il:∀{l:List au},l.Nodup->l.Pairwise (fun a b=>¬gH b a)->iG l
 |[],_,_=>Yk
 |x::l,h,k=>by
  have h':=List.nodup_cons.1 h;have k':=List.pairwise_cons.1 k;refine List.pairwise_cons.2 ⟨fun y hy=>?_,Il h'.2 k'.2⟩;exact YI (k'.1 y hy) fun e=>h'.1 (e▸hy)
theorem Xt(d):Go.Sort.flatK ic 2 d=(d.toList.flatMap ic).toArray:=by
 have hl:=rC d.toList
 apply Array.ext_getElem?
 intro t
 by_cases ht:t<d.size*2
 ·have hi:t / 2<d.toList.length:=by rw[Array.length_toList];omega
  have h:=Rw.mE ic wG d.toList (t / 2) hi (t % 2) (Nat.mod_lt _ (by omega));rw[show t / 2*2+t % 2=t by omega]at h
  conv=>rhs;rw[List.getElem?_toArray,h]
  unfold Go.Sort.flatK;rw[Array.getElem?_map,Array.getElem?_range,if_pos ht];have hi':t / 2<d.size:=by omega
  rw[Option.map_some,getElem!_pos d (t / 2) hi',Array.getElem_toList];rcases Nat.mod_two_eq_zero_or_one t with e|e<;>rw[e]<;>simp[ic]
 ·conv=>rhs;rw[List.getElem?_toArray]
  rw[Array.getElem?_eq_none (by simp;omega),List.getElem?_eq_none (by rw[hl,Array.length_toList];omega)]
theorem zQO{T base:Nat}{X}{g cap}{w}(h:bw T base X (.slice (some ⟨g,0,none⟩) X.length cap) w):Go.Sort.HoldsK ic 2 w g 0 X.toArray/\g<w.heap.size:=by
 rcases h.2 with⟨e,_⟩|⟨g',cap',cur,e,_,hb,_,_,h3,h4⟩
 ·cases e
 ·simp only[Value.slice.injEq,Option.some.injEq,Addr.mk.injEq,and_true,true_and]at e;obtain⟨rfl,rfl⟩:=e;refine⟨?_,(Array.getElem?_eq_some_iff.1 hb).1⟩;unfold Go.Sort.HoldsK;rw[Xt];intro j hj;have hl:=rC X;simp only[List.size_toArray]at hj;refine⟨?_,by simp[World.frozen?,hb]⟩;have h1:(cur.toList.take (X.length*2))[j]?=(X.flatMap ic)[j]?:=by rw[h4]
  rw[List.getElem?_take_of_lt (by omega)]at h1;simp only[World.cell?,hb,Nat.zero_add];simp only[Option.isSome_none,Bool.false_eq_true,if_false];rw[←Array.getElem?_toList,h1];simp only[List.getElem!_toArray,id];rw[List.getElem?_eq_getElem hj,getElem!_pos _ j hj]
theorem Wk{w}{g n}{os}{cur}{e}{fr}(F)(hb:w.heap[g]?=some (.cells cur e fr)):
  (Go.Sort.grow (Go.Sort.putRow id (Go.Sort.ahead w n) g 0 F) os).heap[g]?=some (.cells (Go.Sort.putCells id 0 F cur) e fr):=by
 have hg:g<w.heap.size:=(Array.getElem?_eq_some_iff.1 hb).1;rw[Go.Sort.heap_grow_old _ _ (by simpa using hg)];simp[Go.Sort.putRow,Go.Sort.mapBlock,Go.Sort.ahead,Array.getElem?_modify,hb,Go.Sort.onCells]
theorem U6{w:World}{g n}{os}(F):w.grownBy (Go.Sort.grow (Go.Sort.putRow id (Go.Sort.ahead w n) g 0 F) os) (some g):=by
 refine⟨rfl,rfl,rfl,by simp,fun k hk hne=>?_⟩;rw[Go.Sort.heap_grow_old _ _ (by simpa using hk)];have:g≠k:=fun e=>hne (by rw[e])
 simp[Go.Sort.putRow,Go.Sort.mapBlock,Go.Sort.ahead,Array.getElem?_modify,this]
theorem UE(cur)(L)(h:L.length<=cur.size):(Go.Sort.putCells id 0 L.toArray cur).toList.take L.length=L:=by
 apply List.ext_getElem?
 intro j
 by_cases hj:j<L.length
 ·rw[List.getElem?_take_of_lt hj,Array.getElem?_toList];simp[Go.Sort.putCells,hj,show j<cur.size by omega]
 ·rw[List.getElem?_take_eq_none (by omega),List.getElem?_eq_none (by omega)]
theorem zTe{T base:Nat}{X Y}{g cap n}{w}{os}(h:bw T base X (.slice (some ⟨g,0,none⟩) X.length cap) w)(hl:Y.length=X.length):
  bw T base Y (.slice (some ⟨g,0,none⟩) X.length cap) (sortWorldK ic 2 w g 0 n Y.toArray os)/\Below base w (sortWorldK ic 2 w g 0 n Y.toArray os):=by
 unfold sortWorldK Go.Sort.putRowK;rw[Xt];rcases h.2 with⟨e,_⟩|⟨g',cap',cur,e,hbase,hb,h1,h2,h3,h4⟩
 ·cases e
 ·simp only[Value.slice.injEq,Option.some.injEq,Addr.mk.injEq,and_true,true_and]at e;obtain⟨rfl,rfl⟩:=e;have xI:=rC Y;have hgr:=U6 (w:=w) (g:=g) (n:=n) (os:=os) ((Y.flatMap ic).toArray);refine⟨⟨by rw[xI],.inr ⟨g,cap,_,by rw[hl],hbase,Wk _ hb,by omega,h2,by simp[Go.Sort.putCells,h3],?_⟩⟩,?_⟩
  ·rw[←xI];exact UE cur _ (by rw[xI];have:=Nat.mul_le_mul_right 2 h1;omega)
  ·exact⟨hgr.os,hgr.tape,hgr.output,hgr.size,fun k hk=>(hgr.block k (Nat.lt_of_lt_of_le hk (Nat.le_trans hbase (Nat.le_of_lt (Array.getElem?_eq_some_iff.1 hb).1))) fun e=>by injection e with e;omega)⟩
end Im
namespace Im
open Go.RowKit Go.Maps
attribute [local go_sem] Oper.semAt_some
theorem GV:(Tryz.prog.info? 181).map (fun i=>(i.zero,i.size,i.bytes))=some (some (.agg #[.int .i64 0,.int .i64 0]),2,16):=by kernel_rfl
abbrev nB(Bm:Nat):Value:=.func (.func 231) #[] #[.pointer (some ⟨Bm,0,none⟩)]
def OM(X:au->Prop)(w:World)(e:Ending)(w':World):Prop:=∃(v:Value) (ss:List au),e=.returned v/\All X ss/\bw 181 w.heap.size ss v w'/\Below w.heap.size w w'
def OY(w:World)(Bm:Nat)(x:au)(a':Act)(W:World):Prop:=∃Bx,w.heap.size<=Bx/\W.heap[Bx]?=some (.cells #[.int .i64 x.1,.int .i64 x.2] 181 (0,0))/\
 a'={tmps:=#[.slice none 0 0,nB Bm,.pointer (some ⟨w.heap.size,0,none⟩),undef,.slice none 0 0,.pointer (some ⟨Bx,0,none⟩),nB Bm,iv x,undef,undef,undef,undef,undef],defers:=[]}
theorem zSr(w)(Bm)(x)(a')(B):OwnFrom B (fun(_:Unit) W=>OY w Bm x a' W):=by
 rintro s W W' row ⟨Bx,h1,h2,h3⟩ hg hr;refine⟨Bx,h1,(hg.block Bx (Array.getElem?_eq_some_iff.1 h2).1 fun e=>?_).trans h2,h3⟩;obtain⟨_,o,ho,hc⟩:=hr Bx e.symm;rw[h2]at ho;cases ho;cases hc
theorem appendSeq_in(F:Fence)(n:Nat)(h68:F.fn 234)(AZ:F.fn 231)(hro:F.round=none)(hn:3<=n)(Bm b nn:Nat)(X:au->Prop)(w:World)(hBm:Bm<w.heap.size)(hm:w.cell? ⟨Bm,0,none⟩=some (.map (some b)))(hs:MS b nn X w)(hnn:nn<=1000000):
  CallsIn F n Tryz.prog 234 #[.slice none 0 0,nB Bm] w (OM X w):=by
 have h1:1<=n:=by omega
 obtain⟨i0,hi,hz0,hz1,hz2⟩:=info_parts GV;refine callsIn_of_wp_marks Tryz.func234 rfl h68 ?_ hro;simp only[Tryz.ntmps234,List.size_toArray,List.length_cons,List.length_nil,Nat.reduceAdd,Nat.reduceSub,Array.replicate_succ,Array.replicate_zero,List.push_toArray,List.append_toArray,List.nil_append,List.cons_append]
 gi_wp2
 have bO:=Boxed.new w 169 (.slice none 0 0);have hb0:Below w.heap.size w (w.alloc (.cells #[.slice none 0 0] 169)):=Gr.boxed _ _;have hsz:(w.alloc (.cells #[.slice none 0 0] 169)).heap.size=w.heap.size+1:=by simp
 have hst:=keys_stops F (n-1) AZ hro (by omega) Bm b nn X _ (by rw[hsz];omega) (Gr.cell_later hb0 hm) (hs.went hb0);clear hm hs
 refine wpIn_rangeFunc_ownH hro h1 (gf:=231) (lb:=#[.pointer (some ⟨Bm,0,none⟩)]) rfl AZ (enters_of Tryz.func231 (by kernel_rfl) rfl)
  hst walksK_t walksK_b (Below.refl _ _) (fun _=>rfl)
  (fun(pre:List au) W=>(∃v,Boxed W w.heap.size 169 v/\W.ownsRow w.heap.size 181 2 v pre.length (pre.flatMap ic)/\True)/\Below w.heap.size w W)
  (fun _ _ _=>False)
  (OwnFrom.and (Own.from (holdsRow_own w.heap.size w.heap.size 169 181 2 (fun(pre:List au)=>pre.length) (fun(pre:List au)=>pre.flatMap ic) (fun _ _=>True)) _) (ownFrom_below (Nat.le_refl _) (by rw[hsz];omega)))
  (fun _ _ _ _ _ hs _ _=>hs)
  ⟨⟨_,bO,World.ownsRow_nil _ _ _ _,trivial⟩,hb0⟩
  (OY w Bm) (fun x a'=>zSr w Bm x a' _) ?assign ?body ?done ?stop
 case assign=>
  rintro l pre x W K ⟨⟨v,hv,hrow,_⟩,hB⟩ hK;have hx:iv x=.agg #[.int .i64 x.1,.int .i64 x.2]:=rfl;rw[hx]at*
  gi_wp2
  exact hK _ _ ((KeepsOthers.alloc _ _).from _) (KeepsWalks.alloc _ _) ⟨⟨v,hv.alloc _,hrow.alloc _,trivial⟩,hB.alloc hB.size _⟩ ⟨W.heap.size,hB.size,World.alloc_heap_new _ _,rfl⟩
 case body=>
  rintro l pre x a' W hl ⟨r,hr⟩ ⟨⟨v,hv,hrow,_⟩,hB⟩ ⟨Bx,hBx,bX,rfl⟩ hlt;have hc:=hv.cell;have c0:W.cell? ⟨Bx,0,none⟩=some (.int .i64 x.1):=by simp[World.cell?,bX]
  have c1:W.cell? ⟨Bx,1,none⟩=some (.int .i64 x.2):=by simp[World.cell?,bX]
  have hx:iv x=.agg #[.int .i64 x.1,.int .i64 x.2]:=rfl;rw[hx];clear hr bX hx
  gi_wp2_with (gi_at_builtin;refine wpListIn_append_own _ rfl _ _ 169 rfl w.heap.size 181 i0 (.agg #[.int .i64 0,.int .i64 0]) 2 16 Tryz.underlying169 hi hz0 hz1 hz2 rfl (by decide) _ _ _ rfl (hrow.alloc _) ⟨W.heap.size,0,none⟩ 1 1 (ic x) rfl rfl ?c1 ?c2 (by unfold maxLen;omega) (by omega) (by have:=hB.size;simp;omega) ?_)
  case c1=>
   intro i u hu
   match i,hu with
   |0,hu=>
    simp[ic]at hu;subst hu;simp[Addr.add]
   |1,hu=>
    simp[ic]at hu;subst hu;simp[Addr.add]
   |i+2,hu=>simp[ic]at hu
  case c2=>
   intro u hu;simp only[ic,List.mem_cons,List.not_mem_nil,or_false]at hu;rcases hu with rfl|rfl<;>rfl
  intro v' w1 hown' hgrow _;obtain⟨g',cap',rfl⟩:=ownsRow_succ hown';obtain⟨hv1,hv2,hr2,hk2,hb2⟩:=hv.appended (by decide) hrow hB.size (Nat.le_refl _) hown' hgrow;have hc1:=hv1.cell;have d9:=hv1.frozen
  gi_wp2
  exact⟨hk2.from _,hk2.walks,⟨_,hv2,by simpa[ic]using hr2,trivial⟩,hB.trans hb2⟩
 case done=>
  rintro D ys W hD hS ⟨⟨v,hv,hrow,_⟩,hB⟩ hK;have hc:=hv.cell
  gi_wp2
  refine⟨by simp,.inl ⟨_,_,rfl,run_takeDeferred hK,?_⟩⟩;exact⟨_,results_tmp rfl _ _ _,v,ys,rfl,hS,ownsRow_putObj hrow _ hK rfl,hB.trans (belowK_b (w:=w) (Nat.le_refl _) W D _ _ (by rw[hsz]at hD;omega) hK rfl rfl)⟩
 case stop=>
  rintro D c pre W _ _ h _;exact h.elim
end Im
namespace Im
open Go.RowKit Go.Maps
theorem zRp(base)(X)(a)(c)(w)(h:bw 181 base X (.slice a X.length c) w)(hl:X.length<=1000000):
  Calls Tryz.prog 230 #[.slice a X.length c,.func (.func 219) #[] #[]] w fun e w'=>e=.returned (.tuple #[])/\∃Y,Y.Perm X/\Y.Pairwise (fun a b=>¬gH b a)/\bw 181 base Y (.slice a X.length c) w'/\Below base w w':=by
 have h':=h;rcases h'.2 with⟨e,h0⟩|⟨g,cap,cur,e,hbase,hb,_⟩
 ·simp only[Value.slice.injEq]at e;obtain⟨rfl,_,rfl⟩:=e;obtain rfl:X=[]:=List.eq_nil_of_length_eq_zero h0;exact(zOx none 0 _ w).mono fun e w' ⟨h1,h2⟩=>⟨h1,[],.nil,.nil,by rw[h2];exact h,by rw[h2];exact .refl _ _⟩
 ·simp only[Value.slice.injEq,true_and]at e;obtain⟨rfl,rfl⟩:=e;obtain⟨hH,hg⟩:=zQO h;have eg:∀args w,(callFunc 219 args).run Tryz.prog w=.ok (.enter 219 args) w:=enters_of Tryz.func219 (by kernel_rfl) rfl;have xD:CmpLays Tryz.prog 219 #[] ic 2 mY g 0 X.toArray.size w:=fun m os dk _ x y=>(zI6 x y _).mono fun e w' ⟨h1,q,os',h2⟩=>⟨h1,q,os',h2⟩
  have hcon:=AnyQ.slices_SortFunc Tryz.sortItm 2 Tryz.isAgg181 Tryz.sizeOf181 ic wG (fun x v hv=>by simp[ic]at hv;rcases hv with rfl|rfl<;>rfl) mY zUS 219 #[] g 0 c X.toArray w eg xD hH hg (by simp;omega);change Calls Tryz.prog 230 _ _ _ at hcon;simp only[List.size_toArray]at hcon;refine hcon.mono ?_;rintro e w' ⟨h1,d',n,os,⟨p1,p2,p3⟩,hs,rfl⟩;simp only[List.size_toArray]at p1 p3
  have hp:d'.toList.Perm X:=by
   have e1:d'.extract 0 X.length=d':=by rw[←p1];simp
   have e2:X.toArray.extract 0 X.length=X.toArray:=by simp
   rw[e1,e2]at p3
   simpa using p3
  have hd:d'=d'.toList.toArray:=by simp
  have hr:=zTe (Y:=d'.toList) (n:=n) (os:=os) h (by rw[Array.length_toList];exact p1);rw[←hd]at hr;refine⟨h1,d'.toList,hp,?_,hr⟩;rw[List.pairwise_iff_getElem];intro i j hi hj hij;have hi':i<d'.size:=by simpa using hi
  have hj':j<d'.size:=by simpa using hj
  have:=hs i j (Nat.zero_le _) hij (by omega);rw[Ih,decide_eq_false_iff_not,getElem!_pos d' j hj',getElem!_pos d' i hi']at this
  simpa using this
theorem zGq(Bm b nn)(X)(w)(hBm:Bm<w.heap.size)(hm:w.cell? ⟨Bm,0,none⟩=some (.map (some b)))(hs:MS b nn X w)(hnn:nn<=1000000):
  Calls Tryz.prog 234 #[.slice none 0 0,nB Bm] w (OM X w):=
 (callsIn_wide (n:=3)).1 (appendSeq_in Fence.wide 3 trivial trivial rfl (by omega) Bm b nn X w hBm hm hs hnn)
theorem zI5(Bm b nn)(X)(w)(hBm:Bm<w.heap.size)(hm:w.cell? ⟨Bm,0,none⟩=some (.map (some b)))(hs:MS b nn X w)(hnn:nn<=1000000):
  Calls Tryz.prog 229 #[nB Bm] w (OM X w):=by
 have A:=af (zGq Bm b nn X w hBm hm hs hnn);clear hm hs;go_enter Tryz.func229,Tryz.ntmps229;go_wp2_with (go_at_call 234;refine A.out.mono ?_;rintro e w1 ⟨v,ss,rfl,h1,h2,h3⟩;have H1:=af h1;have H2:=af h2;have H3:=af h3;clear h1 h2 h3);go_ret;exact⟨v,ss,rfl,H1.out,H2.out,H3.out⟩
theorem zQY(b)(w):Calls Tryz.prog 218 #[.map (some b)] w fun e w'=>e=.returned (nB w.heap.size)/\w'=w.alloc (.cells #[.map (some b)] 250):=by
 go_enter Tryz.func218,Tryz.ntmps218;go_wp2;go_ret;exact⟨rfl,rfl⟩
def uK(P:au->Prop)(w:World)(e:Ending)(w':World):Prop:=∃(Y:List au) (a:Option Addr) (c:Nat),e=.returned (.slice a Y.length c)/\Is Y P/\bw 181 w.heap.size Y (.slice a Y.length c) w'/\Below w.heap.size w w'
theorem zGH(Bm b nn)(X)(w)(hBm:Bm<w.heap.size)(hm:w.cell? ⟨Bm,0,none⟩=some (.map (some b)))(hs:MS b nn X w)(hnn:nn<=1000000)(M:List au)(hM:∀x,X x->x∈M)(J1:M.length<=1000000):
  Calls Tryz.prog 217 #[nB Bm,.func (.func 219) #[] #[]] w (uK (fun x=>X x/\dY x) w):=by
 have C:=af (zI5 Bm b nn X w hBm hm hs hnn);clear hm hs;have HM:=af hM;clear hM;go_enter Tryz.func217,Tryz.ntmps217
 go_wp2_with (first
  |(go_at_call 229;refine C.out.mono ?_;rintro e w1 ⟨v,ss,rfl,h1,h2,h3⟩;obtain⟨a,c,rfl,hc⟩:=h2.shape;have hlen:=Nat.le_trans (G6 h1.nd fun x hx=>HM.out x ((h1.mem x (h1.fit x hx)).1 hx)) J1;have H1:=af h1;have H2:=af h2;have H3:=af h3;clear h1 h2 h3)
  | (go_at_call 230;refine(zRp _ ss a c _ H2.out hlen).mono ?_;rintro e w2 ⟨rfl,Y,k1,k2,k3,k4⟩;have K1:=af k1;have K2:=af k2;have K3:=af k3;have K4:=af k4;clear k1 k2 k3 k4))
 go_ret;have el:=K1.out.length_eq;refine⟨Y,a,c,by rw[el];rfl,⟨Il (K1.out.nodup_iff.2 H1.out.nd) K2.out,fun x=>?_⟩,by rw[el];exact K3.out,H3.out.trans K4.out⟩;rw[K1.out.mem_iff];exact⟨fun hx=>⟨(H1.out.mem x (H1.out.fit x hx)).1 hx,H1.out.fit x hx⟩,fun⟨h1,h2⟩=>(H1.out.mem x h2).2 h1⟩
theorem Hk(b nn)(X)(w)(hs:MS b nn X w)(hnn:nn<=1000000)(M:List au)(hM:∀x,X x->x∈M)(J1:M.length<=1000000):
  Calls Tryz.prog 180 #[.map (some b)] w (uK (fun x=>X x/\dY x) w):=by
 have hb:Below w.heap.size w (w.alloc (.cells #[.map (some b)] 250)):=Gr.boxed _ _;have S:=af (zGH w.heap.size b nn X (w.alloc (.cells #[.map (some b)] 250)) (by simp) (Gr.bg rfl rfl) (hs.went hb) hnn M hM J1);have K:=af (zQY b w);clear hs;go_enter Tryz.func180,Tryz.ntmps180
 go_wp2_with (first
  |(go_at_call 218;refine K.out.mono ?_;rintro e w1 ⟨rfl,rfl⟩)
  | (go_at_call 217;refine S.out.mono ?_;rintro e w2 ⟨Y,a,c,rfl,h1,h2,h3⟩;have H1:=af h1;have H2:=af h2;have H3:=af h3;clear h1 h2 h3))
 go_ret;exact⟨Y,a,c,rfl,H1.out,H2.out.mono (by simp),hb.trans (H3.out.mono (by simp))⟩
