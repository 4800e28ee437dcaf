/- Proof. -/
import Derived.Test.YtegeamggbglneaaGreatDoorLookLay
import Derived.Test.YtegeamggbglneaaGreatDoorPk18
import Derived.Test.YtegeamggbglneaaGreatDoorPk30
set_option maxHeartbeats 2000000
set_option maxRecDepth 100000
set_option linter.unusedVariables false
namespace Go.Proofs.YtegeamggbglneaaGreatDoor
open Go.RowKit Go.Maps
namespace Lk
open Im (Gw Mo Nh)
abbrev gF:=Int×Option Addr×Nat×Nat
def fT(x:gF):Value:=.slice x.2.1 x.2.2.1 x.2.2.2
def lc(x:gF):List Value:=[.int .i64 x.1,fT x]
theorem rz(x):(lc x).length=2:=rfl
theorem mC(X:List gF):(X.flatMap lc).length=X.length*2:=by
 induction X with
 |nil=>rfl
 |cons x X ih=>
  rw[List.flatMap_cons,List.length_append,ih,rz,List.length_cons];omega
def dE(base:Nat)(X:List gF)(v:Value)(w:World):Prop:=w.ownsRow base 186 2 v X.length (X.flatMap lc)
def cmpL(x y:gF):Int:=Lib.compareInt x.1 y.1
theorem H5(x y):ltOf cmpL x y=decide (x.1<y.1):=by
 unfold ltOf cmpL Lib.compareInt
 by_cases h1:x.1<y.1
 ·simp[h1]
 ·by_cases h2:y.1<x.1<;>simp[h1,h2]
theorem zRu:Go.Sort.SWO (ltOf cmpL) where
 irrefl x:=by
  rw[H5,decide_eq_false_iff_not];omega
 trans x y z h1 h2:=by
  rw[H5,decide_eq_true_iff]at*;omega
 ntrans x y z h1 h2:=by
  rw[H5,decide_eq_false_iff_not]at*;omega
theorem zS4(x y:gF)(w:World):
  Calls Tryz.prog 143 #[.agg #[.int .i64 x.1,fT x],.agg #[.int .i64 y.1,fT y]] w fun e w'=>e=.returned (.int .i64 (cmpL x y))/\Gw w w':=by
 have C:=af Mo;unfold cmpL fT;go_enter Tryz.func143,Tryz.ntmps143
 go_wp2_with (first
  |(go_at_call 144;refine(C.out _ _ _).mono ?_;rintro e wn ⟨rfl,rfl⟩)
  |fail)
 go_ret;exact⟨rfl,by first|exact(((Gw.refl w).alloc _).alloc _)|exact(((Gw.refl w).alloc _).alloc _).drew⟩
theorem Xu(d):Go.Sort.flatK lc 2 d=(d.toList.flatMap lc).toArray:=by
 have hl:=mC d.toList
 apply Array.ext_getElem?
 intro t
 by_cases ht:t<d.size*2
 ·have hi:t / 2<d.toList.length:=by rw[Array.length_toList];omega
  have h:=Rw.mE lc rz d.toList (t / 2) hi (t % 2) (Nat.mod_lt _ (by omega));rw[show t / 2*2+t % 2=t by omega]at h
  conv=>rhs;rw[List.getElem?_toArray,h]
  unfold Go.Sort.flatK;rw[Array.getElem?_map,Array.getElem?_range,if_pos ht];have hi':t / 2<d.size:=by omega
  rw[Option.map_some,getElem!_pos d (t / 2) hi',Array.getElem_toList];rcases Nat.mod_two_eq_zero_or_one t with e|e<;>rw[e]<;>simp[lc]
 ·conv=>rhs;rw[List.getElem?_toArray]
  rw[Array.getElem?_eq_none (by simp;omega),List.getElem?_eq_none (by rw[hl,Array.length_toList];omega)]
theorem zQP{base}{X}{g cap}{w}(h:dE base X (.slice (some ⟨g,0,none⟩) X.length cap) w):Go.Sort.HoldsK lc 2 w g 0 X.toArray/\g<w.heap.size:=by
 rcases h.2 with⟨e,_⟩|⟨g',cap',cur,e,_,hb,_,_,h3,h4⟩
 ·cases e
 ·simp only[Value.slice.injEq,Option.some.injEq,Addr.mk.injEq,and_true,true_and]at e;obtain⟨rfl,rfl⟩:=e;refine⟨?_,(Array.getElem?_eq_some_iff.1 hb).1⟩;unfold Go.Sort.HoldsK;rw[Xu];intro j hj;have hl:=mC X;simp only[List.size_toArray]at hj;refine⟨?_,by simp[World.frozen?,hb]⟩;have h1:(cur.toList.take (X.length*2))[j]?=(X.flatMap lc)[j]?:=by rw[h4]
  rw[List.getElem?_take_of_lt (by omega)]at h1;simp only[World.cell?,hb,Nat.zero_add];simp only[Option.isSome_none,Bool.false_eq_true,if_false];rw[←Array.getElem?_toList,h1];simp only[List.getElem!_toArray,id];rw[List.getElem?_eq_getElem hj,getElem!_pos _ j hj]
theorem zTl{base}{X Y}{g cap n}{w}{os}(h:dE base X (.slice (some ⟨g,0,none⟩) X.length cap) w)(hl:Y.length=X.length):
  dE base Y (.slice (some ⟨g,0,none⟩) X.length cap) (sortWorldK lc 2 w g 0 n Y.toArray os)/\w.grownBy (sortWorldK lc 2 w g 0 n Y.toArray os) (some g):=by
 unfold sortWorldK Go.Sort.putRowK;rw[Xu];rcases h.2 with⟨e,_⟩|⟨g',cap',cur,e,hbase,hb,h1,h2,h3,h4⟩
 ·cases e
 ·simp only[Value.slice.injEq,Option.some.injEq,Addr.mk.injEq,and_true,true_and]at e;obtain⟨rfl,rfl⟩:=e;have xI:=mC Y;have hgr:=Im.U6 (w:=w) (g:=g) (n:=n) (os:=os) ((Y.flatMap lc).toArray);refine⟨⟨by rw[xI],.inr ⟨g,cap,_,by rw[hl],hbase,Im.Wk _ hb,by omega,h2,by simp[Go.Sort.putCells,h3],?_⟩⟩,hgr⟩;rw[←xI];exact Im.UE cur _ (by rw[xI];have:=Nat.mul_le_mul_right 2 h1;omega)
theorem zFG(p:Option Addr)(c:Nat)(fv:Value)(w:World):
  Calls Tryz.prog 195 #[.slice p 0 c,.int .i64 0,.int .i64 0,fv] w fun e w'=>e=.returned (.tuple #[])/\w'=w:=by
 go_enter Tryz.func195,Tryz.ntmps195;go_wp2;refine wp_loop_rounds 1 ?_;rw[rounds_succ];go_wp2;go_end0;exact⟨rfl,rfl⟩
theorem zOU(p:Option Addr)(c:Nat)(lim:Int)(fv:Value)(w:World):
  Calls Tryz.prog 169 #[.slice p 0 c,.int .i64 0,.int .i64 0,.int .i64 lim,fv] w fun e w'=>e=.returned (.tuple #[])/\w'=w:=by
 have hi:=fun W=>zFG p c fv W
 go_enter Tryz.func169,Tryz.ntmps169;go_wp2;refine wp_loop_rounds 1 ?_;rw[rounds_succ];go_wp2_with (go_at_call 195;refine(hi _).mono ?_;rintro e w' ⟨rfl,rfl⟩)
 (try simp only[Exit.inBlock,Exit.then]);refine bodyPost_ret (results_none rfl _ _ _) rfl ?_
 exact⟨rfl,rfl⟩
theorem zL7(p:Option Addr)(c:Nat)(fv:Value)(w:World):
  Calls Tryz.prog 142 #[.slice p 0 c,fv] w fun e w'=>e=.returned (.tuple #[])/\w'=w:=by
 have hp:=fun lim W=>zOU p c lim fv W
 have hl:=Nh;go_enter Tryz.func142,Tryz.ntmps142
 go_wp2_with (first
  |(go_at_call 170;refine(hl _).mono ?_;rintro e w' ⟨rfl,rfl⟩)
  | (go_at_call 169;refine(hp _ _).mono ?_;rintro e w' ⟨rfl,rfl⟩))
 go_end0;exact⟨rfl,rfl⟩
theorem zRq(base)(X)(a)(c)(w)(h:dE base X (.slice a X.length c) w)(hl:X.length<=1000000):
  Calls Tryz.prog 142 #[.slice a X.length c,.func (.func 143) #[] #[]] w fun e w'=>e=.returned (.tuple #[])/\∃Y,Y.Perm X/\Y.Pairwise (fun a b=>¬b.1<a.1)/\dE base Y (.slice a X.length c) w'/\w.grownBy w' (Value.slice a X.length c).ownBlock:=by
 have h':=h;rcases h'.2 with⟨e,h0⟩|⟨g,cap,cur,e,hbase,hb,_⟩
 ·simp only[Value.slice.injEq]at e;obtain⟨rfl,_,rfl⟩:=e;obtain rfl:X=[]:=List.eq_nil_of_length_eq_zero h0;exact(zL7 none 0 _ w).mono fun e w' ⟨h1,h2⟩=>⟨h1,[],.nil,.nil,by rw[h2];exact h,by rw[h2];exact⟨rfl,rfl,rfl,Nat.le_refl _,fun _ _ _=>rfl⟩⟩
 ·simp only[Value.slice.injEq,true_and]at e;obtain⟨rfl,rfl⟩:=e;obtain⟨hH,hg⟩:=zQP h;have eg:∀args w,(callFunc 143 args).run Tryz.prog w=.ok (.enter 143 args) w:=enters_of Tryz.func143 (by kernel_rfl) rfl;have xD:CmpLays Tryz.prog 143 #[] lc 2 cmpL g 0 X.toArray.size w:=fun m os dk _ x y=>(zS4 x y _).mono fun e w' ⟨h1,q,os',h2⟩=>⟨h1,q,os',h2⟩
  have hcon:=AnyQ.slices_SortFunc Tryz.sortLk 2 Tryz.isAgg186 Tryz.sizeOf186 lc rz (fun x v hv=>by simp[lc,fT]at hv;rcases hv with rfl|rfl<;>rfl) cmpL zRu 143 #[] g 0 c X.toArray w eg xD hH hg (by simp;omega);change Calls Tryz.prog 142 _ _ _ at hcon;simp only[List.size_toArray]at hcon;refine hcon.mono ?_;rintro e w' ⟨h1,d',n,os,⟨p1,p2,p3⟩,hs,rfl⟩;simp only[List.size_toArray]at p1 p3
  have hp:d'.toList.Perm X:=by
   have e1:d'.extract 0 X.length=d':=by rw[←p1];simp
   have e2:X.toArray.extract 0 X.length=X.toArray:=by simp
   rw[e1,e2]at p3
   simpa using p3
  have hd:d'=d'.toList.toArray:=by simp
  have hr:=zTl (Y:=d'.toList) (n:=n) (os:=os) h (by rw[Array.length_toList];exact p1);rw[←hd]at hr;refine⟨h1,d'.toList,hp,?_,hr.1,hr.2⟩;rw[List.pairwise_iff_getElem];intro i j hi hj hij;have hi':i<d'.size:=by simpa using hi
  have hj':j<d'.size:=by simpa using hj
  have:=hs i j (Nat.zero_le _) hij (by omega);rw[H5,decide_eq_false_iff_not,getElem!_pos d' j hj',getElem!_pos d' i hi']at this
  simpa using this
end Lk
namespace Im
open Gr (ai Sh gv bI Bx step boxed checkN bg)
noncomputable def jo(G:ai)(L:List au):List au:=if checkN G=0 then L else[]
theorem zX{G}{L}{x}:x∈jo G L↔checkN G=0/\x∈L:=by
 unfold jo
 by_cases h:checkN G=0
 ·simp[h]
 ·simp[h]
theorem zVP{G}(h:checkN G=0)(L):jo G L=L:=if_pos h
theorem zTn{G}(h:¬checkN G=0)(L):jo G L=[]:=if_neg h
theorem XL{G}{L}(x):qp G L x↔(x∈jo G L/\bo G x=true):=by
 unfold qp;rw[zX,and_assoc]
theorem zPt{G}{x}(h:cM G [] x):False:=by
 induction h with
 |of h _=>cases h
 |next _ _ _ ih=>exact ih
theorem zS3{G}{L}{x}:cM G (jo G L) x↔checkN G=0/\cM G L x:=by
 by_cases h:checkN G=0
 ·rw[zVP h];exact⟨fun k=>⟨h,k⟩,fun k=>k.2⟩
 ·rw[zTn h];exact⟨fun k=>(zPt k).elim,fun k=>absurd k.1 h⟩
noncomputable def lY(G:ai):List au:=if checkN G=0 then allI G else[]
theorem VV(G):(lY G).length<=2709:=by
 unfold lY
 by_cases h:checkN G=0
 ·rw[if_pos h];exact se h
 ·rw[if_neg h];simp
theorem zQr{G}{x}(h:checkN G=0)(hx:bo G x=true):x∈lY G:=by
 unfold lY;rw[if_pos h];exact uC hx
theorem uK.of{P Q}{w w1 w'}{e}(h:uK P w1 e w')(hb:Below w.heap.size w w1)(hi:∀x,P x↔Q x):uK Q w e w':=by
 obtain⟨Y,a,c,h1,h2,h3,h4⟩:=h;exact⟨Y,a,c,h1,h2.iff hi,h3.mono hb.size,Gr.step hb h4⟩
structure ql (W:World) (h:Sh) (G:ai) (d b r n q:Nat) (X Lf Z:au->Prop) (m:Nat) (w:World):Prop where
 bx:Bx W h G w
 run:MR b r n q X Lf w
 set:MS d m Z w
 d1:W.heap.size+1<=d
 d2:d<b
 d3:d<r
theorem ql.later{W}{h}{G}{d b r n q m}{X Lf Z}{w w'}(k:ql W h G d b r n q X Lf Z m w)(hb:Below w.heap.size w w'):ql W h G d b r n q X Lf Z m w'/\w'.rangeLeft b r=w.rangeLeft b r:=
 ⟨⟨k.bx.went hb,k.run.went hb,k.set.went hb,k.d1,k.d2,k.d3⟩,cf.gU (hb.block b k.run.lt.1) (hb.block r k.run.lt.2.1)⟩
theorem ql.wrote{W}{h}{G}{d b r n q m m'}{X Lf Z Z'}{w w'}(k:ql W h G d b r n q X Lf Z m w)(f:Sep.Fr (· =d) w w')(hs:MS d m' Z' w'):ql W h G d b r n q X Lf Z' m' w'/\w'.rangeLeft b r=w.rangeLeft b r:=by
 have h1:=f.block b k.run.lt.1 (by have:=k.d2;omega);have h2:=f.block r k.run.lt.2.1 (by have:=k.d3;omega);exact⟨⟨uL k.bx f fun i hi=>by have:=k.d1;omega,k.run.keep h1 h2,hs,k.d1,k.d2,k.d3⟩,cf.gU h1 h2⟩
theorem ql.next{W}{h}{G}{d b r n q m}{X Lf PV Z}{w w'}(k:ql W h G d b r n q X Lf Z m w)(hg:w.grownBy w' (some r))(hr:MR b r n (q+1) X PV w'):ql W h G d b r n (q+1) X PV Z m w':=by
 refine⟨k.bx.grown hg fun g e=>?_,hr,k.set.keep (hg.block d k.set.lt fun e=>?_),k.d1,k.d2,k.d3⟩
 ·injection e with e
  have:=k.d1;have:=k.d3;omega
 ·injection e with e
  have:=k.d3;omega
theorem zMw(h:Sh)(G:ai)(L:List au)(a:Option Addr)(c:Nat)(w:World)(k:bI h G w)(kl:bG a L w)(hw:∀x∈L,dY x)(hL:L.length<=1000000):
  Calls Tryz.prog 157 #[gv h G,.slice a L.length c] w (uK (fun x=>checkN G=0/\cM G L x) w):=by
 have X0:=af (Bx.start h G w 47);have V:=af (fun w1 (b:Below w.heap.size w w1)=>zPP h G L a c w1 (k.went b) (kl.went b) hw (by omega));have M0:=af (cj.made (H:=Nat) (w.alloc (.cells #[.slice h.a1 G.terms.length h.c1,.slice h.a2 G.ah.length h.c2,.slice h.a3 G.rules.length h.c3,.int .i64 G.start] 47)) Tryz.prog 181 unitElem (.agg []));have X1:=af (X0.out.alloc (.map #[] 0));have hs1:(w.alloc (.cells #[.slice h.a1 G.terms.length h.c1,.slice h.a2 G.ah.length h.c2,.slice h.a3 G.rules.length h.c3,.int .i64 G.start] 47)).heap.size=w.heap.size+1:=by simp
 have hs2:((w.alloc (.cells #[.slice h.a1 G.terms.length h.c1,.slice h.a2 G.ah.length h.c2,.slice h.a3 G.rules.length h.c3,.int .i64 G.start] 47)).alloc (.map #[] 0)).heap.size=w.heap.size+2:=by simp
 rw[hs1]at M0;have SP:=af (fun(hv:checkN G=0) (x:au) (Z:au->Prop) w1 (b:Below w.heap.size w w1) (hx:bo G x=true) (hZ:∀y,Z y->bo G y=true) (hz:MS (w.heap.size+1) (allI G).length Z w1)=>zL8 h G hv w k (w.heap.size+1) (by omega) (allI G).length (allI G) x Z w1 (Nat.le_refl _) hx hZ (fun y hy _=>uC hy) b hz);clear k kl hw X0 hs1;unfold gv at*;have hmm:=@run_makeMap Tryz.prog;go_enter Tryz.func157,Tryz.ntmps157
 go_wp2_with (first
  |(go_at_call 178;refine(V.out _ X1.out.below).mono ?_;rintro e w1 ⟨b,n,rfl,hb1,hb2,hm,hb⟩;have X2:=af (X1.out.went hb);have Z2:=af (M0.out.went hb);have V2:=af hm;rw[hs2]at hb1;clear hm hb)
  |(at_range;refine zEJ _ rfl _ rfl vK Tryz.underlying250 (.agg []) b n _ rfl V2.out ?_;intro w2 hrg hg hsz)
  |go_in)
 have J7:=X2.out.size
 have R0:=af (show ql w h G (w.heap.size+1) b w1.heap.size n 0 _ _ (fun _=>False) (allI G).length w2 from
  ⟨X2.out.grown hg (fun g e=>by cases e),hrg,(Z2.out.keep (hg.block _ Z2.out.lt (fun e=>by cases e))).mono (Nat.zero_le _),Nat.le_refl _,by omega,by have:=V2.out.lt;omega⟩)
 have P0:=af (Way.start (G:=G) (L:=jo G L) (X:=qp G L) (Z:=fun _=>False) (fun y h1 h2=>(XL y).2 ⟨h1,h2⟩) (fun _=>id));clear V X1 M0 X2 Z2 hrg hg hsz hs2 J7;go_frame;go_loopw [6] (fun _ wr=>∃(q:Nat) (Lf Z:au->Prop),ql w h G (w.heap.size+1) b w1.heap.size n q (qp G L) Lf Z (allI G).length wr/\Way G (jo G L) Lf Z) (fun _ wr=>wr.rangeLeft b w1.heap.size)
 case atStart=>exact⟨0,_,_,R0.out,P0.out⟩
 case round=>
  obtain⟨q,Lf,Z,hR,hP⟩:=hrel;clear R0 P0;have HR:=af hR;have HP:=af hP;have hrg:=hR.run;clear hR hP
  go_wp2_with (first
   |(at_next;refine zEb _ rfl _ rfl vK b w1.heap.size n q _ Lf rfl hrg ?_ ?_)
   |go_in)
  ·intro hd;have hz:∀y,Z y↔checkN G=0/\cM G L y:=fun y=>(HP.out.done (fun y h1 h2=>hd y (Ee (zX.1 h1).1 h2)) y).trans zS3
   have Lc:∀y,Z y->y∈lY G:=fun y hy=>zQr ((hz y).1 hy).1 (HP.out.right y hy)
   have LS:=af ((Hk (w.heap.size+1) (lY G).length Z wr (HR.out.set.tight vK (lY G) fun y _ hy=>Lc y hy) (Nat.le_trans (VV G) (by omega)) (lY G) Lc (Nat.le_trans (VV G) (by omega))).mono fun e w' hl=>uK.of (Q:=fun x=>checkN G=0/\cM G L x) hl HR.out.bx.below fun x=>⟨fun q=>(hz x).1 q.1,fun q=>⟨(hz x).2 q,Ee q.1 (oF q.2)⟩⟩);have hB:=HR.out.bx.below;clear HR HP hrg Lc;go_wp2_with (go_at_call 180;refine LS.out.mono ?_;rintro e w4 ⟨Y,a4,c4,rfl,h1,h2,h3⟩;have H1:=af h1;have H2:=af h2;have H3:=af h3;clear h1 h2 h3);go_ret;exact⟨Y,a4,c4,rfl,H1.out,H2.out,H3.out⟩
  ·intro x0 x1 w3 hx Cf ma hrg2 hlt hg2 hs2 hen;have hv:=ma.1;have Bc:=HR.out.next hg2 hrg2;obtain⟨Bd,hl4⟩:=Bc.later (boxed w3 (.cells #[.int .i64 x0,.int .i64 x1] 181));obtain⟨g0,g1,g2,g3⟩:=Bd.bx.box;have y0:(w3.alloc (.cells #[.int .i64 x0,.int .i64 x1] 181)).cell? ⟨w3.heap.size,0,none⟩=some (.int .i64 x0):=bg rfl rfl;have y1:(w3.alloc (.cells #[.int .i64 x0,.int .i64 x1] 181)).cell? ⟨w3.heap.size,1,none⟩=some (.int .i64 x1):=bg rfl rfl;have R4:=af Bd;have C:=af (SP.out hv (x0,x1) Z _ Bd.bx.below ma.2.2 HP.out.right Bd.set);have PS:=af (fun(Y:au->Prop)=>HP.out.step (Y:=Y) (x:=(x0,x1)) ((XL _).1 ma).1 ma.2.2);have Ga:wr.rangeLeft b w1.heap.size>(w3.alloc (.cells #[.int .i64 x0,.int .i64 x1] 181)).rangeLeft b w1.heap.size:=by rw[hl4];exact hlt
   unfold iv at hen C⊢;dsimp only at hen C⊢;clear Bc Bd hl4 hlt hs2 hrg hrg2 HR HP ma Cf hg2 hx;go_wp2_with (go_at_call 179;refine C.out.mono ?_;rintro e w5 ⟨rfl,Y,hs,hm,hf⟩;obtain⟨r5,l5⟩:=R4.out.wrote hf hm;have P5:=af (PS.out Y hs);have R5:=af r5;rw[←l5]at Ga;clear hs hm hf l5 r5);go_roundw
   case rel=>exact⟨_,_,Y,R5.out,P5.out⟩
   case measure=>exact Ga
