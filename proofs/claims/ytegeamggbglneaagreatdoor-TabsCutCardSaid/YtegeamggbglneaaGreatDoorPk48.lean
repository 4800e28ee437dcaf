/- Proof. -/
import Derived.Laws.ResultCell
import Derived.Laws.Rows
import Derived.Test.YtegeamggbglneaaGreatDoorPk47
import Derived.Test.YtegeamggbglneaaGreatDoorPk46
set_option maxHeartbeats 4000000
set_option maxRecDepth 100000
set_option linter.unusedVariables false
set_option linter.unusedSimpArgs false
namespace Go.Proofs.YtegeamggbglneaaGreatDoor
open Go.RowKit Go.Maps
namespace Ac
open Gr (ai Sh bI gv Bx cell_later boxed drawn checkN)
open Rw (gZ)
open Lk (xe mS iM pY yz dL Mv Mz Mq)
open Au
def pK:Array Value:=#[.slice none 0 0,.slice none 0 0,.slice none 0 0,.int .i64 0,.slice none 0 0,.slice none 0 0]
def VU(h:Sh)(G:ai)(w:World)(e:Ending)(w':World):Prop:=
 (∃er:Int,er≠0/\bE G er []/\e=.returned (.tuple #[.agg pK,.int .i64 er])/\Below w.heap.size w w')\/
 (∃(m:Am) (q:Whole),m.h=h/\m.G=G/\bE G 0 (states q)/\Dat m q w'/\e=.returned (.tuple #[.agg (bV m),.int .i64 0])/\Below w.heap.size w w')
theorem zNs{G}{q}{er}{Ys}(hv:checkN G=0)(D:Done G q)(hb:bE G 0 (states q))(h:iM G er Ys):er=0/\Ys=pY G q:=by
 cases h with
 |bad h1 h2=>exact absurd (h1.uniq hb).1 h2
 |all h1 h2 h3 h4=>
  have e:=(h4.uniq hb).2;rw[Mz h2.all D.all e];exact⟨rfl,rfl⟩
structure rT (h:Sh) (G:ai) (q:Whole) (aS:Option Addr) (cS p:Nat) (w4:World) (k:Nat) (V:Nat->Value) (al:Option Addr) (cl:Nat) (wr:World):Prop where
 box:wr.heap[p]?=some (.cells (bV ⟨h,G,aS,q.1.length,cS,al,k,cl⟩) 104 (0,0))
 row:wr.ownsRow w4.heap.size 145 1 (.slice al k cl) k ((List.range k).map V)
 els:∀j,j<k->∃a c,V j=.slice a (aP G q j).length c/\dO a (aP G q j) wr
 fr:Sep.Fr (fun x=>x=p) w4 wr
 pl:p<w4.heap.size
section
variable {h:Sh} {G:ai} {q:Whole} {aS:Option Addr} {cS p k:Nat} {w4 wr wa wb:World} {V:Nat->Value} {al:Option Addr} {cl:Nat}
theorem rT.below(r:rT h G q aS cS p w4 k V al cl wr){n}(hn:n<=p):Below n w4 wr:=r.fr.below (fun x hx=>by omega) (by have:=r.pl;omega)
theorem rT.next(r:rT h G q aS cS p w4 k V al cl wr)(hb:Below wr.heap.size wr wa){a a2}{c c2}{v'}(hE:dO a (aP G q k) wa)(hv:v'=.slice a2 (k+1) c2)
  (hown:wb.ownsRow w4.heap.size 145 1 v' (k+1) ((List.range k).map V++[.slice a (aP G q k).length c])) (hg:wa.grownBy wb (Value.slice al k cl).ownBlock):
  rT h G q aS cS p w4 (k+1) (fun j=>if j=k then .slice a (aP G q k).length c else V j) a2 c2 (wb.setCell ⟨p,5,none⟩ v'):=by
 subst hv;have xM:=Sep.bS r.row (w':=wa) fun g e=>hb.block g (World.ownsRow.lt r.row g e).2
 have hpw:p<wr.heap.size:=(Array.getElem?_eq_some_iff.1 r.box).1
 have xK:∀g,(Value.slice al k cl).ownBlock=some g->p≠g:=fun g e e2=>by
  have:=(World.ownsRow.lt r.row g e).1;have:=r.pl;omega
 have bW:wb.heap[p]?=some (.cells (bV ⟨h,G,aS,q.1.length,cS,al,k,cl⟩) 104 (0,0)):=(hg.block p (Nat.lt_of_lt_of_le hpw hb.size) (fun e=>xK p e.symm rfl)).trans ((hb.block p hpw).trans r.box)
 have BK:Sep.Fr (fun x=>x=p) w4 (wb.setCell ⟨p,5,none⟩ (.slice a2 (k+1) c2)):=
  (((r.fr.trans (.of_below hb) (fun x hx=> .inl hx)).grown hg fun g e=> .inr (World.ownsRow.lt r.row g e).1).setCell ⟨p,5,none⟩ rfl _)
 have hty:∀g,(Value.slice al k cl).ownBlock=some g->Ty g 145 wa:=fun g e=>by
  rcases xM.2 with⟨h0,_⟩|⟨g',cap,cur,h0,_,h1,_⟩
  ·rw[h0]at e;cases e
  ·rw[h0]at e;injection e with e
   dsimp only at e;subst e;exact⟨cur,_,h1⟩
 have fh:∀{b:Option Addr} {Y:List (Nat×List Nat)},dO b Y wa->dO b Y (wb.setCell ⟨p,5,none⟩ (.slice a2 (k+1) c2)):=fun {b Y} he=>by
  have FV:dO b Y wb:=by
   cases ho:(Value.slice al k cl).ownBlock with
   |none=>
    rw[ho]at hg;exact he.went ⟨hg.os,hg.tape,hg.output,hg.size,fun x hx=>hg.block x hx (by simp)⟩
   |some g=>
    rw[ho]at hg;exact he.kept (hty g ho) (by decide) (by decide) hg
  exact FV.kept (g:=p) (U:=104) ⟨_,_,bW⟩ (by decide) (by decide) (Rg.jg _ _ _ _)
 refine⟨?_,?_,?_,BK,r.pl⟩
 ·have e:=Rg.js bW (k:=5) (.slice a2 (k+1) c2);rw[e]
  rfl
 ·have e:(List.range (k+1)).map (fun j=>if j=k then(.slice a (aP G q k).length c:Value)else V j)=(List.range k).map V++[.slice a (aP G q k).length c]:=by
   rw[List.range_succ,List.map_append]
   congr 1
   ·refine List.map_congr_left fun j hj=>?_
    have:=List.mem_range.1 hj;rw[if_neg (by omega)]
   ·simp
  rw[e];refine Sep.bS hown fun g e2=>?_
  refine(Rg.jg wb p 5 (.slice a2 (k+1) c2)).block g (World.ownsRow.lt hown g e2).2 fun e3=>?_
  injection e3 with e3
  have:=(World.ownsRow.lt hown g e2).1;have:=r.pl;omega
 ·intro j hj
  by_cases hjk:j=k
  ·subst hjk;exact⟨a,c,by simp,fh hE⟩
  ·obtain⟨a',c',e1,e2⟩:=r.els j (by omega);exact⟨a',c',by simp[hjk,e1],fh (e2.went hb)⟩
theorem rT.all'(r:rT h G q aS cS p w4 k V al cl wr)(hk:k=q.1.length){p2}(hp2:p2<w4.heap.size)(ht:Ty p2 104 wr)(f:Sep.Fr (fun x=>x=p2) wr wa):xe al ((List.range q.1.length).map (aP G q)) wa:=by
 subst hk;intro i hi;rw[List.length_map,List.length_range]at hi;obtain⟨a,c,e1,e2⟩:=r.els i hi;have hrow:=Sep.bS r.row (w':=wa) fun g e=>f.block g (World.ownsRow.lt r.row g e).2 (by have:=(World.ownsRow.lt r.row g e).1;omega)
 have e3:=e2.kept ht (by decide) (by decide) (⟨f.os,f.tape,f.output,f.size,fun x hx hne=>f.block x hx fun e=>hne (by rw[e])⟩:wr.grownBy wa (some p2));obtain⟨b,rfl⟩:=Lk.sw hrow (by omega);have t0:=World.ownsRow.cells hrow (g:=b) rfl i (V i) (by rw[List.getElem?_map,List.getElem?_range hi];rfl);rw[WideShapes.add_plain,e1]at t0;exact⟨b,a,c,rfl,by simpa using t0,by simpa using e3.reads⟩
end
theorem zML{w:World}{p m n c}{a}{T}(hp:w.heap[p]?=some (.cells pK T (0,0)))(h:w.cell? ⟨p,m,none⟩=some (.slice a n c)):n=0:=by
 unfold World.cell? at h;simp only[hp]at h;unfold pK at h
 match m,h with
 |0,h=>simp at h;omega
 |1,h=>simp at h;omega
 |2,h=>simp at h;omega
 |3,h=>simp at h
 |4,h=>simp at h;omega
 |5,h=>simp at h;omega
 |m+6,h=>simp at h
theorem V6{w:World}{p m}{x}{T}(hp:w.heap[p]?=some (.cells pK T (0,0)))(h:w.cell? ⟨p,m,none⟩=some (.int .i64 x)):m=3:=by
 unfold World.cell? at h;simp only[hp]at h;unfold pK at h
 match m,h with
 |0,h=>simp at h
 |1,h=>simp at h
 |2,h=>simp at h
 |3,h=>rfl
 |4,h=>simp at h
 |5,h=>simp at h
 |m+6,h=>simp at h
theorem Wo{a}{X}{w w'}{p}{T}(hp:w.heap[p]?=some (.cells pK T (0,0)))(f:Sep.Fr (fun x=>x=p) w w')(h:Im.bG a X w):Im.bG a X w':=by
 rcases X with _|⟨x,X⟩
 ·exact Im.bG.nil _ _
 ·obtain⟨b,o,rfl,h1,h2⟩:=h.at 0 (by simp)
  have hb:b≠p:=fun e=>by
   subst e;have e1:=V6 hp h1;have e2:=V6 hp h2;omega
  refine h.keep fun b' o' e=>?_
  simp only[Option.some.injEq,Addr.mk.injEq,and_true]at e;obtain⟨rfl,_⟩:=e;exact f.block b (World.block_lt_of_cell? w _ h1) hb
theorem zRs{a}{X}{w w'}{p}{T}(hp:w.heap[p]?=some (.cells pK T (0,0)))(f:Sep.Fr (fun x=>x=p) w w')(hne:∀s∈X,s.1≠[])(h:fB a X w):fB a X w':=fun i hi=>by
 obtain⟨b,o,a1,c1,a2,c2,e,h1,h2,h3,h4,h5,h6⟩:=h i hi
 have hb:b≠p:=fun e=>by
  subst e;exact hne _ (List.getElem_mem hi) (List.length_eq_zero_iff.1 (zML hp h1))
 have hbl:=World.block_lt_of_cell? w _ h1;exact⟨b,o,a1,c1,a2,c2,e,f.cell h1 hb,f.cell h2 hb,Wo hp f h3,Wo hp f h4,h5,h6⟩
def jK(w:World)(p:Nat)(v0 v1 v2 v3 v4 v5:Value):World:=(((((w.setCell ⟨p,0,none⟩ v0).setCell ⟨p,1,none⟩ v1).setCell ⟨p,2,none⟩ v2).setCell ⟨p,3,none⟩ v3).setCell ⟨p,4,none⟩ v4).setCell ⟨p,5,none⟩ v5
theorem Vv{w}{p}{u0 u1 u2 u3 u4 u5}{T}(h:w.heap[p]?=some (.cells #[u0,u1,u2,u3,u4,u5] T (0,0)))(v0 v1 v2 v3 v4 v5):(jK w p v0 v1 v2 v3 v4 v5).heap[p]?=some (.cells #[v0,v1,v2,v3,v4,v5] T (0,0)):=by
 have e:=Rg.js (k:=5) (Rg.js (k:=4) (Rg.js (k:=3) (Rg.js (k:=2) (Rg.js (k:=1) (Rg.js (k:=0) h v0) v1) v2) v3) v4) v5;unfold jK;rw[e]
 rfl
theorem Yi(w)(p)(v0 v1 v2 v3 v4 v5):Sep.Fr (fun x=>x=p) w (jK w p v0 v1 v2 v3 v4 v5):=
 ((((((Sep.Fr.refl (fun x=>x=p) w).setCell ⟨p,0,none⟩ rfl v0).setCell ⟨p,1,none⟩ rfl v1).setCell ⟨p,2,none⟩ rfl v2).setCell ⟨p,3,none⟩ rfl v3).setCell ⟨p,4,none⟩ rfl v4).setCell ⟨p,5,none⟩ rfl v5
theorem zUr{base}{Ys}{a}{n c}{w}(h:mS base Ys (.slice a n c) w){i}(hi):∃b aI cI,a=some ⟨b,0,none⟩/\w.cell? ⟨b,i,none⟩=some (.slice aI Ys[i].length cI)/\dO aI Ys[i] w/\Ys[i].length<=cI:=by
 obtain⟨V,h1,h2⟩:=h
 have hn:n=Ys.length:=by
  obtain⟨_,_,e⟩:=Rw.cu h1;simp only[Value.slice.injEq]at e;exact e.2.1
 subst hn;obtain⟨b,rfl⟩:=Lk.sw h1 (by omega);have t0:=World.ownsRow.cells h1 (g:=b) rfl i (V i) (by rw[List.getElem?_map,List.getElem?_range hi];rfl);rw[WideShapes.add_plain]at t0;obtain⟨aI,cI,e,hE,hc⟩:=zU3 (h2 i hi);rw[e]at t0;exact⟨b,aI,cI,rfl,by simpa using t0,hE,hc⟩
theorem zP7(G)(q)(i):(dL G q i).length<=G.rules.length+1:=by
 unfold dL;rw[List.length_map];refine Nat.le_trans (List.length_filter_le _ _) ?_;rw[List.length_range];exact Nat.le_refl _
theorem Uy{w}{p}{cs}{T}(tmps)(er)(h2:tmps.getD 2 undef=.pointer (some ⟨p,0,none⟩))(h3:tmps.getD 3 undef=er)(hg:w.heap[p]?=some (.cells cs T (0,0)))(hs:cs.size=6):
  (results Tryz.f60 tmps).run Tryz.prog w=.ok (.tuple #[.agg cs,er]) w:=by
 rw[results_cell_tmp (p:=2) (ty:=104) (u:=3) rfl,h2,h3];simp[asAddr,run_loadVar_row w p T 104 cs (0,0) _ hg Tryz.underlying104 rfl (by rw[hs];kernel_rfl),Result.andThen]
theorem NF(h:Sh)(G:ai)(w:World)(k:bI h G w)(bF:Bt.jA w):
  Calls Tryz.prog 60 #[gv h G] w (VU h G w):=by
 have X:=af ((Bx.start h G w 47).alloc (.cells pK 104));have BU:=af (fun w1 (b:Below w.heap.size w w1)=>UR h G w1 (k.went b) (fun hv=>Nat.le_trans (DU hv) (by omega)));have LK:=af (fun w1 (b:Below w.heap.size w w1)=>Lk.zQl h G w1 (k.went b) (bF.below b bF.pos));have FW:=af (show(1:Nat)=1 from rfl);obtain⟨i0,hj,hz0,hz1,hz2⟩:=info_parts Mv
 have XT:((w.alloc (.cells #[.slice h.a1 G.terms.length h.c1,.slice h.a2 G.ah.length h.c2,.slice h.a3 G.rules.length h.c3,.int .i64 G.start] 47)).alloc (.cells pK 104)).heap[w.heap.size+1]?=some (.cells pK 104 (0,0)):=by
  have:=World.alloc_heap_new (w.alloc (.cells #[.slice h.a1 G.terms.length h.c1,.slice h.a2 G.ah.length h.c2,.slice h.a3 G.rules.length h.c3,.int .i64 G.start] 47)) (.cells pK 104)
  rwa [World.size_alloc]at this
 have Z:=af XT;clear k bF XT;unfold gv at*;unfold pK at X Z;go_enter Tryz.func60,Tryz.ntmps60;obtain⟨x0,x1,x2,x3⟩:=X.out.box;go_wp2_with fail;refine(BU.out _ X.out.below).mono ?_;rintro e w1 ⟨ST,er,aX,cX,rfl,hB,hS,hle,hb1⟩;have X1:=af (X.out.went hb1);have Z1:=af ((hb1.block (w.heap.size+1) (Array.getElem?_eq_some_iff.1 Z.out).1).trans Z.out);clear x0 x1 x2 x3 X Z hb1;obtain⟨x0,x1,x2,x3⟩:=X1.out.box;rcases Mq hB with⟨h0,rfl,hB'⟩|⟨rfl,hv,q,rfl,D,hlen,hB'⟩
 ·have hne:(er != 0)=true:=by simpa using h0
  have f0:∀j,w1.frozen? ⟨w.heap.size+1,j,none⟩=false:=fun j=>fp Z1.out
  have g0:=f0 0;have g1:=f0 1;have g2:=f0 2;have g3:=f0 3;have g4:=f0 4;have g5:=f0 5;have z0:=aF Z1.out (k:=0) (by simp);have z1:=aF Z1.out (k:=1) (by simp);have z2:=aF Z1.out (k:=2) (by simp);have z3:=aF Z1.out (k:=3) (by simp);have z4:=aF Z1.out (k:=4) (by simp);have z5:=aF Z1.out (k:=5) (by simp);clear f0;have EH:=af (Vv Z1.out (.slice none 0 0) (.slice none 0 0) (.slice none 0 0) (.int .i64 0) (.slice none 0 0) (.slice none 0 0));have EB:=af (X1.out.below.trans ((Yi w1 (w.heap.size+1) (.slice none 0 0) (.slice none 0 0) (.slice none 0 0) (.int .i64 0) (.slice none 0 0) (.slice none 0 0)).below (m:=w.heap.size) (fun x hx=>by omega) X1.out.below.size));unfold jK at EH EB;go_wp2;refine bodyPost_ret (Uy _ _ rfl rfl EH.out rfl) rfl ?_;exact .inl ⟨er,h0,hB',rfl,EB.out⟩
 ·have hsl:(states q).length=q.1.length:=rD D.all;clear hB BU;rw[hsl]at*;go_wp2_with fail;refine(LK.out _ X1.out.below).mono ?_;rintro e w2 ⟨er2,Ys,aL,cL,rfl,QL,A3,hb2⟩;obtain⟨rfl,rfl⟩:=zNs hv D hB' QL;have X2:=af (X1.out.went hb2);have Z2:=af ((hb2.block (w.heap.size+1) (Array.getElem?_eq_some_iff.1 Z1.out).1).trans Z1.out);have S2:=af (hS.went hb2);have AV:=af A3;clear x0 x1 x2 x3 X1 Z1 hb2 QL hS A3 LK;obtain⟨x0,x1,x2,x3⟩:=X2.out.box;rw[yz];have hp1:w.heap.size+1<w2.heap.size:=(Array.getElem?_eq_some_iff.1 Z2.out).1
  have R0:=af (show rT h G q aX cX w2.heap.size (w2.alloc (.cells #[.slice h.a1 G.terms.length h.c1,.slice h.a2 G.ah.length h.c2,.slice h.a3 G.rules.length h.c3,.int .i64 G.start,.slice aX q.1.length cX,.slice none 0 0] 104)) 0 (fun _=> .slice none 0 0) none 0 (w2.alloc (.cells #[.slice h.a1 G.terms.length h.c1,.slice h.a2 G.ah.length h.c2,.slice h.a3 G.rules.length h.c3,.int .i64 G.start,.slice aX q.1.length cX,.slice none 0 0] 104))from
   ⟨World.alloc_heap_new _ _,World.ownsRow_nil _ _ _ _,fun j hj=>absurd hj (Nat.not_lt_zero j),.refl _ _,by rw[World.size_alloc];exact Nat.lt_succ_self _⟩)
  have yX:=af (boxed w2 (.cells #[.slice h.a1 G.terms.length h.c1,.slice h.a2 G.ah.length h.c2,.slice h.a3 G.rules.length h.c3,.int .i64 G.start,.slice aX q.1.length cX,.slice none 0 0] 104));go_wp2_with fail;generalize (w2.alloc (.cells #[.slice h.a1 G.terms.length h.c1,.slice h.a2 G.ah.length h.c2,.slice h.a3 G.rules.length h.c3,.int .i64 G.start,.slice aX q.1.length cX,.slice none 0 0] 104))=w4 at*;clear x0 x1 x2 x3;go_loopw [29] (fun v wr=>∃(k:Nat) (V:Nat->Value) (al:Option Addr) (cl:Nat),v=.int .i64 (k:Int)/\k<=q.1.length/\rT h G q aX cX w2.heap.size w4 k V al cl wr) (fun v _=>q.1.length-(intOf v).toNat)
  case atStart=>exact⟨0,_,_,_,rfl,Nat.zero_le _,R0.out⟩
  case round=>
   obtain⟨k,V,al,cl,rfl,hk,hR⟩:=hrel;have R:=af hR;have B2:=af (yX.out.trans (hR.below (Nat.le_refl _)));clear hR R0
   by_cases hlt:k<q.1.length
   ·have Rv:k<(pY G q).length:=by rw[yz];exact hlt
    obtain⟨bL,aI,cI,rfl,t0,hE,Kc⟩:=zUr AV.out Rv;have eY:(pY G q)[k]=dL G q k:=by simp[pY]
    rw[eY]at t0 hE Kc;have t1:=cell_later B2.out t0;have hrl:G.rules.length<=300:=(Fi.jq hv).r;have hel:=zP7 G q k;have E2:=af (hE.went B2.out)
    have AU:=af (show∀w1,Below wr.heap.size wr w1->Calls Tryz.prog 95 #[.slice aI (dL G q k).length cI,.int .i64 (G.rules.length:Int)] w1 (fun e w'=>∃a c,e=.returned (.slice a (aP G q k).length c)/\dO a (aP G q k) w'/\Below w1.heap.size w1 w')from
     fun w1 b=>zSq G.rules.length aI (dL G q k) cI w1 (E2.out.went b) (by omega) Kc)
    have X5:=af (X2.out.went B2.out);obtain⟨x0,x1,x2,x3⟩:=X5.out.box;have c5:=aF R.out.box (k:=5) (by simp[bV]);have HQ:=af (show∀w',Below wr.heap.size wr w'->w'.cell? ⟨w2.heap.size,5,none⟩=some (.slice al k cl)/\w'.cell? ⟨w.heap.size,2,none⟩=some (.slice h.a3 G.rules.length h.c3)from fun w' b=>⟨cell_later b c5,cell_later b x2⟩)
    have RN:=af (show∀(wa:World) (a':Option Addr) (c':Nat),Below wr.heap.size wr wa->dO a' (aP G q k) wa->∀(a9:Option Addr) (c9:Nat) (w9:World),w9.ownsRow w4.heap.size 145 1 (.slice a9 (k+1) c9) (k+1) ((List.range k).map V++[.slice a' (aP G q k).length c'])->(wa.alloc (.cells #[.slice a' (aP G q k).length c'] 145)).grownBy w9 (Value.slice al k cl).ownBlock->
      rT h G q aX cX w2.heap.size w4 (k+1) (fun j=>if j=k then .slice a' (aP G q k).length c' else V j) a9 c9 (w9.setCell ⟨w2.heap.size,5,none⟩ (.slice a9 (k+1) c9))from
     fun wa a' c' hb hE a9 c9 w9 hown hg=>R.out.next (Gr.step hb (boxed _ _)) (hE.went (boxed _ _)) rfl hown hg)
    have KD:=af (show∀(wa w9:World) (o:Obj),Below wr.heap.size wr wa->(wa.alloc o).grownBy w9 (Value.slice al k cl).ownBlock->w9.cell? ⟨w2.heap.size,5,none⟩=some (.slice al k cl)/\w9.frozen? ⟨w2.heap.size,5,none⟩=false/\w9.cell? ⟨w.heap.size,2,none⟩=some (.slice h.a3 G.rules.length h.c3)from fun wa w9 o hb hg=>by
     have hb':=Gr.step hb (boxed wa o);have hpw:w2.heap.size<wr.heap.size:=(Array.getElem?_eq_some_iff.1 R.out.box).1
     have bW:=(hg.block w2.heap.size (Nat.lt_of_lt_of_le hpw hb'.size) (fun e=>by
      have:=(World.ownsRow.lt R.out.row _ e.symm).1;have:=R.out.pl
      omega)).trans ((hb'.block _ hpw).trans R.out.box)
     have pP:=hg.block w.heap.size (Nat.lt_of_lt_of_le (by omega) hb'.size) (fun e=>by
      have:=(World.ownsRow.lt R.out.row _ e.symm).1;have:=R.out.pl
      omega)
     exact⟨aF bW (k:=5) (by simp[bV]),fp bW,(World.cell?_of_block (a:=⟨w.heap.size,2,none⟩) pP).trans (cell_later hb' x2)⟩)
    have gh:=drawn wr;have xJ:¬(w.heap.size=w2.heap.size):=by omega
    have hs4:w4.heap.size<=wr.heap.size:=R.out.fr.size;have hkl:(k:Int)<(q.1.length:Int):=by omega
    clear hE E2 t0 Kc eY Rv;go_wp2_with fail;refine wp_region_held_drew (S:=fun w'=>w'.cell? ⟨w.heap.size,2,none⟩=some (.slice h.a3 G.rules.length h.c3)) (by kernel_rfl) (by simp[x2]) (fun hHeld=>?_);refine wpAnyH_take (i:=0) (v:=.pointer (some ⟨w2.heap.size,5,none⟩)) rfl (by kernel_rfl) (by kernel_rfl) (by kernel_rfl) (fun _ _ _ h=>h) (Or.inl ⟨by rfl,fun w5 hs5=>by go_simp⟩) (by assumption) ?_;change wpAnyH _ _ _ _ _ _ _ (Act.put _ (some 33) _) _;simp only[Act.put,List.setIfInBounds_toArray,List.set_cons_zero,List.set_cons_succ];refine wpAnyH_take (i:=2) (v:=.slice aI (dL G q k).length cI) rfl (by kernel_rfl) (by kernel_rfl) (by kernel_rfl) (fun _ _ _ h=>h) (Or.inl ⟨by rfl,fun w5 hs5=>by go_simp⟩) (by assumption) ?_;change wpAnyH _ _ _ _ _ _ _ (Act.put _ (some 35) _) _;simp only[Act.put,List.setIfInBounds_toArray,List.set_cons_zero,List.set_cons_succ];refine wpAnyH_take (i:=3) (v:=.pointer (some ⟨w.heap.size,2,none⟩)) rfl (by kernel_rfl) (by kernel_rfl) (by kernel_rfl) (fun _ _ _ h=>h) (Or.inl ⟨by rfl,fun w5 hs5=>by go_simp⟩) (by assumption) ?_;change wpAnyH _ _ _ _ _ _ _ (Act.put _ (some 36) _) _;simp only[Act.put,List.setIfInBounds_toArray,List.set_cons_zero,List.set_cons_succ];refine wpAnyH_take (i:=4) (v:=.slice h.a3 G.rules.length h.c3) rfl (by kernel_rfl) (by kernel_rfl) (by kernel_rfl) (fun _ _ _ h=>h) (Or.inl ⟨by rfl,fun w5 hs5=>by go_simp⟩) (by assumption) ?_;change wpAnyH _ _ _ _ _ _ _ (Act.put _ (some 37) _) _;simp only[Act.put,List.setIfInBounds_toArray,List.set_cons_zero,List.set_cons_succ];refine wpAnyH_take (i:=5) (v:=.int .i64 (G.rules.length:Int)) rfl (by kernel_rfl) (by kernel_rfl) (by kernel_rfl) (fun _ _ _ h=>h) (Or.inl ⟨by rfl,fun w5 hs5=>by go_simp⟩) (by assumption) ?_;change wpAnyH _ _ _ _ _ _ _ (Act.put _ (some 38) _) _;simp only[Act.put,List.setIfInBounds_toArray,List.set_cons_zero,List.set_cons_succ];refine wpAnyH_ready (rs:=[1,6]) (by kernel_rfl) (by simp) ?_;refine AllReadyH.cons rfl (fun K' hK'=>?_) (AllReadyH.cons rfl (fun K' hK'=>?_) AllReadyH.nil)
    ·go_simp;refine hK'.out _ _ (by simp[x2]) (fun hHeld=>?_);clear hK';refine wpAnyH_ready (rs:=[6]) (by kernel_rfl) (by simp) ?_;refine AllReadyH.cons rfl (fun K' hK'=>?_) AllReadyH.nil;go_simp;refine(AU.out _ gh).mono ?_;rintro e wa ⟨a',c',rfl,A6,iT⟩;have kA:Below wr.heap.size wr wa:=Gr.step gh iT;obtain⟨q5,q2⟩:=HQ.out _ kA;have xW:=Gr.step kA (boxed wa (.cells #[.slice a' (aP G q k).length c'] 145));obtain⟨q7,q8⟩:=HQ.out _ xW;have R1:=af (Sep.bS R.out.row (w':=wa.alloc (.cells #[.slice a' (aP G q k).length c'] 145)) fun g hg=>(xW.block g (World.ownsRow.lt R.out.row g hg).2));have ON:=af (Lk.uD 145 w4.heap.size wa.heap.size (.slice a' (aP G q k).length c') wa rfl (Nat.le_trans hs4 kA.size));have RM:=af (RN.out wa a' c' kA A6);have zu:w4.heap.size<=(wa.alloc (.cells #[.slice a' (aP G q k).length c'] 145)).heap.size:=Nat.le_trans hs4 xW.size;clear A6 iT hHeld;refine hK'.out _ _ q2 (fun hHeld=>?_);clear hK';refine wpAnyH_ready (rs:=[7]) (by kernel_rfl) (by simp) ?_;refine AllReadyH.cons rfl (fun K' hK'=>?_) AllReadyH.nil;go_simp;refine hK'.out _ _ q8 (fun hHeld=>?_);clear hK';refine wpAnyH_ready (rs:=[8]) (by kernel_rfl) (by simp) ?_;refine AllReadyH.cons rfl (fun K' hK'=>?_) AllReadyH.nil;refine gZ _ (by rfl) _ _ 102 (by rfl) w4.heap.size 145 i0 (.slice none 0 0) 1 24 Tryz.underlying102 hj hz0 hz1 hz2 rfl (by decide) (.slice al k cl) k ((List.range k).map V) (by rfl) R1.out w4.heap.size (.slice (some ⟨wa.heap.size,0,none⟩) 1 1) 1 [.slice a' (aP G q k).length c'] (by rfl) ON.out (by simp[Value.oneCell']) (by unfold maxLen;omega) (by omega) zu ?_;intro v9 w9 aY ey cJ;obtain⟨Sj,Sk,qK⟩:=KD.out wa w9 _ kA ey;obtain⟨a9,c9,rfl⟩:=Rw.cu aY;have R9:=af (RM.out a9 c9 w9 aY ey);clear aY ey cJ hHeld;refine hK'.out _ _ qK (fun hHeld=>?_);clear hK';simp only[Act.put,List.setIfInBounds_toArray,List.set_cons_zero,List.set_cons_succ];refine wpAnyH_take (i:=9) (v:=.pointer (some ⟨w2.heap.size,5,none⟩)) rfl (by kernel_rfl) (by kernel_rfl) (by kernel_rfl) (fun _ _ _ h=>h) (Or.inl ⟨by rfl,fun w5 hs5=>by go_simp⟩) (by assumption) ?_;change wpAnyH _ _ _ _ _ _ _ (Act.put _ (some 42) _) _;simp only[Act.put,List.setIfInBounds_toArray,List.set_cons_zero,List.set_cons_succ];refine wpAnyH_ready (rs:=[10]) (by kernel_rfl) (by simp) ?_;refine AllReadyH.cons rfl (fun K' hK'=>?_) AllReadyH.nil;go_simp;refine hK'.out _ _ ((World.cell?_of_block (a:=⟨w.heap.size,2,none⟩) ((Rg.jg w9 w2.heap.size 5 (.slice a9 (k+1) c9)).block w.heap.size (World.block_lt_of_cell? w9 ⟨w.heap.size,2,none⟩ qK) (fun e=>xJ (by injection e with e)))).trans qK) (fun hHeld=>?_);clear hK' hHeld;refine wpAnyH_done (by kernel_rfl) ?_ _;go_wp2_with fail;go_roundw
     case rel=>exact⟨k+1,_,a9,c9,by go_num,by omega,R9.out⟩
     case measure=>first|(simp[intOf];omega)|(simp only[intOf];omega)|omega
    ·go_simp;refine(AU.out _ gh).mono ?_;rintro e wa ⟨a',c',rfl,A6,iT⟩;have kA:Below wr.heap.size wr wa:=Gr.step gh iT;obtain⟨q5,q2⟩:=HQ.out _ kA;have xW:=Gr.step kA (boxed wa (.cells #[.slice a' (aP G q k).length c'] 145));obtain⟨q7,q8⟩:=HQ.out _ xW;have R1:=af (Sep.bS R.out.row (w':=wa.alloc (.cells #[.slice a' (aP G q k).length c'] 145)) fun g hg=>(xW.block g (World.ownsRow.lt R.out.row g hg).2));have ON:=af (Lk.uD 145 w4.heap.size wa.heap.size (.slice a' (aP G q k).length c') wa rfl (Nat.le_trans hs4 kA.size));have RM:=af (RN.out wa a' c' kA A6);have zu:w4.heap.size<=(wa.alloc (.cells #[.slice a' (aP G q k).length c'] 145)).heap.size:=Nat.le_trans hs4 xW.size;clear A6 iT hHeld;refine hK'.out _ _ q2 (fun hHeld=>?_);clear hK';refine wpAnyH_ready (rs:=[1,7]) (by kernel_rfl) (by simp) ?_;refine AllReadyH.cons rfl (fun K' hK'=>?_) (AllReadyH.cons rfl (fun K' hK'=>?_) AllReadyH.nil)
     ·go_simp;refine hK'.out _ _ q2 (fun hHeld=>?_);clear hK';refine wpAnyH_ready (rs:=[7]) (by kernel_rfl) (by simp) ?_;refine AllReadyH.cons rfl (fun K' hK'=>?_) AllReadyH.nil;go_simp;refine hK'.out _ _ q8 (fun hHeld=>?_);clear hK';refine wpAnyH_ready (rs:=[8]) (by kernel_rfl) (by simp) ?_;refine AllReadyH.cons rfl (fun K' hK'=>?_) AllReadyH.nil;refine gZ _ (by rfl) _ _ 102 (by rfl) w4.heap.size 145 i0 (.slice none 0 0) 1 24 Tryz.underlying102 hj hz0 hz1 hz2 rfl (by decide) (.slice al k cl) k ((List.range k).map V) (by rfl) R1.out w4.heap.size (.slice (some ⟨wa.heap.size,0,none⟩) 1 1) 1 [.slice a' (aP G q k).length c'] (by rfl) ON.out (by simp[Value.oneCell']) (by unfold maxLen;omega) (by omega) zu ?_;intro v9 w9 aY ey cJ;obtain⟨Sj,Sk,qK⟩:=KD.out wa w9 _ kA ey;obtain⟨a9,c9,rfl⟩:=Rw.cu aY;have R9:=af (RM.out a9 c9 w9 aY ey);clear aY ey cJ hHeld;refine hK'.out _ _ qK (fun hHeld=>?_);clear hK';simp only[Act.put,List.setIfInBounds_toArray,List.set_cons_zero,List.set_cons_succ];refine wpAnyH_take (i:=9) (v:=.pointer (some ⟨w2.heap.size,5,none⟩)) rfl (by kernel_rfl) (by kernel_rfl) (by kernel_rfl) (fun _ _ _ h=>h) (Or.inl ⟨by rfl,fun w5 hs5=>by go_simp⟩) (by assumption) ?_;change wpAnyH _ _ _ _ _ _ _ (Act.put _ (some 42) _) _;simp only[Act.put,List.setIfInBounds_toArray,List.set_cons_zero,List.set_cons_succ];refine wpAnyH_ready (rs:=[10]) (by kernel_rfl) (by simp) ?_;refine AllReadyH.cons rfl (fun K' hK'=>?_) AllReadyH.nil;go_simp;refine hK'.out _ _ ((World.cell?_of_block (a:=⟨w.heap.size,2,none⟩) ((Rg.jg w9 w2.heap.size 5 (.slice a9 (k+1) c9)).block w.heap.size (World.block_lt_of_cell? w9 ⟨w.heap.size,2,none⟩ qK) (fun e=>xJ (by injection e with e)))).trans qK) (fun hHeld=>?_);clear hK' hHeld;refine wpAnyH_done (by kernel_rfl) ?_ _;go_wp2_with fail;go_roundw
      case rel=>exact⟨k+1,_,a9,c9,by go_num,by omega,R9.out⟩
      case measure=>first|(simp[intOf];omega)|(simp only[intOf];omega)|omega
     ·go_simp;refine hK'.out _ _ q8 (fun hHeld=>?_);clear hK';refine wpAnyH_ready (rs:=[1]) (by kernel_rfl) (by simp) ?_;refine AllReadyH.cons rfl (fun K' hK'=>?_) AllReadyH.nil;go_simp;refine hK'.out _ _ q8 (fun hHeld=>?_);clear hK';refine wpAnyH_ready (rs:=[8]) (by kernel_rfl) (by simp) ?_;refine AllReadyH.cons rfl (fun K' hK'=>?_) AllReadyH.nil;refine gZ _ (by rfl) _ _ 102 (by rfl) w4.heap.size 145 i0 (.slice none 0 0) 1 24 Tryz.underlying102 hj hz0 hz1 hz2 rfl (by decide) (.slice al k cl) k ((List.range k).map V) (by rfl) R1.out w4.heap.size (.slice (some ⟨wa.heap.size,0,none⟩) 1 1) 1 [.slice a' (aP G q k).length c'] (by rfl) ON.out (by simp[Value.oneCell']) (by unfold maxLen;omega) (by omega) zu ?_;intro v9 w9 aY ey cJ;obtain⟨Sj,Sk,qK⟩:=KD.out wa w9 _ kA ey;obtain⟨a9,c9,rfl⟩:=Rw.cu aY;have R9:=af (RM.out a9 c9 w9 aY ey);clear aY ey cJ hHeld;refine hK'.out _ _ qK (fun hHeld=>?_);clear hK';simp only[Act.put,List.setIfInBounds_toArray,List.set_cons_zero,List.set_cons_succ];refine wpAnyH_take (i:=9) (v:=.pointer (some ⟨w2.heap.size,5,none⟩)) rfl (by kernel_rfl) (by kernel_rfl) (by kernel_rfl) (fun _ _ _ h=>h) (Or.inl ⟨by rfl,fun w5 hs5=>by go_simp⟩) (by assumption) ?_;change wpAnyH _ _ _ _ _ _ _ (Act.put _ (some 42) _) _;simp only[Act.put,List.setIfInBounds_toArray,List.set_cons_zero,List.set_cons_succ];refine wpAnyH_ready (rs:=[10]) (by kernel_rfl) (by simp) ?_;refine AllReadyH.cons rfl (fun K' hK'=>?_) AllReadyH.nil;go_simp;refine hK'.out _ _ ((World.cell?_of_block (a:=⟨w.heap.size,2,none⟩) ((Rg.jg w9 w2.heap.size 5 (.slice a9 (k+1) c9)).block w.heap.size (World.block_lt_of_cell? w9 ⟨w.heap.size,2,none⟩ qK) (fun e=>xJ (by injection e with e)))).trans qK) (fun hHeld=>?_);clear hK' hHeld;refine wpAnyH_done (by kernel_rfl) ?_ _;go_wp2_with fail;go_roundw
      case rel=>exact⟨k+1,_,a9,c9,by go_num,by omega,R9.out⟩
      case measure=>first|(simp[intOf];omega)|(simp only[intOf];omega)|omega
   ·obtain rfl:k=q.1.length:=by omega
    obtain⟨c0,c1,c2,c3,c4,c5⟩:=jh R.out.box;dsimp only at c0 c1 c2 c3 c4 c5;have Z5:=af ((B2.out.block (w.heap.size+1) hp1).trans Z2.out);have f0:∀j,wr.frozen? ⟨w.heap.size+1,j,none⟩=false:=fun j=>fp Z5.out
    have g0:=f0 0;have g1:=f0 1;have g2:=f0 2;have g3:=f0 3;have g4:=f0 4;have g5:=f0 5;have z0:=aF Z5.out (k:=0) (by simp);have z1:=aF Z5.out (k:=1) (by simp);have z2:=aF Z5.out (k:=2) (by simp);have z3:=aF Z5.out (k:=3) (by simp);have z4:=aF Z5.out (k:=4) (by simp);have z5:=aF Z5.out (k:=5) (by simp);clear f0;have EH:=af (Vv Z5.out (.slice h.a1 G.terms.length h.c1) (.slice h.a2 G.ah.length h.c2) (.slice h.a3 G.rules.length h.c3) (.int .i64 G.start) (.slice aX q.1.length cX) (.slice al q.1.length cl))
    have EN:=af (show VU h G w (.returned (.tuple #[.agg #[.slice h.a1 G.terms.length h.c1,.slice h.a2 G.ah.length h.c2,.slice h.a3 G.rules.length h.c3,.int .i64 G.start,.slice aX q.1.length cX,.slice al q.1.length cl],.int .i64 0])) (jK wr (w.heap.size+1) (.slice h.a1 G.terms.length h.c1) (.slice h.a2 G.ah.length h.c2) (.slice h.a3 G.rules.length h.c3) (.int .i64 G.start) (.slice aX q.1.length cX) (.slice al q.1.length cl))from by
     have CK:=Fi.jq hv;have f6:=Yi wr (w.heap.size+1) (.slice h.a1 G.terms.length h.c1) (.slice h.a2 G.ah.length h.c2) (.slice h.a3 G.rules.length h.c3) (.int .i64 G.start) (.slice aX q.1.length cX) (.slice al q.1.length cl)
     have b6:Below w.heap.size w (jK wr (w.heap.size+1) (.slice h.a1 G.terms.length h.c1) (.slice h.a2 G.ah.length h.c2) (.slice h.a3 G.rules.length h.c3) (.int .i64 G.start) (.slice aX q.1.length cX) (.slice al q.1.length cl)):=
      (X2.out.went B2.out).below.trans (f6.below (m:=w.heap.size) (fun x hx=>by omega) (X2.out.went B2.out).below.size)
     have h24:=yX.out.size
     have hne:∀s∈states q,s.1≠[]:=fun s hs=>by
      obtain⟨i,hi,e⟩:=List.getElem_of_mem hs;have hi':i<q.1.length:=by rw[←rD D.all];exact hi
      have h1:=zT D.all hi';rw[List.getElem?_eq_getElem hi,e]at h1;injection h1 with h1
      rw[h1];exact D.some hi'
     have D6:Dat ⟨h,G,aX,q.1.length,cX,al,q.1.length,cl⟩ q (jK wr (w.heap.size+1) (.slice h.a1 G.terms.length h.c1) (.slice h.a2 G.ah.length h.c2) (.slice h.a3 G.rules.length h.c3) (.int .i64 G.start) (.slice aX q.1.length cX) (.slice al q.1.length cl)):=
      ⟨hv,D,Lk.Tn hB',(rD D.all).symm,rfl,zRs Z5.out f6 hne (S2.out.went B2.out),R.out.all' rfl (by omega) ⟨_,_,Z5.out⟩ f6,hlen,by have:=CK.r;dsimp only;omega,by have:=CK.t;dsimp only;omega⟩
     exact .inr ⟨⟨h,G,aX,q.1.length,cX,al,q.1.length,cl⟩,q,rfl,rfl,hB',D6,rfl,b6⟩)
    clear B2 R;unfold jK at EH EN;go_wp2;refine bodyPost_ret (Uy _ _ rfl rfl EH.out rfl) rfl ?_;exact EN.out
end Ac
namespace Ac
open Gr (ai cell_later boxed pB)
open Au
open Rg
open Go.Proofs.YtegeamggbglneaaGreatDoor.Sep
attribute [local go_sem] Oper.semAt_some
def dR(b:Nat)(T:TypeId)(sz n:Nat)(v:Nat->Value)(w:World):Prop:=∃cur,w.heap[b]?=some (.cells cur T (0,0))/\cur.size=sz/\∀j,j<n->cur[j]?=some (v j)
theorem dR.cell{b sz n}{T}{v}{w}(h:dR b T sz n v w){j}(hj:j<n):w.cell? ⟨b,j,none⟩=some (v j):=by
 obtain⟨cur,h1,h2,h3⟩:=h;unfold World.cell?;simp only[h1];exact h3 j hj
theorem dR.some{b sz n}{T}{v}{w}(h:dR b T sz n v w){j}(hj:j<sz):∃u,w.cell? ⟨b,j,none⟩=some u:=by
 obtain⟨cur,h1,h2,h3⟩:=h;unfold World.cell?;simp only[h1];exact⟨_,Array.getElem?_eq_getElem (by omega)⟩
theorem dR.free{b sz n}{T}{v}{w}(h:dR b T sz n v w)(j):w.frozen? ⟨b,j,none⟩=false:=by
 obtain⟨cur,h1,h2,h3⟩:=h;exact fp h1
theorem dR.lt{b sz n}{T}{v}{w}(h:dR b T sz n v w):b<w.heap.size:=by
 obtain⟨cur,h1,h2,h3⟩:=h;exact(Array.getElem?_eq_some_iff.1 h1).1
theorem dR.kept{b sz n}{T}{v}{w w'}(h:dR b T sz n v w)(he:w'.heap[b]?=w.heap[b]?):dR b T sz n v w':=by
 obtain⟨cur,h1,h2,h3⟩:=h;exact⟨cur,he.trans h1,h2,h3⟩
theorem dR.went{b sz n}{T}{v}{w w'}(h:dR b T sz n v w)(hb:Below w.heap.size w w'):dR b T sz n v w':=h.kept (hb.block b h.lt)
theorem dR.put{b sz n}{T}{v}{w}(h:dR b T sz n v w)(hn:n<sz){u}(hu:u=v n):dR b T sz (n+1) v (w.setCell ⟨b,n,none⟩ u):=by
 subst hu;obtain⟨cur,h1,h2,h3⟩:=h;refine⟨_,Rg.js h1 _,by simp[h2],fun j hj=>?_⟩
 by_cases e:j=n
 ·subst e;rw[Array.getElem?_setIfInBounds_self_of_lt (by omega)]
 ·rw[Array.getElem?_setIfInBounds_ne (fun e2=>e e2.symm)];exact h3 j (by omega)
theorem dR.congr{b sz n}{T}{v v'}{w}(h:dR b T sz n v w)(hv:∀j,j<n->v j=v' j):dR b T sz n v' w:=by
 obtain⟨cur,h1,h2,h3⟩:=h;exact⟨cur,h1,h2,fun j hj=>by rw[h3 j hj,hv j hj]⟩
theorem dR.made(w:World)(T)(cs)(v):dR w.heap.size T cs.size 0 v (w.alloc (.cells cs T)):=⟨cs,World.alloc_heap_new _ _,rfl,fun j hj=>absurd hj (Nat.not_lt_zero j)⟩
theorem zNw(n:Nat)(hn:n<=10000)(w):
  (Instr.makeSlice 29 (.int .i64 (n:Int)) (.int .i64 (n:Int))).run Tryz.prog w=.ok (.slice (some ⟨w.heap.size,0,none⟩) n n) (w.alloc (.cells (madeCells #[.int .i64 0] n) 3)):=
 run_make_row' 29 3 (.int .i64 0) 8 Tryz.underlying29 pB rfl .i64 .i64 n (by omega) (by omega) w
def iC(G:ai)(q:Whole)(i:Nat):Nat->Value:=fun k=> .int .i64 (leads (q.2.getD i []) ((G.terms.length+1+k:Nat):Int))
def Xn(G:ai)(q:Whole)(i:Nat)(w:World)(e:Ending)(w':World):Prop:=∃b,e=.returned (.slice (some ⟨b,0,none⟩) G.ah.length G.ah.length)/\w.heap.size<=b/\dR b 3 G.ah.length G.ah.length (iC G q i) w'/\Below w.heap.size w w'
theorem zJk(m:Am)(q:Whole)(w:World)(D:Dat m q w)(i:Nat)(hi:i<q.1.length):
  Calls Tryz.prog 64 #[.agg (bV m),.int .i64 (i:Int)] w (Xn m.G q i w):=by
 have hsm:=Fi.jq D.hv;have hn:=hsm.n;have ht:=hsm.t;have hmk:=fun w=>zNw m.G.ah.length (by omega) w
 have zo:=D.nS
 have GT:=af (show∀(W1:World) (s:Nat),Below w.heap.size w W1->Calls Tryz.prog 99 #[.slice m.aS m.nS m.cS,.int .i64 (i:Int),.int .i64 (s:Int)] W1 (Gr.Is (.int .i64 (leads (q.2.getD i []) (s:Int))) W1)from fun W1 s b=>by
  rw[zo,←Uo D.done hi]
  exact Na (states q) m.aS m.cS i s W1 (D.Me.went b) D.small)
 have B1:=af (boxed w (.cells (bV m) 104));have b2:=boxed (w.alloc (.cells (bV m) 104)) (.cells (madeCells #[.int .i64 0] m.G.ah.length) 3);have B2:=af (Gr.step B1.out b2);have H1:=af (World.alloc_heap_new w (.cells (bV m) 104));have H2:=af ((b2.block w.heap.size (by rw[World.size_alloc];exact Nat.lt_succ_self _)).trans H1.out)
 have F0:=af (show dR (w.heap.size+1) 3 m.G.ah.length 0 (iC m.G q i) ((w.alloc (.cells (bV m) 104)).alloc (.cells (madeCells #[.int .i64 0] m.G.ah.length) 3))from by
  have h:=dR.made (w.alloc (.cells (bV m) 104)) 3 (madeCells #[.int .i64 0] m.G.ah.length) (iC m.G q i)
  rwa [World.size_alloc,size_madeCells]at h)
 obtain⟨z0,z1,z2,z3,z4,z5⟩:=jh H1.out;unfold bV at z0 z1 z2 z3 z4 z5 B2 F0 H2;clear D zo b2 H1 B1;unfold bV;go_enter Tryz.func64,Tryz.ntmps64;go_wp2_with fail;generalize hw2:(w.alloc (.cells #[.slice m.h.a1 m.G.terms.length m.h.c1,.slice m.h.a2 m.G.ah.length m.h.c2,.slice m.h.a3 m.G.rules.length m.h.c3,.int .i64 m.G.start,.slice m.aS m.nS m.cS,.slice m.aL m.nL m.cL] 104)).alloc (.cells (madeCells #[.int .i64 0] m.G.ah.length) 3)=w2 at*;clear hw2 z0 z1 z2 z3 z4 z5 hmk;go_loopw [14] (fun v wr=>∃k:Nat,v=.int .i64 (k:Int)/\k<=m.G.ah.length/\dR (w.heap.size+1) 3 m.G.ah.length k (iC m.G q i) wr/\Fr (fun x=>x=w.heap.size+1) w2 wr) (fun v _=>m.G.ah.length-(intOf v).toNat)
 case atStart=>exact⟨0,rfl,Nat.zero_le _,F0.out,.refl _ _⟩
 case round=>
  obtain⟨k,rfl,hk,hF,hf⟩:=hrel;have FF:=af hF;have BR:=af (B2.out.trans (hf.below (m:=w.heap.size) (fun x hx=>by omega) B2.out.size));have bW:=(hf.block w.heap.size (Array.getElem?_eq_some_iff.1 H2.out).1 (by omega)).trans H2.out;have FR:=af hf;clear hF hf
  by_cases hlt:k<m.G.ah.length
  ·obtain⟨z0,z1,z2,z3,z4,z5⟩:=jh bW;have hw1:IntKind.i64.wrap ((m.G.terms.length:Int)+1)=(m.G.terms.length:Int)+1:=by rw[IntKind.wrap_i64];omega
   have CN:((m.G.terms.length:Int)+1+(k:Int))=((m.G.terms.length+1+k:Nat):Int):=by omega
   obtain⟨x,hx⟩:∃x,leads (q.2.getD i []) ((m.G.terms.length+1+k:Nat):Int)=x:=⟨_,rfl⟩
   have GK:=af (show∀W1,Below w.heap.size w W1->Calls Tryz.prog 99 #[.slice m.aS m.nS m.cS,.int .i64 (i:Int),.int .i64 ((m.G.terms.length:Int)+1+(k:Int))] W1 (Gr.Is (.int .i64 x) W1)from fun W1 b=>by
    rw[CN,←hx]
    exact GT.out W1 _ b)
   have hx':Value.int .i64 x=iC m.G q i k:=by unfold iC;rw[hx]
   have HX:=af hx';clear hx hx';have hkn:(k:Int)<(m.G.ah.length:Int):=by omega
   clear CN;obtain⟨u,hu⟩:=FF.out.some hlt;have hpw:w.heap.size+1<wr.heap.size:=FF.out.lt;go_wp2_with (go_at_call 99;refine(GK.out _ BR.out).mono ?_;rintro e w3 ⟨rfl,hb3⟩;have F3:=af (FF.out.went hb3);have R3:=af (FR.out.trans (.of_below hb3) (fun x hx=> .inl hx));have hu3:=cell_later hb3 hu;have f3:=FF.out.free k;have f4:=F3.out.free k;clear hb3);have F4:=af (F3.out.put hlt HX.out);have R4:=af (R3.out.setCell ⟨w.heap.size+1,k,none⟩ rfl (.int .i64 x));go_roundw
   case rel=>exact⟨k+1,by go_num,by omega,F4.out,R4.out⟩
   case measure=>first|(simp[intOf];omega)|omega
  ·obtain rfl:k=m.G.ah.length:=by omega
   go_wp2;go_ret;exact⟨w.heap.size+1,rfl,Nat.le_succ _,FF.out,BR.out⟩
theorem Nf:(Tryz.prog.info? 57).map (fun i=>(i.zero,i.size,i.bytes))=some (some (.agg #[.int .i64 0,.int .i64 0]),2,16):=by kernel_rfl
theorem Vf(n:Nat)(hn:n<=10000)(w):
  (Instr.makeSlice 53 (.int .i64 ((n:Int)+1)) (.int .i64 ((n:Int)+1))).run Tryz.prog w=.ok (.slice (some ⟨w.heap.size,0,none⟩) (n+1) (n+1)) (w.alloc (.cells (madeCells #[.int .i64 0,.int .i64 0] ((n+1)*2)) 57)):=by
 obtain⟨i0,hi,hz0,hz1,hz2⟩:=info_parts Nf;have hr:=run_make (P:=Tryz.prog) w 53 57 i0 (.agg #[.int .i64 0,.int .i64 0]) Tryz.underlying53 hi hz0 .i64 .i64 ((n:Int)+1) ((n:Int)+1) (by omega) (Int.le_refl _) (by rw[hz2];omega) (by omega);rw[show((n:Int)+1).toNat=n+1 by omega]at hr;rw[hr,hz1]
 rfl
theorem zNv(k j)(hj:j<k*2):(madeCells #[.int .i64 0,.int .i64 0] (k*2))[j]?=some (.int .i64 0):=by
 unfold madeCells;rw[Array.getElem?_map,Array.getElem?_range,if_pos hj];simp only[Option.map_some]
 congr 1
 rcases Nat.mod_two_eq_zero_or_one j with h|h
 ·have:j % (#[Value.int .i64 0,Value.int .i64 0]:Array Value).size=0:=h;rw[this]
  rfl
 ·have:j % (#[Value.int .i64 0,Value.int .i64 0]:Array Value).size=1:=h;rw[this]
  rfl
noncomputable def jJ(G:ai)(q:Whole)(i:Nat):Nat->Value:=fun j=>if j % 2=0 then .int .i64 (cm G q i (j / 2)).1 else .int .i64 (cm G q i (j / 2)).2
noncomputable def gX(G:ai)(q:Whole)(i c:Nat):Nat->Value:=fun j=>if j<c then jJ G q i j else .int .i64 0
theorem dR.set{b sz}{T}{v}{w}(h:dR b T sz sz v w){j}(hj:j<sz)(u):dR b T sz sz (fun x=>if x=j then u else v x) (w.setCell ⟨b,j,none⟩ u):=by
 obtain⟨cur,h1,h2,h3⟩:=h;refine⟨_,Rg.js h1 _,by simp[h2],fun x hx=>?_⟩
 by_cases e:x=j
 ·subst e;rw[Array.getElem?_setIfInBounds_self_of_lt (by omega)];simp
 ·rw[Array.getElem?_setIfInBounds_ne (fun e2=>e e2.symm),h3 x hx];simp[e]
structure AB (G:ai) (q:Whole) (i:Nat) (w w3:World) (t:Nat) (ds:List Deferred) (wr:World):Prop where
 row:dR (w.heap.size+1) 57 ((G.terms.length+1)*2) ((G.terms.length+1)*2) (gX G q i (t*2)) wr
 fr:Fr (fun x=>x=w.heap.size+1) w3 wr
 marks:∃L:List Nat,ds=L.map Rg.mark/\L.Nodup/\∀D∈L,w3.heap.size<=D/\wr.heap[D]?=some (.deferred (some []))
structure RW (m:Am) (i t:Nat) (wr w5:World):Prop where
 below:Below wr.heap.size wr w5
 size:w5.heap.size=wr.heap.size+4
 bt:w5.heap[wr.heap.size]?=some (.cells #[.int .i64 (t:Int)] 3 (0,0))
 p1:w5.heap[wr.heap.size+1]?=some (.cells (bV m) 104 (0,0))
 p2:w5.heap[wr.heap.size+1+1]?=some (.cells #[.int .i64 (i:Int)] 3 (0,0))
 p3:w5.heap[wr.heap.size+1+1+1]?=some (.cells #[.int .i64 (t:Int)] 3 (0,0))
theorem zOm{m}{i t}{wr w5}(hw:w5=uQ m i t (wr.alloc (.cells #[.int .i64 (t:Int)] 3))):RW m i t wr w5:=by
 subst hw;have b0:=boxed wr (.cells #[.int .i64 (t:Int)] 3);have h0:=World.alloc_heap_new wr (.cells #[.int .i64 (t:Int)] 3);have hs0:(wr.alloc (.cells #[.int .i64 (t:Int)] 3)).heap.size=wr.heap.size+1:=World.size_alloc _ _;generalize wr.alloc (.cells #[.int .i64 (t:Int)] 3)=w0 at*;have b1:=boxed w0 (.cells (bV m) 104);have h1:=World.alloc_heap_new w0 (.cells (bV m) 104);have hs1:(w0.alloc (.cells (bV m) 104)).heap.size=wr.heap.size+2:=by rw[World.size_alloc,hs0]
 unfold uQ;generalize w0.alloc (.cells (bV m) 104)=wa at*;have b2:=boxed wa (.cells #[.int .i64 (i:Int)] 3);have h2:=World.alloc_heap_new wa (.cells #[.int .i64 (i:Int)] 3);have hs2:(wa.alloc (.cells #[.int .i64 (i:Int)] 3)).heap.size=wr.heap.size+3:=by rw[World.size_alloc,hs1]
 generalize wa.alloc (.cells #[.int .i64 (i:Int)] 3)=wb at*;have b3:=boxed wb (.cells #[.int .i64 (t:Int)] 3);have h3:=World.alloc_heap_new wb (.cells #[.int .i64 (t:Int)] 3);rw[hs0]at h1;rw[hs1]at h2;rw[hs2]at h3;exact⟨Gr.step b0 (Gr.step b1 (Gr.step b2 b3)),by rw[World.size_alloc,hs2],(b3.block _ (by omega)).trans ((b2.block _ (by omega)).trans ((b1.block _ (by omega)).trans h0)),(b3.block _ (by omega)).trans ((b2.block _ (by omega)).trans h1),(b3.block _ (by omega)).trans h2,h3⟩
def rI(G:ai)(q:Whole)(i t br:Nat)(k:Nat)(S':Nat->Prop)(W:World):Prop:=S'=(fun x=>x=br)/\dR br 57 ((G.terms.length+1)*2) ((G.terms.length+1)*2) (gX G q i (t*2+if k=0 then 0 else 2)) W
theorem zRU(B)(G)(q)(i t br):Holds B (rI G q i t br):=by
 rintro k S' T A A' ⟨rfl,h1⟩ hi hf hT;exact⟨rfl,h1.kept (hf.block _ h1.lt fun h=>(hT _ h).2 rfl)⟩
theorem WU(G)(q)(i t){x}(hx:cm G q i t=x)(j):(if j=t*2+1 then(.int .i64 x.2:Value)else if j=t*2 then .int .i64 x.1 else gX G q i (t*2) j)=gX G q i (t*2+2) j:=by
 subst hx;unfold gX jJ
 by_cases e1:j=t*2+1
 ·subst e1;rw[if_pos rfl,if_pos (show t*2+1<t*2+2 by omega),if_neg (show¬(t*2+1) % 2=0 by omega),show(t*2+1) / 2=t by omega]
 ·by_cases e2:j=t*2
  ·subst e2;rw[if_neg e1,if_pos rfl,if_pos (show t*2<t*2+2 by omega),if_pos (show t*2 % 2=0 by omega),show t*2 / 2=t by omega]
  ·rw[if_neg e1,if_neg e2]
   by_cases e3:j<t*2
   ·rw[if_pos e3,if_pos (show j<t*2+2 by omega)]
   ·rw[if_neg e3,if_neg (show¬j<t*2+2 by omega)]
theorem zOk(G)(q)(i t)(h:bh G q i t=[])(j):gX G q i (t*2) j=gX G q i ((t+1)*2) j:=by
 have e:cm G q i t=(0,0):=by unfold cm;rw[h];rfl
 have:=WU G q i t e j;rw[show(t+1)*2=t*2+2 by omega,←this]
 by_cases e1:j=t*2+1
 ·rw[if_pos e1];unfold gX;rw[if_neg (by omega)]
 ·rw[if_neg e1]
  by_cases e2:j=t*2
  ·rw[if_pos e2];unfold gX;rw[if_neg (by omega)]
  ·rw[if_neg e2]
def NM(G:ai)(q:Whole)(i:Nat)(w:World)(e:Ending)(w':World):Prop:=∃b,e=.returned (.slice (some ⟨b,0,none⟩) (G.terms.length+1) (G.terms.length+1))/\w.heap.size<=b/\dR b 57 ((G.terms.length+1)*2) ((G.terms.length+1)*2) (jJ G q i) w'/\Below w.heap.size w w'
theorem zUK(m:Am)(q:Whole)(w:World)(D:Dat m q w)(i:Nat)(hi:i<q.1.length)(hcl:∀t,t<m.G.terms.length+1->(bh m.G q i t).length<=1):
  Calls Tryz.prog 63 #[.agg (bV m),.int .i64 (i:Int)] w (NM m.G q i w):=by
 have hsm:=Fi.jq D.hv;have ht:=hsm.t;have hmk:=fun w=>Vf m.G.terms.length (by omega) w
 have DD:=af D;have H1:=af (World.alloc_heap_new w (.cells (bV m) 104));have b1:=boxed w (.cells (bV m) 104);have b2:=boxed (w.alloc (.cells (bV m) 104)) (.cells (madeCells #[.int .i64 0,.int .i64 0] ((m.G.terms.length+1)*2)) 57);have b3:=boxed ((w.alloc (.cells (bV m) 104)).alloc (.cells (madeCells #[.int .i64 0,.int .i64 0] ((m.G.terms.length+1)*2)) 57)) (.cells #[.slice (some ⟨w.heap.size+1,0,none⟩) (m.G.terms.length+1) (m.G.terms.length+1)] 53);have B3:=af (Gr.step (Gr.step b1 b2) b3);have H3:=af ((b3.block w.heap.size (by simp;omega)).trans ((b2.block w.heap.size (by rw[World.size_alloc];exact Nat.lt_succ_self _)).trans H1.out));have G3:=af (World.alloc_heap_new ((w.alloc (.cells (bV m) 104)).alloc (.cells (madeCells #[.int .i64 0,.int .i64 0] ((m.G.terms.length+1)*2)) 57)) (.cells #[.slice (some ⟨w.heap.size+1,0,none⟩) (m.G.terms.length+1) (m.G.terms.length+1)] 53));rw[World.size_alloc,World.size_alloc]at G3
 have F3:=af (show dR (w.heap.size+1) 57 ((m.G.terms.length+1)*2) ((m.G.terms.length+1)*2) (gX m.G q i (0*2)) (((w.alloc (.cells (bV m) 104)).alloc (.cells (madeCells #[.int .i64 0,.int .i64 0] ((m.G.terms.length+1)*2)) 57)).alloc (.cells #[.slice (some ⟨w.heap.size+1,0,none⟩) (m.G.terms.length+1) (m.G.terms.length+1)] 53))from by
  have h:=World.alloc_heap_new (w.alloc (.cells (bV m) 104)) (.cells (madeCells #[.int .i64 0,.int .i64 0] ((m.G.terms.length+1)*2)) 57);rw[World.size_alloc]at h;refine⟨_,(b3.block _ (by simp)).trans h,size_madeCells _ _,fun j hj=>?_⟩;rw[zNv _ j hj];unfold gX
  rw[if_neg (by omega)])
 obtain⟨z0,z1,z2,z3,z4,z5⟩:=jh H1.out;unfold bV at z0 z1 z2 z3 z4 z5 B3 F3 H3 G3;clear D H1 b1 b2 b3;unfold bV;refine(callsIn_wide (n:=9)).1 ?_;refine callsIn_of_wp_marks Tryz.func63 rfl trivial ?_ rfl;refine wpIn_wide.2 ?_;simp only[Tryz.ntmps63,List.size_toArray,List.length_cons,List.length_nil,Nat.reduceAdd,Nat.reduceSub,Array.replicate_succ,Array.replicate_zero,List.push_toArray,List.append_toArray,List.nil_append,List.cons_append];have hw1:IntKind.i64.wrap ((m.G.terms.length:Int)+1)=(m.G.terms.length:Int)+1:=by rw[IntKind.wrap_i64];omega
 go_wp2_with fail;generalize hw3:((w.alloc (.cells #[.slice m.h.a1 m.G.terms.length m.h.c1,.slice m.h.a2 m.G.ah.length m.h.c2,.slice m.h.a3 m.G.rules.length m.h.c3,.int .i64 m.G.start,.slice m.aS m.nS m.cS,.slice m.aL m.nL m.cL] 104)).alloc (.cells (madeCells #[.int .i64 0,.int .i64 0] ((m.G.terms.length+1)*2)) 57)).alloc (.cells #[.slice (some ⟨w.heap.size+1,0,none⟩) (m.G.terms.length+1) (m.G.terms.length+1)] 53)=w3 at*;clear hw3 z0 z1 z2 z3 z4 z5 hmk;refine wpIn_wide.1 (wpIn_loop (n:=9) (fun a' wx=>∃(u6 u7 u16 Dx uv vU vV vY vZ u23 u24 wh u26 wj u28 wm:Value) (ds:List Deferred),(∃t:Nat,u16=.int .i64 (t:Int)/\t<=m.G.terms.length+1/\AB m.G q i w w3 t ds wx)/\a'={tmps:=List.toArray (.agg #[.slice m.h.a1 m.G.terms.length m.h.c1,.slice m.h.a2 m.G.ah.length m.h.c2,.slice m.h.a3 m.G.rules.length m.h.c3,.int .i64 m.G.start,.slice m.aS m.nS m.cS,.slice m.aL m.nL m.cL]::.int .i64 (i:Int)::.pointer (some ⟨w.heap.size,0,none⟩)::undef::.slice none 0 0::.pointer (some ⟨w.heap.size+1+1,0,none⟩)::u6::u7::.pointer (some ⟨w.heap.size,0,none⟩)::.pointer (some ⟨w.heap.size,0,none⟩)::.slice m.h.a1 m.G.terms.length m.h.c1::.int .i64 (m.G.terms.length:Int)::.int .i64 ((m.G.terms.length:Int)+1)::.slice (some ⟨w.heap.size+1,0,none⟩) (m.G.terms.length+1) (m.G.terms.length+1)::.slice (some ⟨w.heap.size+1,0,none⟩) (m.G.terms.length+1) (m.G.terms.length+1)::.int .i64 ((m.G.terms.length:Int)+1)::u16::Dx::uv::vU::vV::vY::vZ::u23::u24::wh::u26::wj::u28::wm::[]),defers:=ds}) (fun a' _=>m.G.terms.length+1-(intOf (a'.tmps.getD 16 undef)).toNat) ?_ ?_)
 case refine_1=>
  (repeat apply Exists.intro)
  refine⟨?_,rfl⟩;exact⟨0,rfl,Nat.zero_le _,F3.out,.refl _ _,[],rfl,List.nodup_nil,fun _ h=>by cases h⟩
 case refine_2=>
  rintro a' wr ⟨u6,u7,u16,Dx,uv,vU,vV,vY,vZ,u23,u24,wh,u26,wj,u28,wm,ds,⟨t,rfl,htl,st⟩,rfl⟩;have ST:=af st;have hbr:=st.row.lt;have hs3:=st.fr.size;have IP:=af (B3.out.trans (st.fr.below (m:=w.heap.size) (fun x hx=>by omega) B3.out.size));have HA:=af ((st.fr.block w.heap.size (Array.getElem?_eq_some_iff.1 H3.out).1 (by omega)).trans H3.out);have HG:=af ((st.fr.block (w.heap.size+1+1) (Array.getElem?_eq_some_iff.1 G3.out).1 (by omega)).trans G3.out);have hg3:=(Array.getElem?_eq_some_iff.1 G3.out).1;have hg3':w.heap.size+1+1<wr.heap.size:=Nat.lt_of_lt_of_le hg3 hs3;clear st
  by_cases hlt:t<m.G.terms.length+1
  ·have b0:=boxed wr (.cells #[.int .i64 (t:Int)] 3);obtain⟨z0,z1,z2,z3,z4,z5⟩:=jh ((b0.block w.heap.size (by omega)).trans HA.out);have PA:=af (show∀w1,Calls Tryz.prog 97 #[.agg #[.slice m.h.a1 m.G.terms.length m.h.c1,.slice m.h.a2 m.G.ah.length m.h.c2,.slice m.h.a3 m.G.rules.length m.h.c3,.int .i64 m.G.start,.slice m.aS m.nS m.cS,.slice m.aL m.nL m.cL],.int .i64 (i:Int),.int .i64 (t:Int)] w1 _ from fun w1=>WL m i t w1);clear b0
   gi_wp2_with (refine⟨trivial,?_⟩;gi_at_call 97;refine(uy (PA.out _)).mono ?_;rintro e w5 ⟨rfl,vE⟩;have Ar:=af vE;clear vE)
   clear z0 z1 z2 z3 z4 z5 PA;have X5:=af (zOm Ar.out);clear Ar;have hs5:=X5.out.size;have B5:=af (Gr.step IP.out X5.out.below);have RQ:=Ub m q w w5 DD.out B5.out i t _ _ _ hi X5.out.p1 X5.out.p2 X5.out.p3
   have qy:di (lv w (wr.heap.size+1) (wr.heap.size+1+1) (wr.heap.size+1+1+1)) w5:=by
    have:=B5.out.size;rintro x (h|h|h|h)
    all_goals omega
   have QV:Off (fun x=>x=w.heap.size+1) (lv w (wr.heap.size+1) (wr.heap.size+1+1) (wr.heap.size+1+1+1)):=by
    rintro x rfl (h|h|h|h)
    all_goals omega
   have hN:=hcl t hlt;have RV:rI m.G q i t (w.heap.size+1) 0 (fun x=>x=w.heap.size+1) w5:=⟨rfl,by simpa using ST.out.row.went X5.out.below⟩
   refine MV (n:=9) (gf:=120) (lb:=#[.pointer (some ⟨wr.heap.size+1,0,none⟩),.pointer (some ⟨wr.heap.size+1+1,0,none⟩),.pointer (some ⟨wr.heap.size+1+1+1,0,none⟩)]) rfl (enters_of Tryz.func120 (by kernel_rfl) rfl)
    (encs:=bM m q i t) RQ (fun _=>rfl) (rI m.G q i t (w.heap.size+1)) (fun _ _ _ _=>False) (zRU _ _ _ _ _ _) (fun _ _ _ _ _ _ h _ _ _=>h) (fun x=>x=w.heap.size+1) (fun _=>False) QV qy (by rintro x rfl;omega) (fun _ h=>h.elim) RV ?round ?done ?stop
   case stop=>
    rintro c k S' W hk h;exact h.elim
   case round=>
    rintro l k S' W hk hl hl2 hnl ⟨rfl,h1⟩ hin he hf;obtain rfl:k=0:=by omega
    obtain⟨x,hx⟩:∃x,cm m.G q i t=x:=⟨_,rfl⟩
    have hx':(bh m.G q i t).getD 0 (0,0)=x:=by
     rw[←hx];unfold cm;rw[List.getD_eq_getElem?_getD,List.headD_eq_head?_getD,List.head?_eq_getElem?]
    have hll:w.heap.size+1≠l:=fun e=>hnl e.symm
    have CI:=hf.size
    have KP:=af (show∀w2,Fr (fun x=>x=l) (W.alloc (.cells #[.int .i64 x.1,.int .i64 x.2] 57)) w2->dR (w.heap.size+1) 57 ((m.G.terms.length+1)*2) ((m.G.terms.length+1)*2) (gX m.G q i (t*2)) w2/\
      w2.heap[w.heap.size+1+1]?=some (.cells #[.slice (some ⟨w.heap.size+1,0,none⟩) (m.G.terms.length+1) (m.G.terms.length+1)] 53 (0,0))/\w2.heap[wr.heap.size]?=some (.cells #[.int .i64 (t:Int)] 3 (0,0))/\w2.heap[W.heap.size]?=some (.cells #[.int .i64 x.1,.int .i64 x.2] 57 (0,0))from fun w2 h2=>by
     have bA:=boxed W (.cells #[.int .i64 x.1,.int .i64 x.2] 57);have hk2:∀{b:Nat} {o:Obj},b<w5.heap.size->b≠w.heap.size+1->w5.heap[b]?=some o->w2.heap[b]?=some o:=fun {b o} hb hne ho=>fI h2 ((bA.block b (by omega)).trans ((hf.block b hb hne).trans ho)) (by omega)
     refine⟨?_,hk2 (by omega) (by omega) ((X5.out.below.block _ hg3').trans HG.out),hk2 (by omega) (by omega) X5.out.bt,fI h2 (World.alloc_heap_new _ _) (by omega)⟩;have h3:=(h1.went bA).kept (h2.block _ (h1.went bA).lt (by omega))
     simpa using h3)
    have BF:=af h1.lt;unfold bM AJ;rw[hx'];clear h1 hx' hin he hf
    gi_wp2
    refine⟨(Fr.refl _ W).alloc _,fun w2 hw2 hs2=>?_⟩;obtain⟨k1,k2,k3,k4⟩:=KP.out w2 hw2;have c0:=aF k2 (k:=0) (by simp);have c1:=aF k3 (k:=0) (by simp);have c2:=aF k4 (k:=0) (by simp);have c3:=aF k4 (k:=1) (by simp);obtain⟨y0,e0⟩:=k1.some (j:=t*2) (by omega);obtain⟨y1,e1⟩:=k1.some (j:=t*2+1) (by omega);have f0:=k1.free (t*2);have f1:=k1.free (t*2+1);have hti:(t:Int)<(m.G.terms.length:Int)+1:=by omega
    have hbl:=k1.lt;have F2:=af (((k1.set (j:=t*2) (by omega) (.int .i64 x.1)).set (j:=t*2+1) (by omega) (.int .i64 x.2)).congr fun j _=>WU m.G q i t hx j);have R2:=af ((((Fr.refl (fun y=>y=w.heap.size+1\/W.heap.size<=y) w2).setCell ⟨w.heap.size+1,t*2,none⟩ (.inl rfl) (.int .i64 x.1)).setCell ⟨w.heap.size+1,t*2+1,none⟩ (.inl rfl) (.int .i64 x.2)));clear k1 k2 k3 k4 KP hw2 hs2
    gi_wp2
    refine⟨fun y=>y=w.heap.size+1,.refl _ _,R2.out,?_,rfl,?_⟩
    ·rintro y rfl;exact Nat.lt_of_lt_of_le hbl R2.out.size
    ·exact F2.out
   case done=>
    rintro S' W ⟨rfl,h1⟩ hin he hf hD Cq;have CI:=hf.size
    have NX:=af (show AB m.G q i w w3 (t+1) (Rg.mark w5.heap.size::ds) W from by
     refine⟨?_,(ST.out.fr.trans (.of_below X5.out.below) (fun x hx=> .inl hx)).trans hf fun x hx=> .inl hx,?_⟩
     ·rcases hA:bh m.G q i t with _|⟨y,l⟩
      ·rw[hA]at h1
       exact h1.congr fun j _=>by
        have:=zOk m.G q i t hA j
        simpa using this
      ·rw[hA]at h1 hN;have hl0:l.length=0:=by simpa using hN
       have h2:(t+1)*2=t*2+(if(y::l).length=0 then 0 else 2):=by
        rw[List.length_cons,if_neg (by omega)];omega
       rw[h2];exact h1
     ·obtain⟨L,rfl,hnd,hL⟩:=ST.out.marks
      refine⟨w5.heap.size::L,rfl,List.nodup_cons.2 ⟨fun hm=>by
       have:=(Array.getElem?_eq_some_iff.1 (hL _ hm).2).1
       omega,hnd⟩,fun D hD'=>?_⟩
      rcases List.mem_cons.1 hD' with rfl|hD'
      ·exact⟨by omega,hD⟩
      ·have cx:=(Array.getElem?_eq_some_iff.1 (hL D hD').2).1;have:=(hL D hD').1
       exact⟨(hL D hD').1,(hf.block D (by omega) (by omega)).trans ((X5.out.below.block D cx).trans (hL D hD').2)⟩)
    clear h1 hin he hf hD Cq RQ qy QV RV
    gi_wp2
    refine⟨?_,?_⟩
    case refine_1=>
     (repeat apply Exists.intro)
     refine⟨?_,rfl⟩;exact⟨t+1,by simp,by omega,NX.out⟩
    case refine_2=>
     simp[intOf];omega
  ·obtain rfl:t=m.G.terms.length+1:=by omega
   have c0:=aF HG.out (k:=0) (by simp);obtain⟨L,rfl,hnd,hL⟩:=ST.out.marks
   have EN:=af (show∀w',Fr (fun x=>x∈L) wr w'->NM m.G q i w (.returned (.slice (some ⟨w.heap.size+1,0,none⟩) (m.G.terms.length+1) (m.G.terms.length+1))) w' from fun w' hf=>by
    refine⟨_,rfl,Nat.le_succ _,(ST.out.row.kept (hf.block _ hbr fun hx=>by have:=(hL _ hx).1;omega)).congr fun j hj=>?_,IP.out.trans (hf.below (fun x hx=>by have:=(hL _ hx).1;omega) IP.out.size)⟩;unfold gX
    rw[if_pos (by omega)])
   have LM:=af (show∀(fn:Func) (tmps:Array Value) (R:Ending->World->Prop),(∀w',Fr (fun x=>x∈L) wr w'->∃v,(results fn tmps).run Tryz.prog w'=.ok v w'/\R (.returned v) w')->LeavesInM Fence.wide 9 Tryz.prog fn tmps R (L.map Rg.mark) .returning wr from fun fn tmps R hR=>zL L wr hnd (fun D h=>(hL D h).2) hR);clear hL hnd
   gi_wp2
   go_wp2;refine LM.out _ _ _ ?_;intro w' hf;refine⟨_,results_tmp rfl _ _ _,?_⟩;exact EN.out w' hf
end Ac
namespace Ac
open Gr (ai bI gv boxed ax aN)
open Rw (lL)
open Au
open Go.Proofs.YtegeamggbglneaaGreatDoor.Sep
theorem zLZ:(Tryz.prog.info? 55).map (fun i=>(i.zero,i.size,i.bytes))=some (some (.agg #[.int .i64 0,.slice none 0 0]),2,32):=by kernel_rfl
def r8(G:ai)(A:Nat->Option Addr)(C:Nat->Nat)(j:Nat):List Value:=[.int .i64 (ax G (j:Int)).1,.slice (A j) (ax G (j:Int)).2.length (C j)]
theorem zRe{w:World}{base size n}{e}{v}{xs}(h:w.ownsRow base e size v n xs){b}{cs}{T}{fz}(hb:w.heap[b]?=some (.cells cs T fz))(hT:T≠e):v.ownBlock≠some b:=fun eo=>by
 rcases h.2 with⟨h0,_⟩|⟨g,cap,cur,h0,_,h1,_⟩
 ·rw[h0]at eo;cases eo
 ·rw[h0]at eo;injection eo with eo
  dsimp only at eo;subst eo;rw[h1]at hb;injection hb with hb
  injection hb with _ hb _
  exact hT hb.symm
structure xf (G:ai) (w:World) (k:Nat) (A:Nat->Option Addr) (C:Nat->Nat) (v:Value) (wr:World):Prop where
 row:wr.ownsRow w.heap.size 55 2 v k ((List.range k).flatMap (r8 G A C))
 els:∀j,j<k->Reads (A j) (aN (ax G (j:Int)).2) wr/\∀b o,A j=some ⟨b,o,none⟩->0<(ax G (j:Int)).2.length->(v.ownBlock≠some b/\b<wr.heap.size)/\w.heap.size<=b
 below:Below w.heap.size w wr
theorem xf.next{G}{w wr wa wb}{k}{A}{C}{v v'}(r:xf G w k A C v wr)(hb:Below wr.heap.size wr wa){a}{c}(hR:Reads a (aN (ax G (k:Int)).2) wa)
  (hnew:Gr.New a wr) (hown:wb.ownsRow w.heap.size 55 2 v' (k+1) ((List.range k).flatMap (r8 G A C)++[.int .i64 (ax G (k:Int)).1,.slice a (ax G (k:Int)).2.length c])) (hg:wa.grownBy wb v.ownBlock) (hloc:v'.ownBlock=v.ownBlock\/v'.ownBlock=some wa.heap.size):
  xf G w (k+1) (fun j=>if j=k then a else A j) (fun j=>if j=k then c else C j) v' wb:=by
 have hv:∀x,v.ownBlock=some x->x<wr.heap.size:=fun x e=>(World.ownsRow.lt r.row x e).2
 refine⟨?_,fun j hj=>?_,(r.below.trans (hb.mono r.below.size)).grown hg (Nat.le_trans r.below.size hb.size) fun x e=>(World.ownsRow.lt r.row x e).1⟩
 ·have e:(List.range (k+1)).flatMap (r8 G (fun j=>if j=k then a else A j) (fun j=>if j=k then c else C j))=(List.range k).flatMap (r8 G A C)++[.int .i64 (ax G (k:Int)).1,.slice a (ax G (k:Int)).2.length c]:=by
   rw[List.range_succ,List.flatMap_append]
   congr 1
   ·rw[List.flatMap_def,List.flatMap_def]
    congr 1
    refine List.map_congr_left fun j hj=>?_
    have:=List.mem_range.1 hj;have hne:¬j=k:=by omega
    simp[r8,hne]
   ·simp[r8]
  rw[e];exact hown
 ·have fh:∀(a1:Option Addr) (l:List Int),Reads a1 (aN l) wa->(∀b o,a1=some ⟨b,o,none⟩->0<l.length->(v.ownBlock≠some b/\b<wa.heap.size)/\w.heap.size<=b)->Reads a1 (aN l) wb/\∀b o,a1=some ⟨b,o,none⟩->0<l.length->(v'.ownBlock≠some b/\b<wb.heap.size)/\w.heap.size<=b:=fun a1 l h1 h2=>by
   rcases l with _|⟨x,l⟩
   ·exact⟨Reads.nil _ _,fun b o e hl=>absurd hl (Nat.lt_irrefl 0)⟩
   ·have h2:=fun b o e=>h2 b o e (by simp)
    refine⟨h1.keep fun b o e=>hg.block b (h2 b o e).1.2 fun e2=>(h2 b o e).1.1 e2.symm,fun b o e _=>⟨⟨fun e2=>?_,Nat.lt_of_lt_of_le (h2 b o e).1.2 hg.size⟩,(h2 b o e).2⟩⟩;rcases hloc with h|h
    ·exact(h2 b o e).1.1 (by rw[←h];exact e2)
    ·rw[h]at e2;injection e2 with e2
     have:=(h2 b o e).1.2;omega
  by_cases e:j=k
  ·subst e;simp only[if_true];refine fh a _ hR fun b o e hl=>⟨⟨fun e2=>?_,?_⟩,?_⟩
   ·have:=hv b e2;have:=hnew _ e;dsimp only at this;omega
   ·obtain⟨b',o',e3,e4⟩:=hR 0 (by simpa[aN]using hl);rw[e]at e3;simp only[Option.some.injEq,Addr.mk.injEq,and_true]at e3;obtain⟨rfl,rfl⟩:=e3;exact World.block_lt_of_cell? wa _ e4
   ·have:=hnew _ e;have:=r.below.size;dsimp only at*;omega
  ·simp only[if_neg e];obtain⟨h1,h2⟩:=r.els j (by omega);exact fh (A j) _ (h1.below hb (Nat.le_refl _)) fun b o e hl=>⟨⟨(h2 b o e hl).1.1,Nat.lt_of_lt_of_le (h2 b o e hl).1.2 hb.size⟩,(h2 b o e hl).2⟩
def mU(lo:Nat)(G:ai)(a:Option Addr)(w:World):Prop:=∀j,j<G.rules.length+1->∃b a3 c3,a=some ⟨b,0,none⟩/\w.cell? ⟨b,j*2,none⟩=some (.int .i64 (ax G (j:Int)).1)/\w.cell? ⟨b,j*2+1,none⟩=some (.slice a3 (ax G (j:Int)).2.length c3)/\Reads a3 (aN (ax G (j:Int)).2) w/\lo<=b/\∀b3 o,a3=some ⟨b3,o,none⟩->0<(ax G (j:Int)).2.length->lo<=b3
theorem mU.oW{lo}{G}{a}{w w'}{S}(h:mU lo G a w)(hf:Fr S w w')(hS:∀x,S x->x<lo):mU lo G a w':=fun j hj=>by
 obtain⟨b,a3,c3,e,h1,h2,h3,h4,h5⟩:=h j hj;refine⟨b,a3,c3,e,hf.cell h1 (fun hs=>by have:=hS _ hs;dsimp only at this;omega),hf.cell h2 (fun hs=>by have:=hS _ hs;dsimp only at this;omega),fun i hi=>?_,h4,h5⟩;obtain⟨b3,o3,e3,e4⟩:=h3 i hi;exact⟨b3,o3,e3,hf.cell e4 (fun hs=>by have:=hS _ hs;have:=h5 b3 o3 e3 (by simp only[aN,List.length_map]at hi;omega);dsimp only at*;omega)⟩
theorem YV(G)(A)(C)(k j i)(hj:j<k)(hi:i<2):((List.range k).flatMap (r8 G A C))[j*2+i]?=(r8 G A C j)[i]?:=by
 have h:=Rw.mE (r8 G A C) (fun _=>rfl) (List.range k) j (by simpa using hj) i hi;rw[h];simp
theorem xf.reads{G}{w wr}{A}{C}{a}{n c}(r:xf G w (G.rules.length+1) A C (.slice a n c) wr):mU w.heap.size G a wr:=fun j hj=>by
 have hn:n=G.rules.length+1:=by
  obtain⟨_,_,e⟩:=Rw.cu r.row;simp only[Value.slice.injEq]at e;exact e.2.1
 subst hn;obtain⟨b,rfl⟩:=Lk.sw r.row (by omega);have rd:=World.ownsRow.cells r.row (g:=b) rfl;have t0:=rd (j*2+0) _ (by rw[YV _ _ _ _ _ 0 hj (by omega)];rfl);have t1:=rd (j*2+1) _ (by rw[YV _ _ _ _ _ 1 hj (by omega)];rfl);rw[WideShapes.add_plain]at t0 t1;exact⟨b,A j,C j,rfl,by simpa using t0,by simpa using t1,(r.els j hj).1,(World.ownsRow.lt r.row b rfl).1,fun b3 o e hl=>((r.els j hj).2 b3 o e hl).2⟩
theorem zRc{w:World}{base n c size}{e}{a}{xs}(h:w.ownsRow base e size (.slice a n c) n xs):n<=c:=by
 rcases h.2 with⟨h1,h2⟩|⟨g,cap,cur,h1,_,_,h3,_⟩
 ·simp only[Value.slice.injEq]at h1;omega
 ·simp only[Value.slice.injEq]at h1;omega
def UK(G:ai)(w:World)(e:Ending)(w':World):Prop:=∃a c,e=.returned (.slice a (G.rules.length+1) c)/\mU w.heap.size G a w'/\Below w.heap.size w w'/\G.rules.length+1<=c
theorem zOr(m:Am)(w:World)(kG:bI m.h m.G w)(hl:m.G.rules.length<=300):
  Calls Tryz.prog 62 #[.agg (bV m)] w (UK m.G w):=by
 obtain⟨i0,hj,hz0,hz1,hz2⟩:=info_parts zLZ;have RN:=af (show∀(w1:World) (i:Nat),Below w.heap.size w w1->Calls Tryz.prog 98 #[gv m.h m.G,.int .i64 (i:Int)] w1 _ from fun w1 i b=>Go.Proofs.YtegeamggbglneaaGreatDoor.Gr.zKm m.h m.G (i:Int) w1 (kG.went b));have B1:=af (boxed w (.cells (bV m) 104));have H1:=af (World.alloc_heap_new w (.cells (bV m) 104));have R0:=af (show xf m.G w 0 (fun _=>none) (fun _=>0) (.slice none 0 0) (w.alloc (.cells (bV m) 104))from⟨World.ownsRow_nil _ _ _ _,fun j hj=>absurd hj (Nat.not_lt_zero j),boxed _ _⟩);obtain⟨z0,z1,z2,z3,z4,z5⟩:=jh H1.out;have hw1:IntKind.i64.wrap ((m.G.rules.length:Int)+1)=(m.G.rules.length:Int)+1:=by rw[IntKind.wrap_i64];omega
 unfold gv at RN;unfold bV at z0 z1 z2 z3 z4 z5 B1 R0 H1;clear kG;unfold bV;go_enter Tryz.func62,Tryz.ntmps62;go_wp2_with fail;generalize hw2:w.alloc (.cells #[.slice m.h.a1 m.G.terms.length m.h.c1,.slice m.h.a2 m.G.ah.length m.h.c2,.slice m.h.a3 m.G.rules.length m.h.c3,.int .i64 m.G.start,.slice m.aS m.nS m.cS,.slice m.aL m.nL m.cL] 104)=w2 at*;clear hw2 z0 z1 z2 z3 z4 z5;go_loopw [3,12] (fun v t wr=>∃(k:Nat) (A:Nat->Option Addr) (C:Nat->Nat),t=.int .i64 (k:Int)/\k<=m.G.rules.length+1/\xf m.G w k A C v wr/\wr.heap[w.heap.size]?=w2.heap[w.heap.size]?) (fun _ t _=>m.G.rules.length+1-(intOf t).toNat)
 case atStart=>exact⟨0,_,_,rfl,Nat.zero_le _,R0.out,rfl⟩
 case round=>
  obtain⟨k,A,C,rfl,hk,hR,bW⟩:=hrel;have R:=af hR;have HB:=af (bW.trans H1.out);obtain⟨av,cv,rfl⟩:=Rw.cu hR.row;clear hR bW
  by_cases hlt:k<m.G.rules.length+1
  ·obtain⟨z0,z1,z2,z3,z4,z5⟩:=jh (m:=m) HB.out;have hpw:w.heap.size<wr.heap.size:=(Array.getElem?_eq_some_iff.1 HB.out).1;have RK:=af (RN.out wr k R.out.below);have hsw:=R.out.below.size;generalize ub:ax m.G (k:Int)=rr at*
   go_wp2_with (first
    |(go_at_call 98;refine RK.out.mono ?_;rintro e wa ⟨a3,c3,rfl,Bc,hb3,ot,_⟩;have B3:=af hb3;have Q3:=af Bc;have N3:=af ot;have b4:=boxed wa (.cells #[.int .i64 rr.1,.slice a3 rr.2.length c3] 55);have b5:=Gr.step b4 (boxed (wa.alloc (.cells #[.int .i64 rr.1,.slice a3 rr.2.length c3] 55)) (.cells #[.int .i64 rr.1,.slice a3 rr.2.length c3] 55));have B5:=af (Gr.step hb3 b5);have R1:=af (bS R.out.row fun g hg=>B5.out.block g (World.ownsRow.lt R.out.row g hg).2);have hs4:w.heap.size<=(wa.alloc (.cells #[.int .i64 rr.1,.slice a3 rr.2.length c3] 55)).heap.size:=Nat.le_trans hsw (Nat.le_trans hb3.size b4.size);have ON:=af (show((wa.alloc (.cells #[.int .i64 rr.1,.slice a3 rr.2.length c3] 55)).alloc (.cells #[.int .i64 rr.1,.slice a3 rr.2.length c3] 55)).ownsRow w.heap.size 55 2 (.slice (some ⟨(wa.alloc (.cells #[.int .i64 rr.1,.slice a3 rr.2.length c3] 55)).heap.size,0,none⟩) 1 1) 1 [.int .i64 rr.1,.slice a3 rr.2.length c3]from World.ownsRow_lit (wa.alloc (.cells #[.int .i64 rr.1,.slice a3 rr.2.length c3] 55)) #[.int .i64 rr.1,.slice a3 rr.2.length c3] 1 hs4 (by decide) (by simp));have hs5:w.heap.size<=((wa.alloc (.cells #[.int .i64 rr.1,.slice a3 rr.2.length c3] 55)).alloc (.cells #[.int .i64 rr.1,.slice a3 rr.2.length c3] 55)).heap.size:=Nat.le_trans hsw B5.out.size;rw[World.size_alloc]at ON;clear Bc hb3 ot b4 b5 z0 z1 z2 z3 z4 z5)
    | (at_builtin;refine lL _ rfl _ _ 22 rfl w.heap.size 55 i0 (.agg #[.int .i64 0,.slice none 0 0]) 2 32 Tryz.underlying22 hj hz0 hz1 hz2 rfl (by decide) (.slice av k cv) k ((List.range k).flatMap (r8 m.G A C)) rfl R1.out w.heap.size _ 1 [.int .i64 rr.1,.slice a3 rr.2.length c3] rfl ON.out (by intro u hu;simp only[List.mem_cons,List.not_mem_nil,or_false]at hu;rcases hu with rfl|rfl<;>rfl) (by unfold maxLen;omega) (by omega) hs5 ?_;intro v' wb hown hg hloc;have O9:=af hown;have G9:=af hg;have L9:=af hloc;clear hown hg hloc))
   subst ub;have NX:=af (R.out.next B5.out (Q3.out.below (Gr.step (boxed _ _) (boxed _ _)) (Nat.le_refl _)) N3.out O9.out G9.out L9.out);go_roundw
   case rel=>exact⟨k+1,_,_,by go_num,by omega,NX.out,(G9.out.block _ (Nat.lt_of_lt_of_le hpw B5.out.size) fun e=>zRe R.out.row HB.out (by decide) e.symm).trans ((B5.out.block _ hpw).trans (HB.out.trans H1.out.symm))⟩
   case measure=>first|(simp[intOf];omega)|omega
  ·obtain rfl:k=m.G.rules.length+1:=by omega
   go_wp2;go_ret;exact⟨av,cv,rfl,R.out.reads,R.out.below,zRc R.out.row⟩
end Ac
namespace Ac
open Gr (ai checkN)
open Au
open Go.Proofs.YtegeamggbglneaaGreatDoor.Sep
structure eJ (E F:TypeId) (n sz:Nat) (f:Nat->Nat->Value) (lo k:Nat) (B:Nat->Nat) (v:Value) (w:World):Prop where
 row:w.ownsRow lo E 1 v k ((List.range k).map fun j=> .slice (some ⟨B j,0,none⟩) n n)
 els:∀j,j<k->dR (B j) F sz sz (f j) w/\lo<=B j
section
variable {E F U:TypeId} {n sz lo k:Nat} {f:Nat->Nat->Value} {B:Nat->Nat} {v:Value} {w w' wa wb:World}
theorem eJ.nil(w):eJ E F n sz f lo 0 B (.slice none 0 0) w:=⟨World.ownsRow_nil _ _ _ _,fun j hj=>absurd hj (Nat.not_lt_zero j)⟩
theorem eJ.went(r:eJ E F n sz f lo k B v w)(hb:Below w.heap.size w w'):eJ E F n sz f lo k B v w':=
 ⟨bS r.row fun g e=>hb.block g (World.ownsRow.lt r.row g e).2,fun j hj=>⟨(r.els j hj).1.went hb,(r.els j hj).2⟩⟩
theorem dR.ty{b sz n}{T}{v}{w}(h:dR b T sz n v w):Ty b T w:=by
 obtain⟨cur,h1,_⟩:=h;exact⟨cur,_,h1⟩
theorem pI{w}{base size n}{e}{v}{xs}(h:w.ownsRow base e size v n xs){g}(hg:v.ownBlock=some g):Ty g e w:=by
 rcases h.2 with⟨h0,_⟩|⟨g',cap,cur,h0,_,h1,_⟩
 ·rw[h0]at hg;cases hg
 ·rw[h0]at hg;injection hg with hg
  dsimp only at hg;subst hg;exact⟨cur,_,h1⟩
theorem eJ.kept(r:eJ E F n sz f lo k B v w){x}(hx:Ty x U w)(hE:E≠U)(hF:F≠U)(hg:w.grownBy w' (some x)):eJ E F n sz f lo k B v w':=
 ⟨bS r.row fun g e=>(pI r.row e).kept hx hE hg,fun j hj=>⟨(r.els j hj).1.kept ((r.els j hj).1.ty.kept hx hF hg),(r.els j hj).2⟩⟩
theorem eJ.kept'(r:eJ E F n sz f lo k B v w){u}{base m}{xs}{s}(hu:w.ownsRow base U s u m xs)(hE:E≠U)(hF:F≠U)(hg:w.grownBy w' u.ownBlock):eJ E F n sz f lo k B v w':=by
 cases ho:u.ownBlock with
 |none=>
  rw[ho]at hg;exact r.went ⟨hg.os,hg.tape,hg.output,hg.size,fun x hx=>hg.block x hx (by simp)⟩
 |some g=>
  rw[ho]at hg;exact r.kept (pI hu ho) hE hF hg
theorem eJ.snoc(r:eJ E F n sz f lo k B v w){b}(hF:dR b F sz sz (f k) w)(hlo:lo<=b)(hEF:F≠E){v'}(hown:w'.ownsRow lo E 1 v' (k+1) ((List.range k).map (fun j=>(.slice (some ⟨B j,0,none⟩) n n:Value))++[.slice (some ⟨b,0,none⟩) n n]))(hg:w.grownBy w' v.ownBlock):
  eJ E F n sz f lo (k+1) (fun j=>if j=k then b else B j) v' w':=by
 have fh:∀{c:Nat} {z:Nat->Value},dR c F sz sz z w->dR c F sz sz z w':=fun {c z} h=>by
  cases ho:v.ownBlock with
  |none=>
   rw[ho]at hg;exact h.kept (hg.block c h.lt (by simp))
  |some g=>
   rw[ho]at hg;exact h.kept (h.ty.kept (pI r.row ho) hEF hg)
 refine⟨?_,fun j hj=>?_⟩
 ·have e:(List.range (k+1)).map (fun j=>(.slice (some ⟨if j=k then b else B j,0,none⟩) n n:Value))=(List.range k).map (fun j=>(.slice (some ⟨B j,0,none⟩) n n:Value))++[.slice (some ⟨b,0,none⟩) n n]:=by
   rw[List.range_succ,List.map_append]
   congr 1
   ·refine List.map_congr_left fun j hj=>?_
    have:=List.mem_range.1 hj;rw[if_neg (by omega)]
   ·simp
  rw[e];exact hown
 ·by_cases e:j=k
  ·subst e;simp only[if_true];exact⟨fh hF,hlo⟩
  ·simp only[if_neg e];exact⟨fh (r.els j (by omega)).1,(r.els j (by omega)).2⟩
def rQ(F:TypeId)(n sz:Nat)(f:Nat->Nat->Value)(lo k:Nat)(a:Option Addr)(w:World):Prop:=
 ∀j,j<k->∃b c,a=some ⟨b,0,none⟩/\w.cell? ⟨b,j,none⟩=some (.slice (some ⟨c,0,none⟩) n n)/\dR c F sz sz (f j) w/\lo<=b/\lo<=c
theorem eJ.reads{a}{m c}(r:eJ E F n sz f lo k B (.slice a m c) w):m=k/\rQ F n sz f lo k a w:=by
 have hn:m=k:=by
  obtain⟨_,_,e⟩:=Rw.cu r.row;simp only[Value.slice.injEq]at e;exact e.2.1
 subst hn;refine⟨rfl,fun j hj=>?_⟩;obtain⟨b,rfl⟩:=Lk.sw r.row (by omega);have t0:=World.ownsRow.cells r.row (g:=b) rfl j (.slice (some ⟨B j,0,none⟩) n n) (by rw[List.getElem?_map,List.getElem?_range hj];rfl);rw[WideShapes.add_plain]at t0;exact⟨b,B j,rfl,by simpa using t0,(r.els j hj).1,(World.ownsRow.lt r.row b rfl).1,(r.els j hj).2⟩
theorem rQ.oW{a}{S}(h:rQ F n sz f lo k a w)(hf:Fr S w w')(hS:∀x,S x->x<lo):rQ F n sz f lo k a w':=fun j hj=>by
 obtain⟨b,c,e,h1,h2,h3,h4⟩:=h j hj;exact⟨b,c,e,hf.cell h1 (fun hs=>by have:=hS _ hs;dsimp only at this;omega),h2.kept (hf.block c h2.lt fun hs=>by have:=hS _ hs;omega),h3,h4⟩
end
structure xo (G:ai) (q:Whole) (aR aA aG:Option Addr) (w:World):Prop where
 rules:mU 0 G aR w
 acts:rQ 57 (G.terms.length+1) ((G.terms.length+1)*2) (jJ G q) 0 q.1.length aA w
 goto:rQ 3 G.ah.length G.ah.length (iC G q) 0 q.1.length aG w
theorem mU.low{lo lo'}{G}{a}{w}(h:mU lo G a w)(hl:lo'<=lo):mU lo' G a w:=fun j hj=>by
 obtain⟨b,a3,c3,e,h1,h2,h3,h4,h5⟩:=h j hj;exact⟨b,a3,c3,e,h1,h2,h3,Nat.le_trans hl h4,fun b3 o e3 rZ=>Nat.le_trans hl (h5 b3 o e3 rZ)⟩
theorem rQ.low{F}{n sz lo lo' k}{f}{a}{w}(h:rQ F n sz f lo k a w)(hl:lo'<=lo):rQ F n sz f lo' k a w:=fun j hj=>by
 obtain⟨b,c,e,h1,h2,h3,h4⟩:=h j hj;exact⟨b,c,e,h1,h2,Nat.le_trans hl h3,Nat.le_trans hl h4⟩
def sV:Array Value:=#[.slice none 0 0,.int .i64 0,.int .i64 0,.slice none 0 0,.slice none 0 0]
def eF(aR:Option Addr)(nR cR tm nm:Nat)(va vg:Value):Array Value:=#[.slice aR nR cR,.int .i64 (tm:Int),.int .i64 (nm:Int),va,vg]
inductive gN (G:ai) (w:World) (e:Ending) (w':World):Prop
 |no {er:Int}:TabIs G er nC->e=.returned (.tuple #[.agg sV,.int .i64 er])->Below w.heap.size w w'->gN G w e w'
 |yes {q:Whole} {aR aA aG:Option Addr} {cR cA cG:Nat}:checkN G=0->Done G q->q.1.length<=2000->bE G 0 (states q)->jO G q=[]->G.rules.length+1<=cR->e=.returned (.tuple #[.agg (eF aR (G.rules.length+1) cR G.terms.length G.ah.length (.slice aA q.1.length cA) (.slice aG q.1.length cG)),.int .i64 0])->
   xo G q aR aA aG w'->Below w.heap.size w w'->gN G w e w'
end Ac
namespace Ac
open Gr (ai boxed)
open Au
open Go.Proofs.YtegeamggbglneaaGreatDoor.Sep
structure lI (G:ai) (q:Whole) (aR:Option Addr) (cR p:Nat) (w4:World) (ka kg:Nat) (BA BG:Nat->Nat) (aa:Option Addr) (ca:Nat) (ag:Option Addr) (cg:Nat) (wr:World):Prop where
 box:wr.heap[p]?=some (.cells (eF aR (G.rules.length+1) cR G.terms.length G.ah.length (.slice aa ka ca) (.slice ag kg cg)) 26 (0,0))
 acts:eJ 53 57 (G.terms.length+1) ((G.terms.length+1)*2) (jJ G q) w4.heap.size ka BA (.slice aa ka ca) wr
 goto:eJ 29 3 G.ah.length G.ah.length (iC G q) w4.heap.size kg BG (.slice ag kg cg) wr
 fr:Sep.Fr (fun x=>x=p) w4 wr
 pl:p<w4.heap.size
section
variable {G:ai} {q:Whole} {aR:Option Addr} {cR p ka kg:Nat} {w4 wr wa wb:World} {BA BG:Nat->Nat} {aa ag:Option Addr} {ca cg:Nat}
theorem lI.went(r:lI G q aR cR p w4 ka kg BA BG aa ca ag cg wr)(hb:Below wr.heap.size wr wa):lI G q aR cR p w4 ka kg BA BG aa ca ag cg wa:=
 ⟨(hb.block p (Array.getElem?_eq_some_iff.1 r.box).1).trans r.box,r.acts.went hb,r.goto.went hb,r.fr.trans (.of_below hb) (fun x hx=> .inl hx),r.pl⟩
theorem lI.qO(r:lI G q aR cR p w4 ka kg BA BG aa ca ag cg wa){b}(hF:dR b 57 ((G.terms.length+1)*2) ((G.terms.length+1)*2) (jJ G q ka) wa)(hlo:w4.heap.size<=b){a2}{c2}{v'}(hv:v'=.slice a2 (ka+1) c2)
  (hown:wb.ownsRow w4.heap.size 53 1 v' (ka+1) ((List.range ka).map (fun j=>(.slice (some ⟨BA j,0,none⟩) (G.terms.length+1) (G.terms.length+1):Value))++[.slice (some ⟨b,0,none⟩) (G.terms.length+1) (G.terms.length+1)])) (hg:wa.grownBy wb (Value.slice aa ka ca).ownBlock):
  lI G q aR cR p w4 (ka+1) kg (fun j=>if j=ka then b else BA j) BG a2 c2 ag cg (wb.setCell ⟨p,3,none⟩ v'):=by
 subst hv;have hpw:p<wa.heap.size:=(Array.getElem?_eq_some_iff.1 r.box).1
 have xK:∀g,(Value.slice aa ka ca).ownBlock=some g->p≠g:=fun g e e2=>by
  have:=(World.ownsRow.lt r.acts.row g e).1;have:=r.pl;omega
 have bW:=(hg.block p hpw (fun e=>xK p e.symm rfl)).trans r.box;have A1:=r.acts.snoc hF hlo (by decide) hown hg;have G1:=r.goto.kept' r.acts.row (by decide) (by decide) hg
 have BK:Sep.Fr (fun x=>x=p) w4 (wb.setCell ⟨p,3,none⟩ (.slice a2 (ka+1) c2)):=
  ((r.fr.grown hg fun g e=> .inr (World.ownsRow.lt r.acts.row g e).1).setCell ⟨p,3,none⟩ rfl _)
 refine⟨?_,A1.kept (x:=p) (U:=26) ⟨_,_,bW⟩ (by decide) (by decide) (Rg.jg _ _ _ _),G1.kept (x:=p) (U:=26) ⟨_,_,bW⟩ (by decide) (by decide) (Rg.jg _ _ _ _),BK,r.pl⟩;rw[Rg.js bW (k:=3)]
 rfl
theorem lI.qP(r:lI G q aR cR p w4 ka kg BA BG aa ca ag cg wa){b}(hF:dR b 3 G.ah.length G.ah.length (iC G q kg) wa)(hlo:w4.heap.size<=b){a2}{c2}{v'}(hv:v'=.slice a2 (kg+1) c2)
  (hown:wb.ownsRow w4.heap.size 29 1 v' (kg+1) ((List.range kg).map (fun j=>(.slice (some ⟨BG j,0,none⟩) G.ah.length G.ah.length:Value))++[.slice (some ⟨b,0,none⟩) G.ah.length G.ah.length])) (hg:wa.grownBy wb (Value.slice ag kg cg).ownBlock):
  lI G q aR cR p w4 ka (kg+1) BA (fun j=>if j=kg then b else BG j) aa ca a2 c2 (wb.setCell ⟨p,4,none⟩ v'):=by
 subst hv;have hpw:p<wa.heap.size:=(Array.getElem?_eq_some_iff.1 r.box).1
 have xK:∀g,(Value.slice ag kg cg).ownBlock=some g->p≠g:=fun g e e2=>by
  have:=(World.ownsRow.lt r.goto.row g e).1;have:=r.pl;omega
 have bW:=(hg.block p hpw (fun e=>xK p e.symm rfl)).trans r.box;have A1:=r.goto.snoc hF hlo (by decide) hown hg;have G1:=r.acts.kept' r.goto.row (by decide) (by decide) hg
 have BK:Sep.Fr (fun x=>x=p) w4 (wb.setCell ⟨p,4,none⟩ (.slice a2 (kg+1) c2)):=
  ((r.fr.grown hg fun g e=> .inr (World.ownsRow.lt r.goto.row g e).1).setCell ⟨p,4,none⟩ rfl _)
 refine⟨?_,G1.kept (x:=p) (U:=26) ⟨_,_,bW⟩ (by decide) (by decide) (Rg.jg _ _ _ _),A1.kept (x:=p) (U:=26) ⟨_,_,bW⟩ (by decide) (by decide) (Rg.jg _ _ _ _),BK,r.pl⟩;rw[Rg.js bW (k:=4)]
 rfl
theorem lI.x9(r:lI G q aR cR p w4 ka kg BA BG aa ca ag cg wa)(hg:wa.grownBy wb (Value.slice aa ka ca).ownBlock):Sep.Fr (fun x=>x=p) w4 wb/\wb.heap[p]?=some (.cells (eF aR (G.rules.length+1) cR G.terms.length G.ah.length (.slice aa ka ca) (.slice ag kg cg)) 26 (0,0)):=by
 refine⟨r.fr.grown hg fun g e=> .inr (World.ownsRow.lt r.acts.row g e).1,(hg.block p (Array.getElem?_eq_some_iff.1 r.box).1 fun e=>?_).trans r.box⟩;have:=(World.ownsRow.lt r.acts.row _ e.symm).1;have:=r.pl;omega
theorem lI.ya(r:lI G q aR cR p w4 ka kg BA BG aa ca ag cg wa)(hg:wa.grownBy wb (Value.slice ag kg cg).ownBlock):Sep.Fr (fun x=>x=p) w4 wb/\wb.heap[p]?=some (.cells (eF aR (G.rules.length+1) cR G.terms.length G.ah.length (.slice aa ka ca) (.slice ag kg cg)) 26 (0,0)):=by
 refine⟨r.fr.grown hg fun g e=> .inr (World.ownsRow.lt r.goto.row g e).1,(hg.block p (Array.getElem?_eq_some_iff.1 r.box).1 fun e=>?_).trans r.box⟩;have:=(World.ownsRow.lt r.goto.row _ e.symm).1;have:=r.pl;omega
theorem lI.reads(r:lI G q aR cR p w4 ka kg BA BG aa ca ag cg wr):rQ 57 (G.terms.length+1) ((G.terms.length+1)*2) (jJ G q) w4.heap.size ka aa wr/\rQ 3 G.ah.length G.ah.length (iC G q) w4.heap.size kg ag wr:=⟨r.acts.reads.2,r.goto.reads.2⟩
end
theorem mU.JJ{lo}{G}{a}{w w'}{S}(h:mU lo G a w)(hf:Fr S w w')(hS:∀x,S x->x<lo\/w.heap.size<=x):mU lo G a w':=fun j hj=>by
 obtain⟨b,a3,c3,e,h1,h2,h3,h4,h5⟩:=h j hj;have hb:=World.block_lt_of_cell? w ⟨b,j*2,none⟩ h1;refine⟨b,a3,c3,e,hf.cell h1 (fun hs=>by have:=hS _ hs;dsimp only at*;omega),hf.cell h2 (fun hs=>by have:=hS _ hs;dsimp only at*;omega),fun i hi=>?_,h4,h5⟩;obtain⟨b3,o3,e3,e4⟩:=h3 i hi;have hb3:=World.block_lt_of_cell? w _ e4;exact⟨b3,o3,e3,hf.cell e4 (fun hs=>by have:=hS _ hs;have:=h5 b3 o3 e3 (by simp only[Gr.aN,List.length_map]at hi;omega);dsimp only at*;omega)⟩
structure qi (G:ai) (W:World) (aR:Option Addr) (cR p:Nat) (w5:World):Prop where
 box:w5.heap[p]?=some (.cells #[.slice aR (G.rules.length+1) cR,.int .i64 (G.terms.length:Int),.int .i64 (G.ah.length:Int),.slice none 0 0,.slice none 0 0] 26 (0,0))
 pl:p<w5.heap.size
 lo:W.heap.size<=p
 below:Below W.heap.size W w5
 rules:∀w',Sep.Fr (fun x=>x=p\/x<W.heap.size) w5 w'->mU 0 G aR w'
 cap:G.rules.length+1<=cR
theorem qi.start{G}{q}{W w5}{aR}{cR p}(h:qi G W aR cR p w5):lI G q aR cR p w5 0 0 (fun _=>0) (fun _=>0) none 0 none 0 w5:=
 ⟨h.box,.nil _,.nil _,.refl _ _,h.pl⟩
theorem qi.after{G}{W we}{aR}{cR lo}(h:Below W.heap.size W we)(hr:mU lo G aR we)(hlo:W.heap.size<=lo)(tV:G.rules.length+1<=cR):qi G W aR cR we.heap.size (we.alloc (.cells #[.slice aR (G.rules.length+1) cR,.int .i64 (G.terms.length:Int),.int .i64 (G.ah.length:Int),.slice none 0 0,.slice none 0 0] 26)):=by
 refine⟨World.alloc_heap_new _ _,?_,h.size,Gr.step h (boxed _ _),fun w' hf=>?_,tV⟩
 ·rw[World.size_alloc];exact Nat.lt_succ_self _
 ·refine(hr.JJ ((Sep.Fr.of_below (S:=fun x=>x=we.heap.size\/x<W.heap.size) (boxed we (.cells #[.slice aR (G.rules.length+1) cR,.int .i64 (G.terms.length:Int),.int .i64 (G.ah.length:Int),.slice none 0 0,.slice none 0 0] 26))).trans hf fun x hx=> .inl hx) (fun x hx=>?_)).low (Nat.zero_le _);omega
theorem qi.ahead{G}{W we}{aR}{cR p lo}{u0 u1 u2 u3 u4}(h:Below W.heap.size W we)(hp:W.heap.size<=p)(kb:we.heap[p]?=some (.cells #[u0,u1,u2,u3,u4] 26 (0,0)))(hr:mU lo G aR we)(hlo:p<lo)(tV:G.rules.length+1<=cR):
  qi G W aR cR p (((((we.setCell ⟨p,0,none⟩ (.slice aR (G.rules.length+1) cR)).setCell ⟨p,1,none⟩ (.int .i64 (G.terms.length:Int))).setCell ⟨p,2,none⟩ (.int .i64 (G.ah.length:Int))).setCell ⟨p,3,none⟩ (.slice none 0 0)).setCell ⟨p,4,none⟩ (.slice none 0 0)):=by
 have f:Sep.Fr (fun x=>x=p) we (((((we.setCell ⟨p,0,none⟩ (.slice aR (G.rules.length+1) cR)).setCell ⟨p,1,none⟩ (.int .i64 (G.terms.length:Int))).setCell ⟨p,2,none⟩ (.int .i64 (G.ah.length:Int))).setCell ⟨p,3,none⟩ (.slice none 0 0)).setCell ⟨p,4,none⟩ (.slice none 0 0)):=
  (((((Sep.Fr.refl (fun x=>x=p) we).setCell ⟨p,0,none⟩ rfl _).setCell ⟨p,1,none⟩ rfl _).setCell ⟨p,2,none⟩ rfl _).setCell ⟨p,3,none⟩ rfl _).setCell ⟨p,4,none⟩ rfl _
 refine⟨?_,Nat.lt_of_lt_of_le (Array.getElem?_eq_some_iff.1 kb).1 f.size,hp,h.trans (f.below (fun x hx=>by omega) h.size),fun w' hf=>?_,tV⟩
 ·rw[Rg.js (k:=4) (Rg.js (k:=3) (Rg.js (k:=2) (Rg.js (k:=1) (Rg.js (k:=0) kb _) _) _) _)]
  rfl
 ·exact(hr.oW ((f.mono (T:=fun x=>x=p\/x<W.heap.size) fun x hx=> .inl hx).trans hf fun x hx=> .inl hx) (fun x hx=>by omega)).low (Nat.zero_le _)
