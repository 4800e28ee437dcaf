/- A part of the proof. -/
import Derived.Laws.ResultCell
import Derived.Laws.Rows
import Derived.Test.YtegeamggbglneaaGreatDoorPk34
import Derived.Test.YtegeamggbglneaaGreatDoorPk43
import Derived.Test.YtegeamggbglneaaGreatDoorPk44
set_option maxHeartbeats 4000000
set_option maxRecDepth 100000
set_option linter.unusedVariables false
set_option linter.unusedSimpArgs false
namespace Go.Proofs.YtegeamggbglneaaGreatDoor
namespace Ac
open Go.RowKit Go.Maps
open Gr (Gram Sh GAt gv Bx cell_later boxed drawn checkN)
open Rw (zAH)
open Lk (LkR AllV LookIs zCh zBw zAo zEE zEN zDS)
open Au
def zES:Array Value:=#[.slice none 0 0,.slice none 0 0,.slice none 0 0,.int .i64 0,.slice none 0 0,.slice none 0 0]
def zJm(h:Sh)(G:Gram)(w:World)(e:Ending)(w':World):Prop:=
 (∃er:Int,er≠0/\Built G er []/\e=.returned (.tuple #[.agg zES,.int .i64 er])/\Below w.heap.size w w')\/
 (∃(m:Am) (q:Whole),m.h=h/\m.G=G/\Built G 0 (states q)/\Dat m q w'/\e=.returned (.tuple #[.agg (amc m),.int .i64 0])/\Below w.heap.size w w')
theorem zNa{G}{q}{er}{Ys}(hv:checkN G=0)(D:Done G q)(hb:Built G 0 (states q))(h:LookIs G er Ys):er=0/\Ys=zCh G q:=by
 cases h with
 |bad h1 h2=>exact absurd (h1.uniq hb).1 h2
 |all h1 h2 h3 h4=>
  have e:=(h4.uniq hb).2;rw[zEN h2.all D.all e];exact⟨rfl,rfl⟩
structure RdI (h:Sh) (G:Gram) (q:Whole) (aS:Option Addr) (cS p:Nat) (w4:World) (k:Nat) (V:Nat->Value) (al:Option Addr) (cl:Nat) (wr:World):Prop where
 box:wr.heap[p]?=some (.cells (amc ⟨h,G,aS,q.1.length,cS,al,k,cl⟩) 104 (0,0))
 row:wr.ownsRow w4.heap.size 145 1 (.slice al k cl) k ((List.range k).map V)
 els:∀j,j<k->∃a c,V j=.slice a (augR G q j).length c/\EndT a (augR G q j) wr
 fr:Sep.Fr (fun x=>x=p) w4 wr
 pl:p<w4.heap.size
section
variable {h:Sh} {G:Gram} {q:Whole} {aS:Option Addr} {cS p k:Nat} {w4 wr wa wb:World} {V:Nat->Value} {al:Option Addr} {cl:Nat}
theorem RdI.below(r:RdI h G q aS cS p w4 k V al cl wr){n}(hn:n<=p):Below n w4 wr:=r.fr.below (fun x hx=>by omega) (by have:=r.pl;omega)
theorem RdI.next(r:RdI h G q aS cS p w4 k V al cl wr)(hb:Below wr.heap.size wr wa){a a2}{c c2}{v'}(hE:EndT a (augR G q k) wa)(hv:v'=.slice a2 (k+1) c2)
  (hown:wb.ownsRow w4.heap.size 145 1 v' (k+1) ((List.range k).map V++[.slice a (augR G q k).length c])) (hg:wa.grownBy wb (Value.slice al k cl).ownBlock):
  RdI h G q aS cS p w4 (k+1) (fun j=>if j=k then .slice a (augR G q k).length c else V j) a2 c2 (wb.setCell ⟨p,5,none⟩ v'):=by
 subst hv;have hra:=Sep.zAE r.row (w':=wa) fun g e=>hb.block g (World.ownsRow.lt r.row g e).2
 have hpw:p<wr.heap.size:=(Array.getElem?_eq_some_iff.1 r.box).1
 have hpg:∀g,(Value.slice al k cl).ownBlock=some g->p≠g:=fun g e e2=>by
  have:=(World.ownsRow.lt r.row g e).1;have:=r.pl;omega
 have hbx:wb.heap[p]?=some (.cells (amc ⟨h,G,aS,q.1.length,cS,al,k,cl⟩) 104 (0,0)):=(hg.block p (Nat.lt_of_lt_of_le hpw hb.size) (fun e=>hpg p e.symm rfl)).trans ((hb.block p hpw).trans r.box)
 have hfb:Sep.Fr (fun x=>x=p) w4 (wb.setCell ⟨p,5,none⟩ (.slice a2 (k+1) c2)):=
  (((r.fr.trans (.of_below hb) (fun x hx=> .inl hx)).grown hg fun g e=> .inr (World.ownsRow.lt r.row g e).1).setCell ⟨p,5,none⟩ rfl _)
 have hty:∀g,(Value.slice al k cl).ownBlock=some g->Ty g 145 wa:=fun g e=>by
  rcases hra.2 with⟨h0,_⟩|⟨g',cap,cur,h0,_,h1,_⟩
  ·rw[h0]at e;cases e
  ·rw[h0]at e;injection e with e
   dsimp only at e;subst e;exact⟨cur,_,h1⟩
 have hkeep:∀{b:Option Addr} {Y:List (Nat×List Nat)},EndT b Y wa->EndT b Y (wb.setCell ⟨p,5,none⟩ (.slice a2 (k+1) c2)):=fun {b Y} he=>by
  have he2:EndT b Y wb:=by
   cases ho:(Value.slice al k cl).ownBlock with
   |none=>
    rw[ho]at hg;exact he.went ⟨hg.os,hg.tape,hg.output,hg.size,fun x hx=>hg.block x hx (by simp)⟩
   |some g=>
    rw[ho]at hg;exact he.kept (hty g ho) (by decide) (by decide) hg
  exact he2.kept (g:=p) (U:=104) ⟨_,_,hbx⟩ (by decide) (by decide) (Rg.zAj _ _ _ _)
 refine⟨?_,?_,?_,hfb,r.pl⟩
 ·have e:=Rg.zAR hbx (k:=5) (.slice a2 (k+1) c2);rw[e]
  rfl
 ·have e:(List.range (k+1)).map (fun j=>if j=k then(.slice a (augR G q k).length c:Value)else V j)=(List.range k).map V++[.slice a (augR G q k).length c]:=by
   rw[List.range_succ,List.map_append]
   congr 1
   ·refine List.map_congr_left fun j hj=>?_
    have:=List.mem_range.1 hj;rw[if_neg (by omega)]
   ·simp
  rw[e];refine Sep.zAE hown fun g e2=>?_
  refine(Rg.zAj wb p 5 (.slice a2 (k+1) c2)).block g (World.ownsRow.lt hown g e2).2 fun e3=>?_
  injection e3 with e3
  have:=(World.ownsRow.lt hown g e2).1;have:=r.pl;omega
 ·intro j hj
  by_cases hjk:j=k
  ·subst hjk;exact⟨a,c,by simp,hkeep hE⟩
  ·obtain⟨a',c',e1,e2⟩:=r.els j (by omega);exact⟨a',c',by simp[hjk,e1],hkeep (e2.went hb)⟩
theorem RdI.all'(r:RdI h G q aS cS p w4 k V al cl wr)(hk:k=q.1.length){p2}(hp2:p2<w4.heap.size)(ht:Ty p2 104 wr)(f:Sep.Fr (fun x=>x=p2) wr wa):LkR al ((List.range q.1.length).map (augR G q)) wa:=by
 subst hk;intro i hi;rw[List.length_map,List.length_range]at hi;obtain⟨a,c,e1,e2⟩:=r.els i hi;have hrow:=Sep.zAE r.row (w':=wa) fun g e=>f.block g (World.ownsRow.lt r.row g e).2 (by have:=(World.ownsRow.lt r.row g e).1;omega)
 have e3:=e2.kept ht (by decide) (by decide) (⟨f.os,f.tape,f.output,f.size,fun x hx hne=>f.block x hx fun e=>hne (by rw[e])⟩:wr.grownBy wa (some p2));obtain⟨b,rfl⟩:=Lk.zBW hrow (by omega);have t0:=World.ownsRow.cells hrow (g:=b) rfl i (V i) (by rw[List.getElem?_map,List.getElem?_range hi];rfl);rw[WideShapes.add_plain,e1]at t0;exact⟨b,a,c,rfl,by simpa using t0,by simpa using e3.reads⟩
end
theorem zL7{w:World}{p m n c}{a}{T}(hp:w.heap[p]?=some (.cells zES T (0,0)))(h:w.cell? ⟨p,m,none⟩=some (.slice a n c)):n=0:=by
 unfold World.cell? at h;simp only[hp]at h;unfold zES at h
 match m,h with
 |0,h=>simp at h;omega
 |1,h=>simp at h;omega
 |2,h=>simp at h;omega
 |3,h=>simp at h
 |4,h=>simp at h;omega
 |5,h=>simp at h;omega
 |m+6,h=>simp at h
theorem zKs{w:World}{p m}{x}{T}(hp:w.heap[p]?=some (.cells zES T (0,0)))(h:w.cell? ⟨p,m,none⟩=some (.int .i64 x)):m=3:=by
 unfold World.cell? at h;simp only[hp]at h;unfold zES at h
 match m,h with
 |0,h=>simp at h
 |1,h=>simp at h
 |2,h=>simp at h
 |3,h=>rfl
 |4,h=>simp at h
 |5,h=>simp at h
 |m+6,h=>simp at h
theorem zKB{a}{X}{w w'}{p}{T}(hp:w.heap[p]?=some (.cells zES T (0,0)))(f:Sep.Fr (fun x=>x=p) w w')(h:Im.ItsA a X w):Im.ItsA a X w':=by
 rcases X with _|⟨x,X⟩
 ·exact Im.ItsA.nil _ _
 ·obtain⟨b,o,rfl,h1,h2⟩:=h.at 0 (by simp)
  have hb:b≠p:=fun e=>by
   subst e;have e1:=zKs hp h1;have e2:=zKs hp h2;omega
  refine h.keep fun b' o' e=>?_
  simp only[Option.some.injEq,Addr.mk.injEq,and_true]at e;obtain⟨rfl,_⟩:=e;exact f.block b (World.block_lt_of_cell? w _ h1) hb
theorem zRI{a}{X}{w w'}{p}{T}(hp:w.heap[p]?=some (.cells zES T (0,0)))(f:Sep.Fr (fun x=>x=p) w w')(hne:∀s∈X,s.1≠[])(h:StaA a X w):StaA a X w':=fun i hi=>by
 obtain⟨b,o,a1,c1,a2,c2,e,h1,h2,h3,h4,h5,h6⟩:=h i hi
 have hb:b≠p:=fun e=>by
  subst e;exact hne _ (List.getElem_mem hi) (List.length_eq_zero_iff.1 (zL7 hp h1))
 have hbl:=World.block_lt_of_cell? w _ h1;exact⟨b,o,a1,c1,a2,c2,e,f.cell h1 hb,f.cell h2 hb,zKB hp f h3,zKB hp f h4,h5,h6⟩
def set6(w:World)(p:Nat)(v0 v1 v2 v3 v4 v5:Value):World:=(((((w.setCell ⟨p,0,none⟩ v0).setCell ⟨p,1,none⟩ v1).setCell ⟨p,2,none⟩ v2).setCell ⟨p,3,none⟩ v3).setCell ⟨p,4,none⟩ v4).setCell ⟨p,5,none⟩ v5
theorem zIY{w}{p}{u0 u1 u2 u3 u4 u5}{T}(h:w.heap[p]?=some (.cells #[u0,u1,u2,u3,u4,u5] T (0,0)))(v0 v1 v2 v3 v4 v5):(set6 w p v0 v1 v2 v3 v4 v5).heap[p]?=some (.cells #[v0,v1,v2,v3,v4,v5] T (0,0)):=by
 have e:=Rg.zAR (k:=5) (Rg.zAR (k:=4) (Rg.zAR (k:=3) (Rg.zAR (k:=2) (Rg.zAR (k:=1) (Rg.zAR (k:=0) h v0) v1) v2) v3) v4) v5;unfold set6;rw[e]
 rfl
theorem zOX(w)(p)(v0 v1 v2 v3 v4 v5):Sep.Fr (fun x=>x=p) w (set6 w p v0 v1 v2 v3 v4 v5):=
 ((((((Sep.Fr.refl (fun x=>x=p) w).setCell ⟨p,0,none⟩ rfl v0).setCell ⟨p,1,none⟩ rfl v1).setCell ⟨p,2,none⟩ rfl v2).setCell ⟨p,3,none⟩ rfl v3).setCell ⟨p,4,none⟩ rfl v4).setCell ⟨p,5,none⟩ rfl v5
theorem zUJ{base}{Ys}{a}{n c}{w}(h:AllV base Ys (.slice a n c) w){i}(hi):∃b aI cI,a=some ⟨b,0,none⟩/\w.cell? ⟨b,i,none⟩=some (.slice aI Ys[i].length cI)/\EndT aI Ys[i] w/\Ys[i].length<=cI:=by
 obtain⟨V,h1,h2⟩:=h
 have hn:n=Ys.length:=by
  obtain⟨_,_,e⟩:=Rw.zAG h1;simp only[Value.slice.injEq]at e;exact e.2.1
 subst hn;obtain⟨b,rfl⟩:=Lk.zBW h1 (by omega);have t0:=World.ownsRow.cells h1 (g:=b) rfl i (V i) (by rw[List.getElem?_map,List.getElem?_range hi];rfl);rw[WideShapes.add_plain]at t0;obtain⟨aI,cI,e,hE,hc⟩:=zUS (h2 i hi);rw[e]at t0;exact⟨b,aI,cI,rfl,by simpa using t0,hE,hc⟩
theorem zPf(G)(q)(i):(zAo G q i).length<=G.rules.length+1:=by
 unfold zAo;rw[List.length_map];refine Nat.le_trans (List.length_filter_le _ _) ?_;rw[List.length_range];exact Nat.le_refl _
theorem zGb{w}{p}{cs}{T}(tmps)(er)(h2:tmps.getD 2 undef=.pointer (some ⟨p,0,none⟩))(h3:tmps.getD 3 undef=er)(hg:w.heap[p]?=some (.cells cs T (0,0)))(hs:cs.size=6):
  (results Tryz.f60 tmps).run Tryz.prog w=.ok (.tuple #[.agg cs,er]) w:=by
 rw[results_cell_tmp (p:=2) (ty:=104) (u:=3) rfl,h2,h3];simp[asAddr,run_loadVar_row w p T 104 cs (0,0) _ hg Tryz.underlying104 rfl (by rw[hs];kernel_rfl),Result.andThen]
theorem zHI(h:Sh)(G:Gram)(w:World)(k:GAt h G w)(htab:Bt.Tab w):
  Calls Tryz.prog 60 #[gv h G] w (zJm h G w):=by
 have X:=zV7 ((Bx.start h G w 47).alloc (.cells zES 104));have BU:=zV7 (fun w1 (b:Below w.heap.size w w1)=>zHe h G w1 (k.went b) (fun hv=>Nat.le_trans (zCw hv) (by omega)));have LK:=zV7 (fun w1 (b:Below w.heap.size w w1)=>Lk.zQE h G w1 (k.went b) (htab.below b htab.pos));have FW:=zV7 (show(1:Nat)=1 from rfl);obtain⟨i0,hj,hz0,hz1,hz2⟩:=info_parts zEE
 have XT:((w.alloc (.cells #[.slice h.a1 G.terms.length h.c1,.slice h.a2 G.nons.length h.c2,.slice h.a3 G.rules.length h.c3,.int .i64 G.start] 47)).alloc (.cells zES 104)).heap[w.heap.size+1]?=some (.cells zES 104 (0,0)):=by
  have:=World.alloc_heap_new (w.alloc (.cells #[.slice h.a1 G.terms.length h.c1,.slice h.a2 G.nons.length h.c2,.slice h.a3 G.rules.length h.c3,.int .i64 G.start] 47)) (.cells zES 104)
  rwa [World.size_alloc]at this
 have Z:=zV7 XT;clear k htab XT;unfold gv at*;unfold zES at X Z;go_enter Tryz.func60,Tryz.ntmps60;obtain⟨x0,x1,x2,x3⟩:=X.out.box;go_wp2_with fail;refine(BU.out _ X.out.below).mono ?_;rintro e w1 ⟨ST,er,aX,cX,rfl,hB,hS,hle,hb1⟩;have X1:=zV7 (X.out.went hb1);have Z1:=zV7 ((hb1.block (w.heap.size+1) (Array.getElem?_eq_some_iff.1 Z.out).1).trans Z.out);clear x0 x1 x2 x3 X Z hb1;obtain⟨x0,x1,x2,x3⟩:=X1.out.box;rcases zDS hB with⟨h0,rfl,hB'⟩|⟨rfl,hv,q,rfl,D,hlen,hB'⟩
 ·have hne:(er != 0)=true:=by simpa using h0
  have f0:∀j,w1.frozen? ⟨w.heap.size+1,j,none⟩=false:=fun j=>zAO Z1.out
  have g0:=f0 0;have g1:=f0 1;have g2:=f0 2;have g3:=f0 3;have g4:=f0 4;have g5:=f0 5;have z0:=zAA Z1.out (k:=0) (by simp);have z1:=zAA Z1.out (k:=1) (by simp);have z2:=zAA Z1.out (k:=2) (by simp);have z3:=zAA Z1.out (k:=3) (by simp);have z4:=zAA Z1.out (k:=4) (by simp);have z5:=zAA Z1.out (k:=5) (by simp);clear f0;have EH:=zV7 (zIY Z1.out (.slice none 0 0) (.slice none 0 0) (.slice none 0 0) (.int .i64 0) (.slice none 0 0) (.slice none 0 0));have EB:=zV7 (X1.out.below.trans ((zOX w1 (w.heap.size+1) (.slice none 0 0) (.slice none 0 0) (.slice none 0 0) (.int .i64 0) (.slice none 0 0) (.slice none 0 0)).below (m:=w.heap.size) (fun x hx=>by omega) X1.out.below.size));unfold set6 at EH EB;go_wp2;refine bodyPost_ret (zGb _ _ rfl rfl EH.out rfl) rfl ?_;exact .inl ⟨er,h0,hB',rfl,EB.out⟩
 ·have hsl:(states q).length=q.1.length:=zAv D.all;clear hB BU;rw[hsl]at*;go_wp2_with fail;refine(LK.out _ X1.out.below).mono ?_;rintro e w2 ⟨er2,Ys,aL,cL,rfl,hLI,hAll,hb2⟩;obtain⟨rfl,rfl⟩:=zNa hv D hB' hLI;have X2:=zV7 (X1.out.went hb2);have Z2:=zV7 ((hb2.block (w.heap.size+1) (Array.getElem?_eq_some_iff.1 Z1.out).1).trans Z1.out);have S2:=zV7 (hS.went hb2);have AV:=zV7 hAll;clear x0 x1 x2 x3 X1 Z1 hb2 hLI hS hAll LK;obtain⟨x0,x1,x2,x3⟩:=X2.out.box;rw[zBw];have hp1:w.heap.size+1<w2.heap.size:=(Array.getElem?_eq_some_iff.1 Z2.out).1
  have R0:=zV7 (show RdI h G q aX cX w2.heap.size (w2.alloc (.cells #[.slice h.a1 G.terms.length h.c1,.slice h.a2 G.nons.length h.c2,.slice h.a3 G.rules.length h.c3,.int .i64 G.start,.slice aX q.1.length cX,.slice none 0 0] 104)) 0 (fun _=> .slice none 0 0) none 0 (w2.alloc (.cells #[.slice h.a1 G.terms.length h.c1,.slice h.a2 G.nons.length h.c2,.slice h.a3 G.rules.length h.c3,.int .i64 G.start,.slice aX q.1.length cX,.slice none 0 0] 104))from
   ⟨World.alloc_heap_new _ _,World.ownsRow_nil _ _ _ _,fun j hj=>absurd hj (Nat.not_lt_zero j),.refl _ _,by rw[World.size_alloc];exact Nat.lt_succ_self _⟩)
  have B24:=zV7 (boxed w2 (.cells #[.slice h.a1 G.terms.length h.c1,.slice h.a2 G.nons.length h.c2,.slice h.a3 G.rules.length h.c3,.int .i64 G.start,.slice aX q.1.length cX,.slice none 0 0] 104));go_wp2_with fail;generalize (w2.alloc (.cells #[.slice h.a1 G.terms.length h.c1,.slice h.a2 G.nons.length h.c2,.slice h.a3 G.rules.length h.c3,.int .i64 G.start,.slice aX q.1.length cX,.slice none 0 0] 104))=w4 at*;clear x0 x1 x2 x3;go_loopw [29] (fun v wr=>∃(k:Nat) (V:Nat->Value) (al:Option Addr) (cl:Nat),v=.int .i64 (k:Int)/\k<=q.1.length/\RdI h G q aX cX w2.heap.size w4 k V al cl wr) (fun v _=>q.1.length-(intOf v).toNat)
  case atStart=>exact⟨0,_,_,_,rfl,Nat.zero_le _,R0.out⟩
  case round=>
   obtain⟨k,V,al,cl,rfl,hk,hR⟩:=hrel;have R:=zV7 hR;have B2:=zV7 (B24.out.trans (hR.below (Nat.le_refl _)));clear hR R0
   by_cases hlt:k<q.1.length
   ·have hky:k<(zCh G q).length:=by rw[zBw];exact hlt
    obtain⟨bL,aI,cI,rfl,t0,hE,hcI⟩:=zUJ AV.out hky;have eY:(zCh G q)[k]=zAo G q k:=by simp[zCh]
    rw[eY]at t0 hE hcI;have t1:=cell_later B2.out t0;have hrl:G.rules.length<=300:=(Fi.zBG hv).r;have hel:=zPf G q k;have E2:=zV7 (hE.went B2.out)
    have AU:=zV7 (show∀w1,Below wr.heap.size wr w1->Calls Tryz.prog 95 #[.slice aI (zAo G q k).length cI,.int .i64 (G.rules.length:Int)] w1 (fun e w'=>∃a c,e=.returned (.slice a (augR G q k).length c)/\EndT a (augR G q k) w'/\Below w1.heap.size w1 w')from
     fun w1 b=>zSG G.rules.length aI (zAo G q k) cI w1 (E2.out.went b) (by omega) hcI)
    have X5:=zV7 (X2.out.went B2.out);obtain⟨x0,x1,x2,x3⟩:=X5.out.box;have c5:=zAA R.out.box (k:=5) (by simp[amc]);have HQ:=zV7 (show∀w',Below wr.heap.size wr w'->w'.cell? ⟨w2.heap.size,5,none⟩=some (.slice al k cl)/\w'.cell? ⟨w.heap.size,2,none⟩=some (.slice h.a3 G.rules.length h.c3)from fun w' b=>⟨cell_later b c5,cell_later b x2⟩)
    have RN:=zV7 (show∀(wa:World) (a':Option Addr) (c':Nat),Below wr.heap.size wr wa->EndT a' (augR G q k) wa->∀(a9:Option Addr) (c9:Nat) (w9:World),w9.ownsRow w4.heap.size 145 1 (.slice a9 (k+1) c9) (k+1) ((List.range k).map V++[.slice a' (augR G q k).length c'])->(wa.alloc (.cells #[.slice a' (augR G q k).length c'] 145)).grownBy w9 (Value.slice al k cl).ownBlock->
      RdI h G q aX cX w2.heap.size w4 (k+1) (fun j=>if j=k then .slice a' (augR G q k).length c' else V j) a9 c9 (w9.setCell ⟨w2.heap.size,5,none⟩ (.slice a9 (k+1) c9))from
     fun wa a' c' hb hE a9 c9 w9 hown hg=>R.out.next (Gr.step hb (boxed _ _)) (hE.went (boxed _ _)) rfl hown hg)
    have KD:=zV7 (show∀(wa w9:World) (o:Obj),Below wr.heap.size wr wa->(wa.alloc o).grownBy w9 (Value.slice al k cl).ownBlock->w9.cell? ⟨w2.heap.size,5,none⟩=some (.slice al k cl)/\w9.frozen? ⟨w2.heap.size,5,none⟩=false/\w9.cell? ⟨w.heap.size,2,none⟩=some (.slice h.a3 G.rules.length h.c3)from fun wa w9 o hb hg=>by
     have hb':=Gr.step hb (boxed wa o);have hpw:w2.heap.size<wr.heap.size:=(Array.getElem?_eq_some_iff.1 R.out.box).1
     have hbx:=(hg.block w2.heap.size (Nat.lt_of_lt_of_le hpw hb'.size) (fun e=>by
      have:=(World.ownsRow.lt R.out.row _ e.symm).1;have:=R.out.pl
      omega)).trans ((hb'.block _ hpw).trans R.out.box)
     have hbw:=hg.block w.heap.size (Nat.lt_of_lt_of_le (by omega) hb'.size) (fun e=>by
      have:=(World.ownsRow.lt R.out.row _ e.symm).1;have:=R.out.pl
      omega)
     exact⟨zAA hbx (k:=5) (by simp[amc]),zAO hbx,(World.cell?_of_block (a:=⟨w.heap.size,2,none⟩) hbw).trans (cell_later hb' x2)⟩)
    have hbd:=drawn wr;have hne5:¬(w.heap.size=w2.heap.size):=by omega
    have hs4:w4.heap.size<=wr.heap.size:=R.out.fr.size;have hkl:(k:Int)<(q.1.length:Int):=by omega
    clear hE E2 t0 hcI eY hky;go_wp2_with fail;refine wp_region_held_drew (S:=fun w'=>w'.cell? ⟨w.heap.size,2,none⟩=some (.slice h.a3 G.rules.length h.c3)) (by kernel_rfl) (by simp[x2]) (fun hHeld=>?_);refine wpAnyH_take (i:=0) (oi:= _) (v:=.pointer (some ⟨w2.heap.size,5,none⟩)) rfl (by kernel_rfl) (by kernel_rfl) (by kernel_rfl) (fun _ _ _ h=>h) (Or.inl ⟨by rfl,fun w5 hs5=>by go_simp⟩) (by assumption) ?_;change wpAnyH _ _ _ _ _ _ _ (Act.put _ (some 33) _) _;simp only[Act.put,List.setIfInBounds_toArray,List.set_cons_zero,List.set_cons_succ];refine wpAnyH_take (i:=2) (oi:= _) (v:=.slice aI (zAo G q k).length cI) rfl (by kernel_rfl) (by kernel_rfl) (by kernel_rfl) (fun _ _ _ h=>h) (Or.inl ⟨by rfl,fun w5 hs5=>by go_simp⟩) (by assumption) ?_;change wpAnyH _ _ _ _ _ _ _ (Act.put _ (some 35) _) _;simp only[Act.put,List.setIfInBounds_toArray,List.set_cons_zero,List.set_cons_succ];refine wpAnyH_take (i:=3) (oi:= _) (v:=.pointer (some ⟨w.heap.size,2,none⟩)) rfl (by kernel_rfl) (by kernel_rfl) (by kernel_rfl) (fun _ _ _ h=>h) (Or.inl ⟨by rfl,fun w5 hs5=>by go_simp⟩) (by assumption) ?_;change wpAnyH _ _ _ _ _ _ _ (Act.put _ (some 36) _) _;simp only[Act.put,List.setIfInBounds_toArray,List.set_cons_zero,List.set_cons_succ];refine wpAnyH_take (i:=4) (oi:= _) (v:=.slice h.a3 G.rules.length h.c3) rfl (by kernel_rfl) (by kernel_rfl) (by kernel_rfl) (fun _ _ _ h=>h) (Or.inl ⟨by rfl,fun w5 hs5=>by go_simp⟩) (by assumption) ?_;change wpAnyH _ _ _ _ _ _ _ (Act.put _ (some 37) _) _;simp only[Act.put,List.setIfInBounds_toArray,List.set_cons_zero,List.set_cons_succ];refine wpAnyH_take (i:=5) (oi:= _) (v:=.int .i64 (G.rules.length:Int)) rfl (by kernel_rfl) (by kernel_rfl) (by kernel_rfl) (fun _ _ _ h=>h) (Or.inl ⟨by rfl,fun w5 hs5=>by go_simp⟩) (by assumption) ?_;change wpAnyH _ _ _ _ _ _ _ (Act.put _ (some 38) _) _;simp only[Act.put,List.setIfInBounds_toArray,List.set_cons_zero,List.set_cons_succ];refine wpAnyH_ready (rs:=[1,6]) (by kernel_rfl) (by simp) ?_;refine AllReadyH.cons (o:= _) rfl (fun K' hK'=>?_) (AllReadyH.cons (o:= _) rfl (fun K' hK'=>?_) AllReadyH.nil)
    ·go_simp;refine hK'.out _ _ (by simp[x2]) (fun hHeld=>?_);clear hK';refine wpAnyH_ready (rs:=[6]) (by kernel_rfl) (by simp) ?_;refine AllReadyH.cons (o:= _) rfl (fun K' hK'=>?_) AllReadyH.nil;go_simp;refine(AU.out _ hbd).mono ?_;rintro e wa ⟨a',c',rfl,hEa,hba⟩;have kA:Below wr.heap.size wr wa:=Gr.step hbd hba;obtain⟨q5,q2⟩:=HQ.out _ kA;have kA2:=Gr.step kA (boxed wa (.cells #[.slice a' (augR G q k).length c'] 145));obtain⟨q7,q8⟩:=HQ.out _ kA2;have R1:=zV7 (Sep.zAE R.out.row (w':=wa.alloc (.cells #[.slice a' (augR G q k).length c'] 145)) fun g hg=>(kA2.block g (World.ownsRow.lt R.out.row g hg).2));have ON:=zV7 (Lk.zCY 145 w4.heap.size wa.heap.size (.slice a' (augR G q k).length c') wa rfl (Nat.le_trans hs4 kA.size));have RM:=zV7 (RN.out wa a' c' kA hEa);have hs8:w4.heap.size<=(wa.alloc (.cells #[.slice a' (augR G q k).length c'] 145)).heap.size:=Nat.le_trans hs4 kA2.size;clear hEa hba hHeld;refine hK'.out _ _ q2 (fun hHeld=>?_);clear hK';refine wpAnyH_ready (rs:=[7]) (by kernel_rfl) (by simp) ?_;refine AllReadyH.cons (o:= _) rfl (fun K' hK'=>?_) AllReadyH.nil;go_simp;refine hK'.out _ _ q8 (fun hHeld=>?_);clear hK';refine wpAnyH_ready (rs:=[8]) (by kernel_rfl) (by simp) ?_;refine AllReadyH.cons (o:= _) rfl (fun K' hK'=>?_) AllReadyH.nil;refine zAH _ (by rfl) _ _ 102 (by rfl) w4.heap.size 145 i0 (.slice none 0 0) 1 24 Tryz.underlying102 hj hz0 hz1 hz2 rfl (by decide) (.slice al k cl) k ((List.range k).map V) (by rfl) R1.out w4.heap.size (.slice (some ⟨wa.heap.size,0,none⟩) 1 1) 1 [.slice a' (augR G q k).length c'] (by rfl) ON.out (by simp[Value.oneCell']) (by unfold maxLen;omega) (by omega) hs8 ?_;intro v9 w9 hown9 hg9 hloc9;obtain⟨kd1,kd2,kd3⟩:=KD.out wa w9 _ kA hg9;obtain⟨a9,c9,rfl⟩:=Rw.zAG hown9;have R9:=zV7 (RM.out a9 c9 w9 hown9 hg9);clear hown9 hg9 hloc9 hHeld;refine hK'.out _ _ kd3 (fun hHeld=>?_);clear hK';simp only[Act.put,List.setIfInBounds_toArray,List.set_cons_zero,List.set_cons_succ];refine wpAnyH_take (i:=9) (oi:= _) (v:=.pointer (some ⟨w2.heap.size,5,none⟩)) rfl (by kernel_rfl) (by kernel_rfl) (by kernel_rfl) (fun _ _ _ h=>h) (Or.inl ⟨by rfl,fun w5 hs5=>by go_simp⟩) (by assumption) ?_;change wpAnyH _ _ _ _ _ _ _ (Act.put _ (some 42) _) _;simp only[Act.put,List.setIfInBounds_toArray,List.set_cons_zero,List.set_cons_succ];refine wpAnyH_ready (rs:=[10]) (by kernel_rfl) (by simp) ?_;refine AllReadyH.cons (o:= _) rfl (fun K' hK'=>?_) AllReadyH.nil;go_simp;refine hK'.out _ _ ((World.cell?_of_block (a:=⟨w.heap.size,2,none⟩) ((Rg.zAj w9 w2.heap.size 5 (.slice a9 (k+1) c9)).block w.heap.size (World.block_lt_of_cell? w9 ⟨w.heap.size,2,none⟩ kd3) (fun e=>hne5 (by injection e with e)))).trans kd3) (fun hHeld=>?_);clear hK' hHeld;refine wpAnyH_done (by kernel_rfl) ?_ _;go_wp2_with fail;go_roundw
     case rel=>exact⟨k+1,_,a9,c9,by go_num,by omega,R9.out⟩
     case measure=>first|(simp[intOf];omega)|(simp only[intOf];omega)|omega
    ·go_simp;refine(AU.out _ hbd).mono ?_;rintro e wa ⟨a',c',rfl,hEa,hba⟩;have kA:Below wr.heap.size wr wa:=Gr.step hbd hba;obtain⟨q5,q2⟩:=HQ.out _ kA;have kA2:=Gr.step kA (boxed wa (.cells #[.slice a' (augR G q k).length c'] 145));obtain⟨q7,q8⟩:=HQ.out _ kA2;have R1:=zV7 (Sep.zAE R.out.row (w':=wa.alloc (.cells #[.slice a' (augR G q k).length c'] 145)) fun g hg=>(kA2.block g (World.ownsRow.lt R.out.row g hg).2));have ON:=zV7 (Lk.zCY 145 w4.heap.size wa.heap.size (.slice a' (augR G q k).length c') wa rfl (Nat.le_trans hs4 kA.size));have RM:=zV7 (RN.out wa a' c' kA hEa);have hs8:w4.heap.size<=(wa.alloc (.cells #[.slice a' (augR G q k).length c'] 145)).heap.size:=Nat.le_trans hs4 kA2.size;clear hEa hba hHeld;refine hK'.out _ _ q2 (fun hHeld=>?_);clear hK';refine wpAnyH_ready (rs:=[1,7]) (by kernel_rfl) (by simp) ?_;refine AllReadyH.cons (o:= _) rfl (fun K' hK'=>?_) (AllReadyH.cons (o:= _) rfl (fun K' hK'=>?_) AllReadyH.nil)
     ·go_simp;refine hK'.out _ _ q2 (fun hHeld=>?_);clear hK';refine wpAnyH_ready (rs:=[7]) (by kernel_rfl) (by simp) ?_;refine AllReadyH.cons (o:= _) rfl (fun K' hK'=>?_) AllReadyH.nil;go_simp;refine hK'.out _ _ q8 (fun hHeld=>?_);clear hK';refine wpAnyH_ready (rs:=[8]) (by kernel_rfl) (by simp) ?_;refine AllReadyH.cons (o:= _) rfl (fun K' hK'=>?_) AllReadyH.nil;refine zAH _ (by rfl) _ _ 102 (by rfl) w4.heap.size 145 i0 (.slice none 0 0) 1 24 Tryz.underlying102 hj hz0 hz1 hz2 rfl (by decide) (.slice al k cl) k ((List.range k).map V) (by rfl) R1.out w4.heap.size (.slice (some ⟨wa.heap.size,0,none⟩) 1 1) 1 [.slice a' (augR G q k).length c'] (by rfl) ON.out (by simp[Value.oneCell']) (by unfold maxLen;omega) (by omega) hs8 ?_;intro v9 w9 hown9 hg9 hloc9;obtain⟨kd1,kd2,kd3⟩:=KD.out wa w9 _ kA hg9;obtain⟨a9,c9,rfl⟩:=Rw.zAG hown9;have R9:=zV7 (RM.out a9 c9 w9 hown9 hg9);clear hown9 hg9 hloc9 hHeld;refine hK'.out _ _ kd3 (fun hHeld=>?_);clear hK';simp only[Act.put,List.setIfInBounds_toArray,List.set_cons_zero,List.set_cons_succ];refine wpAnyH_take (i:=9) (oi:= _) (v:=.pointer (some ⟨w2.heap.size,5,none⟩)) rfl (by kernel_rfl) (by kernel_rfl) (by kernel_rfl) (fun _ _ _ h=>h) (Or.inl ⟨by rfl,fun w5 hs5=>by go_simp⟩) (by assumption) ?_;change wpAnyH _ _ _ _ _ _ _ (Act.put _ (some 42) _) _;simp only[Act.put,List.setIfInBounds_toArray,List.set_cons_zero,List.set_cons_succ];refine wpAnyH_ready (rs:=[10]) (by kernel_rfl) (by simp) ?_;refine AllReadyH.cons (o:= _) rfl (fun K' hK'=>?_) AllReadyH.nil;go_simp;refine hK'.out _ _ ((World.cell?_of_block (a:=⟨w.heap.size,2,none⟩) ((Rg.zAj w9 w2.heap.size 5 (.slice a9 (k+1) c9)).block w.heap.size (World.block_lt_of_cell? w9 ⟨w.heap.size,2,none⟩ kd3) (fun e=>hne5 (by injection e with e)))).trans kd3) (fun hHeld=>?_);clear hK' hHeld;refine wpAnyH_done (by kernel_rfl) ?_ _;go_wp2_with fail;go_roundw
      case rel=>exact⟨k+1,_,a9,c9,by go_num,by omega,R9.out⟩
      case measure=>first|(simp[intOf];omega)|(simp only[intOf];omega)|omega
     ·go_simp;refine hK'.out _ _ q8 (fun hHeld=>?_);clear hK';refine wpAnyH_ready (rs:=[1]) (by kernel_rfl) (by simp) ?_;refine AllReadyH.cons (o:= _) rfl (fun K' hK'=>?_) AllReadyH.nil;go_simp;refine hK'.out _ _ q8 (fun hHeld=>?_);clear hK';refine wpAnyH_ready (rs:=[8]) (by kernel_rfl) (by simp) ?_;refine AllReadyH.cons (o:= _) rfl (fun K' hK'=>?_) AllReadyH.nil;refine zAH _ (by rfl) _ _ 102 (by rfl) w4.heap.size 145 i0 (.slice none 0 0) 1 24 Tryz.underlying102 hj hz0 hz1 hz2 rfl (by decide) (.slice al k cl) k ((List.range k).map V) (by rfl) R1.out w4.heap.size (.slice (some ⟨wa.heap.size,0,none⟩) 1 1) 1 [.slice a' (augR G q k).length c'] (by rfl) ON.out (by simp[Value.oneCell']) (by unfold maxLen;omega) (by omega) hs8 ?_;intro v9 w9 hown9 hg9 hloc9;obtain⟨kd1,kd2,kd3⟩:=KD.out wa w9 _ kA hg9;obtain⟨a9,c9,rfl⟩:=Rw.zAG hown9;have R9:=zV7 (RM.out a9 c9 w9 hown9 hg9);clear hown9 hg9 hloc9 hHeld;refine hK'.out _ _ kd3 (fun hHeld=>?_);clear hK';simp only[Act.put,List.setIfInBounds_toArray,List.set_cons_zero,List.set_cons_succ];refine wpAnyH_take (i:=9) (oi:= _) (v:=.pointer (some ⟨w2.heap.size,5,none⟩)) rfl (by kernel_rfl) (by kernel_rfl) (by kernel_rfl) (fun _ _ _ h=>h) (Or.inl ⟨by rfl,fun w5 hs5=>by go_simp⟩) (by assumption) ?_;change wpAnyH _ _ _ _ _ _ _ (Act.put _ (some 42) _) _;simp only[Act.put,List.setIfInBounds_toArray,List.set_cons_zero,List.set_cons_succ];refine wpAnyH_ready (rs:=[10]) (by kernel_rfl) (by simp) ?_;refine AllReadyH.cons (o:= _) rfl (fun K' hK'=>?_) AllReadyH.nil;go_simp;refine hK'.out _ _ ((World.cell?_of_block (a:=⟨w.heap.size,2,none⟩) ((Rg.zAj w9 w2.heap.size 5 (.slice a9 (k+1) c9)).block w.heap.size (World.block_lt_of_cell? w9 ⟨w.heap.size,2,none⟩ kd3) (fun e=>hne5 (by injection e with e)))).trans kd3) (fun hHeld=>?_);clear hK' hHeld;refine wpAnyH_done (by kernel_rfl) ?_ _;go_wp2_with fail;go_roundw
      case rel=>exact⟨k+1,_,a9,c9,by go_num,by omega,R9.out⟩
      case measure=>first|(simp[intOf];omega)|(simp only[intOf];omega)|omega
   ·obtain rfl:k=q.1.length:=by omega
    obtain⟨c0,c1,c2,c3,c4,c5⟩:=zAZ R.out.box;dsimp only at c0 c1 c2 c3 c4 c5;have Z5:=zV7 ((B2.out.block (w.heap.size+1) hp1).trans Z2.out);have f0:∀j,wr.frozen? ⟨w.heap.size+1,j,none⟩=false:=fun j=>zAO Z5.out
    have g0:=f0 0;have g1:=f0 1;have g2:=f0 2;have g3:=f0 3;have g4:=f0 4;have g5:=f0 5;have z0:=zAA Z5.out (k:=0) (by simp);have z1:=zAA Z5.out (k:=1) (by simp);have z2:=zAA Z5.out (k:=2) (by simp);have z3:=zAA Z5.out (k:=3) (by simp);have z4:=zAA Z5.out (k:=4) (by simp);have z5:=zAA Z5.out (k:=5) (by simp);clear f0;have EH:=zV7 (zIY Z5.out (.slice h.a1 G.terms.length h.c1) (.slice h.a2 G.nons.length h.c2) (.slice h.a3 G.rules.length h.c3) (.int .i64 G.start) (.slice aX q.1.length cX) (.slice al q.1.length cl))
    have EN:=zV7 (show zJm h G w (.returned (.tuple #[.agg #[.slice h.a1 G.terms.length h.c1,.slice h.a2 G.nons.length h.c2,.slice h.a3 G.rules.length h.c3,.int .i64 G.start,.slice aX q.1.length cX,.slice al q.1.length cl],.int .i64 0])) (set6 wr (w.heap.size+1) (.slice h.a1 G.terms.length h.c1) (.slice h.a2 G.nons.length h.c2) (.slice h.a3 G.rules.length h.c3) (.int .i64 G.start) (.slice aX q.1.length cX) (.slice al q.1.length cl))from by
     have hsml:=Fi.zBG hv;have f6:=zOX wr (w.heap.size+1) (.slice h.a1 G.terms.length h.c1) (.slice h.a2 G.nons.length h.c2) (.slice h.a3 G.rules.length h.c3) (.int .i64 G.start) (.slice aX q.1.length cX) (.slice al q.1.length cl)
     have b6:Below w.heap.size w (set6 wr (w.heap.size+1) (.slice h.a1 G.terms.length h.c1) (.slice h.a2 G.nons.length h.c2) (.slice h.a3 G.rules.length h.c3) (.int .i64 G.start) (.slice aX q.1.length cX) (.slice al q.1.length cl)):=
      (X2.out.went B2.out).below.trans (f6.below (m:=w.heap.size) (fun x hx=>by omega) (X2.out.went B2.out).below.size)
     have h24:=B24.out.size
     have hne:∀s∈states q,s.1≠[]:=fun s hs=>by
      obtain⟨i,hi,e⟩:=List.getElem_of_mem hs;have hi':i<q.1.length:=by rw[←zAv D.all];exact hi
      have h1:=zCO D.all hi';rw[List.getElem?_eq_getElem hi,e]at h1;injection h1 with h1
      rw[h1];exact D.some hi'
     have D6:Dat ⟨h,G,aX,q.1.length,cX,al,q.1.length,cl⟩ q (set6 wr (w.heap.size+1) (.slice h.a1 G.terms.length h.c1) (.slice h.a2 G.nons.length h.c2) (.slice h.a3 G.rules.length h.c3) (.int .i64 G.start) (.slice aX q.1.length cX) (.slice al q.1.length cl)):=
      ⟨hv,D,Lk.zE5 hB',(zAv D.all).symm,rfl,zRI Z5.out f6 hne (S2.out.went B2.out),R.out.all' rfl (by omega) ⟨_,_,Z5.out⟩ f6,hlen,by have:=hsml.r;dsimp only;omega,by have:=hsml.t;dsimp only;omega⟩
     exact .inr ⟨⟨h,G,aX,q.1.length,cX,al,q.1.length,cl⟩,q,rfl,rfl,hB',D6,rfl,b6⟩)
    clear B2 R;unfold set6 at EH EN;go_wp2;refine bodyPost_ret (zGb _ _ rfl rfl EH.out rfl) rfl ?_;exact EN.out
