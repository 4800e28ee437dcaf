/- Proof. -/
import Derived.Test.YtegeamggbglneaaGreatDoorPk11
import Derived.Test.YtegeamggbglneaaGreatDoorPk12
set_option maxHeartbeats 4000000
set_option maxRecDepth 100000
set_option linter.unusedVariables false
namespace Go.Proofs.YtegeamggbglneaaGreatDoor
open Go.RowKit Go.Maps
namespace Au
open Gr (boxed cell_later jP)
open Im
structure Small (X:List mK):Prop where
 len:X.length<=1000000
 items:∀s∈X,s.1.length<=1000000
 trans:∀s∈X,s.2.length<=1000000
def ou(X:List mK)(i:Int):Bool:=decide (0<=i/\i<(X.length:Int))
def Yn(X:List mK)(i:Nat):List (Int×Int):=(X.getD i ([],[])).2
def p8(X:List mK)(i s:Int):Int:=if ou X i then leads (Yn X i.toNat) s else-1
theorem zTX{X}{i:Nat}(h:i<X.length):ou X (i:Int)=true:=decide_eq_true ⟨by omega,by omega⟩
theorem zTW{X}{i}:ou X i=true↔0<=i/\i<(X.length:Int):=decide_eq_true_iff
theorem Hi{X}{i:Nat}(h)(s):p8 X (i:Int) s=leads X[i].2 s:=by
 unfold p8 Yn;rw[zTX h,if_pos rfl,Int.toNat_natCast,List.getD_eq_getElem?_getD,List.getElem?_eq_getElem h]
 rfl
theorem MF{X}{i}(h:ou X i=false)(s):p8 X i s= -1:=by
 unfold p8;rw[h,if_neg Bool.false_ne_true]
def Ab(tr:List (Int×Int))(s:Int)(k:Nat):Prop:=∀j (h:j<tr.length),j<k->tr[j].1≠s
theorem zLr(tr)(s):Ab tr s 0:=fun _ _ h=>absurd h (by omega)
theorem zLq{tr}{s}{k}(h:Ab tr s k)(hk)(e:tr[k].1≠s):Ab tr s (k+1):=fun j hj hl=>by
 by_cases he:j=k
 ·subst he;exact e
 ·exact h j hj (by omega)
theorem zNn{tr}{s}{k}(h:Ab tr s k)(hk)(e:tr[k].1=s):leads tr s=tr[k].2:=by
 unfold leads
 have:tr.find? (fun x=>decide (x.1=s))=some tr[k]:=by
  rw[List.find?_eq_some_iff_getElem]
  exact⟨decide_eq_true e,k,hk,rfl,fun j hj=>by
   have:=h j (by omega) hj
   simpa using this⟩
 rw[this]
 rfl
theorem zNm{tr}{s}{k}(h:Ab tr s k)(hk:¬k<tr.length):leads tr s= -1:=by
 unfold leads
 have:tr.find? (fun x=>decide (x.1=s))=none:=by
  rw[List.find?_eq_none];intro x hx;obtain⟨j,hj,rfl⟩:=List.mem_iff_getElem.1 hx;have:=h j hj (by omega)
  simpa using this
 rw[this]
 rfl
def sU(X:List mK)(i:Int):List Int->Int
 |[]=>if ou X i then i else-1
 |s::way=>if ou X i then sU X (p8 X i s) way else-1
theorem Xz(X):ou X (-1)=false:=decide_eq_false (fun h=>by omega)
theorem M6{X}{i}(h:ou X i=false)(way):sU X i way= -1:=by
 cases way with
 |nil=>simp[sU,h]
 |cons s way=>simp[sU,h]
theorem zMF(X)(i s)(way):sU X i (s::way)=sU X (p8 X i s) way:=by
 cases h:ou X i with
 |true=>simp[sU,h]
 |false=>rw[M6 h,MF h,M6 (Xz X)]
theorem Yq{X}{ts}(e:∀i (h:i<X.length),X[i].2=ts.getD i []):∀(way:List Int) (i:Int),qc X.length ts i way=sU X i way
 |[],i=>by
  unfold qc sU ou
  by_cases hi:0<=i/\i<(X.length:Int)
  ·rw[if_pos hi,decide_eq_true hi,if_pos rfl]
  ·rw[if_neg hi,decide_eq_false hi,if_neg Bool.false_ne_true]
 |s::way,i=>by
  have hw:qc X.length ts i (s::way)=if 0<=i/\i<(X.length:Int)then qc X.length ts (wR X.length ts i s) way else-1:=rfl;rw[hw,zMF]
  by_cases hi:0<=i/\i<(X.length:Int)
  ·rw[if_pos hi,Yq e way];obtain⟨n,rfl⟩:=Int.eq_ofNat_of_zero_le hi.1;have hn:n<X.length:=by omega
   congr 1
   rw[Hi hn,e n hn];unfold wR;rw[if_pos hi,Int.toNat_natCast]
  ·rw[if_neg hi,MF (decide_eq_false hi),M6 (Xz X)]
theorem zMH(X)(a)(c)(i)(w)(hl:X.length<=1000000):
  Calls Tryz.prog 123 #[.slice a X.length c,.int .i64 i] w (Gr.Is (.bool (ou X i)) w):=by
 unfold ou;generalize X.length=n at*
 by_cases h0:0<=i
 ·by_cases h1:i<(n:Int)
  ·rw[decide_eq_true (p:=0<=i/\i<(n:Int)) ⟨h0,h1⟩];go_enter Tryz.func123,Tryz.ntmps123;go_wp2;go_ret;exact⟨rfl,.refl _ _⟩
  ·rw[decide_eq_false (p:=0<=i/\i<(n:Int)) (fun q=>h1 q.2)];go_enter Tryz.func123,Tryz.ntmps123;go_wp2;go_ret;exact⟨rfl,.refl _ _⟩
 ·rw[decide_eq_false (p:=0<=i/\i<(n:Int)) (fun q=>h0 q.1)];have h2:i<0:=by omega
  go_enter Tryz.func123,Tryz.ntmps123;go_wp2;go_ret;exact⟨rfl,.refl _ _⟩
theorem Na(X:List mK)(a:Option Addr)(c:Nat)(i s:Int)(w:World)(hX:fB a X w)(sm:Small X):
  Calls Tryz.prog 99 #[.slice a X.length c,.int .i64 i,.int .i64 s] w (Gr.Is (.int .i64 (p8 X i s)) w):=by
 have WI:=af (fun w1=>zMH X a c i w1 sm.len);have hxl:=sm.len;cases hin:ou X i with
 |false=>
  rw[MF hin];rw[hin]at WI;clear hX hin;go_enter Tryz.func99,Tryz.ntmps99;go_wp2_with (go_at_call 123;refine(WI.out _).mono ?_;rintro e w1 ⟨rfl,hb⟩;have HB:=af hb;clear hb);go_ret;exact⟨rfl,HB.out⟩
 |true=>
  rw[hin]at WI;obtain⟨h0,h1⟩:=zTW.1 hin;obtain⟨k,rfl⟩:=Int.eq_ofNat_of_zero_le h0;have hk:k<X.length:=by omega
  rw[Hi hk];obtain⟨b,o,a1,c1,a2,c2,rfl,z1,z2,i1,i2,l1,l2⟩:=hX k hk;have TR:=af (fun w1 (b:Below w.heap.size w w1)=>i2.went b);have hsm:=sm.trans _ (List.getElem_mem hk);have Z2:=af (fun w1 (b:Below w.heap.size w w1)=>cell_later b z2);clear hX sm z1 z2 i1 i2 l1 hin h0 h1;generalize X[k].2=tr at*;generalize X.length=n at*;go_enter Tryz.func99,Tryz.ntmps99;go_wp2_with (go_at_call 123;refine(WI.out _).mono ?_;rintro e w1 ⟨rfl,hb⟩;have HB:=af hb;have q2:=Z2.out _ hb;clear hb);go_loopw [19] (fun q wr=>∃j:Nat,q=.int .i64 j/\j<=tr.length/\Ab tr s j/\Below w.heap.size w wr) (fun q _=>tr.length-(intOf q).toNat)
  case atStart=>exact⟨0,rfl,Nat.zero_le _,zLr _ _,HB.out⟩
  case round=>
   obtain⟨j,rfl,hj,hN,hW⟩:=hrel;have N:=af hN;have HW:=af hW;clear hN
   by_cases hlt:j<tr.length
   ·obtain⟨b2,o2,rfl,p0,p1⟩:=(TR.out wr hW).at j hlt;have NS:=af (fun e=>zLq N.out hlt e);have NH:=af (fun e=>zNn N.out hlt e);have e1:((tr[j].1,tr[j].2):au)=tr[j]:=rfl;generalize tr[j]=x at*;obtain⟨x0,x1⟩:=x;dsimp only at p0 p1;clear e1 hW;have HA:=af (Gr.step HW.out (boxed wr (.cells #[.int .i64 x0,.int .i64 x1] 197)))
    by_cases he:x0=s
    ·have E:=af (NH.out he);subst he;clear NS NH;go_wp2;go_ret;exact⟨jP E.out,HA.out⟩
    ·have E:=af (NS.out he);clear NS NH;go_wp2;go_roundw
     case rel=>exact⟨j+1,by go_num,by omega,E.out,HA.out⟩
     case measure=>simp[intOf];omega
   ·have E:=af (zNm N.out hlt);clear hW;go_wp2;go_ret;exact⟨jP E.out,HW.out⟩
end Au
namespace Lk
open Gr (ai ax checkN top aN)
open Im
open Au
open Fi (dz bC aD aK)
open Bt (az)
open Rw (Bk)
structure Fk where
 aS:Option Addr
 cS:Nat
 bR:Nat
 cR:Nat
 bB:Nat
 cB:Nat
 bT:Nat
 cT:Nat
 tP:Nat->Nat->Nat
 tD:Nat->Nat->Nat
 p:Nat
 mb:Nat
noncomputable def Fe(G:ai)(k d:Nat):Nat->Bool:=fun u=>decide (u<G.terms.length+1)&&dz (aD G) (aK G) ((ax G (k:Int)).2.drop (d+1)) (u:Int)
noncomputable def OV(G:ai)(k d:Nat):Bool:=bC (aD G) ((ax G (k:Int)).2.drop (d+1))
def bD(l:List Nat):List Value:=l.map fun(k:Nat)=> .int .i64 (k:Int)
theorem Hn(l):(bD l).length=l.length:=by simp[bD]
structure fF (K:Fk) (G:ai) (q:Whole) (w:World):Prop where
 Gs:fB K.aS (states q) w
 rules:∀k:Nat,k<=G.rules.length->∃a c,w.cell? ⟨K.bR,k*2,none⟩=some (.int .i64 (ax G (k:Int)).1)/\w.cell? ⟨K.bR,k*2+1,none⟩=some (.slice a (ax G (k:Int)).2.length c)/\Sep.Reads a (aN (ax G (k:Int)).2) w
 qM:∀s:Nat,s<=top G->∃a c,w.cell? ⟨K.bB,s,none⟩=some (.slice a (eI G (s:Int)).length c)/\Sep.Reads a (bD (eI G (s:Int))) w
 tails:∀k:Nat,k<=G.rules.length->∃a c,w.cell? ⟨K.bT,k,none⟩=some (.slice a (ax G (k:Int)).2.length c)/\∀d,d<(ax G (k:Int)).2.length->∃b,a=some ⟨b,0,none⟩/\w.cell? ⟨b,d*2,none⟩=some (.pointer (some ⟨K.tP k d,0,none⟩))/\w.cell? ⟨b,d*2+1,none⟩=some (.bool (OV G k d))/\az (K.tP k d) (K.tD k d) (G.terms.length+1) (Fe G k d) w
def PM(K:Fk):Nat->Prop:=fun b=>b=K.p\/b=K.mb
structure Fix (W:World) (K:Fk) (G:ai) (q:Whole):Prop where
 ok:checkN G=0
 done:Done G q
 small:Small (states q)
 len:q.1.length<=2000
 at_:∀w,Sep.Fr (PM K) W w->fF K G q w
 plt:K.p<W.heap.size
 mlt:K.mb<W.heap.size
 pm:K.p≠K.mb
inductive Lb:Type
 |no:Lb
 |box:Lb
 |map:Lb
 |row:Lb
 |sP:Nat->Lb
 |sE:Nat->Lb
 |way:Nat->Lb
 |qV:Lb
def yc(y:Way):List Value:=[y.v,.bool y.e,.int .i64 (y.to:Int)]
theorem ME(y):(yc y).length=3:=rfl
def cc(N:Nt)(k:Nat):List Value:=[.pointer (some ⟨N.D k,0,none⟩),N.wv k,.bool (N.Wt k)]
theorem GU(N)(k):(cc N k).length=3:=rfl
def cells(N:Nt):List Value:=(List.range N.ak.length).flatMap (cc N)
def oc(K:Fk)(G:ai)(y:Way):Prop:=(y.v=.pointer none/\y.f=fun _=>false)\/∃k d:Nat,k<=G.rules.length/\d<(ax G (k:Int)).2.length/\y.v=.pointer (some ⟨K.tP k d,0,none⟩)/\y.f=Fe G k d
def nb(K:Fk)(G:ai)(n:Nat)(cv qv:Value):Array Value:=#[.slice K.aS n K.cS,.int .i64 (G.terms.length:Int),.slice (some ⟨K.bR,0,none⟩) (G.rules.length+1) K.cR,.slice (some ⟨K.bB,0,none⟩) (top G+1) K.cB,.slice (some ⟨K.bT,0,none⟩) (G.rules.length+1) K.cT,cv,.map (some K.mb),qv]
abbrev jz(b n:Nat)(X:Pl->Option Int)(w:World):Prop:=fL Tryz.prog 221 3 b n X w
structure NP (W:World) (K:Fk) (G:ai) (q:Whole) (N:Nt) (lab:Nat->Lb) (cv qv:Value) (w:World):Prop where
 fr:Sep.Fr (PM K) W w
 box:Bk K.p (nb K G (states q).length cv qv) 177 w
 row:w.ownsRow W.heap.size 219 3 cv N.ak.length (cells N)
 ways:∀k,k<N.ak.length->w.ownsRow W.heap.size 214 3 (N.wv k) (N.Ys k).length ((N.Ys k).flatMap yc)
 ry:∀k,k<N.ak.length->∀y∈N.Ys k,oc K G y
 sets:∀k,k<N.ak.length->az (N.D k) (N.E k) (G.terms.length+1) (N.S k) w
 map:jz K.mb N.ak.length (ez N.ak) w
 queue:w.ownsRow W.heap.size 3 1 qv N.qs.length (bD N.qs)
 lp:lab K.p=.box
 lm:lab K.mb=.map
 lr:∀g,cv.ownBlock=some g->lab g=.row
 lw:∀k,k<N.ak.length->∀g,(N.wv k).ownBlock=some g->lab g=.way k
 lP:∀k,k<N.ak.length->lab (N.D k)=.sP k
 lE:∀k,k<N.ak.length->lab (N.E k)=.sE k
 lq:∀g,qv.ownBlock=some g->lab g=.qV
 low:∀b,lab b≠.no->b=K.p\/b=K.mb\/W.heap.size<=b
 bK:∀b,lab b≠.no->b<w.heap.size
section
variable {W:World} {K:Fk} {G:ai} {q:Whole} {N:Nt} {lab:Nat->Lb} {cv qv:Value} {w w':World} {ch:Lb->Prop}
abbrev Ch(ch:Lb->Prop)(lab:Nat->Lb)(w w':World):Prop:=Sep.Fr (fun b=>ch (lab b)) w w'
theorem NP.bk(h:NP W K G q N lab cv qv w){b}{L}(e:lab b=L)(hn:L≠.no):b<w.heap.size:=h.bK b (e▸hn)
theorem NP.keep(h:NP W K G q N lab cv qv w)(f:Ch ch lab w w'){b}{L}(e:lab b=L)(hn:L≠.no)(hc:¬ch L):w'.heap[b]?=w.heap[b]?:=f.block b (h.bk e hn) (by rw[e];exact hc)
theorem NP.fr'(h:NP W K G q N lab cv qv w)(f:Ch ch lab w w')(hc:¬ch .no):Sep.Fr (PM K) W w':=
 ⟨f.os.trans h.fr.os,f.tape.trans h.fr.tape,f.output.trans h.fr.output,Nat.le_trans h.fr.size f.size,fun b hb hp=>by
  have hl:lab b=.no:=by
   cases e:lab b with
   |no=>rfl
   |_=>
    exfalso
    rcases h.low b (by rw[e];intro h;cases h)with r|r|r
    ·exact hp (.inl r)
    ·exact hp (.inr r)
    ·omega
  rw[f.block b (Nat.lt_of_lt_of_le hb h.fr.size) (by rw[hl];exact hc)]
  exact h.fr.block b hb hp⟩
theorem NP.fC(h:NP W K G q N lab cv qv w)(f:Ch ch lab w w')(hc:¬ch .box):Bk K.p (nb K G (states q).length cv qv) 177 w':=(h.keep f h.lp (by intro h;cases h) hc).trans h.box
theorem NP.row'(h:NP W K G q N lab cv qv w)(f:Ch ch lab w w')(hc:¬ch .row):w'.ownsRow W.heap.size 219 3 cv N.ak.length (cells N):=Sep.bS h.row fun g hg=>h.keep f (h.lr g hg) (by intro h;cases h) hc
theorem NP.jf(h:NP W K G q N lab cv qv w)(f:Ch ch lab w w'){k}(hk:k<N.ak.length)(hc:¬ch (.way k)):w'.ownsRow W.heap.size 214 3 (N.wv k) (N.Ys k).length ((N.Ys k).flatMap yc):=Sep.bS (h.ways k hk) fun g hg=>h.keep f (h.lw k hk g hg) (by intro h;cases h) hc
theorem NP.je(h:NP W K G q N lab cv qv w)(f:Ch ch lab w w'){k}(hk:k<N.ak.length)(hP:¬ch (.sP k))(hE:¬ch (.sE k)):az (N.D k) (N.E k) (G.terms.length+1) (N.S k) w':=(h.sets k hk).keep f.size (h.keep f (h.lP k hk) (by intro h;cases h) hP) (h.keep f (h.lE k hk) (by intro h;cases h) hE)
theorem NP.map'(h:NP W K G q N lab cv qv w)(f:Ch ch lab w w')(hc:¬ch .map):jz K.mb N.ak.length (ez N.ak) w':=h.map.keep (h.keep f h.lm (by intro h;cases h) hc)
theorem NP.jc(h:NP W K G q N lab cv qv w)(f:Ch ch lab w w')(hc:¬ch .qV):w'.ownsRow W.heap.size 3 1 qv N.qs.length (bD N.qs):=Sep.bS h.queue fun g hg=>h.keep f (h.lq g hg) (by intro h;cases h) hc
theorem NP.went(h:NP W K G q N lab cv qv w)(hb:Below w.heap.size w w'):NP W K G q N lab cv qv w':=by
 have f:Ch (fun _=>False) lab w w':=.of_below hb;exact⟨h.fr' f id,h.fC f id,h.row' f id,fun k hk=>h.jf f hk id,h.ry,fun k hk=>h.je f hk id id,h.map' f id,h.jc f id,h.lp,h.lm,h.lr,h.lw,h.lP,h.lE,h.lq,h.low,fun b hn=>Nat.lt_of_lt_of_le (h.bK b hn) hb.size⟩
def fS(lab:Nat->Lb)(g:Nat)(L:Lb):Nat->Lb:=fun b=>if b=g then L else lab b
theorem zV(lab)(g)(L):fS lab g L g=L:=if_pos rfl
theorem pC{lab}{g b}{L}(h:b≠g):fS lab g L b=lab b:=if_neg h
theorem NP.eight(h:NP W K G q N lab cv qv w):w.cell? ⟨K.p,0,none⟩=some (.slice K.aS (states q).length K.cS)/\w.cell? ⟨K.p,1,none⟩=some (.int .i64 (G.terms.length:Int))/\w.cell? ⟨K.p,2,none⟩=some (.slice (some ⟨K.bR,0,none⟩) (G.rules.length+1) K.cR)/\w.cell? ⟨K.p,3,none⟩=some (.slice (some ⟨K.bB,0,none⟩) (top G+1) K.cB)/\w.cell? ⟨K.p,4,none⟩=some (.slice (some ⟨K.bT,0,none⟩) (G.rules.length+1) K.cT)/\w.cell? ⟨K.p,5,none⟩=some cv/\w.cell? ⟨K.p,6,none⟩=some (.map (some K.mb))/\w.cell? ⟨K.p,7,none⟩=some qv:=
 ⟨h.box.cell rfl,h.box.cell rfl,h.box.cell rfl,h.box.cell rfl,h.box.cell rfl,h.box.cell rfl,h.box.cell rfl,h.box.cell rfl⟩
theorem Ep{α:Type}(f:α->List Value)(hf:∀x,(f x).length=3):∀(L:List α) (j:Nat) (hj:j<L.length) (i:Nat) (hi:i<3),(L.flatMap f)[j*3+i]?=(f L[j])[i]?
 |t::T,0,hj,i,hi=>by
  rw[List.flatMap_cons,List.getElem?_append_left (by rw[hf];omega)];simp
 |t::T,j+1,hj,i,hi=>by
  rw[List.flatMap_cons,List.getElem?_append_right (by rw[hf];omega),hf,show(j+1)*3+i-3=j*3+i by omega,Ep f hf T j (by simpa using hj) i hi];simp
theorem UZ{α:Type}(f:α->List Value)(hf:∀x,(f x).length=3)(L:List α):(L.flatMap f).length=L.length*3:=by
 induction L with
 |nil=>rfl
 |cons a L ih=>rw[List.flatMap_cons,List.length_append,hf,ih,List.length_cons];omega
theorem Ea(N){k}(hk:k<N.ak.length)(i)(hi:i<3):(cells N)[k*3+i]?=(cc N k)[i]?:=by
 unfold cells;rw[Ep (cc N) (GU N) _ k (by simpa using hk) i hi,List.getElem_range]
theorem NP.cell(h:NP W K G q N lab cv qv w){k}(hk:k<N.ak.length):∃g c,cv=.slice (some ⟨g,0,none⟩) N.ak.length c/\lab g=.row/\W.heap.size<=g/\w.cell? ⟨g,k*3,none⟩=some (.pointer (some ⟨N.D k,0,none⟩))/\w.cell? ⟨g,k*3+1,none⟩=some (N.wv k)/\w.cell? ⟨g,k*3+2,none⟩=some (.bool (N.Wt k))/\∀j,w.frozen? ⟨g,j,none⟩=false:=by
 have hc:=h.row;rcases h.row.2 with⟨_,h0⟩|⟨g,cap,cur,e,hbs,hg,_⟩
 ·omega
 ·have rd:=World.ownsRow.cells h.row (g:=g) (by rw[e];rfl);refine⟨g,cap,e,h.lr g (by rw[e];rfl),hbs,?_,?_,?_,fun j=>by simp[World.frozen?,hg]⟩
  ·have:=rd (k*3+0) _ (by rw[Ea N hk 0 (by omega)];rfl);rw[WideShapes.add_plain]at this
   simpa using this
  ·have:=rd (k*3+1) _ (by rw[Ea N hk 1 (by omega)];rfl);rw[WideShapes.add_plain]at this
   simpa using this
  ·have:=rd (k*3+2) _ (by rw[Ea N hk 2 (by omega)];rfl);rw[WideShapes.add_plain]at this
   simpa using this
theorem UX{N M}(hp:M.ak.length=N.ak.length){k i}(hk:k<N.ak.length)(hi:i<3){u}(ho:∀a,a≠k->cc M a=cc N a)(he:cc M k=(cc N k).set i u):(cells N).set (k*3+i) u=cells M:=by
 apply List.ext_getElem?
 intro j;have hl:(cells N).length=N.ak.length*3:=by unfold cells;rw[UZ _ (GU N),List.length_range]
 by_cases hj:j<N.ak.length*3
 ·have ha:j / 3<N.ak.length:=by omega
  have e2:=Ea M (k:=j / 3) (by omega) (j % 3) (by omega);have e1:=Ea N (k:=j / 3) ha (j % 3) (by omega);rw[show j / 3*3+j % 3=j by omega]at e1 e2;rw[e2,List.getElem?_set]
  by_cases ek:j / 3=k
  ·rw[ek,he,List.getElem?_set]
   by_cases ei:i=j % 3
   ·rw[if_pos (by omega),if_pos ei,if_pos (by omega),if_pos (by rw[GU];omega)]
   ·rw[if_neg (by omega),if_neg ei,e1,ek]
  ·rw[if_neg (by omega),e1,ho _ ek]
 ·rw[List.getElem?_eq_none (by rw[List.length_set];omega),List.getElem?_eq_none];unfold cells;rw[UZ _ (GU M),List.length_range];omega
theorem NP.way(h:NP W K G q N lab cv qv w){k}(hk:k<N.ak.length){j}(hj):∃g c,N.wv k=.slice (some ⟨g,0,none⟩) (N.Ys k).length c/\lab g=.way k/\w.cell? ⟨g,j*3,none⟩=some (N.Ys k)[j].v/\w.cell? ⟨g,j*3+1,none⟩=some (.bool (N.Ys k)[j].e)/\w.cell? ⟨g,j*3+2,none⟩=some (.int .i64 ((N.Ys k)[j].to:Int)):=by
 have hr:=h.ways k hk;rcases hr.2 with⟨_,h0⟩|⟨g,cap,cur,e,hbs,hg,_⟩
 ·omega
 ·have rd:=World.ownsRow.cells hr (g:=g) (by rw[e];rfl);refine⟨g,cap,e,h.lw k hk g (by rw[e];rfl),?_,?_,?_⟩
  ·have:=rd (j*3+0) _ (by rw[Ep yc ME _ j hj 0 (by omega)];rfl);rw[WideShapes.add_plain]at this
   simpa using this
  ·have:=rd (j*3+1) _ (by rw[Ep yc ME _ j hj 1 (by omega)];rfl);rw[WideShapes.add_plain]at this
   simpa using this
  ·have:=rd (j*3+2) _ (by rw[Ep yc ME _ j hj 2 (by omega)];rfl);rw[WideShapes.add_plain]at this
   simpa using this
theorem NP.look(h:NP W K G q N lab cv qv w)(k:Kp Tryz.prog 221)(hz:∀w:World,(zeroValue 3).run Tryz.prog w=.ok (.int .i64 0) w){x}(hx:tB x):
  (Instr.lookup 173 (.map (some K.mb)) (pv x) true).run Tryz.prog w=.ok (.tuple #[.int .i64 ((ez N.ak x).getD 0),.bool (ez N.ak x).isSome]) w:=
 h.map.look k Tryz.underlying173 Tryz.underlying3 (hz w) hx
end
end Lk
namespace Gr
theorem law:Keyed Tryz.prog 9:=string_keyed Tryz.underlying9
theorem YH{s}(h:s.size<=maxLen):keyOf Tryz.prog 9 (.string s)=some (.string s.data.toList):=WideMaps.keyOf_string_mk Tryz.underlying9 h
theorem zTj{s:ByteArray}(h:s.size<=maxLen):WideAt.IsKeyLit (.string s.data.toList):=law.key (YH h)
noncomputable abbrev Iu:Value->Option (DataW Unit×List MemPlace):=plainElem Tryz.prog 3
def Keys(L:List ByteArray)(D:DataW Unit):Prop:=
 (∀s:ByteArray,Maps.has D (.string s.data.toList)=It.d7 L s)/\Maps.size D<=L.length/\(Maps.size D=L.length↔L.Nodup)
theorem zQZ:Keys [] (.map []):=⟨fun s=>rfl,by simp[Maps.size],by simp[Maps.size]⟩
theorem zQa{L}{D}{s}(hT:Tidy D)(hM:IsMap D)(hk:WideAt.IsKeyLit (.string s.data.toList))(h:Keys L D)(d):Keys (L++[s]) (D.put (.string s.data.toList) d):=by
 obtain⟨h1,h2,h3⟩:=h;have hz:=size_put (k:=.string s.data.toList) hT d;rw[h1 s]at hz;refine⟨fun t=>?_,?_,?_⟩
 ·by_cases e:s=t
  ·subst e;rw[has_put_same hM hk,It.Vb]
  ·have hne:(Lit.string t.data.toList)≠.string s.data.toList:=fun h=>e (It.VK (by injection h with h;exact h.symm))
   rw[has_put_other hne,h1 t,Bool.eq_iff_iff,It.yE,It.yE];simp[Ne.symm e]
 ·rw[hz];split<;>simp<;>omega
 ·rw[hz];cases hi:It.d7 L s with
  |true=>
   have hm:=It.yE.1 hi;rw[if_pos rfl];constructor
   ·intro e;simp at e;omega
   ·intro hN;rw[List.nodup_append]at hN;exact absurd rfl (hN.2.2 s hm s (by simp))
  |false=>
   have hm:s∉L:=fun h=>by rw[It.yE.2 h]at hi;cases hi
   rw[if_neg (by simp)];simp only[List.length_append,List.length_cons,List.length_nil,Nat.zero_add,Nat.add_right_cancel_iff];rw[h3,List.nodup_append];constructor
   ·intro hN;refine⟨hN,by simp,fun a ha b hb=>?_⟩;simp only[List.mem_singleton]at hb;subst hb;exact fun e=>hm (e▸ha)
   ·exact fun hN=>hN.1
theorem zN3{G}(h:Pq G){s}(hs:s<(names G).length):((names G)[s]).size<=140737488355328:=by
 have:=List.getElem_mem hs;rcases List.mem_append.1 (show(names G)[s]∈G.terms++G.ah from this)with h1|h1
 ·exact h.terms _ h1
 ·exact h.ah _ h1
theorem zGA(h:Sh)(G:ai)(w:World)(k:bI h G w):
  Calls Tryz.prog 126 #[gv h G] w (Is (.bool (!rP G)) w):=by
 have T:=af (fun w1 (b:Below w.heap.size w w1)=>sD h G w1 (k.went b));have N:=af (fun s w1 (b:Below w.heap.size w w1)=>Nu h G s w1 (k.went b));have X:=af (Bx.start h G w 47);have SZ:=af (fun s hs=>zN3 k.ok (s:=s) hs);have ht:top G<=281474976710656:=by have:=k.t2;have:=k.n2;unfold top;omega
 have hmm:=@run_makeMap Tryz.prog;clear k;unfold gv;go_enter Tryz.func126,Tryz.ntmps126;go_wp2;go_loopw [4] (fun i wr=>∃j:Nat,∃D,j<=top G/\i=.int .i64 ((j:Int)+1)/\Bx w h G wr/\wr.ownsMap Tryz.prog 9 Iu (w.heap.size+1) j D/\Keys ((names G).take j) D) (fun i _=>(top G+1)-(intOf i).toNat)
 case atStart=>exact⟨0,.map [],Nat.zero_le _,rfl,X.out.alloc _,by simpa using World.ownsMap_made (w.alloc _) Tryz.prog 9 Iu,by simpa using zQZ⟩
 case round=>
  clear X;obtain⟨j,D,hj,rfl,hX,hO,hK⟩:=hrel;have X:=af hX;obtain⟨x0,x1,x2,x3⟩:=hX.box;have O:=af hO;have KY:=af hK;clear hX hO hK
  by_cases hlt:j<top G
  ·have hl:j<(names G).length:=by rw[zM];exact hlt
   have E:=af (Od hlt);have ST:=af (List.take_succ_eq_append_getElem hl);have hs:=SZ.out j hl;generalize (names G)[j]=x at E ST hs;have hk:=af (YH (s:=x) (by unfold maxLen;omega));have K2:=af (fun d=>zQa (O.out.tidy law) O.out.isMap (zTj (s:=x) (by unfold maxLen;omega)) KY.out d);clear hl
   go_wp2_with (first
    |(go_at_call 134;refine(T.out _ X.out.below).mono ?_;rintro e w1 ⟨rfl,hb⟩;have X:=af (X.out.went hb);have O:=af (Sep.ownsMap_at O.out (hb.block _ O.out.lt));obtain⟨x0,x1,x2,x3⟩:=X.out.box;clear hb)
    |(go_at_call 152;refine(N.out _ _ X.out.below).mono ?_;rw[E.out];rintro e w2 ⟨rfl,hb⟩;have X:=af (X.out.went hb);have O:=af (Sep.ownsMap_at O.out (hb.block _ O.out.lt));clear hb)
    | (at_mapUpdate;refine wpList_mapUpdate_own _ rfl _ _ _ 164 rfl 9 3 law Tryz.underlying164 Iu (w.heap.size+1) j D rfl O.out (by unfold maxLen;omega) _ _ _ rfl rfl hk.out _ [] (plainElem_int Tryz.underlying3 (WalkArith.wf_i64 (by omega))) ?_;intro w3 hown1 hg1;have X:=af (X.out.grown hg1 (fun q hq=>by injection hq with hq;omega));have O:=af hown1;clear hown1 hg1))
   go_roundw
   case rel=>exact⟨j+1,_,by omega,by go_num,X.out,O.out,by rw[ST.out];exact K2.out _⟩
   case measure=>simp[intOf];omega
  ·have hE:j=top G:=by omega
   subst hE;have HK:=af (show Keys (names G) D by have h1:=KY.out;rw[List.take_of_length_le (by rw[zM];exact Nat.le_refl _)]at h1;exact h1);have hsz:=HK.out.2.1;rw[zM]at hsz
   go_wp2_with (first
    |(go_at_call 134;refine(T.out _ X.out.below).mono ?_;rintro e w1 ⟨rfl,hb⟩;have X:=af (X.out.went hb);have O:=af (Sep.ownsMap_at O.out (hb.block _ O.out.lt));obtain⟨x0,x1,x2,x3⟩:=X.out.box;clear hb)
    | (at_len;refine wpList_len_own _ rfl _ 164 rfl 9 3 Tryz.underlying164 Iu (w.heap.size+1) (top G) D rfl O.out ?_))
   go_ret;refine⟨aU ?_,X.out.below⟩;have h3:=HK.out.2.2;rw[zM]at h3;unfold rP
   by_cases hN:(names G).Nodup
   ·rw[decide_eq_true hN];have:=h3.2 hN;simp;omega
   ·rw[decide_eq_false hN];have:¬Maps.size D=top G:=fun e=>hN (h3.1 e)
    simp;omega
