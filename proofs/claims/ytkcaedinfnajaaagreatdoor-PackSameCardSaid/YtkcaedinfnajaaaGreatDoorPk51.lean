/- A part of the proof. -/
import Derived.Test.YtkcaedinfnajaaaGreatDoorPk46
import Derived.Test.YtkcaedinfnajaaaGreatDoorPk47
import Derived.Test.YtkcaedinfnajaaaGreatDoorPk50
set_option maxHeartbeats 8000000
set_option maxRecDepth 100000
set_option linter.unusedVariables false
namespace Go.Proofs.YtkcaedinfnajaaaGreatDoor
open Go.RowKit Go.Maps
namespace Ac
open Gr (Gram GAt checkN)
open Lk (fitz)
open Au
open Go.Proofs.YtkcaedinfnajaaaGreatDoor.Sep
theorem zGu{G:Gram}{q:Whole}:tabL G q≠tab0:=fun e=>by
 have h:=congrArg Tb5.rules e;simp[tabL,tab0]at h
theorem zKI{G:Gram}{er:Int}(h:TabIs G er tab0):(Built G er []/\er≠0)\/∃q,checkN G=0/\Done G q/\Built G 0 (states q)/\zA6 G q≠[]/\er=12:=by
 generalize hT:tab0=T at h;cases h with
 |bad h1 h2=>exact .inl ⟨h1,h2⟩
 |clash h1 h2 h3 h4 h5=>exact .inr ⟨_,h1,h2,h4,h5,rfl⟩
 |all h1 h2 h3 h4 h5=>exact absurd hT.symm zGu
theorem zT7{w:World}{bt bn br b1 b2:Nat}(t0:w.cell? ⟨bt,0,none⟩=some (.string ⟨#[65]⟩))(t1:w.cell? ⟨bt,1,none⟩=some (.string ⟨#[66]⟩))(n0:w.cell? ⟨bn,0,none⟩=some (.string ⟨#[115]⟩))
  (r0:w.cell? ⟨br,0,none⟩=some (.int .i64 3)) (r1:w.cell? ⟨br,1,none⟩=some (.slice (some ⟨b1,0,none⟩) 2 2)) (r2:w.cell? ⟨br,2,none⟩=some (.int .i64 3)) (r3:w.cell? ⟨br,3,none⟩=some (.slice (some ⟨b2,0,none⟩) 1 1))
  (c0:w.cell? ⟨b1,0,none⟩=some (.int .i64 1)) (c1:w.cell? ⟨b1,1,none⟩=some (.int .i64 3)) (d0:w.cell? ⟨b2,0,none⟩=some (.int .i64 2)):
  GAt ⟨some ⟨bt,0,none⟩,2,some ⟨bn,0,none⟩,1,some ⟨br,0,none⟩,2⟩ GB w:=by
 refine⟨fun i hi=>?_,fun i hi=>?_,fun i hi=>?_,by simp[GB],by simp[GB],by simp[GB],by simp[GB],by simp[GB],⟨?_,?_,fitz _ (by decide) (by decide),?_,?_⟩⟩
 ·have h2:i<2:=hi;refine⟨bt,0,rfl,?_⟩;have:i=0\/i=1:=by omega
  rcases this with rfl|rfl
  ·exact t0
  ·exact t1
 ·have h2:i<1:=hi;refine⟨bn,0,rfl,?_⟩;obtain rfl:i=0:=by omega
  exact n0
 ·have h2:i<2:=hi;have:i=0\/i=1:=by omega
  rcases this with rfl|rfl
  ·refine⟨br,0,some ⟨b1,0,none⟩,2,rfl,r0,r1,fun j hj=>?_,by simp[GB],by simp[GB]⟩;have h3:j<2:=hj;refine⟨b1,0,rfl,?_⟩;have:j=0\/j=1:=by omega
   rcases this with rfl|rfl
   ·exact c0
   ·exact c1
  ·refine⟨br,0,some ⟨b2,0,none⟩,1,rfl,r2,r3,fun j hj=>?_,by simp[GB],by simp[GB]⟩;have h3:j<1:=hj;obtain rfl:j=0:=by omega
   exact⟨b2,0,rfl,d0⟩
 ·intro s hs;simp only[GB,List.mem_cons,List.not_mem_nil,or_false]at hs;rcases hs with rfl|rfl<;>simp[ByteArray.size]
 ·intro s hs;simp only[GB,List.mem_cons,List.not_mem_nil,or_false]at hs;subst hs;simp[ByteArray.size]
 ·intro r hr;simp only[GB,List.mem_cons,List.not_mem_nil,or_false]at hr;rcases hr with rfl|rfl<;>exact fitz _ (by decide) (by decide)
 ·intro r hr x hx;simp only[GB,List.mem_cons,List.not_mem_nil,or_false]at hr;rcases hr with rfl|rfl
  ·simp only[List.mem_cons,List.not_mem_nil,or_false]at hx;rcases hx with rfl|rfl<;>exact fitz _ (by decide) (by decide)
  ·simp only[List.mem_cons,List.not_mem_nil,or_false]at hx;subst hx;exact fitz _ (by decide) (by decide)
end Ac
namespace Pk
open Gr (Gram Fits zAE checkN top)
open Au (Whole leads Done)
open Ac (TabR fstA tgtV zIz)
open Im (ItsA)
noncomputable def zCY(G:Gram)(q:Whole):List (List (Int×Int)):=(List.range q.1.length).map fun i=>(List.range (G.terms.length+1)).map fun t=>fstA G q i t
def zEk(G:Gram)(q:Whole):List (List Int):=(List.range q.1.length).map fun i=>(List.range G.nons.length).map fun k=>leads (q.2.getD i []) ((G.terms.length+1+k:Nat):Int)
noncomputable def zBc(G:Gram)(q:Whole):Tb:=⟨(List.range (G.rules.length+1)).map fun j:Nat=>zAE G (j:Int),(G.terms.length:Int),(G.nons.length:Int),zCY G q,zEk G q⟩
section
variable {G:Gram} {q:Whole}
theorem zBz(G:Gram)(q:Whole):(zBc G q).rules.length=G.rules.length+1/\(zBc G q).acts.length=q.1.length/\(zBc G q).goto.length=q.1.length:=by
 simp[zBc,zCY,zEk]
theorem zGE{r:List (Int×Int)}(h:r∈zCY G q):∃i,i<q.1.length/\r=(List.range (G.terms.length+1)).map fun t=>fstA G q i t:=by
 obtain⟨i,hi,e⟩:=List.mem_map.1 h;exact⟨i,List.mem_range.1 hi,e.symm⟩
theorem zGR{r:List Int}(h:r∈zEk G q):∃i,i<q.1.length/\r=(List.range G.nons.length).map fun k=>leads (q.2.getD i []) ((G.terms.length+1+k:Nat):Int):=by
 obtain⟨i,hi,e⟩:=List.mem_map.1 h;exact⟨i,List.mem_range.1 hi,e.symm⟩
theorem zGq{r:Int×List Int}(h:r∈(zBc G q).rules):∃j,j<=G.rules.length/\r=zAE G (j:Int):=by
 obtain⟨i,hi,e⟩:=List.mem_map.1 h;exact⟨i,by have:=List.mem_range.1 hi;omega,e.symm⟩
theorem zCs(hv:checkN G=0){j:Nat}(hj:j<=G.rules.length):(0<=(zAE G (j:Int)).1/\(zAE G (j:Int)).1<=(top G:Int))/\(zAE G (j:Int)).2.length<=8/\∀x∈(zAE G (j:Int)).2,0<=x/\x<=(top G:Int):=by
 have S:=Fi.zA8 hv;refine⟨?_,?_⟩
 ·rcases Lk.zA1 hv hj with⟨_,e⟩|⟨_,h1,h2⟩
  ·rw[e];omega
  ·omega
 ·by_cases e:j=G.rules.length
  ·subst e;rw[(Gr.zAr G).2];refine⟨by simp,fun x hx=>?_⟩;rw[List.mem_singleton]at hx;subst hx;have:=Gr.zAa.1 (Fi.zH5 S.known);unfold top;omega
  ·have hl:j<G.rules.length:=by omega
   rw[(Gr.zBE hl).2];have hm:=List.getElem_mem hl;refine⟨S.w _ hm,fun x hx=>?_⟩;have:=Fi.zJ6 S.known hm hx;omega
theorem zCh(hv:checkN G=0):top G<=240:=by
 have S:=Fi.zA8 hv;have h1:=S.t;have h2:=S.n;unfold top;omega
theorem zTL(hv:checkN G=0)(D:Done G q)(hl:q.1.length<=2000):TFit (zBc G q):=by
 have S:=Fi.zA8 hv;have ht:=zCh hv;have h1:=S.t;have h2:=S.n;have h3:=S.r;refine⟨?_,?_,fun r hr=>?_,fun r hr x hx=>?_,fun r hr x hx=>?_,fun r hr x hx=>?_⟩
 ·show Fits (G.terms.length:Int);unfold Fits;omega
 ·show Fits (G.nons.length:Int);unfold Fits;omega
 ·obtain⟨j,hj,rfl⟩:=zGq hr;have:=(zCs hv hj).1;unfold Fits;omega
 ·obtain⟨j,hj,rfl⟩:=zGq hr;have:=(zCs hv hj).2.2 x hx;unfold Fits;omega
 ·obtain⟨i,hi,rfl⟩:=zGE hr;obtain⟨t,_,rfl⟩:=List.mem_map.1 hx;unfold Fits;rcases Ac.zHR D hi t with e|⟨n,hn,e⟩|e|⟨n,hn,e⟩<;>rw[e]<;>dsimp only<;>omega
 ·obtain⟨i,hi,rfl⟩:=zGR hr;obtain⟨k,_,rfl⟩:=List.mem_map.1 hx;unfold Fits;rcases Ac.zDt D hi ((G.terms.length+1+k:Nat):Int)with e|⟨n,e,hn,_⟩<;>rw[e]<;>omega
theorem zRP(hv:checkN G=0)(hl:q.1.length<=2000):TSm (zBc G q):=by
 have S:=Fi.zA8 hv;have h1:=S.t;have h2:=S.n;have h3:=S.r;obtain⟨e1,e2,e3⟩:=zBz G q;refine⟨by omega,by omega,by omega,fun r hr=>?_,fun r hr=>?_,fun r hr=>?_⟩
 ·obtain⟨j,hj,rfl⟩:=zGq hr;have:=(zCs hv hj).2.1;omega
 ·obtain⟨i,hi,rfl⟩:=zGE hr;rw[List.length_map,List.length_range];omega
 ·obtain⟨i,hi,rfl⟩:=zGR hr;rw[List.length_map,List.length_range];omega
theorem zOH(hv:checkN G=0)(D:Done G q)(h0:0<q.1.length):zAJ (zBc G q)=true:=by
 obtain⟨e1,e2,e3⟩:=zBz G q;have S:=Fi.zA8 hv;simp only[zAJ,zKv,zFT,zFZ,zC4,Bool.and_eq_true,decide_eq_true_eq,List.all_eq_true,zGi,okTo,e1,e2,e3];refine⟨⟨Nat.succ_pos _,h0,trivial,Int.natCast_nonneg _,Int.natCast_nonneg _⟩,fun r hr=>?_,fun r hr=>?_,fun r hr=>?_⟩
 ·obtain⟨i,hi,rfl⟩:=zGE hr;refine⟨?_,fun x hx=>?_⟩
  ·rw[List.length_map,List.length_range];show _=(G.terms.length:Int);omega
  ·obtain⟨t,_,rfl⟩:=List.mem_map.1 hx;unfold okA;rw[decide_eq_true_eq];rcases Ac.zHR D hi t with e|⟨n,hn,e⟩|e|⟨n,hn,e⟩<;>rw[e]<;>dsimp only<;>omega
 ·obtain⟨i,hi,rfl⟩:=zGR hr;refine⟨?_,fun x hx=>?_⟩
  ·rw[List.length_map,List.length_range]
   rfl
  ·obtain⟨k,_,rfl⟩:=List.mem_map.1 hx;unfold okT;rw[decide_eq_true_eq];rcases Ac.zDt D hi ((G.terms.length+1+k:Nat):Int)with e|⟨n,e,hn,_⟩<;>rw[e]<;>omega
 ·unfold zBc at hr;simp only[Nat.add_sub_cancel]at hr;rw[←List.map_take,List.take_range,Nat.min_eq_left (Nat.le_succ _)]at hr;obtain⟨j,hj,rfl⟩:=List.mem_map.1 hr;have hj:=List.mem_range.1 hj;unfold okL;rw[decide_eq_true_eq];show(G.terms.length:Int)<_/\_-(G.terms.length:Int)<=(G.nons.length:Int);rcases Lk.zA1 hv (Nat.le_of_lt hj)with⟨e,_⟩|⟨_,h1,h2⟩
  ·omega
  ·unfold top at h2;omega
theorem zSX{b o:Nat}{X:List (Int×Int)}{w:World}(h:∀j (hj:j<X.length),w.cell? ⟨b,o+j*2,none⟩=some (.int .i64 X[j].1)/\w.cell? ⟨b,o+j*2+1,none⟩=some (.int .i64 X[j].2)):ItsA (some ⟨b,o,none⟩) X w:=fun i hi=>by
 have hl:=Im.zAg X;refine⟨b,o,rfl,?_⟩;have hj:i / 2<X.length:=by omega
 obtain⟨h0,h1⟩:=h (i / 2) hj;have hr:i % 2=0\/i % 2=1:=by omega
 rcases hr with hr|hr
 ·have g:=Rw.zBQ Im.ic Im.zA7 X (i / 2) hj 0 (by omega);have e:i / 2*2+0=i:=by omega
  rw[e,List.getElem?_eq_getElem (by omega)]at g;rw[show o+i=o+i / 2*2 by omega,h0];rw[←Option.some.injEq]at g;exact congrArg some (by simpa[Im.ic]using g.symm)
 ·have g:=Rw.zBQ Im.ic Im.zA7 X (i / 2) hj 1 (by omega);have e:i / 2*2+1=i:=by omega
  rw[e,List.getElem?_eq_getElem (by omega)]at g;rw[show o+i=o+i / 2*2+1 by omega,h1];rw[←Option.some.injEq]at g;exact congrArg some (by simpa[Im.ic]using g.symm)
theorem zRO{aR aA aG:Option Addr}{cR cA cG:Nat}{w:World}(hv:checkN G=0)(D:Done G q)(hl:q.1.length<=2000)(h:TabR G q aR aA aG w)(h1:(zBc G q).rules.length<=cR):TAt (zBc G q) aR cR aA cA aG cG w:=by
 obtain⟨e1,e2,e3⟩:=zBz G q;have S:=Fi.zA8 hv;have s1:=S.t;have s2:=S.n;have s3:=S.r;refine⟨fun i hi=>?_,fun i hi=>?_,fun i hi=>?_,h1,by omega,by omega,by omega,zTL hv D hl⟩
 ·rw[e1]at hi;obtain⟨b,a3,c3,e,p0,p1,p2,_,_⟩:=h.rules i hi;have hr:(zBc G q).rules[i]=zAE G (i:Int):=by simp[zBc]
  rw[hr];have hs:=(zCs hv (j:=i) (by omega)).2.1;refine⟨b,0,a3,c3,e,?_,?_,p2,by omega⟩
  ·rw[Nat.zero_add];exact p0
  ·rw[Nat.zero_add];exact p1
 ·rw[e2]at hi;obtain⟨b,c,e,p0,p1,_,_⟩:=h.acts i hi;have hr:(zBc G q).acts[i]=(List.range (G.terms.length+1)).map fun t=>fstA G q i t:=by simp[zBc,zCY]
  rw[hr,List.length_map,List.length_range];refine⟨b,0,_,_,e,by rw[Nat.zero_add];exact p0,?_,Nat.le_refl _,by omega⟩;refine zSX fun j hj=>?_
  rw[List.length_map,List.length_range]at hj;rw[List.getElem_map,List.getElem_range];have q0:=p1.cell (j:=j*2) (by omega);have q1:=p1.cell (j:=j*2+1) (by omega);rw[zIz.1]at q0;rw[zIz.2]at q1;exact⟨by rw[Nat.zero_add];exact q0,by rw[Nat.zero_add];exact q1⟩
 ·rw[e3]at hi;obtain⟨b,c,e,p0,p1,_,_⟩:=h.goto i hi;have hr:(zBc G q).goto[i]=(List.range G.nons.length).map fun k=>leads (q.2.getD i []) ((G.terms.length+1+k:Nat):Int):=by simp[zBc,zEk]
  rw[hr,List.length_map,List.length_range];refine⟨b,0,_,_,e,by rw[Nat.zero_add];exact p0,fun j hj=>?_,Nat.le_refl _,by omega⟩;simp only[List.length_map,List.length_range]at hj;refine⟨c,0,rfl,?_⟩;have q0:=p1.cell hj;rw[Nat.zero_add,q0];simp[tgtV]
theorem zSz{T:Tb}(h:TSm T):PSm (zAx T):=by
 have hA:(zAL T).length=T.acts.length:=by simp[zAL]
 have hG:(zAO T).length=T.goto.length:=by simp[zAO]
 have k1:=zBN (zAL T);have k2:=zBN (zAO T);have k3:=h.al;have k4:=h.gl;refine⟨h.rl,?_,?_,?_,?_,h.rr,fun r hr=>?_,fun r hr=>?_⟩
 ·show(idxs (zAL T)).length<= _;rw[zAU];omega
 ·show(idxs (zAO T)).length<= _;rw[zAU];omega
 ·show(zAX (zAL T)).length<= _;omega
 ·show(zAX (zAO T)).length<= _;omega
 ·have hr:r∈zAX (zAL T):=hr;rw[zCB]at hr;obtain⟨a,ha,rfl⟩:=List.mem_map.1 hr;rw[List.length_map];exact h.ar a ha
 ·have hr:r∈zAX (zAO T):=hr;rw[zCB]at hr;obtain⟨a,ha,rfl⟩:=List.mem_map.1 hr;rw[List.length_map];exact h.gr a ha
end
end Pk
namespace Pk
open Gr (Gram)
open Im
open Au
open Ac (fstA actL zBS accL redL redB zCQ clB zMA OfGave zKI tbc)
open Lk (La zDT endI qB zGP zT8)
theorem zJ5(D:Done GB qB){i k t:Nat}(ht:0<t):redB GB qB i k t=false:=by
 cases e:redB GB qB i k t with
 |false=>rfl
 |true=>
  have:=zGP D (zCQ.1 e);omega
theorem zBe(D:Done GB qB){i k t:Nat}(hi:i<5)(hk:endI GB k∉clB i):redB GB qB i k t=false:=by
 cases e:redB GB qB i k t with
 |false=>rfl
 |true=>exact absurd (((zMA hi).2 _).2 (zDT D zCn (zCQ.1 e)).2) hk
theorem zJZ(D:Done GB qB){i t:Nat}(ht:0<t):fstA GB qB i t=(zBS qB i t).headD (0,0):=by
 have h1:accL GB qB i t=[]:=by
  unfold accL;rw[zJ5 D ht]
  rfl
 have h2:redL GB qB i t=[]:=by
  unfold redL;rw[show GB.rules.length=2 from rfl,show List.range 2=[0,1]from rfl];simp only[List.filter_cons,zJ5 D ht,List.filter_nil]
  rfl
 unfold fstA actL;rw[h1,h2,List.append_nil,List.append_nil]
theorem zEh{i:Nat}{b0 b1 b2:Bool}(r0:redB GB qB i 0 0=b0)(r1:redB GB qB i 1 0=b1)(r2:redB GB qB i 2 0=b2):fstA GB qB i 0=if b2 then(3,0)else if b0 then(2,0)else if b1 then(2,1)else(0,0):=by
 have hs:zBS qB i 0=[]:=rfl
 have ha:accL GB qB i 0=if b2 then[(3,0)]else[]:=by
  unfold accL;rw[show GB.rules.length=2 from rfl,r2]
 have hr:redL GB qB i 0=(if b0 then[(2,0)]else[])++(if b1 then[(2,1)]else[]):=by
  unfold redL;rw[show GB.rules.length=2 from rfl,show List.range 2=[0,1]from rfl];simp only[List.filter_cons,r0,r1,List.filter_nil];cases b0<;>cases b1<;>rfl
 unfold fstA actL;rw[hs,ha,hr];cases b0<;>cases b1<;>cases b2<;>rfl
theorem zT0:(endI GB 0∉clB 0/\endI GB 1∉clB 0/\endI GB 2∉clB 0)/\(endI GB 0∉clB 1/\endI GB 1∉clB 1/\endI GB 2∉clB 1)/\(endI GB 0∉clB 2/\endI GB 2∉clB 2)/\(endI GB 0∉clB 3/\endI GB 1∉clB 3)/\(endI GB 1∉clB 4/\endI GB 2∉clB 4):=by
 refine⟨⟨?_,?_,?_⟩,⟨?_,?_,?_⟩,⟨?_,?_⟩,⟨?_,?_⟩,?_,?_⟩<;>decide+kernel
theorem zM5:La GB qB 3 (2,1) 0:=.move (x:=(2,0)) .start (by decide+kernel) (by decide+kernel)
theorem zUZ(D:Done GB qB):∃x:Int×Int,(x=(0,0)\/x=(2,0))/\zCY GB qB=[[(0,0),(1,1),(1,2)],[(0,0),(1,1),(1,2)],[(2,1),(0,0),(0,0)],[(3,0),(0,0),(0,0)],[x,(0,0),(0,0)]]:=by
 obtain⟨⟨a0,a1,a2⟩,⟨b0,b1,b2⟩,⟨c0,c2⟩,⟨d0,d1⟩,e1,e2⟩:=zT0;have f0:=zEh (zBe D (t:=0) (by decide) a0) (zBe D (t:=0) (by decide) a1) (zBe D (t:=0) (by decide) a2);have f1:=zEh (zBe D (t:=0) (by decide) b0) (zBe D (t:=0) (by decide) b1) (zBe D (t:=0) (by decide) b2);have r21:redB GB qB 2 1 0=true:=zCQ.2 (by rw[show endI GB 1=(1,1)by decide+kernel];exact zT8);have f2:=zEh (zBe D (t:=0) (by decide) c0) r21 (zBe D (t:=0) (by decide) c2);have r32:redB GB qB 3 2 0=true:=zCQ.2 (by rw[show endI GB 2=(2,1)by decide+kernel];exact zM5);have f3:=zEh (zBe D (t:=0) (by decide) d0) (zBe D (t:=0) (by decide) d1) r32;have f4:=zEh (i:=4) rfl (zBe D (t:=0) (by decide) e1) (zBe D (t:=0) (by decide) e2);refine⟨fstA GB qB 4 0,?_,?_⟩
 ·rw[f4];cases redB GB qB 4 0 0<;>simp
 ·have hsh:∀i,i<5->∀t,t<3->0<t->(zBS qB i t).headD (0,0)=(([[(0,0),(1,1),(1,2)],[(0,0),(1,1),(1,2)],[(2,1),(0,0),(0,0)],[(3,0),(0,0),(0,0)],[(0,0),(0,0),(0,0)]]:List (List (Int×Int))).getD i []).getD t (9,9):=by decide+kernel
  unfold zCY;rw[show qB.1.length=5 from rfl,show GB.terms.length+1=3 from rfl,show List.range 5=[0,1,2,3,4]from rfl,show List.range 3=[0,1,2]from rfl];simp only[List.map_cons,List.map_nil];rw[f0,f1,f2,f3];simp only[zJZ D (t:=1) (by decide),zJZ D (t:=2) (by decide)];rw[hsh 0 (by decide) 1 (by decide) (by decide),hsh 0 (by decide) 2 (by decide) (by decide),hsh 1 (by decide) 1 (by decide) (by decide),hsh 1 (by decide) 2 (by decide) (by decide),hsh 2 (by decide) 1 (by decide) (by decide),hsh 2 (by decide) 2 (by decide) (by decide),hsh 3 (by decide) 1 (by decide) (by decide),hsh 3 (by decide) 2 (by decide) (by decide),hsh 4 (by decide) 1 (by decide) (by decide),hsh 4 (by decide) 2 (by decide) (by decide)]
  rfl
theorem zS0(D:Done GB qB):(zAx (zBc GB qB)).rows.length=4:=by
 obtain⟨x,hx,e⟩:=zUZ D;show(zAX (zAL (zBc GB qB))).length=4;have:zAL (zBc GB qB)=(zCY GB qB).map fun r=>r.map zBR:=rfl
 rw[this,e];rcases hx with rfl|rfl<;>decide+kernel
theorem zUK:(zAx (zBc GB qB)).row.length=5:=by
 show(idxs (zAL (zBc GB qB))).length=5;rw[zAU];unfold zAL;rw[List.length_map];exact(zBz GB qB).2.1
theorem zNJ{G:Gram}{q:Whole}(hv:Gr.checkN G=0)(D:Done G q)(hl:q.1.length<=2000)(h0:0<q.1.length):mayP (zBc G q)=true:=by
 obtain⟨e1,e2,_⟩:=zBz G q;have S:=(Fi.zA8 hv).r;unfold mayP;rw[Bool.and_eq_true,decide_eq_true_eq,e1,e2];exact⟨by omega,zOH hv D h0⟩
theorem zJn:mayP tb0=false:=by decide
theorem zJ3{α:Type}(z:α)(i:Int):pick [] z i=z:=zBX _ _ (by simp)
theorem zMP{α:Type}(z:α)(i k:Int):ent [] z i k=z:=by
 unfold ent;split<;>simp
structure Alike (T:Tb):Prop where
 act:∀i t,zIw (zBa T).1 i t=actP T i t
 goto:∀i s,zE6 (zBa T).1 i s=zCw T i s
 rows:(zBa T).1.rows.length<=T.acts.length
 gows:(zBa T).1.gows.length<=T.acts.length
 len:T.acts.length<=2000
theorem zKQ:Alike tb0:=by
 have e:zBa tb0=(pd0,false):=by
  unfold zBa;rw[zJn]
  rfl
 refine⟨fun i t=>?_,fun i s=>?_,?_,?_,by decide⟩
 ·rw[e];unfold zIw actP;show(if tm 0<t then(0,0)else zAb (pick (pick [] [] (pick [] (-1) i)) 0 t))=if tm 0<t then(0,0)else ent [] (0,0) i t;simp only[zJ3,zMP]
  rfl
 ·rw[e];unfold zE6 zCw;show(if s<=tm 0\/0<s-tm 0 then-1 else if((max ([]:List Int).length ([]:List Int).length:Nat):Int)<=toOf (pick (pick [] [] (pick [] (-1) i)) 0 (s-tm 0-1))then-1 else toOf (pick (pick [] [] (pick [] (-1) i)) 0 (s-tm 0-1)))=if s<=tm 0\/0<s-tm 0 then-1 else zDx (max ([]:List (List (Int×Int))).length ([]:List (List Int)).length) (ent [] (-1) i (s-tm 0-1));simp only[zJ3,zMP]
  rfl
 ·rw[e]
  decide
 ·rw[e]
  decide
theorem zLy{T:Tb}(hm:mayP T=true)(hl:T.acts.length<=2000):Alike T:=by
 have e:zBa T=(zAx T,true):=if_pos hm;have P:=zLJ hm;have k1:=zBN (zAL T);have k2:=zBN (zAO T);have hA:(zAL T).length=T.acts.length:=by simp[zAL]
 have hG:(zAO T).length=T.goto.length:=by simp[zAO]
 refine⟨fun i t=>?_,fun i s=>?_,?_,?_,hl⟩
 ·rw[e];exact zHo P i t
 ·rw[e];exact zF5 P i s
 ·rw[e];show(zAX (zAL T)).length<= _;omega
 ·rw[e];show(zAX (zAO T)).length<= _;have:=P.ga;omega
def zRa(w:World)(e:Ending)(w':World):Prop:=∃T er aR cR aA cA aG cG,e=.returned (.tuple #[.agg (tvs T aR cR aA cA aG cG),.int .i64 er])/\TAt T aR cR aA cA aG cG w'/\TSm T/\(zBa T).2=(er==0)/\Alike T/\Below w.heap.size w w'
theorem zUd:TSm tb0:=by
 refine⟨by decide,by decide,by decide,fun r hr=>?_,fun r hr=>?_,fun r hr=>?_⟩<;>cases hr
theorem zUc{G:Gram}{w w':World}{e:Ending}(h:OfGave G w e w')(tat0:TAt tb0 none 0 none 0 none 0 w'):zRa w e w':=by
 cases h with
 |no k1 k2 k3=>
  rename_i er
  have hne:er≠0:=by
   rcases zKI k1 with⟨_,h⟩|⟨_,_,_,_,_,h⟩
   ·exact h
   ·omega
  refine⟨tb0,er,none,0,none,0,none,0,k2,tat0,zUd,?_,zKQ,k3⟩;unfold zBa;rw[zJn];exact(by simpa using hne:(er==0)=false).symm
 |yes k1 k2 k3 k4 k5 k6 k7 k8 k9=>
  rename_i q aR aA aG cR cA cG;obtain⟨e1,e2,e3⟩:=zBz G q;have h0:0<q.1.length:=k2.ok.pos;have hm:=zNJ k1 k2 k3 h0;refine⟨zBc G q,0,aR,cR,aA,cA,aG,cG,?_,zRO k1 k2 k3 k8 (by omega),zRP k1 k3,?_,zLy hm (by omega),k9⟩
  ·rw[k7];unfold tvs tbc;rw[e1,e2,e3]
   rfl
  ·unfold zBa;rw[if_pos hm]
   rfl
end Pk
namespace Pk
open Gr (Sh GAt gv cell_later boxed checkN zAC zAR)
open Lk (qB zEi)
open Au
open Go.Proofs.YtkcaedinfnajaaaGreatDoor.Sep
open Ac (zT7 zQ8 zJa zGu zDX fstA)
def lwP(w:World):World:=
 ((((w.alloc (.cells #[.string ⟨#[65]⟩,.string ⟨#[66]⟩] 9)).alloc (.cells #[.string ⟨#[115]⟩] 9)).alloc (.cells #[.int .i64 1,.int .i64 3] 3)).alloc (.cells #[.int .i64 2] 3)).alloc
  (.cells #[.int .i64 3,.slice (some ⟨w.heap.size+1+1,0,none⟩) 2 2,.int .i64 3,.slice (some ⟨w.heap.size+1+1+1,0,none⟩) 1 1] 55)
theorem zPl(w:World):Below w.heap.size w (lwP w)/\GAt ⟨some ⟨w.heap.size,0,none⟩,2,some ⟨w.heap.size+1,0,none⟩,1,some ⟨w.heap.size+1+1+1+1,0,none⟩,2⟩ GB (lwP w):=by
 have hb:Below w.heap.size w (lwP w):=Gr.step (Gr.step (Gr.step (Gr.step (boxed _ _) (boxed _ _)) (boxed _ _)) (boxed _ _)) (boxed _ _);refine⟨hb,zT7 (b1:=w.heap.size+1+1) (b2:=w.heap.size+1+1+1) ?_ ?_ ?_ ?_ ?_ ?_ ?_ ?_ ?_ ?_⟩
 ·exact zAR (zAR (zAR (zAR (zAC rfl rfl))))
 ·exact zAR (zAR (zAR (zAR (zAC rfl rfl))))
 ·exact zAR (zAR (zAR (zAC (by simp) rfl)))
 ·exact zAC (by simp) rfl
 ·exact zAC (by simp) rfl
 ·exact zAC (by simp) rfl
 ·exact zAC (by simp) rfl
 ·exact zAR (zAR (zAC (by simp) rfl))
 ·exact zAR (zAR (zAC (by simp) rfl))
 ·exact zAR (zAC (by simp) rfl)
structure ExP (T:Tb):Prop where
 may:mayP T=true
 rows:(zAx T).rows.length=4
 row:(zAx T).row.length=5
 act:actP T 0 2=(1,2)
 goto:zCw T 0 3=3
 acts:T.acts.length=5
theorem zT4(D:Done GB qB)(hv:checkN GB=0):ExP (zBc GB qB):=by
 refine⟨zNJ hv D (by decide) (by decide),zS0 D,zUK,?_,?_,(zBz GB qB).2.1⟩
 ·have e:ent (zCY GB qB) (0,0) 0 2=fstA GB qB 0 2:=rfl;show(if tm 2<2 then(0,0)else ent (zCY GB qB) (0,0) 0 2)=(1,2);rw[e,zJa]
  rfl
 ·show(if(3:Int)<=tm 2\/(1:Int)<3-tm 2 then-1 else zDx (max (zCY GB qB).length (zEk GB qB).length) (ent (zEk GB qB) (-1) 0 (3-tm 2-1)))=3;have h1:(zCY GB qB).length=5:=(zBz GB qB).2.1;have h2:(zEk GB qB).length=5:=(zBz GB qB).2.2;rw[h1,h2]
  decide+kernel
def GotB(w:World)(e:Ending)(w':World):Prop:=∃T aR cR aA cA aG cG,e=.returned (.tuple #[.agg (tvs T aR cR aA cA aG cG),.int .i64 0])/\TAt T aR cR aA cA aG cG w'/\TSm T/\ExP T/\Below w.heap.size w w'
theorem of_b(h:Sh)(w:World)(k:GAt h GB w)(htab:Bt.Tab w):Calls Tryz.prog 14 #[gv h GB] w (GotB w):=
 (zDX h GB w k htab).mono fun e w' ho=>by
  cases ho with
  |no k1 k2 k3=>exact absurd (zQ8 k1).2.1.symm zGu
  |yes k1 k2 k3 k4 k5 k6 k7 k8 k9=>
   have e:=zEi k4 k2;subst e;exact⟨zBc GB qB,_,_,_,_,_,_,k7,zRO k1 k2 k3 k8 (by rw[(zBz GB qB).1];exact k6),zRP k1 k3,zT4 k2 k1,k9⟩
theorem zSA(x:Int)(v:Value)(w:World):(Instr.field 47 (.agg #[.int .i64 x,v]) 0).run Tryz.prog w=.ok (.int .i64 x) w:=by kernel_rfl
theorem zR9(v0 v1 v2 v3 v4:Value)(w:World):(Instr.field 26 (.agg #[v0,v1,v2,v3,v4]) 3).run Tryz.prog w=.ok v3 w:=by kernel_rfl
theorem zL0(W:World)(htab:Bt.Tab W):Calls Tryz.prog 6 #[] W (Gr.Is (.bool true) W):=by
 obtain⟨B0,K0⟩:=zPl W;have CO0:=of_b _ _ K0 (htab.below B0 htab.pos);have CO1:Calls Tryz.prog 14 #[.agg #[.slice (some ⟨W.heap.size,0,none⟩) 2 2,.slice (some ⟨W.heap.size+1,0,none⟩) 1 1,.slice (some ⟨W.heap.size+1+1+1+1,0,none⟩) 2 2,.int .i64 3]] (lwP W) (GotB (lwP W)):=CO0;obtain⟨wq,hwq⟩:∃wq,(lwP W).alloc (.cells #[.slice (some ⟨W.heap.size,0,none⟩) 2 2,.slice (some ⟨W.heap.size+1,0,none⟩) 1 1,.slice (some ⟨W.heap.size+1+1+1+1,0,none⟩) 2 2,.int .i64 3] 41)=wq:=⟨_,rfl⟩
 have hq:Below W.heap.size W wq:=by
  rw[←hwq];exact Gr.step B0 (boxed _ _)
 have KQ:GAt ⟨some ⟨W.heap.size,0,none⟩,2,some ⟨W.heap.size+1,0,none⟩,1,some ⟨W.heap.size+1+1+1+1,0,none⟩,2⟩ GB wq:=by
  rw[←hwq];exact K0.went (boxed _ _)
 have CO:=of_b _ wq KQ (htab.below hq htab.pos);have CO2:Calls Tryz.prog 14 #[.agg #[.slice (some ⟨W.heap.size,0,none⟩) 2 2,.slice (some ⟨W.heap.size+1,0,none⟩) 1 1,.slice (some ⟨W.heap.size+1+1+1+1,0,none⟩) 2 2,.int .i64 3]] wq (GotB wq):=CO;have BQ:=zVZ hq;have CB:=zVZ CO2;have g0:wq.cell? ⟨W.heap.size+1+1+1+1+1,0,none⟩=some (.slice (some ⟨W.heap.size,0,none⟩) 2 2):=by rw[←hwq];exact zAC (by simp[lwP]) rfl
 have g1:wq.cell? ⟨W.heap.size+1+1+1+1+1,1,none⟩=some (.slice (some ⟨W.heap.size+1,0,none⟩) 1 1):=by rw[←hwq];exact zAC (by simp[lwP]) rfl
 have g2:wq.cell? ⟨W.heap.size+1+1+1+1+1,2,none⟩=some (.slice (some ⟨W.heap.size+1+1+1+1,0,none⟩) 2 2):=by rw[←hwq];exact zAC (by simp[lwP]) rfl
 have g3:wq.cell? ⟨W.heap.size+1+1+1+1+1,3,none⟩=some (.int .i64 3):=by rw[←hwq];exact zAC (by simp[lwP]) rfl
 clear CO CO0 CO1 CO2 K0 KQ B0 hq htab;unfold lwP at hwq;go_enter Tryz.func6,Tryz.ntmps6;go_wp2_with fail;refine CB.out.mono ?_;rintro e w3 ⟨T,aR,cR,aA,cA,aG,cG,rfl,hT,hs,hx,hb⟩;have b4:=boxed w3 (.cells (tvs T aR cR aA cA aG cG) 26);have B4:=zVZ (Gr.step (Gr.step BQ.out hb) b4);have XX:=zVZ hx;have PA:=zVZ (zJy T aR cR aA cA aG cG _ (hT.went b4) hs hx.may);have SM:=zVZ (zSz hs);have UP:=zVZ (zLO (zLJ hx.may))
 have UN:unO (zAx T)=T:=by
  unfold unO;rw[if_pos UP.out];exact zTV (zLJ hx.may)
 have hpo:zBa T=(zAx T,true):=if_pos hx.may;obtain⟨z0,z1,z2,z3,z4⟩:=zA4 (T:=T) (aR:=aR) (cR:=cR) (aA:=aA) (cA:=cA) (aG:=aG) (cG:=cG) w3 26;have EA:=zVZ ((zHo (zLJ hx.may) 0 2).trans hx.act);have EG:=zVZ ((zF5 (zLJ hx.may) 0 3).trans hx.goto);have hr4:=hx.rows;have hr5:=hx.row;have HA5:=zVZ hx.acts;clear hwq g0 g1 g2 g3 hT hs hx hb b4 CB BQ XX;have hp1:zAx T=(zBa T).1:=by rw[hpo]
 have hp2:(zBa T).2=true:=by rw[hpo]
 rw[hp1]at SM UP UN EA EG hr4 hr5;have HR4:=zVZ hr4;have HR5:=zVZ hr5;have HP2:=zVZ hp2;clear hpo hp1 hr4 hr5 hp2;unfold tvs at*;go_wp2_with fail;generalize w3.alloc (.cells #[.slice aR T.rules.length cR,.int .i64 T.terms,.int .i64 T.nons,.slice aA T.acts.length cA,.slice aG T.goto.length cG] 26)=w4 at*;refine PA.out.mono ?_;rintro e w5 ⟨pR,qR,pW,qW,pX,qX,pG,qG,pH,qH,rfl,hP,hb⟩;have b6:=boxed w5 (.cells (pvs (zBa T).1 pR qR pW qW pX qX pG qG pH qH) 32);have B6:=zVZ (Gr.step (Gr.step B4.out hb) b6);have HP:=zVZ (hP.went b6);have ZP:=zVZ (zBO (P:=(zBa T).1) (aR:=pR) (cR:=qR) (aW:=pW) (cW:=qW) (aX:=pX) (cX:=qX) (aG:=pG) (cG:=qG) (aH:=pH) (cH:=qH) w5 32);rw[HP2.out];clear HP2 hP hb b6 z0 z1 z2 z3 z4 PA;generalize (zBa T).1=P at*;generalize hw6:w5.alloc (.cells (pvs P pR qR pW qW pX qX pG qG pH qH) 32)=w6 at*
 have AC:=zVZ (fun w1 (b:Below w6.heap.size w6 w1)=>by
  have h:=zJz P pR qR pW qW pX qX pG qG pH qH w1 (HP.out.went b) 0 2;rw[EA.out]at h;unfold pvs av at h;dsimp only at h
  exact h)
 have GO:=zVZ (fun w1 (b:Below w6.heap.size w6 w1)=>by
  have h:=zHq P pR qR pW qW pX qX pG qG pH qH w1 (HP.out.went b) 0 3 (by omega);rw[EG.out]at h;unfold pvs at h
  exact h)
 have RI:=zVZ (fun w1 (b:Below w6.heap.size w6 w1)=>by
  have h:=zF6 P pR qR pW qW pX qX pG qG pH qH w1 (HP.out.went b) SM.out;rw[UP.out]at h;unfold pvs at h
  exact h)
 have UU:=zVZ (fun w1 (b:Below w6.heap.size w6 w1)=>by
  have h:=zLb P pR qR pW qW pX qX pG qG pH qH w1 (HP.out.went b) SM.out UP.out;unfold pvs zJH at h;rw[UN]at h;unfold tvs at h;rw[HA5.out]at h
  exact h)
 obtain⟨y0,y1,y2,y3,y4,y5,y6⟩:=ZP.out;clear EA EG UN ZP;unfold pvs at*;have hw6:=zVZ hw6;have hr4:=HR4.out;have hr5:=HR5.out;clear HR4 HR5 HA5;generalize P.row.length=n5 at*;generalize P.rows.length=n4 at*;subst hr5 hr4
 have YW:=zVZ (show∀w1,Below w6.heap.size w6 w1->w1.cell? ⟨w5.heap.size,0,none⟩=some (.slice pR P.rules.length qR)/\w1.cell? ⟨w5.heap.size,1,none⟩=some (.int .i64 P.terms)/\w1.cell? ⟨w5.heap.size,2,none⟩=some (.int .i64 P.nons)/\w1.cell? ⟨w5.heap.size,3,none⟩=some (.slice pW 5 qW)/\w1.cell? ⟨w5.heap.size,4,none⟩=some (.slice pX 4 qX)/\w1.cell? ⟨w5.heap.size,5,none⟩=some (.slice pG P.gow.length qG)/\w1.cell? ⟨w5.heap.size,6,none⟩=some (.slice pH P.gows.length qH)from
  fun w1 hb=>⟨cell_later hb y0,cell_later hb y1,cell_later hb y2,cell_later hb y3,cell_later hb y4,cell_later hb y5,cell_later hb y6⟩)
 go_wp2_with fail;refine(AC.out _ (.refl _ _)).mono ?_;rintro e w7 ⟨rfl,hb⟩;have B7:=zVZ hb;clear hb y0 y1 y2 y3 y4 y5 y6 AC;obtain⟨y0,y1,y2,y3,y4,y5,y6⟩:=YW.out _ B7.out;have hf:=zSA;go_wp2_with fail;refine(GO.out _ B7.out).mono ?_;rintro e w8 ⟨rfl,hb⟩;have B8:=zVZ (Gr.step B7.out hb);clear hb y0 y1 y2 y3 y4 y5 y6 GO hf;obtain⟨y0,y1,y2,y3,y4,y5,y6⟩:=YW.out _ B8.out;go_wp2_with fail;refine(RI.out _ B8.out).mono ?_;rintro e w9 ⟨rfl,hb⟩;have B9:=zVZ (Gr.step B8.out hb);clear hb y0 y1 y2 y3 y4 y5 y6 RI;obtain⟨y0,y1,y2,y3,y4,y5,y6⟩:=YW.out _ B9.out;go_wp2_with fail;refine(UU.out _ B9.out).mono ?_;rintro e wa ⟨sR,tR,sA,tA,sG,tG,rfl,_,hb⟩;have BA:=zVZ (Gr.step B9.out hb);clear hb y0 y1 y2 y3 y4 y5 y6 UU;have hf:=zR9;go_wp2_with fail;go_ret;exact⟨rfl,Gr.step B6.out BA.out⟩
end Pk
namespace Pk
open Gr (Gram Sh gv GAt Bx boxed drawn cell_later zJq top)
theorem zQH(T:Tb)(aR:Option Addr)(cR:Nat)(aA:Option Addr)(cA:Nat)(aG:Option Addr)(cG:Nat)(w:World)(D:TAt T aR cR aA cA aG cG w)(S:TSm T):
  Calls Tryz.prog 7 #[.agg (tvs T aR cR aA cA aG cG)] w (zCF T w):=by
 cases h:mayP T with
 |false=>exact zSy T aR cR aA cA aG cG w D S h
 |true=>exact zJy T aR cR aA cA aG cG w D S h
theorem zQc(h:Sh)(G:Gram)(w:World)(k:GAt h G w)(htab:Bt.Tab w):
  Calls Tryz.prog 4 #[gv h G] w (Gr.Is (.bool true) w):=by
 have X0:=zVZ (Bx.start h G w 41);have MU:=zVZ (fun w1 (b:Below w.heap.size w w1)=>zJq h G w1 (k.went b));have OF:=zVZ (fun w1 (b:Below w.heap.size w w1)=>(Ac.zDX h G w1 (k.went b) (htab.below b htab.pos)).mono fun e w' ho=>zUc ho (tat0 w'));have TP:=zVZ (fun w1 (b:Below w.heap.size w w1)=>Gr.zQY h G w1 (k.went b));have AW:=zVZ (fun w1 (b:Below w.heap.size w w1)=>zL0 w1 (htab.below b htab.pos));have hr1:=k.t2;have hr2:=k.n2;have hr3:=k.r2;have hto:(top G:Int)=(G.terms.length:Int)+(G.nons.length:Int):=by unfold top;omega
 have HTO:=zVZ hto;clear k htab hto;obtain⟨x0,x1,x2,x3⟩:=X0.out.box;unfold gv at*;go_enter Tryz.func4,Tryz.ntmps4;go_wp2_with fail;refine(MU.out _ X0.out.below).mono ?_;rintro e w1 ⟨n,rfl,hn,hb⟩;have X1:=zVZ (X0.out.went hb);clear hb MU hn x0 x1 x2 x3 X0;obtain⟨x0,x1,x2,x3⟩:=X1.out.box
 by_cases hn9:60<n
 ·go_wp2_with (go_at_call 6;refine(AW.out _ X1.out.below).mono ?_;rintro e w2 ⟨rfl,hb⟩;have HB:=zVZ (Gr.step X1.out.below hb);clear hb);go_ret;exact⟨rfl,HB.out⟩
 go_wp2_with fail;refine(OF.out _ X1.out.below).mono ?_;rintro e w2 ⟨T,er,aR,cR,aA,cA,aG,cG,rfl,hT,hs,hok,hal,hb⟩;have b3:=boxed w2 (.cells (tvs T aR cR aA cA aG cG) 26);have X3:=zVZ ((X1.out.went hb).alloc (.cells (tvs T aR cR aA cA aG cG) 26));have Z3:=zVZ (zA4 (T:=T) (aR:=aR) (cR:=cR) (aA:=aA) (cA:=cA) (aG:=aG) (cG:=cG) w2 26);have T3:=zVZ (hT.went b3);have PK:=zVZ (zQH T aR cR aA cA aG cG _ (hT.went b3) hs);have AL:=zVZ hal;have OK:=zVZ hok;clear hT hs hok hal hb b3 x0 x1 x2 x3 X1 OF hn9;obtain⟨z0,z1,z2,z3,z4⟩:=Z3.out;unfold tvs at*;go_wp2_with fail;generalize w2.alloc (.cells #[.slice aR T.rules.length cR,.int .i64 T.terms,.int .i64 T.nons,.slice aA T.acts.length cA,.slice aG T.goto.length cG] 26)=w3 at*;have hpt:w2.heap.size<w3.heap.size:=World.block_lt_of_cell? w3 ⟨w2.heap.size,0,none⟩ z0;generalize w2.heap.size=pt at*;refine PK.out.mono ?_;rintro e w4 ⟨pR,qR,pW,qW,pX,qX,pG,qG,pH,qH,rfl,hP,hb⟩;have b5:=boxed w4 (.cells (pvs (zBa T).1 pR qR pW qW pX qX pG qG pH qH) 32);have X5:=zVZ ((X3.out.went hb).alloc (.cells (pvs (zBa T).1 pR qR pW qW pX qX pG qG pH qH) 32));have Z5:=zVZ ((Z3.out.went hb).went b5);have T5:=zVZ ((T3.out.went hb).went b5);have P5:=zVZ (hP.went b5);have Y5:=zVZ (zBO (P:=(zBa T).1) (aR:=pR) (cR:=qR) (aW:=pW) (cW:=qW) (aX:=pX) (cX:=qX) (aG:=pG) (cG:=qG) (aH:=pH) (cH:=qH) w4 32);clear hP hb b5 z0 z1 z2 z3 z4 PK X3 Z3 T3 hpt;obtain⟨b,hbo⟩:∃b,(zBa T).2=b:=⟨_,rfl⟩;rw[hbo]at OK;rw[hbo];clear hbo;have hl:=AL.out.len;have hrw:=AL.out.rows;have hgw:=AL.out.gows;have PA:=AL.out.act;have PG:=AL.out.goto;have PA:=zVZ PA;have PG:=zVZ PG;clear AL;generalize (zBa T).1=P at*;generalize hw5:w4.alloc (.cells (pvs P pR qR pW qW pX qX pG qG pH qH) 32)=w5 at*;have hw5:=zVZ hw5;obtain⟨z0,z1,z2,z3,z4⟩:=Z5.out;obtain⟨y0,y1,y2,y3,y4,y5,y6⟩:=Y5.out;have E1:=OK.out
 have E2:b=decide (er=0):=by
  rw[E1]
  by_cases h0:er=0<;>simp[h0]
 clear OK;unfold pvs at*
 have E3:(er=0/\b=true)\/(¬(er=0)/\(er==0)=false/\b=false):=by
  by_cases h0:er=0
  ·exact .inl ⟨h0,by rw[E2];simp[h0]⟩
  ·exact .inr ⟨h0,by simp[h0],by rw[E2];simp[h0]⟩
 clear E1 E2;clear hw5;rcases E3 with⟨rfl,rfl⟩|⟨h0,hef,rfl⟩
 all_goals
  go_wp2_with fail;generalize w4.heap.size=pp at*;clear z0 z1 z2 z3 z4 y0 y1 y2 y3 y4 y5 y6;go_loopw [7] (fun v wr=>∃i:Int,v=.int .i64 i/\ -1<=i/\i<=(T.acts.length:Int)+1/\Below w5.heap.size w5 wr) (fun v _=>((T.acts.length:Int)+1-intOf v).toNat)
  case atStart=>exact⟨-1,rfl,by omega,by omega,.refl _ _⟩
  case round=>
   obtain⟨i,rfl,hi0,hi1,hB6⟩:=hrel;have B6:=zVZ hB6;clear hB6
   by_cases hlt:i<=(T.acts.length:Int)
   ·obtain⟨z0,z1,z2,z3,z4⟩:=Z5.out.went B6.out;go_wp2_with fail;clear z0 z1 z2 z3 z4;generalize wr=w6 at*;go_loopw [8] (fun v wz=>∃s:Int,v=.int .i64 s/\ -1<=s/\s<=(top G:Int)+2/\Below w6.heap.size w6 wz) (fun v _=>((top G:Int)+2-intOf v).toNat)
    case atStart=>exact⟨-1,rfl,by omega,by have:=HTO.out;omega,.refl _ _⟩
    case round=>
     obtain⟨s,rfl,hs0,hs1,hB8⟩:=hrel;have hto:=HTO.out;have B8:=zVZ (Gr.step B6.out hB8);have B68:=zVZ hB8;have X8:=zVZ (X5.out.went B8.out);clear hB8;have hw1:IntKind.i64.wrap ((top G:Int)+1)=(top G:Int)+1:=by rw[IntKind.wrap_i64];omega
     obtain⟨x0,x1,x2,x3⟩:=X8.out.box
     by_cases hst:s<=(top G:Int)+1
     ·go_wp2_with (go_at_call 15;refine(TP.out _ X8.out.below).mono ?_;rintro e w9 ⟨rfl,hb⟩;have C9:=zVZ hb;clear hb);have B9:=zVZ (Gr.step B8.out C9.out);have B69:=zVZ (Gr.step B68.out C9.out);have hs9:s<=9223372036854775807:=by omega
      have A1:=fun w1 (b:Below w9.heap.size w9 w1)=>zRc T aR cR aA cA aG cG w1 ((T5.out.went B9.out).went b) i s
      have A2:=fun w1 (b:Below w9.heap.size w9 w1)=>zJz P pR qR pW qW pX qX pG qG pH qH w1 ((P5.out.went B9.out).went b) i s
      have A3:=fun w1 (b:Below w9.heap.size w9 w1)=>zDP T aR cR aA cA aG cG w1 ((T5.out.went B9.out).went b) i s hs9
      have A4:=fun w1 (b:Below w9.heap.size w9 w1)=>zHq P pR qR pW qW pX qX pG qG pH qH w1 ((P5.out.went B9.out).went b) i s hs9
      simp only[PA.out,PG.out]at A2 A4;unfold tvs at A1 A3;unfold pvs at A2 A4;unfold av at A1 A2;generalize actP T i s=x at A1 A2;generalize zCw T i s=y at A3 A4;obtain⟨v1,v2⟩:=x;dsimp only at A1 A2;have A1:=zVZ A1;have A2:=zVZ A2;have A3:=zVZ A3;have A4:=zVZ A4;have HT9:=zVZ (Z5.out.went B9.out);have HP9:=zVZ (Y5.out.went B9.out);have HN:=zVZ (show-1<=s+1/\s+1<=(top G:Int)+2 from⟨by omega,by omega⟩);have hw2:IntKind.i64.wrap (s+1)=s+1:=by rw[IntKind.wrap_i64];omega
      obtain⟨z0,z1,z2,z3,z4⟩:=HT9.out;obtain⟨y0,y1,y2,y3,y4,y5,y6⟩:=HP9.out
      have HQ:=zVZ (show∀w',Below w9.heap.size w9 w'->w'.cell? ⟨pt,0,none⟩=some (.slice aR T.rules.length cR)/\w'.cell? ⟨pt,1,none⟩=some (.int .i64 T.terms)/\w'.cell? ⟨pt,2,none⟩=some (.int .i64 T.nons)/\w'.cell? ⟨pt,3,none⟩=some (.slice aA T.acts.length cA)/\w'.cell? ⟨pt,4,none⟩=some (.slice aG T.goto.length cG)/\
        w'.cell? ⟨pp,0,none⟩=some (.slice pR P.rules.length qR)/\w'.cell? ⟨pp,1,none⟩=some (.int .i64 P.terms)/\w'.cell? ⟨pp,2,none⟩=some (.int .i64 P.nons)/\w'.cell? ⟨pp,3,none⟩=some (.slice pW P.row.length qW)/\w'.cell? ⟨pp,4,none⟩=some (.slice pX P.rows.length qX)/\w'.cell? ⟨pp,5,none⟩=some (.slice pG P.gow.length qG)/\w'.cell? ⟨pp,6,none⟩=some (.slice pH P.gows.length qH)/\Below w9.heap.size w9 w' from
       fun w' hb=>⟨cell_later hb z0,cell_later hb z1,cell_later hb z2,cell_later hb z3,cell_later hb z4,cell_later hb y0,cell_later hb y1,cell_later hb y2,cell_later hb y3,cell_later hb y4,cell_later hb y5,cell_later hb y6,hb⟩)
      have hbd:=drawn w9;clear HT9 HP9 x0 x1 x2 x3 hto hs9 hs0 hs1 hst hi0 hi1 hlt hl hrw hgw hr1 hr2 hr3 hw1
      go_region_held3 (fun w'=>w'.cell? ⟨pt,0,none⟩=some (.slice aR T.rules.length cR)/\w'.cell? ⟨pt,1,none⟩=some (.int .i64 T.terms)/\w'.cell? ⟨pt,2,none⟩=some (.int .i64 T.nons)/\w'.cell? ⟨pt,3,none⟩=some (.slice aA T.acts.length cA)/\w'.cell? ⟨pt,4,none⟩=some (.slice aG T.goto.length cG)/\
        w'.cell? ⟨pp,0,none⟩=some (.slice pR P.rules.length qR)/\w'.cell? ⟨pp,1,none⟩=some (.int .i64 P.terms)/\w'.cell? ⟨pp,2,none⟩=some (.int .i64 P.nons)/\w'.cell? ⟨pp,3,none⟩=some (.slice pW P.row.length qW)/\w'.cell? ⟨pp,4,none⟩=some (.slice pX P.rows.length qX)/\w'.cell? ⟨pp,5,none⟩=some (.slice pG P.gow.length qG)/\w'.cell? ⟨pp,6,none⟩=some (.slice pH P.gows.length qH)/\Below w9.heap.size w9 w')
       (exact HQ.out _ (by with_reducible assumption))
       (first
        |(go_at_call 16;(with_reducible refine(A2.out _ (by with_reducible assumption)).mono ?_);rintro e wa ⟨rfl,hb⟩;have kA:Below w9.heap.size w9 wa:=Gr.step (by with_reducible assumption) hb;clear hb)
        |(go_at_call 17;(with_reducible refine(A1.out _ (by with_reducible assumption)).mono ?_);rintro e wb ⟨rfl,hb⟩;have kB:Below w9.heap.size w9 wb:=Gr.step (by with_reducible assumption) hb;clear hb)
        |(go_at_call 18;(with_reducible refine(A4.out _ (by with_reducible assumption)).mono ?_);rintro e wc ⟨rfl,hb⟩;have kC:Below w9.heap.size w9 wc:=Gr.step (by with_reducible assumption) hb;clear hb)
        |(go_at_call 19;(with_reducible refine(A3.out _ (by with_reducible assumption)).mono ?_);rintro e wd ⟨rfl,hb⟩;have kD:Below w9.heap.size w9 wd:=Gr.step (by with_reducible assumption) hb;clear hb)
        |fail)
      all_goals
       go_wp2_with fail;go_roundw
       case rel=>exact⟨s+1,by go_num,HN.out.1,HN.out.2,Gr.step B69.out (by with_reducible assumption)⟩
       case measure=>have:=HN.out;first|(simp[intOf];omega)|omega
     ·have hse:s=(top G:Int)+2:=by omega
      subst hse;go_wp2_with (go_at_call 15;refine(TP.out _ X8.out.below).mono ?_;rintro e w9 ⟨rfl,hb⟩;have C9:=zVZ hb;clear hb);have hw2:IntKind.i64.wrap (i+1)=i+1:=by rw[IntKind.wrap_i64];omega
      go_roundw
      case rel=>exact⟨i+1,by go_num,by omega,by omega,Gr.step B8.out C9.out⟩
      case measure=>first|(simp[intOf];omega)|omega
   ·have hie:i=(T.acts.length:Int)+1:=by omega
    subst hie;have X6:=zVZ (X5.out.went B6.out);obtain⟨z0,z1,z2,z3,z4⟩:=Z5.out.went B6.out;obtain⟨y0,y1,y2,y3,y4,y5,y6⟩:=Y5.out.went B6.out;have hrw1:(P.rows.length:Int)<=(T.acts.length:Int):=by omega
    have hgw1:(P.gows.length:Int)<=(T.acts.length:Int):=by omega
    go_wp2_with (go_at_call 6;refine(AW.out _ X6.out.below).mono ?_;rintro e w7 ⟨rfl,hb⟩;have HB:=zVZ (Gr.step X6.out.below hb);clear hb);go_ret;exact⟨rfl,HB.out⟩
