/- A part of the proof. -/
import Derived.Test.YtegeamggbglneaaGreatDoorPk47
import Derived.Test.YtegeamggbglneaaGreatDoorPk48
import Derived.Test.YtegeamggbglneaaGreatDoorPk50
set_option maxHeartbeats 8000000
set_option maxRecDepth 100000
set_option linter.unusedVariables false
namespace Go.Proofs.YtegeamggbglneaaGreatDoor
open Go.RowKit Go.Maps
namespace Ac
open Gr (GAt)
open Lk (fitz)
open Au
open Go.Proofs.YtegeamggbglneaaGreatDoor.Sep
theorem zKo{G}{q}:tabL G q≠tab0:=fun e=>by
 have h:=congrArg Tb5.rules e;simp[tabL,tab0]at h
theorem zUb{w}{bt bn br b1 b2}(t0:w.cell? ⟨bt,0,none⟩=some (.string ⟨#[65]⟩))(t1:w.cell? ⟨bt,1,none⟩=some (.string ⟨#[66]⟩))(n0:w.cell? ⟨bn,0,none⟩=some (.string ⟨#[115]⟩))
  (r0:w.cell? ⟨br,0,none⟩=some (.int .i64 3)) (r1:w.cell? ⟨br,1,none⟩=some (.slice (some ⟨b1,0,none⟩) 2 2)) (r2:w.cell? ⟨br,2,none⟩=some (.int .i64 3)) (r3:w.cell? ⟨br,3,none⟩=some (.slice (some ⟨b2,0,none⟩) 1 1))
  (c0:w.cell? ⟨b1,0,none⟩=some (.int .i64 1)) (c1:w.cell? ⟨b1,1,none⟩=some (.int .i64 3)) (d0:w.cell? ⟨b2,0,none⟩=some (.int .i64 2)):
  GAt ⟨some ⟨bt,0,none⟩,2,some ⟨bn,0,none⟩,1,some ⟨br,0,none⟩,2⟩ GB w:=by
 refine⟨fun i hi=>?_,fun i hi=>?_,fun i hi=>?_,by simp[GB],by simp[GB],by simp[GB],by simp[GB],by simp[GB],⟨?_,?_,fitz _ (by decide) (by decide),?_,?_⟩⟩
 ·have h2:i<2:=hi;refine⟨bt,0,rfl,?_⟩;have:i=0\/i=1:=by omega
  rcases this with rfl|rfl
  ·exact t0
  ·exact t1
 ·have h2:i<1:=hi;refine⟨bn,0,rfl,?_⟩;obtain rfl:i=0:=by omega
  exact n0
 ·have h2:i<2:=hi;have:i=0\/i=1:=by omega
  rcases this with rfl|rfl
  ·refine⟨br,0,some ⟨b1,0,none⟩,2,rfl,r0,r1,fun j hj=>?_,by simp[GB],by simp[GB]⟩;have h3:j<2:=hj;refine⟨b1,0,rfl,?_⟩;have:j=0\/j=1:=by omega
   rcases this with rfl|rfl
   ·exact c0
   ·exact c1
  ·refine⟨br,0,some ⟨b2,0,none⟩,1,rfl,r2,r3,fun j hj=>?_,by simp[GB],by simp[GB]⟩;have h3:j<1:=hj;obtain rfl:j=0:=by omega
   exact⟨b2,0,rfl,d0⟩
 ·intro s hs;simp only[GB,List.mem_cons,List.not_mem_nil,or_false]at hs;rcases hs with rfl|rfl<;>simp[ByteArray.size]
 ·intro s hs;simp only[GB,List.mem_cons,List.not_mem_nil,or_false]at hs;subst hs;simp[ByteArray.size]
 ·intro r hr;simp only[GB,List.mem_cons,List.not_mem_nil,or_false]at hr;rcases hr with rfl|rfl<;>exact fitz _ (by decide) (by decide)
 ·intro r hr x hx;simp only[GB,List.mem_cons,List.not_mem_nil,or_false]at hr;rcases hr with rfl|rfl
  ·simp only[List.mem_cons,List.not_mem_nil,or_false]at hx;rcases hx with rfl|rfl<;>exact fitz _ (by decide) (by decide)
  ·simp only[List.mem_cons,List.not_mem_nil,or_false]at hx;subst hx;exact fitz _ (by decide) (by decide)
end Ac
namespace Pk
open Gr (Gram Fits zAF checkN top)
open Au (Whole leads Done)
open Ac (TabR fstA tgtV zJU)
open Im (ItsA)
noncomputable def zCl(G:Gram)(q:Whole):List (List (Int×Int)):=(List.range q.1.length).map fun i=>(List.range (G.terms.length+1)).map fun t=>fstA G q i t
def zFG(G:Gram)(q:Whole):List (List Int):=(List.range q.1.length).map fun i=>(List.range G.nons.length).map fun k=>leads (q.2.getD i []) ((G.terms.length+1+k:Nat):Int)
noncomputable def zBk(G:Gram)(q:Whole):Tb:=⟨(List.range (G.rules.length+1)).map fun j:Nat=>zAF G (j:Int),(G.terms.length:Int),(G.nons.length:Int),zCl G q,zFG G q⟩
section
variable {G:Gram} {q:Whole}
theorem zCd(G)(q):(zBk G q).rules.length=G.rules.length+1/\(zBk G q).acts.length=q.1.length/\(zBk G q).goto.length=q.1.length:=by
 simp[zBk,zCl,zFG]
theorem zGl{r}(h:r∈zCl G q):∃i,i<q.1.length/\r=(List.range (G.terms.length+1)).map fun t=>fstA G q i t:=by
 obtain⟨i,hi,e⟩:=List.mem_map.1 h;exact⟨i,List.mem_range.1 hi,e.symm⟩
theorem zGx{r}(h:r∈zFG G q):∃i,i<q.1.length/\r=(List.range G.nons.length).map fun k=>leads (q.2.getD i []) ((G.terms.length+1+k:Nat):Int):=by
 obtain⟨i,hi,e⟩:=List.mem_map.1 h;exact⟨i,List.mem_range.1 hi,e.symm⟩
theorem zHM{r}(h:r∈(zBk G q).rules):∃j,j<=G.rules.length/\r=zAF G (j:Int):=by
 obtain⟨i,hi,e⟩:=List.mem_map.1 h;exact⟨i,by have:=List.mem_range.1 hi;omega,e.symm⟩
theorem zDC(hv:checkN G=0){j}(hj:j<=G.rules.length):(0<=(zAF G (j:Int)).1/\(zAF G (j:Int)).1<=(top G:Int))/\(zAF G (j:Int)).2.length<=8/\∀x∈(zAF G (j:Int)).2,0<=x/\x<=(top G:Int):=by
 have S:=Fi.zBG hv;refine⟨?_,?_⟩
 ·rcases Lk.zBB hv hj with⟨_,e⟩|⟨_,h1,h2⟩
  ·rw[e];omega
  ·omega
 ·by_cases e:j=G.rules.length
  ·subst e;rw[(Gr.zA1 G).2];refine⟨by simp,fun x hx=>?_⟩;rw[List.mem_singleton]at hx;subst hx;have:=Gr.zAa.1 (Fi.zIc S.known);unfold top;omega
  ·have hl:j<G.rules.length:=by omega
   rw[(Gr.zBM hl).2];have hm:=List.getElem_mem hl;refine⟨S.w _ hm,fun x hx=>?_⟩;have:=Fi.zKa S.known hm hx;omega
theorem zCw(hv:checkN G=0):top G<=240:=by
 have S:=Fi.zBG hv;have h1:=S.t;have h2:=S.n;unfold top;omega
theorem zTr(hv:checkN G=0)(D:Done G q)(hl:q.1.length<=2000):TFit (zBk G q):=by
 have S:=Fi.zBG hv;have ht:=zCw hv;have h1:=S.t;have h2:=S.n;have h3:=S.r;refine⟨?_,?_,fun r hr=>?_,fun r hr x hx=>?_,fun r hr x hx=>?_,fun r hr x hx=>?_⟩
 ·show Fits (G.terms.length:Int);unfold Fits;omega
 ·show Fits (G.nons.length:Int);unfold Fits;omega
 ·obtain⟨j,hj,rfl⟩:=zHM hr;have:=(zDC hv hj).1;unfold Fits;omega
 ·obtain⟨j,hj,rfl⟩:=zHM hr;have:=(zDC hv hj).2.2 x hx;unfold Fits;omega
 ·obtain⟨i,hi,rfl⟩:=zGl hr;obtain⟨t,_,rfl⟩:=List.mem_map.1 hx;unfold Fits;rcases Ac.zHz D hi t with e|⟨n,hn,e⟩|e|⟨n,hn,e⟩<;>rw[e]<;>dsimp only<;>omega
 ·obtain⟨i,hi,rfl⟩:=zGx hr;obtain⟨k,_,rfl⟩:=List.mem_map.1 hx;unfold Fits;rcases Ac.zEF D hi ((G.terms.length+1+k:Nat):Int)with e|⟨n,e,hn,_⟩<;>rw[e]<;>omega
theorem zU8(hv:checkN G=0)(hl:q.1.length<=2000):TSm (zBk G q):=by
 have S:=Fi.zBG hv;have h1:=S.t;have h2:=S.n;have h3:=S.r;obtain⟨e1,e2,e3⟩:=zCd G q;refine⟨by omega,by omega,by omega,fun r hr=>?_,fun r hr=>?_,fun r hr=>?_⟩
 ·obtain⟨j,hj,rfl⟩:=zHM hr;have:=(zDC hv hj).2.1;omega
 ·obtain⟨i,hi,rfl⟩:=zGl hr;rw[List.length_map,List.length_range];omega
 ·obtain⟨i,hi,rfl⟩:=zGx hr;rw[List.length_map,List.length_range];omega
theorem zOl(hv:checkN G=0)(D:Done G q)(h0:0<q.1.length):zAI (zBk G q)=true:=by
 obtain⟨e1,e2,e3⟩:=zCd G q;have S:=Fi.zBG hv;simp only[zAI,zF3,zEg,zEi,zB4,Bool.and_eq_true,decide_eq_true_eq,List.all_eq_true,zDJ,okTo,e1,e2,e3];refine⟨⟨Nat.succ_pos _,h0,trivial,Int.natCast_nonneg _,Int.natCast_nonneg _⟩,fun r hr=>?_,fun r hr=>?_,fun r hr=>?_⟩
 ·obtain⟨i,hi,rfl⟩:=zGl hr;refine⟨?_,fun x hx=>?_⟩
  ·rw[List.length_map,List.length_range];show _=(G.terms.length:Int);omega
  ·obtain⟨t,_,rfl⟩:=List.mem_map.1 hx;unfold okA;rw[decide_eq_true_eq];rcases Ac.zHz D hi t with e|⟨n,hn,e⟩|e|⟨n,hn,e⟩<;>rw[e]<;>dsimp only<;>omega
 ·obtain⟨i,hi,rfl⟩:=zGx hr;refine⟨?_,fun x hx=>?_⟩
  ·rw[List.length_map,List.length_range]
   rfl
  ·obtain⟨k,_,rfl⟩:=List.mem_map.1 hx;unfold okT;rw[decide_eq_true_eq];rcases Ac.zEF D hi ((G.terms.length+1+k:Nat):Int)with e|⟨n,e,hn,_⟩<;>rw[e]<;>omega
 ·unfold zBk at hr;simp only[Nat.add_sub_cancel]at hr;rw[←List.map_take,List.take_range,Nat.min_eq_left (Nat.le_succ _)]at hr;obtain⟨j,hj,rfl⟩:=List.mem_map.1 hr;have hj:=List.mem_range.1 hj;unfold okL;rw[decide_eq_true_eq];show(G.terms.length:Int)<_/\_-(G.terms.length:Int)<=(G.nons.length:Int);rcases Lk.zBB hv (Nat.le_of_lt hj)with⟨e,_⟩|⟨_,h1,h2⟩
  ·omega
  ·unfold top at h2;omega
theorem zS0{b o}{X:List (Int×Int)}{w}(h:∀j (hj:j<X.length),w.cell? ⟨b,o+j*2,none⟩=some (.int .i64 X[j].1)/\w.cell? ⟨b,o+j*2+1,none⟩=some (.int .i64 X[j].2)):ItsA (some ⟨b,o,none⟩) X w:=fun i hi=>by
 have hl:=Im.zAe X;refine⟨b,o,rfl,?_⟩;have hj:i / 2<X.length:=by omega
 obtain⟨h0,h1⟩:=h (i / 2) hj;have hr:i % 2=0\/i % 2=1:=by omega
 rcases hr with hr|hr
 ·have g:=Rw.zBT Im.ic Im.zA6 X (i / 2) hj 0 (by omega);have e:i / 2*2+0=i:=by omega
  rw[e,List.getElem?_eq_getElem (by omega)]at g;rw[show o+i=o+i / 2*2 by omega,h0];rw[←Option.some.injEq]at g;exact congrArg some (by simpa[Im.ic]using g.symm)
 ·have g:=Rw.zBT Im.ic Im.zA6 X (i / 2) hj 1 (by omega);have e:i / 2*2+1=i:=by omega
  rw[e,List.getElem?_eq_getElem (by omega)]at g;rw[show o+i=o+i / 2*2+1 by omega,h1];rw[←Option.some.injEq]at g;exact congrArg some (by simpa[Im.ic]using g.symm)
theorem zU7{aR aA aG}{cR cA cG}{w}(hv:checkN G=0)(D:Done G q)(hl:q.1.length<=2000)(h:TabR G q aR aA aG w)(h1:(zBk G q).rules.length<=cR):TAt (zBk G q) aR cR aA cA aG cG w:=by
 obtain⟨e1,e2,e3⟩:=zCd G q;have S:=Fi.zBG hv;have s1:=S.t;have s2:=S.n;have s3:=S.r;refine⟨fun i hi=>?_,fun i hi=>?_,fun i hi=>?_,h1,by omega,by omega,by omega,zTr hv D hl⟩
 ·rw[e1]at hi;obtain⟨b,a3,c3,e,p0,p1,p2,_,_⟩:=h.rules i hi;have hr:(zBk G q).rules[i]=zAF G (i:Int):=by simp[zBk]
  rw[hr];have hs:=(zDC hv (j:=i) (by omega)).2.1;refine⟨b,0,a3,c3,e,?_,?_,p2,by omega⟩
  ·rw[Nat.zero_add];exact p0
  ·rw[Nat.zero_add];exact p1
 ·rw[e2]at hi;obtain⟨b,c,e,p0,p1,_,_⟩:=h.acts i hi;have hr:(zBk G q).acts[i]=(List.range (G.terms.length+1)).map fun t=>fstA G q i t:=by simp[zBk,zCl]
  rw[hr,List.length_map,List.length_range];refine⟨b,0,_,_,e,by rw[Nat.zero_add];exact p0,?_,Nat.le_refl _,by omega⟩;refine zS0 fun j hj=>?_
  rw[List.length_map,List.length_range]at hj;rw[List.getElem_map,List.getElem_range];have q0:=p1.cell (j:=j*2) (by omega);have q1:=p1.cell (j:=j*2+1) (by omega);rw[zJU.1]at q0;rw[zJU.2]at q1;exact⟨by rw[Nat.zero_add];exact q0,by rw[Nat.zero_add];exact q1⟩
 ·rw[e3]at hi;obtain⟨b,c,e,p0,p1,_,_⟩:=h.goto i hi;have hr:(zBk G q).goto[i]=(List.range G.nons.length).map fun k=>leads (q.2.getD i []) ((G.terms.length+1+k:Nat):Int):=by simp[zBk,zFG]
  rw[hr,List.length_map,List.length_range];refine⟨b,0,_,_,e,by rw[Nat.zero_add];exact p0,fun j hj=>?_,Nat.le_refl _,by omega⟩;simp only[List.length_map,List.length_range]at hj;refine⟨c,0,rfl,?_⟩;have q0:=p1.cell hj;rw[Nat.zero_add,q0];simp[tgtV]
theorem zN6{T}(h:TSm T):PSm (zAq T):=by
 have hA:(zAJ T).length=T.acts.length:=by simp[zAJ]
 have hG:(zAL T).length=T.goto.length:=by simp[zAL]
 have k1:=zA3 (zAJ T);have k2:=zA3 (zAL T);have k3:=h.al;have k4:=h.gl;refine⟨h.rl,?_,?_,?_,?_,h.rr,fun r hr=>?_,fun r hr=>?_⟩
 ·show(idxs (zAJ T)).length<= _;rw[zAQ];omega
 ·show(idxs (zAL T)).length<= _;rw[zAQ];omega
 ·show(zAP (zAJ T)).length<= _;omega
 ·show(zAP (zAL T)).length<= _;omega
 ·have hr:r∈zAP (zAJ T):=hr;rw[zBf]at hr;obtain⟨a,ha,rfl⟩:=List.mem_map.1 hr;rw[List.length_map];exact h.ar a ha
 ·have hr:r∈zAP (zAL T):=hr;rw[zBf]at hr;obtain⟨a,ha,rfl⟩:=List.mem_map.1 hr;rw[List.length_map];exact h.gr a ha
end
end Pk
namespace Pk
open Im
open Au
open Ac (fstA actL zBY accL redL redB zCa clB zMY)
open Lk (La zDo endI qB zGu zUc)
theorem zKZ(D:Done GB qB){i k t}(ht:0<t):redB GB qB i k t=false:=by
 cases e:redB GB qB i k t with
 |false=>rfl
 |true=>
  have:=zGu D (zCa.1 e);omega
theorem zBi(D:Done GB qB){i k t}(hi:i<5)(hk:endI GB k∉clB i):redB GB qB i k t=false:=by
 cases e:redB GB qB i k t with
 |false=>rfl
 |true=>exact absurd (((zMY hi).2 _).2 (zDo D zC5 (zCa.1 e)).2) hk
theorem zJ4(D:Done GB qB){i t}(ht:0<t):fstA GB qB i t=(zBY qB i t).headD (0,0):=by
 have h1:accL GB qB i t=[]:=by
  unfold accL;rw[zKZ D ht]
  rfl
 have h2:redL GB qB i t=[]:=by
  unfold redL;rw[show GB.rules.length=2 from rfl,show List.range 2=[0,1]from rfl];simp only[List.filter_cons,zKZ D ht,List.filter_nil]
  rfl
 unfold fstA actL;rw[h1,h2,List.append_nil,List.append_nil]
theorem zFD{i}{b0 b1 b2}(r0:redB GB qB i 0 0=b0)(r1:redB GB qB i 1 0=b1)(r2:redB GB qB i 2 0=b2):fstA GB qB i 0=if b2 then(3,0)else if b0 then(2,0)else if b1 then(2,1)else(0,0):=by
 have hs:zBY qB i 0=[]:=rfl
 have ha:accL GB qB i 0=if b2 then[(3,0)]else[]:=by
  unfold accL;rw[show GB.rules.length=2 from rfl,r2]
 have hr:redL GB qB i 0=(if b0 then[(2,0)]else[])++(if b1 then[(2,1)]else[]):=by
  unfold redL;rw[show GB.rules.length=2 from rfl,show List.range 2=[0,1]from rfl];simp only[List.filter_cons,r0,r1,List.filter_nil];cases b0<;>cases b1<;>rfl
 unfold fstA actL;rw[hs,ha,hr];cases b0<;>cases b1<;>cases b2<;>rfl
theorem zUT:(endI GB 0∉clB 0/\endI GB 1∉clB 0/\endI GB 2∉clB 0)/\(endI GB 0∉clB 1/\endI GB 1∉clB 1/\endI GB 2∉clB 1)/\(endI GB 0∉clB 2/\endI GB 2∉clB 2)/\(endI GB 0∉clB 3/\endI GB 1∉clB 3)/\(endI GB 1∉clB 4/\endI GB 2∉clB 4):=by
 refine⟨⟨?_,?_,?_⟩,⟨?_,?_,?_⟩,⟨?_,?_⟩,⟨?_,?_⟩,?_,?_⟩<;>decide+kernel
theorem zNS:La GB qB 3 (2,1) 0:=.move (x:=(2,0)) .start (by decide+kernel) (by decide+kernel)
theorem zU4(D:Done GB qB):∃x:Int×Int,(x=(0,0)\/x=(2,0))/\zCl GB qB=[[(0,0),(1,1),(1,2)],[(0,0),(1,1),(1,2)],[(2,1),(0,0),(0,0)],[(3,0),(0,0),(0,0)],[x,(0,0),(0,0)]]:=by
 obtain⟨⟨a0,a1,a2⟩,⟨b0,b1,b2⟩,⟨c0,c2⟩,⟨d0,d1⟩,e1,e2⟩:=zUT;have f0:=zFD (zBi D (t:=0) (by decide) a0) (zBi D (t:=0) (by decide) a1) (zBi D (t:=0) (by decide) a2);have f1:=zFD (zBi D (t:=0) (by decide) b0) (zBi D (t:=0) (by decide) b1) (zBi D (t:=0) (by decide) b2);have r21:redB GB qB 2 1 0=true:=zCa.2 (by rw[show endI GB 1=(1,1)by decide+kernel];exact zUc);have f2:=zFD (zBi D (t:=0) (by decide) c0) r21 (zBi D (t:=0) (by decide) c2);have r32:redB GB qB 3 2 0=true:=zCa.2 (by rw[show endI GB 2=(2,1)by decide+kernel];exact zNS);have f3:=zFD (zBi D (t:=0) (by decide) d0) (zBi D (t:=0) (by decide) d1) r32;have f4:=zFD (i:=4) rfl (zBi D (t:=0) (by decide) e1) (zBi D (t:=0) (by decide) e2);refine⟨fstA GB qB 4 0,?_,?_⟩
 ·rw[f4];cases redB GB qB 4 0 0<;>simp
 ·have hsh:∀i,i<5->∀t,t<3->0<t->(zBY qB i t).headD (0,0)=(([[(0,0),(1,1),(1,2)],[(0,0),(1,1),(1,2)],[(2,1),(0,0),(0,0)],[(3,0),(0,0),(0,0)],[(0,0),(0,0),(0,0)]]:List (List (Int×Int))).getD i []).getD t (9,9):=by decide+kernel
  unfold zCl;rw[show qB.1.length=5 from rfl,show GB.terms.length+1=3 from rfl,show List.range 5=[0,1,2,3,4]from rfl,show List.range 3=[0,1,2]from rfl];simp only[List.map_cons,List.map_nil];rw[f0,f1,f2,f3];simp only[zJ4 D (t:=1) (by decide),zJ4 D (t:=2) (by decide)];rw[hsh 0 (by decide) 1 (by decide) (by decide),hsh 0 (by decide) 2 (by decide) (by decide),hsh 1 (by decide) 1 (by decide) (by decide),hsh 1 (by decide) 2 (by decide) (by decide),hsh 2 (by decide) 1 (by decide) (by decide),hsh 2 (by decide) 2 (by decide) (by decide),hsh 3 (by decide) 1 (by decide) (by decide),hsh 3 (by decide) 2 (by decide) (by decide),hsh 4 (by decide) 1 (by decide) (by decide),hsh 4 (by decide) 2 (by decide) (by decide)]
  rfl
theorem zTT(D:Done GB qB):(zAq (zBk GB qB)).rows.length=4:=by
 obtain⟨x,hx,e⟩:=zU4 D;show(zAP (zAJ (zBk GB qB))).length=4;have:zAJ (zBk GB qB)=(zCl GB qB).map fun r=>r.map zAw:=rfl
 rw[this,e];rcases hx with rfl|rfl<;>decide+kernel
theorem zUo:(zAq (zBk GB qB)).row.length=5:=by
 show(idxs (zAJ (zBk GB qB))).length=5;rw[zAQ];unfold zAJ;rw[List.length_map];exact(zCd GB qB).2.1
theorem zTD{G}{q}(hv:Gr.checkN G=0)(D:Done G q)(hl:q.1.length<=2000)(h0:0<q.1.length):mayP (zBk G q)=true:=by
 obtain⟨e1,e2,_⟩:=zCd G q;have S:=(Fi.zBG hv).r;unfold mayP;rw[Bool.and_eq_true,decide_eq_true_eq,e1,e2];exact⟨by omega,zOl hv D h0⟩
structure Alike (T:Tb):Prop where
 act:∀i t,zLh (zBm T).1 i t=actP T i t
 goto:∀i s,zGZ (zBm T).1 i s=zF2 T i s
 rows:(zBm T).1.rows.length<=T.acts.length
 gows:(zBm T).1.gows.length<=T.acts.length
 len:T.acts.length<=2000
end Pk
namespace Pk
open Gr (GAt gv cell_later boxed checkN zAC zAT)
open Lk (qB zFE)
open Au
open Go.Proofs.YtegeamggbglneaaGreatDoor.Sep
open Ac (zUb zRh zJ5 zKo zEa fstA)
def lwP(w:World):World:=
 ((((w.alloc (.cells #[.string ⟨#[65]⟩,.string ⟨#[66]⟩] 9)).alloc (.cells #[.string ⟨#[115]⟩] 9)).alloc (.cells #[.int .i64 1,.int .i64 3] 3)).alloc (.cells #[.int .i64 2] 3)).alloc
  (.cells #[.int .i64 3,.slice (some ⟨w.heap.size+1+1,0,none⟩) 2 2,.int .i64 3,.slice (some ⟨w.heap.size+1+1+1,0,none⟩) 1 1] 55)
theorem zQG(w):Below w.heap.size w (lwP w)/\GAt ⟨some ⟨w.heap.size,0,none⟩,2,some ⟨w.heap.size+1,0,none⟩,1,some ⟨w.heap.size+1+1+1+1,0,none⟩,2⟩ GB (lwP w):=by
 have hb:Below w.heap.size w (lwP w):=Gr.step (Gr.step (Gr.step (Gr.step (boxed _ _) (boxed _ _)) (boxed _ _)) (boxed _ _)) (boxed _ _);refine⟨hb,zUb (b1:=w.heap.size+1+1) (b2:=w.heap.size+1+1+1) ?_ ?_ ?_ ?_ ?_ ?_ ?_ ?_ ?_ ?_⟩
 ·exact zAT (zAT (zAT (zAT (zAC rfl rfl))))
 ·exact zAT (zAT (zAT (zAT (zAC rfl rfl))))
 ·exact zAT (zAT (zAT (zAC (by simp) rfl)))
 ·exact zAC (by simp) rfl
 ·exact zAC (by simp) rfl
 ·exact zAC (by simp) rfl
 ·exact zAC (by simp) rfl
 ·exact zAT (zAT (zAC (by simp) rfl))
 ·exact zAT (zAT (zAC (by simp) rfl))
 ·exact zAT (zAC (by simp) rfl)
structure ExP (T:Tb):Prop where
 may:mayP T=true
 rows:(zAq T).rows.length=4
 row:(zAq T).row.length=5
 act:actP T 0 2=(1,2)
 goto:zF2 T 0 3=3
 acts:T.acts.length=5
theorem zUY(D:Done GB qB)(hv:checkN GB=0):ExP (zBk GB qB):=by
 refine⟨zTD hv D (by decide) (by decide),zTT D,zUo,?_,?_,(zCd GB qB).2.1⟩
 ·have e:ent (zCl GB qB) (0,0) 0 2=fstA GB qB 0 2:=rfl;show(if tm 2<2 then(0,0)else ent (zCl GB qB) (0,0) 0 2)=(1,2);rw[e,zJ5]
  rfl
 ·show(if(3:Int)<=tm 2\/(1:Int)<3-tm 2 then-1 else zJZ (max (zCl GB qB).length (zFG GB qB).length) (ent (zFG GB qB) (-1) 0 (3-tm 2-1)))=3;have h1:(zCl GB qB).length=5:=(zCd GB qB).2.1;have h2:(zFG GB qB).length=5:=(zCd GB qB).2.2;rw[h1,h2]
  decide+kernel
def GotB(w:World)(e:Ending)(w':World):Prop:=∃T aR cR aA cA aG cG,e=.returned (.tuple #[.agg (tvs T aR cR aA cA aG cG),.int .i64 0])/\TAt T aR cR aA cA aG cG w'/\TSm T/\ExP T/\Below w.heap.size w w'
theorem of_b(h)(w)(k:GAt h GB w)(htab:Bt.Tab w):Calls Tryz.prog 22 #[gv h GB] w (GotB w):=
 (zEa h GB w k htab).mono fun e w' ho=>by
  cases ho with
  |no k1 k2 k3=>exact absurd (zRh k1).2.1.symm zKo
  |yes k1 k2 k3 k4 k5 k6 k7 k8 k9=>
   have e:=zFE k4 k2;subst e;exact⟨zBk GB qB,_,_,_,_,_,_,k7,zU7 k1 k2 k3 k8 (by rw[(zCd GB qB).1];exact k6),zU8 k1 k3,zUY k2 k1,k9⟩
theorem zSg(x)(v)(w):(Instr.field 57 (.agg #[.int .i64 x,v]) 0).run Tryz.prog w=.ok (.int .i64 x) w:=by kernel_rfl
theorem zSf(v0 v1 v2 v3 v4)(w):(Instr.field 26 (.agg #[v0,v1,v2,v3,v4]) 3).run Tryz.prog w=.ok v3 w:=by kernel_rfl
theorem zHa(W:World)(htab:Bt.Tab W):Calls Tryz.prog 8 #[] W (Gr.Is (.bool true) W):=by
 obtain⟨B0,K0⟩:=zQG W;have CO0:=of_b _ _ K0 (htab.below B0 htab.pos);have CO1:Calls Tryz.prog 22 #[.agg #[.slice (some ⟨W.heap.size,0,none⟩) 2 2,.slice (some ⟨W.heap.size+1,0,none⟩) 1 1,.slice (some ⟨W.heap.size+1+1+1+1,0,none⟩) 2 2,.int .i64 3]] (lwP W) (GotB (lwP W)):=CO0;obtain⟨wq,hwq⟩:∃wq,(lwP W).alloc (.cells #[.slice (some ⟨W.heap.size,0,none⟩) 2 2,.slice (some ⟨W.heap.size+1,0,none⟩) 1 1,.slice (some ⟨W.heap.size+1+1+1+1,0,none⟩) 2 2,.int .i64 3] 47)=wq:=⟨_,rfl⟩
 have hq:Below W.heap.size W wq:=by
  rw[←hwq];exact Gr.step B0 (boxed _ _)
 have KQ:GAt ⟨some ⟨W.heap.size,0,none⟩,2,some ⟨W.heap.size+1,0,none⟩,1,some ⟨W.heap.size+1+1+1+1,0,none⟩,2⟩ GB wq:=by
  rw[←hwq];exact K0.went (boxed _ _)
 have CO:=of_b _ wq KQ (htab.below hq htab.pos);have CO2:Calls Tryz.prog 22 #[.agg #[.slice (some ⟨W.heap.size,0,none⟩) 2 2,.slice (some ⟨W.heap.size+1,0,none⟩) 1 1,.slice (some ⟨W.heap.size+1+1+1+1,0,none⟩) 2 2,.int .i64 3]] wq (GotB wq):=CO;have BQ:=zV7 hq;have CB:=zV7 CO2;have g0:wq.cell? ⟨W.heap.size+1+1+1+1+1,0,none⟩=some (.slice (some ⟨W.heap.size,0,none⟩) 2 2):=by rw[←hwq];exact zAC (by simp[lwP]) rfl
 have g1:wq.cell? ⟨W.heap.size+1+1+1+1+1,1,none⟩=some (.slice (some ⟨W.heap.size+1,0,none⟩) 1 1):=by rw[←hwq];exact zAC (by simp[lwP]) rfl
 have g2:wq.cell? ⟨W.heap.size+1+1+1+1+1,2,none⟩=some (.slice (some ⟨W.heap.size+1+1+1+1,0,none⟩) 2 2):=by rw[←hwq];exact zAC (by simp[lwP]) rfl
 have g3:wq.cell? ⟨W.heap.size+1+1+1+1+1,3,none⟩=some (.int .i64 3):=by rw[←hwq];exact zAC (by simp[lwP]) rfl
 clear CO CO0 CO1 CO2 K0 KQ B0 hq htab;unfold lwP at hwq;go_enter Tryz.func8,Tryz.ntmps8;go_wp2_with fail;refine CB.out.mono ?_;rintro e w3 ⟨T,aR,cR,aA,cA,aG,cG,rfl,hT,hs,hx,hb⟩;have b4:=boxed w3 (.cells (tvs T aR cR aA cA aG cG) 26);have B4:=zV7 (Gr.step (Gr.step BQ.out hb) b4);have XX:=zV7 hx;have PA:=zV7 (zKT T aR cR aA cA aG cG _ (hT.went b4) hs hx.may);have SM:=zV7 (zN6 hs);have UP:=zV7 (zGc (zIP hx.may))
 have UN:unO (zAq T)=T:=by
  unfold unO;rw[if_pos UP.out];exact zOu (zIP hx.may)
 have hpo:zBm T=(zAq T,true):=if_pos hx.may;obtain⟨z0,z1,z2,z3,z4⟩:=zAp (T:=T) (aR:=aR) (cR:=cR) (aA:=aA) (cA:=cA) (aG:=aG) (cG:=cG) w3 26;have EA:=zV7 ((zN9 (zIP hx.may) 0 2).trans hx.act);have EG:=zV7 ((zLi (zIP hx.may) 0 3).trans hx.goto);have hr4:=hx.rows;have hr5:=hx.row;have HA5:=zV7 hx.acts;clear hwq g0 g1 g2 g3 hT hs hx hb b4 CB BQ XX;have hp1:zAq T=(zBm T).1:=by rw[hpo]
 have hp2:(zBm T).2=true:=by rw[hpo]
 rw[hp1]at SM UP UN EA EG hr4 hr5;have HR4:=zV7 hr4;have HR5:=zV7 hr5;have HP2:=zV7 hp2;clear hpo hp1 hr4 hr5 hp2;unfold tvs at*;go_wp2_with fail;generalize w3.alloc (.cells #[.slice aR T.rules.length cR,.int .i64 T.terms,.int .i64 T.nons,.slice aA T.acts.length cA,.slice aG T.goto.length cG] 26)=w4 at*;refine PA.out.mono ?_;rintro e w5 ⟨pR,qR,pW,qW,pX,qX,pG,qG,pH,qH,rfl,hP,hb⟩;have b6:=boxed w5 (.cells (pvs (zBm T).1 pR qR pW qW pX qX pG qG pH qH) 32);have B6:=zV7 (Gr.step (Gr.step B4.out hb) b6);have HP:=zV7 (hP.went b6);have ZP:=zV7 (zAr (P:=(zBm T).1) (aR:=pR) (cR:=qR) (aW:=pW) (cW:=qW) (aX:=pX) (cX:=qX) (aG:=pG) (cG:=qG) (aH:=pH) (cH:=qH) w5 32);rw[HP2.out];clear HP2 hP hb b6 z0 z1 z2 z3 z4 PA;generalize (zBm T).1=P at*;generalize hw6:w5.alloc (.cells (pvs P pR qR pW qW pX qX pG qG pH qH) 32)=w6 at*
 have AC:=zV7 (fun w1 (b:Below w6.heap.size w6 w1)=>by
  have h:=zQp P pR qR pW qW pX qX pG qG pH qH w1 (HP.out.went b) 0 2;rw[EA.out]at h;unfold pvs av at h;dsimp only at h
  exact h)
 have GO:=zV7 (fun w1 (b:Below w6.heap.size w6 w1)=>by
  have h:=zOC P pR qR pW qW pX qX pG qG pH qH w1 (HP.out.went b) 0 3 (by omega);rw[EG.out]at h;unfold pvs at h
  exact h)
 have RI:=zV7 (fun w1 (b:Below w6.heap.size w6 w1)=>by
  have h:=zC9 P pR qR pW qW pX qX pG qG pH qH w1 (HP.out.went b) SM.out;rw[UP.out]at h;unfold pvs at h
  exact h)
 have UU:=zV7 (fun w1 (b:Below w6.heap.size w6 w1)=>by
  have h:=zEQ P pR qR pW qW pX qX pG qG pH qH w1 (HP.out.went b) SM.out UP.out;unfold pvs zHV at h;rw[UN]at h;unfold tvs at h;rw[HA5.out]at h
  exact h)
 obtain⟨y0,y1,y2,y3,y4,y5,y6⟩:=ZP.out;clear EA EG UN ZP;unfold pvs at*;have hw6:=zV7 hw6;have hr4:=HR4.out;have hr5:=HR5.out;clear HR4 HR5 HA5;generalize P.row.length=n5 at*;generalize P.rows.length=n4 at*;subst hr5 hr4
 have YW:=zV7 (show∀w1,Below w6.heap.size w6 w1->w1.cell? ⟨w5.heap.size,0,none⟩=some (.slice pR P.rules.length qR)/\w1.cell? ⟨w5.heap.size,1,none⟩=some (.int .i64 P.terms)/\w1.cell? ⟨w5.heap.size,2,none⟩=some (.int .i64 P.nons)/\w1.cell? ⟨w5.heap.size,3,none⟩=some (.slice pW 5 qW)/\w1.cell? ⟨w5.heap.size,4,none⟩=some (.slice pX 4 qX)/\w1.cell? ⟨w5.heap.size,5,none⟩=some (.slice pG P.gow.length qG)/\w1.cell? ⟨w5.heap.size,6,none⟩=some (.slice pH P.gows.length qH)from
  fun w1 hb=>⟨cell_later hb y0,cell_later hb y1,cell_later hb y2,cell_later hb y3,cell_later hb y4,cell_later hb y5,cell_later hb y6⟩)
 go_wp2_with fail;refine(AC.out _ (.refl _ _)).mono ?_;rintro e w7 ⟨rfl,hb⟩;have B7:=zV7 hb;clear hb y0 y1 y2 y3 y4 y5 y6 AC;obtain⟨y0,y1,y2,y3,y4,y5,y6⟩:=YW.out _ B7.out;have hf:=zSg;go_wp2_with fail;refine(GO.out _ B7.out).mono ?_;rintro e w8 ⟨rfl,hb⟩;have B8:=zV7 (Gr.step B7.out hb);clear hb y0 y1 y2 y3 y4 y5 y6 GO hf;obtain⟨y0,y1,y2,y3,y4,y5,y6⟩:=YW.out _ B8.out;go_wp2_with fail;refine(RI.out _ B8.out).mono ?_;rintro e w9 ⟨rfl,hb⟩;have B9:=zV7 (Gr.step B8.out hb);clear hb y0 y1 y2 y3 y4 y5 y6 RI;obtain⟨y0,y1,y2,y3,y4,y5,y6⟩:=YW.out _ B9.out;go_wp2_with fail;refine(UU.out _ B9.out).mono ?_;rintro e wa ⟨sR,tR,sA,tA,sG,tG,rfl,_,hb⟩;have BA:=zV7 (Gr.step B9.out hb);clear hb y0 y1 y2 y3 y4 y5 y6 UU;have hf:=zSf;go_wp2_with fail;go_ret;exact⟨rfl,Gr.step B6.out BA.out⟩
theorem zKS(T)(aR)(cR)(aA)(cA)(aG)(cG)(w)(D:TAt T aR cR aA cA aG cG w)(S:TSm T):
  Calls Tryz.prog 9 #[.agg (tvs T aR cR aA cA aG cG)] w (zAm T w):=by
 cases h:mayP T with
 |false=>exact zTS T aR cR aA cA aG cG w D S h
 |true=>exact zKT T aR cR aA cA aG cG w D S h
end Pk
namespace Pk
open Gr (boxed drawn cell_later)
def zGj:Prop:=∀(T:Tb) (aR:Option Addr) (cR:Nat) (aA:Option Addr) (cA:Nat) (aG:Option Addr) (cG:Nat) (w:World),TAt T aR cR aA cA aG cG w->TSm T->T.acts.length<=60->T.rules.length<=60->zAI T=true->
 Calls Tryz.prog 10 #[.agg (tvs T aR cR aA cA aG cG)] w (zAm T w)
structure Ev (T:Tb) (P:Pd) (ok:Bool):Prop where
 sm:PSm P
 yes:ok=true->zCM P=true/\unO P=T
theorem zUW{T}(S:TSm T):Ev T (zBm T).1 (zBm T).2:=by
 cases hm:mayP T with
 |false=>
  have e:zBm T=(pd0,false):=if_neg (by rw[hm];decide);rw[e];refine⟨⟨by decide,by decide,by decide,by decide,by decide,fun r hr=>?_,fun r hr=>?_,fun r hr=>?_⟩,fun h=>by cases h⟩<;>cases hr
 |true=>
  have e:zBm T=(zAq T,true):=if_pos hm;rw[e];have h:=zGc (zIP hm);refine⟨zN6 S,fun _=>⟨h,?_⟩⟩;unfold unO;rw[if_pos h];exact zOu (zIP hm)
theorem zN8(RPY:zGj)(T:Tb)(aR:Option Addr)(cR:Nat)(aA:Option Addr)(cA:Nat)(aG:Option Addr)(cG:Nat)(w:World)(D:TAt T aR cR aA cA aG cG w)(htab:Bt.Tab w)(hm:mayP T=true):
  Calls Tryz.prog 3 #[.agg (tvs T aR cR aA cA aG cG)] w (Gr.Is (.bool true) w):=by
 have B1:=zV7 (boxed w (.cells (tvs T aR cR aA cA aG cG) 26));have Z1:=zV7 (zAp (T:=T) (aR:=aR) (cR:=cR) (aA:=aA) (cA:=cA) (aG:=aG) (cG:=cG) w 26);have DD:=zV7 (fun w1 (b:Below w.heap.size w w1)=>D.went b);have SL:=zV7 (fun w1 (b:Below w.heap.size w w1)=>zIa T aR cR aA cA aG cG w1 (D.went b));have AW:=zV7 (fun w1 (b:Below w.heap.size w w1)=>zHa w1 (htab.below b htab.pos));have PK:=zV7 (fun(S:TSm T) w1 (b:Below w.heap.size w w1)=>zKS T aR cR aA cA aG cG w1 (D.went b) S)
 have RP:=zV7 (fun(S:TSm T) (h1:T.acts.length<=60) (h2:T.rules.length<=60) w1 (b:Below w.heap.size w w1)=>(show Calls Tryz.prog 10 #[.agg (tvs T aR cR aA cA aG cG)] w1 (zAm T w1)from by
  cases hr:zAI T with
  |false=>exact zKd T aR cR aA cA aG cG w1 (D.went b) S hr
  |true=>exact RPY T aR cR aA cA aG cG w1 (D.went b) S h1 h2 hr))
 clear D htab;obtain⟨z0,z1,z2,z3,z4⟩:=Z1.out;unfold tvs at*;go_enter Tryz.func3,Tryz.ntmps3;go_wp2_with fail;generalize w.alloc (.cells #[.slice aR T.rules.length cR,.int .i64 T.terms,.int .i64 T.nons,.slice aA T.acts.length cA,.slice aG T.goto.length cG] 26)=w2 at*;refine(SL.out _ B1.out).mono ?_;rintro e w3 ⟨bs,rfl,hsm,hb⟩;have B3:=zV7 (Gr.step B1.out hb);have Z3:=zV7 (Z1.out.went hb);clear hb z0 z1 z2 z3 z4 SL Z1 B1;obtain⟨z0,z1,z2,z3,z4⟩:=Z3.out;cases bs with
 |false=>
  clear hsm hm;go_wp2_with (go_at_call 8;refine(AW.out _ B3.out).mono ?_;rintro e w4 ⟨rfl,hb⟩;have HB:=zV7 (Gr.step B3.out hb);clear hb);go_ret;exact⟨rfl,HB.out⟩
 |true=>
 obtain⟨hS,hs1,hs2⟩:=hsm rfl;have SS:=zV7 hS;have PK:=zV7 (PK.out hS);have RP:=zV7 (RP.out hS hs1 hs2);obtain⟨P,ok,hpk⟩:∃P ok,zBm T=(P,ok):=⟨_,_,rfl⟩;have EV:=zV7 (show Ev T P ok from by have h:=zUW hS;rw[hpk]at h;exact h);have HOK:=zV7 (show ok=true from by have h:zBm T=(zAq T,true):=if_pos hm;rw[hpk]at h;exact(Prod.mk.inj h).2);unfold zAm at PK RP;simp only[hpk]at PK RP;clear hsm hS hs1 hs2 hpk hm;go_wp2_with fail;refine(PK.out _ B3.out).mono ?_;rintro e w4 ⟨pR,qR,pW,qW,pX,qX,pG,qG,pH,qH,rfl,hP,hb⟩;have b5:=boxed w4 (.cells (pvs P pR qR pW qW pX qX pG qG pH qH) 32);have B5:=zV7 (Gr.step (Gr.step B3.out hb) b5);have Z5:=zV7 ((Z3.out.went hb).went b5);have P5:=zV7 (hP.went b5);have Y5:=zV7 (zAr (P:=P) (aR:=pR) (cR:=qR) (aW:=pW) (cW:=qW) (aX:=pX) (cX:=qX) (aG:=pG) (cG:=qG) (aH:=pH) (cH:=qH) w4 32);clear hP hb b5 z0 z1 z2 z3 z4 Z3 B3 PK;obtain⟨z0,z1,z2,z3,z4⟩:=Z5.out;obtain⟨y0,y1,y2,y3,y4,y5,y6⟩:=Y5.out;unfold pvs at*;go_wp2_with fail;generalize hw5:w4.alloc (.cells #[.slice pR P.rules.length qR,.int .i64 P.terms,.int .i64 P.nons,.slice pW P.row.length qW,.slice pX P.rows.length qX,.slice pG P.gow.length qG,.slice pH P.gows.length qH] 32)=w5 at*;clear hw5;refine(RP.out _ B5.out).mono ?_;rintro e w6 ⟨sR,tR,sW,tW,sX,tX,sG,tG,sH,tH,rfl,hP,hb⟩;have b7:=boxed w6 (.cells (pvs P sR tR sW tW sX tX sG tG sH tH) 32);have B7:=zV7 (Gr.step (Gr.step B5.out hb) b7);have Z7:=zV7 ((Z5.out.went hb).went b7);have P7:=zV7 ((P5.out.went hb).went b7);have Y7:=zV7 ((Y5.out.went hb).went b7);have Q7:=zV7 (hP.went b7);have V7:=zV7 (zAr (P:=P) (aR:=sR) (cR:=tR) (aW:=sW) (cW:=tW) (aX:=sX) (cX:=tX) (aG:=sG) (cG:=tG) (aH:=sH) (cH:=tH) w6 32);clear hP hb b7 z0 z1 z2 z3 z4 y0 y1 y2 y3 y4 y5 y6 Z5 B5 P5 Y5 RP;obtain⟨z0,z1,z2,z3,z4⟩:=Z7.out;obtain⟨y0,y1,y2,y3,y4,y5,y6⟩:=Y7.out;obtain⟨x0,x1,x2,x3,x4,x5,x6⟩:=V7.out;have SA:=zV7 (fun w1 (b:Below _ _ w1)=>zEc P pR qR pW qW pX qX pG qG pH qH sR tR sW tW sX tX sG tG sH tH w1 (P7.out.went b) (Q7.out.went b) EV.out.sm);have RI:=zV7 (fun w1 (b:Below _ _ w1)=>zC9 P pR qR pW qW pX qX pG qG pH qH w1 (P7.out.went b) EV.out.sm);have UP:=zV7 (fun(h:zCM P=true) w1 (b:Below _ _ w1)=>zEQ P pR qR pW qW pX qX pG qG pH qH w1 (P7.out.went b) EV.out.sm h);have SM:=zV7 (fun uR vR uA vA uG vG w1 (h:TAt T uR vR uA vA uG vG w1) (b:Below _ _ w1)=>zEb T uR vR uA vA uG vG aR cR aA cA aG cG w1 h (DD.out w1 (Gr.step B7.out b)) SS.out);unfold pvs tvs at*;generalize w4.heap.size=pp at*;obtain rfl:=HOK.out
 ·obtain⟨hr,hu⟩:=EV.out.yes rfl;rw[hr]at RI;have UU:=zV7 (fun w1 b=>UP.out hr w1 b);unfold zHV at UU;rw[hu]at UU;clear hr hu UP;unfold tvs at UU;go_wp2_with fail;generalize w6.alloc (.cells #[.slice sR P.rules.length tR,.int .i64 P.terms,.int .i64 P.nons,.slice sW P.row.length tW,.slice sX P.rows.length tX,.slice sG P.gow.length tG,.slice sH P.gows.length tH] 32)=w7 at*;refine(SA.out _ (.refl _ _)).mono ?_;rintro e w8 ⟨rfl,hb⟩;have B8:=zV7 (Gr.step B7.out hb);have C8:=zV7 hb;have Z8:=zV7 (Z7.out.went hb);have Y8:=zV7 (Y7.out.went hb);clear hb z0 z1 z2 z3 z4 y0 y1 y2 y3 y4 y5 y6 x0 x1 x2 x3 x4 x5 x6 SA;obtain⟨z0,z1,z2,z3,z4⟩:=Z8.out;obtain⟨y0,y1,y2,y3,y4,y5,y6⟩:=Y8.out;have HQ:=zV7 (show∀w',Below w8.heap.size w8 w'->w'.cell? ⟨w.heap.size,0,none⟩=some (.slice aR T.rules.length cR)/\w'.cell? ⟨w.heap.size,1,none⟩=some (.int .i64 T.terms)/\w'.cell? ⟨w.heap.size,2,none⟩=some (.int .i64 T.nons)/\w'.cell? ⟨w.heap.size,3,none⟩=some (.slice aA T.acts.length cA)/\w'.cell? ⟨w.heap.size,4,none⟩=some (.slice aG T.goto.length cG)/\w'.cell? ⟨pp,0,none⟩=some (.slice pR P.rules.length qR)/\w'.cell? ⟨pp,1,none⟩=some (.int .i64 P.terms)/\w'.cell? ⟨pp,2,none⟩=some (.int .i64 P.nons)/\w'.cell? ⟨pp,3,none⟩=some (.slice pW P.row.length qW)/\w'.cell? ⟨pp,4,none⟩=some (.slice pX P.rows.length qX)/\w'.cell? ⟨pp,5,none⟩=some (.slice pG P.gow.length qG)/\w'.cell? ⟨pp,6,none⟩=some (.slice pH P.gows.length qH)/\Below w8.heap.size w8 w' from fun w' hb=>⟨cell_later hb z0,cell_later hb z1,cell_later hb z2,cell_later hb z3,cell_later hb z4,cell_later hb y0,cell_later hb y1,cell_later hb y2,cell_later hb y3,cell_later hb y4,cell_later hb y5,cell_later hb y6,hb⟩);have hbd:=drawn w8;go_wp2_with fail
  go_region_held3 (fun w'=>w'.cell? ⟨w.heap.size,0,none⟩=some (.slice aR T.rules.length cR)/\w'.cell? ⟨w.heap.size,1,none⟩=some (.int .i64 T.terms)/\w'.cell? ⟨w.heap.size,2,none⟩=some (.int .i64 T.nons)/\w'.cell? ⟨w.heap.size,3,none⟩=some (.slice aA T.acts.length cA)/\w'.cell? ⟨w.heap.size,4,none⟩=some (.slice aG T.goto.length cG)/\w'.cell? ⟨pp,0,none⟩=some (.slice pR P.rules.length qR)/\w'.cell? ⟨pp,1,none⟩=some (.int .i64 P.terms)/\w'.cell? ⟨pp,2,none⟩=some (.int .i64 P.nons)/\w'.cell? ⟨pp,3,none⟩=some (.slice pW P.row.length qW)/\w'.cell? ⟨pp,4,none⟩=some (.slice pX P.rows.length qX)/\w'.cell? ⟨pp,5,none⟩=some (.slice pG P.gow.length qG)/\w'.cell? ⟨pp,6,none⟩=some (.slice pH P.gows.length qH)/\Below w8.heap.size w8 w')
   (exact HQ.out _ (by with_reducible assumption))
   (first
    |(go_at_call 12;(with_reducible refine(RI.out _ (Gr.step C8.out (by with_reducible assumption))).mono ?_);rintro e wa ⟨rfl,hb⟩;have kA:Below w8.heap.size w8 wa:=Gr.step (by with_reducible assumption) hb;clear hb)
    |(go_at_call 14;(with_reducible refine(UU.out _ (Gr.step C8.out (by with_reducible assumption))).mono ?_);rintro e wb ⟨uR,vR,uA,vA,uG,vG,rfl,hU,hb⟩;have HU:=zV7 hU;have kB:Below w8.heap.size w8 wb:=Gr.step (by with_reducible assumption) hb;clear hU hb)
    |(go_at_call 13;(with_reducible refine(SM.out _ _ _ _ _ _ _ HU.out (Gr.step C8.out kB)).mono ?_);rintro e wc ⟨rfl,hb⟩;have kC:Below w8.heap.size w8 wc:=Gr.step kB hb;clear hb)
    |(go_at_call 8;(with_reducible refine(AW.out _ (Gr.step B8.out (by with_reducible assumption))).mono ?_);rintro e wd ⟨rfl,hb⟩;have kD:Below w8.heap.size w8 wd:=Gr.step (by with_reducible assumption) hb;clear hb)
    |fail)
  all_goals
   go_wp2_with fail;go_ret;exact⟨rfl,Gr.step B8.out (by with_reducible assumption)⟩
end Pk
namespace Pk
open Gr (boxed drawn)
theorem zQo(RPY:zGj)(T:Tb)(aR:Option Addr)(cR:Nat)(aA:Option Addr)(cA:Nat)(aG:Option Addr)(cG:Nat)(w:World)(D:TAt T aR cR aA cA aG cG w)(htab:Bt.Tab w)(hm:mayP T=false):
  Calls Tryz.prog 3 #[.agg (tvs T aR cR aA cA aG cG)] w (Gr.Is (.bool true) w):=by
 have B1:=zV7 (boxed w (.cells (tvs T aR cR aA cA aG cG) 26));have Z1:=zV7 (zAp (T:=T) (aR:=aR) (cR:=cR) (aA:=aA) (cA:=cA) (aG:=aG) (cG:=cG) w 26);have DD:=zV7 (fun w1 (b:Below w.heap.size w w1)=>D.went b);have SL:=zV7 (fun w1 (b:Below w.heap.size w w1)=>zIa T aR cR aA cA aG cG w1 (D.went b));have AW:=zV7 (fun w1 (b:Below w.heap.size w w1)=>zHa w1 (htab.below b htab.pos));have PK:=zV7 (fun(S:TSm T) w1 (b:Below w.heap.size w w1)=>zKS T aR cR aA cA aG cG w1 (D.went b) S)
 have RP:=zV7 (fun(S:TSm T) (h1:T.acts.length<=60) (h2:T.rules.length<=60) w1 (b:Below w.heap.size w w1)=>(show Calls Tryz.prog 10 #[.agg (tvs T aR cR aA cA aG cG)] w1 (zAm T w1)from by
  cases hr:zAI T with
  |false=>exact zKd T aR cR aA cA aG cG w1 (D.went b) S hr
  |true=>exact RPY T aR cR aA cA aG cG w1 (D.went b) S h1 h2 hr))
 clear D htab;obtain⟨z0,z1,z2,z3,z4⟩:=Z1.out;unfold tvs at*;go_enter Tryz.func3,Tryz.ntmps3;go_wp2_with fail;generalize w.alloc (.cells #[.slice aR T.rules.length cR,.int .i64 T.terms,.int .i64 T.nons,.slice aA T.acts.length cA,.slice aG T.goto.length cG] 26)=w2 at*;refine(SL.out _ B1.out).mono ?_;rintro e w3 ⟨bs,rfl,hsm,hb⟩;have B3:=zV7 (Gr.step B1.out hb);have Z3:=zV7 (Z1.out.went hb);clear hb z0 z1 z2 z3 z4 SL Z1 B1;obtain⟨z0,z1,z2,z3,z4⟩:=Z3.out;cases bs with
 |false=>
  clear hsm hm;go_wp2_with (go_at_call 8;refine(AW.out _ B3.out).mono ?_;rintro e w4 ⟨rfl,hb⟩;have HB:=zV7 (Gr.step B3.out hb);clear hb);go_ret;exact⟨rfl,HB.out⟩
 |true=>
 obtain⟨hS,hs1,hs2⟩:=hsm rfl;have SS:=zV7 hS;have PK:=zV7 (PK.out hS);have RP:=zV7 (RP.out hS hs1 hs2);obtain⟨P,ok,hpk⟩:∃P ok,zBm T=(P,ok):=⟨_,_,rfl⟩;have EV:=zV7 (show Ev T P ok from by have h:=zUW hS;rw[hpk]at h;exact h);have HOK:=zV7 (show ok=false from by have h:zBm T=(pd0,false):=if_neg (by rw[hm];decide);rw[hpk]at h;exact(Prod.mk.inj h).2);unfold zAm at PK RP;simp only[hpk]at PK RP;clear hsm hS hs1 hs2 hpk hm;go_wp2_with fail;refine(PK.out _ B3.out).mono ?_;rintro e w4 ⟨pR,qR,pW,qW,pX,qX,pG,qG,pH,qH,rfl,hP,hb⟩;have b5:=boxed w4 (.cells (pvs P pR qR pW qW pX qX pG qG pH qH) 32);have B5:=zV7 (Gr.step (Gr.step B3.out hb) b5);have Z5:=zV7 ((Z3.out.went hb).went b5);have P5:=zV7 (hP.went b5);have Y5:=zV7 (zAr (P:=P) (aR:=pR) (cR:=qR) (aW:=pW) (cW:=qW) (aX:=pX) (cX:=qX) (aG:=pG) (cG:=qG) (aH:=pH) (cH:=qH) w4 32);clear hP hb b5 z0 z1 z2 z3 z4 Z3 B3 PK;obtain⟨z0,z1,z2,z3,z4⟩:=Z5.out;obtain⟨y0,y1,y2,y3,y4,y5,y6⟩:=Y5.out;unfold pvs at*;go_wp2_with fail;generalize hw5:w4.alloc (.cells #[.slice pR P.rules.length qR,.int .i64 P.terms,.int .i64 P.nons,.slice pW P.row.length qW,.slice pX P.rows.length qX,.slice pG P.gow.length qG,.slice pH P.gows.length qH] 32)=w5 at*;clear hw5;refine(RP.out _ B5.out).mono ?_;rintro e w6 ⟨sR,tR,sW,tW,sX,tX,sG,tG,sH,tH,rfl,hP,hb⟩;have b7:=boxed w6 (.cells (pvs P sR tR sW tW sX tX sG tG sH tH) 32);have B7:=zV7 (Gr.step (Gr.step B5.out hb) b7);have Z7:=zV7 ((Z5.out.went hb).went b7);have P7:=zV7 ((P5.out.went hb).went b7);have Y7:=zV7 ((Y5.out.went hb).went b7);have Q7:=zV7 (hP.went b7);have V7:=zV7 (zAr (P:=P) (aR:=sR) (cR:=tR) (aW:=sW) (cW:=tW) (aX:=sX) (cX:=tX) (aG:=sG) (cG:=tG) (aH:=sH) (cH:=tH) w6 32);clear hP hb b7 z0 z1 z2 z3 z4 y0 y1 y2 y3 y4 y5 y6 Z5 B5 P5 Y5 RP;obtain⟨z0,z1,z2,z3,z4⟩:=Z7.out;obtain⟨y0,y1,y2,y3,y4,y5,y6⟩:=Y7.out;obtain⟨x0,x1,x2,x3,x4,x5,x6⟩:=V7.out;have SA:=zV7 (fun w1 (b:Below _ _ w1)=>zEc P pR qR pW qW pX qX pG qG pH qH sR tR sW tW sX tX sG tG sH tH w1 (P7.out.went b) (Q7.out.went b) EV.out.sm);have RI:=zV7 (fun w1 (b:Below _ _ w1)=>zC9 P pR qR pW qW pX qX pG qG pH qH w1 (P7.out.went b) EV.out.sm);have UP:=zV7 (fun(h:zCM P=true) w1 (b:Below _ _ w1)=>zEQ P pR qR pW qW pX qX pG qG pH qH w1 (P7.out.went b) EV.out.sm h);have SM:=zV7 (fun uR vR uA vA uG vG w1 (h:TAt T uR vR uA vA uG vG w1) (b:Below _ _ w1)=>zEb T uR vR uA vA uG vG aR cR aA cA aG cG w1 h (DD.out w1 (Gr.step B7.out b)) SS.out);unfold pvs tvs at*;generalize w4.heap.size=pp at*;obtain rfl:=HOK.out
 ·go_wp2_with fail;generalize w6.alloc (.cells #[.slice sR P.rules.length tR,.int .i64 P.terms,.int .i64 P.nons,.slice sW P.row.length tW,.slice sX P.rows.length tX,.slice sG P.gow.length tG,.slice sH P.gows.length tH] 32)=w7 at*;refine(SA.out _ (.refl _ _)).mono ?_;rintro e w8 ⟨rfl,hb⟩;have B8:=zV7 (Gr.step B7.out hb);have Z8:=zV7 (Z7.out.went hb);have Y8:=zV7 (Y7.out.went hb);clear hb z0 z1 z2 z3 z4 y0 y1 y2 y3 y4 y5 y6 x0 x1 x2 x3 x4 x5 x6 SA RI UP SM;have hbd:=drawn w8;go_wp2_with fail;refine wp_region_noPanic ?_;refine wp_region_held_drew (S:=fun w'=>Below w8.heap.size w8 w') (by kernel_rfl) hbd (fun hS8=>?_);refine wpAnyH_take (i:=0) (v:=.bool false) rfl (by kernel_rfl) (by kernel_rfl) (by kernel_rfl) (fun _ _ _ h=>h) (Or.inl ⟨by rfl,fun w5 hs5=>by go_simp⟩) hS8 ?_;change wpAnyH _ _ _ _ _ _ _ (Act.put _ (some 30) _) _;simp only[Act.put,List.setIfInBounds_toArray,List.set_cons_zero,List.set_cons_succ];refine wpAnyH_take (i:=1) (v:=.bool true) rfl (by kernel_rfl) (by kernel_rfl) (by kernel_rfl) (fun _ _ _ h=>h) (Or.inl ⟨by rfl,fun w5 hs5=>by go_simp⟩) hS8 ?_;change wpAnyH _ _ _ _ _ _ _ (Act.put _ (some 31) _) _;simp only[Act.put,List.setIfInBounds_toArray,List.set_cons_zero,List.set_cons_succ];refine wpAnyH_take (i:=2) (v:=.bool true) rfl (by kernel_rfl) (by kernel_rfl) (by kernel_rfl) (fun _ _ _ h=>h) (Or.inl ⟨by rfl,fun w5 hs5=>by go_simp⟩) hS8 ?_;change wpAnyH _ _ _ _ _ _ _ (Act.put _ (some 32) _) _;simp only[Act.put,List.setIfInBounds_toArray,List.set_cons_zero,List.set_cons_succ];refine wpAnyH_take (i:=3) (v:=undef) rfl (by kernel_rfl) (by kernel_rfl) (by kernel_rfl) (fun _ _ _ h=>h) (Or.inr ⟨by rfl,rfl⟩) hS8 ?_;change wpAnyH _ _ _ _ _ _ _ (Act.put _ (some 33) _) _;refine wpAnyH_take (i:=4) (v:=undef) rfl (by kernel_rfl) (by kernel_rfl) (by kernel_rfl) (fun _ _ _ h=>h) (Or.inr ⟨by rfl,rfl⟩) hS8 ?_;change wpAnyH _ _ _ _ _ _ _ (Act.put _ (some 34) _) _;refine wpAnyH_take (i:=5) (v:=undef) rfl (by kernel_rfl) (by kernel_rfl) (by kernel_rfl) (fun _ _ _ h=>h) (Or.inr ⟨by rfl,rfl⟩) hS8 ?_;change wpAnyH _ _ _ _ _ _ _ (Act.put _ (some 35) _) _;refine wpAnyH_take (i:=6) (v:=undef) rfl (by kernel_rfl) (by kernel_rfl) (by kernel_rfl) (fun _ _ _ h=>h) (Or.inr ⟨by rfl,rfl⟩) hS8 ?_;change wpAnyH _ _ _ _ _ _ _ (Act.put _ (some 36) _) _;refine wpAnyH_take (i:=7) (v:=undef) rfl (by kernel_rfl) (by kernel_rfl) (by kernel_rfl) (fun _ _ _ h=>h) (Or.inr ⟨by rfl,rfl⟩) hS8 ?_;change wpAnyH _ _ _ _ _ _ _ (Act.put _ (some 37) _) _;refine wpAnyH_take (i:=8) (v:=undef) rfl (by kernel_rfl) (by kernel_rfl) (by kernel_rfl) (fun _ _ _ h=>h) (Or.inr ⟨by rfl,rfl⟩) hS8 ?_;change wpAnyH _ _ _ _ _ _ _ (Act.put _ (some 38) _) _;refine wpAnyH_take (i:=9) (v:=undef) rfl (by kernel_rfl) (by kernel_rfl) (by kernel_rfl) (fun _ _ _ h=>h) (Or.inr ⟨by rfl,rfl⟩) hS8 ?_;change wpAnyH _ _ _ _ _ _ _ (Act.put _ (some 39) _) _;refine wpAnyH_take (i:=10) (v:=undef) rfl (by kernel_rfl) (by kernel_rfl) (by kernel_rfl) (fun _ _ _ h=>h) (Or.inr ⟨by rfl,rfl⟩) hS8 ?_;change wpAnyH _ _ _ _ _ _ _ (Act.put _ (some 40) _) _;simp only[Act.put,List.setIfInBounds_toArray,List.set_cons_zero,List.set_cons_succ];refine wpAnyH_take (i:=11) (v:=.bool true) rfl (by kernel_rfl) (by kernel_rfl) (by kernel_rfl) (fun _ _ _ h=>h) (Or.inl ⟨by rfl,fun w5 hs5=>by go_simp⟩) hS8 ?_
  change wpAnyH _ _ _ _ _ _ _ (Act.put _ (some 41) _) _;simp only[Act.put,List.setIfInBounds_toArray,List.set_cons_zero,List.set_cons_succ];refine wpAnyH_take (i:=12) (v:=.bool true) rfl (by kernel_rfl) (by kernel_rfl) (by kernel_rfl) (fun _ _ _ h=>h) (Or.inl ⟨by rfl,fun w5 hs5=>by go_simp⟩) hS8 ?_;change wpAnyH _ _ _ _ _ _ _ (Act.put _ (some 42) _) _;simp only[Act.put,List.setIfInBounds_toArray,List.set_cons_zero,List.set_cons_succ];refine wpAnyH_ready (rs:=[13]) (by kernel_rfl) (by simp) ?_;refine AllReadyH.cons rfl (fun K' hK'=>?_) AllReadyH.nil;go_simp;go_at_call 8;refine(AW.out _ (Gr.step B8.out hS8)).mono ?_;rintro e wa ⟨rfl,hb⟩;have kA:Below w8.heap.size w8 wa:=Gr.step hS8 hb;clear hb
  try go_wp2_with fail
  refine hK'.out _ _ kA (fun hHeld=>?_);clear hK'
  try simp only[Act.put,List.setIfInBounds_toArray,List.set_cons_zero,List.set_cons_succ]
  refine wpAnyH_take (i:=14) (v:=.bool true) rfl (by kernel_rfl) (by kernel_rfl) (by kernel_rfl) (fun _ _ _ h=>h) (Or.inl ⟨by rfl,fun w5 hs5=>by go_simp⟩) hHeld ?_;change wpAnyH _ _ _ _ _ _ _ (Act.put _ (some 44) _) _
  try simp only[Act.put,List.setIfInBounds_toArray,List.set_cons_zero,List.set_cons_succ]
  refine wpAnyH_take (i:=15) (v:=.bool true) rfl (by kernel_rfl) (by kernel_rfl) (by kernel_rfl) (fun _ _ _ h=>h) (Or.inl ⟨by rfl,fun w5 hs5=>by go_simp⟩) hHeld ?_;change wpAnyH _ _ _ _ _ _ _ (Act.put _ (some 2) _) _
  try simp only[Act.put,List.setIfInBounds_toArray,List.set_cons_zero,List.set_cons_succ]
  refine wpAnyH_done (by kernel_rfl) ?_ _;refine NoPanic.normal ?_;go_wp2_with fail;go_ret;exact⟨rfl,Gr.step B8.out kA⟩
theorem zN7(RPY:zGj)(T)(aR)(cR)(aA)(cA)(aG)(cG)(w)(D:TAt T aR cR aA cA aG cG w)(htab:Bt.Tab w):
  Calls Tryz.prog 3 #[.agg (tvs T aR cR aA cA aG cG)] w (Gr.Is (.bool true) w):=by
 cases hm:mayP T with
 |false=>exact zQo RPY T aR cR aA cA aG cG w D htab hm
 |true=>exact zN8 RPY T aR cR aA cA aG cG w D htab hm
theorem rpy:zGj:=fun T aR cR aA cA aG cG w D S ha hl hr=>zOR T aR cR aA cA aG cG w D S (by unfold mayP;rw[hr,Bool.and_true];exact decide_eq_true ⟨by omega,by omega⟩)
