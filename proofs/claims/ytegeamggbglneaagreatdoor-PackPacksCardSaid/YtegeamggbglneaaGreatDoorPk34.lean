/- A part of the proof. -/
import Derived.Test.YtegeamggbglneaaGreatDoorPk21
import Derived.Test.YtegeamggbglneaaGreatDoorPk33
set_option maxHeartbeats 4000000
set_option maxRecDepth 100000
set_option linter.unusedVariables false
namespace Go.Proofs.YtegeamggbglneaaGreatDoor
open Go.RowKit Go.Maps
namespace Pk
open Gr (boxed)
theorem zTS(T:Tb)(aR:Option Addr)(cR:Nat)(aA:Option Addr)(cA:Nat)(aG:Option Addr)(cG:Nat)(w:World)(D:TAt T aR cR aA cA aG cG w)(S:TSm T)(hm:mayP T=false):
  Calls Tryz.prog 9 #[.agg (tvs T aR cR aA cA aG cG)] w (zAm T w):=by
 have NO:=zV7 (fun(w':World) (hb:Below w.heap.size w w')=>zNn hm hb);have RI:=zV7 (fun w1 (b:Below w.heap.size w w1)=>zIV T aR cR aA cA aG cG w1 (D.went b) S);have b1:=boxed w (.cells (tvs T aR cR aA cA aG cG) 26);have b2:=boxed (w.alloc (.cells (tvs T aR cR aA cA aG cG) 26)) (.cells nils 32);have B2:=zV7 (Gr.step b1 b2);have Z2:=zV7 ((zAp (T:=T) (aR:=aR) (cR:=cR) (aA:=aA) (cA:=cA) (aG:=aG) (cG:=cG) w 26).went b2);have Y2:=zV7 (zAd (w.alloc (.cells (tvs T aR cR aA cA aG cG) 26)) (.cells nils 32));rw[World.size_alloc]at Y2;have hal:=S.al;have hrl:=S.rl
 have HM:=zV7 (show¬(T.acts.length<=16383/\T.rules.length<=16383)\/zAI T=false from by
  unfold mayP at hm;rw[Bool.and_eq_false_iff,decide_eq_false_iff_not]at hm
  exact hm)
 clear b1 b2 D S hm;unfold tvs nils at*
 by_cases h1:16383<T.acts.length
 ·have h1':(16383:Int)<(T.acts.length:Int):=by omega
  clear HM RI Z2 Y2;go_enter Tryz.func9,Tryz.ntmps9;go_wp2;exact bodyPost_ret (v:=.tuple #[.agg #[.slice none 0 0,.int .i64 0,.int .i64 0,.slice none 0 0,.slice none 0 0,.slice none 0 0,.slice none 0 0],.bool false]) (by simp[results,Tryz.results9,go_sem]) rfl (NO.out _ B2.out)
 have h1':¬(16383:Int)<(T.acts.length:Int):=by omega
 by_cases h2:16383<T.rules.length
 ·have h2':(16383:Int)<(T.rules.length:Int):=by omega
  clear HM RI Z2 Y2;go_enter Tryz.func9,Tryz.ntmps9;go_wp2;exact bodyPost_ret (v:=.tuple #[.agg #[.slice none 0 0,.int .i64 0,.int .i64 0,.slice none 0 0,.slice none 0 0,.slice none 0 0,.slice none 0 0],.bool false]) (by simp[results,Tryz.results9,go_sem]) rfl (NO.out _ B2.out)
 have h2':¬(16383:Int)<(T.rules.length:Int):=by omega
 have hr:zAI T=false:=by
  rcases HM.out with h|h
  ·omega
  ·exact h
 rw[hr]at RI;obtain⟨z0,z1,z2,z3,z4⟩:=Z2.out;go_enter Tryz.func9,Tryz.ntmps9;go_wp2_with fail;generalize (w.alloc (.cells #[.slice aR T.rules.length cR,.int .i64 T.terms,.int .i64 T.nons,.slice aA T.acts.length cA,.slice aG T.goto.length cG] 26)).alloc (.cells #[.slice none 0 0,.int .i64 0,.int .i64 0,.slice none 0 0,.slice none 0 0,.slice none 0 0,.slice none 0 0] 32)=w2 at*;refine(RI.out _ B2.out).mono ?_;rintro e w3 ⟨rfl,hb3⟩;have B3:=zV7 (Gr.step B2.out hb3);have Y3:=(hb3.block _ (Array.getElem?_eq_some_iff.1 Y2.out).1).trans Y2.out;have y0:=zAA Y3 (k:=0) (by simp);have y1:=zAA Y3 (k:=1) (by simp);have y2:=zAA Y3 (k:=2) (by simp);have y3:=zAA Y3 (k:=3) (by simp);have y4:=zAA Y3 (k:=4) (by simp);have y5:=zAA Y3 (k:=5) (by simp);have y6:=zAA Y3 (k:=6) (by simp);have f0:=zAM (k:=0) Y3;have f1:=zAM (k:=1) Y3;have f2:=zAM (k:=2) Y3;have f3:=zAM (k:=3) Y3;have f4:=zAM (k:=4) Y3;have f5:=zAM (k:=5) Y3;have f6:=zAM (k:=6) Y3;have EE:=zV7 (zDD Y3 (.slice none 0 0) (.int .i64 0) (.int .i64 0) (.slice none 0 0) (.slice none 0 0) (.slice none 0 0) (.slice none 0 0));have E2:=zV7 (NO.out (set7 w3 (w.heap.size+1) (.slice none 0 0) (.int .i64 0) (.int .i64 0) (.slice none 0 0) (.slice none 0 0) (.slice none 0 0) (.slice none 0 0)) (zBp B3.out (Nat.le_succ _) _ _ _ _ _ _ _));clear z0 z1 z2 z3 z4 hb3 Y2 Z2 B2 RI NO Y3;go_wp2;change bodyPost _ _ _ _ _ (set7 w3 (w.heap.size+1) (.slice none 0 0) (.int .i64 0) (.int .i64 0) (.slice none 0 0) (.slice none 0 0) (.slice none 0 0) (.slice none 0 0));obtain⟨e0,e1,e2,e3,e4,e5,e6⟩:=EE.out;generalize set7 w3 (w.heap.size+1) (.slice none 0 0) (.int .i64 0) (.int .i64 0) (.slice none 0 0) (.slice none 0 0) (.slice none 0 0) (.slice none 0 0)=wE at*;exact bodyPost_ret (v:=.tuple #[.agg #[.slice none 0 0,.int .i64 0,.int .i64 0,.slice none 0 0,.slice none 0 0,.slice none 0 0,.slice none 0 0],.bool false]) (by simp[results,Tryz.results9,go_sem,e0,e1,e2,e3,e4,e5,e6]) rfl E2.out
end Pk
namespace Pk
open Gr (boxed)
theorem zKd(T:Tb)(aR:Option Addr)(cR:Nat)(aA:Option Addr)(cA:Nat)(aG:Option Addr)(cG:Nat)(w:World)(D:TAt T aR cR aA cA aG cG w)(S:TSm T)(hr:zAI T=false):
  Calls Tryz.prog 10 #[.agg (tvs T aR cR aA cA aG cG)] w (zAm T w):=by
 have hm:mayP T=false:=by unfold mayP;rw[hr,Bool.and_false]
 have NO:=zV7 (fun(w':World) (hb:Below w.heap.size w w')=>zNn hm hb);have RI:=zV7 (fun w1 (b:Below w.heap.size w w1)=>zGd T aR cR aA cA aG cG w1 (D.went b) S);have b1:=boxed w (.cells (tvs T aR cR aA cA aG cG) 26);have b2:=boxed (w.alloc (.cells (tvs T aR cR aA cA aG cG) 26)) (.cells nils 32);have B2:=zV7 (Gr.step b1 b2);have Z2:=zV7 ((zAp (T:=T) (aR:=aR) (cR:=cR) (aA:=aA) (cA:=cA) (aG:=aG) (cG:=cG) w 26).went b2);have Y2:=zV7 (zAd (w.alloc (.cells (tvs T aR cR aA cA aG cG) 26)) (.cells nils 32));rw[World.size_alloc]at Y2;rw[hr]at RI;clear b1 b2 D S hm hr;unfold tvs nils at*;obtain⟨z0,z1,z2,z3,z4⟩:=Z2.out;go_enter Tryz.func10,Tryz.ntmps10;go_wp2_with fail;generalize (w.alloc (.cells #[.slice aR T.rules.length cR,.int .i64 T.terms,.int .i64 T.nons,.slice aA T.acts.length cA,.slice aG T.goto.length cG] 26)).alloc (.cells #[.slice none 0 0,.int .i64 0,.int .i64 0,.slice none 0 0,.slice none 0 0,.slice none 0 0,.slice none 0 0] 32)=w2 at*;refine(RI.out _ B2.out).mono ?_;rintro e w3 ⟨rfl,hb3⟩;have B3:=zV7 (Gr.step B2.out hb3);have Y3:=(hb3.block _ (Array.getElem?_eq_some_iff.1 Y2.out).1).trans Y2.out;have y0:=zAA Y3 (k:=0) (by simp);have y1:=zAA Y3 (k:=1) (by simp);have y2:=zAA Y3 (k:=2) (by simp);have y3:=zAA Y3 (k:=3) (by simp);have y4:=zAA Y3 (k:=4) (by simp);have y5:=zAA Y3 (k:=5) (by simp);have y6:=zAA Y3 (k:=6) (by simp);have f0:=zAM (k:=0) Y3;have f1:=zAM (k:=1) Y3;have f2:=zAM (k:=2) Y3;have f3:=zAM (k:=3) Y3;have f4:=zAM (k:=4) Y3;have f5:=zAM (k:=5) Y3;have f6:=zAM (k:=6) Y3;have EE:=zV7 (zDD Y3 (.slice none 0 0) (.int .i64 0) (.int .i64 0) (.slice none 0 0) (.slice none 0 0) (.slice none 0 0) (.slice none 0 0));have E2:=zV7 (NO.out (set7 w3 (w.heap.size+1) (.slice none 0 0) (.int .i64 0) (.int .i64 0) (.slice none 0 0) (.slice none 0 0) (.slice none 0 0) (.slice none 0 0)) (zBp B3.out (Nat.le_succ _) _ _ _ _ _ _ _));clear z0 z1 z2 z3 z4 hb3 Y2 Z2 B2 RI NO Y3;go_wp2;change bodyPost _ _ _ _ _ (set7 w3 (w.heap.size+1) (.slice none 0 0) (.int .i64 0) (.int .i64 0) (.slice none 0 0) (.slice none 0 0) (.slice none 0 0) (.slice none 0 0));obtain⟨e0,e1,e2,e3,e4,e5,e6⟩:=EE.out;generalize set7 w3 (w.heap.size+1) (.slice none 0 0) (.int .i64 0) (.int .i64 0) (.slice none 0 0) (.slice none 0 0) (.slice none 0 0) (.slice none 0 0)=wE at*;exact bodyPost_ret (v:=.tuple #[.agg #[.slice none 0 0,.int .i64 0,.int .i64 0,.slice none 0 0,.slice none 0 0,.slice none 0 0,.slice none 0 0],.bool false]) (by simp[results,Tryz.results10,go_sem,e0,e1,e2,e3,e4,e5,e6]) rfl E2.out
end Pk
namespace Ac
open Gr (cell_later checkN)
open Lk (LkR EndR)
open Au
open Rg
open Go.Proofs.YtegeamggbglneaaGreatDoor.Sep
attribute [local go_sem] Oper.semAt_some
structure Dat (m:Am) (q:Whole) (wD:World):Prop where
 hv:checkN m.G=0
 done:Done m.G q
 small:Small (states q)
 nS:m.nS=(states q).length
 nL:m.nL=q.1.length
 sta:StaA m.aS (states q) wD
 lks:LkR m.aL ((List.range q.1.length).map (augR m.G q)) wD
 len:q.1.length<=2000
 few:m.G.rules.length<=100000/\m.G.terms.length<=100000
theorem Dat.went{m}{q}{wD w}(h:Dat m q wD)(hb:Below wD.heap.size wD w):Dat m q w:=
 ⟨h.hv,h.done,h.small,h.nS,h.nL,h.sta.went hb,h.lks.went hb,h.len,h.few⟩
theorem zAA{w:World}{b}{cs}{T}(h:w.heap[b]?=some (.cells cs T (0,0))){k}(hk):w.cell? ⟨b,k,none⟩=some cs[k]:=by
 unfold World.cell?;simp only[h];exact Array.getElem?_eq_getElem hk
def AmC(m:Am)(b:Nat)(w:World):Prop:=
 w.cell? ⟨b,0,none⟩=some (.slice m.h.a1 m.G.terms.length m.h.c1)/\w.cell? ⟨b,1,none⟩=some (.slice m.h.a2 m.G.nons.length m.h.c2)/\w.cell? ⟨b,2,none⟩=some (.slice m.h.a3 m.G.rules.length m.h.c3)/\w.cell? ⟨b,3,none⟩=some (.int .i64 m.G.start)/\
 w.cell? ⟨b,4,none⟩=some (.slice m.aS m.nS m.cS)/\w.cell? ⟨b,5,none⟩=some (.slice m.aL m.nL m.cL)
theorem zAZ{m}{b}{w}{T}(h:w.heap[b]?=some (.cells (amc m) T (0,0))):AmC m b w:=
 ⟨zAA h (k:=0) (by simp[amc]),zAA h (k:=1) (by simp[amc]),zAA h (k:=2) (by simp[amc]),zAA h (k:=3) (by simp[amc]),zAA h (k:=4) (by simp[amc]),zAA h (k:=5) (by simp[amc])⟩
theorem zOq{G}{q}{i}{y}(h:y∈augR G q i)(hf:G.terms.length<=100000):y.2.length<=200000:=by
 classical
 have hl:∀x,(Lk.laL G q i x).length<=200000:=fun x=>by
  unfold Lk.laL;refine Nat.le_trans (List.length_filter_le _ _) ?_;rw[List.length_range];omega
 unfold augR at h;rw[zGn,List.mem_append,List.mem_map]at h;rcases h with h|⟨k,hk,rfl⟩
 ·split at h
  ·rw[List.mem_singleton]at h;subst h;exact hl _
  ·cases h
 ·exact hl _
def zCX(wD:World)(b1 b2 b3:Nat):Nat->Prop:=fun k=>k<wD.heap.size\/k=b1\/k=b2\/k=b3
noncomputable def encP(m:Am)(q:Whole)(i t:Nat):Nat->Array Value:=fun k=>#[acv ((actL m.G q i t).getD k (0,0))]
theorem zFb(m:Am)(q:Whole)(wD w0:World)(D:Dat m q wD)(hb:Below wD.heap.size wD w0)(i t b1 b2 b3:Nat)(hi:i<q.1.length)
  (h1:w0.heap[b1]?=some (.cells (amc m) 104 (0,0))) (h2:w0.heap[b2]?=some (.cells #[.int .i64 (i:Int)] 3 (0,0))) (h3:w0.heap[b3]?=some (.cells #[.int .i64 (t:Int)] 3 (0,0))):
  Rg.Yields Tryz.prog 120 #[.pointer (some ⟨b1,0,none⟩),.pointer (some ⟨b2,0,none⟩),.pointer (some ⟨b3,0,none⟩)] (encP m q i t) (actL m.G q i t).length (zCX wD b1 b2 b3) w0:=by
 intro l J Jx S X W hF hO hin hiX hJ hJx hY h0;have hlt:∀b o,w0.heap[b]?=some o->b<w0.heap.size:=fun b o h=>(Array.getElem?_eq_some_iff.1 h).1
 have hOi:Inn (zCX wD b1 b2 b3) w0:=by
  rintro k (h|rfl|rfl|rfl)
  ·have:=hb.size;omega
  ·exact hlt _ _ h1
  ·exact hlt _ _ h2
  ·exact hlt _ _ h3
 have hOW:=hOi.le hF.size;have hat:∀{b:Nat} {o:Obj},w0.heap[b]?=some o->zCX wD b1 b2 b3 b->W.heap[b]?=some o:=fun {b o} h ho=>(hF.block b (hlt _ _ h) fun hs=>hO b hs ho).trans h
 have g1:=hat h1 (.inr (.inl rfl));have g2:=hat h2 (.inr (.inr (.inl rfl)));have g3:=hat h3 (.inr (.inr (.inr rfl)));have hbW:Below wD.heap.size wD W:=⟨hF.os.trans hb.os,hF.tape.trans hb.tape,hF.output.trans hb.output,Nat.le_trans hb.size hF.size,fun x hx=>(hF.block x (by have:=hb.size;omega) fun hs=>hO x hs (.inl hx)).trans (hb.block x hx)⟩;clear h1 h2 h3 hat hlt;have hZs:((List.range q.1.length).map (augR m.G q))[i]?=some (augR m.G q i):=by rw[List.getElem?_map,List.getElem?_range hi];rfl
 obtain⟨hZl,hZe⟩:=List.getElem?_eq_some_iff.1 hZs;obtain⟨bL,a2,c2,eL,hL,hE⟩:=D.lks i hZl;rw[hZe]at hL hE;clear hZs hZl hZe;have hnL:(i:Int)<(m.nL:Int):=by rw[D.nL];omega
 have hsm:=D.len;have hnl2:m.nL=q.1.length:=D.nL
 have hZlen:(augR m.G q i).length<=200000:=by
  have h1:=D.few.1;have h2:(augR m.G q i).length=(Lk.zAo m.G q i).length:=zPF _ _
  have h3:(Lk.zAo m.G q i).length<=m.G.rules.length+1:=by
   unfold Lk.zAo;rw[List.length_map];refine Nat.le_trans (List.length_filter_le _ _) ?_;rw[List.length_range];exact Nat.le_refl _
  omega
 have RD:=zV7 (show∀(J':Nat->(Nat->Prop)->World->Prop) (k:Nat) (S1:Nat->Prop) (W1:World),St J' S (zCX wD b1 b2 b3) W k S1 W1->Dat m q W1/\(W1.cell? ⟨b1,0,none⟩=some (.slice m.h.a1 m.G.terms.length m.h.c1)/\W1.cell? ⟨b1,1,none⟩=some (.slice m.h.a2 m.G.nons.length m.h.c2)/\W1.cell? ⟨b1,2,none⟩=some (.slice m.h.a3 m.G.rules.length m.h.c3)/\W1.cell? ⟨b1,3,none⟩=some (.int .i64 m.G.start)/\
   W1.cell? ⟨b1,4,none⟩=some (.slice m.aS m.nS m.cS)/\W1.cell? ⟨b1,5,none⟩=some (.slice (some ⟨bL,0,none⟩) m.nL m.cL))/\W1.cell? ⟨b2,0,none⟩=some (.int .i64 (i:Int))/\W1.cell? ⟨b3,0,none⟩=some (.int .i64 (t:Int))/\W1.cell? ⟨bL,i,none⟩=some (.slice a2 (augR m.G q i).length c2)/\EndR a2 (augR m.G q i) W1 from
  fun J' k S1 W1 st=>by
   have hbx:=st.below hO hbW (fun x hx=> .inl hx) (Nat.le_trans hb.size hF.size);obtain⟨x0,x1,x2,x3,x4,x5⟩:=zAZ ((st.same hOW hO (.inr (.inl rfl))).trans g1);rw[eL]at x5
   exact⟨D.went hbx,⟨x0,x1,x2,x3,x4,x5⟩,
    zAA (cs:=#[.int .i64 (i:Int)]) ((st.same hOW hO (.inr (.inr (.inl rfl)))).trans g2) (k:=0) (by simp),zAA (cs:=#[.int .i64 (t:Int)]) ((st.same hOW hO (.inr (.inr (.inr rfl)))).trans g3) (k:=0) (by simp),cell_later hbx hL,hE.went hbx⟩)
 have YD:=zV7 (show∀(k:Nat) (x:Ac2) (S1:Nat->Prop) (W1:World),(actL m.G q i t)[k]?=some x->St J S (zCX wD b1 b2 b3) W k S1 W1->YieldAt Fence.wide 0 Tryz.prog l #[.agg #[.int .i64 x.1,.int .i64 x.2]] W1 (Said X J Jx k S1 W1)from
  fun k x S1 W1 hx st=>by
   have h:=hY k S1 W1 (List.getElem?_eq_some_iff.1 hx).1 st.j st.inn;unfold encP acv at h;rw[List.getD_eq_getElem?_getD,hx]at h
   exact h)
 have S0:=zV7 (St.start (O:=zCX wD b1 b2 b3) h0 hin hO);have TH:=zV7 (show∀(k:Nat) (S1 S':Nat->Prop) (W1 W2:World),St J S (zCX wD b1 b2 b3) W k S1 W1->Ext S' S1 W1->Fr S1 W1 W2->Inn S' W2->J (k+1) S' W2->St J S (zCX wD b1 b2 b3) W (k+1) S' W2 from fun k S1 S' W1 W2 st he hf hi hj=>st.then hOW he hf hi hj);have WT:=zV7 (show∀(k:Nat) (S1:Nat->Prop) (W1 W2:World),St J S (zCX wD b1 b2 b3) W k S1 W1->Below W1.heap.size W1 W2->St J S (zCX wD b1 b2 b3) W k S1 W2 from fun k S1 W1 W2 st h=>st.went hJ h);have GT:=zV7 (show∀W1,Dat m q W1->Calls Tryz.prog 99 #[.slice m.aS m.nS m.cS,.int .i64 (i:Int),.int .i64 (t:Int)] W1 (Gr.Is (.int .i64 (zEh (states q) (i:Int) (t:Int))) W1)from fun W1 d=>by rw[d.nS];exact zGw (states q) m.aS m.cS i t W1 d.sta d.small)
 have DN:=zV7 (show∀(k:Nat) (S1:Nat->Prop) (W1:World),k=(actL m.G q i t).length->St J S (zCX wD b1 b2 b3) W k S1 W1->∀v,(∃v',Ending.returned v=.returned v')/\∃S',Inn S' W1/\((Ext S' S W/\Fr S W W1/\J (actL m.G q i t).length S' W1)\/(Ext S' (Or2 S X) W/\Fr (Or2 S X) W W1/\∃k,k<=(actL m.G q i t).length/\Jx k S' W1))from
  fun k S1 W1 e st v=>⟨⟨v,rfl⟩,S1,st.inn,.inl ⟨st.ext,st.fr,e▸st.j⟩⟩)
 have XN:=zV7 (show∀(k:Nat) (x:Ac2) (S1 S':Nat->Prop) (W1 W2:World),(actL m.G q i t)[k]?=some x->St J S (zCX wD b1 b2 b3) W k S1 W1->Ext S' (Or2 S1 X) W1->Fr (Or2 S1 X) W1 W2->Inn S' W2->Jx (k+1) S' W2->∀v,(∃v',Ending.returned v=.returned v')/\∃S',Inn S' W2/\((Ext S' S W/\Fr S W W2/\J (actL m.G q i t).length S' W2)\/(Ext S' (Or2 S X) W/\Fr (Or2 S X) W W2/\∃k,k<=(actL m.G q i t).length/\Jx k S' W2))from
  fun k x S1 S' W1 W2 hx st he hf hi hj v=>by
   have s2:=st.stop he hf hi hj
   exact⟨⟨v,rfl⟩,S',s2.inn,.inr ⟨s2.ext,s2.fr,k+1,(List.getElem?_eq_some_iff.1 hx).1,hj⟩⟩)
 have SH:=zFo D.done hi t;have AT:=zV7 (fun(mm:Nat) (h:mm<(augR m.G q i).length) (ht:t∈(augR m.G q i)[mm].2)=>zUH D.done D.hv h ht);have AL:=zV7 (zR7 D.done D.hv i t);have few:=D.few;obtain⟨d0,⟨c0,c1,c2',c3,c4,c5⟩,c6,c7,c8,hE0⟩:=RD.out _ _ _ _ S0.out;clear hY h0 hin hE hL eL g1 g2 g3 hOi hOW D hb hbW hF hO;refine zJt (n:=9) (o:=none) ?_;refine callsIn_of_wp Tryz.func120 rfl trivial ?_ rfl;simp only[Tryz.ntmps120,List.size_toArray,List.length_cons,List.length_nil,Nat.reduceAdd,Nat.reduceSub,Array.replicate_succ,Array.replicate_zero,List.push_toArray,List.append_toArray,List.nil_append,List.cons_append];rcases SH with⟨hg,hs⟩|⟨n,hg,hn,hs⟩
 case' inl=>
  rw[hg]at GT
  gi_wp2_with (refine⟨trivial,?_⟩;gi_at_call 99;refine(zBU (GT.out _ d0)).mono ?_;rintro e w1 ⟨rfl,hb1⟩;have S1:=zV7 (WT.out _ _ _ _ S0.out hb1);clear c0 c1 c2' c3 c4 c5 c6 c7 c8;obtain⟨d1,⟨c0,c1,c2',c3,c4,c5⟩,c6,c7,c8,hE1⟩:=RD.out _ _ _ _ S1.out)
  refine⟨fun _ h=>(by cases h),?_⟩;have SL:=zV7 (show St J S (zCX wD b1 b2 b3) W ((zBY q i t).length+part (augR m.G q i) t 0) S w1 from by rw[hs,zIL];exact S1.out);clear hb1 d0 d1 hE0 hE1
  gi_wp2
 case' inr=>
  rw[hg]at GT
  have h0:(actL m.G q i t)[0]?=some (1,(n:Int)):=by
   unfold actL;rw[hs]
   rfl
  gi_wp2_with (refine⟨trivial,?_⟩;gi_at_call 99;refine(zBU (GT.out _ d0)).mono ?_;rintro e w1 ⟨rfl,hb1⟩;have S1:=zV7 (WT.out _ _ _ _ S0.out hb1);clear c0 c1 c2' c3 c4 c5 c6 c7 c8;obtain⟨fn,tm,asg,bd,hy,hR⟩:=YD.out 0 _ _ _ h0 S1.out)
  refine(zDx hR).mono ?_;rintro e w2 ⟨S2,hin,(⟨rfl,he,hf,hj⟩|⟨rfl,he,hf,hj⟩)⟩
  case' inl=>
   have S3:=zV7 (TH.out _ _ _ _ _ S1.out he hf hin hj);obtain⟨d1,⟨c0,c1,c2',c3,c4,c5⟩,c6,c7,c8,hE1⟩:=RD.out _ _ _ _ S3.out;have SL:=zV7 (show St J S (zCX wD b1 b2 b3) W ((zBY q i t).length+part (augR m.G q i) t 0) S2 w2 from by rw[hs,zIL];exact S3.out);clear hb1 d0 d1 hE0 hE1 S1 hy hR he hf hin hj;have S1:=S3;clear S3
   gi_wp2
  case inr=>
   have EX:=zV7 (XN.out _ _ _ _ _ _ h0 S1.out he hf hin hj)
   gi_wp2
   refine bodyPost_ret (results_none rfl _ _ _) rfl ?_;exact EX.out _
 all_goals
  gi_loopw [30] (fun v wr=>∃(mm:Nat) (S1:Nat->Prop),v=.int .i64 (mm:Int)/\mm<=(augR m.G q i).length/\St J S (zCX wD b1 b2 b3) W ((zBY q i t).length+part (augR m.G q i) t mm) S1 wr) (fun v _=>(augR m.G q i).length-(intOf v).toNat)
  case atStart=>exact⟨0,_,rfl,Nat.zero_le _,SL.out⟩
  case round=>
   clear c0 c1 c2' c3 c4 c5 c6 c7 c8 S1 SL;obtain⟨mm,S2,rfl,hmm,st⟩:=hrel;have ST:=zV7 st;clear st;obtain⟨d2,⟨c0,c1,c2',c3,c4,c5⟩,c6,c7,c8,hE2⟩:=RD.out _ _ _ _ ST.out
   by_cases hlt:mm<(augR m.G q i).length
   ·obtain⟨b',a3,c9,rfl,e1,e2,e3⟩:=hE2 mm hlt;have hmem:=zKw (List.getElem_mem hlt);have hle:=zOq (List.getElem_mem hlt) few.2;have BS:=zV7 (fun W1 (h:Below wr.heap.size wr W1)=>zUM (augR m.G q i)[mm].2 a3 c9 t W1 (e3.below h (Nat.le_refl _)) hmem.1 (by omega))
    have RU:=zV7 (show∀W1,Calls Tryz.prog 122 #[.agg #[.slice m.h.a1 m.G.terms.length m.h.c1,.slice m.h.a2 m.G.nons.length m.h.c2,.slice m.h.a3 m.G.rules.length m.h.c3,.int .i64 m.G.start,.slice m.aS m.nS m.cS,.slice (some ⟨bL,0,none⟩) q.1.length m.cL],.int .i64 ((augR m.G q i)[mm].1:Int)] W1 (fun e w'=>e=.returned (.agg #[.int .i64 (redA m.G.rules.length (augR m.G q i)[mm].1).1,.int .i64 (redA m.G.rules.length (augR m.G q i)[mm].1).2])/\Below W1.heap.size W1 w')from
     fun W1=>zTg {m with aL:=some ⟨bL,0,none⟩,nL:=q.1.length} (augR m.G q i)[mm].1 W1 hmem.2)
    have hx1:(wr.alloc (.cells #[.int .i64 ((augR m.G q i)[mm].1:Int),.slice a3 (augR m.G q i)[mm].2.length c9] 186)).cell? ⟨wr.heap.size,0,none⟩=some (.int .i64 ((augR m.G q i)[mm].1:Int)):=zAA (cs:=#[.int .i64 ((augR m.G q i)[mm].1:Int),.slice a3 (augR m.G q i)[mm].2.length c9]) (World.alloc_heap_new _ _) (k:=0) (by simp);have hba:Below wr.heap.size wr (wr.alloc (.cells #[.int .i64 ((augR m.G q i)[mm].1:Int),.slice a3 (augR m.G q i)[mm].2.length c9] 186)):=(Below.refl _ wr).alloc (Nat.le_refl _) _;have c10:=cell_later hba c7;have ps:=zOA (t:=t) hlt
    by_cases ht:t∈(augR m.G q i)[mm].2
    ·have hk:=AT.out mm hlt ht;rw[if_pos ht]at ps;rw[decide_eq_true ht]at BS;clear hE2 hmem e3 d2
     gi_wp2_with (first
      |(refine⟨trivial,?_⟩;gi_at_call 121;refine(zBU (BS.out _ hba)).mono ?_;rintro e w2 ⟨p,rfl,hb2⟩;have S4:=zV7 (WT.out _ _ _ _ (WT.out _ _ _ _ ST.out hba) hb2);clear c0 c1 c2' c3 c4 c5 c6 c7 c8 e1 e2;obtain⟨d2,⟨c0,c1,c2',c3,c4,c5⟩,c6,c7,c8,hE2⟩:=RD.out _ _ _ _ S4.out;have hx2:=cell_later hb2 hx1)
      | (refine⟨trivial,?_⟩;gi_at_call 122;refine(zBU (RU.out _)).mono ?_;rintro e w3 ⟨rfl,hb3⟩;have S5:=zV7 (WT.out _ _ _ _ S4.out hb3);obtain⟨fn,tm,asg,bd,hy,hR⟩:=YD.out _ _ _ _ hk S5.out))
     refine(zDx hR).mono ?_;rintro e w4 ⟨S6,hin,(⟨rfl,he,hf,hj⟩|⟨rfl,he,hf,hj⟩)⟩
     ·have S7:=zV7 (TH.out _ _ _ _ _ S5.out he hf hin hj);clear hy hR he hf hin hj c0 c1 c2' c3 c4 c5 c6 c7 c8 hx1 hx2
      gi_wp2
      go_roundw
      case rel=>exact⟨mm+1,S6,by simp,by omega,by rw[ps,←Nat.add_assoc];exact S7.out⟩
      case measure=>simp[intOf];omega
     ·have EX:=zV7 (XN.out _ _ _ _ _ _ hk S5.out he hf hin hj);clear hR he hf hin hj c0 c1 c2' c3 c4 c5 c6 c7 c8 hx1 hx2
      gi_wp2
      refine bodyPost_ret (results_none rfl _ _ _) rfl ?_;exact EX.out _
    ·rw[if_neg ht]at ps;rw[decide_eq_false ht]at BS;clear hE2 hmem e3 d2
     gi_wp2_with (first|(refine⟨trivial,?_⟩;gi_at_call 121;refine(zBU (BS.out _ hba)).mono ?_;rintro e w2 ⟨p,rfl,hb2⟩;have S4:=zV7 (WT.out _ _ _ _ (WT.out _ _ _ _ ST.out hba) hb2)))
     refine⟨trivial,?_⟩
     gi_wp2
     refine⟨fun _ h=>(by cases h),?_⟩
     gi_wp2
     go_roundw
     case rel=>exact⟨mm+1,S2,by simp,by omega,by rw[ps];exact S4.out⟩
     case measure=>simp[intOf];omega
   ·obtain rfl:mm=(augR m.G q i).length:=by omega
    gi_wp2
    go_end0;exact DN.out _ _ _ AL.out.symm ST.out _
end Ac
namespace Ac
open Au
open Rg
open Go.Proofs.YtegeamggbglneaaGreatDoor.Sep
attribute [local go_sem] Oper.semAt_some
def clv(x:Cl4):Value:=.agg #[.int .i64 x.1,.int .i64 x.2.1,.int .i64 x.2.2.1.1,.int .i64 x.2.2.1.2,.int .i64 x.2.2.2.1,.int .i64 x.2.2.2.2]
noncomputable def encC(m:Am)(q:Whole):Nat->Array Value:=fun k=>#[clv ((zBP m.G q).getD k (0,0,(0,0),(0,0)))]
def oCl(wD:World)(b1:Nat):Nat->Prop:=fun k=>k<wD.heap.size\/k=b1
def yObj(l:Nat):Obj:=.cells #[.func (.yield l) #[] #[]] 147 (0,0)
structure CSt (J:Nat->(Nat->Prop)->World->Prop) (S O:Nat->Prop) (W:World) (l k:Nat) (S1:Nat->Prop) (ds:List Deferred) (wr:World):Prop where
 st:St J S O W k S1 wr
 marks:Marks W S1 wr ds
 yb:Mine W S1 wr W.heap.size (yObj l)
section
variable {J:Nat->(Nat->Prop)->World->Prop} {S O S1:Nat->Prop} {W wr w':World} {l k:Nat} {ds:List Deferred}
theorem CSt.alloc(h:CSt J S O W l k S1 ds wr)(hJ:Holds W.heap.size J)(o):CSt J S O W l k S1 ds (wr.alloc o):=⟨h.st.alloc hJ o,h.marks.alloc o,h.yb.alloc o⟩
theorem CSt.went(h:CSt J S O W l k S1 ds wr)(hJ:Holds W.heap.size J)(hb:Below wr.heap.size wr w'):CSt J S O W l k S1 ds w':=
 ⟨h.st.went hJ hb,h.marks.own (T:=fun _=>False) (.of_below hb) fun _ h=>h.elim,h.yb.went hb⟩
end
theorem zAU{w:World}{b k}{cs}{T}(h:w.heap[b]?=some (.cells cs T (0,0)))(v):(w.setCell ⟨b,k,none⟩ v).heap[b]?=some (.cells (cs.setIfInBounds k v) T (0,0)):=by
 rw[setCell_eq_setRow w b k cs T (0,0) v h];exact setRow_heap w b cs _ T (0,0) h
theorem zAM{w:World}{b k}{cs}{T}(h:w.heap[b]?=some (.cells cs T (0,0))):w.frozen? ⟨b,k,none⟩=false:=by
 simp[World.frozen?,h]
noncomputable def fk(m:Am)(q:Whole)(i t k:Nat):Ac2:=if k=0 then(0,0)else(actL m.G q i t).getD 0 (0,0)
def aObj(x:Ac2):Obj:=.cells #[.int .i64 x.1,.int .i64 x.2] 57 (0,0)
def inI(J:Nat->(Nat->Prop)->World->Prop)(S O:Nat->Prop)(W:World)(m:Am)(q:Whole)(i t bf:Nat)(k:Nat)(S':Nat->Prop)(w:World):Prop:=
 ∃S3,S'=(fun x=>S3 x\/x=bf)/\St J S O W (cT m.G q i t+(k-1)) S3 w/\Mine W S3 w bf (aObj (fk m q i t k))
def inX(Jx:Nat->(Nat->Prop)->World->Prop)(S X:Nat->Prop)(W:World)(N bf:Nat)(c:Code)(k:Nat)(S':Nat->Prop)(w:World):Prop:=
 c=.ret/\∃S3 k',S'=(fun x=>S3 x\/x=bf)/\k'<=N/\Fin Jx S X W k' S3 w
theorem zNA{J}{S O}{W w5:World}(hJ:Holds W.heap.size J)(hs:W.heap.size<=w5.heap.size)(m)(q)(i t bf):Holds w5.heap.size (inI J S O W m q i t bf):=by
 rintro k S' T A A' ⟨S3,rfl,st,mb⟩ hi hf hT;exact⟨S3,rfl,st.own hJ hf fun x hx=>⟨Nat.le_trans hs (hT x hx).1,fun h=>(hT x hx).2 (.inl h)⟩,mb.own hf fun h=>(hT _ h).2 (.inr rfl)⟩
theorem zND{Jx}{S X}{W w5:World}(hJx:Holds W.heap.size Jx)(hs:W.heap.size<=w5.heap.size)(N bf)(c):Holds w5.heap.size (inX Jx S X W N bf c):=by
 rintro k S' T A A' ⟨rfl,S3,k',rfl,hk,st⟩ hi hf hT;exact⟨rfl,S3,k',rfl,hk,st.own hJx hf fun x hx=>⟨Nat.le_trans hs (hT x hx).1,fun h=>(hT x hx).2 (.inl h)⟩⟩
structure PW (J:Nat->(Nat->Prop)->World->Prop) (S:Nat->Prop) (W:World) (m:Am) (wD:World) (b1 l k i t br bx:Nat) (S2:Nat->Prop) (ds:List Deferred) (w5:World):Prop where
 c:CSt J S (oCl wD b1) W l k S2 ds w5
 bi:Mine W S2 w5 br (.cells #[.int .i64 (i:Int)] 3 (0,0))
 bt:Mine W S2 w5 bx (.cells #[.int .i64 (t:Int)] 3 (0,0))
 bf:Mine W S2 w5 (bx+1) (aObj (0,0))
 p1:w5.heap[bx+1+1]?=some (.cells (amc m) 104 (0,0))
 p2:w5.heap[bx+1+1+1]?=some (.cells #[.int .i64 (i:Int)] 3 (0,0))
 p3:w5.heap[bx+1+1+1+1]?=some (.cells #[.int .i64 (t:Int)] 3 (0,0))
 from_:W.heap.size<=bx
 le5:W.heap.size<=w5.heap.size
 off:Off (fun x=>S2 x\/x=bx+1) (zCX wD (bx+1+1) (bx+1+1+1) (bx+1+1+1+1))
 inn5:Inn (zCX wD (bx+1+1) (bx+1+1+1) (bx+1+1+1+1)) w5
 inn:Inn (fun x=>S2 x\/x=bx+1) w5
theorem zLj{J}{S S2}{W wx w5 wD}{m}{b1 l k i t br:Nat}{ds}(hJ:Holds W.heap.size J)(hD:wD.heap.size<=W.heap.size)(hin:Inn S2 wx)
  (h4:CSt J S (oCl wD b1) W l k S2 ds ((wx.alloc (.cells #[.int .i64 (t:Int)] 3)).alloc (.cells #[.int .i64 0,.int .i64 0] 57)))
  (hbi:Mine W S2 ((wx.alloc (.cells #[.int .i64 (t:Int)] 3)).alloc (.cells #[.int .i64 0,.int .i64 0] 57)) br (.cells #[.int .i64 (i:Int)] 3 (0,0)))
  (hbt:Mine W S2 ((wx.alloc (.cells #[.int .i64 (t:Int)] 3)).alloc (.cells #[.int .i64 0,.int .i64 0] 57)) wx.heap.size (.cells #[.int .i64 (t:Int)] 3 (0,0)))
  (hbf:Mine W S2 ((wx.alloc (.cells #[.int .i64 (t:Int)] 3)).alloc (.cells #[.int .i64 0,.int .i64 0] 57)) (wx.heap.size+1) (.cells #[.int .i64 0,.int .i64 0] 57 (0,0)))
  (hw:w5=zHR m i t ((wx.alloc (.cells #[.int .i64 (t:Int)] 3)).alloc (.cells #[.int .i64 0,.int .i64 0] 57))):
  PW J S W m wD b1 l k i t br wx.heap.size S2 ds w5:=by
 subst hw;have hx:W.heap.size<=wx.heap.size:=hbt.1;generalize hw4:(wx.alloc (.cells #[.int .i64 (t:Int)] 3)).alloc (.cells #[.int .i64 0,.int .i64 0] 57)=w4 at*;have hs4:w4.heap.size=wx.heap.size+1+1:=by rw[←hw4];simp
 have hb:Below w4.heap.size w4 (zHR m i t w4):=(((Below.refl _ w4).alloc (Nat.le_refl _) _).alloc (by simp) _).alloc (by simp;omega) _;have e:(zHR m i t w4).heap.size=wx.heap.size+1+1+1+1+1:=by simp[zHR,hs4]
 have hk:∀{w:World} {b:Nat} {o o':Obj},w.heap[b]?=some o->(w.alloc o').heap[b]?=some o:=fun {w b o o'} h=>(Below.heap_alloc w o' b (Array.getElem?_eq_some_iff.1 h).1).trans h
 have q1:(w4.alloc (.cells (amc m) 104)).heap[wx.heap.size+1+1]?=some (.cells (amc m) 104 (0,0)):=by rw[←hs4];exact World.alloc_heap_new _ _
 have q2:((w4.alloc (.cells (amc m) 104)).alloc (.cells #[.int .i64 (i:Int)] 3)).heap[wx.heap.size+1+1+1]?=some (.cells #[.int .i64 (i:Int)] 3 (0,0)):=by
  have:=World.alloc_heap_new (w4.alloc (.cells (amc m) 104)) (.cells #[.int .i64 (i:Int)] 3)
  rwa [World.size_alloc,hs4]at this
 have q3:(zHR m i t w4).heap[wx.heap.size+1+1+1+1]?=some (.cells #[.int .i64 (t:Int)] 3 (0,0)):=by
  have:=World.alloc_heap_new ((w4.alloc (.cells (amc m) 104)).alloc (.cells #[.int .i64 (i:Int)] 3)) (.cells #[.int .i64 (t:Int)] 3)
  rwa [World.size_alloc,World.size_alloc,hs4]at this
 refine⟨h4.went hJ hb,hbi.went hb,hbt.went hb,hbf.went hb,hk (hk q1),hk q2,q3,hx,by omega,?_,?_,?_⟩
 ·rintro x hx' ho;have h1:x<wx.heap.size+1+1:=hx'.elim (fun h=>by have:=hin x h;omega) fun h=>by omega
  rcases ho with h|h|h|h
  ·rcases hx' with h2|h2
   ·exact h4.st.off x h2 (.inl h)
   ·omega
  all_goals omega
 ·rintro x (h|h|h|h)
  all_goals omega
 ·rintro x (h|h)
  ·have:=hin x h;omega
  ·omega
theorem zHm(m:Am)(q:Whole)(wD w0:World)(D:Dat m q wD)(hb:Below wD.heap.size wD w0)(b1:Nat)
  (h1:w0.heap[b1]?=some (.cells (amc m) 104 (0,0))):
  Rg.Yields Tryz.prog 96 #[.pointer (some ⟨b1,0,none⟩)] (encC m q) (zBP m.G q).length (oCl wD b1) w0:=by
 intro l J Jx S X W hF hO hin hiX hJ hJx hY h0
 have hOi:Inn (oCl wD b1) w0:=by
  rintro k (h|rfl)
  ·have:=hb.size;omega
  ·exact(Array.getElem?_eq_some_iff.1 h1).1
 have hOW:=hOi.le hF.size;have g1:W.heap[b1]?=some (.cells (amc m) 104 (0,0)):=(hF.block b1 (hOi b1 (.inr rfl)) fun hs=>hO b1 hs (.inr rfl)).trans h1;have hbW:Below wD.heap.size wD W:=⟨hF.os.trans hb.os,hF.tape.trans hb.tape,hF.output.trans hb.output,Nat.le_trans hb.size hF.size,fun x hx=>(hF.block x (by have:=hb.size;omega) fun hs=>hO x hs (.inl hx)).trans (hb.block x hx)⟩;clear h1;have hnS:m.nS=q.1.length:=by rw[D.nS,zAv D.done.all]
 have HN:=zV7 hnS;have hDW:wD.heap.size<=W.heap.size:=Nat.le_trans hb.size hF.size;have hsm:m.nS<=2000:=by have:=D.len;omega
 have hT:m.G.terms.length<=100000:=D.few.2
 have RD:=zV7 (show∀(J':Nat->(Nat->Prop)->World->Prop) (k:Nat) (S1:Nat->Prop) (W1:World),St J' S (oCl wD b1) W k S1 W1->Dat m q W1/\Below wD.heap.size wD W1/\AmC m b1 W1 from
  fun J' k S1 W1 st=>by
   have hbx:=st.below hO hbW (fun x hx=> .inl hx) (Nat.le_trans hb.size hF.size)
   exact⟨D.went hbx,hbx,zAZ ((st.same hOW hO (.inr rfl)).trans g1)⟩)
 have YD:=zV7 (show∀(k:Nat) (x:Cl4) (S1:Nat->Prop) (W1:World),(zBP m.G q)[k]?=some x->St J S (oCl wD b1) W k S1 W1->YieldAt Fence.wide 0 Tryz.prog l #[clv x] W1 (Said X J Jx k S1 W1)from
  fun k x S1 W1 hx st=>by
   have h:=hY k S1 W1 (List.getElem?_eq_some_iff.1 hx).1 st.j st.inn;unfold encC at h;rw[List.getD_eq_getElem?_getD,hx]at h
   exact h)
 have DN:=zV7 (show∀(S1:Nat->Prop) (W1:World),St J S (oCl wD b1) W (cI m.G q m.nS) S1 W1->∀v,(∃v',Ending.returned v=.returned v')/\∃S',Inn S' W1/\((Ext S' S W/\Fr S W W1/\J (zBP m.G q).length S' W1)\/(Ext S' (Or2 S X) W/\Fr (Or2 S X) W W1/\∃k,k<=(zBP m.G q).length/\Jx k S' W1))from
  fun S1 W1 st v=>⟨⟨v,rfl⟩,S1,st.inn,.inl ⟨st.ext,st.fr,by have:=st.j;rwa [hnS,zSN]at this⟩⟩)
 have S0:=zV7 (show CSt J S (oCl wD b1) W l 0 S [] (W.alloc (.cells #[.func (.yield l) #[] #[]] 147))from
  ⟨(St.start (O:=oCl wD b1) h0 hin hO).alloc hJ _,.nil,(St.start (O:=oCl wD b1) h0 hin hO).new⟩)
 obtain⟨d0,hb0,c0,c1,c2,c3,c4,c5⟩:=RD.out _ _ _ _ S0.out.st;have DD:=zV7 (⟨D,hb⟩:Dat m q wD/\_);clear hY h0 hin g1 hOi D hb hbW hF hnS;refine zJt (n:=9) (o:=none) ?_;refine callsIn_of_wp_marks Tryz.func96 rfl trivial ?_ rfl;simp only[Tryz.ntmps96,List.size_toArray,List.length_cons,List.length_nil,Nat.reduceAdd,Nat.reduceSub,Array.replicate_succ,Array.replicate_zero,List.push_toArray,List.append_toArray,List.nil_append,List.cons_append]
 gi_wp2
 refine wpIn_loop (fun a' wx=>∃(u3 u4 u5 u6 u10 u11 u12 u13 u14 u15 u16 u17 u18 u19 u20 u21 u22 u23 u24 u25 u26 u27 u28 u29 u30 u31 u32 u33 u34 u35 u36 u37 u38 u39:Value) (ds:List Deferred),(∃(i:Nat) (S1:Nat->Prop),u10=.int .i64 (i:Int)/\i<=m.nS/\CSt J S (oCl wD b1) W l (cI m.G q i) S1 ds wx)/\a'={tmps:=List.toArray (.func (.yield l) #[] #[]::.pointer (some ⟨b1,0,none⟩)::.pointer (some ⟨W.heap.size,0,none⟩)::u3::u4::u5::u6::.pointer (some ⟨b1,4,none⟩)::.slice m.aS m.nS m.cS::.int .i64 (m.nS:Int)::u10::u11::u12::u13::u14::u15::u16::u17::u18::u19::u20::u21::u22::u23::u24::u25::u26::u27::u28::u29::u30::u31::u32::u33::u34::u35::u36::u37::u38::u39::[]),defers:=ds}) (fun a' _=>m.nS-(intOf (a'.tmps.getD 10 undef)).toNat) ?_ ?_
 case refine_1=>
  (repeat apply Exists.intro)
  refine⟨?_,rfl⟩;exact⟨0,_,rfl,Nat.zero_le _,S0.out⟩
 case refine_2=>
  clear c0 c1 c2 c3 c4 c5 S0 d0 hb0;rintro a' wr ⟨u3,u4,u5,u6,u10,u11,u12,u13,u14,u15,u16,u17,u18,u19,u20,u21,u22,u23,u24,u25,u26,u27,u28,u29,u30,u31,u32,u33,u34,u35,u36,u37,u38,u39,ds,⟨i,S1,rfl,hi,cst⟩,rfl⟩;have ST:=zV7 cst;clear cst;obtain⟨d0,hb0,c0,c1,c2,c3,c4,c5⟩:=RD.out _ _ _ _ (ST.out.st.alloc hJ (.cells #[.int .i64 (i:Int)] 3));have BI:=zV7 (ST.out.st.new (o:=.cells #[.int .i64 (i:Int)] 3))
  by_cases hlt:i<m.nS
  ·gi_wp2
   refine wpIn_loop (fun a' wx=>∃(u4 u5 u6 u18 u19 u20 u21 u22 u23 u24 u25 u26 u27 u28 u29 u30 u31 u32 u33 u34 u35 u36 u37 u38 u39:Value) (ds:List Deferred),(∃(t:Nat) (S2:Nat->Prop),u18=.int .i64 (t:Int)/\t<=m.G.terms.length+1/\CSt J S (oCl wD b1) W l (cT m.G q i t) S2 ds wx/\Mine W S2 wx wr.heap.size (.cells #[.int .i64 (i:Int)] 3 (0,0)))/\a'={tmps:=List.toArray (.func (.yield l) #[] #[]::.pointer (some ⟨b1,0,none⟩)::.pointer (some ⟨W.heap.size,0,none⟩)::.pointer (some ⟨wr.heap.size,0,none⟩)::u4::u5::u6::.pointer (some ⟨b1,4,none⟩)::.slice m.aS m.nS m.cS::.int .i64 (m.nS:Int)::.int .i64 (i:Int)::.bool true::.int .i64 (i:Int)::.pointer (some ⟨b1,0,none⟩)::.pointer (some ⟨b1,0,none⟩)::.slice m.h.a1 m.G.terms.length m.h.c1::.int .i64 (m.G.terms.length:Int)::.int .i64 ((m.G.terms.length:Int)+1)::u18::u19::u20::u21::u22::u23::u24::u25::u26::u27::u28::u29::u30::u31::u32::u33::u34::u35::u36::u37::u38::u39::[]),defers:=ds}) (fun a' _=>m.G.terms.length+1-(intOf (a'.tmps.getD 18 undef)).toNat) ?_ ?_
   case refine_1=>
    (repeat apply Exists.intro)
    refine⟨?_,rfl⟩;exact⟨0,_,rfl,Nat.zero_le _,ST.out.alloc hJ _,BI.out⟩
   case refine_2=>
    clear c0 c1 c2 c3 c4 c5 d0 hb0 BI;rintro a' wx ⟨u4,u5,u6,u18,u19,u20,u21,u22,u23,u24,u25,u26,u27,u28,u29,u30,u31,u32,u33,u34,u35,u36,u37,u38,u39,ds2,⟨t,S2,rfl,ht,cst,bi⟩,rfl⟩;have C2:=zV7 cst;have BI:=zV7 bi;clear cst bi;have C4:=zV7 ((C2.out.alloc hJ (.cells #[.int .i64 (t:Int)] 3)).alloc hJ (.cells #[.int .i64 0,.int .i64 0] 57));obtain⟨d0,hb0,c0,c1,c2,c3,c4,c5⟩:=RD.out _ _ _ _ C4.out.st;have BI4:=zV7 ((BI.out.alloc (.cells #[.int .i64 (t:Int)] 3)).alloc (.cells #[.int .i64 0,.int .i64 0] 57));have BT4:=zV7 ((C2.out.st.new (o:=.cells #[.int .i64 (t:Int)] 3)).alloc (.cells #[.int .i64 0,.int .i64 0] 57))
    have BF4:=zV7 (show Mine W S2 ((wx.alloc (.cells #[.int .i64 (t:Int)] 3)).alloc (.cells #[.int .i64 0,.int .i64 0] 57)) (wx.heap.size+1) (.cells #[.int .i64 0,.int .i64 0] 57 (0,0))from by
     have:=(C2.out.st.alloc hJ (.cells #[.int .i64 (t:Int)] 3)).new (o:=.cells #[.int .i64 0,.int .i64 0] 57)
     rwa [World.size_alloc]at this)
    have c6:=zAA (cs:=#[.int .i64 (i:Int)]) BI4.out.2.2 (k:=0) (by simp);have c7:=zAA (cs:=#[.int .i64 (t:Int)]) BT4.out.2.2 (k:=0) (by simp);have PA:=zV7 (show∀w1,Calls Tryz.prog 97 #[.agg #[.slice m.h.a1 m.G.terms.length m.h.c1,.slice m.h.a2 m.G.nons.length m.h.c2,.slice m.h.a3 m.G.rules.length m.h.c3,.int .i64 m.G.start,.slice m.aS m.nS m.cS,.slice m.aL m.nL m.cL],.int .i64 (i:Int),.int .i64 (t:Int)] w1 _ from fun w1=>zKY m i t w1)
    by_cases hlt2:t<m.G.terms.length+1
    ·gi_wp2_with (refine⟨trivial,?_⟩;gi_at_call 97;refine(zBU (PA.out _)).mono ?_;rintro e w5 ⟨rfl,hw5⟩;have HW5:=zV7 hw5;clear hw5)
     clear c0 c1 c2 c3 c4 c5 c6 c7 d0 hb0 PA;have X5:=zV7 (zLj (l:=l) hJ hDW C2.out.st.inn C4.out BI4.out BT4.out BF4.out HW5.out);have hbr:wr.heap.size<wx.heap.size:=BI.out.lt;clear HW5 C4 BI4 BT4 BF4 BI C2;have hwx:W.heap.size<=wx.heap.size:=X5.out.from_;have hi':i<q.1.length:=by rw[←HN.out];exact hlt
     have hqp:=zFb m q wD w5 DD.out.1 (RD.out _ _ _ _ X5.out.c.st).2.1 i t _ _ _ hi' X5.out.p1 X5.out.p2 X5.out.p3
     refine zFg (n:=9) (gf:=120) (lb:=#[.pointer (some ⟨wx.heap.size+1+1,0,none⟩),.pointer (some ⟨wx.heap.size+1+1+1,0,none⟩),.pointer (some ⟨wx.heap.size+1+1+1+1,0,none⟩)]) rfl (enters_of Tryz.func120 (by kernel_rfl) rfl)
      (encs:=encP m q i t) hqp (fun _=>rfl) (inI J S (oCl wD b1) W m q i t (wx.heap.size+1)) (inX Jx S X W (zBP m.G q).length (wx.heap.size+1)) (zNA hJ X5.out.le5 m q i t _) (zND hJx X5.out.le5 _ _)
      (fun x=>S2 x\/x=wx.heap.size+1) X X5.out.off X5.out.inn5 X5.out.inn (hiX.le X5.out.le5) ⟨S2,rfl,by simpa using X5.out.c.st,by simpa[fk]using X5.out.bf⟩ ?round ?done ?stop
     case round=>
      rintro l' k S' w1 hk hl5 hl1 hnl ⟨S3,rfl,st,mb⟩ hin he hf;obtain⟨x,hx⟩:∃x,(actL m.G q i t)[k]?=some x:=⟨_,List.getElem?_eq_getElem hk⟩;have hx':(actL m.G q i t).getD k (0,0)=x:=by rw[List.getD_eq_getElem?_getD,hx];rfl
      have hne3:¬S3 l':=fun h=>hnl (.inl h)
      have RM:=zV7 (show∀(b:Nat) (o:Obj),b≠wx.heap.size+1->Mine W S2 w5 b o->∀w2,Fr (fun x=>x=l') (w1.alloc (.cells #[.int .i64 x.1,.int .i64 x.2] 57)) w2->Mine W S3 w2 b o from
       fun b o hb hm w2 h2=>(((hm.ranged hb he hf).alloc _).own h2 (by have:=hm.lt;omega)))
      have MB:=zV7 (show∀w2,Fr (fun x=>x=l') (w1.alloc (.cells #[.int .i64 x.1,.int .i64 x.2] 57)) w2->Mine W S3 w2 (wx.heap.size+1) (aObj (fk m q i t k))from fun w2 h2=>(mb.alloc _).own h2 (fun h=>hnl (.inr h.symm)));have MA:=zV7 (show∀w2,Fr (fun x=>x=l') (w1.alloc (.cells #[.int .i64 x.1,.int .i64 x.2] 57)) w2->w2.heap[w1.heap.size]?=some (.cells #[.int .i64 x.1,.int .i64 x.2] 57 (0,0))from fun w2 h2=>zAW h2 (World.alloc_heap_new _ _) (by omega));have S4:=zV7 (show∀w2,Fr (fun x=>x=l') (w1.alloc (.cells #[.int .i64 x.1,.int .i64 x.2] 57)) w2->St J S (oCl wD b1) W (cT m.G q i t+(k-1)) S3 w2 from fun w2 h2=>(st.alloc hJ _).own hJ h2 (by rintro y rfl;exact⟨Nat.le_trans X5.out.le5 hl5,hne3⟩));have hbx:wx.heap.size+1<w1.heap.size:=mb.lt;unfold encP acv;rw[hx'];clear st mb hf hin hx'
      gi_wp2
      refine⟨(Fr.refl _ w1).alloc _,fun w2 h2 hs2=>?_⟩;have mb2:=zV7 (MB.out w2 h2);have st2:=zV7 (S4.out w2 h2);have d0:=zAA (cs:=#[.int .i64 (fk m q i t k).1,.int .i64 (fk m q i t k).2]) (MB.out w2 h2).2.2 (k:=0) (by simp);have d1:=zAA (cs:=#[.int .i64 (fk m q i t k).1,.int .i64 (fk m q i t k).2]) (MB.out w2 h2).2.2 (k:=1) (by simp);have d2:=zAA (cs:=#[.int .i64 x.1,.int .i64 x.2]) (MA.out w2 h2) (k:=0) (by simp);have d3:=zAA (cs:=#[.int .i64 x.1,.int .i64 x.2]) (MA.out w2 h2) (k:=1) (by simp);have d4:=zAA (cs:=#[.func (.yield l) #[] #[]]) (RM.out _ _ (by omega) X5.out.c.yb w2 h2).2.2 (k:=0) (by simp);have d5:=zAA (cs:=#[.int .i64 (i:Int)]) (RM.out _ _ (by omega) X5.out.bi w2 h2).2.2 (k:=0) (by simp);have d6:=zAA (cs:=#[.int .i64 (t:Int)]) (RM.out _ _ (by omega) X5.out.bt w2 h2).2.2 (k:=0) (by simp);clear RM MB MA S4;have hfz:∀j,w2.frozen? ⟨wx.heap.size+1,j,none⟩=false:=fun j=>zAM mb2.out.2.2
      cases k with
      |zero=>
       have e0:fk m q i t 0=(0,0):=by simp[fk]
       have e1:fk m q i t 1=x:=by
        unfold fk;rw[if_neg (by decide),List.getD_eq_getElem?_getD,hx]
        rfl
       rw[e0]at d0 d1;have f0:=hfz 0;have f1:=hfz 1
       have EN:=zV7 (show∀w3,w3=(w2.setCell ⟨wx.heap.size+1,0,none⟩ (.int .i64 x.1)).setCell ⟨wx.heap.size+1,1,none⟩ (.int .i64 x.2)->∃S',Ext S' (fun x=>S3 x\/x=wx.heap.size+1) w1/\Fr (fun y=>(S3 y\/y=wx.heap.size+1)\/w1.heap.size<=y) w2 w3/\Inn S' w3/\inI J S (oCl wD b1) W m q i t (wx.heap.size+1) 1 S' w3 from by
        rintro w3 rfl;have hf3:Fr (fun y=>y=wx.heap.size+1) w2 ((w2.setCell ⟨wx.heap.size+1,0,none⟩ (.int .i64 x.1)).setCell ⟨wx.heap.size+1,1,none⟩ (.int .i64 x.2)):=((Fr.refl (fun y=>y=wx.heap.size+1) w2).setCell ⟨wx.heap.size+1,0,none⟩ rfl _).setCell ⟨wx.heap.size+1,1,none⟩ rfl _;refine⟨_,.refl _ _,hf3.mono fun y e=> .inl (.inr e),?_,S3,rfl,st2.out.own hJ hf3 (by rintro y rfl;exact⟨mb2.out.1,mb2.out.2.1⟩),mb2.out.1,mb2.out.2.1,?_⟩
        ·rintro y (h|rfl)
         ·exact Nat.lt_of_lt_of_le (st2.out.inn y h) hf3.size
         ·exact Nat.lt_of_lt_of_le mb2.out.lt hf3.size
        ·rw[e1]
         exact zAU (zAU mb2.out.2.2 _) _)
       clear hfz
       gi_wp2
       exact EN.out _ rfl
      |succ j=>
       obtain⟨a0,ha0⟩:∃a0,(actL m.G q i t)[0]?=some a0:=⟨_,List.getElem?_eq_getElem (by omega)⟩
       have e0:∀j,fk m q i t (j+1)=a0:=fun j=>by
        unfold fk;rw[if_neg (by omega),List.getD_eq_getElem?_getD,ha0]
        rfl
       rw[e0]at d0 d1
       have hne:¬(a0.1=0):=by
        have:=zPC ha0;omega
       obtain⟨fn,tm,asg,bd,hy,hR⟩:=YD.out _ _ _ _ (zJw hi' hlt2 ha0 hx) st2.out
       have EN:=zV7 (show∀S4 w3,Ext S4 S3 w2->Fr S3 w2 w3->Inn S4 w3->∃S',Ext S' (fun x=>S3 x\/x=wx.heap.size+1) w1/\Fr (fun y=>(S3 y\/y=wx.heap.size+1)\/w1.heap.size<=y) w2 w3/\Inn S' w3/\S'=(fun x=>S4 x\/x=wx.heap.size+1)from by
        intro S4 w3 he4 hf4 hi4;refine⟨_,?_,hf4.mono fun y e=> .inl (.inl e),?_,rfl⟩
        ·rintro y (h|h)
         ·refine(he4 y h).imp .inl fun h=>?_
          simp only[hs2]at h;omega
         ·exact .inl (.inr h)
        ·rintro y (h|rfl)
         ·exact hi4 y h
         ·exact Nat.lt_of_lt_of_le mb2.out.lt hf4.size)
       have hmb:Mine W S3 w2 (wx.heap.size+1) (aObj a0):=by
        have:=mb2.out
        rwa [e0]at this
       have MB2:=zV7 hmb;clear hfz hmb mb2;unfold clv at hy
       gi_wp2
       refine(zDx hR).mono ?_;rintro e w3 ⟨S5,hin5,(⟨rfl,he5,hf5,hj⟩|⟨rfl,he5,hf5,hj⟩)⟩
       ·have EX:=zV7 (show∃S',Ext S' (fun x=>S3 x\/x=wx.heap.size+1) w1/\Fr (fun y=>(S3 y\/y=wx.heap.size+1)\/w1.heap.size<=y) w2 w3/\Inn S' w3/\inI J S (oCl wD b1) W m q i t (wx.heap.size+1) (j+1+1) S' w3 from by
         obtain⟨S',g1,g2,g3,rfl⟩:=EN.out S5 w3 he5 hf5 hin5;refine⟨_,g1,g2,g3,S5,rfl,st2.out.then hOW he5 hf5 hin5 ?_,?_⟩
         ·exact hj
         ·rw[e0]
          exact MB2.out.then he5 hf5)
        clear hy hR he5 hf5 hin5 hj
        gi_wp2
        exact EX.out
       ·have EX:=zV7 (show∃S',Ext S' (Or2 (fun x=>S3 x\/x=wx.heap.size+1) X) w1/\Fr (fun y=>Or2 (fun x=>S3 x\/x=wx.heap.size+1) X y\/w1.heap.size<=y) w2 w3/\Inn S' w3/\inX Jx S X W (zBP m.G q).length (wx.heap.size+1) .ret (j+1+1) S' w3 from by
         refine⟨fun x=>S5 x\/x=wx.heap.size+1,?_,hf5.mono fun y h=>h.elim (fun h=> .inl (.inl (.inl h))) fun h=> .inl (.inr h),?_,rfl,S5,_,rfl,(List.getElem?_eq_some_iff.1 (zJw hi' hlt2 ha0 hx)).1,st2.out.stop he5 hf5 hin5 hj⟩
         ·rintro y (h|h)
          ·refine(he5 y h).elim (fun h=>h.elim (fun h=> .inl (.inl (.inl h))) fun h=> .inl (.inr h)) fun h=> .inr ?_
           simp only[hs2]at h;omega
          ·exact .inl (.inl (.inr h))
         ·rintro y (h|rfl)
          ·exact hin5 y h
          ·exact Nat.lt_of_lt_of_le MB2.out.lt hf5.size)
        clear hy hR he5 hf5 hin5 hj
        gi_wp2
        exact EX.out
     case done=>
      rintro S' w6 ⟨S3,rfl,st,mb⟩ hin he hf hD hDS
      have DX:=zV7 (show CSt J S (oCl wD b1) W l (cT m.G q i (t+1)) S3 (Rg.mark w5.heap.size::ds2) w6/\Mine W S3 w6 wr.heap.size (.cells #[.int .i64 (i:Int)] 3 (0,0))from
       ⟨⟨by rw[zSP];exact st,X5.out.c.marks.ranged X5.out.bf.2.2 rfl he hf (Nat.le_refl _) hD (fun h=>hDS (.inl h)) X5.out.le5,X5.out.c.yb.ranged (by omega) he hf⟩,X5.out.bi.ranged (by omega) he hf⟩)
      clear st mb hin he hf hD hDS hqp
      gi_wp2
      refine⟨?_,?_⟩
      case refine_1=>
       (repeat apply Exists.intro)
       refine⟨?_,rfl⟩;exact⟨t+1,S3,by simp,by omega,DX.out.1,DX.out.2⟩
      case refine_2=>
       simp[intOf];omega
     case stop=>
      rintro c k S' w6 hk ⟨rfl,S3,k',rfl,hk',st⟩ hin he hf hD hDS;obtain⟨L,hL0,hnd,hL⟩:=X5.out.c.marks.rangedX (X:=X) (fun x hx=>hiX x hx) X5.out.bf.2.2 rfl he hf (Nat.le_refl _) hD (fun h=>hDS (.inl h)) X5.out.le5
      have EN:=zV7 (show∀w',Fr (fun x=>x∈L) w6 w'->∀v,(∃v',Ending.returned v=.returned v')/\∃S',Inn S' w'/\((Ext S' S W/\Fr S W w'/\J (zBP m.G q).length S' w')\/(Ext S' (Or2 S X) W/\Fr (Or2 S X) W w'/\∃k,k<=(zBP m.G q).length/\Jx k S' w'))from fun w' hf v=>by
       have s2:=st.own hJx hf fun x hx=>⟨(hL x hx).1,(hL x hx).2.1⟩
       exact⟨⟨v,rfl⟩,S3,s2.inn,.inr ⟨s2.ext,s2.fr,k',hk',s2.j⟩⟩)
      have LM:=zV7 (show∀(fn:Func) (tmps:Array Value) (R:Ending->World->Prop),(∀w',Fr (fun x=>x∈L) w6 w'->∃v,(results fn tmps).run Tryz.prog w'=.ok v w'/\R (.returned v) w')->LeavesInM Fence.wide 9 Tryz.prog fn tmps R (Rg.mark w5.heap.size::ds2) .returning w6 from fun fn tmps R hR=>by
       rw[hL0]
       exact zBQ L w6 hnd (fun D h=>(hL D h).2.2) hR)
      clear st hin he hf hD hDS hL hnd hL0 hqp
      gi_wp2
      refine LM.out _ _ _ ?_;exact fun w' hf=>⟨_,results_none rfl _ _ _,EN.out w' hf _⟩
    ·obtain rfl:t=m.G.terms.length+1:=by omega
     clear c0 c1 c2 c3 c4 c5 d0 hb0 c6 c7 PA C4 BI4 BT4 BF4
     gi_wp2
     refine⟨?_,?_⟩
     case refine_1=>
      (repeat apply Exists.intro)
      refine⟨?_,rfl⟩;exact⟨i+1,S2,by simp,by omega,by rw[←zSO];exact C2.out⟩
     case refine_2=>
      simp[intOf];omega
  ·obtain rfl:i=m.nS:=by omega
   clear c0 c1 c2 c3 c4 c5 d0 hb0 BI;obtain⟨L,rfl,hnd,hL⟩:=ST.out.marks;have EN:=zV7 (fun w' (hf:Fr (fun x=>x∈L) wr w')=>DN.out _ w' (ST.out.st.own hJ hf fun x hx=>⟨(hL x hx).1,(hL x hx).2.1⟩));have LM:=zV7 (show∀(fn:Func) (tmps:Array Value) (R:Ending->World->Prop),(∀w',Fr (fun x=>x∈L) wr w'->∃v,(results fn tmps).run Tryz.prog w'=.ok v w'/\R (.returned v) w')->LeavesInM Fence.wide 9 Tryz.prog fn tmps R (L.map Rg.mark) .returning wr from fun fn tmps R hR=>zBQ L wr hnd (fun D h=>(hL D h).2.2) hR);clear hL hnd
   gi_wp2
   refine LM.out _ _ _ ?_;exact fun w' hf=>⟨_,results_none rfl _ _ _,EN.out w' hf _⟩
end Ac
namespace Pk
open Go.Proofs.YtegeamggbglneaaGreatDoor.Sep (Fr)
theorem zN5{T}(h:Pt T)(S:TSm T)(hf:TFit T){W w5 wb}{b p}(hB:PkB T W b p w5){v vI}{vs}
  (hI:PkI w5 p (w5.heap.size+1) w5.heap.size (.slice (some ⟨b,0,none⟩) T.rules.length T.rules.length) (.int .i64 T.terms) (.int .i64 T.nons) (LX T T.acts.length T.acts.length) v vs vI (IX T T.acts.length T.acts.length) wb)
  {aW aX aG aH} {cW nX cX cG nH cH} (e0:v 0=.slice aX nX cX) (e1:v 1=.slice aH nH cH) (i0:vI 0=.slice aW T.acts.length cW) (i1:vI 1=.slice aG T.acts.length cG) {w'} (hw:Fr (fun x=>x=p\/x<W.heap.size) wb w'):
  nX=(zAq T).rows.length/\nH=(zAq T).gows.length/\T.acts.length=(zAq T).row.length/\T.acts.length=(zAq T).gow.length/\PAt (zAq T) (some ⟨b,0,none⟩) T.rules.length aW cW aX cX aG cG aH cH w':=by
 have hga:=h.ga;have hA:(zAJ T).length=T.acts.length:=by simp[zAJ]
 have hG:(zAL T).length=T.acts.length:=by simp[zAL,hga]
 have l0:LX T T.acts.length T.acts.length 0=zAP (zAJ T):=by
  have:=(zRe T).1
  rwa [hA,hG]at this
 have l1:LX T T.acts.length T.acts.length 1=zAP (zAL T):=by
  have:=(zRe T).2
  rwa [hA,hG]at this
 have x0:IX T T.acts.length T.acts.length 0=idxs (zAJ T):=by
  have:=(zRd T).1
  rwa [hA,hG]at this
 have x1:IX T T.acts.length T.acts.length 1=idxs (zAL T):=by
  have:=(zRd T).2
  rwa [hA,hG]at this
 have hs0:∀r∈zAP (zAJ T),CdR r:=fun r hr=>by
  rw[zBf]at hr;obtain⟨i,hi,rfl⟩:=List.mem_iff_getElem.1 hr;have hi':i<T.acts.length:=by rw[←hA];exact hi
  have:=zSR h S hi'
  simpa[zAJ]using this
 have hs1:∀r∈zAP (zAL T),CdR r:=fun r hr=>by
  rw[zBf]at hr;obtain⟨i,hi,rfl⟩:=List.mem_iff_getElem.1 hr;have hi':i<T.goto.length:=by rw[hga,←hG];exact hi
  have:=zSS h S hi'
  simpa[zAL]using this
 have r0:=hI.st.row 0 (by decide);have r1:=hI.st.row 1 (by decide);have y0:=hI.idx 0 (by decide);have y1:=hI.idx 1 (by decide);have A0:=hI.rows (k:=0) (by decide) (fun r hr=>(hs0 r (by rw[←l0];exact hr)).2) e0;have A1:=hI.rows (k:=1) (by decide) (fun r hr=>(hs1 r (by rw[←l1];exact hr)).2) e1;rw[l0]at A0 r0;rw[l1]at A1 r1;rw[x0]at y0;rw[x1]at y1;rw[e0]at r0;rw[e1]at r1;rw[i0,zAQ,hA]at y0;rw[i1,zAQ,hG]at y1
 have cap:∀{lo:Nat} {U:TypeId} {n m c:Nat} {a:Option Addr} {xs:List Value},wb.ownsRow lo U 1 (.slice a n c) m xs->n=m/\n<=c:=fun hr=>by
  rcases hr.2 with⟨h1,h2⟩|⟨_,_,_,h1,_,_,h2,_⟩
  ·simp only[Value.slice.injEq]at h1;omega
  ·simp only[Value.slice.injEq]at h1;omega
 have c0:=cap r0;have c1:=cap r1;have c2:=cap y0;have c3:=cap y1
 have hlt:∀g,w5.heap.size<=g->¬(g=p\/g<W.heap.size):=fun g hg e=>by
  have:=hB.pl;have:=hB.lo;omega
 have below5:∀{lo:Nat} {U:TypeId} {n c:Nat} {a:Option Addr} {xs:List Value},wb.ownsRow w5.heap.size U 1 (.slice a n c) n xs->Sep.Reads a xs w':=fun hr=>(Sep.Reads.of_row hr).keep fun b' o e=>by
  subst e;have:=hr.lt b' rfl;exact hw.block b' this.2 (hlt _ this.1)
 have codes:∀{X:List (List Int)} {a:Option Addr} {k:Nat},k<2->zGi a X wb->(∀j (hj:j<X.length),∃u,(vs k)[j]?=some u/\Dat w5.heap.size X[j] u wb)->wb.ownsRow w5.heap.size 66 1 (v k) X.length (vs k)->∀{n c},v k=.slice a n c->zGi a X w':=fun {X a k} hk hc hd hr {n c} hv j hj=>by
  obtain⟨g,o,ra,rc,e,h1,h2,h3,h4⟩:=hc j hj;obtain⟨u,d1,b',d2,d3,d4⟩:=hd j hj;rw[hv]at hr;have hn:n=X.length:=(cap hr).1;subst hn;subst e;have hgl:=hr.lt g rfl;have t0:=World.ownsRow.cells hr (g:=g);obtain⟨g',hg'⟩:=zBW hr (by omega);simp only[Option.some.injEq,Addr.mk.injEq]at hg';obtain⟨rfl,rfl,_⟩:=hg';have t0:=World.ownsRow.cells hr (g:=g) rfl j _ d1;rw[WideShapes.add_plain]at t0;rw[t0]at h1;injection h1 with h1
  rw[d2]at h1;simp only[Value.slice.injEq]at h1;refine⟨g,0,ra,rc,rfl,hw.cell (p:=⟨g,0+j,none⟩) (by rw[t0,d2,←h1.1,←h1.2.2]) (hlt g hgl.1),?_,h3,h4⟩;rw[←h1.1];exact zBq ((hw.block b' (Array.getElem?_eq_some_iff.1 d3).1 (hlt b' d4)).trans d3)
 have hd0:=(hI.dat 0 (by decide)).2;have hd1:=(hI.dat 1 (by decide)).2;rw[l0]at hd0;rw[l1]at hd1;have rr0:=hI.st.row 0 (by decide);have rr1:=hI.st.row 1 (by decide);rw[l0]at rr0;rw[l1]at rr1;have hpl0:=zA3 (zAJ T);have hpl1:=zA3 (zAL T);have hal:=S.al;have hrl:=S.rl;refine⟨c0.1,c1.1,by simp[zAq,zAQ,hA],by simp[zAq,zAQ,hG],?_⟩;refine⟨hB.rules w' ((hI.fr.mono fun x hx=> .inl hx).trans hw fun x hx=> .inl hx),below5 (lo:=0) y0,codes (k:=0) (by decide) A0 hd0 rr0 e0,below5 (lo:=0) y1,codes (k:=1) (by decide) A1 hd1 rr1 e1,Nat.le_refl _,?_,?_,?_,?_,?_,?_,?_,?_,?_,⟨hf.t,hf.n,hf.left,hf.right,?_,?_,fun r hr=>(hs0 r hr).1,fun r hr=>(hs1 r hr).1⟩⟩
 ·show(idxs (zAJ T)).length<=cW;rw[zAQ,hA];exact c2.2
 ·show(zAP (zAJ T)).length<=cX;omega
 ·show(idxs (zAL T)).length<=cG;rw[zAQ,hG];exact c3.2
 ·show(zAP (zAL T)).length<=cH;omega
 ·show T.rules.length<= _;omega
 ·show(idxs (zAJ T)).length<= _;rw[zAQ];omega
 ·show(zAP (zAJ T)).length<= _;omega
 ·show(idxs (zAL T)).length<= _;rw[zAQ];omega
 ·show(zAP (zAL T)).length<= _;omega
 ·intro x hx;obtain⟨i,_,rfl⟩:=List.mem_map.1 hx;have:=zKX (zAP ((zAJ T).take i)) ((zAJ T).getD i []);have:=zA3 ((zAJ T).take i);have:((zAJ T).take i).length<=(zAJ T).length:=by rw[List.length_take];omega
  unfold Gr.Fits;omega
 ·intro x hx;obtain⟨i,_,rfl⟩:=List.mem_map.1 hx;have:=zKX (zAP ((zAL T).take i)) ((zAL T).getD i []);have:=zA3 ((zAL T).take i);have:((zAL T).take i).length<=(zAL T).length:=by rw[List.length_take];omega
  unfold Gr.Fits;omega
