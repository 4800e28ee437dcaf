/- A part of the proof. -/
import Derived.Test.YtkcaedinfnajaaaGreatDoorPk30
set_option maxHeartbeats 8000000
set_option maxRecDepth 100000
set_option linter.unusedVariables false
namespace Go.Proofs.YtkcaedinfnajaaaGreatDoor
open Go.RowKit Go.Maps
namespace Ac
open Gr (Gram cell_later checkN)
open Lk (LkR EndR)
open Au
open Rg
open Go.Proofs.YtkcaedinfnajaaaGreatDoor.Sep
attribute [local go_sem] Oper.semAt_some
structure Dat (m:Am) (q:Whole) (wD:World):Prop where
 hv:checkN m.G=0
 done:Done m.G q
 small:Small (states q)
 nS:m.nS=(states q).length
 nL:m.nL=q.1.length
 sta:StaA m.aS (states q) wD
 lks:LkR m.aL ((List.range q.1.length).map (augR m.G q)) wD
 len:q.1.length<=2000
 few:m.G.rules.length<=100000/\m.G.terms.length<=100000
theorem Dat.went{m:Am}{q:Whole}{wD w:World}(h:Dat m q wD)(hb:Below wD.heap.size wD w):Dat m q w:=
 ⟨h.hv,h.done,h.small,h.nS,h.nL,h.sta.went hb,h.lks.went hb,h.len,h.few⟩
theorem zAA{w:World}{b:Nat}{cs:Array Value}{T:TypeId}(h:w.heap[b]?=some (.cells cs T (0,0))){k:Nat}(hk:k<cs.size):w.cell? ⟨b,k,none⟩=some cs[k]:=by
 unfold World.cell?;simp only[h];exact Array.getElem?_eq_getElem hk
def AmC(m:Am)(b:Nat)(w:World):Prop:=
 w.cell? ⟨b,0,none⟩=some (.slice m.h.a1 m.G.terms.length m.h.c1)/\w.cell? ⟨b,1,none⟩=some (.slice m.h.a2 m.G.nons.length m.h.c2)/\w.cell? ⟨b,2,none⟩=some (.slice m.h.a3 m.G.rules.length m.h.c3)/\w.cell? ⟨b,3,none⟩=some (.int .i64 m.G.start)/\
 w.cell? ⟨b,4,none⟩=some (.slice m.aS m.nS m.cS)/\w.cell? ⟨b,5,none⟩=some (.slice m.aL m.nL m.cL)
theorem zAZ{m:Am}{b:Nat}{w:World}{T:TypeId}(h:w.heap[b]?=some (.cells (amc m) T (0,0))):AmC m b w:=
 ⟨zAA h (k:=0) (by simp[amc]),zAA h (k:=1) (by simp[amc]),zAA h (k:=2) (by simp[amc]),zAA h (k:=3) (by simp[amc]),zAA h (k:=4) (by simp[amc]),zAA h (k:=5) (by simp[amc])⟩
theorem zOM{G:Gram}{q:Whole}{i:Nat}{y:Nat×List Nat}(h:y∈augR G q i)(hf:G.terms.length<=100000):y.2.length<=200000:=by
 classical
 have hl:∀x,(Lk.laL G q i x).length<=200000:=fun x=>by
  unfold Lk.laL;refine Nat.le_trans (List.length_filter_le _ _) ?_;rw[List.length_range];omega
 unfold augR at h;rw[zGG,List.mem_append,List.mem_map]at h;rcases h with h|⟨k,hk,rfl⟩
 ·split at h
  ·rw[List.mem_singleton]at h;subst h;exact hl _
  ·cases h
 ·exact hl _
def zCN(wD:World)(b1 b2 b3:Nat):Nat->Prop:=fun k=>k<wD.heap.size\/k=b1\/k=b2\/k=b3
noncomputable def encP(m:Am)(q:Whole)(i t:Nat):Nat->Array Value:=fun k=>#[acv ((actL m.G q i t).getD k (0,0))]
theorem zE8(m:Am)(q:Whole)(wD w0:World)(D:Dat m q wD)(hb:Below wD.heap.size wD w0)(i t b1 b2 b3:Nat)(hi:i<q.1.length)
  (h1:w0.heap[b1]?=some (.cells (amc m) 81 (0,0))) (h2:w0.heap[b2]?=some (.cells #[.int .i64 (i:Int)] 3 (0,0))) (h3:w0.heap[b3]?=some (.cells #[.int .i64 (t:Int)] 3 (0,0))):
  Rg.Yields Tryz.prog 93 #[.pointer (some ⟨b1,0,none⟩),.pointer (some ⟨b2,0,none⟩),.pointer (some ⟨b3,0,none⟩)] (encP m q i t) (actL m.G q i t).length (zCN wD b1 b2 b3) w0:=by
 intro l J Jx S X W hF hO hin hiX hJ hJx hY h0;have hlt:∀b o,w0.heap[b]?=some o->b<w0.heap.size:=fun b o h=>(Array.getElem?_eq_some_iff.1 h).1
 have hOi:Inn (zCN wD b1 b2 b3) w0:=by
  rintro k (h|rfl|rfl|rfl)
  ·have:=hb.size;omega
  ·exact hlt _ _ h1
  ·exact hlt _ _ h2
  ·exact hlt _ _ h3
 have hOW:=hOi.le hF.size;have hat:∀{b:Nat} {o:Obj},w0.heap[b]?=some o->zCN wD b1 b2 b3 b->W.heap[b]?=some o:=fun {b o} h ho=>(hF.block b (hlt _ _ h) fun hs=>hO b hs ho).trans h
 have g1:=hat h1 (.inr (.inl rfl));have g2:=hat h2 (.inr (.inr (.inl rfl)));have g3:=hat h3 (.inr (.inr (.inr rfl)));have hbW:Below wD.heap.size wD W:=⟨hF.os.trans hb.os,hF.tape.trans hb.tape,hF.output.trans hb.output,Nat.le_trans hb.size hF.size,fun x hx=>(hF.block x (by have:=hb.size;omega) fun hs=>hO x hs (.inl hx)).trans (hb.block x hx)⟩;clear h1 h2 h3 hat hlt;have hZs:((List.range q.1.length).map (augR m.G q))[i]?=some (augR m.G q i):=by rw[List.getElem?_map,List.getElem?_range hi];rfl
 obtain⟨hZl,hZe⟩:=List.getElem?_eq_some_iff.1 hZs;obtain⟨bL,a2,c2,eL,hL,hE⟩:=D.lks i hZl;rw[hZe]at hL hE;clear hZs hZl hZe;have hnL:(i:Int)<(m.nL:Int):=by rw[D.nL];omega
 have hsm:=D.len;have hnl2:m.nL=q.1.length:=D.nL
 have hZlen:(augR m.G q i).length<=200000:=by
  have h1:=D.few.1;have h2:(augR m.G q i).length=(Lk.zAl m.G q i).length:=zOk _ _
  have h3:(Lk.zAl m.G q i).length<=m.G.rules.length+1:=by
   unfold Lk.zAl;rw[List.length_map];refine Nat.le_trans (List.length_filter_le _ _) ?_;rw[List.length_range];exact Nat.le_refl _
  omega
 have RD:=zVZ (show∀(J':Nat->(Nat->Prop)->World->Prop) (k:Nat) (S1:Nat->Prop) (W1:World),St J' S (zCN wD b1 b2 b3) W k S1 W1->Dat m q W1/\(W1.cell? ⟨b1,0,none⟩=some (.slice m.h.a1 m.G.terms.length m.h.c1)/\W1.cell? ⟨b1,1,none⟩=some (.slice m.h.a2 m.G.nons.length m.h.c2)/\W1.cell? ⟨b1,2,none⟩=some (.slice m.h.a3 m.G.rules.length m.h.c3)/\W1.cell? ⟨b1,3,none⟩=some (.int .i64 m.G.start)/\
   W1.cell? ⟨b1,4,none⟩=some (.slice m.aS m.nS m.cS)/\W1.cell? ⟨b1,5,none⟩=some (.slice (some ⟨bL,0,none⟩) m.nL m.cL))/\W1.cell? ⟨b2,0,none⟩=some (.int .i64 (i:Int))/\W1.cell? ⟨b3,0,none⟩=some (.int .i64 (t:Int))/\W1.cell? ⟨bL,i,none⟩=some (.slice a2 (augR m.G q i).length c2)/\EndR a2 (augR m.G q i) W1 from
  fun J' k S1 W1 st=>by
   have hbx:=st.below hO hbW (fun x hx=> .inl hx) (Nat.le_trans hb.size hF.size);obtain⟨x0,x1,x2,x3,x4,x5⟩:=zAZ ((st.same hOW hO (.inr (.inl rfl))).trans g1);rw[eL]at x5
   exact⟨D.went hbx,⟨x0,x1,x2,x3,x4,x5⟩,
    zAA (cs:=#[.int .i64 (i:Int)]) ((st.same hOW hO (.inr (.inr (.inl rfl)))).trans g2) (k:=0) (by simp),zAA (cs:=#[.int .i64 (t:Int)]) ((st.same hOW hO (.inr (.inr (.inr rfl)))).trans g3) (k:=0) (by simp),cell_later hbx hL,hE.went hbx⟩)
 have YD:=zVZ (show∀(k:Nat) (x:Ac2) (S1:Nat->Prop) (W1:World),(actL m.G q i t)[k]?=some x->St J S (zCN wD b1 b2 b3) W k S1 W1->YieldAt Fence.wide 0 Tryz.prog l #[.agg #[.int .i64 x.1,.int .i64 x.2]] W1 (Said X J Jx k S1 W1)from
  fun k x S1 W1 hx st=>by
   have h:=hY k S1 W1 (List.getElem?_eq_some_iff.1 hx).1 st.j st.inn;unfold encP acv at h;rw[List.getD_eq_getElem?_getD,hx]at h
   exact h)
 have S0:=zVZ (St.start (O:=zCN wD b1 b2 b3) h0 hin hO);have TH:=zVZ (show∀(k:Nat) (S1 S':Nat->Prop) (W1 W2:World),St J S (zCN wD b1 b2 b3) W k S1 W1->Ext S' S1 W1->Fr S1 W1 W2->Inn S' W2->J (k+1) S' W2->St J S (zCN wD b1 b2 b3) W (k+1) S' W2 from fun k S1 S' W1 W2 st he hf hi hj=>st.then hOW he hf hi hj);have WT:=zVZ (show∀(k:Nat) (S1:Nat->Prop) (W1 W2:World),St J S (zCN wD b1 b2 b3) W k S1 W1->Below W1.heap.size W1 W2->St J S (zCN wD b1 b2 b3) W k S1 W2 from fun k S1 W1 W2 st h=>st.went hJ h);have GT:=zVZ (show∀W1,Dat m q W1->Calls Tryz.prog 76 #[.slice m.aS m.nS m.cS,.int .i64 (i:Int),.int .i64 (t:Int)] W1 (Gr.Is (.int .i64 (zED (states q) (i:Int) (t:Int))) W1)from fun W1 d=>by rw[d.nS];exact zDP (states q) m.aS m.cS i t W1 d.sta d.small)
 have DN:=zVZ (show∀(k:Nat) (S1:Nat->Prop) (W1:World),k=(actL m.G q i t).length->St J S (zCN wD b1 b2 b3) W k S1 W1->∀v,(∃v',Ending.returned v=.returned v')/\∃S',Inn S' W1/\((Ext S' S W/\Fr S W W1/\J (actL m.G q i t).length S' W1)\/(Ext S' (Or2 S X) W/\Fr (Or2 S X) W W1/\∃k,k<=(actL m.G q i t).length/\Jx k S' W1))from
  fun k S1 W1 e st v=>⟨⟨v,rfl⟩,S1,st.inn,.inl ⟨st.ext,st.fr,e▸st.j⟩⟩)
 have XN:=zVZ (show∀(k:Nat) (x:Ac2) (S1 S':Nat->Prop) (W1 W2:World),(actL m.G q i t)[k]?=some x->St J S (zCN wD b1 b2 b3) W k S1 W1->Ext S' (Or2 S1 X) W1->Fr (Or2 S1 X) W1 W2->Inn S' W2->Jx (k+1) S' W2->∀v,(∃v',Ending.returned v=.returned v')/\∃S',Inn S' W2/\((Ext S' S W/\Fr S W W2/\J (actL m.G q i t).length S' W2)\/(Ext S' (Or2 S X) W/\Fr (Or2 S X) W W2/\∃k,k<=(actL m.G q i t).length/\Jx k S' W2))from
  fun k x S1 S' W1 W2 hx st he hf hi hj v=>by
   have s2:=st.stop he hf hi hj
   exact⟨⟨v,rfl⟩,S',s2.inn,.inr ⟨s2.ext,s2.fr,k+1,(List.getElem?_eq_some_iff.1 hx).1,hj⟩⟩)
 have SH:=zFJ D.done hi t;have AT:=zVZ (fun(mm:Nat) (h:mm<(augR m.G q i).length) (ht:t∈(augR m.G q i)[mm].2)=>zTm D.done D.hv h ht);have AL:=zVZ (zRb D.done D.hv i t);have few:=D.few;obtain⟨d0,⟨c0,c1,c2',c3,c4,c5⟩,c6,c7,c8,hE0⟩:=RD.out _ _ _ _ S0.out;clear hY h0 hin hE hL eL g1 g2 g3 hOi hOW D hb hbW hF hO;refine zJO (n:=9) (o:=none) ?_;refine callsIn_of_wp Tryz.func93 rfl trivial ?_ rfl;simp only[Tryz.ntmps93,List.size_toArray,List.length_cons,List.length_nil,Nat.reduceAdd,Nat.reduceSub,Array.replicate_succ,Array.replicate_zero,List.push_toArray,List.append_toArray,List.nil_append,List.cons_append];rcases SH with⟨hg,hs⟩|⟨n,hg,hn,hs⟩
 case' inl=>
  rw[hg]at GT
  gi_wp2_with (refine⟨trivial,?_⟩;gi_at_call 76;refine(zBK (GT.out _ d0)).mono ?_;rintro e w1 ⟨rfl,hb1⟩;have S1:=zVZ (WT.out _ _ _ _ S0.out hb1);clear c0 c1 c2' c3 c4 c5 c6 c7 c8;obtain⟨d1,⟨c0,c1,c2',c3,c4,c5⟩,c6,c7,c8,hE1⟩:=RD.out _ _ _ _ S1.out)
  refine⟨fun _ h=>(by cases h),?_⟩;have SL:=zVZ (show St J S (zCN wD b1 b2 b3) W ((zBS q i t).length+part (augR m.G q i) t 0) S w1 from by rw[hs,zHp];exact S1.out);clear hb1 d0 d1 hE0 hE1
  gi_wp2
 case' inr=>
  rw[hg]at GT
  have h0:(actL m.G q i t)[0]?=some (1,(n:Int)):=by
   unfold actL;rw[hs]
   rfl
  gi_wp2_with (refine⟨trivial,?_⟩;gi_at_call 76;refine(zBK (GT.out _ d0)).mono ?_;rintro e w1 ⟨rfl,hb1⟩;have S1:=zVZ (WT.out _ _ _ _ S0.out hb1);clear c0 c1 c2' c3 c4 c5 c6 c7 c8;obtain⟨fn,tm,asg,bd,hy,hR⟩:=YD.out 0 _ _ _ h0 S1.out)
  refine(zDc hR).mono ?_;rintro e w2 ⟨S2,hin,(⟨rfl,he,hf,hj⟩|⟨rfl,he,hf,hj⟩)⟩
  case' inl=>
   have S3:=zVZ (TH.out _ _ _ _ _ S1.out he hf hin hj);obtain⟨d1,⟨c0,c1,c2',c3,c4,c5⟩,c6,c7,c8,hE1⟩:=RD.out _ _ _ _ S3.out;have SL:=zVZ (show St J S (zCN wD b1 b2 b3) W ((zBS q i t).length+part (augR m.G q i) t 0) S2 w2 from by rw[hs,zHp];exact S3.out);clear hb1 d0 d1 hE0 hE1 S1 hy hR he hf hin hj;have S1:=S3;clear S3
   gi_wp2
  case inr=>
   have EX:=zVZ (XN.out _ _ _ _ _ _ h0 S1.out he hf hin hj)
   gi_wp2
   refine bodyPost_ret (results_none rfl _ _ _) rfl ?_;exact EX.out _
 all_goals
  gi_loopw [30] (fun v wr=>∃(mm:Nat) (S1:Nat->Prop),v=.int .i64 (mm:Int)/\mm<=(augR m.G q i).length/\St J S (zCN wD b1 b2 b3) W ((zBS q i t).length+part (augR m.G q i) t mm) S1 wr) (fun v _=>(augR m.G q i).length-(intOf v).toNat)
  case atStart=>exact⟨0,_,rfl,Nat.zero_le _,SL.out⟩
  case round=>
   clear c0 c1 c2' c3 c4 c5 c6 c7 c8 S1 SL;obtain⟨mm,S2,rfl,hmm,st⟩:=hrel;have ST:=zVZ st;clear st;obtain⟨d2,⟨c0,c1,c2',c3,c4,c5⟩,c6,c7,c8,hE2⟩:=RD.out _ _ _ _ ST.out
   by_cases hlt:mm<(augR m.G q i).length
   ·obtain⟨b',a3,c9,rfl,e1,e2,e3⟩:=hE2 mm hlt;have hmem:=zKU (List.getElem_mem hlt);have hle:=zOM (List.getElem_mem hlt) few.2;have BS:=zVZ (fun W1 (h:Below wr.heap.size wr W1)=>zTq (augR m.G q i)[mm].2 a3 c9 t W1 (e3.below h (Nat.le_refl _)) hmem.1 (by omega))
    have RU:=zVZ (show∀W1,Calls Tryz.prog 95 #[.agg #[.slice m.h.a1 m.G.terms.length m.h.c1,.slice m.h.a2 m.G.nons.length m.h.c2,.slice m.h.a3 m.G.rules.length m.h.c3,.int .i64 m.G.start,.slice m.aS m.nS m.cS,.slice (some ⟨bL,0,none⟩) q.1.length m.cL],.int .i64 ((augR m.G q i)[mm].1:Int)] W1 (fun e w'=>e=.returned (.agg #[.int .i64 (redA m.G.rules.length (augR m.G q i)[mm].1).1,.int .i64 (redA m.G.rules.length (augR m.G q i)[mm].1).2])/\Below W1.heap.size W1 w')from
     fun W1=>zTB {m with aL:=some ⟨bL,0,none⟩,nL:=q.1.length} (augR m.G q i)[mm].1 W1 hmem.2)
    have hx1:(wr.alloc (.cells #[.int .i64 ((augR m.G q i)[mm].1:Int),.slice a3 (augR m.G q i)[mm].2.length c9] 159)).cell? ⟨wr.heap.size,0,none⟩=some (.int .i64 ((augR m.G q i)[mm].1:Int)):=zAA (cs:=#[.int .i64 ((augR m.G q i)[mm].1:Int),.slice a3 (augR m.G q i)[mm].2.length c9]) (World.alloc_heap_new _ _) (k:=0) (by simp);have hba:Below wr.heap.size wr (wr.alloc (.cells #[.int .i64 ((augR m.G q i)[mm].1:Int),.slice a3 (augR m.G q i)[mm].2.length c9] 159)):=(Below.refl _ wr).alloc (Nat.le_refl _) _;have c10:=cell_later hba c7;have ps:=zNi (t:=t) hlt
    by_cases ht:t∈(augR m.G q i)[mm].2
    ·have hk:=AT.out mm hlt ht;rw[if_pos ht]at ps;rw[decide_eq_true ht]at BS;clear hE2 hmem e3 d2
     gi_wp2_with (first
      |(refine⟨trivial,?_⟩;gi_at_call 94;refine(zBK (BS.out _ hba)).mono ?_;rintro e w2 ⟨p,rfl,hb2⟩;have S4:=zVZ (WT.out _ _ _ _ (WT.out _ _ _ _ ST.out hba) hb2);clear c0 c1 c2' c3 c4 c5 c6 c7 c8 e1 e2;obtain⟨d2,⟨c0,c1,c2',c3,c4,c5⟩,c6,c7,c8,hE2⟩:=RD.out _ _ _ _ S4.out;have hx2:=cell_later hb2 hx1)
      | (refine⟨trivial,?_⟩;gi_at_call 95;refine(zBK (RU.out _)).mono ?_;rintro e w3 ⟨rfl,hb3⟩;have S5:=zVZ (WT.out _ _ _ _ S4.out hb3);obtain⟨fn,tm,asg,bd,hy,hR⟩:=YD.out _ _ _ _ hk S5.out))
     refine(zDc hR).mono ?_;rintro e w4 ⟨S6,hin,(⟨rfl,he,hf,hj⟩|⟨rfl,he,hf,hj⟩)⟩
     ·have S7:=zVZ (TH.out _ _ _ _ _ S5.out he hf hin hj);clear hy hR he hf hin hj c0 c1 c2' c3 c4 c5 c6 c7 c8 hx1 hx2
      gi_wp2
      go_roundw
      case rel=>exact⟨mm+1,S6,by simp,by omega,by rw[ps,←Nat.add_assoc];exact S7.out⟩
      case measure=>simp[intOf];omega
     ·have EX:=zVZ (XN.out _ _ _ _ _ _ hk S5.out he hf hin hj);clear hR he hf hin hj c0 c1 c2' c3 c4 c5 c6 c7 c8 hx1 hx2
      gi_wp2
      refine bodyPost_ret (results_none rfl _ _ _) rfl ?_;exact EX.out _
    ·rw[if_neg ht]at ps;rw[decide_eq_false ht]at BS;clear hE2 hmem e3 d2
     gi_wp2_with (first|(refine⟨trivial,?_⟩;gi_at_call 94;refine(zBK (BS.out _ hba)).mono ?_;rintro e w2 ⟨p,rfl,hb2⟩;have S4:=zVZ (WT.out _ _ _ _ (WT.out _ _ _ _ ST.out hba) hb2)))
     refine⟨trivial,?_⟩
     gi_wp2
     refine⟨fun _ h=>(by cases h),?_⟩
     gi_wp2
     go_roundw
     case rel=>exact⟨mm+1,S2,by simp,by omega,by rw[ps];exact S4.out⟩
     case measure=>simp[intOf];omega
   ·obtain rfl:mm=(augR m.G q i).length:=by omega
    gi_wp2
    go_end0;exact DN.out _ _ _ AL.out.symm ST.out _
end Ac
namespace Pk
open Gr (boxed drawn zAC)
theorem zVI:laidOutB Tryz.prog=true:=by kernel_rfl
theorem rowK:105<Tryz.prog.types.size:=of_decide_eq_true (by kernel_rfl)
theorem zVQ:1<=Tryz.prog.types.size:=of_decide_eq_true (by kernel_rfl)
theorem lawK:Keyed Tryz.prog 105:=.of_law (deep_law_laid zVI (m:=2) (by omega) rowK (by kernel_rfl) (by rw[Tryz.underlying105]))
theorem krK:Kr Tryz.prog 105:=
 zVE _ _ lawK Tryz.underlying105 Tryz.underlying3 Tryz.underlying9 (by kernel_rfl) (by kernel_rfl) (by kernel_rfl) (by kernel_rfl) rfl rfl (by decide) (by decide) (Tryz.prog.types.size-1) (by have:=zVQ;omega)
theorem zVY(w:World):(zeroValue 3).run Tryz.prog w=.ok (.int .i64 0) w:=by kernel_rfl
theorem zEm:(Tryz.prog.info? 62).map (fun i=>(i.zero,i.size,i.bytes))=some (some (.slice none 0 0),1,24):=by kernel_rfl
abbrev RM:=RMap Tryz.prog 105 3
structure StAt (lo ps bm:Nat) (L:Nat->List (List Int)) (v:Nat->Value) (vs:Nat->List Value) (w:World):Prop where
 box:w.heap[ps]?=some (.cells #[.map (some bm),v 0,v 1] 60 (0,0))
 map:∃n X,n<=(L 0).length+(L 1).length/\RM bm n X w/\Told (L 0) (L 1) X
 row:∀k,k<2->w.ownsRow lo 62 1 (v k) (L k).length (vs k)
 ne:∀g,(v 0).ownBlock=some g->(v 1).ownBlock≠some g
 lp:lo<=ps
 lb:lo<=bm
def stS(ps bm:Nat)(v:Nat->Value)(x:Nat):Prop:=x=ps\/x=bm\/(v 0).ownBlock=some x\/(v 1).ownBlock=some x
def upd{α:Type}(f:Nat->α)(k:Nat)(a:α):Nat->α:=fun j=>if j=k then a else f j
theorem upd_same{α:Type}(f:Nat->α)(k:Nat)(a:α):upd f k a k=a:=if_pos rfl
theorem zAB{α:Type}(f:Nat->α){k j:Nat}(a:α)(h:j≠k):upd f k a j=f j:=if_neg h
theorem zDh{α:Type}(f:Nat->α)(k:Nat):upd f k (f k)=f:=by
 funext j
 unfold upd;split
 ·rename_i e;rw[e]
 ·rfl
section
variable {lo ps bm:Nat} {L:Nat->List (List Int)} {v:Nat->Value} {vs:Nat->List Value} {w w':World}
theorem StAt.lt(h:StAt lo ps bm L v vs w):ps<w.heap.size:=(Array.getElem?_eq_some_iff.1 h.box).1
theorem StAt.went(h:StAt lo ps bm L v vs w)(hb:Below w.heap.size w w'):StAt lo ps bm L v vs w':=by
 obtain⟨n,X,h1,h2,h3⟩:=h.map;exact⟨(hb.block ps h.lt).trans h.box,⟨n,X,h1,h2.keep (hb.block bm h2.lt),h3⟩,fun k hk=>Sep.zAD (h.row k hk) fun g e=>hb.block g ((h.row k hk).lt g e).2,h.ne,h.lp,h.lb⟩
theorem StAt.map_cell(h:StAt lo ps bm L v vs w):w.cell? ⟨ps,0,none⟩=some (.map (some bm)):=zAA h.box (k:=0) (by simp)
theorem StAt.row_cell(h:StAt lo ps bm L v vs w){k:Nat}(hk:k<2):w.cell? ⟨ps,1+k,none⟩=some (v k):=by
 rcases(by omega:k=0\/k=1)with rfl|rfl
 ·exact zAA h.box (k:=1) (by simp)
 ·exact zAA h.box (k:=2) (by simp)
theorem StAt.bm_map(h:StAt lo ps bm L v vs w):∃es c,w.heap[bm]?=some (.map es c):=by
 obtain⟨n,X,h1,⟨D,⟨es,c,h2,_⟩,_⟩,h3⟩:=h.map;exact⟨es,c,h2⟩
theorem StAt.ps_bm(h:StAt lo ps bm L v vs w):ps≠bm:=fun e=>by
 obtain⟨es,c,h2⟩:=h.bm_map;have:=h.box;rw[e,h2]at this;cases this
theorem zBr{base n:Nat}{T:TypeId}{u:Value}{xs:List Value}(h:w.ownsRow base T 1 u n xs){g:Nat}(hg:u.ownBlock=some g):∃cur,w.heap[g]?=some (.cells cur T (0,0)):=by
 rcases h.2 with⟨h0,_⟩|⟨g',cap,cur,h0,_,h1,_⟩
 ·rw[h0]at hg;cases hg
 ·rw[h0]at hg;injection hg with hg
  dsimp only at hg;subst hg;exact⟨cur,h1⟩
theorem StAt.own_ps(h:StAt lo ps bm L v vs w){k:Nat}(hk:k<2):(v k).ownBlock≠some ps:=fun e=>by
 obtain⟨cur,h1⟩:=zBr (h.row k hk) e;rw[h.box]at h1;injection h1 with h1
 injection h1 with _ h1 _
 exact absurd h1 (by decide)
theorem StAt.own_bm(h:StAt lo ps bm L v vs w){k:Nat}(hk:k<2):(v k).ownBlock≠some bm:=fun e=>by
 obtain⟨cur,h1⟩:=zBr (h.row k hk) e;obtain⟨es,c,h2⟩:=h.bm_map;rw[h2]at h1;cases h1
theorem StAt.turned(h:StAt lo ps bm L v vs w)(ht:w.mapTurned w' bm):w'.heap[ps]?=w.heap[ps]?/\(∀k,k<2->w'.ownsRow lo 62 1 (v k) (L k).length (vs k)):=by
 have hg:=ht.grown;refine⟨hg.block ps h.lt fun e=>h.ps_bm (by injection e),fun k hk=>Sep.zAD (h.row k hk) fun g e=>hg.block g ((h.row k hk).lt g e).2 fun e2=>?_⟩;injection e2 with e2
 exact h.own_bm hk (e2▸e)
theorem StAt.more{k:Nat}{r:List Int}{u:Value}{w5 wa w7:World}(h:StAt lo ps bm L v vs w)(hk:k<2)(hr:CdR r)(hn:r∉L k){n:Nat}{X:Kx->Option Int}(hX:Told (L 0) (L 1) X)(hnl:n<=(L 0).length+(L 1).length)
  (hm:RM bm (n+1) (fun y=>if y=(k,tx r)then some ((L k).length:Int)else X y) w5) (ht:w.mapTurned w5 bm) (hb:Below w5.heap.size w5 wa) {v':Value}
  (hown:w7.ownsRow lo 62 1 v' ((L k).length+1) (vs k++[u])) (hg:wa.grownBy w7 (v k).ownBlock) (hl:v'.ownBlock=(v k).ownBlock\/v'.ownBlock=some wa.heap.size):
  StAt lo ps bm (upd L k (putR (L k) r)) (upd v k v') (upd vs k (vs k++[u])) (w7.setCell ⟨ps,1+k,none⟩ v')/\Sep.Fr (stS ps bm v) w (w7.setCell ⟨ps,1+k,none⟩ v')/\∀j x,(upd v k v' j).ownBlock=some x->(v j).ownBlock=some x\/w.heap.size<=x:=by
 obtain⟨t1,t2⟩:=h.turned ht;have hs5:=ht.grown.size;have hsa:=hb.size;have hlt:=h.lt;have hps5:w5.heap[ps]?= _:=t1.trans h.box;have hpsa:wa.heap[ps]?= _:=(hb.block ps (by omega)).trans hps5;have hps7:w7.heap[ps]?= _:=(hg.block ps (by omega) fun e=>h.own_ps hk e.symm).trans hpsa;have hown_lt:∀j,j<2->∀g,(v j).ownBlock=some g->g<w.heap.size:=fun j hj g e=>((h.row j hj).lt g e).2
 have hbm5:=hm.lt;have hputL:putR (L k) r=L k++[r]:=(zBU hn).1
 have hloc:∀x,v'.ownBlock=some x->(v k).ownBlock=some x\/w.heap.size<=x:=fun x e=>by
  rcases hl with h1|h1
  ·exact .inl (h1▸e)
  ·rw[h1]at e;injection e with e
   omega
 have hvps:v'.ownBlock≠some ps:=fun e=>by
  rcases hl with h1|h1
  ·exact h.own_ps hk (h1▸e)
  ·rw[h1]at e;injection e with e
   omega
 have hrow7:∀j,j<2->j≠k->w7.ownsRow lo 62 1 (v j) (L j).length (vs j):=fun j hj hjk=>Sep.zAD (t2 j hj) fun g e=>by
  have h1:=hown_lt j hj g e;refine(hg.block g (by omega) fun e2=>?_).trans (hb.block g (by omega));rcases(by omega:(j=0/\k=1)\/(j=1/\k=0))with⟨rfl,rfl⟩|⟨rfl,rfl⟩
  ·exact h.ne g e e2.symm
  ·exact h.ne g e2.symm e
 refine⟨⟨?_,?_,fun j hj=>?_,fun g e=>?_,h.lp,h.lb⟩,?_,fun j x e=>?_⟩
 ·rw[zAP hps7 (k:=1+k)];rcases(by omega:k=0\/k=1)with rfl|rfl<;>rfl
 ·refine⟨n+1,_,?_,hm.keep ?_,?_⟩
  ·rcases(by omega:k=0\/k=1)with rfl|rfl
   ·rw[upd_same,zAB _ _ (by decide),hputL,List.length_append];simp only[List.length_cons,List.length_nil];omega
   ·rw[upd_same,zAB _ _ (by decide),hputL,List.length_append];simp only[List.length_cons,List.length_nil];omega
  ·rw[Below.heap_setCell _ _ _ _ (fun e=>h.ps_bm e.symm)];exact(hg.block bm (by omega) fun e=>h.own_bm hk e.symm).trans (hb.block bm hbm5)
  ·rcases(by omega:k=0\/k=1)with rfl|rfl
   ·rw[upd_same,zAB _ _ (by decide),hputL];exact hX.put0 hr hn
   ·rw[upd_same,zAB _ _ (by decide),hputL];exact hX.put1 hr hn
 ·by_cases e:j=k
  ·subst e;rw[upd_same,upd_same,upd_same,hputL,List.length_append];exact Sep.zAD hown fun g e=>Below.heap_setCell _ _ _ _ (fun e2=>hvps (by rw[e];exact congrArg some e2))
  ·rw[zAB _ _ e,zAB _ _ e,zAB _ _ e];exact Sep.zAD (hrow7 j hj e) fun g e=>Below.heap_setCell _ _ _ _ (fun e2=>h.own_ps hj (by rw[e];exact congrArg some e2))
 ·intro e2;rcases(by omega:k=0\/k=1)with rfl|rfl
  ·rw[upd_same]at e;rw[zAB _ _ (by decide)]at e2;have h1:=hown_lt 1 (by decide) g e2;rcases hloc g e with h2|h2
   ·exact h.ne g h2 e2
   ·omega
  ·rw[upd_same]at e2;rw[zAB _ _ (by decide)]at e;have h1:=hown_lt 0 (by decide) g e;rcases hloc g e2 with h2|h2
   ·exact h.ne g e h2
   ·omega
 ·have f1:Sep.Fr (stS ps bm v) w w5:=(Sep.Fr.refl _ _).grown ht.grown fun x e=> .inl (.inr (.inl (by injection e with e;exact e.symm)))
  have f2:Sep.Fr (stS ps bm v) w wa:=f1.trans (.of_below hb) fun x hx=> .inl hx
  have f3:Sep.Fr (stS ps bm v) w w7:=f2.grown hg fun x e=> .inl (by
   rcases(by omega:k=0\/k=1)with rfl|rfl
   ·exact .inr (.inr (.inl e))
   ·exact .inr (.inr (.inr e)))
  exact f3.setCell _ (.inl rfl) _
 ·by_cases e2:j=k
  ·subst e2;rw[upd_same]at e;exact hloc x e
  ·rw[zAB _ _ e2]at e;exact .inl e
end
def zJF(lo ps bm:Nat)(L:Nat->List (List Int))(v:Nat->Value)(vs:Nat->List Value)(k:Nat)(r:List Int)(u:Value)(w:World)(e:Ending)(w':World):Prop:=
 e=.returned (.int .i64 (plc (L k) r:Int))/\∃v',StAt lo ps bm (upd L k (putR (L k) r)) v' (upd vs k (if r∈L k then vs k else vs k++[u])) w'/\Sep.Fr (stS ps bm v) w w'/\∀j x,(v' j).ownBlock=some x->(v j).ownBlock=some x\/w.heap.size<=x
theorem zUn{n:Nat}(h:n<=1000000):(Lit.int .i64 (n:Int)).wf=true:=by
 simp only[Lit.wf,IntKind.min,IntKind.max,IntKind.signed,IntKind.bits,Bool.and_eq_true,decide_eq_true_eq,if_true];omega
theorem zEu(base:Nat)(w:World)(u:Value)(T:TypeId)(hb:base<=w.heap.size)(q:Nat)(hq:q=w.heap.size):(w.alloc (.cells #[u] T)).ownsRow base T 1 (.slice (some ⟨q,0,none⟩) 1 1) 1 [u]:=by
 subst hq;exact World.ownsRow_lit w #[u] 1 hb (by decide) (by simp)
theorem zE7{lo ps bm:Nat}{L:Nat->List (List Int)}{v:Nat->Value}{vs:Nat->List Value}(w:World)(h:StAt lo ps bm L v vs w)(k:Nat)(hk:k<2)(r:List Int)(a:Option Addr)(c:Nat)(hR:CodA a r w)(hr:CdR r)(hl:∀k,k<2->(L k).length<=100000):
  Calls Tryz.prog 22 #[.pointer (some ⟨ps,0,none⟩),.int .i64 (k:Int),.slice a r.length c] w (zJF lo ps bm L v vs k r (.slice a r.length c) w):=by
 have TX:=zVZ (zQq r a c w hR hr);have H0:=zVZ h;have hok:=zVW hr k (by omega);have hlk:=hl k hk;have hl0:=hl 0 (by decide);have hl1:=hl 1 (by decide);have hk2:(k:Int)<2:=by omega
 have hlo:lo<=w.heap.size:=Nat.le_trans h.lp (Nat.le_of_lt h.lt);obtain⟨i0,hj,hz0,hz1,hz2⟩:=info_parts zEm;have HR:=zVZ hr;clear hR h hr hl;go_enter Tryz.func22,Tryz.ntmps22;go_wp2_with (go_at_call 59;refine TX.out.mono ?_;rintro e w2 ⟨rfl,hb2⟩;have B2:=zVZ hb2;clear hb2);have b3:=boxed w2 (.cells #[.int .i64 (k:Int),.string (tx r)] 105);have c0:(w2.alloc (.cells #[.int .i64 (k:Int),.string (tx r)] 105)).cell? ⟨w2.heap.size,0,none⟩=some (.int .i64 (k:Int)):=zAC rfl rfl;have c1:(w2.alloc (.cells #[.int .i64 (k:Int),.string (tx r)] 105)).cell? ⟨w2.heap.size,1,none⟩=some (.string (tx r)):=zAC rfl rfl;have B3:=zVZ (Gr.step B2.out b3);clear b3 TX;generalize w2.alloc (.cells #[.int .i64 (k:Int),.string (tx r)] 105)=w3 at*;have H3:=zVZ (H0.out.went B3.out);have p0:=H3.out.map_cell;have p1:=H3.out.row_cell hk;obtain⟨n,X,hnl,hX,hTold⟩:=H3.out.map;have hn:n<maxLen:=by unfold maxLen;omega
 have hval:=hTold r HR.out
 have hXk:X (k,tx r)=numL (L k) r:=by
  rcases(by omega:k=0\/k=1)with rfl|rfl
  ·exact hval.1
  ·exact hval.2
 have LK:(Instr.lookup 57 (.map (some bm)) (.agg #[.int .i64 (k:Int),.string (tx r)]) true).run Tryz.prog w3.drew=.ok (.tuple #[.int .i64 ((X (k,tx r)).getD 0),.bool (X (k,tx r)).isSome]) w3.drew:=
  (hX.keep rfl:RM bm n X w3.drew).look krK Tryz.underlying57 Tryz.underlying3 (zVY _) hok
 rw[hXk]at LK
 by_cases hin:r∈L k
 ·have hplc:=zC2 hin;have hnum:numL (L k) r=some ((L k).idxOf r:Int):=if_pos hin;rw[hnum]at LK;simp only[Option.getD_some,Option.isSome_some]at LK;have E1:=zVZ hplc.1;have E2:=zVZ hplc.2.1;clear hplc hnum hX hTold hval hXk;go_region;go_wp2_with fail;go_ret;refine⟨Gr.zAc (by rw[E2.out]),v,?_,.of_below (Gr.step B3.out (drawn w3)),fun j x e=> .inl e⟩;rw[E1.out,if_pos hin,zDh,zDh];exact H3.out.went (drawn w3)
 ·have hnum:numL (L k) r=none:=if_neg hin;rw[hnum]at LK;simp only[Option.getD_none,Option.isSome_none]at LK;have E2:=zVZ (zBU hin).2;have hwf:=zUn (n:=(L k).length) (by omega)
  have MU:∃w5,(Instr.mapUpdate 57 (.map (some bm)) (.agg #[.int .i64 (k:Int),.string (tx r)]) (.int .i64 ((L k).length:Int))).run Tryz.prog w3.drew.drew=.ok () w5/\RM bm (n+1) (fun y=>if y=(k,tx r)then some ((L k).length:Int)else X y) w5/\w3.drew.drew.mapTurned w5 bm:=
   (hX.keep rfl:RM bm n X w3.drew.drew).store krK Tryz.underlying57 Tryz.underlying3 hn hok hwf
  obtain⟨w5,hrun,hm5,ht5⟩:=MU;obtain⟨av,cv,hvk⟩:=Rw.zAH (H3.out.row k hk);rw[hvk]at p1;have H4:=zVZ ((H3.out.went (drawn w3)).went (drawn w3.drew));obtain⟨t1,t2⟩:=H4.out.turned ht5;have q0:w5.heap[ps]?=some (.cells #[.map (some bm),v 0,v 1] 60 (0,0)):=t1.trans H4.out.box;have hp5:ps<w5.heap.size:=(Array.getElem?_eq_some_iff.1 q0).1;have hs5:w3.heap.size<=w5.heap.size:=ht5.grown.size;have hlo5:lo<=w5.heap.size:=Nat.le_trans hlo (Nat.le_trans B3.out.size hs5)
  have q1:w5.cell? ⟨ps,1+k,none⟩=some (.slice av (L k).length cv):=by
   rw[←hvk];rcases(by omega:k=0\/k=1)with rfl|rfl
   ·exact zAA q0 (k:=1) (by simp)
   ·exact zAA q0 (k:=2) (by simp)
  have BW:=zVZ (show Below w5.heap.size w5 (w5.drew.alloc (.cells #[.slice a r.length c] 62))from(drawn w5).alloc (Nat.le_refl _) _);have hsz:(w5.drew.alloc (.cells #[.slice a r.length c] 62)).heap.size=w5.heap.size+1:=World.size_alloc _ _;have hsz6:lo<=(w5.drew.alloc (.cells #[.slice a r.length c] 62)).heap.size:=by omega
  have RX:=zVZ (show(w5.drew.alloc (.cells #[.slice a r.length c] 62)).ownsRow lo 62 1 (.slice av (L k).length cv) (L k).length (vs k)from by
   have:=t2 k hk;rw[hvk]at this
   exact Sep.zAD this fun g e=>BW.out.block g (this.lt g e).2)
  have ON:=zVZ (zEu lo w5.drew (.slice a r.length c) 62 hlo5 w5.heap.size rfl)
  have SEE:=zVZ (fun(w7:World) (hg:(w5.drew.alloc (.cells #[.slice a r.length c] 62)).grownBy w7 (Value.slice av (L k).length cv).ownBlock)=>(show w7.cell? ⟨ps,1+k,none⟩=some (.slice av (L k).length cv)/\w7.frozen? ⟨ps,1+k,none⟩=false from by
   have e:w7.heap[ps]?=w5.heap[ps]?:=(hg.block ps (by omega) fun e=>H4.out.own_ps hk (by rw[hvk];exact e.symm)).trans (BW.out.block ps hp5)
   exact⟨(World.cell?_of_block (a:=⟨ps,1+k,none⟩) e).trans q1,zAK (e.trans q0)⟩))
  have FIN:=zVZ (fun(w7:World) (v':Value) (hown:w7.ownsRow lo 62 1 v' ((L k).length+1) (vs k++[.slice a r.length c])) (hg:(w5.drew.alloc (.cells #[.slice a r.length c] 62)).grownBy w7 (v k).ownBlock) (hloc:v'.ownBlock=(v k).ownBlock\/v'.ownBlock=some (w5.drew.alloc (.cells #[.slice a r.length c] 62)).heap.size)=>
   H4.out.more hk HR.out hin hTold hnl hm5 ht5 BW.out hown hg hloc)
  rw[hvk]at FIN;have B4:=zVZ (Gr.step B3.out (Gr.step (drawn w3) (drawn w3.drew)));clear hnum hX hTold hval hXk hm5 ht5 t1 t2 q0 H0 hsz;go_region;go_wp2_with fail;go_region;go_wp2_with fail;clear hrun LK p0 p1 c0 c1
  go_region_law (first
   | (refine Rw.zAG _ (by rfl) _ _ 30 (by rfl) lo 62 i0 (.slice none 0 0) 1 24 Tryz.underlying30 hj hz0 hz1 hz2 rfl (by decide) (.slice av (L k).length cv) (L k).length (vs k) (by rfl) RX.out lo (.slice (some ⟨w5.heap.size,0,none⟩) 1 1) 1 [.slice a r.length c] (by rfl) ON.out (by simp[Value.oneCell']) (by unfold maxLen;omega) (by omega) hsz6 ?_;intro v7 w7 hown7 hg7 hloc7;obtain⟨a7,c7,rfl⟩:=Rw.zAH hown7;obtain⟨q9,f9⟩:=SEE.out w7 hg7;have R7:=zVZ (FIN.out w7 _ hown7 hg7 hloc7);clear hown7 hg7 hloc7))
  all_goals
   go_wp2_with fail;go_ret;obtain⟨r1,r2,r3⟩:=R7.out;refine⟨Gr.zAc (by rw[E2.out]),_,?_,(Sep.Fr.of_below B4.out).trans r2 (.refl _ _),fun j x e=>(r3 j x e).imp id fun h=>Nat.le_trans B4.out.size h⟩;rw[if_neg hin];exact r1
