/- Proof. -/
import Derived.Test.YtegeamggbglneaaGreatDoorPk39
set_option maxHeartbeats 8000000
set_option maxRecDepth 100000
set_option linter.unusedVariables false
namespace Go.Proofs.YtegeamggbglneaaGreatDoor
namespace Lk
open Go.RowKit Go.Maps
open Gr (ai cell_later bg boxed drawn step)
open Im
open Au
open Bt (az)
theorem zRW(f:Nat->Value):(List.range 88).map f=[f 0,f 1,f 2,f 3,f 4,f 5,f 6,f 7,f 8,f 9,f 10,f 11,f 12,f 13,f 14,f 15,f 16,f 17,f 18,f 19,f 20,f 21,f 22,f 23,f 24,f 25,f 26,f 27,f 28,f 29,f 30,f 31,f 32,f 33,f 34,f 35,f 36,f 37,f 38,f 39,f 40,f 41,f 42,f 43,f 44,f 45,f 46,f 47,f 48,f 49,f 50,f 51,f 52,f 53,f 54,f 55,f 56,f 57,f 58,f 59,f 60,f 61,f 62,f 63,f 64,f 65,f 66,f 67,f 68,f 69,f 70,f 71,f 72,f 73,f 74,f 75,f 76,f 77,f 78,f 79,f 80,f 81,f 82,f 83,f 84,f 85,f 86,f 87]:=rfl
structure wW (K:Fk) (a:Act):Prop where
 size:a.tmps.size=88
 zero:a.tmps[0]?=some (.pointer (some ⟨K.p,0,none⟩))
 defers:a.defers=[]
theorem wW.open{K}{a}(h:wW K a):∃u:Nat->Value,a={tmps:=#[.pointer (some ⟨K.p,0,none⟩),u 1,u 2,u 3,u 4,u 5,u 6,u 7,u 8,u 9,u 10,u 11,u 12,u 13,u 14,u 15,u 16,u 17,u 18,u 19,u 20,u 21,u 22,u 23,u 24,u 25,u 26,u 27,u 28,u 29,u 30,u 31,u 32,u 33,u 34,u 35,u 36,u 37,u 38,u 39,u 40,u 41,u 42,u 43,u 44,u 45,u 46,u 47,u 48,u 49,u 50,u 51,u 52,u 53,u 54,u 55,u 56,u 57,u 58,u 59,u 60,u 61,u 62,u 63,u 64,u 65,u 66,u 67,u 68,u 69,u 70,u 71,u 72,u 73,u 74,u 75,u 76,u 77,u 78,u 79,u 80,u 81,u 82,u 83,u 84,u 85,u 86,u 87],defers:=[]}:=by
 obtain⟨⟨l⟩,d⟩:=a;obtain⟨h1,h2,h3⟩:=h;simp only[List.size_toArray,List.getElem?_toArray]at h1 h2 h3;subst h3
 have e:l=(List.range 88).map fun i=>l.getD i undef:=by
  apply List.ext_getElem?
  intro i
  by_cases hi:i<88
  ·rw[List.getElem?_map,List.getElem?_range hi,Option.map_some,List.getElem?_eq_getElem (by omega),List.getD_eq_getElem?_getD,List.getElem?_eq_getElem (by omega),Option.getD_some]
  ·rw[List.getElem?_eq_none (by omega),List.getElem?_eq_none (by simp;omega)]
 have e0:l.getD 0 undef=.pointer (some ⟨K.p,0,none⟩):=by rw[List.getD_eq_getElem?_getD,h2,Option.getD_some]
 rw[zRW,e0]at e;exact⟨fun i=>l.getD i undef,congrArg (fun z=>({tmps:=⟨z⟩,defers:=[]}:Act)) e⟩
def ZV(W:World)(K:Fk)(G:ai)(q:Whole)(S:Nat->Prop)(w0:World)(N:Nt)(k0:Nat)(M:Nt)(a:Act)(w:World):Prop:=
 wW K a/\∃T,Ps W K G q S w0 N k0 M M.Ys T w
def Yw(W:World)(K:Fk)(G:ai)(q:Whole)(S:Nat->Prop)(N:Nt)(k0:Nat)(w:World)(e:Ending)(w':World):Prop:=
 e=.returned (.tuple #[])/\∃M T,Ps W K G q S w N k0 M M.Ys T w'/\M.qs=[]
theorem zJh{W:World}{K:Fk}{G:ai}{q:Whole}{N:Nt}{S:Nat->Prop}(FX:Fix W K G q)(w:World)(h:gM W K G q N S w){cnt:Nat}(hL:ir G q N cnt)(Bv:cnt<=100000000)(k0:Nat)(rX:N.ak[k0]?=some (0,((G.rules.length:Int),0))):
  Calls Tryz.prog 115 #[.pointer (some ⟨K.p,0,none⟩),.int .i64 (k0:Int)] w (Yw W K G q S N k0 w):=by
 have SM:=Fi.jq FX.ok;have hT:G.terms.length<=1000:=by have:=SM.t;omega
 have hC:=yu FX.ok hL.lk FX.len;go_enter Tryz.func115,Tryz.ntmps115;go_wp2;refine zJf 0 (ZV W K G q S w N k0) (fun M=>M.num (G.terms.length+1)) rfl ?pass ?first
 case pass=>
  rintro M a w1 ⟨ha,T,hP⟩;obtain⟨u,rfl⟩:=ha.open;clear ha;have Lh:=hP.kp;have hlM:M.ak.length=N.ak.length:=by rw[Lh.1]
  obtain⟨lab,cv,qv,hN,rfl⟩:=hP.at_
  obtain⟨aq,cq,rfl⟩:=Rw.cu hN.queue;have HP:=af hP;have H:=af hN;obtain⟨_,_,_,_,_,p5,_,p7⟩:=hN.eight
  by_cases hq0:M.qs=[]
  ·rw[hq0]at p7;clear hN hP;go_wp2
   try simp only[Exit.jump]
   refine bodyPost_ret (v:=.tuple #[]) (by simp[results,Tryz.results115,go_sem]) rfl ?_;exact⟨rfl,M,_,HP.out,hq0⟩
  ·obtain⟨l,k,hlk⟩:∃l k,M.qs=l++[k]:=by
    rcases List.eq_nil_or_concat M.qs with e|⟨l,k,e⟩
    ·exact absurd e hq0
    ·exact⟨l,k,by simpa using e⟩
   have Gg:M.qs.length=l.length+1:=by rw[hlk];simp
   have hqb:=hP.sp.qU;have zt:=hN.queue
   have hqk:∃b,aq=some ⟨b,0,none⟩/\w1.cell? ⟨b,l.length,none⟩=some (.int .i64 (k:Int))/\l.length+1<=cq:=by
    rcases zt.2 with⟨_,h0⟩|⟨g,cap,cur,e,_,hg,hnc,_,_,_⟩
    ·omega
    ·have vA:=World.ownsRow.cells zt (g:=g) (by rw[e];rfl) l.length (.int .i64 (k:Int)) (by rw[hlk];simp[bD]);rw[WideShapes.add_plain]at vA;simp only[Value.slice.injEq,true_and]at e;obtain⟨rfl,rfl⟩:=e;exact⟨g,rfl,by simpa using vA,by omega⟩
   obtain⟨bq,rfl,q1,hcq⟩:=hqk;rw[Gg]at p7;clear hN hP zt;have hll:l.length<=100000000:=by omega
   obtain⟨hk,hsome,hsp⟩:=HP.out.sp.pop hlk;obtain⟨g,c,rfl,hgl,_,c0,c1,c2,c3⟩:=H.out.cell hk;have F8:g≠K.p:=fun e=>by rw[e,H.out.lp]at hgl;cases hgl
   have xK:K.p≠g:=fun e=>F8 e.symm
   obtain⟨aw,cw,zx⟩:=Rw.cu (H.out.ways k hk);rw[zx]at c1;have f7:=H.out.box.free 7;have hwr:IntKind.i64.wrap ((l.length:Int)+1-1)=(l.length:Int):=by rw[Int.add_sub_cancel];exact IntWalk.i64_in _ (by omega)
   have Kn:k<M.ak.length:=hk;go_wp2_with fail;go_region;go_wp2_with fail;go_region;go_wp2_with fail;have H3:=H.out.shift rfl (by rw[Gg];omega);rw[Gg,Nat.add_sub_cancel]at H3;have H4:=H3.1.wait (k:=k) hk rfl false;have P5:=af ((HP.out.turn (L:=M.pop k) (Y:=upd M.Ys k []) (U:=fun b=>lab b≠.no) ⟨lab,_,_,H4.1,rfl⟩ (H3.2.trans H4.2).fr (H3.2.trans H4.2).ext (ib.pop M k) hsp HP.out.zero).went ((drawn _).drew));clear H3 H4;generalize ((w1.setCell ⟨K.p,7,none⟩ (.slice (some ⟨bq,0,none⟩) l.length cq)).setCell ⟨g,k*3+2,none⟩ (.bool false)).drew.drew=w5 at*;have LM:=af (Lh.lk hL.lk);have YK:=af (H.out.ry k hk);have vd:M.ak.length<=100000000:=by omega
   have hYl:(M.Ys k).length<=100000000:=by rw[Lh.2.1];exact Nat.le_trans (hL.ys k (by omega)) Bv
   have Z8:=af (zTt (m:=G.terms.length+1) hlk);clear c0 c1 c2 c3 p5 p7 f7 q1 hgl F8 xK hwr hsp;rw[show((l.length:Int)+1==0)=false from by rw[beq_eq_false_iff_ne];omega];go_loopw [61] (fun t wr=>∃(j:Nat) (L:Nt) (T:Nat->Prop),t=.int .i64 j/\j<=(M.Ys k).length/\Ps W K G q S w N k0 L (upd M.Ys k ((M.Ys k).take j)) T wr/\ib M L/\(∃t,L.S k t=true)/\L.num (G.terms.length+1)<=(M.pop k).num (G.terms.length+1)) (fun t _=>(M.Ys k).length-(intOf t).toNat)
   case atStart=>exact⟨0,M.pop k,_,rfl,Nat.zero_le _,P5.out,ib.pop M k,hsome,Nat.le_refl _⟩
   case round=>
    obtain⟨j,L,T,rfl,hj,vh,oX,hne,kM⟩:=hrel;clear P5 hsome
    by_cases hlt:j<(M.Ys k).length
    ·have WS:=af (zR9 FX.ok LM.out oX hk hlt vh.sp hne (oc.upto (YK.out _ (List.getElem_mem hlt)) hT));have YO:=YK.out _ (List.getElem_mem hlt);obtain⟨ml,cv2,qv2,FJ,rfl⟩:=vh.at_
     have zm:k<L.ak.length:=by rw[oX.1];exact hk
     have cx:j<(L.Ys k).length:=by rw[oX.2.1];exact hlt
     obtain⟨gw,cw',ew,hlw,y0,y1,y2⟩:=FJ.way zm cx;rw[oX.2.2.1,zx]at ew;simp only[Value.slice.injEq]at ew;obtain⟨rfl,e8,e9⟩:=ew;clear e8 e9;have eY:(L.Ys k)[j]=(M.Ys k)[j]:=by simp only[oX.2.1]
     rw[eY]at y0 y1 y2;have kO:=WS.out.1;have KF:=WS.out.2.1.qU;have hqL:=vh.sp.qU;have Qz:L.ak.length<=100000000:=by rw[oX.1];exact vd
     have PS:=af vh;generalize (M.Ys k)[j]=y at*;obtain⟨pa,RH⟩:=YO.ptr;rw[RH]at y0;have bx:Below wr.heap.size wr (wr.alloc (.cells #[.pointer pa,.bool y.e,.int .i64 (y.to:Int)] 214)):=boxed _ _;have N3:=FJ.went bx;have G1:=af (M9 (S:=fun b=>ml b≠.no) (wr.alloc (.cells #[.pointer pa,.bool y.e,.int .i64 (y.to:Int)] 214)) ⟨ml,_,_,N3,rfl⟩ kO Qz hqL (N3.given FX YO kO));rw[RH]at G1;have hoff:¬ml wr.heap.size≠.no:=fun e=>Nat.lt_irrefl _ (FJ.bK _ e)
     have e0:(wr.alloc (.cells #[.pointer pa,.bool y.e,.int .i64 (y.to:Int)] 214)).cell? ⟨wr.heap.size,0,none⟩=some (.pointer pa):=bg rfl rfl;have e1:(wr.alloc (.cells #[.pointer pa,.bool y.e,.int .i64 (y.to:Int)] 214)).cell? ⟨wr.heap.size,1,none⟩=some (.bool y.e):=bg rfl rfl;have e2:(wr.alloc (.cells #[.pointer pa,.bool y.e,.int .i64 (y.to:Int)] 214)).cell? ⟨wr.heap.size,2,none⟩=some (.int .i64 (y.to:Int)):=bg rfl rfl;have BX:=af (fun(w6:World) (f:Sep.Fr (fun b=>ml b≠.no) (wr.alloc (.cells #[.pointer pa,.bool y.e,.int .i64 (y.to:Int)] 214)) w6)=>(show w6.cell? ⟨wr.heap.size,1,none⟩=some (.bool y.e)/\w6.cell? ⟨wr.heap.size,2,none⟩=some (.int .i64 (y.to:Int))from⟨f.cell e1 hoff,f.cell e2 hoff⟩));have PB:=af (PS.out.went bx);clear vh FJ N3 hoff;cases hye:y.e with
     |false=>
      have EG:=af (show L.go (G.terms.length+1) k y=L.give (G.terms.length+1) y.to y.f from by unfold Nt.go;rw[hye];rfl);rw[hye]at e1 BX G1 y1 PB;clear e0;go_wp2_with (go_at_call 139;(with_reducible refine(G1.out).mono ?_);rintro e w6 ⟨rfl,T6,Co,xE,Db⟩;obtain⟨d1,d2⟩:=BX.out w6 xE;have P6:=af (PB.out.turn Co xE Db (ib.give _ L y.to y.f) (by have:=WS.out.2.2.1;rw[EG.out]at this;exact this) (rJ _ _ _ _ PS.out.zero));clear Co xE Db);go_roundw
      case rel=>exact⟨j+1,L.give (G.terms.length+1) y.to y.f,T6,by go_num,by omega,P6.out,oX.trans (ib.give _ _ _ _),by rw[←EG.out];exact WS.out.2.2.2.1,by rw[←EG.out];exact Nat.le_trans WS.out.2.2.2.2 kM⟩
      case measure=>simp[intOf];omega
     |true=>
      have EG:=af (show L.go (G.terms.length+1) k y=(L.give (G.terms.length+1) y.to y.f).give (G.terms.length+1) y.to ((L.give (G.terms.length+1) y.to y.f).S k)from by unfold Nt.go;rw[hye];rfl);rw[hye]at e1 BX G1 y1 PB;have S2:=af WS.out.2.2.1;rw[EG.out]at S2;have hq1:(L.give (G.terms.length+1) y.to y.f).qs.length<=(L.give (G.terms.length+1) y.to y.f).ak.length:=KF
      have GG:=af (fun(w6:World) (T6:Nat->Prop) (p6:Ps W K G q S w N k0 (L.give (G.terms.length+1) y.to y.f) (upd M.Ys k ((M.Ys k).take j)) T6 w6)=>(show∃g6 c6,w6.cell? ⟨K.p,5,none⟩=some (.slice (some ⟨g6,0,none⟩) L.ak.length c6)/\w6.cell? ⟨g6,k*3,none⟩=some (.pointer (some ⟨L.D k,0,none⟩))/\Calls Tryz.prog 139 #[.pointer (some ⟨K.p,0,none⟩),.int .i64 (y.to:Int),.pointer (some ⟨L.D k,0,none⟩)] w6.drew (P8 W K G q (L.go (G.terms.length+1) k y) (.tuple #[]) T6 w6.drew)from by
       obtain⟨pd,cv3,qv3,J2,rfl⟩:=p6.at_
       obtain⟨g6,c6,ecv,_,_,z0,_,_,_⟩:=J2.cell (k:=k) zm;have p5:=J2.eight.2.2.2.2.2.1;rw[ecv]at p5;refine⟨g6,c6,p5,z0,?_⟩;rw[EG.out];have QU:=J2.went (drawn w6)
       exact M9 w6.drew ⟨pd,_,_,QU,rfl⟩ kO Qz hq1 (QU.xx zm kO)))
      clear e0;go_wp2_with (go_at_call 139;(with_reducible refine(G1.out).mono ?_);rintro e w6 ⟨rfl,T6,Co,xE,Db⟩;obtain⟨d1,d2⟩:=BX.out w6 xE;have P6:=af (PB.out.turn Co xE Db (ib.give _ L y.to y.f) WS.out.2.1 (rJ _ _ _ _ PS.out.zero));obtain⟨g6,c6,z5,z0,A7⟩:=GG.out w6 T6 P6.out;have G2:=af A7;clear Co xE Db A7);have Qa:=af (P6.out.went (drawn w6));have abb:(k:Int)<(L.ak.length:Int):=by omega
      go_region_law (first
       |(go_simp;go_at_call 139;(with_reducible refine(G2.out).mono ?_);rintro e w7 ⟨rfl,T7,RF,Ro,Sc⟩;have P7:=af (Qa.out.turn RF Ro Sc (by rw[EG.out];exact ib.give _ _ _ _) WS.out.2.2.1 (by rw[EG.out];exact rJ _ _ _ _ Qa.out.zero));clear RF Ro Sc)
       |fail)
      all_goals
       go_wp2_with fail;go_roundw
       case rel=>exact⟨j+1,L.go (G.terms.length+1) k y,T7,by go_num,by omega,P7.out,oX.trans (ib.go _ _ _ _),WS.out.2.2.2.1,Nat.le_trans WS.out.2.2.2.2 kM⟩
       case measure=>simp[intOf];omega
    ·have hE:j=(M.Ys k).length:=by omega
     subst hE;rw[List.take_length,Ef]at vh;have PF:=af vh;clear vh;go_wp2_with fail;go_step3;refine⟨rfl,L,⟨⟨rfl,rfl,rfl⟩,T,?_⟩,Nat.lt_of_le_of_lt kM Z8.out⟩;rw[oX.2.1];exact PF.out
 case first=>
  intro R;obtain⟨lab,cv,qv,hN,rfl⟩:=h;have hk:=nE rX;have bl:Below w.heap.size w (w.alloc (.cells #[.int .i64 0] 3)):=boxed _ _;have HB:=af bl;have H:=af hN
  have SE:=af (show Calls Tryz.prog 140 #[.pointer (some ⟨K.p,0,none⟩),.slice (some ⟨w.heap.size,0,none⟩) 1 1] (w.alloc (.cells #[.int .i64 0] 3)) (NQ (G.terms.length+1) (il (G.terms.length+1) [0]) (w.alloc (.cells #[.int .i64 0] 3)))from
   Ol G.terms.length K.p [0] (some ⟨w.heap.size,0,none⟩) 1 _ hT (cell_later bl hN.eight.2.1) (Gr.MW (bg rfl rfl)) (by simp) (fun t ht=>by rw[List.mem_singleton]at ht;omega))
  have SP:=hL.sp3 (G:=G) (q:=q) (m:=G.terms.length+1) (by omega)
  have SG:=af (SP.give (k:=k0) (F:=il (G.terms.length+1) [0]) rX (fun t ht=>by
   unfold il at ht;have:=(of_decide_eq_true ht).2;rw[List.mem_singleton]at this;rw[this]
   exact .start))
  have ZE:=af (Ew (G.terms.length+1) N k0 (il (G.terms.length+1) [0]) ⟨by omega,fun i hi=>by
   unfold il
   exact decide_eq_false (by omega)⟩ (t:=0) (by unfold il;exact decide_eq_true ⟨by omega,List.mem_singleton.2 rfl⟩))
  have hEl:=hN.bk (hN.lE k0 hk) (by intro e;cases e);have GI:=af (fun(w2:World) (P D:Nat) (hb:Below w.heap.size w w2) (h1:w.heap.size<=P) (h2:w.heap.size<=D) (hs:az P D (G.terms.length+1) (il (G.terms.length+1) [0]) w2)=>M9 (S:=fun b=>lab b≠.no) w2 ⟨lab,_,_,H.out.went hb,rfl⟩ hk (by omega) (by rw[hL.qs];exact Nat.zero_le _) (u:=.pointer (some ⟨P,0,none⟩)) (F:=il (G.terms.length+1) [0]) (.inl ⟨G.terms.length+1,.at_ hs (by omega) (by omega)⟩));clear hN bl SP
  go_wp2_with (first
   |(go_at_call 140;(with_reducible refine(SE.out).mono ?_);rintro e w2 ⟨P,D,rfl,hP,hD,hs,hb⟩;have hs1:(w.alloc (.cells #[.int .i64 0] 3)).heap.size=w.heap.size+1:=(by simp);have B2:=af (Gr.step HB.out hb);have G2:=af (GI.out w2 P D B2.out (by omega) (by omega) hs);clear hs hb)
   | (go_at_call 139;(with_reducible refine(G2.out).mono ?_);rintro e w3 ⟨rfl,T3,ot,hf3,hx3⟩;have P3:Hid (Ps W K G q (fun b=>lab b≠.no) w N k0 (N.give (G.terms.length+1) k0 (il (G.terms.length+1) [0])) (N.give (G.terms.length+1) k0 (il (G.terms.length+1) [0])).Ys T3 w3):=⟨ot,(Sep.Fr.of_below B2.out).trans hf3 (.refl _ _),hx3.at B2.out.size,ib.give _ _ _ _,SG.out,ZE.out⟩;clear ot hf3 hx3))
  go_step3;rename_i K1 hK1;exact hK1 _ _ (R _ _ _ ⟨⟨rfl,rfl,rfl⟩,T3,P3.out⟩)
