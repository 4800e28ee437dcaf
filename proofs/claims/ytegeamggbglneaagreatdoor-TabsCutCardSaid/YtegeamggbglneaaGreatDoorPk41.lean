/- Proof. -/
import Derived.Test.YtegeamggbglneaaGreatDoorPk38
set_option maxHeartbeats 4000000
set_option maxRecDepth 100000
set_option linter.unusedVariables false
namespace Go.Proofs.YtegeamggbglneaaGreatDoor
namespace Au
open Go.RowKit Go.Maps
open Gr (ai Sh gv bI checkN top sD yH ax cN boxed drawn bg cell_later)
open Im
open Rw (gZ)
theorem zO6{W:World}{p:Nat}{S:Nat->Prop}{h:Sh}{G:ai}{ks:List (List au)}{X:au->Option Int}{n:Nat}(w:World)(k:im W p S h G ks X n w)(kg:bI h G W)(hv:checkN G=0)(ht:top G<=1000)
  (hks:∀x∈ks,x.length<=2709/\∀y∈x,bo G y=true) (hkl:ks.length<=1000000) (i:Nat) (hi:i<ks.length):
  Calls Tryz.prog 132 #[.pointer (some ⟨p,0,none⟩),.int .i64 i] w (zPc (fun s=>cd G (fH G ks[i]) (s:Int)) (top G+1) w):=by
 obtain⟨a0,c0,bt,bn,us,k⟩:=k;have K:=af (fun w1 (b:Below w.heap.size w w1)=>k.went b);have TP:=af (fun w1 (b:Below w.heap.size w w1)=>sD h G w1 (kg.went (Gr.step k.below b)));have RU:=af (fun(r:Int) w1 (b:Below w.heap.size w w1)=>yH h G r w1 (kg.went (Gr.step k.below b)));obtain⟨b0,a1,c1,rfl,hc1,l1,i1,_⟩:=k.at hi;have Km:=hks _ (List.getElem_mem hi);have CL:=af (fun w1 (b:Below w.heap.size w w1)=>zLL h G hv ks[i] a1 c1 w1 (kg.went (Gr.step k.below b)) (i1.went b) (fun x hx=>Ee hv (Km.2 x hx)) (by omega));have Pw:=af (fun w1 (b:Below w.heap.size w w1)=>cell_later b hc1);have hcl:=sQ G ks[i];have CS:=af hcl.1;have CR:=af (show∀x∈fH G ks[i],bo G x=true from fun x hx=>oF ((hcl.2 x).1 hx));have hcn:(fH G ks[i]).length<=2709:=Nat.le_trans (Ib hcl.1 CR.out) (se hv);obtain⟨x0,x1,x2,x3⟩:=k.box;have q4:=k.items;clear k kg hks Km hc1 l1 i1 hcl;generalize ks[i]=Ki at*;generalize fH G Ki=C at*;have hmk:=fun w=>show(Instr.makeSlice 165 (.int .i64 ((top G:Int)+1)) (.int .i64 ((top G:Int)+1))).run Tryz.prog w= _ from zNx (top G+1) (by omega) w
 unfold gv at TP RU CL;go_enter Tryz.func132,Tryz.ntmps132;go_wp2_with (go_at_call 134;refine(TP.out _ (.refl _ _)).mono ?_;rintro e w1 ⟨rfl,hb⟩;have HB:=af hb;clear hb x0 x1 x2 x3 q4);have mZ:=af (Gr.step HB.out (boxed w1 (.cells (madeCells #[.slice none 0 0] (top G+1)) 169)));have F0:=af (fun m w' hm hw hb=>zTE (top G+1) m w1 w' hm hw hb);obtain⟨wa,C8⟩:∃wa,w1.alloc (.cells (madeCells #[.slice none 0 0] (top G+1)) 169)=wa:=⟨_,rfl⟩;have hsa:wa.heap.size=w1.heap.size+1:=by rw[←C8];simp
 have HW:=af C8;rw[C8]at mZ;have hs1:=HB.out.size;have HQ:=af (fun w' (b:Below wa.heap.size wa w')=>(show w'.cell? ⟨p,0,none⟩= _/\w'.cell? ⟨p,1,none⟩= _/\w'.cell? ⟨p,2,none⟩= _/\w'.cell? ⟨p,3,none⟩= _/\w'.cell? ⟨p,4,none⟩= _/\w'.cell? ⟨b0,i,none⟩= _ from⟨(K.out w' (Gr.step mZ.out b)).box.x0,(K.out w' (Gr.step mZ.out b)).box.x1,(K.out w' (Gr.step mZ.out b)).box.x2,(K.out w' (Gr.step mZ.out b)).box.x3,(K.out w' (Gr.step mZ.out b)).items,Pw.out w' (Gr.step mZ.out b)⟩));have kA:=drawn wa
 try rw[C8]
 clear C8 hmk
 go_region_held3 (fun w'=>w'.cell? ⟨p,0,none⟩=some (.slice h.a1 G.terms.length h.c1)/\w'.cell? ⟨p,1,none⟩=some (.slice h.a2 G.ah.length h.c2)/\w'.cell? ⟨p,2,none⟩=some (.slice h.a3 G.rules.length h.c3)/\w'.cell? ⟨p,3,none⟩=some (.int .i64 G.start)/\w'.cell? ⟨p,4,none⟩=some (.slice (some ⟨b0,0,none⟩) ks.length c0)/\w'.cell? ⟨b0,i,none⟩=some (.slice a1 Ki.length c1))
  (exact HQ.out _ (by assumption))
  (first
   |(go_at_call 157;refine(CL.out _ (Gr.step mZ.out kA)).mono ?_;rintro e w2 ⟨a2,c2,rfl,hv2,hb2⟩;have k2:Below wa.heap.size wa w2:=Gr.step kA hb2;have V2:=af hv2;clear hv2 hb2)
   |fail)
 have hs2:=k2.size
 have Pn:=af (show uU W w w2 w1.heap.size (top G+1) none G C 0 (fun _=> .slice none 0 0) w2 from
  ⟨(F0.out w2.heap.size w2 (by omega) (Nat.le_refl _) (by rw[HW.out];exact k2.block _ (by omega))).congr (fun s _=>by rw[List.take_zero];rfl),.refl _ _⟩)
 have B2:=af (show Below w.heap.size w w2 from Gr.step mZ.out k2)
 have VB:=af (show∀b o,a2=some ⟨b,o,none⟩->w1.heap.size<b from fun b o e=>by
  have:=(World.ownsRow.lt V2.out b (by rw[e];rfl)).1;have e2:wa.drew.heap.size=wa.heap.size:=rfl
  omega)
 have VA:=af (show∀wr,Sep.Fr (· =w1.heap.size) w2 wr->bG a2 C wr from fun wr f=>by
  by_cases hn:C=[]
  ·subst hn;exact .nil _ _
  ·exact V2.out.reads.keep fun b o e=>f.block b (z7 V2.out.reads hn e) fun q=>by have:=VB.out b o e;omega)
 have hcap:=V2.out.shape;clear HQ CL Pw F0 HW kA V2 mZ;obtain⟨i0,BO,hz0,hz1,hz2⟩:=info_parts GV;go_wp2_with fail;go_loopw [31] (fun q wr=>∃(j:Nat) (D:Nat->Value),q=.int .i64 j/\j<=C.length/\uU W w w2 w1.heap.size (top G+1) none G C j D wr) (fun q _=>C.length-(intOf q).toNat)
 case atStart=>exact⟨0,_,rfl,Nat.zero_le _,Pn.out⟩
 case round=>
  obtain⟨j,D,rfl,hj,hR⟩:=hrel;have R:=af hR;clear hR Pn
  by_cases hlt:j<C.length
  ·obtain⟨b1,o1,ea,p0,p1⟩:=(VA.out wr R.out.fr).at j hlt;have hrt:=CR.out _ (List.getElem_mem hlt);have IW:=af (fun(hb:aZ G C[j]=true) (s:Nat) (hs:aQ G C[j]=(s:Int)) r=>zM7 (k:=j) hlt hb hs r);have IY:=af (fun(hb:aZ G C[j]=false) r=>zP9 (k:=j) hlt hb r);have e1:((C[j].1,C[j].2):au)=C[j]:=rfl;generalize C[j]=x at*;obtain⟨xr,xd⟩:=x;dsimp only at p0 p1;clear e1;subst ea;obtain⟨z1,z2,z3,z4⟩:=Mr hv hrt;dsimp only at z1 z2 z3 z4;obtain⟨d,rfl⟩:=Int.eq_ofNat_of_zero_le z3;have ub:=(iD.1 hrt).1;have hBr:=R.out.below (W:=W) hs1 B2.out;have zy:Below wr.heap.size wr (wr.alloc (.cells #[.int .i64 xr,.int .i64 (d:Int)] 181)):=boxed _ _;have y0:(wr.alloc (.cells #[.int .i64 xr,.int .i64 (d:Int)] 181)).cell? ⟨wr.heap.size,0,none⟩=some (.int .i64 xr):=bg rfl rfl;have y1:(wr.alloc (.cells #[.int .i64 xr,.int .i64 (d:Int)] 181)).cell? ⟨wr.heap.size,1,none⟩=some (.int .i64 (d:Int)):=bg rfl rfl
   have ij:cN G xr=true:=by
    unfold cN;exact decide_eq_true ub
   have AG:=af (show∀hd:d<(ax G xr).2.length,aZ G (xr,(d:Int))=true/\aQ G (xr,(d:Int))=(ax G xr).2[d]/\1<=(ax G xr).2[d]/\(ax G xr).2[d]<=(top G:Int)from fun hd=>⟨(si ij hd).1,(si ij hd).2,(uA hv ij hd).1,(uA hv ij hd).2⟩)
   have Aw:=af (show¬d<(ax G xr).2.length->aZ G (xr,(d:Int))=false from fun hn=>by
    cases e:aZ G (xr,(d:Int))with
    |false=>rfl
    |true=>
     have:=(kx.1 e).2;unfold cQ at this;dsimp only at this
     omega)
   clear hrt ub ij;go_wp2_with fail;obtain⟨wb,hwb⟩:∃wb,wr.alloc (.cells #[.int .i64 xr,.int .i64 (d:Int)] 181)=wb:=⟨_,rfl⟩;have hxs:wr.heap.size<wb.heap.size:=by rw[←hwb];simp
   rw[hwb]at y0 y1 zy;have Rb:=af (R.out.went zy);have hBb:=Rb.out.below (W:=W) hs1 B2.out;clear zy;generalize wr.heap.size=xb at y0 y1 hxs⊢
   try rw[hwb]
   clear hwb p0 p1 z3 hBr R;have ZF:=af (show wb.heap.size<=wb.heap.size from Nat.le_refl _);have kp:=af (K.out wb hBb);have HQ:=af (fun w' (b:Below wb.heap.size wb w')=>(show w'.cell? ⟨p,0,none⟩= _/\w'.cell? ⟨p,1,none⟩= _/\w'.cell? ⟨p,2,none⟩= _/\w'.cell? ⟨p,3,none⟩= _/\w'.cell? ⟨xb,0,none⟩= _/\Below wb.heap.size wb w' from⟨cell_later b kp.out.box.x0,cell_later b kp.out.box.x1,cell_later b kp.out.box.x2,cell_later b kp.out.box.x3,cell_later b y0,b⟩));have gh:=drawn wb;have om:Below wb.heap.size wb (wb.alloc (.cells #[.int .i64 0,.slice none 0 0] 55)).drew:=((Below.refl _ _).alloc (Nat.le_refl _) _).drew;have HT:=af (show∀w' u v,Below wb.heap.size wb w'->Below wb.heap.size wb ((w'.setCell ⟨wb.heap.size,0,none⟩ u).setCell ⟨wb.heap.size,1,none⟩ v)from fun w' u v hb=>(hb.setCell (Nat.le_refl _) _).setCell (Nat.le_refl _) _);have Z0:=af (show(wb.alloc (.cells #[.int .i64 0,.slice none 0 0] 55)).drew.cell? ⟨wb.heap.size,0,none⟩=some (.int .i64 0)from bg rfl rfl);have Z1:=af (show(wb.alloc (.cells #[.int .i64 0,.slice none 0 0] 55)).drew.cell? ⟨wb.heap.size,1,none⟩=some (.slice none 0 0)from bg rfl rfl);have Z2:=af (show(wb.alloc (.cells #[.int .i64 0,.slice none 0 0] 55)).drew.frozen? ⟨wb.heap.size,0,none⟩=false from Gr.yC rfl);have Z3:=af (show(wb.alloc (.cells #[.int .i64 0,.slice none 0 0] 55)).drew.frozen? ⟨wb.heap.size,1,none⟩=false from Gr.yC rfl);have RX:=af (fun w' (b:Below wb.heap.size wb w')=>RU.out xr w' (Gr.step hBb b));generalize ax G xr=rv at RX AG Aw;generalize cN G xr=rvb at RX;obtain⟨rl,rr⟩:=rv;dsimp only at RX AG Aw
   go_region_held3 (fun w'=>w'.cell? ⟨p,0,none⟩=some (.slice h.a1 G.terms.length h.c1)/\w'.cell? ⟨p,1,none⟩=some (.slice h.a2 G.ah.length h.c2)/\w'.cell? ⟨p,2,none⟩=some (.slice h.a3 G.rules.length h.c3)/\w'.cell? ⟨p,3,none⟩=some (.int .i64 G.start)/\w'.cell? ⟨xb,0,none⟩=some (.int .i64 xr)/\Below wb.heap.size wb w')
    (first|exact HQ.out _ (by assumption)|exact HQ.out _ (Below.alloc (by assumption) (Below.size (by assumption)) _)|exact HQ.out _ (HT.out _ _ _ (by assumption)))
    (first
     |(go_at_call 98;refine(RX.out wb.drew gh).mono ?_;rintro e v1 ⟨ra,rc,rfl,hR,hb⟩;have l1:Below wb.heap.size wb v1:=Gr.step gh hb;have RD:=af hR;clear hb hR)
     |(go_at_call 98;refine(RX.out (wb.alloc (.cells #[.int .i64 0,.slice none 0 0] 55)).drew om).mono ?_;rintro e v1 ⟨ra,rc,rfl,hR,hb⟩;have l1:Below wb.heap.size wb v1:=Gr.step om hb;have z0:=cell_later hb Z0.out;have z1:=cell_later hb Z1.out;have z2:=Gr.pU hb Z2.out Z0.out;have z3:=Gr.pU hb Z3.out Z0.out;have RD:=af hR;clear hb hR)
     |fail)
   all_goals
    first
     |(have BC:=af (zSu (rl:=rl) (rc:=rc) 55 l1 RD.out);obtain⟨wc,hwc⟩:∃wc,v1.alloc (.cells #[.int .i64 rl,.slice ra rr.length rc] 55)=wc:=⟨_,rfl⟩;rw[hwc]at BC;rw[hwc];clear hwc RD l1;generalize v1.heap.size=rb at BC⊢)
     |(have BC:=af (zSv (rl:=rl) (rc:=rc) l1 RD.out z0 z1);obtain⟨wc,hwc⟩:∃wc,(v1.setCell ⟨wb.heap.size,0,none⟩ (.int .i64 rl)).setCell ⟨wb.heap.size,1,none⟩ (.slice ra rr.length rc)=wc:=⟨_,rfl⟩;rw[hwc]at BC;rw[hwc];clear hwc RD l1 z0 z1 z2 z3;generalize abx:wb.heap.size=rb at BC⊢)
    have Rc:=af (Rb.out.went BC.out.below);have hBc:=af (Gr.step hBb BC.out.below);have w0:=cell_later BC.out.below y0;have w1':=cell_later BC.out.below y1;have w2':=BC.out.cell
    by_cases hd:d<rr.length
    ·obtain⟨s1,s2,s3,s4⟩:=AG.out hd;obtain⟨b2,o2,ea,hc2⟩:=BC.out.at_ d hd (by omega)
     subst ea;generalize rr[d]=sv at s2 s3 s4 hc2;obtain⟨sn,rfl⟩:=Int.eq_ofNat_of_zero_le (show 0<=sv by omega);have o9:sn<top G+1:=by omega
     have FR:=af (IW.out s1 sn s2);have hcell:=Rc.out.dG.cell sn o9;have hfree:=Rc.out.dG.free sn;have hrow:bw 181 w2.heap.size (jR G (C.take j) (sn:Int)) (D sn) wc:=Rc.out.dG.row sn o9;obtain⟨da,dc,eD,hdc⟩:=hrow.shape;rw[eD]at hcell hrow;have hln:=zO7 G (C.take j) (sn:Int);have htk:(C.take j).length<=2709:=by rw[List.length_take];omega
     have zw:(sn:Int)<(top G:Int)+1:=by omega
     have hwr:IntKind.i64.wrap ((d:Int)+1)=(d:Int)+1:=by
      simp[IntKind.wrap,IntKind.bits,IntKind.signed];omega
     have hqc:w1.heap.size<wc.heap.size:=Nat.lt_of_lt_of_le Rc.out.dG.bm Rc.out.dG.le;have Ck:=Rc.out.dG.le;have ON:=af (show(wc.alloc (.cells #[.int .i64 xr,.int .i64 ((d:Int)+1)] 181)).drew.ownsRow _ _ _ _ _ _ from Hj 181 w2.heap.size wc.heap.size (xr,(d:Int)+1) wc rfl Ck);have VR:=af (hrow.went ((boxed wc (.cells #[.int .i64 xr,.int .i64 ((d:Int)+1)] 181)).drew));have ALL:=af (Rc.out.went ((boxed wc (.cells #[.int .i64 xr,.int .i64 ((d:Int)+1)] 181)).drew));have CY:w2.heap.size<=(wc.alloc (.cells #[.int .i64 xr,.int .i64 ((d:Int)+1)] 181)).drew.heap.size:=Nat.le_trans Ck (by simp)
     have PUT:=af (fun(v':Value) (w':World) h1 h2 h3=>(show uU W w w2 w1.heap.size (top G+1) none G C (j+1) (upd D sn v') (w'.setCell ⟨w1.heap.size,sn,none⟩ v')from
      ⟨(ALL.out.dG.put (w':=w') (v':=v') o9 h1 h2 h3).congr (fun s _=>FR.out s),ALL.out.dG.fr o9 h2 ALL.out.fr (Nat.le_refl _)⟩))
     have Pf:=af (fun(w':World) (hg:(wc.alloc (.cells #[.int .i64 xr,.int .i64 ((d:Int)+1)] 181)).drew.grownBy w' (D sn).ownBlock)=>(show w'.cell? ⟨w1.heap.size,sn,none⟩=some (D sn)/\w'.frozen? ⟨w1.heap.size,sn,none⟩=false from by
      have e:=hg.block w1.heap.size (by simp;omega) (fun q=>by
       have:=(World.ownsRow.lt (Rc.out.dG.row sn o9) _ q.symm).1;have:=Rc.out.dG.bm
       omega)
      exact⟨(World.cell?_of_block (a:=⟨w1.heap.size,sn,none⟩) e).trans (ALL.out.dG.cell sn o9),(World.frozen?_of_block (a:=⟨w1.heap.size,sn,none⟩) e).trans (ALL.out.dG.free sn)⟩))
     rw[eD]at PUT Pf;generalize eX:jR G (C.take j) (sn:Int)=XX at*;clear AG Aw IW IY FR Rc Rb HQ HT Z0 Z1 Z2 Z3 RX hrow eX eD ALL;go_wp2_with fail
     go_region_law (first
      | (refine gZ _ (by rfl) _ _ 169 (by rfl) w2.heap.size 181 i0 (.agg #[.int .i64 0,.int .i64 0]) 2 16 Tryz.underlying169 BO hz0 hz1 hz2 rfl (by decide) (.slice da XX.length dc) XX.length (XX.flatMap ic) (by rfl) VR.out w2.heap.size (.slice (some ⟨wc.heap.size,0,none⟩) 1 1) 1 (ic (xr,(d:Int)+1)) (by rfl) ON.out (Oy _) (by unfold maxLen;omega) (by omega) CY ?_;intro v4 w4 iX hg4 mg;obtain⟨a4,c4,rfl⟩:=Rw.cu iX;obtain⟨q9,f9⟩:=Pf.out w4 hg4;have R4:=af (PUT.out _ w4 (bw.of_append (Y:=[(xr,(d:Int)+1)]) (by simpa using iX) rfl rfl) hg4 mg);clear iX hg4 mg))
     all_goals
      clear q9 f9 w0 w1' w2' hcell y0 y1;go_wp2_with fail;go_roundw
      case rel=>exact⟨j+1,_,by go_num,by omega,R4.out⟩
      case measure=>simp[intOf];omega
    ·have hdn:rr.length<=d:=by omega
     have FS:=af (fun r=>IY.out (Aw.out hd) r);clear AG Aw hd IW IY;go_wp2_with fail;go_roundw
     case rel=>exact⟨j+1,D,by go_num,by omega,Rc.out.dG.congr (fun s _=>FS.out _),Rc.out.fr⟩
     case measure=>simp[intOf];omega
  ·have hE:j=C.length:=by omega
   subst hE;have FE:=af (R.out.dG);have ZG:=af (R.out.below (W:=W) hs1 B2.out);rw[List.take_length]at FE;have ST:=CS.out;go_wp2;go_ret;have hfs:=FE.out.le;refine⟨w1.heap.size,top G+1,rfl,hs1,by omega,fun s hs=>?_,ZG.out⟩;have hrow:=FE.out.row s hs;dsimp only at hrow⊢;rw[←WZ ST];obtain⟨a9,c9,e9,h9⟩:=hrow.shape;have hc:=FE.out.cell s hs;rw[e9]at hc hrow
   exact⟨a9,c9,hc,h9,hrow.reads,fun b' o e=>by
    have:=(World.ownsRow.lt hrow b' (by rw[e];rfl)).1;have:=B2.out.size
    omega⟩
