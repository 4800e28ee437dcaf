/- A part of the proof. -/
import Derived.Test.YtegeamggbglneaaGreatDoorPk36
set_option maxHeartbeats 4000000
set_option maxRecDepth 100000
set_option linter.unusedVariables false
namespace Go.Proofs.YtegeamggbglneaaGreatDoor
open Go.RowKit Go.Maps
namespace Au
open Gr (Gram Sh gv GAt checkN top zB8 zDz zAF zAY boxed drawn zAC cell_later)
open Im
open Rw (zAH)
theorem zOg{W:World}{p:Nat}{S:Nat->Prop}{h:Sh}{G:Gram}{ks:List (List Itm)}{X:Itm->Option Int}{n:Nat}(w:World)(k:BAt W p S h G ks X n w)(kg:GAt h G W)(hv:checkN G=0)(ht:top G<=1000)
  (hks:∀x∈ks,x.length<=2709/\∀y∈x,zAI G y=true) (hkl:ks.length<=1000000) (i:Nat) (hi:i<ks.length):
  Calls Tryz.prog 132 #[.pointer (some ⟨p,0,none⟩),.int .i64 i] w (zPB (fun s=>stL G (clL G ks[i]) (s:Int)) (top G+1) w):=by
 obtain⟨a0,c0,bt,bn,us,k⟩:=k;have K:=zV7 (fun w1 (b:Below w.heap.size w w1)=>k.went b);have TP:=zV7 (fun w1 (b:Below w.heap.size w w1)=>zB8 h G w1 (kg.went (Gr.step k.below b)));have RU:=zV7 (fun(r:Int) w1 (b:Below w.heap.size w w1)=>zDz h G r w1 (kg.went (Gr.step k.below b)));obtain⟨b0,a1,c1,rfl,hc1,l1,i1,_⟩:=k.at hi;have hki:=hks _ (List.getElem_mem hi);have CL:=zV7 (fun w1 (b:Below w.heap.size w w1)=>zLA h G hv ks[i] a1 c1 w1 (kg.went (Gr.step k.below b)) (i1.went b) (fun x hx=>zCt hv (hki.2 x hx)) (by omega));have HC1:=zV7 (fun w1 (b:Below w.heap.size w w1)=>cell_later b hc1);have hcl:=zF5 G ks[i];have CS:=zV7 hcl.1;have CR:=zV7 (show∀x∈clL G ks[i],zAI G x=true from fun x hx=>zAn ((hcl.2 x).1 hx));have hcn:(clL G ks[i]).length<=2709:=Nat.le_trans (zHO hcl.1 CR.out) (zBE hv);obtain⟨x0,x1,x2,x3⟩:=k.box;have q4:=k.items;clear k kg hks hki hc1 l1 i1 hcl;generalize ks[i]=Ki at*;generalize clL G Ki=C at*;have hmk:=fun w=>show(Instr.makeSlice 165 (.int .i64 ((top G:Int)+1)) (.int .i64 ((top G:Int)+1))).run Tryz.prog w= _ from zNd (top G+1) (by omega) w
 unfold gv at TP RU CL;go_enter Tryz.func132,Tryz.ntmps132;go_wp2_with (go_at_call 134;refine(TP.out _ (.refl _ _)).mono ?_;rintro e w1 ⟨rfl,hb⟩;have HB:=zV7 hb;clear hb x0 x1 x2 x3 q4);have hB1:=zV7 (Gr.step HB.out (boxed w1 (.cells (madeCells #[.slice none 0 0] (top G+1)) 169)));have F0:=zV7 (fun m w' hm hw hb=>zSe (top G+1) m w1 w' hm hw hb);obtain⟨wa,hwa⟩:∃wa,w1.alloc (.cells (madeCells #[.slice none 0 0] (top G+1)) 169)=wa:=⟨_,rfl⟩;have hsa:wa.heap.size=w1.heap.size+1:=by rw[←hwa];simp
 have HW:=zV7 hwa;rw[hwa]at hB1;have hs1:=HB.out.size;have HQ:=zV7 (fun w' (b:Below wa.heap.size wa w')=>(show w'.cell? ⟨p,0,none⟩= _/\w'.cell? ⟨p,1,none⟩= _/\w'.cell? ⟨p,2,none⟩= _/\w'.cell? ⟨p,3,none⟩= _/\w'.cell? ⟨p,4,none⟩= _/\w'.cell? ⟨b0,i,none⟩= _ from⟨(K.out w' (Gr.step hB1.out b)).box.x0,(K.out w' (Gr.step hB1.out b)).box.x1,(K.out w' (Gr.step hB1.out b)).box.x2,(K.out w' (Gr.step hB1.out b)).box.x3,(K.out w' (Gr.step hB1.out b)).items,HC1.out w' (Gr.step hB1.out b)⟩));have kA:=drawn wa
 try rw[hwa]
 clear hwa hmk
 go_region_held3 (fun w'=>w'.cell? ⟨p,0,none⟩=some (.slice h.a1 G.terms.length h.c1)/\w'.cell? ⟨p,1,none⟩=some (.slice h.a2 G.nons.length h.c2)/\w'.cell? ⟨p,2,none⟩=some (.slice h.a3 G.rules.length h.c3)/\w'.cell? ⟨p,3,none⟩=some (.int .i64 G.start)/\w'.cell? ⟨p,4,none⟩=some (.slice (some ⟨b0,0,none⟩) ks.length c0)/\w'.cell? ⟨b0,i,none⟩=some (.slice a1 Ki.length c1))
  (exact HQ.out _ (by assumption))
  (first
   |(go_at_call 157;refine(CL.out _ (Gr.step hB1.out kA)).mono ?_;rintro e w2 ⟨a2,c2,rfl,hv2,hb2⟩;have k2:Below wa.heap.size wa w2:=Gr.step kA hb2;have V2:=zV7 hv2;clear hv2 hb2)
   |fail)
 have hs2:=k2.size
 have FR0:=zV7 (show StR W w w2 w1.heap.size (top G+1) none G C 0 (fun _=> .slice none 0 0) w2 from
  ⟨(F0.out w2.heap.size w2 (by omega) (Nat.le_refl _) (by rw[HW.out];exact k2.block _ (by omega))).congr (fun s _=>by rw[List.take_zero];rfl),.refl _ _⟩)
 have B2:=zV7 (show Below w.heap.size w w2 from Gr.step hB1.out k2)
 have VB:=zV7 (show∀b o,a2=some ⟨b,o,none⟩->w1.heap.size<b from fun b o e=>by
  have:=(World.ownsRow.lt V2.out b (by rw[e];rfl)).1;have e2:wa.drew.heap.size=wa.heap.size:=rfl
  omega)
 have VA:=zV7 (show∀wr,Sep.Fr (· =w1.heap.size) w2 wr->ItsA a2 C wr from fun wr f=>by
  by_cases hn:C=[]
  ·subst hn;exact .nil _ _
  ·exact V2.out.reads.keep fun b o e=>f.block b (zGR V2.out.reads hn e) fun q=>by have:=VB.out b o e;omega)
 have hcap:=V2.out.shape;clear HQ CL HC1 F0 HW kA V2 hB1;obtain⟨i0,hii,hz0,hz1,hz2⟩:=info_parts zDm;go_wp2_with fail;go_loopw [31] (fun q wr=>∃(j:Nat) (D:Nat->Value),q=.int .i64 j/\j<=C.length/\StR W w w2 w1.heap.size (top G+1) none G C j D wr) (fun q _=>C.length-(intOf q).toNat)
 case atStart=>exact⟨0,_,rfl,Nat.zero_le _,FR0.out⟩
 case round=>
  obtain⟨j,D,rfl,hj,hR⟩:=hrel;have R:=zV7 hR;clear hR FR0
  by_cases hlt:j<C.length
  ·obtain⟨b1,o1,ea,p0,p1⟩:=(VA.out wr R.out.fr).at j hlt;have hrt:=CR.out _ (List.getElem_mem hlt);have FRD:=zV7 (fun(hb:behB G C[j]=true) (s:Nat) (hs:behV G C[j]=(s:Int)) r=>zMq (k:=j) hlt hb hs r);have FSK:=zV7 (fun(hb:behB G C[j]=false) r=>zPg (k:=j) hlt hb r);have e1:((C[j].1,C[j].2):Itm)=C[j]:=rfl;generalize C[j]=x at*;obtain⟨xr,xd⟩:=x;dsimp only at p0 p1;clear e1;subst ea;obtain⟨z1,z2,z3,z4⟩:=zDZ hv hrt;dsimp only at z1 z2 z3 z4;obtain⟨d,rfl⟩:=Int.eq_ofNat_of_zero_le z3;have hrr:=(zAS.1 hrt).1;have hBr:=R.out.below (W:=W) hs1 B2.out;have hxb:Below wr.heap.size wr (wr.alloc (.cells #[.int .i64 xr,.int .i64 (d:Int)] 181)):=boxed _ _;have y0:(wr.alloc (.cells #[.int .i64 xr,.int .i64 (d:Int)] 181)).cell? ⟨wr.heap.size,0,none⟩=some (.int .i64 xr):=zAC rfl rfl;have y1:(wr.alloc (.cells #[.int .i64 xr,.int .i64 (d:Int)] 181)).cell? ⟨wr.heap.size,1,none⟩=some (.int .i64 (d:Int)):=zAC rfl rfl
   have hrb:zAY G xr=true:=by
    unfold zAY;exact decide_eq_true hrr
   have SYM:=zV7 (show∀hd:d<(zAF G xr).2.length,behB G (xr,(d:Int))=true/\behV G (xr,(d:Int))=(zAF G xr).2[d]/\1<=(zAF G xr).2[d]/\(zAF G xr).2[d]<=(top G:Int)from fun hd=>⟨(zB6 hrb hd).1,(zB6 hrb hd).2,(zBX hv hrb hd).1,(zBX hv hrb hd).2⟩)
   have NOB:=zV7 (show¬d<(zAF G xr).2.length->behB G (xr,(d:Int))=false from fun hn=>by
    cases e:behB G (xr,(d:Int))with
    |false=>rfl
    |true=>
     have:=(zAu.1 e).2;unfold rlen at this;dsimp only at this
     omega)
   clear hrt hrr hrb;go_wp2_with fail;obtain⟨wb,hwb⟩:∃wb,wr.alloc (.cells #[.int .i64 xr,.int .i64 (d:Int)] 181)=wb:=⟨_,rfl⟩;have hxs:wr.heap.size<wb.heap.size:=by rw[←hwb];simp
   rw[hwb]at y0 y1 hxb;have Rb:=zV7 (R.out.went hxb);have hBb:=Rb.out.below (W:=W) hs1 B2.out;clear hxb;generalize wr.heap.size=xb at y0 y1 hxs⊢
   try rw[hwb]
   clear hwb p0 p1 z3 hBr R;have ZF:=zV7 (show wb.heap.size<=wb.heap.size from Nat.le_refl _);have kp:=zV7 (K.out wb hBb);have HQ:=zV7 (fun w' (b:Below wb.heap.size wb w')=>(show w'.cell? ⟨p,0,none⟩= _/\w'.cell? ⟨p,1,none⟩= _/\w'.cell? ⟨p,2,none⟩= _/\w'.cell? ⟨p,3,none⟩= _/\w'.cell? ⟨xb,0,none⟩= _/\Below wb.heap.size wb w' from⟨cell_later b kp.out.box.x0,cell_later b kp.out.box.x1,cell_later b kp.out.box.x2,cell_later b kp.out.box.x3,cell_later b y0,b⟩));have hbd:=drawn wb;have hbe:Below wb.heap.size wb (wb.alloc (.cells #[.int .i64 0,.slice none 0 0] 55)).drew:=((Below.refl _ _).alloc (Nat.le_refl _) _).drew;have HT:=zV7 (show∀w' u v,Below wb.heap.size wb w'->Below wb.heap.size wb ((w'.setCell ⟨wb.heap.size,0,none⟩ u).setCell ⟨wb.heap.size,1,none⟩ v)from fun w' u v hb=>(hb.setCell (Nat.le_refl _) _).setCell (Nat.le_refl _) _);have Z0:=zV7 (show(wb.alloc (.cells #[.int .i64 0,.slice none 0 0] 55)).drew.cell? ⟨wb.heap.size,0,none⟩=some (.int .i64 0)from zAC rfl rfl);have Z1:=zV7 (show(wb.alloc (.cells #[.int .i64 0,.slice none 0 0] 55)).drew.cell? ⟨wb.heap.size,1,none⟩=some (.slice none 0 0)from zAC rfl rfl);have Z2:=zV7 (show(wb.alloc (.cells #[.int .i64 0,.slice none 0 0] 55)).drew.frozen? ⟨wb.heap.size,0,none⟩=false from Gr.zCS rfl);have Z3:=zV7 (show(wb.alloc (.cells #[.int .i64 0,.slice none 0 0] 55)).drew.frozen? ⟨wb.heap.size,1,none⟩=false from Gr.zCS rfl);have RX:=zV7 (fun w' (b:Below wb.heap.size wb w')=>RU.out xr w' (Gr.step hBb b));generalize zAF G xr=rv at RX SYM NOB;generalize zAY G xr=rvb at RX;obtain⟨rl,rr⟩:=rv;dsimp only at RX SYM NOB
   go_region_held3 (fun w'=>w'.cell? ⟨p,0,none⟩=some (.slice h.a1 G.terms.length h.c1)/\w'.cell? ⟨p,1,none⟩=some (.slice h.a2 G.nons.length h.c2)/\w'.cell? ⟨p,2,none⟩=some (.slice h.a3 G.rules.length h.c3)/\w'.cell? ⟨p,3,none⟩=some (.int .i64 G.start)/\w'.cell? ⟨xb,0,none⟩=some (.int .i64 xr)/\Below wb.heap.size wb w')
    (first|exact HQ.out _ (by assumption)|exact HQ.out _ (Below.alloc (by assumption) (Below.size (by assumption)) _)|exact HQ.out _ (HT.out _ _ _ (by assumption)))
    (first
     |(go_at_call 98;refine(RX.out wb.drew hbd).mono ?_;rintro e v1 ⟨ra,rc,rfl,hR,hb⟩;have l1:Below wb.heap.size wb v1:=Gr.step hbd hb;have RD:=zV7 hR;clear hb hR)
     |(go_at_call 98;refine(RX.out (wb.alloc (.cells #[.int .i64 0,.slice none 0 0] 55)).drew hbe).mono ?_;rintro e v1 ⟨ra,rc,rfl,hR,hb⟩;have l1:Below wb.heap.size wb v1:=Gr.step hbe hb;have z0:=cell_later hb Z0.out;have z1:=cell_later hb Z1.out;have z2:=Gr.zBJ hb Z2.out Z0.out;have z3:=Gr.zBJ hb Z3.out Z0.out;have RD:=zV7 hR;clear hb hR)
     |fail)
   all_goals
    first
     |(have BC:=zV7 (zSK (rl:=rl) (rc:=rc) 55 l1 RD.out);obtain⟨wc,hwc⟩:∃wc,v1.alloc (.cells #[.int .i64 rl,.slice ra rr.length rc] 55)=wc:=⟨_,rfl⟩;rw[hwc]at BC;rw[hwc];clear hwc RD l1;generalize v1.heap.size=rb at BC⊢)
     |(have BC:=zV7 (zSL (rl:=rl) (rc:=rc) l1 RD.out z0 z1);obtain⟨wc,hwc⟩:∃wc,(v1.setCell ⟨wb.heap.size,0,none⟩ (.int .i64 rl)).setCell ⟨wb.heap.size,1,none⟩ (.slice ra rr.length rc)=wc:=⟨_,rfl⟩;rw[hwc]at BC;rw[hwc];clear hwc RD l1 z0 z1 z2 z3;generalize hrbb:wb.heap.size=rb at BC⊢)
    have Rc:=zV7 (Rb.out.went BC.out.below);have hBc:=zV7 (Gr.step hBb BC.out.below);have w0:=cell_later BC.out.below y0;have w1':=cell_later BC.out.below y1;have w2':=BC.out.cell
    by_cases hd:d<rr.length
    ·obtain⟨s1,s2,s3,s4⟩:=SYM.out hd;obtain⟨b2,o2,ea,hc2⟩:=BC.out.at_ d hd (by omega)
     subst ea;generalize rr[d]=sv at s2 s3 s4 hc2;obtain⟨sn,rfl⟩:=Int.eq_ofNat_of_zero_le (show 0<=sv by omega);have hsn:sn<top G+1:=by omega
     have FR:=zV7 (FRD.out s1 sn s2);have hcell:=Rc.out.fam.cell sn hsn;have hfree:=Rc.out.fam.free sn;have hrow:ItsV 181 w2.heap.size (zBH G (C.take j) (sn:Int)) (D sn) wc:=Rc.out.fam.row sn hsn;obtain⟨da,dc,eD,hdc⟩:=hrow.shape;rw[eD]at hcell hrow;have hln:=zOh G (C.take j) (sn:Int);have htk:(C.take j).length<=2709:=by rw[List.length_take];omega
     have hsi:(sn:Int)<(top G:Int)+1:=by omega
     have hwr:IntKind.i64.wrap ((d:Int)+1)=(d:Int)+1:=by
      simp[IntKind.wrap,IntKind.bits,IntKind.signed];omega
     have hqc:w1.heap.size<wc.heap.size:=Nat.lt_of_lt_of_le Rc.out.fam.bm Rc.out.fam.le;have hmle:=Rc.out.fam.le;have ON:=zV7 (show(wc.alloc (.cells #[.int .i64 xr,.int .i64 ((d:Int)+1)] 181)).drew.ownsRow _ _ _ _ _ _ from zEs 181 w2.heap.size wc.heap.size (xr,(d:Int)+1) wc rfl hmle);have VR:=zV7 (hrow.went ((boxed wc (.cells #[.int .i64 xr,.int .i64 ((d:Int)+1)] 181)).drew));have ALL:=zV7 (Rc.out.went ((boxed wc (.cells #[.int .i64 xr,.int .i64 ((d:Int)+1)] 181)).drew));have hsz4:w2.heap.size<=(wc.alloc (.cells #[.int .i64 xr,.int .i64 ((d:Int)+1)] 181)).drew.heap.size:=Nat.le_trans hmle (by simp)
     have PUT:=zV7 (fun(v':Value) (w':World) h1 h2 h3=>(show StR W w w2 w1.heap.size (top G+1) none G C (j+1) (upd D sn v') (w'.setCell ⟨w1.heap.size,sn,none⟩ v')from
      ⟨(ALL.out.fam.put (w':=w') (v':=v') hsn h1 h2 h3).congr (fun s _=>FR.out s),ALL.out.fam.fr hsn h2 ALL.out.fr (Nat.le_refl _)⟩))
     have CEL:=zV7 (fun(w':World) (hg:(wc.alloc (.cells #[.int .i64 xr,.int .i64 ((d:Int)+1)] 181)).drew.grownBy w' (D sn).ownBlock)=>(show w'.cell? ⟨w1.heap.size,sn,none⟩=some (D sn)/\w'.frozen? ⟨w1.heap.size,sn,none⟩=false from by
      have e:=hg.block w1.heap.size (by simp;omega) (fun q=>by
       have:=(World.ownsRow.lt (Rc.out.fam.row sn hsn) _ q.symm).1;have:=Rc.out.fam.bm
       omega)
      exact⟨(World.cell?_of_block (a:=⟨w1.heap.size,sn,none⟩) e).trans (ALL.out.fam.cell sn hsn),(World.frozen?_of_block (a:=⟨w1.heap.size,sn,none⟩) e).trans (ALL.out.fam.free sn)⟩))
     rw[eD]at PUT CEL;generalize eX:zBH G (C.take j) (sn:Int)=XX at*;clear SYM NOB FRD FSK FR Rc Rb HQ HT Z0 Z1 Z2 Z3 RX hrow eX eD ALL;go_wp2_with fail
     go_region_law (first
      | (refine zAH _ (by rfl) _ _ 169 (by rfl) w2.heap.size 181 i0 (.agg #[.int .i64 0,.int .i64 0]) 2 16 Tryz.underlying169 hii hz0 hz1 hz2 rfl (by decide) (.slice da XX.length dc) XX.length (XX.flatMap ic) (by rfl) VR.out w2.heap.size (.slice (some ⟨wc.heap.size,0,none⟩) 1 1) 1 (ic (xr,(d:Int)+1)) (by rfl) ON.out (zM7 _) (by unfold maxLen;omega) (by omega) hsz4 ?_;intro v4 w4 hown4 hg4 hloc4;obtain⟨a4,c4,rfl⟩:=Rw.zAG hown4;obtain⟨q9,f9⟩:=CEL.out w4 hg4;have R4:=zV7 (PUT.out _ w4 (ItsV.of_append (Y:=[(xr,(d:Int)+1)]) (by simpa using hown4) rfl rfl) hg4 hloc4);clear hown4 hg4 hloc4))
     all_goals
      clear q9 f9 w0 w1' w2' hcell y0 y1;go_wp2_with fail;go_roundw
      case rel=>exact⟨j+1,_,by go_num,by omega,R4.out⟩
      case measure=>simp[intOf];omega
    ·have hdn:rr.length<=d:=by omega
     have FS:=zV7 (fun r=>FSK.out (NOB.out hd) r);clear SYM NOB hd FRD FSK;go_wp2_with fail;go_roundw
     case rel=>exact⟨j+1,D,by go_num,by omega,Rc.out.fam.congr (fun s _=>FS.out _),Rc.out.fr⟩
     case measure=>simp[intOf];omega
  ·have hE:j=C.length:=by omega
   subst hE;have FE:=zV7 (R.out.fam);have HBr:=zV7 (R.out.below (W:=W) hs1 B2.out);rw[List.take_length]at FE;have ST:=CS.out;go_wp2;go_ret;have hfs:=FE.out.le;refine⟨w1.heap.size,top G+1,rfl,hs1,by omega,fun s hs=>?_,HBr.out⟩;have hrow:=FE.out.row s hs;dsimp only at hrow⊢;rw[←zKl ST];obtain⟨a9,c9,e9,h9⟩:=hrow.shape;have hc:=FE.out.cell s hs;rw[e9]at hc hrow
   exact⟨a9,c9,hc,h9,hrow.reads,fun b' o e=>by
    have:=(World.ownsRow.lt hrow b' (by rw[e];rfl)).1;have:=B2.out.size
    omega⟩
end Au
namespace Au
open Gr (Gram Sh gv GAt top zB8 boxed)
open Im
open Rw (zAN)
theorem zLQ:(Tryz.prog.info? 197).map (fun i=>(i.zero,i.size,i.bytes))=some (some (.agg #[.int .i64 0,.int .i64 0]),2,16):=by kernel_rfl
theorem zIf{j:Nat}(h:j<9223372036854775808):(Lit.int .i64 (j:Int)).wf=true:=by
 simp only[Lit.wf,IntKind.min,IntKind.max,IntKind.signed,IntKind.bits,Bool.and_eq_true,decide_eq_true_eq,if_true];omega
def zVV(T:TypeId)(Y:List Itm)(w:World)(e:Ending)(w':World):Prop:=∃a c,e=.returned (.slice a Y.length c)/\Y.length<=c/\ItsV T w.heap.size Y (.slice a Y.length c) w'/\Below w.heap.size w w'
theorem zFr{W:World}{p:Nat}{S:Nat->Prop}{h:Sh}{G:Gram}{ks:List (List Itm)}{ts:List (List (Int×Int))}{n:Nat}(w:World)(k:BAt W p S h G ks (tgt ts) n w)(kg:GAt h G W)(ht:top G<=1000)(i:Nat)(hi:i<=1000000):
  Calls Tryz.prog 133 #[.pointer (some ⟨p,0,none⟩),.int .i64 i] w (zVV 197 (zCZ ts i (top G+1)) w):=by
 obtain⟨a0,c0,bt,bn,us,k⟩:=k;obtain⟨i0,hj,hz0,hz1,hz2⟩:=info_parts zLQ;have K:=zV7 (fun w1 (b:Below w.heap.size w w1)=>k.went b);have TP:=zV7 (fun w1 (b:Below w.heap.size w w1)=>zB8 h G w1 (kg.went (Gr.step k.below b)));have R0:=zV7 (ItsV.nil 197 w.heap.size w);have hwi:=zIf (j:=i) (by omega);obtain⟨x0,x1,x2,x3⟩:=k.box;clear k kg;unfold gv at TP;generalize top G=m at TP ht;go_enter Tryz.func133,Tryz.ntmps133;go_wp2_with (go_at_call 134;refine(TP.out _ (.refl _ _)).mono ?_;rintro e w1 ⟨rfl,hb⟩;have HB:=zV7 hb;have R1:=zV7 (R0.out.went hb);clear hb);clear R0 x0 x1 x2 x3;go_loopw [5,15] (fun v q wr=>∃j:Nat,q=.int .i64 j/\j<=m+1/\ItsV 197 w.heap.size (zCZ ts i j) v wr/\Below w.heap.size w wr) (fun _ q _=>m+1-(intOf q).toNat)
 case atStart=>exact⟨0,rfl,Nat.zero_le _,R1.out,HB.out⟩
 case round=>
  obtain⟨j,rfl,hj',hV,hW⟩:=hrel;have hlen:=zN3 ts i j;obtain⟨av,cv,rfl,hcv⟩:=hV.shape;have V:=zV7 hV;have kr:=zV7 (K.out wr hW);have q5:=kr.out.targets;have hsz:=hW.size;have WW:=zV7 hW;clear R1 HB hV hW
  by_cases hlt:j<m+1
  ·have hwj:=zIf (j:=j) (by omega);have HX:W64 ((i:Int),(j:Int)):=⟨hwi,hwj⟩;have TMj:=zV7 kr.out.tm;have OS:=zV7 (fun t (e:tgt ts ((i:Int),(j:Int))=some t)=>zKQ e);have ON:=zV7 (fun(e:tgt ts ((i:Int),(j:Int))=none)=>zHF e);generalize eY:zCZ ts i (j+1)=Y' at OS ON;have EY:=zV7 eY;clear eY;generalize zCZ ts i j=Y at*;cases hx:tgt ts ((i:Int),(j:Int))with
   |none=>
    have V2:=zV7 (show ItsV 197 w.heap.size Y' (.slice av Y.length cv) wr from(ON.out hx).symm▸V.out);clear OS ON V;go_wp2_with (at_lookup;refine zDO _ rfl _ _ rfl kaA Tryz.underlying163 Tryz.underlying3 (zRb _) bt n (tgt ts) rfl TMj.out ((i:Int),(j:Int)) rfl HX ?_;simp only[hx,Option.getD_none,Option.isSome_none]);go_roundw
    case rel=>exact⟨j+1,by go_num,by omega,EY.out.symm▸V2.out,WW.out⟩
    case measure=>simp[intOf];omega
   |some t=>
    have hE:=zV7 (OS.out t hx);have hs1:wr.heap.size=wr.heap.size:=rfl;have ON2:=zV7 (zEs 197 w.heap.size wr.heap.size ((j:Int),t) wr rfl hsz);have V1:=zV7 (V.out.went (boxed wr (.cells #[.int .i64 (j:Int),.int .i64 t] 197)));have W1:=zV7 (Gr.step WW.out (boxed wr (.cells #[.int .i64 (j:Int),.int .i64 t] 197)));have hsz1:=W1.out.size;clear OS ON V
    go_wp2_with (first
     |(at_lookup;refine zDO _ rfl _ _ rfl kaA Tryz.underlying163 Tryz.underlying3 (zRb _) bt n (tgt ts) rfl TMj.out ((i:Int),(j:Int)) rfl HX ?_;simp only[hx,Option.getD_some,Option.isSome_some])
     | (at_builtin;refine zAN _ rfl _ _ 193 rfl w.heap.size 197 i0 (.agg #[.int .i64 0,.int .i64 0]) 2 16 Tryz.underlying193 hj hz0 hz1 hz2 rfl (by decide) _ _ _ rfl V1.out w.heap.size _ 1 (ic ((j:Int),t)) rfl ON2.out (zM7 _) (by unfold maxLen;omega) (by omega) hsz1 ?_;intro v' w' hown hg _;have V2:=zV7 (ItsV.of_append (Y:=[((j:Int),t)]) (by simpa using hown) rfl rfl);have W2:=zV7 (W1.out.trans (zA5 hg hsz1 (zS2 V1.out)));clear hown hg))
    go_roundw
    case rel=>exact⟨j+1,by go_num,by omega,(EY.out.trans hE.out).symm▸V2.out,W2.out⟩
    case measure=>simp[intOf];omega
  ·have hE:j=m+1:=by omega
   subst hE;go_wp2;go_ret;exact⟨av,cv,rfl,hcv,V.out,WW.out⟩
end Au
namespace Au
open Gr (Gram Sh checkN top)
open Im
noncomputable def pj(G:Gram)(c:List Itm)(ks:List (List Itm))(j:Nat):Half:=zDK G c (j-1) (ks,[])
theorem zTY(G)(c)(ks):pj G c ks 0=(ks,[]):=rfl
theorem zTW{G}(hv:checkN G=0){c}{ks}{j:Nat}(h:stL G c (j:Int)=[]):pj G c ks (j+1)=pj G c ks j:=by
 unfold pj;cases j with
 |zero=>rfl
 |succ j=>
  show zDK G c (j+1) (ks,[])=zDK G c j (ks,[]);rw[zCK,zIG h]
theorem zTV{G}(hv:checkN G=0){c}{ks}{j:Nat}(h:stL G c (j:Int)≠[]):
  pj G c ks (j+1)=(zIB (pj G c ks j).1 (stL G c (j:Int)),(pj G c ks j).2++[((j:Int),(numK (pj G c ks j).1 (stL G c (j:Int)):Int))]):=by
 cases j with
 |zero=>exact absurd (zOc hv c) h
 |succ j=>
  unfold pj;show zDK G c (j+1) (ks,[])= _;rw[zCK];unfold oneS zIB numK;rw[if_neg h]
  rfl
theorem zTX{G}(hv:checkN G=0){c}{ks}{j:Nat}(h:stL G c (j:Int)≠[]):∀x∈(pj G c ks j).2,x.1≠(j:Int):=fun x hx e=>by
 have:=zGX G c ks (j-1) x hx;cases j with
 |zero=>exact h (zOc hv c)
 |succ j=>omega
theorem zVw{G}(hv:checkN G=0){q}(h:WholeOk G (top G) q)(c)(j):(pj G c q.1 j).1.Nodup/\(∀x∈(pj G c q.1 j).1,Fit3 x)/\(pj G c q.1 j).1.length<=q.1.length+j:=by
 have H:=zGy (G:=G) (c:=c) h.nodup (j-1);refine⟨H.nodup,fun x hx=>?_,by have:=zIH G c q.1 (j-1);unfold pj;omega⟩;obtain⟨more,e,hm⟩:=H.front;unfold pj at hx;rw[e]at hx;rcases List.mem_append.1 hx with k|k
 ·exact fun y hy=>zDw hv ((h.good x k).2.2 y hy)
 ·obtain⟨i,_,h1,_⟩:=hm x k
  exact fun y hy=>by
   rw[h1]at hy;exact zDw hv (zDF (((zFK _ _ _).2 y).1 hy)).1
theorem zU6{G}(hv:checkN G=0)(c)(s):Fit3 (stL G c s)/\(stL G c s).length<=2709:=by
 have hr:∀y∈stL G c s,zAI G y=true:=fun y hy=>(zDF (((zFK _ _ _).2 y).1 hy)).1
 exact⟨fun y hy=>zDw hv (hr y hy),Nat.le_trans (zHO (zFK G c s).1 hr) (zBE hv)⟩
structure LvR (W:World) (p:Nat) (S:Nat->Prop) (h:Sh) (G:Gram) (ts:List (List (Int×Int))) (m:Nat) (w2:World) (H:Half) (wr:World):Prop where
 own:∃T n,BAt W p T h G H.1 (tgt (ts++[H.2])) n wr/\n<=m/\Sep.Ext T S w2
 fr:Sep.Fr S w2 wr
def Left(W:World)(p:Nat)(S:Nat->Prop)(h:Sh)(G:Gram)(ks:List (List Itm))(ts:List (List (Int×Int)))(m:Nat)(w:World)(e:Ending)(w':World):Prop:=
 e=.returned (.tuple #[])/\∃T n,BAt W p T h G ks (tgt ts) n w'/\n<=m/\Sep.Fr S w w'/\Sep.Ext T S w
end Au
namespace Au
open Gr (Gram Sh GAt checkN top drawn)
open Im
theorem zUq{W}{p}{S T T3}{h}{G}{ts}{m n nn:Nat}{w2 wr w3 w4}{H:Half}{K}{j:Nat}{bt}
  (h5:w3.cell? ⟨p,5,none⟩=some (.map (some bt))) (hB:BAt W p T3 h G (zIB H.1 K) (tgt (ts++[H.2])) n w3) (hF:Sep.Fr T wr w3) (hX:Sep.Ext T3 T wr) (hx:Sep.Ext T S w2) (hf:Sep.Fr S w2 wr)
  (hT:TM bt (n+1) (fun y=>if y=((ts.length:Int),(j:Int))then some (numK H.1 K:Int)else tgt (ts++[H.2]) y) w4) (ht:Sep.Fr (· =bt) w3 w4) (hs:∀x∈H.2,x.1≠(j:Int)) (hn:n+1<=m):
  LvR W p S h G ts m w2 (zIB H.1 K,H.2++[((j:Int),(numK H.1 K:Int))]) w4:=by
 obtain⟨a,c,bt',bn,us,k⟩:=hB
 have e:bt'=bt:=by
  have:=k.targets;rw[h5]at this;injection this with this
  injection this with this
  injection this with this
  exact this.symm
 subst e;have k4:=k.turn ht (hT.eq fun y=>(zTu hs y).symm);have hbt:T3 bt':=k.st;have hX2:Sep.Ext T3 S w2:=hx.trans hX hf.size;refine⟨⟨T3,n+1,⟨a,c,bt',bn,us,k4⟩,hn,hX2⟩,?_⟩;refine(hf.trans (T:=T) hF hx).trans ht fun q hq=>hq▸hX2 _ hbt
theorem zV3{W}{p}{T}{h}{G}{ks}{X}{n bt}{w}(hB:BAt W p T h G ks X n w)(h5:w.cell? ⟨p,5,none⟩=some (.map (some bt))):TM bt n X w:=by
 obtain⟨a,c,bt',bn,us,k⟩:=hB;have:=k.targets;rw[h5]at this;injection this with this
 injection this with this
 injection this with this
 subst this;exact k.tm
theorem zVb{W}{p}{T}{h}{G}{ks}{X}{n}{w}(hB:BAt W p T h G ks X n w):∃bt,w.cell? ⟨p,5,none⟩=some (.map (some bt)):=by
 obtain⟨a,c,bt,bn,us,k⟩:=hB;exact⟨bt,k.targets⟩
theorem zTJ(ks)(K):numK ks K<=ks.length:=by
 unfold numK;have h:=List.idxOf_lt_length_of_mem (l:=ks++[K]) (a:=K) (by simp);rw[List.length_append,List.length_singleton]at h;omega
theorem zNX{W:World}{p:Nat}{S:Nat->Prop}{h:Sh}{G:Gram}{q:Whole}{n:Nat}(w:World)(k:BAt W p S h G q.1 (tgt q.2) n w)(kg:GAt h G W)(hv:checkN G=0)(ht:top G<=1000)
  (ok:WholeOk G (top G) q) (hq:q.2.length<q.1.length) (hl:q.1.length<=100000) (hn:n<=1000000000):
  Calls Tryz.prog 110 #[.pointer (some ⟨p,0,none⟩),.int .i64 q.2.length] w (Left W p S h G (rnd G (top G) q).1 (rnd G (top G) q).2 (n+(top G+1)) w):=by
 have ST:=zV7 (zOg w k kg hv ht (fun x hx=>⟨Nat.le_trans (zHO (ok.good x hx).2.1 (ok.good x hx).2.2) (zBE hv),(ok.good x hx).2.2⟩) (by omega) q.2.length hq);rw[zKb hq];have OK:=zV7 (fun j=>zVw hv ok (clL G q.1[q.2.length]) j);have K0:=zV7 k;have hlen:=k.inn;clear k kg;generalize clL G q.1[q.2.length]=C at*;generalize hts:q.2=ts at*;generalize hks:q.1=ks at*;clear hts hks ok;go_enter Tryz.func110,Tryz.ntmps110;go_wp2_with (go_at_call 132;refine ST.out.mono ?_;rintro e w2 ⟨b,cc,rfl,hb1,hb2,hrows,hbw⟩;have ROWS:=zV7 hrows;have HB2:=zV7 hbw;clear hrows hbw);have R0:=zV7 (show LvR W p S h G ts (n+0) w2 (pj G C ks 0) w2 from⟨⟨S,n,(K0.out.went HB2.out).eq (fun x=>by rw[zTY];exact(zRQ ts x).symm) (Nat.le_refl _),Nat.le_refl _,.refl _ _⟩,.refl _ _⟩);have hsw:=HB2.out.size;go_loopw [10] (fun i wr=>∃j:Nat,i=.int .i64 j/\j<=top G+1/\LvR W p S h G ts (n+j) w2 (pj G C ks j) wr) (fun i _=>top G+1-(intOf i).toNat)
 case atStart=>exact⟨0,rfl,Nat.zero_le _,R0.out⟩
 case round=>
  obtain⟨j,rfl,hj,hR⟩:=hrel;have R:=zV7 hR;clear hR R0
  by_cases hlt:j<top G+1
  ·obtain⟨a1,c1,hc,hcc,hi1,hnb⟩:=ROWS.out j hlt;have hsb:¬S b:=fun q=>by have:=K0.out.inn b q;omega
   have hc':wr.cell? ⟨b,j,none⟩=some (.slice a1 (stL G C (j:Int)).length c1):=R.out.fr.cell hc hsb
   have L2:=zV7 (show LAt S (stL G C (j:Int)) (.slice a1 (stL G C (j:Int)).length c1) w2 from⟨a1,c1,rfl,hcc,hi1,fun _ b' o e q=>by
    have:=hnb b' o e;have:=K0.out.inn b' q
    omega⟩)
   obtain⟨hk1,hk2,hk3⟩:=OK.out j;obtain⟨hf1,hf2⟩:=zU6 hv C (j:Int);have PS:=zV7 (fun h0=>zTW (c:=C) (ks:=ks) (j:=j) hv h0);have PN:=zV7 (fun h0=>zTV (c:=C) (ks:=ks) (j:=j) hv h0);have SY:=zV7 (fun h0=>zTX (c:=C) (ks:=ks) (j:=j) hv h0);obtain⟨⟨T,n1,hB,hn1,hXT⟩,hF⟩:=R.out;have KN:=zV7 (fun w1 (b:Below wr.heap.size wr w1)=>zGV w1 (hB.went b) (stL G C (j:Int)) a1 c1 ((L2.out.fr hF hXT).went b) hf1 hk2 hk1 (by omega) (by omega));clear hc hcc hi1 hnb hf1 hk1 hk2
   by_cases h0:stL G C (j:Int)=[]
   ·have PE:=zV7 (PS.out h0);have hz:(stL G C (j:Int)).length=0:=by rw[h0];rfl
    rw[hz]at hc';clear PS PN SY KN L2 h0 hz;go_wp2_with fail;go_roundw
    case rel=>exact⟨j+1,by go_num,by omega,by rw[PE.out];exact⟨⟨T,n1,hB,by omega,hXT⟩,hF⟩⟩
    case measure=>simp[intOf];omega
   ·have PE:=zV7 (PN.out h0);have SE:=zV7 (SY.out h0);have hz:0<(stL G C (j:Int)).length:=List.length_pos_iff.2 h0;clear PS PN SY L2 h0;generalize stL G C (j:Int)=K at*;have kA:=drawn wr;obtain⟨bt,h5⟩:=zVb hB;have h5d:wr.drew.cell? ⟨p,5,none⟩=some (.map (some bt)):=h5;have hnk:=zTJ (pj G C ks j).1 K;have HX:W64 ((ts.length:Int),(j:Int)):=⟨zIf (by omega),zIf (by omega)⟩;have hwf:=zIf (j:=numK (pj G C ks j).1 K) (by omega);have END:=zV7 (fun(T3:Nat->Prop) w3 w4 h1 h2 h3 h4 h6 h7=>zUq (W:=W) (p:=p) (h:=h) (G:=G) (S:=S) (T:=T) (T3:=T3) (m:=n+(j+1)) (n:=n1) (nn:=0) (w2:=w2) (wr:=wr) (w3:=w3) (w4:=w4) (H:=pj G C ks j) (K:=K) (j:=j) (bt:=bt) (ts:=ts) h1 h2 h3 h4 hXT hF h6 h7 SE.out (by omega));go_wp2_with fail
    go_region_law (first
     | (go_simp;go_at_call 108;(with_reducible refine(KN.out _ (by assumption)).mono ?_);rintro e w3 ⟨rfl,T3,hB3,hF3,hX3,h53⟩;have q53:=h53 _ h5d;obtain⟨w4,hrun,m4,t4⟩:=(zV3 hB3 q53).store (T:=163) kaA Tryz.underlying163 Tryz.underlying3 (by unfold maxLen;omega) HX hwf;have hrun2:(Instr.mapUpdate 163 (.map (some bt)) (.agg #[.int .i64 (ts.length:Int),.int .i64 (j:Int)]) (.int .i64 (numK (pj G C ks j).1 K:Int))).run Tryz.prog w3=.ok () w4:=hrun;have E4:=zV7 (END.out T3 w3 w4 q53 hB3 ((Sep.Fr.refl T wr).drew.trans hF3 (.refl _ _)) (hX3.at (Nat.le_refl _)) m4 (zB0 t4));clear hB3 hF3 hX3 h53 hrun m4 t4))
    all_goals
     go_wp2_with fail;go_roundw
     case rel=>exact⟨j+1,by go_num,by omega,by rw[PE.out];exact E4.out⟩
     case measure=>simp[intOf];omega
  ·have hE:j=top G+1:=by omega
   subst hE;obtain⟨⟨T,n1,hB,hn1,hXT⟩,hF⟩:=R.out;go_wp2
   try simp only[Exit.inBlock,Exit.then]
   refine bodyPost_ret (v:=.tuple #[]) (by simp[results,Tryz.results110,go_sem]) rfl ?_;exact⟨rfl,T,n1,hB,hn1,(Sep.Fr.of_below HB2.out).trans hF (.refl _ _),hXT.at hsw⟩
end Au
namespace Au
open Gr (Gram Sh GAt top boxed cell_later)
open Im
open Rw (zAN)
theorem zLO:(Tryz.prog.info? 195).map (fun i=>(i.zero,i.size,i.bytes))=some (some (.agg #[.slice none 0 0,.slice none 0 0]),2,48):=by kernel_rfl
def zD8(G:Gram)(ks:List (List Itm))(ts:List (List (Int×Int)))(i:Nat):List Sta:=(List.range i).map fun j=>(zAK ks j,zCZ ts (j:Int) (top G+1))
theorem zKv(G)(ks)(ts)(i):zD8 G ks ts (i+1)=zD8 G ks ts i++[(zAK ks i,zCZ ts (i:Int) (top G+1))]:=by
 unfold zD8;rw[List.range_succ,List.map_append]
 rfl
theorem zDc(G)(ks)(ts)(i):(zD8 G ks ts i).length=i:=by simp[zD8]
theorem zMO{G}{q}(h:Done G q):zD8 G q.1 q.2 q.1.length=states q:=by
 refine List.ext_getElem (by rw[zDc,zAv h.all]) fun i h1 h2=>?_
 rw[zDc]at h1;have hi:i<q.2.length:=by rw[h.all];exact h1
 have e:=zCO h.all h1;rw[List.getElem?_eq_getElem h2,Option.some.injEq]at e;rw[e];simp only[zD8,List.getElem_map,List.getElem_range];rw[zN2 h.ok hi]
def zPA(X:List Sta)(w:World)(e:Ending)(w':World):Prop:=∃a c,e=.returned (.slice a X.length c)/\StaA a X w'/\X.length<=c/\Below w.heap.size w w'
theorem zOe(T)(base q)(u v)(w:World)(hq:q=w.heap.size)(hb:base<=q)(hu:u.oneCell'=true)(hv:v.oneCell'=true):(w.alloc (.cells #[u,v] T)).ownsRow base T 2 (.slice (some ⟨q,0,none⟩) 1 1) 1 [u,v]:=by
 subst hq;exact World.ownsRow_lit w #[u,v] 1 hb (by decide) (by simp)
theorem zLz{W:World}{p:Nat}{S:Nat->Prop}{h:Sh}{G:Gram}{ks:List (List Itm)}{ts:List (List (Int×Int))}{n:Nat}(w:World)(k:BAt W p S h G ks (tgt ts) n w)(kg:GAt h G W)(ht:top G<=1000)(hl:ks.length<=1000000):
  Calls Tryz.prog 111 #[.pointer (some ⟨p,0,none⟩)] w (zPA (zD8 G ks ts ks.length) w):=by
 have TR:=zV7 (fun w1 (b:Below w.heap.size w w1) i (hi:i<=1000000)=>zFr w1 (k.went b) kg ht i hi);obtain⟨a0,c0,bt,bn,us,k⟩:=k;obtain⟨i0,hj,hz0,hz1,hz2⟩:=info_parts zLO;have K:=zV7 k;have S0:=zV7 (StV.nil 195 w.heap.size w);have q4:=k.items;clear k kg;go_enter Tryz.func111,Tryz.ntmps111;go_wp2;go_loopw [3,11] (fun v q wr=>∃(j:Nat) (L:List StC),q=.int .i64 j/\j<=ks.length/\L.map Prod.fst=zD8 G ks ts j/\StV 195 w.heap.size L v wr/\Below w.heap.size w wr) (fun _ q _=>ks.length-(intOf q).toNat)
 case atStart=>exact⟨0,[],rfl,Nat.zero_le _,rfl,S0.out,.refl _ _⟩
 case round=>
  obtain⟨j,L,rfl,hjl,hM,hV,hW⟩:=hrel
  have hlen:L.length=j:=by
   have:=congrArg List.length hM
   rwa [List.length_map,zDc]at this
  subst hlen;obtain⟨av,cv,rfl,hcv⟩:=hV.len;have V:=zV7 hV;have WW:=zV7 hW;have MM:=zV7 hM;clear S0 hV hM
  by_cases hlt:L.length<ks.length
  ·obtain⟨b,a1,c1,rfl,hc1,l1,i1,_⟩:=K.out.at hlt;have hc2:=cell_later hW hc1
   have U1:=zV7 (show LOk ks[L.length] (.slice a1 ks[L.length].length c1) (.slice av L.length cv) w from⟨a1,c1,rfl,l1,i1,fun hne b o e g=>by
    have h1:=zGR i1 hne e;have h2:=(World.ownsRow.lt V.out.row b g).1
    omega⟩)
   have hst:=zBg hlt;have EX:=zV7 (show zD8 G ks ts (L.length+1)=zD8 G ks ts L.length++[(ks[L.length],zCZ ts (L.length:Int) (top G+1))]from by rw[zKv,hst]);have TJ:=zV7 (TR.out wr hW L.length (by omega));have hL1:L.length<=1000000:=by omega
   generalize ks[L.length]=Kj at*;generalize zCZ ts (L.length:Int) (top G+1)=Y at*;clear i1 l1 hst hW
   go_wp2_with (first
    | (go_at_call 133;refine TJ.out.mono ?_;rintro e w2 ⟨a2,c2,rfl,l2,v2,b2⟩;have V2:=zV7 (V.out.went b2);have W2:=zV7 (Gr.step WW.out b2);have U2:=zV7 ((U1.out.went WW.out).went b2);have Y2:=zV7 (show LOk Y (.slice a2 Y.length c2) (.slice av L.length cv) w2 from⟨a2,c2,rfl,l2,v2.reads,fun hne b o e g=>by
      have h1:=(World.ownsRow.lt V.out.row b g).2;have h2:=(World.ownsRow.lt v2 b (by rw[e];rfl)).1
      omega⟩);have hs2:=W2.out.size;have ONE:=zV7 (zOe 195 w.heap.size w2.heap.size (.slice a1 Kj.length c1) (.slice a2 Y.length c2) w2 rfl hs2 rfl rfl);have b3:=boxed w2 (.cells #[.slice a1 Kj.length c1,.slice a2 Y.length c2] 195);have V3:=zV7 (V2.out.went b3);have W3:=zV7 (Gr.step W2.out b3);have U3:=zV7 (U2.out.went b3);have Y3:=zV7 (Y2.out.went b3);have hs3:=W3.out.size;clear l2 v2 b2 b3)
    | (at_builtin;refine zAN _ rfl _ _ 101 rfl w.heap.size 195 i0 (.agg #[.slice none 0 0,.slice none 0 0]) 2 48 Tryz.underlying101 hj hz0 hz1 hz2 rfl (by decide) _ _ _ rfl V3.out.row w.heap.size _ 1 [.slice a1 Kj.length c1,.slice a2 Y.length c2] rfl ONE.out (by simp[Value.oneCell']) (by unfold maxLen;omega) (by omega) hs3 ?_;intro v' w4 hown hg hloc;have V4:=zV7 (V3.out.snoc ((Kj,Y),(.slice a1 Kj.length c1,.slice a2 Y.length c2)) ⟨U3.out,Y3.out⟩ hown hg (hloc.imp id fun e=>⟨_,Nat.le_refl _,e⟩));have W4:=zV7 (W3.out.trans (zA5 hg hs3 fun q hq=>(World.ownsRow.lt V3.out.row q hq).1));clear hown hg hloc))
   go_roundw
   case rel=>exact⟨L.length+1,_,by go_num,by omega,by rw[List.map_append,MM.out,EX.out];rfl,V4.out,W4.out⟩
   case measure=>simp[intOf];omega
  ·have hE:L.length=ks.length:=by omega
   have R:=zV7 (show StaA av (zD8 G ks ts ks.length) wr from by rw[←hE,←MM.out];exact V.out.at);have hll:(zD8 G ks ts ks.length).length=L.length:=by rw[zDc,hE]
   clear hE;go_wp2;go_ret;exact⟨av,cv,by rw[hll];rfl,R.out,by rw[hll];exact hcv,WW.out⟩
end Au
namespace Au
open Gr (Gram Sh top boxed zAC)
open Im
def zL8(G:Gram)(w:World)(e:Ending)(w':World):Prop:=∃(X:List Sta) (er:Int) (a:Option Addr) (c:Nat),e=.returned (.tuple #[.slice a X.length c,.int .i64 er])/\Built G er X/\StaA a X w'/\X.length<=c/\Below w.heap.size w w'
theorem fresh(h)(G)(w w1)(hb:Below w.heap.size w w1)(T):
  BAt w (w1.heap.size+1+1) (fun k=>w1.heap.size<=k/\k<=w1.heap.size+2) h G [] (tgt []) 0
   (((w1.alloc (.map #[] 0)).alloc (.map #[] 0)).alloc (.cells #[.slice h.a1 G.terms.length h.c1,.slice h.a2 G.nons.length h.c2,.slice h.a3 G.rules.length h.c3,.int .i64 G.start,.slice none 0 0,.map (some w1.heap.size),.map (some (w1.heap.size+1))] T)):=by
 have hs:=hb.size;have m1:(w1.alloc (.map #[] 0)).heap.size=w1.heap.size+1:=by simp
 have m2:((w1.alloc (.map #[] 0)).alloc (.map #[] 0)).heap.size=w1.heap.size+1+1:=by simp
 have t1:=(TMap.made w1 Tryz.prog 202 3).eq fun x=>(zTt x).symm
 have s1:=SMap.made (w1.alloc (.map #[] 0)) Tryz.prog 9 3;rw[m1]at s1;have b1:=boxed (w1.alloc (.map #[] 0)) (.map #[] 0);have b2:=boxed ((w1.alloc (.map #[] 0)).alloc (.map #[] 0)) (.cells #[.slice h.a1 G.terms.length h.c1,.slice h.a2 G.nons.length h.c2,.slice h.a3 G.rules.length h.c3,.int .i64 G.start,.slice none 0 0,.map (some w1.heap.size),.map (some (w1.heap.size+1))] T)
 have K:∀j v,#[Value.slice h.a1 G.terms.length h.c1,.slice h.a2 G.nons.length h.c2,.slice h.a3 G.rules.length h.c3,.int .i64 G.start,.slice none 0 0,.map (some w1.heap.size),.map (some (w1.heap.size+1))][j]?=some v->
   (((w1.alloc (.map #[] 0)).alloc (.map #[] 0)).alloc (.cells #[.slice h.a1 G.terms.length h.c1,.slice h.a2 G.nons.length h.c2,.slice h.a3 G.rules.length h.c3,.int .i64 G.start,.slice none 0 0,.map (some w1.heap.size),.map (some (w1.heap.size+1))] T)).cell? ⟨w1.heap.size+1+1,j,none⟩=some v:=fun j v hv=>zAC m2.symm hv
 refine⟨none,0,w1.heap.size,w1.heap.size+1,[],?_⟩;refine⟨Gr.step hb (Gr.step (Gr.step (boxed w1 (.map #[] 0)) b1) b2),⟨K 0 _ rfl,K 1 _ rfl,K 2 _ rfl,K 3 _ rfl⟩,K 4 _ rfl,K 5 _ rfl,K 6 _ rfl,Gr.zCS m2.symm,World.ownsRow_nil _ _ _ _,fun i hi=>absurd hi (Nat.not_lt_zero i),?_,?_,⟨by omega,by omega⟩,⟨by omega,by omega⟩,⟨by omega,by omega⟩,fun g hg=>by simp[Value.ownBlock]at hg,by omega,by omega,by omega,fun g hg=>by simp[Value.ownBlock]at hg,fun k hk=>by omega,fun k hk=>?_⟩
 ·exact t1.keep ((b2.block _ (by omega)).trans (b1.block _ (by omega)))
 ·exact s1.keep (b2.block _ (by omega))
 ·simp;omega
structure BdR (w:World) (p:Nat) (h:Sh) (G:Gram) (m:Nat) (wr:World):Prop where
 own:∃T n,BAt w p T h G (runs G (top G) m).1 (tgt (runs G (top G) m).2) n wr/\n<=m*2000
 going:zIh G m
 few:(runs G (top G) m).1.length<=2000
theorem BdR.start{w}{p}{T}{h}{G}{wr}(k:BAt w p T h G [[((G.rules.length:Int),0)]] (tgt []) 0 wr):BdR w p h G 0 wr:=⟨⟨T,0,k,by omega⟩,zLK G,by simp[runs]⟩
theorem BdR.not{w}{p}{h}{G}{m}{wr}(k:BdR w p h G m wr)(hm:m<(runs G (top G) m).1.length):¬Stop (runs G (top G) m):=by
 have h1:=k.few;have h2:=k.going.len;unfold Stop;omega
theorem BdR.done{w}{p}{h}{G}{m}{wr}(k:BdR w p h G m wr)(hm:¬m<(runs G (top G) m).1.length):zET G m/\¬2000<(runs G (top G) m).1.length:=by
 have h1:=k.few;have h2:=k.going.len;have h3:=(zFk G (top G) m).le;exact⟨k.going.stop (.inr (by omega)),by omega⟩
theorem BdR.many{w}{p}{h}{G}{m}{wr}(k:BdR w p h G m wr)(hm:m<(runs G (top G) m).1.length)(h9:2000<(runs G (top G) (m+1)).1.length):zET G (m+1):=(k.going.next (k.not hm)).stop (.inl h9)
end Au
namespace Au
open Gr (Gram Sh gv GAt Bx checkN zBs top)
open Im
theorem zUL{Y}{a}{c}{w w':World}{S}(h:ItsV 181 w.heap.size Y (.slice a Y.length c) w')(hS:∀k,S k->k<w.heap.size):LAt S Y (.slice a Y.length c) w':=by
 obtain⟨a',c',e,hc⟩:=h.shape;simp only[Value.slice.injEq]at e;obtain⟨rfl,_,rfl⟩:=e
 exact⟨a,c,rfl,hc,h.reads,fun _ b o e q=>by
  have:=(World.ownsRow.lt h b (by rw[e];rfl)).1;have:=hS b q
  omega⟩
theorem zSI{G}{Y:List Itm}(hv:checkN G=0)(h:Y=[((G.rules.length:Int),0)]):Fit3 Y:=fun x hx=>by
 rw[h,List.mem_singleton]at hx;subst hx;exact zDw hv (zBS (Nat.le_refl _))
theorem zPH{w}{p}{T}{h}{G}{Y:List Itm}{X}{n}{w'}(e:Y=[((G.rules.length:Int),0)])(k:BAt w p T h G (zIB [] Y) X n w'):BAt w p T h G [[((G.rules.length:Int),0)]] X n w':=by
 subst e;exact k
theorem zHe(h:Sh)(G:Gram)(w:World)(k:GAt h G w)(ht:checkN G=0->top G<=1000):
  Calls Tryz.prog 93 #[gv h G] w (zL8 G w):=by
 have C:=zV7 (fun w1 (b:Below w.heap.size w w1)=>zBs h G w1 (k.went b));have X:=zV7 (Bx.start h G w 47)
 by_cases hc:checkN G=0
 ·have BG:=zV7 (fun w1 (b:Below w.heap.size w w1)=>zHb h G w1 (k.went b));have KG:=zV7 k;replace ht:=ht hc;rw[hc]at C;have hmm:=@run_makeMap Tryz.prog;clear k;unfold gv at C BG⊢;go_enter Tryz.func93,Tryz.ntmps93
  go_wp2_with (first
   |(go_at_call 107;refine(C.out _ X.out.below).mono ?_;rintro e w1 ⟨rfl,hb⟩;have X1:=zV7 (X.out.went hb);obtain⟨g0,g1,g2,g3⟩:=X1.out.box;have hq:w.heap.size<w1.heap.size:=World.block_lt_of_cell? w1 ⟨w.heap.size,0,none⟩ g0;have hq2:w.heap.size<w1.heap.size+1:=(by omega);have hq3:w.heap.size<w1.heap.size+1+1:=(by omega);have B0:=zV7 (fresh h G w w1 X1.out.below 167);have X2:=zV7 (((X1.out.alloc (.map #[] 0)).alloc (.map #[] 0)).alloc (.cells #[.slice h.a1 G.terms.length h.c1,.slice h.a2 G.nons.length h.c2,.slice h.a3 G.rules.length h.c3,.int .i64 G.start,.slice none 0 0,.map (some w1.heap.size),.map (some (w1.heap.size+1))] 167));clear hb)
   |(go_at_call 109;refine(BG.out _ X2.out.below).mono ?_;rintro e w3 ⟨Y,a3,c3,rfl,y1,y2,y3⟩;have HY:=zV7 (show Y=[((G.rules.length:Int),0)]from(y1.iff (Q:=fun x=>x=((G.rules.length:Int),0)) fun x=>⟨fun q=>q.2,fun q=>⟨hc,q⟩⟩).uniq ⟨zFp _,fun x=>List.mem_singleton⟩);have U3:=zV7 (zUL y2 B0.out.inn);have B3:=zV7 (B0.out.went y3);have X3:=zV7 (X2.out.went y3);clear y1 y2 y3)
   | (go_at_call 108;refine(zGV _ B3.out Y a3 c3 U3.out (zSI hc HY.out) (fun x hx=>by cases hx) List.nodup_nil (Nat.zero_le _) (by rw[HY.out];simp)).mono ?_;rintro e w4 ⟨rfl,T4,b4,f4,x4,_⟩;have R0:=zV7 (BdR.start (zPH HY.out b4));clear b4 f4 x4))
  clear C BG X hmm;go_loopw [6] (fun i wr=>∃m:Nat,i=.int .i64 m/\m<=2000/\BdR w (w1.heap.size+1+1) h G m wr) (fun i _=>2001-(intOf i).toNat)
  case atStart=>exact⟨0,rfl,Nat.zero_le _,R0.out⟩
  case round=>
   obtain⟨m,rfl,hm,hR⟩:=hrel;have R:=zV7 hR;clear hR R0;obtain⟨⟨T,n,hB,hn⟩,hg,hfew⟩:=R.out;have hgl:=hg.len
   by_cases hlt:m<(runs G (top G) m).1.length
   ·have LV:=zNX (W:=w) wr hB KG.out hc ht (zFk G (top G) m) (by omega) (by omega) (by omega);rw[hgl]at LV;have LVh:=zV7 LV;have NX:=zV7 (fun(hs:¬2000<(runs G (top G) (m+1)).1.length)=>(show zIh G (m+1)/\(runs G (top G) (m+1)).1.length<=2000 from⟨hg.next (R.out.not hlt),by omega⟩));have MY:=zV7 (R.out.many hlt);obtain⟨a0,c0,bt,bn,us,k0⟩:=hB;have q4:=k0.items;clear k0 LV;go_wp2_with (go_at_call 110;refine LVh.out.mono ?_;rintro e w5 ⟨rfl,T5,n5,b5,l5,f5,x5⟩;obtain⟨a5,c5,bt5,bn5,us5,k5⟩:=b5;have K5:=zV7 k5;have q5:w5.cell? ⟨w1.heap.size+1+1,4,none⟩=some (.slice a5 (runs G (top G) (m+1)).1.length c5):=k5.items;clear k5 f5 x5)
    ·go_ret2;exact⟨[],7,none,0,rfl,.many hc (MY.out (by omega)) (by omega),.nil _ _,Nat.le_refl _,K5.out.below⟩
    ·obtain⟨n1,n2⟩:=NX.out (by omega);refine⟨⟨m+1,by go_num,by omega,⟨⟨T5,n5,⟨a5,c5,bt5,bn5,us5,K5.out⟩,by omega⟩,n1,n2⟩⟩,?_⟩;simp[intOf];omega
   ·obtain⟨d1,d2⟩:=R.out.done hlt;have SA:=zV7 (zLz (W:=w) wr hB KG.out ht (by omega));have DN:=zV7 (d1.done d2);have AO:=zV7 (zMO DN.out);obtain⟨a0,c0,bt,bn,us,k0⟩:=hB;have q4:=k0.items;have HW:=zV7 k0.below;clear k0;go_wp2_with (go_at_call 111;refine SA.out.mono ?_;rintro e w5 ⟨a5,c5,rfl,s1,s2,s3⟩;have S1:=zV7 s1;have S2:=zV7 s2;have S3:=zV7 (Gr.step HW.out s3);clear s1 s2 s3);go_ret2;exact⟨_,0,a5,c5,rfl,AO.out▸.all hc d1 d2,S1.out,S2.out,S3.out⟩
 ·have hcb:(checkN G != 0)=true:=by simpa using hc
  clear k;unfold gv at C⊢;go_enter Tryz.func93,Tryz.ntmps93;go_wp2_with (go_at_call 107;refine(C.out _ X.out.below).mono ?_;rintro e w1 ⟨rfl,hb⟩;have X1:=zV7 (X.out.went hb);clear hb);go_ret2;exact⟨[],checkN G,none,0,rfl,.bad hc,.nil _ _,Nat.le_refl _,X1.out.below⟩
