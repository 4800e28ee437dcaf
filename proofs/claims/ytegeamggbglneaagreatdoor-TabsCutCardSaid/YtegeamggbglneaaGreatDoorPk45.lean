/- Proof. -/
import Derived.Test.YtegeamggbglneaaGreatDoorPk44
import Derived.Test.YtegeamggbglneaaGreatDoorPk40
import Derived.Test.YtegeamggbglneaaGreatDoorPk43
import Derived.Test.YtegeamggbglneaaGreatDoorPk42
set_option maxHeartbeats 8000000
set_option maxRecDepth 100000
set_option linter.unusedVariables false
set_option linter.unusedSimpArgs false
namespace Go.Proofs.YtegeamggbglneaaGreatDoor
open Go.RowKit Go.Maps
namespace Lk
open Gr (ai gv bI ax checkN)
open Im
open Au
theorem Vz{G}(hv:checkN G=0):rep G ((G.rules.length:Int),0)=((G.rules.length:Int),0):=by
 have h:=yD (G:=G) (Nat.le_refl _);rw[yG rfl];have e:(ax G ((G.rules.length:Nat):Int)).1=0:=by rw[(Gr.nK G).2]
 rw[e]at h;show hd G (ax G ((G.rules.length:Nat):Int)).1= _;rw[e];unfold hd;rw[VZ hv h]
theorem zVZ{G}{q}{w1 w2 w3}{p mb}{aS}{cS}(hv:checkN G=0)(dn:Done G q)(len:q.1.length<=2000)(hB:bE G 0 (states q))(hS:fB aS (states q) w1)(hmb:mb=w1.heap.size)(hp:p=w1.heap.size+1)
  (h12:Below w1.heap.size w1 w2) (hp2:p<w2.heap.size) (hmap:jz mb 0 (fun _=>none) w2) {e} (hR:Xl G p mb aS (states q).length cS w2 e w3):
  e=.returned (.tuple #[])/\∃K:Fk,K.p=p/\Fix w3 K G q/\∃S,jX w3 K G q S 0 0 [] Dj S w3/\(∀b,S b->w1.heap.size<=b)/\Below w1.heap.size w1 w3:=by
 obtain⟨rfl,w4,D,lab,zl,hf,h4,hD⟩:=hR;have xy:Below w1.heap.size w1 w3:=h12.trans (hf.below (fun k hk=>by rw[hk];omega) h12.size);refine⟨rfl,?_⟩;obtain⟨K,k1,k2,S,k3,k4⟩:=zl.fix hv dn (Tn hB) len (fun w f=>hS.went (xy.trans (f.below (fun k hk=>by rcases hk with r|r<;>omega) xy.size))) (by omega) (by omega) (by omega) (hmap.keep (hf.block mb (by omega) (by omega)));exact⟨K,k1,k2,S,⟨k3,.refl _ _,.refl _ _,lk0 G q,fun k hk=>absurd hk (Nat.not_lt_zero k),fun x hx=>by cases hx⟩,(fun b hb=>by rcases k4 b hb with r|r<;>omega),xy⟩
theorem jX.step2{W}{K}{G}{q}{S T T0}{i j}{L}{N}{w w' w0}(h:jX W K G q S i j L N T w)(hj)(hf:Sep.Fr T0 w0 w)(hx:Sep.Ext T T0 w0){e}(hl:Linked W K G q N (2*(i*3000+j)) i L[j] T w e w'):
  e=.returned (.tuple #[])/\∃M U,jX W K G q S i (j+1) L M U w'/\Sep.Fr T0 w0 w'/\Sep.Ext U T0 w0:=by
 have hl':=hl;obtain⟨e1,M,U,h1,h2,h3,h4,h5,h6⟩:=hl;refine⟨e1,M,U,⟨h1,h.fr.trans h2 h.ext,h.ext.trans h3 h.fr.size,h4.mono (by omega),fun k hk x hx=>(h.past k hk x hx).AY h5,fun x hx=>?_⟩,hf.trans h2 hx,hx.trans h3 hf.size⟩;rw[List.take_succ_eq_append_getElem hj]at hx;rcases List.mem_append.1 hx with hx|hx
 ·exact(h.here x hx).AY h5
 ·rw[List.mem_singleton]at hx;rw[hx];exact h6
structure Ak (W:World) (K:Fk) (G:ai) (q:Whole) (S:Nat->Prop) (w:World) (N:Nt) (T:Nat->Prop):Prop where
 at_:gM W K G q N T w
 fr:Sep.Fr S W w
 lk:lD G q N
 all:∀j,j<q.1.length->∀y,cM G (bp q.1 j) y->nT G q N j y
 full:∀(k i:Nat) (c:au) (t:Nat),N.ak[k]?=some (i,c)->(N.S k t=true↔La G q i c (t:Int))
theorem of_cell{W}{K}{G}{q}{S T}{N}{w w2}(FX:Fix W K G q)(h:jX W K G q S q.1.length 0 [] N T w)(hpos:0<q.1.length){e}(hc:Za W K G q N 0 (rep G ((G.rules.length:Int),0)) T w e w2):
  ∃(k0:Nat) (M:Nt) (U:Nat->Prop),e=.returned (.int .i64 (k0:Int))/\M.ak[k0]?=some (0,((G.rules.length:Int),0))/\jX W K G q S q.1.length 0 [] M U w2:=by
 obtain⟨k0,M,rfl,hk,hM,U,h1,h2,h3⟩:=hc;rw[Vz FX.ok]at hk hM;obtain⟨l1,l2⟩:=h.lk.of_cell hpos (Vz FX.ok) (wC (Nat.le_refl _)) hM;exact⟨k0,M,U,rfl,hk,h1,h.fr.trans h2 h.ext,h.ext.trans h3 h.fr.size,l1,fun k hk x hx=>(h.past k hk x hx).AY l2,fun x hx=>by cases hx⟩
theorem zOG{W}{K}{G}{q}{S T}{N}{w w2}{k0:Nat}(FX:Fix W K G q)(h:jX W K G q S q.1.length 0 [] N T w)(rX:N.ak[k0]?=some (0,((G.rules.length:Int),0))){e}(hs:Yw W K G q T N k0 w e w2):
  e=.returned (.tuple #[])/\∃M U,Ak W K G q S w2 M U:=by
 obtain⟨rfl,M,U,hP,hq⟩:=hs;have l1:=hP.kp.lk h.lk.lk;have la:∀j,j<q.1.length->∀y,cM G (bp q.1 j) y->nT G q M j y:=fun j hj y hy=>hP.kp.lkd (h.past j hj y hy)
 exact⟨rfl,M,U,hP.at_,h.fr.trans hP.fr h.ext,l1,la,fun k i c t hk=>zQD FX.done FX.ok l1 hP.sp hq la (k0:=k0) (by rw[hP.kp.1];exact rX) hP.zero hk t⟩
theorem zMe(h)(G)(w)(k:bI h G w)(hv:checkN G=0):
  Calls Tryz.prog 109 #[gv h G] w (fun e w'=>∃b o c,e=.returned (.slice (some ⟨b,o,none⟩) 1 c)/\w'.cell? ⟨b,o,none⟩=some (.int .i64 (G.rules.length:Int))/\w'.cell? ⟨b,o+1,none⟩=some (.int .i64 0)/\Below w.heap.size w w'):=by
 refine(UN h G w k).mono ?_;rintro e w' ⟨Y,a,c,rfl,y1,y2,y3⟩;have HY:Y=[((G.rules.length:Int),0)]:=(y1.iff (Q:=fun x=>x=((G.rules.length:Int),0)) fun x=>⟨fun q=>q.2,fun q=>⟨hv,q⟩⟩).uniq ⟨ED _,fun x=>List.mem_singleton⟩;subst HY;obtain⟨b,o,rfl,t0,t1⟩:=y2.reads.at 0 (by simp);exact⟨b,o,c,rfl,by simpa using t0,by simpa using t1,y3⟩
end Lk
namespace Lk
open Gr (ai Sh gv bI Bx boxed step checkN)
open Im
open Au
open Rw (Bk lL)
theorem Mv:(Tryz.prog.info? 145).map (fun i=>(i.zero,i.size,i.bytes))=some (some (.slice none 0 0),1,24):=by kernel_rfl
theorem zQl(h:Sh)(G:ai)(w:World)(k:bI h G w)(bF:Bt.jA w):
  Calls Tryz.prog 94 #[gv h G] w (zPY G w):=by
 have X:=af (Bx.start h G w 47);have BU:=af (fun w1 (b:Below w.heap.size w w1)=>UR h G w1 (k.went b) (fun hv=>Nat.le_trans (DU hv) (by omega)));have RD:=af (fun w1 (b:Below w.heap.size w w1) (hv:checkN G=0) (p mb:Nat) (aS:Option Addr) (n cS:Nat) (hp:w.heap.size<=p) qA=>NF h G k w1 b hv bF (p:=p) (mb:=mb) (aS:=aS) (n:=n) (cS:=cS) hp qA);have BG:=af (fun w1 (b:Below w.heap.size w w1) hv=>zMe h G w1 (k.went b) hv);have TB:=af (fun w1 (b:Below w.heap.size w w1)=>bF.below b bF.pos);have hmm:=@run_makeMap Tryz.prog;obtain⟨i0,hj,hz0,hz1,hz2⟩:=info_parts Mv;clear k bF;unfold gv at*;go_enter Tryz.func94,Tryz.ntmps94;go_wp2_with fail;refine(BU.out _ X.out.below).mono ?_;rintro e w1 ⟨ST,er,aX,cX,rfl,hB,hS,hle,hb1⟩;have X1:=af (X.out.went hb1);rcases Mq hB with⟨h0,rfl,hB'⟩|⟨rfl,hv,q,rfl,D,hlen,hB'⟩
 ·clear hB;go_wp2;refine bodyPost_ret (v:=.tuple #[.slice none 0 0,.int .i64 er]) (by simp[results,Tryz.results94,go_sem]) rfl ?_;exact⟨er,[],none,0,rfl,.bad hB' h0,⟨fun _=> .slice none 0 0,World.ownsRow_nil _ _ _ _,fun k hk=>absurd hk (Nat.not_lt_zero k)⟩,X1.out.below⟩
 ·clear hB BU;obtain⟨x0,x1,x2,x3⟩:=X1.out.box;have hq:w.heap.size<w1.heap.size:=World.block_lt_of_cell? w1 ⟨w.heap.size,0,none⟩ x0;have hq2:w.heap.size<w1.heap.size+1:=by omega
  go_wp2_with fail;have HB:=Bk.new (w1.alloc (.map #[] 0)) #[.slice aX (states q).length cX,.int .i64 (G.terms.length:Int),.slice none 0 0,.slice none 0 0,.slice none 0 0,.slice none 0 0,.map (some w1.heap.size),.slice none 0 0] 177 (w1.heap.size+1) (by simp);have b1:Below w1.heap.size w1 (w1.alloc (.map #[] 0)):=boxed _ _;have b2:=boxed (w1.alloc (.map #[] 0)) (.cells #[.slice aX (states q).length cX,.int .i64 (G.terms.length:Int),.slice none 0 0,.slice none 0 0,.slice none 0 0,.slice none 0 0,.map (some w1.heap.size),.slice none 0 0] 177);have HM:jz w1.heap.size 0 (fun _=>none) ((w1.alloc (.map #[] 0)).alloc (.cells #[.slice aX (states q).length cX,.int .i64 (G.terms.length:Int),.slice none 0 0,.slice none 0 0,.slice none 0 0,.slice none 0 0,.map (some w1.heap.size),.slice none 0 0] 177)):=(fL.made w1 _ _ _).keep (b2.block _ (by simp));have h12:=Gr.step b1 b2;generalize (w1.alloc (.map #[] 0)).alloc (.cells #[.slice aX (states q).length cX,.int .i64 (G.terms.length:Int),.slice none 0 0,.slice none 0 0,.slice none 0 0,.slice none 0 0,.map (some w1.heap.size),.slice none 0 0] 177)=w2 at*;have X2:=af (X1.out.went h12);have hsl:(states q).length=q.1.length:=rD D.all;clear b1 b2;generalize hp:w1.heap.size+1=p at*;refine(RD.out w2 X2.out.below hv p w1.heap.size aX (states q).length cX (by omega) HB).mono ?_;intro e w3 hR;obtain⟨rfl,K,rfl,FX,S,O,QZ,xy⟩:=zVZ hv D hlen hB' hS rfl hp.symm h12 HB.lt HM hR;have O0:=af O;have XF:=af (fun w' (f:Sep.Fr S w3 w')=>X1.out.went (xy.trans (f.below QZ xy.size)));have hpos:=D.ok.pos;have Ff:=af xy;have Fu:=af QZ;clear hR O HB HM h12 X2 hp hS hle hb1 X x0 x1 x2 x3 hq hq2 RD hmm;rw[hsl]at*;go_wp2_with fail;go_loopw [32] (fun t wr=>∃(i:Nat) (N:Nt) (T:Nat->Prop),t=.int .i64 i/\i<=q.1.length/\jX w3 K G q S i 0 [] N T wr) (fun t _=>q.1.length-(intOf t).toNat)
  case atStart=>exact⟨0,Dj,S,rfl,Nat.zero_le _,O0.out⟩
  case round=>
   obtain⟨i,N,T,rfl,hil,hO⟩:=hrel;have O:=af hO;clear hO O0
   by_cases hi:i<q.1.length
   ·have Fj:=af (Tq FX wr O.out.at_ i hi);have wV:=af (fun x=>yO D hv hi x);have hcl:(dZ G (bp q.1 i) (jU q i)).length<=2709:=Nat.le_trans (DY (Mn D hv hi) (M:=allI G) fun x hx=>uC (oF ((wV.out x).1 hx))) (se hv);have OP:=af (O.out.open (dZ G (bp q.1 i) (jU q i)));have IT:=af O.out.at_.bK
    generalize dZ G (bp q.1 i) (jU q i)=L at*;go_wp2_with (go_at_call 113;refine Fj.out.mono ?_;rintro e w5 ⟨aL,cL,rfl,v1,b1⟩;have V1:=af v1;have BW:=af b1;have O5:=af (OP.out.went b1);clear v1 b1);clear Fj OP O;go_loopw [39] (fun t wz=>∃(j:Nat) (N:Nt) (U:Nat->Prop),t=.int .i64 j/\j<=L.length/\jX w3 K G q S i j L N U wz/\Sep.Fr T w5 wz/\Sep.Ext U T w5) (fun t _=>L.length-(intOf t).toNat)
    case atStart=>exact⟨0,N,T,rfl,Nat.zero_le _,O5.out,.refl _ _,.refl _ _⟩
    case round=>
     obtain⟨j,M,U,rfl,hjl,hO,hf,hx⟩:=hrel;have O:=af hO;have HF:=af hf;have HX:=af hx;clear hO hf hx O5
     by_cases hlt:j<L.length
     ·have V2:=V1.out.keep (w':=wr) fun g hg=>HF.out.block g (World.ownsRow.lt V1.out g hg).2 fun e=>by
       have:=IT.out g e;have:=(World.ownsRow.lt V1.out g hg).1;omega
      obtain⟨b2,o2,rfl,t0,t1⟩:=V2.reads.at j hlt;have Gk:=(wV.out _).1 (List.getElem_mem hlt);have bx:Below wr.heap.size wr (wr.alloc (.cells #[.int .i64 L[j].1,.int .i64 L[j].2] 181)):=boxed _ _;have OB:=af (O.out.went bx);have ZK:=af (HF.out.trans (.of_below bx) HX.out);have LK:=af (zQj FX _ OB.out.at_ OB.out.lk (by omega) i hi L[j] Gk);have ST:=af (fun e w7 hl=>OB.out.step2 hlt ZK.out HX.out (e:=e) (w':=w7) hl);unfold iv at LK;generalize L[j].1=xa at*;generalize L[j].2=xb at*;clear bx V2;go_wp2_with (go_at_call 114;refine LK.out.mono ?_;intro e w7 hl;obtain⟨rfl,M2,U2,o1,o2,o3⟩:=ST.out e w7 hl;have O7:=af o1;have F7:=af o2;have E7:=af o3;clear hl o1 o2 o3);go_roundw
      case rel=>exact⟨j+1,M2,U2,by go_num,by omega,O7.out,F7.out,E7.out⟩
      case measure=>simp[intOf];omega
     ·have hjj:j=L.length:=by omega
      subst hjj;have ON:=af (O.out.next (by omega) fun x hx=>(wV.out x).2 hx);go_wp2_with fail;go_roundw
      case rel=>exact⟨i+1,M,U,by go_num,by omega,ON.out⟩
      case measure=>simp[intOf];omega
   ·have BO:i=q.1.length:=by omega
    subst BO;have XR:=af (XF.out wr O.out.fr);obtain⟨y0,y1,y2,y3⟩:=XR.out.box;have hT:G.terms.length<=1000:=by have:=(Fi.jq hv).t;omega
    have hR:=(Fi.jq hv).r;have CE:=af (fun w7 (b:Below wr.heap.size wr w7)=>Ei FX w7 (O.out.went b).at_ (Nat.le_trans (yu hv O.out.lk.lk hlen) (by omega)) hT 0 G.rules.length 0 (by omega) (Nat.le_refl _) (by omega) (Int.le_refl 0) (by omega));have CO:=af (fun e w7 w8 (b:Below wr.heap.size wr w7) hc=>of_cell FX (O.out.went b) hpos (e:=e) (w2:=w8) hc);have SP:=af (fun k0 M U w8 (o:jX w3 K G q S q.1.length 0 [] M U w8) hk=>zJh FX w8 o.at_ o.lk (by omega) k0 hk);have SO:=af (fun k0 M U w8 (o:jX w3 K G q S q.1.length 0 [] M U w8) hk e w9 hs=>zOG FX o (k0:=k0) hk (e:=e) (w2:=w9) hs);have BE:=af (BG.out wr XR.out.below hv);clear BG X1
    go_wp2_with (first
     |(go_at_call 109;refine BE.out.mono ?_;rintro e w7 ⟨b7,o7,c7,rfl,t0,t1,Qp⟩;have B7:=af Qp;clear Qp)
     |(go_at_call 116;refine(CE.out w7 B7.out).mono ?_;intro e w8 hc;obtain⟨k0,M,U,rfl,hk,o8⟩:=CO.out e w7 w8 B7.out hc;have K0:=af hk;have O8:=af o8;clear hc hk o8)
     | (go_at_call 115;refine(SP.out k0 M U w8 O8.out K0.out).mono ?_;intro e w9 hs;obtain⟨rfl,M2,U2,f9⟩:=SO.out k0 M U w8 O8.out K0.out e w9 hs;have F9:=af f9;clear hs f9))
    have X9:=af (XF.out w9 F9.out.fr);clear CE CO SP SO BE XR O XF y0 y1 y2 y3 t0 t1;have KM:=X9.out.below.size;go_loopw [10,59] (fun v t wz=>∃(i:Nat) (V:Nat->Value) (a:Option Addr) (c:Nat),t=.int .i64 i/\i<=q.1.length/\v=.slice a i c/\tA G q w9.heap.size i V v wz/\Below w9.heap.size w9 wz) (fun _ t _=>q.1.length-(intOf t).toNat)
    case atStart=>exact⟨0,fun _=> .slice none 0 0,none,0,rfl,Nat.zero_le _,rfl,tA.nil _ _ _ _ _,.refl _ _⟩
    case round=>
     obtain⟨i,V,a,c,rfl,hil,rfl,hL,zj⟩:=hrel;have LI:=af hL;have B9:=af zj;have hsz:=zj.size;clear hL zj
     by_cases hi:i<q.1.length
     ·have EN:=af (zP6 FX wr (F9.out.at_.went B9.out) F9.out.lk F9.out.full F9.out.all (TB.out _ (X9.out.below.trans (B9.out.mono KM))) i hi);have SN:=af (fun(u v':Value) (wa wb:World) (b:Below wr.heap.size wr wa) (hE:fJ wr.heap.size (dL G q i) u wa) hown hg hv'=>LI.out.snoc (w1:=wa) (w2:=wb) (v':=v') (u:=u) hsz b hE hown hg hv')
      go_wp2_with (first
       |(go_at_call 117;refine EN.out.mono ?_;rintro e wa ⟨ae,ce,rfl,hE,om⟩;have hsa:=om.size;have BA:=af (Gr.step om (boxed wa (.cells #[.slice ae (dL G q i).length ce] 145)));have EA:=af (hE.went (boxed wa (.cells #[.slice ae (dL G q i).length ce] 145)));have ON:=af (uD 145 w9.heap.size wa.heap.size (.slice ae (dL G q i).length ce) wa rfl (by omega));have RA:=af (Sep.bS LI.out.row fun g hg=>BA.out.block g (World.ownsRow.lt LI.out.row g hg).2);have KU:w9.heap.size<=(wa.alloc (.cells #[.slice ae (dL G q i).length ce] 145)).heap.size:=(by simp;omega);clear hE om)
       | (at_builtin;(refine lL _ rfl _ _ 102 rfl w9.heap.size 145 i0 (.slice none 0 0) 1 24 Tryz.underlying102 hj hz0 hz1 hz2 rfl (by decide) (.slice a i c) i ((List.range i).map V) rfl RA.out w9.heap.size _ 1 [.slice ae (dL G q i).length ce] rfl ON.out (by simp[Value.oneCell']) (by unfold maxLen;omega) (by omega) KU ?_;intro v' wb hown hg hloc;have L2:=af (SN.out _ v' _ wb BA.out EA.out hown hg (hloc.imp id fun e g e2=>(by rw[e]at e2;injection e2 with e2;omega)));have GB:=af hg;obtain⟨a2,c2,rfl⟩:=Rw.cu hown;clear hown hg hloc)))
      go_roundw
      case rel=>
       refine⟨i+1,upd V i (.slice ae (dL G q i).length ce),a2,c2,by go_num,by omega,rfl,L2.out,?_⟩;have b9:=B9.out.trans (BA.out.mono hsz)
       exact b9.trans ⟨GB.out.os,GB.out.tape,GB.out.output,GB.out.size,fun g hg=>GB.out.block g (Nat.lt_of_lt_of_le hg b9.size) fun e=>by
        have:=(World.ownsRow.lt LI.out.row g e.symm).1
        omega⟩
      case measure=>simp[intOf];omega
     ·have BO:i=q.1.length:=by omega
      subst BO;go_wp2;refine bodyPost_ret (v:=.tuple #[.slice a q.1.length c,.int .i64 0]) (by simp[results,Tryz.results94,go_sem]) rfl ?_;refine⟨0,pY G q,a,c,by rw[yz],.all hv D hlen hB',?_,X9.out.below.trans (B9.out.mono KM)⟩;rw[yz];exact LI.out.all.mono KM
