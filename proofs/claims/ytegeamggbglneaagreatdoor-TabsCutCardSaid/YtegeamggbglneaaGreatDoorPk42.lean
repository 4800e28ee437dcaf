/- Proof. -/
import Derived.Test.YtegeamggbglneaaGreatDoorPk41
import Derived.Test.YtegeamggbglneaaGreatDoorPk37
set_option maxHeartbeats 4000000
set_option maxRecDepth 100000
set_option linter.unusedVariables false
namespace Go.Proofs.YtegeamggbglneaaGreatDoor
open Go.RowKit Go.Maps
namespace Au
open Gr (ai Sh gv bI top sD boxed)
open Im
open Rw (lL)
theorem zLd:(Tryz.prog.info? 197).map (fun i=>(i.zero,i.size,i.bytes))=some (some (.agg #[.int .i64 0,.int .i64 0]),2,16):=by kernel_rfl
theorem EZ{j:Nat}(h:j<9223372036854775808):(Lit.int .i64 (j:Int)).wf=true:=by
 simp only[Lit.wf,IntKind.min,IntKind.max,IntKind.signed,IntKind.bits,Bool.and_eq_true,decide_eq_true_eq,if_true];omega
def zWH(T:TypeId)(Y:List au)(w:World)(e:Ending)(w':World):Prop:=∃a c,e=.returned (.slice a Y.length c)/\Y.length<=c/\bw T w.heap.size Y (.slice a Y.length c) w'/\Below w.heap.size w w'
theorem zFs{W:World}{p:Nat}{S:Nat->Prop}{h:Sh}{G:ai}{ks:List (List au)}{ts:List (List (Int×Int))}{n:Nat}(w:World)(k:im W p S h G ks (tgt ts) n w)(kg:bI h G W)(ht:top G<=1000)(i:Nat)(hi:i<=1000000):
  Calls Tryz.prog 133 #[.pointer (some ⟨p,0,none⟩),.int .i64 i] w (zWH 197 (ly ts i (top G+1)) w):=by
 obtain⟨a0,c0,bt,bn,us,k⟩:=k;obtain⟨i0,hj,hz0,hz1,hz2⟩:=info_parts zLd;have K:=af (fun w1 (b:Below w.heap.size w w1)=>k.went b);have TP:=af (fun w1 (b:Below w.heap.size w w1)=>sD h G w1 (kg.went (Gr.step k.below b)));have R0:=af (bw.nil 197 w.heap.size w);have hwi:=EZ (j:=i) (by omega);obtain⟨x0,x1,x2,x3⟩:=k.box;clear k kg;unfold gv at TP;generalize top G=m at TP ht;go_enter Tryz.func133,Tryz.ntmps133;go_wp2_with (go_at_call 134;refine(TP.out _ (.refl _ _)).mono ?_;rintro e w1 ⟨rfl,hb⟩;have HB:=af hb;have R1:=af (R0.out.went hb);clear hb);clear R0 x0 x1 x2 x3;go_loopw [5,15] (fun v q wr=>∃j:Nat,q=.int .i64 j/\j<=m+1/\bw 197 w.heap.size (ly ts i j) v wr/\Below w.heap.size w wr) (fun _ q _=>m+1-(intOf q).toNat)
 case atStart=>exact⟨0,rfl,Nat.zero_le _,R1.out,HB.out⟩
 case round=>
  obtain⟨j,rfl,hj',hV,hW⟩:=hrel;have hlen:=X8 ts i j;obtain⟨av,cv,rfl,hcv⟩:=hV.shape;have V:=af hV;have kr:=af (K.out wr hW);have q5:=kr.out.targets;have hsz:=hW.size;have WW:=af hW;clear R1 HB hV hW
  by_cases hlt:j<m+1
  ·have hwj:=EZ (j:=j) (by omega);have HX:dY ((i:Int),(j:Int)):=⟨hwi,hwj⟩;have Qg:=af kr.out.tm;have OS:=af (fun t (e:tgt ts ((i:Int),(j:Int))=some t)=>WG e);have ON:=af (fun(e:tgt ts ((i:Int),(j:Int))=none)=>Ny e);generalize eY:ly ts i (j+1)=Y' at OS ON;have EY:=af eY;clear eY;generalize ly ts i j=Y at*;cases hx:tgt ts ((i:Int),(j:Int))with
   |none=>
    have V2:=af (show bw 197 w.heap.size Y' (.slice av Y.length cv) wr from(ON.out hx).symm▸V.out);clear OS ON V;go_wp2_with (at_lookup;refine Tk _ rfl _ _ rfl Lg Tryz.underlying163 Tryz.underlying3 (IB _) bt n (tgt ts) rfl Qg.out ((i:Int),(j:Int)) rfl HX ?_;simp only[hx,Option.getD_none,Option.isSome_none]);go_roundw
    case rel=>exact⟨j+1,by go_num,by omega,EY.out.symm▸V2.out,WW.out⟩
    case measure=>simp[intOf];omega
   |some t=>
    have hE:=af (OS.out t hx);have hs1:wr.heap.size=wr.heap.size:=rfl;have Z9:=af (Hj 197 w.heap.size wr.heap.size ((j:Int),t) wr rfl hsz);have V1:=af (V.out.went (boxed wr (.cells #[.int .i64 (j:Int),.int .i64 t] 197)));have W1:=af (Gr.step WW.out (boxed wr (.cells #[.int .i64 (j:Int),.int .i64 t] 197)));have hsz1:=W1.out.size;clear OS ON V
    go_wp2_with (first
     |(at_lookup;refine Tk _ rfl _ _ rfl Lg Tryz.underlying163 Tryz.underlying3 (IB _) bt n (tgt ts) rfl Qg.out ((i:Int),(j:Int)) rfl HX ?_;simp only[hx,Option.getD_some,Option.isSome_some])
     | (at_builtin;refine lL _ rfl _ _ 193 rfl w.heap.size 197 i0 (.agg #[.int .i64 0,.int .i64 0]) 2 16 Tryz.underlying193 hj hz0 hz1 hz2 rfl (by decide) _ _ _ rfl V1.out w.heap.size _ 1 (ic ((j:Int),t)) rfl Z9.out (Oy _) (by unfold maxLen;omega) (by omega) hsz1 ?_;intro v' w' hown hg _;have V2:=af (bw.of_append (Y:=[((j:Int),t)]) (by simpa using hown) rfl rfl);have W2:=af (W1.out.trans (yl hg hsz1 (zTd V1.out)));clear hown hg))
    go_roundw
    case rel=>exact⟨j+1,by go_num,by omega,(EY.out.trans hE.out).symm▸V2.out,W2.out⟩
    case measure=>simp[intOf];omega
  ·have hE:j=m+1:=by omega
   subst hE;go_wp2;go_ret;exact⟨av,cv,rfl,hcv,V.out,WW.out⟩
end Au
namespace Au
open Gr (ai Sh checkN top)
open Im
noncomputable def pj(G:ai)(c:List au)(ks:List (List au))(j:Nat):Half:=mQ G c (j-1) (ks,[])
theorem zUA(G)(c)(ks):pj G c ks 0=(ks,[]):=rfl
theorem zT8{G}(hv:checkN G=0){c}{ks}{j:Nat}(h:cd G c (j:Int)=[]):pj G c ks (j+1)=pj G c ks j:=by
 unfold pj;cases j with
 |zero=>rfl
 |succ j=>
  show mQ G c (j+1) (ks,[])=mQ G c j (ks,[]);rw[DZ,Vn h]
theorem zT7{G}(hv:checkN G=0){c}{ks}{j:Nat}(h:cd G c (j:Int)≠[]):
  pj G c ks (j+1)=(wS (pj G c ks j).1 (cd G c (j:Int)),(pj G c ks j).2++[((j:Int),(gV (pj G c ks j).1 (cd G c (j:Int)):Int))]):=by
 cases j with
 |zero=>exact absurd (XP hv c) h
 |succ j=>
  unfold pj;show mQ G c (j+1) (ks,[])= _;rw[DZ];unfold gW wS gV;rw[if_neg h]
  rfl
theorem zT9{G}(hv:checkN G=0){c}{ks}{j:Nat}(h:cd G c (j:Int)≠[]):∀x∈(pj G c ks j).2,x.1≠(j:Int):=fun x hx e=>by
 have:=Uv G c ks (j-1) x hx;cases j with
 |zero=>exact h (XP hv c)
 |succ j=>omega
theorem zWk{G}(hv:checkN G=0){q}(h:cZ G (top G) q)(c)(j):(pj G c q.1 j).1.Nodup/\(∀x∈(pj G c q.1 j).1,gu x)/\(pj G c q.1 j).1.length<=q.1.length+j:=by
 have H:=Nc (G:=G) (c:=c) h.nodup (j-1);refine⟨H.nodup,fun x hx=>?_,by have:=Vo G c q.1 (j-1);unfold pj;omega⟩;obtain⟨more,e,hm⟩:=H.front;unfold pj at hx;rw[e]at hx;rcases List.mem_append.1 hx with k|k
 ·exact fun y hy=>G8 hv ((h.good x k).2.2 y hy)
 ·obtain⟨i,_,h1,_⟩:=hm x k
  exact fun y hy=>by
   rw[h1]at hy;exact G8 hv (GP (((rN _ _ _).2 y).1 hy)).1
theorem zVl{G}(hv:checkN G=0)(c)(s):gu (cd G c s)/\(cd G c s).length<=2709:=by
 have hr:∀y∈cd G c s,bo G y=true:=fun y hy=>(GP (((rN _ _ _).2 y).1 hy)).1
 exact⟨fun y hy=>G8 hv (hr y hy),Nat.le_trans (Ib (rN G c s).1 hr) (se hv)⟩
structure Jl (W:World) (p:Nat) (S:Nat->Prop) (h:Sh) (G:ai) (ts:List (List (Int×Int))) (m:Nat) (w2:World) (H:Half) (wr:World):Prop where
 own:∃T n,im W p T h G H.1 (tgt (ts++[H.2])) n wr/\n<=m/\Sep.Ext T S w2
 fr:Sep.Fr S w2 wr
def Left(W:World)(p:Nat)(S:Nat->Prop)(h:Sh)(G:ai)(ks:List (List au))(ts:List (List (Int×Int)))(m:Nat)(w:World)(e:Ending)(w':World):Prop:=
 e=.returned (.tuple #[])/\∃T n,im W p T h G ks (tgt ts) n w'/\n<=m/\Sep.Fr S w w'/\Sep.Ext T S w
end Au
namespace Au
open Gr (ai Sh bI checkN top drawn)
open Im
theorem zVR{W}{p}{S T T3}{h}{G}{ts}{m n nn:Nat}{w2 wr w3 w4}{H:Half}{K}{j:Nat}{bt}
  (h5:w3.cell? ⟨p,5,none⟩=some (.map (some bt))) (hB:im W p T3 h G (wS H.1 K) (tgt (ts++[H.2])) n w3) (hF:Sep.Fr T wr w3) (hX:Sep.Ext T3 T wr) (hx:Sep.Ext T S w2) (hf:Sep.Fr S w2 wr)
  (hT:TM bt (n+1) (fun y=>if y=((ts.length:Int),(j:Int))then some (gV H.1 K:Int)else tgt (ts++[H.2]) y) w4) (ht:Sep.Fr (· =bt) w3 w4) (hs:∀x∈H.2,x.1≠(j:Int)) (hn:n+1<=m):
  Jl W p S h G ts m w2 (wS H.1 K,H.2++[((j:Int),(gV H.1 K:Int))]) w4:=by
 obtain⟨a,c,Fz,bn,us,k⟩:=hB
 have e:Fz=bt:=by
  have:=k.targets;rw[h5]at this;injection this with this
  injection this with this
  injection this with this
  exact this.symm
 subst e;have k4:=k.turn ht (hT.eq fun y=>(zUW hs y).symm);have FQ:T3 Fz:=k.st;have oY:Sep.Ext T3 S w2:=hx.trans hX hf.size;refine⟨⟨T3,n+1,⟨a,c,Fz,bn,us,k4⟩,hn,oY⟩,?_⟩;refine(hf.trans (T:=T) hF hx).trans ht fun q hq=>hq▸oY _ FQ
theorem zWq{W}{p}{T}{h}{G}{ks}{X}{n bt}{w}(hB:im W p T h G ks X n w)(h5:w.cell? ⟨p,5,none⟩=some (.map (some bt))):TM bt n X w:=by
 obtain⟨a,c,Fz,bn,us,k⟩:=hB;have:=k.targets;rw[h5]at this;injection this with this
 injection this with this
 injection this with this
 subst this;exact k.tm
theorem zWN{W}{p}{T}{h}{G}{ks}{X}{n}{w}(hB:im W p T h G ks X n w):∃bt,w.cell? ⟨p,5,none⟩=some (.map (some bt)):=by
 obtain⟨a,c,bt,bn,us,k⟩:=hB;exact⟨bt,k.targets⟩
theorem zTs(ks)(K):gV ks K<=ks.length:=by
 unfold gV;have h:=List.idxOf_lt_length_of_mem (l:=ks++[K]) (a:=K) (by simp);rw[List.length_append,List.length_singleton]at h;omega
theorem zNp{W:World}{p:Nat}{S:Nat->Prop}{h:Sh}{G:ai}{q:Whole}{n:Nat}(w:World)(k:im W p S h G q.1 (tgt q.2) n w)(kg:bI h G W)(hv:checkN G=0)(ht:top G<=1000)
  (ok:cZ G (top G) q) (hq:q.2.length<q.1.length) (hl:q.1.length<=100000) (hn:n<=1000000000):
  Calls Tryz.prog 110 #[.pointer (some ⟨p,0,none⟩),.int .i64 q.2.length] w (Left W p S h G (nz G (top G) q).1 (nz G (top G) q).2 (n+(top G+1)) w):=by
 have ST:=af (zO6 w k kg hv ht (fun x hx=>⟨Nat.le_trans (Ib (ok.good x hx).2.1 (ok.good x hx).2.2) (se hv),(ok.good x hx).2.2⟩) (by omega) q.2.length hq);rw[Ik hq];have OK:=af (fun j=>zWk hv ok (fH G q.1[q.2.length]) j);have K0:=af k;have hlen:=k.bK;clear k kg;generalize fH G q.1[q.2.length]=C at*;generalize hts:q.2=ts at*;generalize hks:q.1=ks at*;clear hts hks ok;go_enter Tryz.func110,Tryz.ntmps110;go_wp2_with (go_at_call 132;refine ST.out.mono ?_;rintro e w2 ⟨b,cc,rfl,hb1,hb2,hrows,pP⟩;have ROWS:=af hrows;have jV:=af pP;clear hrows pP);have R0:=af (show Jl W p S h G ts (n+0) w2 (pj G C ks 0) w2 from⟨⟨S,n,(K0.out.went jV.out).eq (fun x=>by rw[zUA];exact(zRz ts x).symm) (Nat.le_refl _),Nat.le_refl _,.refl _ _⟩,.refl _ _⟩);have hsw:=jV.out.size;go_loopw [10] (fun i wr=>∃j:Nat,i=.int .i64 j/\j<=top G+1/\Jl W p S h G ts (n+j) w2 (pj G C ks j) wr) (fun i _=>top G+1-(intOf i).toNat)
 case atStart=>exact⟨0,rfl,Nat.zero_le _,R0.out⟩
 case round=>
  obtain⟨j,rfl,hj,hR⟩:=hrel;have R:=af hR;clear hR R0
  by_cases hlt:j<top G+1
  ·obtain⟨a1,c1,hc,hcc,hi1,hnb⟩:=ROWS.out j hlt;have hsb:¬S b:=fun q=>by have:=K0.out.bK b q;omega
   have hc':wr.cell? ⟨b,j,none⟩=some (.slice a1 (cd G C (j:Int)).length c1):=R.out.fr.cell hc hsb
   have L2:=af (show pO S (cd G C (j:Int)) (.slice a1 (cd G C (j:Int)).length c1) w2 from⟨a1,c1,rfl,hcc,hi1,fun _ b' o e q=>by
    have:=hnb b' o e;have:=K0.out.bK b' q
    omega⟩)
   obtain⟨hk1,hk2,hk3⟩:=OK.out j;obtain⟨d9,hf2⟩:=zVl hv C (j:Int);have PS:=af (fun h0=>zT8 (c:=C) (ks:=ks) (j:=j) hv h0);have PN:=af (fun h0=>zT7 (c:=C) (ks:=ks) (j:=j) hv h0);have SY:=af (fun h0=>zT9 (c:=C) (ks:=ks) (j:=j) hv h0);obtain⟨⟨T,n1,hB,Cm,Bj⟩,hF⟩:=R.out;have KN:=af (fun w1 (b:Below wr.heap.size wr w1)=>wB w1 (hB.went b) (cd G C (j:Int)) a1 c1 ((L2.out.fr hF Bj).went b) d9 hk2 hk1 (by omega) (by omega));clear hc hcc hi1 hnb d9 hk1 hk2
   by_cases h0:cd G C (j:Int)=[]
   ·have PE:=af (PS.out h0);have hz:(cd G C (j:Int)).length=0:=by rw[h0];rfl
    rw[hz]at hc';clear PS PN SY KN L2 h0 hz;go_wp2_with fail;go_roundw
    case rel=>exact⟨j+1,by go_num,by omega,by rw[PE.out];exact⟨⟨T,n1,hB,by omega,Bj⟩,hF⟩⟩
    case measure=>simp[intOf];omega
   ·have PE:=af (PN.out h0);have SE:=af (SY.out h0);have hz:0<(cd G C (j:Int)).length:=List.length_pos_iff.2 h0;clear PS PN SY L2 h0;generalize cd G C (j:Int)=K at*;have kA:=drawn wr;obtain⟨bt,h5⟩:=zWN hB;have h5d:wr.drew.cell? ⟨p,5,none⟩=some (.map (some bt)):=h5;have hnk:=zTs (pj G C ks j).1 K;have HX:dY ((ts.length:Int),(j:Int)):=⟨EZ (by omega),EZ (by omega)⟩;have hwf:=EZ (j:=gV (pj G C ks j).1 K) (by omega);have END:=af (fun(T3:Nat->Prop) w3 w4 h1 h2 h3 h4 h6 h7=>zVR (W:=W) (p:=p) (h:=h) (G:=G) (S:=S) (T:=T) (T3:=T3) (m:=n+(j+1)) (n:=n1) (nn:=0) (w2:=w2) (wr:=wr) (w3:=w3) (w4:=w4) (H:=pj G C ks j) (K:=K) (j:=j) (bt:=bt) (ts:=ts) h1 h2 h3 h4 Bj hF h6 h7 SE.out (by omega));go_wp2_with fail
    go_region_law (first
     | (go_simp;go_at_call 108;(with_reducible refine(KN.out _ (by assumption)).mono ?_);rintro e w3 ⟨rfl,T3,JM,QF,Bh,AZ⟩;have Sp:=AZ _ h5d;obtain⟨w4,hrun,m4,t4⟩:=(zWq JM Sp).store (T:=163) Lg Tryz.underlying163 Tryz.underlying3 (by unfold maxLen;omega) HX hwf;have RY:(Instr.mapUpdate 163 (.map (some bt)) (.agg #[.int .i64 (ts.length:Int),.int .i64 (j:Int)]) (.int .i64 (gV (pj G C ks j).1 K:Int))).run Tryz.prog w3=.ok () w4:=hrun;have E4:=af (END.out T3 w3 w4 Sp JM ((Sep.Fr.refl T wr).drew.trans QF (.refl _ _)) (Bh.at (Nat.le_refl _)) m4 (ym t4));clear JM QF Bh AZ hrun m4 t4))
    all_goals
     go_wp2_with fail;go_roundw
     case rel=>exact⟨j+1,by go_num,by omega,by rw[PE.out];exact E4.out⟩
     case measure=>simp[intOf];omega
  ·have hE:j=top G+1:=by omega
   subst hE;obtain⟨⟨T,n1,hB,Cm,Bj⟩,hF⟩:=R.out;go_wp2
   try simp only[Exit.inBlock,Exit.then]
   refine bodyPost_ret (v:=.tuple #[]) (by simp[results,Tryz.results110,go_sem]) rfl ?_;exact⟨rfl,T,n1,hB,Cm,(Sep.Fr.of_below jV.out).trans hF (.refl _ _),Bj.at hsw⟩
end Au
namespace Au
open Gr (ai Sh bI top boxed cell_later)
open Im
open Rw (lL)
theorem zLb:(Tryz.prog.info? 195).map (fun i=>(i.zero,i.size,i.bytes))=some (some (.agg #[.slice none 0 0,.slice none 0 0]),2,48):=by kernel_rfl
def pJ(G:ai)(ks:List (List au))(ts:List (List (Int×Int)))(i:Nat):List mK:=(List.range i).map fun j=>(bp ks j,ly ts (j:Int) (top G+1))
theorem zK5(G)(ks)(ts)(i):pJ G ks ts (i+1)=pJ G ks ts i++[(bp ks i,ly ts (i:Int) (top G+1))]:=by
 unfold pJ;rw[List.range_succ,List.map_append]
 rfl
theorem GR(G)(ks)(ts)(i):(pJ G ks ts i).length=i:=by simp[pJ]
theorem zMc{G}{q}(h:Done G q):pJ G q.1 q.2 q.1.length=states q:=by
 refine List.ext_getElem (by rw[GR,rD h.all]) fun i h1 h2=>?_
 rw[GR]at h1;have hi:i<q.2.length:=by rw[h.all];exact h1
 have e:=zT h.all h1;rw[List.getElem?_eq_getElem h2,Option.some.injEq]at e;rw[e];simp only[pJ,List.getElem_map,List.getElem_range];rw[X7 h.ok hi]
def zPb(X:List mK)(w:World)(e:Ending)(w':World):Prop:=∃a c,e=.returned (.slice a X.length c)/\fB a X w'/\X.length<=c/\Below w.heap.size w w'
theorem zO4(T)(base q)(u v)(w:World)(hq:q=w.heap.size)(hb:base<=q)(hu:u.oneCell'=true)(hv:v.oneCell'=true):(w.alloc (.cells #[u,v] T)).ownsRow base T 2 (.slice (some ⟨q,0,none⟩) 1 1) 1 [u,v]:=by
 subst hq;exact World.ownsRow_lit w #[u,v] 1 hb (by decide) (by simp)
theorem zL9{W:World}{p:Nat}{S:Nat->Prop}{h:Sh}{G:ai}{ks:List (List au)}{ts:List (List (Int×Int))}{n:Nat}(w:World)(k:im W p S h G ks (tgt ts) n w)(kg:bI h G W)(ht:top G<=1000)(hl:ks.length<=1000000):
  Calls Tryz.prog 111 #[.pointer (some ⟨p,0,none⟩)] w (zPb (pJ G ks ts ks.length) w):=by
 have TR:=af (fun w1 (b:Below w.heap.size w w1) i (hi:i<=1000000)=>zFs w1 (k.went b) kg ht i hi);obtain⟨a0,c0,bt,bn,us,k⟩:=k;obtain⟨i0,hj,hz0,hz1,hz2⟩:=info_parts zLb;have K:=af k;have S0:=af (nV.nil 195 w.heap.size w);have q4:=k.items;clear k kg;go_enter Tryz.func111,Tryz.ntmps111;go_wp2;go_loopw [3,11] (fun v q wr=>∃(j:Nat) (L:List Ju),q=.int .i64 j/\j<=ks.length/\L.map Prod.fst=pJ G ks ts j/\nV 195 w.heap.size L v wr/\Below w.heap.size w wr) (fun _ q _=>ks.length-(intOf q).toNat)
 case atStart=>exact⟨0,[],rfl,Nat.zero_le _,rfl,S0.out,.refl _ _⟩
 case round=>
  obtain⟨j,L,rfl,hjl,hM,hV,hW⟩:=hrel
  have hlen:L.length=j:=by
   have:=congrArg List.length hM
   rwa [List.length_map,GR]at this
  subst hlen;obtain⟨av,cv,rfl,hcv⟩:=hV.len;have V:=af hV;have WW:=af hW;have MM:=af hM;clear S0 hV hM
  by_cases hlt:L.length<ks.length
  ·obtain⟨b,a1,c1,rfl,hc1,l1,i1,_⟩:=K.out.at hlt;have hc2:=cell_later hW hc1
   have U1:=af (show eT ks[L.length] (.slice a1 ks[L.length].length c1) (.slice av L.length cv) w from⟨a1,c1,rfl,l1,i1,fun hne b o e g=>by
    have h1:=z7 i1 hne e;have h2:=(World.ownsRow.lt V.out.row b g).1
    omega⟩)
   have hst:=wJ hlt;have EX:=af (show pJ G ks ts (L.length+1)=pJ G ks ts L.length++[(ks[L.length],ly ts (L.length:Int) (top G+1))]from by rw[zK5,hst]);have TJ:=af (TR.out wr hW L.length (by omega));have hL1:L.length<=1000000:=by omega
   generalize ks[L.length]=Kj at*;generalize ly ts (L.length:Int) (top G+1)=Y at*;clear i1 l1 hst hW
   go_wp2_with (first
    | (go_at_call 133;refine TJ.out.mono ?_;rintro e w2 ⟨a2,c2,rfl,l2,v2,b2⟩;have V2:=af (V.out.went b2);have W2:=af (Gr.step WW.out b2);have U2:=af ((U1.out.went WW.out).went b2);have Y2:=af (show eT Y (.slice a2 Y.length c2) (.slice av L.length cv) w2 from⟨a2,c2,rfl,l2,v2.reads,fun hne b o e g=>by
      have h1:=(World.ownsRow.lt V.out.row b g).2;have h2:=(World.ownsRow.lt v2 b (by rw[e];rfl)).1
      omega⟩);have hs2:=W2.out.size;have ONE:=af (zO4 195 w.heap.size w2.heap.size (.slice a1 Kj.length c1) (.slice a2 Y.length c2) w2 rfl hs2 rfl rfl);have b3:=boxed w2 (.cells #[.slice a1 Kj.length c1,.slice a2 Y.length c2] 195);have V3:=af (V2.out.went b3);have W3:=af (Gr.step W2.out b3);have U3:=af (U2.out.went b3);have Y3:=af (Y2.out.went b3);have hs3:=W3.out.size;clear l2 v2 b2 b3)
    | (at_builtin;refine lL _ rfl _ _ 101 rfl w.heap.size 195 i0 (.agg #[.slice none 0 0,.slice none 0 0]) 2 48 Tryz.underlying101 hj hz0 hz1 hz2 rfl (by decide) _ _ _ rfl V3.out.row w.heap.size _ 1 [.slice a1 Kj.length c1,.slice a2 Y.length c2] rfl ONE.out (by simp[Value.oneCell']) (by unfold maxLen;omega) (by omega) hs3 ?_;intro v' w4 hown hg hloc;have V4:=af (V3.out.snoc ((Kj,Y),(.slice a1 Kj.length c1,.slice a2 Y.length c2)) ⟨U3.out,Y3.out⟩ hown hg (hloc.imp id fun e=>⟨_,Nat.le_refl _,e⟩));have W4:=af (W3.out.trans (yl hg hs3 fun q hq=>(World.ownsRow.lt V3.out.row q hq).1));clear hown hg hloc))
   go_roundw
   case rel=>exact⟨L.length+1,_,by go_num,by omega,by rw[List.map_append,MM.out,EX.out];rfl,V4.out,W4.out⟩
   case measure=>simp[intOf];omega
  ·have hE:L.length=ks.length:=by omega
   have R:=af (show fB av (pJ G ks ts ks.length) wr from by rw[←hE,←MM.out];exact V.out.at);have hll:(pJ G ks ts ks.length).length=L.length:=by rw[GR,hE]
   clear hE;go_wp2;go_ret;exact⟨av,cv,by rw[hll];rfl,R.out,by rw[hll];exact hcv,WW.out⟩
end Au
namespace Au
open Gr (ai Sh top boxed bg)
open Im
def zMM(G:ai)(w:World)(e:Ending)(w':World):Prop:=∃(X:List mK) (er:Int) (a:Option Addr) (c:Nat),e=.returned (.tuple #[.slice a X.length c,.int .i64 er])/\bE G er X/\fB a X w'/\X.length<=c/\Below w.heap.size w w'
theorem fresh(h)(G)(w w1)(hb:Below w.heap.size w w1)(T):
  im w (w1.heap.size+1+1) (fun k=>w1.heap.size<=k/\k<=w1.heap.size+2) h G [] (tgt []) 0
   (((w1.alloc (.map #[] 0)).alloc (.map #[] 0)).alloc (.cells #[.slice h.a1 G.terms.length h.c1,.slice h.a2 G.ah.length h.c2,.slice h.a3 G.rules.length h.c3,.int .i64 G.start,.slice none 0 0,.map (some w1.heap.size),.map (some (w1.heap.size+1))] T)):=by
 have hs:=hb.size;have m1:(w1.alloc (.map #[] 0)).heap.size=w1.heap.size+1:=by simp
 have m2:((w1.alloc (.map #[] 0)).alloc (.map #[] 0)).heap.size=w1.heap.size+1+1:=by simp
 have t1:=(fe.made w1 Tryz.prog 202 3).eq fun x=>(zUV x).symm
 have s1:=SMap.made (w1.alloc (.map #[] 0)) Tryz.prog 9 3;rw[m1]at s1;have b1:=boxed (w1.alloc (.map #[] 0)) (.map #[] 0);have b2:=boxed ((w1.alloc (.map #[] 0)).alloc (.map #[] 0)) (.cells #[.slice h.a1 G.terms.length h.c1,.slice h.a2 G.ah.length h.c2,.slice h.a3 G.rules.length h.c3,.int .i64 G.start,.slice none 0 0,.map (some w1.heap.size),.map (some (w1.heap.size+1))] T)
 have K:∀j v,#[Value.slice h.a1 G.terms.length h.c1,.slice h.a2 G.ah.length h.c2,.slice h.a3 G.rules.length h.c3,.int .i64 G.start,.slice none 0 0,.map (some w1.heap.size),.map (some (w1.heap.size+1))][j]?=some v->
   (((w1.alloc (.map #[] 0)).alloc (.map #[] 0)).alloc (.cells #[.slice h.a1 G.terms.length h.c1,.slice h.a2 G.ah.length h.c2,.slice h.a3 G.rules.length h.c3,.int .i64 G.start,.slice none 0 0,.map (some w1.heap.size),.map (some (w1.heap.size+1))] T)).cell? ⟨w1.heap.size+1+1,j,none⟩=some v:=fun j v hv=>bg m2.symm hv
 refine⟨none,0,w1.heap.size,w1.heap.size+1,[],?_⟩;refine⟨Gr.step hb (Gr.step (Gr.step (boxed w1 (.map #[] 0)) b1) b2),⟨K 0 _ rfl,K 1 _ rfl,K 2 _ rfl,K 3 _ rfl⟩,K 4 _ rfl,K 5 _ rfl,K 6 _ rfl,Gr.yC m2.symm,World.ownsRow_nil _ _ _ _,fun i hi=>absurd hi (Nat.not_lt_zero i),?_,?_,⟨by omega,by omega⟩,⟨by omega,by omega⟩,⟨by omega,by omega⟩,fun g hg=>by simp[Value.ownBlock]at hg,by omega,by omega,by omega,fun g hg=>by simp[Value.ownBlock]at hg,fun k hk=>by omega,fun k hk=>?_⟩
 ·exact t1.keep ((b2.block _ (by omega)).trans (b1.block _ (by omega)))
 ·exact s1.keep (b2.block _ (by omega))
 ·simp;omega
structure rR (w:World) (p:Nat) (h:Sh) (G:ai) (m:Nat) (wr:World):Prop where
 own:∃T n,im w p T h G (runs G (top G) m).1 (tgt (runs G (top G) m).2) n wr/\n<=m*2000
 going:td G m
 few:(runs G (top G) m).1.length<=2000
theorem rR.start{w}{p}{T}{h}{G}{wr}(k:im w p T h G [[((G.rules.length:Int),0)]] (tgt []) 0 wr):rR w p h G 0 wr:=⟨⟨T,0,k,by omega⟩,zLX G,by simp[runs]⟩
theorem rR.not{w}{p}{h}{G}{m}{wr}(k:rR w p h G m wr)(hm:m<(runs G (top G) m).1.length):¬Stop (runs G (top G) m):=by
 have h1:=k.few;have h2:=k.going.len;unfold Stop;omega
theorem rR.done{w}{p}{h}{G}{m}{wr}(k:rR w p h G m wr)(hm:¬m<(runs G (top G) m).1.length):sM G m/\¬2000<(runs G (top G) m).1.length:=by
 have h1:=k.few;have h2:=k.going.len;have h3:=(Ez G (top G) m).le;exact⟨k.going.stop (.inr (by omega)),by omega⟩
theorem rR.many{w}{p}{h}{G}{m}{wr}(k:rR w p h G m wr)(hm:m<(runs G (top G) m).1.length)(h9:2000<(runs G (top G) (m+1)).1.length):sM G (m+1):=(k.going.next (k.not hm)).stop (.inl h9)
end Au
namespace Au
open Gr (ai Sh gv bI Bx checkN yw top)
open Im
theorem zUs{Y}{a}{c}{w w':World}{S}(h:bw 181 w.heap.size Y (.slice a Y.length c) w')(hS:∀k,S k->k<w.heap.size):pO S Y (.slice a Y.length c) w':=by
 obtain⟨a',c',e,hc⟩:=h.shape;simp only[Value.slice.injEq]at e;obtain⟨rfl,_,rfl⟩:=e
 exact⟨a,c,rfl,hc,h.reads,fun _ b o e q=>by
  have:=(World.ownsRow.lt h b (by rw[e];rfl)).1;have:=hS b q
  omega⟩
theorem zSs{G}{Y:List au}(hv:checkN G=0)(h:Y=[((G.rules.length:Int),0)]):gu Y:=fun x hx=>by
 rw[h,List.mem_singleton]at hx;subst hx;exact G8 hv (wC (Nat.le_refl _))
theorem zPi{w}{p}{T}{h}{G}{Y:List au}{X}{n}{w'}(e:Y=[((G.rules.length:Int),0)])(k:im w p T h G (wS [] Y) X n w'):im w p T h G [[((G.rules.length:Int),0)]] X n w':=by
 subst e;exact k
theorem UR(h:Sh)(G:ai)(w:World)(k:bI h G w)(ht:checkN G=0->top G<=1000):
  Calls Tryz.prog 93 #[gv h G] w (zMM G w):=by
 have C:=af (fun w1 (b:Below w.heap.size w w1)=>yw h G w1 (k.went b));have X:=af (Bx.start h G w 47)
 by_cases hc:checkN G=0
 ·have BG:=af (fun w1 (b:Below w.heap.size w w1)=>UN h G w1 (k.went b));have KG:=af k;replace ht:=ht hc;rw[hc]at C;have hmm:=@run_makeMap Tryz.prog;clear k;unfold gv at C BG⊢;go_enter Tryz.func93,Tryz.ntmps93
  go_wp2_with (first
   |(go_at_call 107;refine(C.out _ X.out.below).mono ?_;rintro e w1 ⟨rfl,hb⟩;have X1:=af (X.out.went hb);obtain⟨g0,g1,g2,g3⟩:=X1.out.box;have hq:w.heap.size<w1.heap.size:=World.block_lt_of_cell? w1 ⟨w.heap.size,0,none⟩ g0;have hq2:w.heap.size<w1.heap.size+1:=(by omega);have hq3:w.heap.size<w1.heap.size+1+1:=(by omega);have B0:=af (fresh h G w w1 X1.out.below 167);have X2:=af (((X1.out.alloc (.map #[] 0)).alloc (.map #[] 0)).alloc (.cells #[.slice h.a1 G.terms.length h.c1,.slice h.a2 G.ah.length h.c2,.slice h.a3 G.rules.length h.c3,.int .i64 G.start,.slice none 0 0,.map (some w1.heap.size),.map (some (w1.heap.size+1))] 167));clear hb)
   |(go_at_call 109;refine(BG.out _ X2.out.below).mono ?_;rintro e w3 ⟨Y,a3,c3,rfl,y1,y2,y3⟩;have HY:=af (show Y=[((G.rules.length:Int),0)]from(y1.iff (Q:=fun x=>x=((G.rules.length:Int),0)) fun x=>⟨fun q=>q.2,fun q=>⟨hc,q⟩⟩).uniq ⟨ED _,fun x=>List.mem_singleton⟩);have U3:=af (zUs y2 B0.out.bK);have B3:=af (B0.out.went y3);have X3:=af (X2.out.went y3);clear y1 y2 y3)
   | (go_at_call 108;refine(wB _ B3.out Y a3 c3 U3.out (zSs hc HY.out) (fun x hx=>by cases hx) List.nodup_nil (Nat.zero_le _) (by rw[HY.out];simp)).mono ?_;rintro e w4 ⟨rfl,T4,b4,f4,x4,_⟩;have R0:=af (rR.start (zPi HY.out b4));clear b4 f4 x4))
  clear C BG X hmm;go_loopw [6] (fun i wr=>∃m:Nat,i=.int .i64 m/\m<=2000/\rR w (w1.heap.size+1+1) h G m wr) (fun i _=>2001-(intOf i).toNat)
  case atStart=>exact⟨0,rfl,Nat.zero_le _,R0.out⟩
  case round=>
   obtain⟨m,rfl,hm,hR⟩:=hrel;have R:=af hR;clear hR R0;obtain⟨⟨T,n,hB,hn⟩,hg,aa5⟩:=R.out;have hgl:=hg.len
   by_cases hlt:m<(runs G (top G) m).1.length
   ·have LV:=zNp (W:=w) wr hB KG.out hc ht (Ez G (top G) m) (by omega) (by omega) (by omega);rw[hgl]at LV;have ZZ:=af LV;have NX:=af (fun(hs:¬2000<(runs G (top G) (m+1)).1.length)=>(show td G (m+1)/\(runs G (top G) (m+1)).1.length<=2000 from⟨hg.next (R.out.not hlt),by omega⟩));have MY:=af (R.out.many hlt);obtain⟨a0,c0,bt,bn,us,k0⟩:=hB;have q4:=k0.items;clear k0 LV;go_wp2_with (go_at_call 110;refine ZZ.out.mono ?_;rintro e w5 ⟨rfl,T5,n5,b5,l5,f5,x5⟩;obtain⟨a5,c5,bt5,bn5,us5,k5⟩:=b5;have K5:=af k5;have q5:w5.cell? ⟨w1.heap.size+1+1,4,none⟩=some (.slice a5 (runs G (top G) (m+1)).1.length c5):=k5.items;clear k5 f5 x5)
    ·go_ret2;exact⟨[],7,none,0,rfl,.many hc (MY.out (by omega)) (by omega),.nil _ _,Nat.le_refl _,K5.out.below⟩
    ·obtain⟨n1,n2⟩:=NX.out (by omega);refine⟨⟨m+1,by go_num,by omega,⟨⟨T5,n5,⟨a5,c5,bt5,bn5,us5,K5.out⟩,by omega⟩,n1,n2⟩⟩,?_⟩;simp[intOf];omega
   ·obtain⟨d1,d2⟩:=R.out.done hlt;have SA:=af (zL9 (W:=w) wr hB KG.out ht (by omega));have DN:=af (d1.done d2);have AO:=af (zMc DN.out);obtain⟨a0,c0,bt,bn,us,k0⟩:=hB;have q4:=k0.items;have HW:=af k0.below;clear k0;go_wp2_with (go_at_call 111;refine SA.out.mono ?_;rintro e w5 ⟨a5,c5,rfl,s1,s2,s3⟩;have S1:=af s1;have S2:=af s2;have S3:=af (Gr.step HW.out s3);clear s1 s2 s3);go_ret2;exact⟨_,0,a5,c5,rfl,AO.out▸.all hc d1 d2,S1.out,S2.out,S3.out⟩
 ·have hcb:(checkN G != 0)=true:=by simpa using hc
  clear k;unfold gv at C⊢;go_enter Tryz.func93,Tryz.ntmps93;go_wp2_with (go_at_call 107;refine(C.out _ X.out.below).mono ?_;rintro e w1 ⟨rfl,hb⟩;have X1:=af (X.out.went hb);clear hb);go_ret2;exact⟨[],checkN G,none,0,rfl,.bad hc,.nil _ _,Nat.le_refl _,X1.out.below⟩
