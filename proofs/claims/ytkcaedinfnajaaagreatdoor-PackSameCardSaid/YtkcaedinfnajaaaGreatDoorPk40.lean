/- A part of the proof. -/
import Derived.Test.YtkcaedinfnajaaaGreatDoorPk39
import Derived.Test.YtkcaedinfnajaaaGreatDoorPk33
set_option maxHeartbeats 4000000
set_option maxRecDepth 100000
set_option linter.unusedVariables false
namespace Go.Proofs.YtkcaedinfnajaaaGreatDoor
open Go.RowKit Go.Maps
namespace Au
open Gr (Gram Sh gv GAt top zB0 boxed)
open Im
open Rw (zAM)
theorem zK0:(Tryz.prog.info? 170).map (fun i=>(i.zero,i.size,i.bytes))=some (some (.agg #[.int .i64 0,.int .i64 0]),2,16):=by kernel_rfl
theorem zH9{j:Nat}(h:j<9223372036854775808):(Lit.int .i64 (j:Int)).wf=true:=by
 simp only[Lit.wf,IntKind.min,IntKind.max,IntKind.signed,IntKind.bits,Bool.and_eq_true,decide_eq_true_eq,if_true];omega
def zUy(T:TypeId)(Y:List Itm)(w:World)(e:Ending)(w':World):Prop:=∃a c,e=.returned (.slice a Y.length c)/\Y.length<=c/\ItsV T w.heap.size Y (.slice a Y.length c) w'/\Below w.heap.size w w'
theorem zFM{W:World}{p:Nat}{S:Nat->Prop}{h:Sh}{G:Gram}{ks:List (List Itm)}{ts:List (List (Int×Int))}{n:Nat}(w:World)(k:BAt W p S h G ks (tgt ts) n w)(kg:GAt h G W)(ht:top G<=1000)(i:Nat)(hi:i<=1000000):
  Calls Tryz.prog 106 #[.pointer (some ⟨p,0,none⟩),.int .i64 i] w (zUy 170 (zCP ts i (top G+1)) w):=by
 obtain⟨a0,c0,bt,bn,us,k⟩:=k;obtain⟨i0,hj,hz0,hz1,hz2⟩:=info_parts zK0;have K:=zVZ (fun w1 (b:Below w.heap.size w w1)=>k.went b);have TP:=zVZ (fun w1 (b:Below w.heap.size w w1)=>zB0 h G w1 (kg.went (Gr.step k.below b)));have R0:=zVZ (ItsV.nil 170 w.heap.size w);have hwi:=zH9 (j:=i) (by omega);obtain⟨x0,x1,x2,x3⟩:=k.box;clear k kg;unfold gv at TP;generalize top G=m at TP ht;go_enter Tryz.func106,Tryz.ntmps106;go_wp2_with (go_at_call 107;refine(TP.out _ (.refl _ _)).mono ?_;rintro e w1 ⟨rfl,hb⟩;have HB:=zVZ hb;have R1:=zVZ (R0.out.went hb);clear hb);clear R0 x0 x1 x2 x3;go_loopw [5,15] (fun v q wr=>∃j:Nat,q=.int .i64 j/\j<=m+1/\ItsV 170 w.heap.size (zCP ts i j) v wr/\Below w.heap.size w wr) (fun _ q _=>m+1-(intOf q).toNat)
 case atStart=>exact⟨0,rfl,Nat.zero_le _,R1.out,HB.out⟩
 case round=>
  obtain⟨j,rfl,hj',hV,hW⟩:=hrel;have hlen:=zNg ts i j;obtain⟨av,cv,rfl,hcv⟩:=hV.shape;have V:=zVZ hV;have kr:=zVZ (K.out wr hW);have q5:=kr.out.targets;have hsz:=hW.size;have WW:=zVZ hW;clear R1 HB hV hW
  by_cases hlt:j<m+1
  ·have hwj:=zH9 (j:=j) (by omega);have HX:W64 ((i:Int),(j:Int)):=⟨hwi,hwj⟩;have TMj:=zVZ kr.out.tm;have OS:=zVZ (fun t (e:tgt ts ((i:Int),(j:Int))=some t)=>zJw e);have ON:=zVZ (fun(e:tgt ts ((i:Int),(j:Int))=none)=>zGj e);generalize eY:zCP ts i (j+1)=Y' at OS ON;have EY:=zVZ eY;clear eY;generalize zCP ts i j=Y at*;cases hx:tgt ts ((i:Int),(j:Int))with
   |none=>
    have V2:=zVZ (show ItsV 170 w.heap.size Y' (.slice av Y.length cv) wr from(ON.out hx).symm▸V.out);clear OS ON V;go_wp2_with (at_lookup;refine zC6 _ rfl _ _ rfl kaA Tryz.underlying135 Tryz.underlying3 (zQ2 _) bt n (tgt ts) rfl TMj.out ((i:Int),(j:Int)) rfl HX ?_;simp only[hx,Option.getD_none,Option.isSome_none]);go_roundw
    case rel=>exact⟨j+1,by go_num,by omega,EY.out.symm▸V2.out,WW.out⟩
    case measure=>simp[intOf];omega
   |some t=>
    have hE:=zVZ (OS.out t hx);have hs1:wr.heap.size=wr.heap.size:=rfl;have ON2:=zVZ (zEN 170 w.heap.size wr.heap.size ((j:Int),t) wr rfl hsz);have V1:=zVZ (V.out.went (boxed wr (.cells #[.int .i64 (j:Int),.int .i64 t] 170)));have W1:=zVZ (Gr.step WW.out (boxed wr (.cells #[.int .i64 (j:Int),.int .i64 t] 170)));have hsz1:=W1.out.size;clear OS ON V
    go_wp2_with (first
     |(at_lookup;refine zC6 _ rfl _ _ rfl kaA Tryz.underlying135 Tryz.underlying3 (zQ2 _) bt n (tgt ts) rfl TMj.out ((i:Int),(j:Int)) rfl HX ?_;simp only[hx,Option.getD_some,Option.isSome_some])
     | (at_builtin;refine zAM _ rfl _ _ 166 rfl w.heap.size 170 i0 (.agg #[.int .i64 0,.int .i64 0]) 2 16 Tryz.underlying166 hj hz0 hz1 hz2 rfl (by decide) _ _ _ rfl V1.out w.heap.size _ 1 (ic ((j:Int),t)) rfl ON2.out (zMk _) (by unfold maxLen;omega) (by omega) hsz1 ?_;intro v' w' hown hg _;have V2:=zVZ (ItsV.of_append (Y:=[((j:Int),t)]) (by simpa using hown) rfl rfl);have W2:=zVZ (W1.out.trans (zAu hg hsz1 (zSZ V1.out)));clear hown hg))
    go_roundw
    case rel=>exact⟨j+1,by go_num,by omega,(EY.out.trans hE.out).symm▸V2.out,W2.out⟩
    case measure=>simp[intOf];omega
  ·have hE:j=m+1:=by omega
   subst hE;go_wp2;go_ret;exact⟨av,cv,rfl,hcv,V.out,WW.out⟩
end Au
namespace Au
open Gr (Gram Sh checkN top)
open Im
noncomputable def pj(G:Gram)(c:List Itm)(ks:List (List Itm))(j:Nat):Half:=zCz G c (j-1) (ks,[])
theorem zS5(G:Gram)(c:List Itm)(ks:List (List Itm)):pj G c ks 0=(ks,[]):=rfl
theorem zS3{G:Gram}(hv:checkN G=0){c:List Itm}{ks:List (List Itm)}{j:Nat}(h:stL G c (j:Int)=[]):pj G c ks (j+1)=pj G c ks j:=by
 unfold pj;cases j with
 |zero=>rfl
 |succ j=>
  show zCz G c (j+1) (ks,[])=zCz G c j (ks,[]);rw[zCA,zHj h]
theorem zS2{G:Gram}(hv:checkN G=0){c:List Itm}{ks:List (List Itm)}{j:Nat}(h:stL G c (j:Int)≠[]):
  pj G c ks (j+1)=(zHe (pj G c ks j).1 (stL G c (j:Int)),(pj G c ks j).2++[((j:Int),(numK (pj G c ks j).1 (stL G c (j:Int)):Int))]):=by
 cases j with
 |zero=>exact absurd (zN7 hv c) h
 |succ j=>
  unfold pj;show zCz G c (j+1) (ks,[])= _;rw[zCA];unfold oneS zHe numK;rw[if_neg h]
  rfl
theorem zS4{G:Gram}(hv:checkN G=0){c:List Itm}{ks:List (List Itm)}{j:Nat}(h:stL G c (j:Int)≠[]):∀x∈(pj G c ks j).2,x.1≠(j:Int):=fun x hx e=>by
 have:=zF3 G c ks (j-1) x hx;cases j with
 |zero=>exact h (zN7 hv c)
 |succ j=>omega
theorem zVP{G:Gram}(hv:checkN G=0){q:Whole}(h:WholeOk G (top G) q)(c:List Itm)(j:Nat):(pj G c q.1 j).1.Nodup/\(∀x∈(pj G c q.1 j).1,Fit3 x)/\(pj G c q.1 j).1.length<=q.1.length+j:=by
 have H:=zGS (G:=G) (c:=c) h.nodup (j-1);refine⟨H.nodup,fun x hx=>?_,by have:=zHk G c q.1 (j-1);unfold pj;omega⟩;obtain⟨more,e,hm⟩:=H.front;unfold pj at hx;rw[e]at hx;rcases List.mem_append.1 hx with k|k
 ·exact fun y hy=>zDb hv ((h.good x k).2.2 y hy)
 ·obtain⟨i,_,h1,_⟩:=hm x k
  exact fun y hy=>by
   rw[h1]at hy;exact zDb hv (zCu (((zEp _ _ _).2 y).1 hy)).1
theorem zUb{G:Gram}(hv:checkN G=0)(c:List Itm)(s:Int):Fit3 (stL G c s)/\(stL G c s).length<=2709:=by
 have hr:∀y∈stL G c s,zAJ G y=true:=fun y hy=>(zCu (((zEp _ _ _).2 y).1 hy)).1
 exact⟨fun y hy=>zDb hv (hr y hy),Nat.le_trans (zGr (zEp G c s).1 hr) (zA5 hv)⟩
structure LvR (W:World) (p:Nat) (S:Nat->Prop) (h:Sh) (G:Gram) (ts:List (List (Int×Int))) (m:Nat) (w2:World) (H:Half) (wr:World):Prop where
 own:∃T n,BAt W p T h G H.1 (tgt (ts++[H.2])) n wr/\n<=m/\Sep.Ext T S w2
 fr:Sep.Fr S w2 wr
def Left(W:World)(p:Nat)(S:Nat->Prop)(h:Sh)(G:Gram)(ks:List (List Itm))(ts:List (List (Int×Int)))(m:Nat)(w:World)(e:Ending)(w':World):Prop:=
 e=.returned (.tuple #[])/\∃T n,BAt W p T h G ks (tgt ts) n w'/\n<=m/\Sep.Fr S w w'/\Sep.Ext T S w
end Au
namespace Au
open Gr (Gram Sh GAt checkN top drawn)
open Im
theorem zUM{W:World}{p:Nat}{S T T3:Nat->Prop}{h:Sh}{G:Gram}{ts:List (List (Int×Int))}{m n nn:Nat}{w2 wr w3 w4:World}{H:Half}{K:List Itm}{j:Nat}{bt:Nat}
  (h5:w3.cell? ⟨p,5,none⟩=some (.map (some bt))) (hB:BAt W p T3 h G (zHe H.1 K) (tgt (ts++[H.2])) n w3) (hF:Sep.Fr T wr w3) (hX:Sep.Ext T3 T wr) (hx:Sep.Ext T S w2) (hf:Sep.Fr S w2 wr)
  (hT:TM bt (n+1) (fun y=>if y=((ts.length:Int),(j:Int))then some (numK H.1 K:Int)else tgt (ts++[H.2]) y) w4) (ht:Sep.Fr (· =bt) w3 w4) (hs:∀x∈H.2,x.1≠(j:Int)) (hn:n+1<=m):
  LvR W p S h G ts m w2 (zHe H.1 K,H.2++[((j:Int),(numK H.1 K:Int))]) w4:=by
 obtain⟨a,c,bt',bn,us,k⟩:=hB
 have e:bt'=bt:=by
  have:=k.targets;rw[h5]at this;injection this with this
  injection this with this
  injection this with this
  exact this.symm
 subst e;have k4:=k.turn ht (hT.eq fun y=>(zTO hs y).symm);have hbt:T3 bt':=k.st;have hX2:Sep.Ext T3 S w2:=hx.trans hX hf.size;refine⟨⟨T3,n+1,⟨a,c,bt',bn,us,k4⟩,hn,hX2⟩,?_⟩;refine(hf.trans (T:=T) hF hx).trans ht fun q hq=>hq▸hX2 _ hbt
theorem zVV{W:World}{p:Nat}{T:Nat->Prop}{h:Sh}{G:Gram}{ks:List (List Itm)}{X:Itm->Option Int}{n bt:Nat}{w:World}(hB:BAt W p T h G ks X n w)(h5:w.cell? ⟨p,5,none⟩=some (.map (some bt))):TM bt n X w:=by
 obtain⟨a,c,bt',bn,us,k⟩:=hB;have:=k.targets;rw[h5]at this;injection this with this
 injection this with this
 injection this with this
 subst this;exact k.tm
theorem zU4{W:World}{p:Nat}{T:Nat->Prop}{h:Sh}{G:Gram}{ks:List (List Itm)}{X:Itm->Option Int}{n:Nat}{w:World}(hB:BAt W p T h G ks X n w):∃bt,w.cell? ⟨p,5,none⟩=some (.map (some bt)):=by
 obtain⟨a,c,bt,bn,us,k⟩:=hB;exact⟨bt,k.targets⟩
theorem zSp(ks:List (List Itm))(K:List Itm):numK ks K<=ks.length:=by
 unfold numK;have h:=List.idxOf_lt_length_of_mem (l:=ks++[K]) (a:=K) (by simp);rw[List.length_append,List.length_singleton]at h;omega
theorem zNA{W:World}{p:Nat}{S:Nat->Prop}{h:Sh}{G:Gram}{q:Whole}{n:Nat}(w:World)(k:BAt W p S h G q.1 (tgt q.2) n w)(kg:GAt h G W)(hv:checkN G=0)(ht:top G<=1000)
  (ok:WholeOk G (top G) q) (hq:q.2.length<q.1.length) (hl:q.1.length<=100000) (hn:n<=1000000000):
  Calls Tryz.prog 83 #[.pointer (some ⟨p,0,none⟩),.int .i64 q.2.length] w (Left W p S h G (rnd G (top G) q).1 (rnd G (top G) q).2 (n+(top G+1)) w):=by
 have ST:=zVZ (zOB w k kg hv ht (fun x hx=>⟨Nat.le_trans (zGr (ok.good x hx).2.1 (ok.good x hx).2.2) (zA5 hv),(ok.good x hx).2.2⟩) (by omega) q.2.length hq);rw[zJ7 hq];have OK:=zVZ (fun j=>zVP hv ok (clL G q.1[q.2.length]) j);have K0:=zVZ k;have hlen:=k.inn;clear k kg;generalize clL G q.1[q.2.length]=C at*;generalize hts:q.2=ts at*;generalize hks:q.1=ks at*;clear hts hks ok;go_enter Tryz.func83,Tryz.ntmps83;go_wp2_with (go_at_call 105;refine ST.out.mono ?_;rintro e w2 ⟨b,cc,rfl,hb1,hb2,hrows,hbw⟩;have ROWS:=zVZ hrows;have HB2:=zVZ hbw;clear hrows hbw);have R0:=zVZ (show LvR W p S h G ts (n+0) w2 (pj G C ks 0) w2 from⟨⟨S,n,(K0.out.went HB2.out).eq (fun x=>by rw[zS5];exact(zQr ts x).symm) (Nat.le_refl _),Nat.le_refl _,.refl _ _⟩,.refl _ _⟩);have hsw:=HB2.out.size;go_loopw [10] (fun i wr=>∃j:Nat,i=.int .i64 j/\j<=top G+1/\LvR W p S h G ts (n+j) w2 (pj G C ks j) wr) (fun i _=>top G+1-(intOf i).toNat)
 case atStart=>exact⟨0,rfl,Nat.zero_le _,R0.out⟩
 case round=>
  obtain⟨j,rfl,hj,hR⟩:=hrel;have R:=zVZ hR;clear hR R0
  by_cases hlt:j<top G+1
  ·obtain⟨a1,c1,hc,hcc,hi1,hnb⟩:=ROWS.out j hlt;have hsb:¬S b:=fun q=>by have:=K0.out.inn b q;omega
   have hc':wr.cell? ⟨b,j,none⟩=some (.slice a1 (stL G C (j:Int)).length c1):=R.out.fr.cell hc hsb
   have L2:=zVZ (show LAt S (stL G C (j:Int)) (.slice a1 (stL G C (j:Int)).length c1) w2 from⟨a1,c1,rfl,hcc,hi1,fun _ b' o e q=>by
    have:=hnb b' o e;have:=K0.out.inn b' q
    omega⟩)
   obtain⟨hk1,hk2,hk3⟩:=OK.out j;obtain⟨hf1,hf2⟩:=zUb hv C (j:Int);have PS:=zVZ (fun h0=>zS3 (c:=C) (ks:=ks) (j:=j) hv h0);have PN:=zVZ (fun h0=>zS2 (c:=C) (ks:=ks) (j:=j) hv h0);have SY:=zVZ (fun h0=>zS4 (c:=C) (ks:=ks) (j:=j) hv h0);obtain⟨⟨T,n1,hB,hn1,hXT⟩,hF⟩:=R.out;have KN:=zVZ (fun w1 (b:Below wr.heap.size wr w1)=>zF1 w1 (hB.went b) (stL G C (j:Int)) a1 c1 ((L2.out.fr hF hXT).went b) hf1 hk2 hk1 (by omega) (by omega));clear hc hcc hi1 hnb hf1 hk1 hk2
   by_cases h0:stL G C (j:Int)=[]
   ·have PE:=zVZ (PS.out h0);have hz:(stL G C (j:Int)).length=0:=by rw[h0];rfl
    rw[hz]at hc';clear PS PN SY KN L2 h0 hz;go_wp2_with fail;go_roundw
    case rel=>exact⟨j+1,by go_num,by omega,by rw[PE.out];exact⟨⟨T,n1,hB,by omega,hXT⟩,hF⟩⟩
    case measure=>simp[intOf];omega
   ·have PE:=zVZ (PN.out h0);have SE:=zVZ (SY.out h0);have hz:0<(stL G C (j:Int)).length:=List.length_pos_iff.2 h0;clear PS PN SY L2 h0;generalize stL G C (j:Int)=K at*;have kA:=drawn wr;obtain⟨bt,h5⟩:=zU4 hB;have h5d:wr.drew.cell? ⟨p,5,none⟩=some (.map (some bt)):=h5;have hnk:=zSp (pj G C ks j).1 K;have HX:W64 ((ts.length:Int),(j:Int)):=⟨zH9 (by omega),zH9 (by omega)⟩;have hwf:=zH9 (j:=numK (pj G C ks j).1 K) (by omega);have END:=zVZ (fun(T3:Nat->Prop) w3 w4 h1 h2 h3 h4 h6 h7=>zUM (W:=W) (p:=p) (h:=h) (G:=G) (S:=S) (T:=T) (T3:=T3) (m:=n+(j+1)) (n:=n1) (nn:=0) (w2:=w2) (wr:=wr) (w3:=w3) (w4:=w4) (H:=pj G C ks j) (K:=K) (j:=j) (bt:=bt) (ts:=ts) h1 h2 h3 h4 hXT hF h6 h7 SE.out (by omega));go_wp2_with fail
    go_region_law (first
     | (go_simp;go_at_call 81;(with_reducible refine(KN.out _ (by assumption)).mono ?_);rintro e w3 ⟨rfl,T3,hB3,hF3,hX3,h53⟩;have q53:=h53 _ h5d;obtain⟨w4,hrun,m4,t4⟩:=(zVV hB3 q53).store (T:=135) kaA Tryz.underlying135 Tryz.underlying3 (by unfold maxLen;omega) HX hwf;have hrun2:(Instr.mapUpdate 135 (.map (some bt)) (.agg #[.int .i64 (ts.length:Int),.int .i64 (j:Int)]) (.int .i64 (numK (pj G C ks j).1 K:Int))).run Tryz.prog w3=.ok () w4:=hrun;have E4:=zVZ (END.out T3 w3 w4 q53 hB3 ((Sep.Fr.refl T wr).drew.trans hF3 (.refl _ _)) (hX3.at (Nat.le_refl _)) m4 (zBs t4));clear hB3 hF3 hX3 h53 hrun m4 t4))
    all_goals
     go_wp2_with fail;go_roundw
     case rel=>exact⟨j+1,by go_num,by omega,by rw[PE.out];exact E4.out⟩
     case measure=>simp[intOf];omega
  ·have hE:j=top G+1:=by omega
   subst hE;obtain⟨⟨T,n1,hB,hn1,hXT⟩,hF⟩:=R.out;go_wp2
   try simp only[Exit.inBlock,Exit.then]
   refine bodyPost_ret (v:=.tuple #[]) (by simp[results,Tryz.results83,go_sem]) rfl ?_;exact⟨rfl,T,n1,hB,hn1,(Sep.Fr.of_below HB2.out).trans hF (.refl _ _),hXT.at hsw⟩
end Au
namespace Au
open Gr (Gram Sh GAt top boxed cell_later)
open Im
open Rw (zAM)
theorem zKy:(Tryz.prog.info? 168).map (fun i=>(i.zero,i.size,i.bytes))=some (some (.agg #[.slice none 0 0,.slice none 0 0]),2,48):=by kernel_rfl
def zDm(G:Gram)(ks:List (List Itm))(ts:List (List (Int×Int)))(i:Nat):List Sta:=(List.range i).map fun j=>(zAI ks j,zCP ts (j:Int) (top G+1))
theorem zKT(G:Gram)(ks:List (List Itm))(ts:List (List (Int×Int)))(i:Nat):zDm G ks ts (i+1)=zDm G ks ts i++[(zAI ks i,zCP ts (i:Int) (top G+1))]:=by
 unfold zDm;rw[List.range_succ,List.map_append]
 rfl
theorem zDJ(G:Gram)(ks:List (List Itm))(ts:List (List (Int×Int)))(i:Nat):(zDm G ks ts i).length=i:=by simp[zDm]
theorem zLz{G:Gram}{q:Whole}(h:Done G q):zDm G q.1 q.2 q.1.length=states q:=by
 refine List.ext_getElem (by rw[zDJ,zAp h.all]) fun i h1 h2=>?_
 rw[zDJ]at h1;have hi:i<q.2.length:=by rw[h.all];exact h1
 have e:=zCE h.all h1;rw[List.getElem?_eq_getElem h2,Option.some.injEq]at e;rw[e];simp only[zDm,List.getElem_map,List.getElem_range];rw[zNf h.ok hi]
def zOf(X:List Sta)(w:World)(e:Ending)(w':World):Prop:=∃a c,e=.returned (.slice a X.length c)/\StaA a X w'/\X.length<=c/\Below w.heap.size w w'
theorem zN9(T:TypeId)(base q:Nat)(u v:Value)(w:World)(hq:q=w.heap.size)(hb:base<=q)(hu:u.oneCell'=true)(hv:v.oneCell'=true):(w.alloc (.cells #[u,v] T)).ownsRow base T 2 (.slice (some ⟨q,0,none⟩) 1 1) 1 [u,v]:=by
 subst hq;exact World.ownsRow_lit w #[u,v] 1 hb (by decide) (by simp)
theorem zLX{W:World}{p:Nat}{S:Nat->Prop}{h:Sh}{G:Gram}{ks:List (List Itm)}{ts:List (List (Int×Int))}{n:Nat}(w:World)(k:BAt W p S h G ks (tgt ts) n w)(kg:GAt h G W)(ht:top G<=1000)(hl:ks.length<=1000000):
  Calls Tryz.prog 84 #[.pointer (some ⟨p,0,none⟩)] w (zOf (zDm G ks ts ks.length) w):=by
 have TR:=zVZ (fun w1 (b:Below w.heap.size w w1) i (hi:i<=1000000)=>zFM w1 (k.went b) kg ht i hi);obtain⟨a0,c0,bt,bn,us,k⟩:=k;obtain⟨i0,hj,hz0,hz1,hz2⟩:=info_parts zKy;have K:=zVZ k;have S0:=zVZ (StV.nil 168 w.heap.size w);have q4:=k.items;clear k kg;go_enter Tryz.func84,Tryz.ntmps84;go_wp2;go_loopw [3,11] (fun v q wr=>∃(j:Nat) (L:List StC),q=.int .i64 j/\j<=ks.length/\L.map Prod.fst=zDm G ks ts j/\StV 168 w.heap.size L v wr/\Below w.heap.size w wr) (fun _ q _=>ks.length-(intOf q).toNat)
 case atStart=>exact⟨0,[],rfl,Nat.zero_le _,rfl,S0.out,.refl _ _⟩
 case round=>
  obtain⟨j,L,rfl,hjl,hM,hV,hW⟩:=hrel
  have hlen:L.length=j:=by
   have:=congrArg List.length hM
   rwa [List.length_map,zDJ]at this
  subst hlen;obtain⟨av,cv,rfl,hcv⟩:=hV.len;have V:=zVZ hV;have WW:=zVZ hW;have MM:=zVZ hM;clear S0 hV hM
  by_cases hlt:L.length<ks.length
  ·obtain⟨b,a1,c1,rfl,hc1,l1,i1,_⟩:=K.out.at hlt;have hc2:=cell_later hW hc1
   have U1:=zVZ (show LOk ks[L.length] (.slice a1 ks[L.length].length c1) (.slice av L.length cv) w from⟨a1,c1,rfl,l1,i1,fun hne b o e g=>by
    have h1:=zFx i1 hne e;have h2:=(World.ownsRow.lt V.out.row b g).1
    omega⟩)
   have hst:=zBb hlt;have EX:=zVZ (show zDm G ks ts (L.length+1)=zDm G ks ts L.length++[(ks[L.length],zCP ts (L.length:Int) (top G+1))]from by rw[zKT,hst]);have TJ:=zVZ (TR.out wr hW L.length (by omega));have hL1:L.length<=1000000:=by omega
   generalize ks[L.length]=Kj at*;generalize zCP ts (L.length:Int) (top G+1)=Y at*;clear i1 l1 hst hW
   go_wp2_with (first
    | (go_at_call 106;refine TJ.out.mono ?_;rintro e w2 ⟨a2,c2,rfl,l2,v2,b2⟩;have V2:=zVZ (V.out.went b2);have W2:=zVZ (Gr.step WW.out b2);have U2:=zVZ ((U1.out.went WW.out).went b2);have Y2:=zVZ (show LOk Y (.slice a2 Y.length c2) (.slice av L.length cv) w2 from⟨a2,c2,rfl,l2,v2.reads,fun hne b o e g=>by
      have h1:=(World.ownsRow.lt V.out.row b g).2;have h2:=(World.ownsRow.lt v2 b (by rw[e];rfl)).1
      omega⟩);have hs2:=W2.out.size;have ONE:=zVZ (zN9 168 w.heap.size w2.heap.size (.slice a1 Kj.length c1) (.slice a2 Y.length c2) w2 rfl hs2 rfl rfl);have b3:=boxed w2 (.cells #[.slice a1 Kj.length c1,.slice a2 Y.length c2] 168);have V3:=zVZ (V2.out.went b3);have W3:=zVZ (Gr.step W2.out b3);have U3:=zVZ (U2.out.went b3);have Y3:=zVZ (Y2.out.went b3);have hs3:=W3.out.size;clear l2 v2 b2 b3)
    | (at_builtin;refine zAM _ rfl _ _ 78 rfl w.heap.size 168 i0 (.agg #[.slice none 0 0,.slice none 0 0]) 2 48 Tryz.underlying78 hj hz0 hz1 hz2 rfl (by decide) _ _ _ rfl V3.out.row w.heap.size _ 1 [.slice a1 Kj.length c1,.slice a2 Y.length c2] rfl ONE.out (by simp[Value.oneCell']) (by unfold maxLen;omega) (by omega) hs3 ?_;intro v' w4 hown hg hloc;have V4:=zVZ (V3.out.snoc ((Kj,Y),(.slice a1 Kj.length c1,.slice a2 Y.length c2)) ⟨U3.out,Y3.out⟩ hown hg (hloc.imp id fun e=>⟨_,Nat.le_refl _,e⟩));have W4:=zVZ (W3.out.trans (zAu hg hs3 fun q hq=>(World.ownsRow.lt V3.out.row q hq).1));clear hown hg hloc))
   go_roundw
   case rel=>exact⟨L.length+1,_,by go_num,by omega,by rw[List.map_append,MM.out,EX.out];rfl,V4.out,W4.out⟩
   case measure=>simp[intOf];omega
  ·have hE:L.length=ks.length:=by omega
   have R:=zVZ (show StaA av (zDm G ks ts ks.length) wr from by rw[←hE,←MM.out];exact V.out.at);have hll:(zDm G ks ts ks.length).length=L.length:=by rw[zDJ,hE]
   clear hE;go_wp2;go_ret;exact⟨av,cv,by rw[hll];rfl,R.out,by rw[hll];exact hcv,WW.out⟩
end Au
namespace Au
open Gr (Gram Sh top boxed zAC)
open Im
def zLh(G:Gram)(w:World)(e:Ending)(w':World):Prop:=∃(X:List Sta) (er:Int) (a:Option Addr) (c:Nat),e=.returned (.tuple #[.slice a X.length c,.int .i64 er])/\Built G er X/\StaA a X w'/\X.length<=c/\Below w.heap.size w w'
theorem fresh(h:Sh)(G:Gram)(w w1:World)(hb:Below w.heap.size w w1)(T:TypeId):
  BAt w (w1.heap.size+1+1) (fun k=>w1.heap.size<=k/\k<=w1.heap.size+2) h G [] (tgt []) 0
   (((w1.alloc (.map #[] 0)).alloc (.map #[] 0)).alloc (.cells #[.slice h.a1 G.terms.length h.c1,.slice h.a2 G.nons.length h.c2,.slice h.a3 G.rules.length h.c3,.int .i64 G.start,.slice none 0 0,.map (some w1.heap.size),.map (some (w1.heap.size+1))] T)):=by
 have hs:=hb.size;have m1:(w1.alloc (.map #[] 0)).heap.size=w1.heap.size+1:=by simp
 have m2:((w1.alloc (.map #[] 0)).alloc (.map #[] 0)).heap.size=w1.heap.size+1+1:=by simp
 have t1:=(TMap.made w1 Tryz.prog 174 3).eq fun x=>(zTN x).symm
 have s1:=SMap.made (w1.alloc (.map #[] 0)) Tryz.prog 9 3;rw[m1]at s1;have b1:=boxed (w1.alloc (.map #[] 0)) (.map #[] 0);have b2:=boxed ((w1.alloc (.map #[] 0)).alloc (.map #[] 0)) (.cells #[.slice h.a1 G.terms.length h.c1,.slice h.a2 G.nons.length h.c2,.slice h.a3 G.rules.length h.c3,.int .i64 G.start,.slice none 0 0,.map (some w1.heap.size),.map (some (w1.heap.size+1))] T)
 have K:∀j v,#[Value.slice h.a1 G.terms.length h.c1,.slice h.a2 G.nons.length h.c2,.slice h.a3 G.rules.length h.c3,.int .i64 G.start,.slice none 0 0,.map (some w1.heap.size),.map (some (w1.heap.size+1))][j]?=some v->
   (((w1.alloc (.map #[] 0)).alloc (.map #[] 0)).alloc (.cells #[.slice h.a1 G.terms.length h.c1,.slice h.a2 G.nons.length h.c2,.slice h.a3 G.rules.length h.c3,.int .i64 G.start,.slice none 0 0,.map (some w1.heap.size),.map (some (w1.heap.size+1))] T)).cell? ⟨w1.heap.size+1+1,j,none⟩=some v:=fun j v hv=>zAC m2.symm hv
 refine⟨none,0,w1.heap.size,w1.heap.size+1,[],?_⟩;refine⟨Gr.step hb (Gr.step (Gr.step (boxed w1 (.map #[] 0)) b1) b2),⟨K 0 _ rfl,K 1 _ rfl,K 2 _ rfl,K 3 _ rfl⟩,K 4 _ rfl,K 5 _ rfl,K 6 _ rfl,Gr.zCI m2.symm,World.ownsRow_nil _ _ _ _,fun i hi=>absurd hi (Nat.not_lt_zero i),?_,?_,⟨by omega,by omega⟩,⟨by omega,by omega⟩,⟨by omega,by omega⟩,fun g hg=>by simp[Value.ownBlock]at hg,by omega,by omega,by omega,fun g hg=>by simp[Value.ownBlock]at hg,fun k hk=>by omega,fun k hk=>?_⟩
 ·exact t1.keep ((b2.block _ (by omega)).trans (b1.block _ (by omega)))
 ·exact s1.keep (b2.block _ (by omega))
 ·simp;omega
structure BdR (w:World) (p:Nat) (h:Sh) (G:Gram) (m:Nat) (wr:World):Prop where
 own:∃T n,BAt w p T h G (runs G (top G) m).1 (tgt (runs G (top G) m).2) n wr/\n<=m*2000
 going:zIC G m
 few:(runs G (top G) m).1.length<=2000
theorem BdR.start{w:World}{p:Nat}{T:Nat->Prop}{h:Sh}{G:Gram}{wr:World}(k:BAt w p T h G [[((G.rules.length:Int),0)]] (tgt []) 0 wr):BdR w p h G 0 wr:=⟨⟨T,0,k,by omega⟩,zKt G,by simp[runs]⟩
theorem BdR.not{w:World}{p:Nat}{h:Sh}{G:Gram}{m:Nat}{wr:World}(k:BdR w p h G m wr)(hm:m<(runs G (top G) m).1.length):¬Stop (runs G (top G) m):=by
 have h1:=k.few;have h2:=k.going.len;unfold Stop;omega
theorem BdR.done{w:World}{p:Nat}{h:Sh}{G:Gram}{m:Nat}{wr:World}(k:BdR w p h G m wr)(hm:¬m<(runs G (top G) m).1.length):zD4 G m/\¬2000<(runs G (top G) m).1.length:=by
 have h1:=k.few;have h2:=k.going.len;have h3:=(zFH G (top G) m).le;exact⟨k.going.stop (.inr (by omega)),by omega⟩
theorem BdR.many{w:World}{p:Nat}{h:Sh}{G:Gram}{m:Nat}{wr:World}(k:BdR w p h G m wr)(hm:m<(runs G (top G) m).1.length)(h9:2000<(runs G (top G) (m+1)).1.length):zD4 G (m+1):=(k.going.next (k.not hm)).stop (.inl h9)
end Au
namespace Au
open Gr (Gram Sh gv GAt Bx checkN zBk top)
open Im
theorem zTp{Y:List Itm}{a:Option Addr}{c:Nat}{w w':World}{S:Nat->Prop}(h:ItsV 154 w.heap.size Y (.slice a Y.length c) w')(hS:∀k,S k->k<w.heap.size):LAt S Y (.slice a Y.length c) w':=by
 obtain⟨a',c',e,hc⟩:=h.shape;simp only[Value.slice.injEq]at e;obtain⟨rfl,_,rfl⟩:=e
 exact⟨a,c,rfl,hc,h.reads,fun _ b o e q=>by
  have:=(World.ownsRow.lt h b (by rw[e];rfl)).1;have:=hS b q
  omega⟩
theorem zRn{G:Gram}{Y:List Itm}(hv:checkN G=0)(h:Y=[((G.rules.length:Int),0)]):Fit3 Y:=fun x hx=>by
 rw[h,List.mem_singleton]at hx;subst hx;exact zDb hv (zBJ (Nat.le_refl _))
theorem zOm{w:World}{p:Nat}{T:Nat->Prop}{h:Sh}{G:Gram}{Y:List Itm}{X:Itm->Option Int}{n:Nat}{w':World}(e:Y=[((G.rules.length:Int),0)])(k:BAt w p T h G (zHe [] Y) X n w'):BAt w p T h G [[((G.rules.length:Int),0)]] X n w':=by
 subst e;exact k
theorem zG6(h:Sh)(G:Gram)(w:World)(k:GAt h G w)(ht:checkN G=0->top G<=1000):
  Calls Tryz.prog 70 #[gv h G] w (zLh G w):=by
 have C:=zVZ (fun w1 (b:Below w.heap.size w w1)=>zBk h G w1 (k.went b));have X:=zVZ (Bx.start h G w 41)
 by_cases hc:checkN G=0
 ·have BG:=zVZ (fun w1 (b:Below w.heap.size w w1)=>zG3 h G w1 (k.went b));have KG:=zVZ k;replace ht:=ht hc;rw[hc]at C;have hmm:=@run_makeMap Tryz.prog;clear k;unfold gv at C BG⊢;go_enter Tryz.func70,Tryz.ntmps70
  go_wp2_with (first
   |(go_at_call 80;refine(C.out _ X.out.below).mono ?_;rintro e w1 ⟨rfl,hb⟩;have X1:=zVZ (X.out.went hb);obtain⟨g0,g1,g2,g3⟩:=X1.out.box;have hq:w.heap.size<w1.heap.size:=World.block_lt_of_cell? w1 ⟨w.heap.size,0,none⟩ g0;have hq2:w.heap.size<w1.heap.size+1:=(by omega);have hq3:w.heap.size<w1.heap.size+1+1:=(by omega);have B0:=zVZ (fresh h G w w1 X1.out.below 139);have X2:=zVZ (((X1.out.alloc (.map #[] 0)).alloc (.map #[] 0)).alloc (.cells #[.slice h.a1 G.terms.length h.c1,.slice h.a2 G.nons.length h.c2,.slice h.a3 G.rules.length h.c3,.int .i64 G.start,.slice none 0 0,.map (some w1.heap.size),.map (some (w1.heap.size+1))] 139));clear hb)
   |(go_at_call 82;refine(BG.out _ X2.out.below).mono ?_;rintro e w3 ⟨Y,a3,c3,rfl,y1,y2,y3⟩;have HY:=zVZ (show Y=[((G.rules.length:Int),0)]from(y1.iff (Q:=fun x=>x=((G.rules.length:Int),0)) fun x=>⟨fun q=>q.2,fun q=>⟨hc,q⟩⟩).uniq ⟨zFK _,fun x=>List.mem_singleton⟩);have U3:=zVZ (zTp y2 B0.out.inn);have B3:=zVZ (B0.out.went y3);have X3:=zVZ (X2.out.went y3);clear y1 y2 y3)
   | (go_at_call 81;refine(zF1 _ B3.out Y a3 c3 U3.out (zRn hc HY.out) (fun x hx=>by cases hx) List.nodup_nil (Nat.zero_le _) (by rw[HY.out];simp)).mono ?_;rintro e w4 ⟨rfl,T4,b4,f4,x4,_⟩;have R0:=zVZ (BdR.start (zOm HY.out b4));clear b4 f4 x4))
  clear C BG X hmm;go_loopw [6] (fun i wr=>∃m:Nat,i=.int .i64 m/\m<=2000/\BdR w (w1.heap.size+1+1) h G m wr) (fun i _=>2001-(intOf i).toNat)
  case atStart=>exact⟨0,rfl,Nat.zero_le _,R0.out⟩
  case round=>
   obtain⟨m,rfl,hm,hR⟩:=hrel;have R:=zVZ hR;clear hR R0;obtain⟨⟨T,n,hB,hn⟩,hg,hfew⟩:=R.out;have hgl:=hg.len
   by_cases hlt:m<(runs G (top G) m).1.length
   ·have LV:=zNA (W:=w) wr hB KG.out hc ht (zFH G (top G) m) (by omega) (by omega) (by omega);rw[hgl]at LV;have LVh:=zVZ LV;have NX:=zVZ (fun(hs:¬2000<(runs G (top G) (m+1)).1.length)=>(show zIC G (m+1)/\(runs G (top G) (m+1)).1.length<=2000 from⟨hg.next (R.out.not hlt),by omega⟩));have MY:=zVZ (R.out.many hlt);obtain⟨a0,c0,bt,bn,us,k0⟩:=hB;have q4:=k0.items;clear k0 LV;go_wp2_with (go_at_call 83;refine LVh.out.mono ?_;rintro e w5 ⟨rfl,T5,n5,b5,l5,f5,x5⟩;obtain⟨a5,c5,bt5,bn5,us5,k5⟩:=b5;have K5:=zVZ k5;have q5:w5.cell? ⟨w1.heap.size+1+1,4,none⟩=some (.slice a5 (runs G (top G) (m+1)).1.length c5):=k5.items;clear k5 f5 x5)
    ·go_ret2;exact⟨[],7,none,0,rfl,.many hc (MY.out (by omega)) (by omega),.nil _ _,Nat.le_refl _,K5.out.below⟩
    ·obtain⟨n1,n2⟩:=NX.out (by omega);refine⟨⟨m+1,by go_num,by omega,⟨⟨T5,n5,⟨a5,c5,bt5,bn5,us5,K5.out⟩,by omega⟩,n1,n2⟩⟩,?_⟩;simp[intOf];omega
   ·obtain⟨d1,d2⟩:=R.out.done hlt;have SA:=zVZ (zLX (W:=w) wr hB KG.out ht (by omega));have DN:=zVZ (d1.done d2);have AO:=zVZ (zLz DN.out);obtain⟨a0,c0,bt,bn,us,k0⟩:=hB;have q4:=k0.items;have HW:=zVZ k0.below;clear k0;go_wp2_with (go_at_call 84;refine SA.out.mono ?_;rintro e w5 ⟨a5,c5,rfl,s1,s2,s3⟩;have S1:=zVZ s1;have S2:=zVZ s2;have S3:=zVZ (Gr.step HW.out s3);clear s1 s2 s3);go_ret2;exact⟨_,0,a5,c5,rfl,AO.out▸.all hc d1 d2,S1.out,S2.out,S3.out⟩
 ·have hcb:(checkN G != 0)=true:=by simpa using hc
  clear k;unfold gv at C⊢;go_enter Tryz.func70,Tryz.ntmps70;go_wp2_with (go_at_call 80;refine(C.out _ X.out.below).mono ?_;rintro e w1 ⟨rfl,hb⟩;have X1:=zVZ (X.out.went hb);clear hb);go_ret2;exact⟨[],checkN G,none,0,rfl,.bad hc,.nil _ _,Nat.le_refl _,X1.out.below⟩
