/- A part of the proof. -/
import Derived.Test.YtegeamggbglneaaGreatDoorPk29
import Derived.Test.YtegeamggbglneaaGreatDoorPk20
set_option maxHeartbeats 8000000
set_option maxRecDepth 100000
set_option linter.unusedVariables false
namespace Go.Proofs.YtegeamggbglneaaGreatDoor
open Go.RowKit Go.Maps
namespace Im
open Gr (Gram Sh gv GAt Box step checkN ofN ofL zEa ivs)
theorem zQ1{a}{xs}{S}{w w'}(h:Sep.Reads a xs w)(f:Sep.Fr S w w')(hn:∀b o,a=some ⟨b,o,none⟩->¬S b):Sep.Reads a xs w':=fun i hi=>by
 obtain⟨b,o,e,hc⟩:=h i hi;exact⟨b,o,e,f.cell hc (hn b o e)⟩
structure Bo (W:World) (h:Sh) (G:Gram) (x:Itm) (d:Nat) (w:World):Prop where
 fr:Sep.Fr (· =d) W w
 box:Box W.heap.size h G w
 i0:w.cell? ⟨W.heap.size+1,0,none⟩=some (.int .i64 x.1)
 i1:w.cell? ⟨W.heap.size+1,1,none⟩=some (.int .i64 x.2)
theorem Bo.start(h)(G)(x)(d)(w)(T U):Bo w h G x d ((w.alloc (.cells #[.slice h.a1 G.terms.length h.c1,.slice h.a2 G.nons.length h.c2,.slice h.a3 G.rules.length h.c3,.int .i64 G.start] T)).alloc (.cells #[.int .i64 x.1,.int .i64 x.2] U)):=by
 have k:=Bi.start h G x w T U;exact⟨.of_below k.below,k.bx.box,k.i0,k.i1⟩
theorem Bo.later{W}{h}{G}{x}{d}{w w'}(k:Bo W h G x d w)(hd:d<W.heap.size)(f:Sep.Fr (· =d) w w'):Bo W h G x d w':=by
 have h0:¬W.heap.size=d:=by omega
 have h1:¬W.heap.size+1=d:=by omega
 exact⟨k.fr.trans f (.refl _ _),⟨f.cell k.box.x0 h0,f.cell k.box.x1 h0,f.cell k.box.x2 h0,f.cell k.box.x3 h0⟩,f.cell k.i0 h1,f.cell k.i1 h1⟩
theorem Bo.went{W}{h}{G}{x}{d}{w w'}(k:Bo W h G x d w)(hd:d<W.heap.size)(hb:Below w.heap.size w w'):Bo W h G x d w':=k.later hd (.of_below hb)
theorem zLZ{G}{s}{i}(h:i∈ofN G s):i<G.rules.length:=(Gr.zBy.1 h).1
theorem zIR{G}{d n}{X:Itm->Prop}{x}{w}(hX:∀y,X y->zAI G y=true)(hx:zAI G x=true)(h:MS d n (fun y=>X y\/y=x) w):MS d (allI G).length (fun y=>X y\/y=x) w:=
 h.tight ktI (allI G) fun y _ hy=>zCW (hy.elim (hX y) fun e=>e▸hx)
theorem zGf(h:Sh)(G:Gram)(hv:checkN G=0)(d:Nat)(x:Itm)(X:Itm->Prop)(w:World)(hx:zAI G x=true)(hX:∀y,X y->zAI G y=true)(hXx:X x)(hs:MS d (allI G).length X w):
  Calls Tryz.prog 179 #[.map (some d),gv h G,iv x] w fun e w'=>e=.returned (.tuple #[])/\∃Y,Sprd G X x Y/\MS d (allI G).length Y w'/\Sep.Fr (· =d) w w':=by
 have ha:=zBE hv;have hd:=hs.lt;have B:=zV7 (Bo.start h G x d w 47 181);have P:=zV7 (zCs x (zCt hv hx) d (allI G).length X _ (hs.went (Bi.start h G x w 47 181).below) (by unfold maxLen;omega));obtain⟨x0,x1⟩:=x;unfold gv iv at*;dsimp only at B P⊢;go_enter Tryz.func179,Tryz.ntmps179;go_wp2_with (go_at_call 215;refine P.out.mono ?_;rintro e w1 ⟨ok,hok,rfl,hm,hf⟩;obtain rfl:ok=false:=(by cases ok with|false=>rfl|true=>exact absurd hXx (hok.1 rfl));have PM:=zV7 hm;have PF:=zV7 hf;clear hm hf hok);refine bodyPost_ret (v:=.tuple #[]) (by simp[results,Tryz.results179,go_sem]) rfl ?_;exact⟨rfl,_,.none hXx fun y=> .rfl,zIR hX hx PM.out,B.out.fr.trans PF.out (.refl _ _)⟩
theorem zLy(h:Sh)(G:Gram)(hv:checkN G=0)(W0:World)(k:GAt h G W0)(d:Nat)(hd:W0.heap.size<=d):∀(N:Nat) (M:List Itm) (x:Itm) (X:Itm->Prop) (w:World),M.length<=N->zAI G x=true->(∀y,X y->zAI G y=true)->(∀y,zAI G y=true->¬X y->y∈M)->
  Below W0.heap.size W0 w->MS d (allI G).length X w->
  Calls Tryz.prog 179 #[.map (some d),gv h G,iv x] w fun e w'=>e=.returned (.tuple #[])/\∃Y,Sprd G X x Y/\MS d (allI G).length Y w'/\Sep.Fr (· =d) w w':=by
 have ha:=zBE hv;have hr3:=(zEu (Gr.zAl hv).1).1;intro N
 induction N with
 |zero=>
  intro M x X w hM hx hX hm hb hs;have hMe:M=[]:=by cases M with|nil=>rfl|cons _ _=>simp at hM
  subst hMe
  have hXx:X x:=by
   rcases Classical.em (X x)with q|q
   ·exact q
   ·have:=hm x hx q;cases this
  exact zGf h G hv d x X w hx hX hXx hs
 |succ N ih=>
  intro M x X w hM hx hX hm hb hs;rcases Classical.em (X x)with hXx|hXx
  ·exact zGf h G hv d x X w hx hX hXx hs
  have hMx:=hm x hx hXx
  have hM':(M.erase x).length<=N:=by
   rw[List.length_erase_of_mem hMx];omega
  have hdw:=hs.lt;have B:=zV7 (Bo.start h G x d w 47 181);have P:=zV7 (zCs x (zCt hv hx) d (allI G).length X _ (hs.went (Bi.start h G x w 47 181).below) (by unfold maxLen;omega));have HB:=zV7 (fun w1 (f:Sep.Fr (· =d) w w1)=>show Below W0.heap.size W0 w1 from hb.trans (f.below (fun i hi=>by omega) hb.size));have HN:=zV7 (fun w1 (b:Below W0.heap.size W0 w1)=>zKy h G x w1 (k.went b));have HO:=zV7 (fun w1 (b:Below W0.heap.size W0 w1)=>zEa h G (behV G x) w1 (k.went b) (by omega));have IH:=zV7 (fun(r:Int) (Z:Itm->Prop) w1 (b:Below W0.heap.size W0 w1) (hr:zAI G (r,0)=true) (hZ:∀y,Z y->zAI G y=true) (hZX:∀y,X y->Z y) (hZx:Z x) (hz:MS d (allI G).length Z w1)=>ih (M.erase x) (r,0) Z w1 hM' hr hZ (fun y hy hn=>(List.mem_erase_of_ne (fun e=>hn (by rw[e];exact hZx))).2 (hm y hy fun q=>hn (hZX y q))) b hz);obtain⟨e1,e2⟩:=zTH hx;rw[e1,e2]at HN;clear e1 e2 ih k hs hm hM hM' hMx;generalize hnb:behB G x=nb at HN;obtain⟨x0,x1⟩:=x;unfold gv iv at*;dsimp only at B P⊢;go_enter Tryz.func179,Tryz.ntmps179
  go_wp2_with (first
   |(go_at_call 215;refine P.out.mono ?_;rintro e w1 ⟨ok,hok,rfl,hm,hf⟩;obtain rfl:ok=true:=hok.2 hXx;have PM:=zV7 (zIR hX hx hm);have PB:=zV7 (B.out.later hdw hf);obtain⟨⟨g0,g1,g2,g3⟩,y0,y1⟩:=(⟨PB.out.box,PB.out.i0,PB.out.i1⟩:_/\_/\_);clear hm hf hok B P)
   |(go_at_call 216;refine(HN.out _ (HB.out _ PB.out.fr)).mono ?_;rintro e w2 ⟨rfl,hb2⟩;have QM:=zV7 (PM.out.went hb2);have QB:=zV7 (PB.out.went hdw hb2);obtain⟨⟨g0,g1,g2,g3⟩,y0,y1⟩:=(⟨QB.out.box,QB.out.i0,QB.out.i1⟩:_/\_/\_);clear hb2 PM PB)
   | (go_at_call 156;refine(HO.out _ (HB.out _ QB.out.fr)).mono ?_;rintro e w3 ⟨a3,c3,rfl,hr,hn,hb3⟩;have RM:=zV7 (QM.out.went hb3);have RB:=zV7 (QB.out.went hdw hb3);have RL:=zV7 hr;have RN:=zV7 (show∀b o,a3=some ⟨b,o,none⟩->¬b=d from fun b o e=>by have:=hn _ e;have:=QB.out.fr.size;dsimp only at*;omega);clear hr hn hb3 QM QB))
  clear HN HO;have PS:=zV7 (Part.start (K:=ofN G (behV G (x0,x1))) hx (fun y=>(Iff.rfl:(X y\/y=(x0,x1))↔_)));have HK:=zV7 (fun j (hj:j<(ofN G (behV G (x0,x1))).length)=>show(ofL G (behV G (x0,x1)))[j]'(by rw[Gr.zC8];exact hj)=(((ofN G (behV G (x0,x1)))[j]:Nat):Int)by simp[ofL,Gr.ofI,ofN]);have hkl:=Gr.zC8 G (behV G (x0,x1))
  have hsm:(ofN G (behV G (x0,x1))).length<=300:=by
   have:=Gr.zRt G.rules (behV G (x0,x1)) G.rules.length;rw[←hkl];exact Nat.le_trans this hr3
  rw[hkl];go_loopw [24] (fun i wr=>∃j:Nat,j<=(ofN G (behV G (x0,x1))).length/\i=.int .i64 j/\Bo w h G (x0,x1) d wr/\Sep.Reads a3 (ivs (ofL G (behV G (x0,x1)))) wr/\∃Z,Part G X (x0,x1) (ofN G (behV G (x0,x1))) j Z/\MS d (allI G).length Z wr) (fun i _=>(ofN G (behV G (x0,x1))).length-(intOf i).toNat)
  case atStart=>exact⟨0,Nat.zero_le _,rfl,RB.out,RL.out,_,PS.out,RM.out⟩
  case round=>
   obtain⟨j,hj,rfl,hB,hL,Z,hP,hZ⟩:=hrel;clear RB RL RM PS;obtain⟨⟨g0,g1,g2,g3⟩,y0,y1⟩:=(⟨hB.box,hB.i0,hB.i1⟩:_/\_/\_);have B:=zV7 hB;have L:=zV7 hL;have PZ:=zV7 hP;have MZ:=zV7 hZ
   by_cases hlt:j<(ofN G (behV G (x0,x1))).length
   ·obtain⟨b,o,rfl,hc⟩:=hL j (by simp[ivs];omega)
    have hk:(ivs (ofL G (behV G (x0,x1))))[j]'(by simp[ivs];omega)=.int .i64 (((ofN G (behV G (x0,x1)))[j]:Nat):Int):=by
     simp only[ivs,List.getElem_map,Gr.iv];rw[HK.out j hlt]
    rw[hk]at hc;have PST:=zV7 (fun(Y:Itm->Prop)=>Part.step (Y:=Y) hv hx hP hlt);have hkr:zAI G ((((ofN G (behV G (x0,x1)))[j]:Nat):Int),0)=true:=zBS (Nat.le_of_lt (zLZ (List.getElem_mem hlt)));have C:=zV7 (IH.out _ Z wr (HB.out _ hB.fr) hkr (hP.right hX) hP.old hP.own hZ);clear hk hL hP hZ hB hkr;generalize (ofN G (behV G (x0,x1)))[j]=r at*;go_wp2_with (go_at_call 179;refine C.out.mono ?_;rintro e w4 ⟨rfl,Y,hs,hm,hf⟩;have MY:=zV7 hm;have PY:=zV7 (PST.out Y hs);have BY:=zV7 (B.out.later hdw hf);have LY:=zV7 (zQ1 L.out hf RN.out);clear hs hm hf);go_roundw
    case rel=>exact⟨j+1,by omega,by go_num,BY.out,LY.out,Y,PY.out,MY.out⟩
    case measure=>simp[intOf];omega
   ·have hE:j=(ofN G (behV G (x0,x1))).length:=by omega
    subst hE;go_wp2;go_end0;exact⟨rfl,Z,PZ.out.done,MZ.out,B.out.fr⟩
end Im
namespace Im
open Gr (Gram Sh gv GAt Bx step boxed checkN zAC)
noncomputable def lst(G:Gram)(L:List Itm):List Itm:=if checkN G=0 then L else[]
theorem zEG{G}{L}{x}:x∈lst G L↔checkN G=0/\x∈L:=by
 unfold lst
 by_cases h:checkN G=0
 ·simp[h]
 ·simp[h]
theorem zUp{G}(h:checkN G=0)(L):lst G L=L:=if_pos h
theorem zTC{G}(h:¬checkN G=0)(L):lst G L=[]:=if_neg h
theorem zDX{G}{L}(x):VSet G L x↔(x∈lst G L/\zAI G x=true):=by
 unfold VSet;rw[zEG,and_assoc]
theorem zPR{G}{x}(h:Clo G [] x):False:=by
 induction h with
 |of h _=>cases h
 |next _ _ _ ih=>exact ih
theorem zSU{G}{L}{x}:Clo G (lst G L) x↔checkN G=0/\Clo G L x:=by
 by_cases h:checkN G=0
 ·rw[zUp h];exact⟨fun k=>⟨h,k⟩,fun k=>k.2⟩
 ·rw[zTC h];exact⟨fun k=>(zPR k).elim,fun k=>absurd k.1 h⟩
noncomputable def allL(G:Gram):List Itm:=if checkN G=0 then allI G else[]
theorem zJo(G):(allL G).length<=2709:=by
 unfold allL
 by_cases h:checkN G=0
 ·rw[if_pos h];exact zBE h
 ·rw[if_neg h];simp
theorem zQK{G}{x}(h:checkN G=0)(hx:zAI G x=true):x∈allL G:=by
 unfold allL;rw[if_pos h];exact zCW hx
theorem zEz.of{P Q}{w w1 w'}{e}(h:zEz P w1 e w')(hb:Below w.heap.size w w1)(hi:∀x,P x↔Q x):zEz Q w e w':=by
 obtain⟨Y,a,c,h1,h2,h3,h4⟩:=h;exact⟨Y,a,c,h1,h2.iff hi,h3.mono hb.size,Gr.step hb h4⟩
structure Rnd (W:World) (h:Sh) (G:Gram) (d b r n q:Nat) (X Lf Z:Itm->Prop) (m:Nat) (w:World):Prop where
 bx:Bx W h G w
 run:MR b r n q X Lf w
 set:MS d m Z w
 d1:W.heap.size+1<=d
 d2:d<b
 d3:d<r
theorem Rnd.later{W}{h}{G}{d b r n q m}{X Lf Z}{w w'}(k:Rnd W h G d b r n q X Lf Z m w)(hb:Below w.heap.size w w'):Rnd W h G d b r n q X Lf Z m w'/\w'.rangeLeft b r=w.rangeLeft b r:=
 ⟨⟨k.bx.went hb,k.run.went hb,k.set.went hb,k.d1,k.d2,k.d3⟩,MRan.left_keep (hb.block b k.run.lt.1) (hb.block r k.run.lt.2.1)⟩
theorem Rnd.wrote{W}{h}{G}{d b r n q m m'}{X Lf Z Z'}{w w'}(k:Rnd W h G d b r n q X Lf Z m w)(f:Sep.Fr (· =d) w w')(hs:MS d m' Z' w'):Rnd W h G d b r n q X Lf Z' m' w'/\w'.rangeLeft b r=w.rangeLeft b r:=by
 have h1:=f.block b k.run.lt.1 (by have:=k.d2;omega);have h2:=f.block r k.run.lt.2.1 (by have:=k.d3;omega);exact⟨⟨zGp k.bx f fun i hi=>by have:=k.d1;omega,k.run.keep h1 h2,hs,k.d1,k.d2,k.d3⟩,MRan.left_keep h1 h2⟩
theorem Rnd.next{W}{h}{G}{d b r n q m}{X Lf Lf' Z}{w w'}(k:Rnd W h G d b r n q X Lf Z m w)(hg:w.grownBy w' (some r))(hr:MR b r n (q+1) X Lf' w'):Rnd W h G d b r n (q+1) X Lf' Z m w':=by
 refine⟨k.bx.grown hg fun g e=>?_,hr,k.set.keep (hg.block d k.set.lt fun e=>?_),k.d1,k.d2,k.d3⟩
 ·injection e with e
  have:=k.d1;have:=k.d3;omega
 ·injection e with e
  have:=k.d3;omega
theorem zMe(h:Sh)(G:Gram)(L:List Itm)(a:Option Addr)(c:Nat)(w:World)(k:GAt h G w)(kl:ItsA a L w)(hw:∀x∈L,W64 x)(hL:L.length<=1000000):
  Calls Tryz.prog 157 #[gv h G,.slice a L.length c] w (zEz (fun x=>checkN G=0/\Clo G L x) w):=by
 have X0:=zV7 (Bx.start h G w 47);have V:=zV7 (fun w1 (b:Below w.heap.size w w1)=>zOy h G L a c w1 (k.went b) (kl.went b) hw (by omega));have M0:=zV7 (MSet.made (H:=Nat) (w.alloc (.cells #[.slice h.a1 G.terms.length h.c1,.slice h.a2 G.nons.length h.c2,.slice h.a3 G.rules.length h.c3,.int .i64 G.start] 47)) Tryz.prog 181 unitElem (.agg []));have X1:=zV7 (X0.out.alloc (.map #[] 0));have hs1:(w.alloc (.cells #[.slice h.a1 G.terms.length h.c1,.slice h.a2 G.nons.length h.c2,.slice h.a3 G.rules.length h.c3,.int .i64 G.start] 47)).heap.size=w.heap.size+1:=by simp
 have hs2:((w.alloc (.cells #[.slice h.a1 G.terms.length h.c1,.slice h.a2 G.nons.length h.c2,.slice h.a3 G.rules.length h.c3,.int .i64 G.start] 47)).alloc (.map #[] 0)).heap.size=w.heap.size+2:=by simp
 rw[hs1]at M0;have SP:=zV7 (fun(hv:checkN G=0) (x:Itm) (Z:Itm->Prop) w1 (b:Below w.heap.size w w1) (hx:zAI G x=true) (hZ:∀y,Z y->zAI G y=true) (hz:MS (w.heap.size+1) (allI G).length Z w1)=>zLy h G hv w k (w.heap.size+1) (by omega) (allI G).length (allI G) x Z w1 (Nat.le_refl _) hx hZ (fun y hy _=>zCW hy) b hz);clear k kl hw X0 hs1;unfold gv at*;have hmm:=@run_makeMap Tryz.prog;go_enter Tryz.func157,Tryz.ntmps157
 go_wp2_with (first
  |(go_at_call 178;refine(V.out _ X1.out.below).mono ?_;rintro e w1 ⟨b,n,rfl,hb1,hb2,hm,hb⟩;have X2:=zV7 (X1.out.went hb);have Z2:=zV7 (M0.out.went hb);have V2:=zV7 hm;rw[hs2]at hb1;clear hm hb)
  |(at_range;refine zER _ rfl _ rfl ktI Tryz.underlying250 (.agg []) b n _ rfl V2.out ?_;intro w2 hrg hg hsz)
  |go_in)
 have hX2s:=X2.out.size
 have R0:=zV7 (show Rnd w h G (w.heap.size+1) b w1.heap.size n 0 _ _ (fun _=>False) (allI G).length w2 from
  ⟨X2.out.grown hg (fun g e=>by cases e),hrg,(Z2.out.keep (hg.block _ Z2.out.lt (fun e=>by cases e))).mono (Nat.zero_le _),Nat.le_refl _,by omega,by have:=V2.out.lt;omega⟩)
 have P0:=zV7 (Way.start (G:=G) (L:=lst G L) (X:=VSet G L) (Z:=fun _=>False) (fun y h1 h2=>(zDX y).2 ⟨h1,h2⟩) (fun _=>id));clear V X1 M0 X2 Z2 hrg hg hsz hs2 hX2s;go_frame;go_loopw [6] (fun _ wr=>∃(q:Nat) (Lf Z:Itm->Prop),Rnd w h G (w.heap.size+1) b w1.heap.size n q (VSet G L) Lf Z (allI G).length wr/\Way G (lst G L) Lf Z) (fun _ wr=>wr.rangeLeft b w1.heap.size)
 case atStart=>exact⟨0,_,_,R0.out,P0.out⟩
 case round=>
  obtain⟨q,Lf,Z,hR,hP⟩:=hrel;clear R0 P0;have HR:=zV7 hR;have HP:=zV7 hP;have hrg:=hR.run;clear hR hP
  go_wp2_with (first
   |(at_next;refine zEn _ rfl _ rfl ktI b w1.heap.size n q _ Lf rfl hrg ?_ ?_)
   |go_in)
  ·intro hd;have hz:∀y,Z y↔checkN G=0/\Clo G L y:=fun y=>(HP.out.done (fun y h1 h2=>hd y (zCt (zEG.1 h1).1 h2)) y).trans zSU
   have hzm:∀y,Z y->y∈allL G:=fun y hy=>zQK ((hz y).1 hy).1 (HP.out.right y hy)
   have LS:=zV7 ((zEt (w.heap.size+1) (allL G).length Z wr (HR.out.set.tight ktI (allL G) fun y _ hy=>hzm y hy) (Nat.le_trans (zJo G) (by omega)) (allL G) hzm (Nat.le_trans (zJo G) (by omega))).mono fun e w' hl=>zEz.of (Q:=fun x=>checkN G=0/\Clo G L x) hl HR.out.bx.below fun x=>⟨fun q=>(hz x).1 q.1,fun q=>⟨(hz x).2 q,zCt q.1 (zAn q.2)⟩⟩);have hB:=HR.out.bx.below;clear HR HP hrg hzm;go_wp2_with (go_at_call 180;refine LS.out.mono ?_;rintro e w4 ⟨Y,a4,c4,rfl,h1,h2,h3⟩;have H1:=zV7 h1;have H2:=zV7 h2;have H3:=zV7 h3;clear h1 h2 h3);go_ret;exact⟨Y,a4,c4,rfl,H1.out,H2.out,H3.out⟩
  ·intro x0 x1 w3 hx hlf hXx hrg2 hlt hg2 hs2 hen;have hv:=hXx.1;have hR3:=HR.out.next hg2 hrg2;obtain⟨hR4,hl4⟩:=hR3.later (boxed w3 (.cells #[.int .i64 x0,.int .i64 x1] 181));obtain⟨g0,g1,g2,g3⟩:=hR4.bx.box;have y0:(w3.alloc (.cells #[.int .i64 x0,.int .i64 x1] 181)).cell? ⟨w3.heap.size,0,none⟩=some (.int .i64 x0):=zAC rfl rfl;have y1:(w3.alloc (.cells #[.int .i64 x0,.int .i64 x1] 181)).cell? ⟨w3.heap.size,1,none⟩=some (.int .i64 x1):=zAC rfl rfl;have R4:=zV7 hR4;have C:=zV7 (SP.out hv (x0,x1) Z _ hR4.bx.below hXx.2.2 HP.out.right hR4.set);have PS:=zV7 (fun(Y:Itm->Prop)=>HP.out.step (Y:=Y) (x:=(x0,x1)) ((zDX _).1 hXx).1 hXx.2.2);have hl5:wr.rangeLeft b w1.heap.size>(w3.alloc (.cells #[.int .i64 x0,.int .i64 x1] 181)).rangeLeft b w1.heap.size:=by rw[hl4];exact hlt
   unfold iv at hen C⊢;dsimp only at hen C⊢;clear hR3 hR4 hl4 hlt hs2 hrg hrg2 HR HP hXx hlf hg2 hx;go_wp2_with (go_at_call 179;refine C.out.mono ?_;rintro e w5 ⟨rfl,Y,hs,hm,hf⟩;obtain⟨r5,l5⟩:=R4.out.wrote hf hm;have P5:=zV7 (PS.out Y hs);have R5:=zV7 r5;rw[←l5]at hl5;clear hs hm hf l5 r5);go_roundw
   case rel=>exact⟨_,_,Y,R5.out,P5.out⟩
   case measure=>exact hl5
end Im
namespace Im
open Gr (Gram Sh gv GAt Bx checkN zBs)
theorem zJJ{P}{w w'}(h:∀x,¬P x)(hb:Below w.heap.size w w'):zEz P w (.returned (.slice none 0 0)) w':=⟨[],none,0,rfl,Is.nil h,ItsV.nil _ _ _,hb⟩
theorem zHb(h:Sh)(G:Gram)(w:World)(k:GAt h G w):
  Calls Tryz.prog 109 #[gv h G] w (zEz (fun x=>checkN G=0/\x=((G.rules.length:Int),0)) w):=by
 have C:=zV7 (fun w1 (b:Below w.heap.size w w1)=>zBs h G w1 (k.went b));have A:=zV7 (fun w1 (b:Below w.heap.size w w1)=>zGo h G w1 (k.went b));clear k;have X:=zV7 (Bx.start h G w 47);unfold gv at*
 by_cases hc:checkN G=0
 ·rw[hc]at C;go_enter Tryz.func109,Tryz.ntmps109
  go_wp2_with (first
   |(go_at_call 107;refine(C.out _ X.out.below).mono ?_;rintro e w1 ⟨rfl,hb⟩;have X1:=zV7 (X.out.went hb);obtain⟨g0,g1,g2,g3⟩:=X1.out.box;clear hb)
   | (go_at_call 131;refine(A.out _ X1.out.below).mono ?_;rintro e w2 ⟨rfl,hb⟩;have X2:=zV7 (X1.out.went hb);clear hb))
  go_ret;have hB:=X2.out.below.size;exact⟨[((G.rules.length:Int),0)],_,_,rfl,⟨zFp _,fun x=>by rw[List.mem_singleton];exact⟨fun e=>⟨hc,e⟩,fun e=>e.2⟩⟩,zEs 181 w.heap.size w2.heap.size ((G.rules.length:Int),0) w2 rfl hB,(X2.out.alloc _).below⟩
 ·have hcb:(checkN G==0)=false:=by simpa using hc
  go_enter Tryz.func109,Tryz.ntmps109;go_wp2_with (go_at_call 107;refine(C.out _ X.out.below).mono ?_;rintro e w1 ⟨rfl,hb⟩;have X1:=zV7 (X.out.went hb);clear hb);go_ret;exact zJJ (fun x k=>hc k.1) X1.out.below
end Im
namespace Im
open Gr (Fits)
def lw(W:World):World:=
 ((((W.alloc (.cells #[.string ⟨#[65]⟩,.string ⟨#[66]⟩] 9)).alloc (.cells #[.string ⟨#[115]⟩,.string ⟨#[116]⟩] 9)).alloc (.cells #[.int .i64 4,.int .i64 1] 3)).alloc (.cells #[.int .i64 2] 3)).alloc
  (.cells #[.int .i64 3,.slice (some ⟨W.heap.size+1+1,0,none⟩) 2 2,.int .i64 4,.slice (some ⟨W.heap.size+1+1+1,0,none⟩) 1 1] 55)
theorem fitz(x)(h: -1000<=x)(k:x<=1000):Fits x:=⟨by omega,by omega⟩
def inB(x:Itm)(E:List Itm)(k:Nat):Bool:=decide (x∈E.take k)
def Stop(X:List Itm)(x:Itm)(j:Nat):Prop:=∀h:j<X.length,¬ltP X[j] x
end Im
namespace Lk
open Gr (ivs)
theorem zVd:Tryz.prog.underlying 29=some (.slice (Tryz.prog.elem 29)):=by kernel_rfl
theorem zV0(w):(sizeOf (Tryz.prog.elem 29)).run Tryz.prog w=.ok 1 w:=by kernel_rfl
theorem zP1(X)(k):ivs (X.drop k)=(ivs X).drop k:=by simp[ivs]
theorem zNK(X):(ivs X).length=X.length:=by simp[ivs]
end Lk
namespace Au
open Gr (Gram gv GAt checkN boxed zAC zAT)
open Im
theorem zG7(n k)(h:k<n)(z):(madeCells #[z] n)[k]?=some z:=by
 simp[madeCells,h,Nat.mod_one]
theorem zNd(n:Nat)(hn:n<=10000)(w):
  (Instr.makeSlice 165 (.int .i64 (n:Int)) (.int .i64 (n:Int))).run Tryz.prog w=.ok (.slice (some ⟨w.heap.size,0,none⟩) n n) (w.alloc (.cells (madeCells #[.slice none 0 0] n) 169)):=
 run_make_row' 165 169 (.slice none 0 0) 24 Tryz.underlying165 zJ8 rfl .i64 .i64 n (by omega) (by omega) w
theorem zSe(n m)(w w':World)(hm:w.heap.size<m)(hw:m<=w'.heap.size)(hb:w'.heap[w.heap.size]?=(w.alloc (.cells (madeCells #[.slice none 0 0] n) 169)).heap[w.heap.size]?):Fam 181 w.heap.size m n (fun _=>[]) (fun _=> .slice none 0 0) w':=by
 have B:=Rw.Bk.new w (madeCells #[.slice none 0 0] n) 169 _ rfl;exact⟨fun s hs=>(World.cell?_of_block (a:=⟨w.heap.size,s,none⟩) hb).trans (B.cell (zG7 n s hs _)),fun j=>(World.frozen?_of_block (a:=⟨w.heap.size,j,none⟩) hb).trans (B.free j),fun s _=>ItsV.nil _ _ _,fun s r _ _ _ g e=>by simp[Value.ownBlock]at e,hm,hw⟩
def zO4(Y:List Itm)(w:World)(e:Ending)(w':World):Prop:=∃a c,e=.returned (.slice a Y.length c)/\ItsV 181 w.heap.size Y (.slice a Y.length c) w'/\Below w.heap.size w w'
theorem zLA(h)(G)(hv:checkN G=0)(L)(a)(c)(w)(k:GAt h G w)(kl:ItsA a L w)(hw:∀x∈L,W64 x)(hL:L.length<=1000000):
  Calls Tryz.prog 157 #[gv h G,.slice a L.length c] w (zO4 (clL G L) w):=by
 refine(zMe h G L a c w k kl hw hL).mono ?_;rintro e w' ⟨Y,a',c',rfl,h1,h2,h3⟩;have:Y=clL G L:=(h1.iff (Q:=Clo G L) fun x=>⟨fun q=>q.2,fun q=>⟨hv,q⟩⟩).uniq (zF5 G L);subst this;exact⟨a',c',rfl,h2,h3⟩
def zPB(F:Nat->List Itm)(n:Nat)(w:World)(e:Ending)(w':World):Prop:=∃b c,e=.returned (.slice (some ⟨b,0,none⟩) n c)/\w.heap.size<=b/\b<w'.heap.size/\
 (∀s,s<n->∃a c',w'.cell? ⟨b,s,none⟩=some (.slice a (F s).length c')/\(F s).length<=c'/\ItsA a (F s) w'/\∀b' o,a=some ⟨b',o,none⟩->w.heap.size<=b')/\Below w.heap.size w w'
theorem zMq{G}{c:List Itm}{k}(hk)(hb:behB G c[k]=true){s:Nat}(hs:behV G c[k]=(s:Int))(r):
  upd (fun r:Nat=>zBH G (c.take k) (r:Int)) s (zBH G (c.take k) (s:Int)++[(c[k].1,c[k].2+1)]) r=zBH G (c.take (k+1)) (r:Int):=by
 rw[List.take_succ_eq_append_getElem hk,zGg]
 by_cases e:r=s
 ·subst e;rw[upd_same,if_pos ⟨hb,hs⟩]
 ·rw[zAB e,if_neg,List.append_nil];rintro⟨_,q⟩;omega
theorem zPg{G}{c:List Itm}{k}(hk)(hb:behB G c[k]=false)(r):zBH G (c.take k) r=zBH G (c.take (k+1)) r:=by
 rw[List.take_succ_eq_append_getElem hk,zGg,if_neg,List.append_nil];rintro⟨q,_⟩;rw[hb]at q;cases q
structure StR (W w w2:World) (b n:Nat) (a:Option Addr) (G:Gram) (C:List Itm) (k:Nat) (D:Nat->Value) (wr:World):Prop where
 fam:Fam 181 b w2.heap.size n (fun s=>zBH G (C.take k) (s:Int)) D wr
 fr:Sep.Fr (· =b) w2 wr
theorem StR.below{W w w2 wr}{b n k}{a}{G}{C}{D}(h:StR W w w2 b n a G C k D wr)(hb:w.heap.size<=b)(h2:Below w.heap.size w w2):Below w.heap.size w wr:=
 h2.trans (h.fr.below (fun i hi=>by omega) h2.size)
theorem StR.went{W w w2 wr wx}{b n k}{a}{G}{C}{D}(h:StR W w w2 b n a G C k D wr)(hb:Below wr.heap.size wr wx):StR W w w2 b n a G C k D wx:=
 ⟨h.fam.went hb,Rw.zED h.fr hb⟩
structure BoxC (wb wc:World) (rb:Nat) (rr:List Int) (ra:Option Addr) (rc:Nat):Prop where
 below:Below wb.heap.size wb wc
 cell:wc.cell? ⟨rb,1,none⟩=some (.slice ra rr.length rc)
 at_:∀d (hd:d<rr.length),rr[d]≠0->∃b2 o2,ra=some ⟨b2,o2,none⟩/\wc.cell? ⟨b2,o2+d,none⟩=some (.int .i64 rr[d])
theorem zIT{ra}{rr}{w}(h:Sep.Reads ra (Gr.ivs rr) w)(d)(hd):∃b2 o2,ra=some ⟨b2,o2,none⟩/\w.cell? ⟨b2,o2+d,none⟩=some (.int .i64 rr[d]):=by
 obtain⟨b2,o2,e,hc⟩:=h d (by simpa[Gr.ivs]using hd);exact⟨b2,o2,e,by simpa[Gr.ivs,Gr.iv]using hc⟩
theorem zSK{wb v1}{rl}{rr}{ra}{rc}(T)(h:Below wb.heap.size wb v1)(r:Sep.Reads ra (Gr.ivs rr) v1):BoxC wb (v1.alloc (.cells #[.int .i64 rl,.slice ra rr.length rc] T)) v1.heap.size rr ra rc:=
 ⟨Gr.step h (boxed _ _),zAC rfl rfl,fun d hd _=>by
  obtain⟨b2,o2,e,hc⟩:=zIT r d hd
  exact⟨b2,o2,e,zAT hc⟩⟩
theorem zSL{wb v1}{rl}{rr}{ra}{rc}(h:Below wb.heap.size wb v1)(r:Sep.Reads ra (Gr.ivs rr) v1)(z0:v1.cell? ⟨wb.heap.size,0,none⟩=some (.int .i64 0))(z1:v1.cell? ⟨wb.heap.size,1,none⟩=some (.slice none 0 0)):
  BoxC wb ((v1.setCell ⟨wb.heap.size,0,none⟩ (.int .i64 rl)).setCell ⟨wb.heap.size,1,none⟩ (.slice ra rr.length rc)) wb.heap.size rr ra rc:=
 ⟨(h.setCell (Nat.le_refl _) _).setCell (Nat.le_refl _) _,World.cell?_setCell_same _ _ _ (by rw[World.cell?_setCell_other _ _ _ _ (fun q=>by have:=congrArg Addr.off q;simp at this)];exact z1),fun d hd hne=>by
  obtain⟨b2,o2,e,hc⟩:=zIT r d hd;refine⟨b2,o2,e,?_⟩
  rw[World.cell?_setCell_other _ _ _ _ (fun q=>by
   rw[←q]at hc;rw[hc]at z1
   cases z1),World.cell?_setCell_other _ _ _ _ (fun q=>by
   rw[←q,z0]at hc;injection hc with hc
   injection hc with _ hc
   exact hne hc.symm)]
  exact hc⟩
end Au
namespace Pk
open Gr (cell_later boxed drawn zDv zEK zB2 zBj)
open Im (ItsA)
theorem zEL(L):zB2 L L=true:=by simp[zB2]
theorem zGe(r):zBj r r=true:=Gr.zFm.2 rfl
theorem zJV(L:List (Int×Int))(a b)(c d)(w)(ha:ItsA a L w)(hb:ItsA b L w)(hl:L.length<=35184372088832):
  Calls Tryz.prog 41 #[.slice a L.length c,.slice b L.length d] w (Gr.Is (.bool true) w):=by
 have HA:=zV7 ha;have HB:=zV7 hb;clear ha hb;go_enter Tryz.func41,Tryz.ntmps41;go_wp2;go_loopw [5] (fun i wr=>∃k:Nat,k<=L.length/\i=.int .i64 k/\Below w.heap.size w wr) (fun i _=>L.length-(intOf i).toNat)
 case atStart=>exact⟨0,Nat.zero_le _,rfl,.refl _ _⟩
 case round=>
  obtain⟨k,hk,rfl,hW⟩:=hrel;have HW:=zV7 hW
  by_cases hlt:k<L.length
  ·obtain⟨b1,o1,rfl,h1,h2⟩:=(HA.out.went hW).at k hlt;obtain⟨b2,o2,rfl,h3,h4⟩:=(HB.out.went hW).at k hlt;have hil:(k:Int)<(L.length:Int):=by omega
   clear hW;generalize L[k]=x at*;obtain⟨x1,x2⟩:=x;dsimp only at h1 h2 h3 h4;go_wp2;go_quiet (fail);go_wp2;go_roundw
   case rel=>exact⟨k+1,by omega,by go_num,HW.out.trans ⟨rfl,rfl,rfl,Nat.le_refl _,fun _ _=>rfl⟩⟩
   case measure=>simp[intOf];omega
  ·clear hW;go_wp2;go_ret;exact⟨rfl,HW.out⟩
theorem zEb(T:Tb)(pRa:Option Addr)(cRa:Nat)(pAa:Option Addr)(cAa:Nat)(pGa:Option Addr)(cGa:Nat)(pRb:Option Addr)(cRb:Nat)(pAb:Option Addr)(cAb:Nat)(pGb:Option Addr)(cGb:Nat)(w:World)(DA:TAt T pRa cRa pAa cAa pGa cGa w)(DB:TAt T pRb cRb pAb cAb pGb cGb w)(S:TSm T):
  Calls Tryz.prog 13 #[.agg (tvs T pRa cRa pAa cAa pGa cGa),.agg (tvs T pRb cRb pAb cAb pGb cGb)] w (Gr.Is (.bool true) w):=by
 have b1:=boxed w (.cells (tvs T pRa cRa pAa cAa pGa cGa) 26);have b2:=boxed (w.alloc (.cells (tvs T pRa cRa pAa cAa pGa cGa) 26)) (.cells (tvs T pRb cRb pAb cAb pGb cGb) 26);have B2:=zV7 (Gr.step b1 b2);have ZA:=zV7 ((zAp (T:=T) (aR:=pRa) (cR:=cRa) (aA:=pAa) (cA:=cAa) (aG:=pGa) (cG:=cGa) w 26).went b2);have ZB:=zV7 (zAp (T:=T) (aR:=pRb) (cR:=cRb) (aA:=pAb) (cA:=cAb) (aG:=pGb) (cG:=cGb) (w.alloc (.cells (tvs T pRa cRa pAa cAa pGa cGa) 26)) 26);have LA:=zV7 (fun w1 (b:Below w.heap.size w w1)=>DA.went b);have LB:=zV7 (fun w1 (b:Below w.heap.size w w1)=>DB.went b);have LR:=zV7 (fun k (h:k<T.rules.length)=>S.rr _ (List.getElem_mem h));have LC:=zV7 (fun k (h:k<T.acts.length)=>S.ar _ (List.getElem_mem h));have LG:=zV7 (fun k (h:k<T.goto.length)=>S.gr _ (List.getElem_mem h));have s1:=S.rl;have s2:=S.al;have s3:=S.gl;clear b1 b2 DA DB S;obtain⟨z0,z1,z2,z3,z4⟩:=ZA.out;obtain⟨y0,y1,y2,y3,y4⟩:=ZB.out;rw[World.size_alloc]at ZB y0 y1 y2 y3 y4;unfold tvs at*;go_enter Tryz.func13,Tryz.ntmps13;go_wp2_with fail;generalize (w.alloc (.cells #[.slice pRa T.rules.length cRa,.int .i64 T.terms,.int .i64 T.nons,.slice pAa T.acts.length cAa,.slice pGa T.goto.length cGa] 26)).alloc (.cells #[.slice pRb T.rules.length cRb,.int .i64 T.terms,.int .i64 T.nons,.slice pAb T.acts.length cAb,.slice pGb T.goto.length cGb] 26)=w2 at*;clear z0 z1 z2 z3 z4 y0 y1 y2 y3 y4;go_loopw [5] (fun v wr=>∃k:Nat,k<=T.rules.length/\v=.int .i64 k/\Below w2.heap.size w2 wr) (fun v _=>T.rules.length-(intOf v).toNat)
 case atStart=>exact⟨0,Nat.zero_le _,rfl,.refl _ _⟩
 case round=>
  obtain⟨k,hk,rfl,hW⟩:=hrel;have HW:=zV7 hW;have C0:=zV7 (hW);have BW:=zV7 (Gr.step B2.out C0.out);obtain⟨z0,z1,z2,z3,z4⟩:=ZA.out.went C0.out;obtain⟨y0,y1,y2,y3,y4⟩:=ZB.out.went C0.out;clear hW
  by_cases hlt:k<T.rules.length
  ·have hil:(k:Int)<(T.rules.length:Int):=by omega
   obtain⟨ba,oa,ra,rc,ea,p0,p1,p2,p3⟩:=(LA.out wr BW.out).rules k hlt;obtain⟨bb,ob,rb,rd,eb,q0,q1,q2,q3⟩:=(LB.out wr BW.out).rules k hlt;have hrow:=LR.out k hlt;subst ea eb;have HA2:=zV7 p2;have HB2:=zV7 q2;clear p2 q2 p3 q3;generalize T.rules[k]=x at*;obtain⟨x1,xs⟩:=x;dsimp only at p0 p1 q0 q1 HA2 HB2 hrow;have SK:=zV7 (fun w1 (b:Below wr.heap.size wr w1)=>(by have h:=zEK (x1,xs) (x1,xs) ra rb rc rd w1 (Sep.Reads.below HA2.out b (Nat.le_refl _)) (Sep.Reads.below HB2.out b (Nat.le_refl _)) (by dsimp only;omega) (by dsimp only;omega);rw[zGe]at h;exact h));have HQ:=zV7 (show∀w',Below wr.heap.size wr w'->w'.cell? ⟨w.heap.size,0,none⟩=some (.slice (some ⟨ba,oa,none⟩) T.rules.length cRa)/\w'.cell? ⟨w.heap.size+1,0,none⟩=some (.slice (some ⟨bb,ob,none⟩) T.rules.length cRb)/\w'.cell? ⟨ba,oa+k*2,none⟩=some (.int .i64 x1)/\w'.cell? ⟨ba,oa+k*2+1,none⟩=some (.slice ra xs.length rc)/\w'.cell? ⟨bb,ob+k*2,none⟩=some (.int .i64 x1)/\w'.cell? ⟨bb,ob+k*2+1,none⟩=some (.slice rb xs.length rd)/\Below wr.heap.size wr w' from fun w' hb=>⟨cell_later hb z0,cell_later hb y0,cell_later hb p0,cell_later hb p1,cell_later hb q0,cell_later hb q1,hb⟩);have hbd:=drawn wr;go_wp2_with fail
   go_region_held3 (fun w'=>w'.cell? ⟨w.heap.size,0,none⟩=some (.slice (some ⟨ba,oa,none⟩) T.rules.length cRa)/\w'.cell? ⟨w.heap.size+1,0,none⟩=some (.slice (some ⟨bb,ob,none⟩) T.rules.length cRb)/\w'.cell? ⟨ba,oa+k*2,none⟩=some (.int .i64 x1)/\w'.cell? ⟨ba,oa+k*2+1,none⟩=some (.slice ra xs.length rc)/\w'.cell? ⟨bb,ob+k*2,none⟩=some (.int .i64 x1)/\w'.cell? ⟨bb,ob+k*2+1,none⟩=some (.slice rb xs.length rd)/\Below wr.heap.size wr w')
    (exact HQ.out _ (by with_reducible assumption))
    (first
     |(go_at_call 36;(with_reducible refine(SK.out _ (by with_reducible assumption)).mono ?_);rintro e wn ⟨rfl,hb⟩;have kB:Below wr.heap.size wr wn:=Gr.step (by with_reducible assumption) hb;clear hb)
     |fail)
   go_wp2_with fail;go_roundw
   case rel=>exact⟨k+1,by omega,by go_num,Gr.step HW.out (by with_reducible assumption)⟩
   case measure=>first|(simp[intOf];omega)|omega
  ·obtain rfl:k=T.rules.length:=by omega
   go_wp2_with fail;generalize wr=w3 at*;clear z0 z1 z2 z3 z4 y0 y1 y2 y3 y4 HW BW;go_loopw [6] (fun v wr=>∃k:Nat,k<=T.acts.length/\v=.int .i64 k/\Below w3.heap.size w3 wr) (fun v _=>T.acts.length-(intOf v).toNat)
   case atStart=>exact⟨0,Nat.zero_le _,rfl,.refl _ _⟩
   case round=>
    obtain⟨k,hk,rfl,hW⟩:=hrel;have HW:=zV7 hW;have C1:=zV7 (Gr.step C0.out hW);have BW:=zV7 (Gr.step B2.out C1.out);obtain⟨z0,z1,z2,z3,z4⟩:=ZA.out.went C1.out;obtain⟨y0,y1,y2,y3,y4⟩:=ZB.out.went C1.out;clear hW
    by_cases hlt:k<T.acts.length
    ·have hil:(k:Int)<(T.acts.length:Int):=by omega
     obtain⟨ba,oa,ra,rc,ea,p1,p2,_,p3⟩:=(LA.out wr BW.out).acts k hlt;obtain⟨bb,ob,rb,rd,eb,q1,q2,_,q3⟩:=(LB.out wr BW.out).acts k hlt;have hrow:=LC.out k hlt;subst ea eb;have HA2:=zV7 p2;have HB2:=zV7 q2;clear p2 q2 p3 q3;generalize T.acts[k]=xs at*;have SK:=zV7 (fun w1 (b:Below wr.heap.size wr w1)=>zJV xs ra rb rc rd w1 (HA2.out.went b) (HB2.out.went b) (by omega));have HQ:=zV7 (show∀w',Below wr.heap.size wr w'->w'.cell? ⟨w.heap.size,3,none⟩=some (.slice (some ⟨ba,oa,none⟩) T.acts.length cAa)/\w'.cell? ⟨w.heap.size+1,3,none⟩=some (.slice (some ⟨bb,ob,none⟩) T.acts.length cAb)/\w'.cell? ⟨ba,oa+k,none⟩=some (.slice ra xs.length rc)/\w'.cell? ⟨bb,ob+k,none⟩=some (.slice rb xs.length rd)/\Below wr.heap.size wr w' from fun w' hb=>⟨cell_later hb z3,cell_later hb y3,cell_later hb p1,cell_later hb q1,hb⟩);have hbd:=drawn wr;go_wp2_with fail
     go_region_held3 (fun w'=>w'.cell? ⟨w.heap.size,3,none⟩=some (.slice (some ⟨ba,oa,none⟩) T.acts.length cAa)/\w'.cell? ⟨w.heap.size+1,3,none⟩=some (.slice (some ⟨bb,ob,none⟩) T.acts.length cAb)/\w'.cell? ⟨ba,oa+k,none⟩=some (.slice ra xs.length rc)/\w'.cell? ⟨bb,ob+k,none⟩=some (.slice rb xs.length rd)/\Below wr.heap.size wr w')
      (exact HQ.out _ (by with_reducible assumption))
      (first
       |(go_at_call 41;(with_reducible refine(SK.out _ (by with_reducible assumption)).mono ?_);rintro e wn ⟨rfl,hb⟩;have kB:Below wr.heap.size wr wn:=Gr.step (by with_reducible assumption) hb;clear hb)
       |fail)
     go_wp2_with fail;go_roundw
     case rel=>exact⟨k+1,by omega,by go_num,Gr.step HW.out (by with_reducible assumption)⟩
     case measure=>first|(simp[intOf];omega)|omega
    ·obtain rfl:k=T.acts.length:=by omega
     go_wp2_with fail;generalize wr=w4 at*;clear z0 z1 z2 z3 z4 y0 y1 y2 y3 y4 HW BW;go_loopw [7] (fun v wr=>∃k:Nat,k<=T.goto.length/\v=.int .i64 k/\Below w4.heap.size w4 wr) (fun v _=>T.goto.length-(intOf v).toNat)
     case atStart=>exact⟨0,Nat.zero_le _,rfl,.refl _ _⟩
     case round=>
      obtain⟨k,hk,rfl,hW⟩:=hrel;have HW:=zV7 hW;have C2:=zV7 (Gr.step C1.out hW);have BW:=zV7 (Gr.step B2.out C2.out);obtain⟨z0,z1,z2,z3,z4⟩:=ZA.out.went C2.out;obtain⟨y0,y1,y2,y3,y4⟩:=ZB.out.went C2.out;clear hW
      by_cases hlt:k<T.goto.length
      ·have hil:(k:Int)<(T.goto.length:Int):=by omega
       obtain⟨ba,oa,ra,rc,ea,p1,p2,_,p3⟩:=(LA.out wr BW.out).goto k hlt;obtain⟨bb,ob,rb,rd,eb,q1,q2,_,q3⟩:=(LB.out wr BW.out).goto k hlt;have hrow:=LG.out k hlt;subst ea eb;have HA2:=zV7 p2;have HB2:=zV7 q2;clear p2 q2 p3 q3;generalize T.goto[k]=xs at*;have SK:=zV7 (fun w1 (b:Below wr.heap.size wr w1)=>(by have h:=zDv xs xs ra rb rc rd w1 (Sep.Reads.below HA2.out b (Nat.le_refl _)) (Sep.Reads.below HB2.out b (Nat.le_refl _)) (by omega) (by omega);rw[zEL]at h;exact h));have HQ:=zV7 (show∀w',Below wr.heap.size wr w'->w'.cell? ⟨w.heap.size,4,none⟩=some (.slice (some ⟨ba,oa,none⟩) T.goto.length cGa)/\w'.cell? ⟨w.heap.size+1,4,none⟩=some (.slice (some ⟨bb,ob,none⟩) T.goto.length cGb)/\w'.cell? ⟨ba,oa+k,none⟩=some (.slice ra xs.length rc)/\w'.cell? ⟨bb,ob+k,none⟩=some (.slice rb xs.length rd)/\Below wr.heap.size wr w' from fun w' hb=>⟨cell_later hb z4,cell_later hb y4,cell_later hb p1,cell_later hb q1,hb⟩);have hbd:=drawn wr;go_wp2_with fail
       go_region_held3 (fun w'=>w'.cell? ⟨w.heap.size,4,none⟩=some (.slice (some ⟨ba,oa,none⟩) T.goto.length cGa)/\w'.cell? ⟨w.heap.size+1,4,none⟩=some (.slice (some ⟨bb,ob,none⟩) T.goto.length cGb)/\w'.cell? ⟨ba,oa+k,none⟩=some (.slice ra xs.length rc)/\w'.cell? ⟨bb,ob+k,none⟩=some (.slice rb xs.length rd)/\Below wr.heap.size wr w')
        (exact HQ.out _ (by with_reducible assumption))
        (first
         |(go_at_call 35;(with_reducible refine(SK.out _ (by with_reducible assumption)).mono ?_);rintro e wn ⟨rfl,hb⟩;have kB:Below wr.heap.size wr wn:=Gr.step (by with_reducible assumption) hb;clear hb)
         |fail)
       go_wp2_with fail;go_roundw
       case rel=>exact⟨k+1,by omega,by go_num,Gr.step HW.out (by with_reducible assumption)⟩
       case measure=>first|(simp[intOf];omega)|omega
      ·obtain rfl:k=T.goto.length:=by omega
       go_wp2_with fail;go_ret;exact⟨rfl,BW.out⟩
theorem zEc(T:Pd)(pRa:Option Addr)(cRa:Nat)(pWa:Option Addr)(cWa:Nat)(pXa:Option Addr)(cXa:Nat)(pGa:Option Addr)(cGa:Nat)(pHa:Option Addr)(cHa:Nat)(pRb:Option Addr)(cRb:Nat)(pWb:Option Addr)(cWb:Nat)(pXb:Option Addr)(cXb:Nat)(pGb:Option Addr)(cGb:Nat)(pHb:Option Addr)(cHb:Nat)(w:World)(DA:PAt T pRa cRa pWa cWa pXa cXa pGa cGa pHa cHa w)(DB:PAt T pRb cRb pWb cWb pXb cXb pGb cGb pHb cHb w)(S:PSm T):
  Calls Tryz.prog 11 #[.agg (pvs T pRa cRa pWa cWa pXa cXa pGa cGa pHa cHa),.agg (pvs T pRb cRb pWb cWb pXb cXb pGb cGb pHb cHb)] w (Gr.Is (.bool true) w):=by
 have b1:=boxed w (.cells (pvs T pRa cRa pWa cWa pXa cXa pGa cGa pHa cHa) 32);have b2:=boxed (w.alloc (.cells (pvs T pRa cRa pWa cWa pXa cXa pGa cGa pHa cHa) 32)) (.cells (pvs T pRb cRb pWb cWb pXb cXb pGb cGb pHb cHb) 32);have B2:=zV7 (Gr.step b1 b2);have ZA:=zV7 ((zAr (P:=T) (aR:=pRa) (cR:=cRa) (aW:=pWa) (cW:=cWa) (aX:=pXa) (cX:=cXa) (aG:=pGa) (cG:=cGa) (aH:=pHa) (cH:=cHa) w 32).went b2);have ZB:=zV7 (zAr (P:=T) (aR:=pRb) (cR:=cRb) (aW:=pWb) (cW:=cWb) (aX:=pXb) (cX:=cXb) (aG:=pGb) (cG:=cGb) (aH:=pHb) (cH:=cHb) (w.alloc (.cells (pvs T pRa cRa pWa cWa pXa cXa pGa cGa pHa cHa) 32)) 32);have LA:=zV7 (fun w1 (b:Below w.heap.size w w1)=>DA.went b);have LB:=zV7 (fun w1 (b:Below w.heap.size w w1)=>DB.went b);have LR:=zV7 (fun k (h:k<T.rules.length)=>S.rr _ (List.getElem_mem h));have LC:=zV7 (fun k (h:k<T.rows.length)=>S.wr _ (List.getElem_mem h));have LG:=zV7 (fun k (h:k<T.gows.length)=>S.gr _ (List.getElem_mem h));have s1:=S.rl;have s2:=S.wl;have s3:=S.gl;have s4:=S.wsl;have s5:=S.gsl;clear b1 b2 DA DB S;obtain⟨z0,z1,z2,z3,z4,z5,z6⟩:=ZA.out;obtain⟨y0,y1,y2,y3,y4,y5,y6⟩:=ZB.out;rw[World.size_alloc]at ZB y0 y1 y2 y3 y4 y5 y6;unfold pvs at*;go_enter Tryz.func11,Tryz.ntmps11;go_wp2_with fail;generalize (w.alloc (.cells #[.slice pRa T.rules.length cRa,.int .i64 T.terms,.int .i64 T.nons,.slice pWa T.row.length cWa,.slice pXa T.rows.length cXa,.slice pGa T.gow.length cGa,.slice pHa T.gows.length cHa] 32)).alloc (.cells #[.slice pRb T.rules.length cRb,.int .i64 T.terms,.int .i64 T.nons,.slice pWb T.row.length cWb,.slice pXb T.rows.length cXb,.slice pGb T.gow.length cGb,.slice pHb T.gows.length cHb] 32)=wa at*;have RI0:=zV7 (fun w1 (b:Below w.heap.size w w1)=>(by have h:=zDv T.row T.row pWa pWb cWa cWb w1 (LA.out w1 b).row (LB.out w1 b).row (by omega) (by omega);rw[zEL]at h;exact h));have RI1:=zV7 (fun w1 (b:Below w.heap.size w w1)=>(by have h:=zDv T.gow T.gow pGa pGb cGa cGb w1 (LA.out w1 b).gow (LB.out w1 b).gow (by omega) (by omega);rw[zEL]at h;exact h));refine(RI0.out _ B2.out).mono ?_;rintro e wb ⟨rfl,hb⟩;have ZA:=zV7 (ZA.out.went hb);have ZB:=zV7 (ZB.out.went hb);have B2:=zV7 (Gr.step B2.out hb);clear hb RI0 z0 z1 z2 z3 z4 z5 z6 y0 y1 y2 y3 y4 y5 y6;obtain⟨z0,z1,z2,z3,z4,z5,z6⟩:=ZA.out;obtain⟨y0,y1,y2,y3,y4,y5,y6⟩:=ZB.out;go_wp2_with fail;refine(RI1.out _ B2.out).mono ?_;rintro e w2 ⟨rfl,hb⟩;have ZA:=zV7 (ZA.out.went hb);have ZB:=zV7 (ZB.out.went hb);have B2:=zV7 (Gr.step B2.out hb);clear hb RI1 z0 z1 z2 z3 z4 z5 z6 y0 y1 y2 y3 y4 y5 y6;obtain⟨z0,z1,z2,z3,z4,z5,z6⟩:=ZA.out;obtain⟨y0,y1,y2,y3,y4,y5,y6⟩:=ZB.out;go_wp2_with fail;clear z0 z1 z2 z3 z4 z5 z6 y0 y1 y2 y3 y4 y5 y6;go_loopw [5] (fun v wr=>∃k:Nat,k<=T.rules.length/\v=.int .i64 k/\Below w2.heap.size w2 wr) (fun v _=>T.rules.length-(intOf v).toNat)
 case atStart=>exact⟨0,Nat.zero_le _,rfl,.refl _ _⟩
 case round=>
  obtain⟨k,hk,rfl,hW⟩:=hrel;have HW:=zV7 hW;have C0:=zV7 (hW);have BW:=zV7 (Gr.step B2.out C0.out);obtain⟨z0,z1,z2,z3,z4,z5,z6⟩:=ZA.out.went C0.out;obtain⟨y0,y1,y2,y3,y4,y5,y6⟩:=ZB.out.went C0.out;clear hW
  by_cases hlt:k<T.rules.length
  ·have hil:(k:Int)<(T.rules.length:Int):=by omega
   obtain⟨ba,oa,ra,rc,ea,p0,p1,p2,p3⟩:=(LA.out wr BW.out).rules k hlt;obtain⟨bb,ob,rb,rd,eb,q0,q1,q2,q3⟩:=(LB.out wr BW.out).rules k hlt;have hrow:=LR.out k hlt;subst ea eb;have HA2:=zV7 p2;have HB2:=zV7 q2;clear p2 q2 p3 q3;generalize T.rules[k]=x at*;obtain⟨x1,xs⟩:=x;dsimp only at p0 p1 q0 q1 HA2 HB2 hrow;have SK:=zV7 (fun w1 (b:Below wr.heap.size wr w1)=>(by have h:=zEK (x1,xs) (x1,xs) ra rb rc rd w1 (Sep.Reads.below HA2.out b (Nat.le_refl _)) (Sep.Reads.below HB2.out b (Nat.le_refl _)) (by dsimp only;omega) (by dsimp only;omega);rw[zGe]at h;exact h));have HQ:=zV7 (show∀w',Below wr.heap.size wr w'->w'.cell? ⟨w.heap.size,0,none⟩=some (.slice (some ⟨ba,oa,none⟩) T.rules.length cRa)/\w'.cell? ⟨w.heap.size+1,0,none⟩=some (.slice (some ⟨bb,ob,none⟩) T.rules.length cRb)/\w'.cell? ⟨ba,oa+k*2,none⟩=some (.int .i64 x1)/\w'.cell? ⟨ba,oa+k*2+1,none⟩=some (.slice ra xs.length rc)/\w'.cell? ⟨bb,ob+k*2,none⟩=some (.int .i64 x1)/\w'.cell? ⟨bb,ob+k*2+1,none⟩=some (.slice rb xs.length rd)/\Below wr.heap.size wr w' from fun w' hb=>⟨cell_later hb z0,cell_later hb y0,cell_later hb p0,cell_later hb p1,cell_later hb q0,cell_later hb q1,hb⟩);have hbd:=drawn wr;go_wp2_with fail
   go_region_held3 (fun w'=>w'.cell? ⟨w.heap.size,0,none⟩=some (.slice (some ⟨ba,oa,none⟩) T.rules.length cRa)/\w'.cell? ⟨w.heap.size+1,0,none⟩=some (.slice (some ⟨bb,ob,none⟩) T.rules.length cRb)/\w'.cell? ⟨ba,oa+k*2,none⟩=some (.int .i64 x1)/\w'.cell? ⟨ba,oa+k*2+1,none⟩=some (.slice ra xs.length rc)/\w'.cell? ⟨bb,ob+k*2,none⟩=some (.int .i64 x1)/\w'.cell? ⟨bb,ob+k*2+1,none⟩=some (.slice rb xs.length rd)/\Below wr.heap.size wr w')
    (exact HQ.out _ (by with_reducible assumption))
    (first
     |(go_at_call 36;(with_reducible refine(SK.out _ (by with_reducible assumption)).mono ?_);rintro e wn ⟨rfl,hb⟩;have kB:Below wr.heap.size wr wn:=Gr.step (by with_reducible assumption) hb;clear hb)
     |fail)
   go_wp2_with fail;go_roundw
   case rel=>exact⟨k+1,by omega,by go_num,Gr.step HW.out (by with_reducible assumption)⟩
   case measure=>first|(simp[intOf];omega)|omega
  ·obtain rfl:k=T.rules.length:=by omega
   go_wp2_with fail;generalize wr=w3 at*;clear z0 z1 z2 z3 z4 z5 z6 y0 y1 y2 y3 y4 y5 y6 HW BW;go_loopw [6] (fun v wr=>∃k:Nat,k<=T.rows.length/\v=.int .i64 k/\Below w3.heap.size w3 wr) (fun v _=>T.rows.length-(intOf v).toNat)
   case atStart=>exact⟨0,Nat.zero_le _,rfl,.refl _ _⟩
   case round=>
    obtain⟨k,hk,rfl,hW⟩:=hrel;have HW:=zV7 hW;have C1:=zV7 (Gr.step C0.out hW);have BW:=zV7 (Gr.step B2.out C1.out);obtain⟨z0,z1,z2,z3,z4,z5,z6⟩:=ZA.out.went C1.out;obtain⟨y0,y1,y2,y3,y4,y5,y6⟩:=ZB.out.went C1.out;clear hW
    by_cases hlt:k<T.rows.length
    ·have hil:(k:Int)<(T.rows.length:Int):=by omega
     obtain⟨ba,oa,ra,rc,ea,p1,p2,_,p3⟩:=(LA.out wr BW.out).rows k hlt;obtain⟨bb,ob,rb,rd,eb,q1,q2,_,q3⟩:=(LB.out wr BW.out).rows k hlt;have hrow:=LC.out k hlt;subst ea eb;have HA2:=zV7 p2;have HB2:=zV7 q2;clear p2 q2 p3 q3;generalize T.rows[k]=xs at*;have SK:=zV7 (fun w1 (b:Below wr.heap.size wr w1)=>(by have h:=zEJ xs xs ra rb rc rd w1 (HA2.out.went b) (HB2.out.went b) (by omega) (by omega);rw[show zFl xs xs=true from decide_eq_true rfl]at h;exact h));have HQ:=zV7 (show∀w',Below wr.heap.size wr w'->w'.cell? ⟨w.heap.size,4,none⟩=some (.slice (some ⟨ba,oa,none⟩) T.rows.length cXa)/\w'.cell? ⟨w.heap.size+1,4,none⟩=some (.slice (some ⟨bb,ob,none⟩) T.rows.length cXb)/\w'.cell? ⟨ba,oa+k,none⟩=some (.slice ra xs.length rc)/\w'.cell? ⟨bb,ob+k,none⟩=some (.slice rb xs.length rd)/\Below wr.heap.size wr w' from fun w' hb=>⟨cell_later hb z4,cell_later hb y4,cell_later hb p1,cell_later hb q1,hb⟩);have hbd:=drawn wr;go_wp2_with fail
     go_region_held3 (fun w'=>w'.cell? ⟨w.heap.size,4,none⟩=some (.slice (some ⟨ba,oa,none⟩) T.rows.length cXa)/\w'.cell? ⟨w.heap.size+1,4,none⟩=some (.slice (some ⟨bb,ob,none⟩) T.rows.length cXb)/\w'.cell? ⟨ba,oa+k,none⟩=some (.slice ra xs.length rc)/\w'.cell? ⟨bb,ob+k,none⟩=some (.slice rb xs.length rd)/\Below wr.heap.size wr w')
      (exact HQ.out _ (by with_reducible assumption))
      (first
       |(go_at_call 37;(with_reducible refine(SK.out _ (by with_reducible assumption)).mono ?_);rintro e wn ⟨rfl,hb⟩;have kB:Below wr.heap.size wr wn:=Gr.step (by with_reducible assumption) hb;clear hb)
       |fail)
     go_wp2_with fail;go_roundw
     case rel=>exact⟨k+1,by omega,by go_num,Gr.step HW.out (by with_reducible assumption)⟩
     case measure=>first|(simp[intOf];omega)|omega
    ·obtain rfl:k=T.rows.length:=by omega
     go_wp2_with fail;generalize wr=w4 at*;clear z0 z1 z2 z3 z4 z5 z6 y0 y1 y2 y3 y4 y5 y6 HW BW;go_loopw [7] (fun v wr=>∃k:Nat,k<=T.gows.length/\v=.int .i64 k/\Below w4.heap.size w4 wr) (fun v _=>T.gows.length-(intOf v).toNat)
     case atStart=>exact⟨0,Nat.zero_le _,rfl,.refl _ _⟩
     case round=>
      obtain⟨k,hk,rfl,hW⟩:=hrel;have HW:=zV7 hW;have C2:=zV7 (Gr.step C1.out hW);have BW:=zV7 (Gr.step B2.out C2.out);obtain⟨z0,z1,z2,z3,z4,z5,z6⟩:=ZA.out.went C2.out;obtain⟨y0,y1,y2,y3,y4,y5,y6⟩:=ZB.out.went C2.out;clear hW
      by_cases hlt:k<T.gows.length
      ·have hil:(k:Int)<(T.gows.length:Int):=by omega
       obtain⟨ba,oa,ra,rc,ea,p1,p2,_,p3⟩:=(LA.out wr BW.out).gows k hlt;obtain⟨bb,ob,rb,rd,eb,q1,q2,_,q3⟩:=(LB.out wr BW.out).gows k hlt;have hrow:=LG.out k hlt;subst ea eb;have HA2:=zV7 p2;have HB2:=zV7 q2;clear p2 q2 p3 q3;generalize T.gows[k]=xs at*;have SK:=zV7 (fun w1 (b:Below wr.heap.size wr w1)=>(by have h:=zEJ xs xs ra rb rc rd w1 (HA2.out.went b) (HB2.out.went b) (by omega) (by omega);rw[show zFl xs xs=true from decide_eq_true rfl]at h;exact h));have HQ:=zV7 (show∀w',Below wr.heap.size wr w'->w'.cell? ⟨w.heap.size,6,none⟩=some (.slice (some ⟨ba,oa,none⟩) T.gows.length cHa)/\w'.cell? ⟨w.heap.size+1,6,none⟩=some (.slice (some ⟨bb,ob,none⟩) T.gows.length cHb)/\w'.cell? ⟨ba,oa+k,none⟩=some (.slice ra xs.length rc)/\w'.cell? ⟨bb,ob+k,none⟩=some (.slice rb xs.length rd)/\Below wr.heap.size wr w' from fun w' hb=>⟨cell_later hb z6,cell_later hb y6,cell_later hb p1,cell_later hb q1,hb⟩);have hbd:=drawn wr;go_wp2_with fail
       go_region_held3 (fun w'=>w'.cell? ⟨w.heap.size,6,none⟩=some (.slice (some ⟨ba,oa,none⟩) T.gows.length cHa)/\w'.cell? ⟨w.heap.size+1,6,none⟩=some (.slice (some ⟨bb,ob,none⟩) T.gows.length cHb)/\w'.cell? ⟨ba,oa+k,none⟩=some (.slice ra xs.length rc)/\w'.cell? ⟨bb,ob+k,none⟩=some (.slice rb xs.length rd)/\Below wr.heap.size wr w')
        (exact HQ.out _ (by with_reducible assumption))
        (first
         |(go_at_call 37;(with_reducible refine(SK.out _ (by with_reducible assumption)).mono ?_);rintro e wn ⟨rfl,hb⟩;have kB:Below wr.heap.size wr wn:=Gr.step (by with_reducible assumption) hb;clear hb)
         |fail)
       go_wp2_with fail;go_roundw
       case rel=>exact⟨k+1,by omega,by go_num,Gr.step HW.out (by with_reducible assumption)⟩
       case measure=>first|(simp[intOf];omega)|omega
      ·obtain rfl:k=T.gows.length:=by omega
       go_wp2_with fail;go_ret;exact⟨rfl,BW.out⟩
