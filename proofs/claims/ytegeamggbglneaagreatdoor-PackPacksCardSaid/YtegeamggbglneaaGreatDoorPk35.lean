/- A part of the proof. -/
import Derived.Test.YtegeamggbglneaaGreatDoorPk34
set_option maxHeartbeats 8000000
set_option maxRecDepth 100000
set_option linter.unusedVariables false
namespace Go.Proofs.YtegeamggbglneaaGreatDoor
open Go.RowKit Go.Maps
namespace Pk
open Gr (cell_later boxed zA0)
open Go.Proofs.YtegeamggbglneaaGreatDoor.Sep (Fr)
theorem zPj{x}{w w'}(h:Fr (fun k=>k=x) w w'):w.grownBy w' (some x):=⟨h.os,h.tape,h.output,h.size,fun k hk hne=>h.block k hk fun e=>hne (by rw[e])⟩
def zE0(wr:World)(r:List Int)(k:Nat)(v:Value)(wz:World):Prop:=wz.ownsRow wr.heap.size 48 1 v k ((r.take k).map (.int .u16))/\Below wr.heap.size wr wz
theorem zE0.nil(wr)(r):zE0 wr r 0 (.slice none 0 0) wr:=⟨by rw[List.take_zero];exact World.ownsRow_nil _ _ _ _,.refl _ _⟩
theorem zE0.went{wr wz w'}{r}{k}{v}(h:zE0 wr r k v wz)(hb:Below wz.heap.size wz w'):zE0 wr r k v w':=⟨zHG h.1 hb,Gr.step h.2 hb⟩
theorem zE0.step{wr wz w'}{r}{k}{v v'}{c}(h:zE0 wr r k v wz)(hk)(hc:r[k]=c)(hown:w'.ownsRow wr.heap.size 48 1 v' (k+1) ((r.take k).map (.int .u16)++[.int .u16 c]))(hg:wz.grownBy w' v.ownBlock):zE0 wr r (k+1) v' w':=by
 refine⟨?_,Below.grown h.2 hg h.2.size fun g hg=>(World.ownsRow.lt h.1 g hg).1⟩;rw[List.take_succ_eq_append_getElem hk,List.map_append,hc];exact hown
theorem zE0.done{wr wz}{r}{v}{n}(h:zE0 wr r n v wz)(hn:n=r.length):∃a c,v=.slice a r.length c/\CodT a r wz/\r.length<=c/\Below wr.heap.size wr wz:=by
 subst hn;have h1:=h.1;rw[List.take_length]at h1;obtain⟨a,c,rfl⟩:=Rw.zAG h1;exact⟨a,c,rfl,zPW h1,zJu h1,h.2⟩
theorem zQ8{T}(h:Pt T)(S:TSm T)(hf:TFit T){w4 wr w'}{p}{aR aW aX aG aH}{cR nW cW cX nG cG cH}(hR:RulA aR T.rules w')(hrc:T.rules.length<=cR)(hrl:T.rules.length<=4398046511104)
  (I:RPk T aR cR w4 p (idxs (zAJ T)) (zAP (zAJ T)) (idxs (zAL T)) (zAP (zAL T)) (.slice aW nW cW) (.slice aG nG cG) aX cX aH cH wr) {q} (hq:Ty q 32 wr) (hq4:q<w4.heap.size) (hw:Fr (fun x=>x=q) wr w'):
  nW=(zAq T).row.length/\nG=(zAq T).gow.length/\PAt (zAq T) aR cR aW cW aX cX aG cG aH cH w':=by
 have hA:=zCD T;have hG:=zCE T;have hga:=h.ga
 have cap:∀{n m c:Nat} {a:Option Addr} {xs:List Value} {U:TypeId} {lo:Nat},wr.ownsRow lo U 1 (.slice a n c) m xs->n=m/\n<=c:=fun hr=>by
  rcases hr.2 with⟨h1,h2⟩|⟨_,_,_,h1,_,_,h2,_⟩
  ·simp only[Value.slice.injEq]at h1;omega
  ·simp only[Value.slice.injEq]at h1;omega
 have c0:=cap I.row;have c1:=cap I.gow
 have below5:∀{U:TypeId} {n m c:Nat} {a:Option Addr} {xs:List Value},wr.ownsRow w4.heap.size U 1 (.slice a n c) m xs->Sep.Reads a xs w':=fun {U n m c a xs} hr=>(Sep.Reads.of_row (by rw[←(cap hr).1]at hr;exact hr)).keep fun b' o e=>by
  subst e;have:=hr.lt b' rfl;exact hw.block b' this.2 (by omega)
 have hg:=zPj hw
 have hs0:∀r∈zAP (zAJ T),CdR r:=fun r hr=>by
  rw[zBf]at hr;obtain⟨i,hi,rfl⟩:=List.mem_iff_getElem.1 hr;have hi':i<T.acts.length:=by rw[←hA];exact hi
  have:=zSR h S hi'
  simpa[zAJ]using this
 have hs1:∀r∈zAP (zAL T),CdR r:=fun r hr=>by
  rw[zBf]at hr;obtain⟨i,hi,rfl⟩:=List.mem_iff_getElem.1 hr;have hi':i<T.goto.length:=by rw[←hG];exact hi
  have:=zSS h S hi'
  simpa[zAL]using this
 have hpl0:=zA3 (zAJ T);have hpl1:=zA3 (zAL T);have hal:=S.al;have hgl:=S.gl;have hrl':=S.rl;have l0:=zAQ (zAJ T);have l1:=zAQ (zAL T)
 have fits:∀X:List (List Int),X.length<=100000->∀x∈idxs X,Gr.Fits x:=by
  intro X hX x hx;obtain⟨i,_,rfl⟩:=List.mem_map.1 hx;have:=zKX (zAP (X.take i)) (X.getD i []);have:=zA3 (X.take i);have:(X.take i).length<=X.length:=by rw[List.length_take];omega
  unfold Gr.Fits;omega
 refine⟨c0.1,c1.1,hR,below5 I.row,(I.rows.kept hq (by decide) (by decide) hg).plain,below5 I.gow,(I.gows.kept hq (by decide) (by decide) hg).plain,hrc,?_,I.rc,?_,I.gc,hrl,?_,?_,?_,?_,
  ⟨hf.t,hf.n,hf.left,hf.right,fits _ (by omega),fits _ (by omega),fun r hr=>(hs0 r hr).1,fun r hr=>(hs1 r hr).1⟩⟩
 ·show(idxs (zAJ T)).length<=cW;omega
 ·show(idxs (zAL T)).length<=cG;omega
 ·show(idxs (zAJ T)).length<= _;omega
 ·show(zAP (zAJ T)).length<= _;omega
 ·show(idxs (zAL T)).length<= _;omega
 ·show(zAP (zAL T)).length<= _;omega
def RPi(T:Tb)(aR:Option Addr)(cR:Nat)(w4:World)(p k m:Nat)(wr:World):Prop:=∃vr vg aX cX aH cH,RPk T aR cR w4 p ((idxs (zAJ T)).take k) (zAP ((zAJ T).take k)) ((idxs (zAL T)).take m) (zAP ((zAL T).take m)) vr vg aX cX aH cH wr
section
variable {T:Tb} {aR:Option Addr} {cR:Nat} {w4:World} {p:Nat} {L1:List Int} {X1:List (List Int)} {L2:List Int} {X2:List (List Int)} {vr vg v':Value} {aX:Option Addr} {cX:Nat} {aH:Option Addr} {cH:Nat} {w w' w8:World} {ag:Option Addr} {rg:List Int}
theorem zPV{u}{base m}{ys}(h:CodT ag rg w)(hu:w.ownsRow base 3 1 u m ys)(hg:w.grownBy w' u.ownBlock):CodT ag rg w':=by
 cases ho:u.ownBlock with
 |none=>
  rw[ho]at hg;exact h.went ⟨hg.os,hg.tape,hg.output,hg.size,fun x hx=>hg.block x hx (by simp)⟩
 |some g=>
  rw[ho]at hg;exact h.kept (zDy hu ho) (by decide) hg
theorem RPk.putX(I:RPk T aR cR w4 p L1 X1 L2 X2 vr vg aX cX aH cH w)(hb:Below w.heap.size w w8){X}{a}{c}(hX:zCj a X w8)(hc:X.length<=c):
  w8.cell? ⟨p,4,none⟩=some (.slice aX X1.length cX)/\w8.frozen? ⟨p,4,none⟩=false/\(w8.setCell ⟨p,4,none⟩ (.slice a X.length c)).cell? ⟨p,3,none⟩=some vr/\RPk T aR cR w4 p L1 X L2 X2 vr vg a c aH cH (w8.setCell ⟨p,4,none⟩ (.slice a X.length c))/\(CodT ag rg w->CodT ag rg (w8.setCell ⟨p,4,none⟩ (.slice a X.length c))):=by
 have I2:=I.went hb;have I3:=I2.setX hX hc;exact⟨zAA I2.box (k:=4) (by simp),zAM I2.box,zAA I3.box (k:=3) (by simp),I3,fun h=>(h.went hb).kept I2.ty (by decide) (Rg.zAj _ _ _ _)⟩
theorem RPk.putY(I:RPk T aR cR w4 p L1 X1 L2 X2 vr vg aX cX aH cH w)(hb:Below w.heap.size w w8){X}{a}{c}(hX:zCj a X w8)(hc:X.length<=c):
  w8.cell? ⟨p,6,none⟩=some (.slice aH X2.length cH)/\w8.frozen? ⟨p,6,none⟩=false/\(w8.setCell ⟨p,6,none⟩ (.slice a X.length c)).cell? ⟨p,5,none⟩=some vg/\RPk T aR cR w4 p L1 X1 L2 X vr vg aX cX a c (w8.setCell ⟨p,6,none⟩ (.slice a X.length c)):=by
 have I2:=I.went hb;have I3:=I2.setY hX hc;exact⟨zAA I2.box (k:=6) (by simp),zAM I2.box,zAA I3.box (k:=5) (by simp),I3⟩
theorem RPk.lit(I:RPk T aR cR w4 p L1 X1 L2 X2 vr vg aX cX aH cH w)(m):
  (w.alloc (.cells #[.int .i64 m] 3)).ownsRow w4.heap.size 3 1 vr L1.length (L1.map (.int .i64))/\(w.alloc (.cells #[.int .i64 m] 3)).ownsRow w4.heap.size 3 1 vg L2.length (L2.map (.int .i64))/\
   (w.alloc (.cells #[.int .i64 m] 3)).ownsRow w4.heap.size 3 1 (.slice (some ⟨w.heap.size,0,none⟩) 1 1) 1 [.int .i64 m]/\w4.heap.size<=(w.alloc (.cells #[.int .i64 m] 3)).heap.size:=by
 have I2:=I.went (boxed w (.cells #[.int .i64 m] 3));exact⟨I2.row,I2.gow,zCr _ w _ _ I.fr.size _ rfl,I2.fr.size⟩
theorem RPk.appL(I:RPk T aR cR w4 p L1 X1 L2 X2 vr vg aX cX aH cH w){m}{n}(hn:L1.length=n)(hown:w'.ownsRow w4.heap.size 3 1 v' (n+1) (L1.map (.int .i64)++[.int .i64 m]))(hg:(w.alloc (.cells #[.int .i64 m] 3)).grownBy w' vr.ownBlock)(hl:v'.ownBlock=vr.ownBlock\/v'.ownBlock=some (w.alloc (.cells #[.int .i64 m] 3)).heap.size):
  w'.cell? ⟨p,3,none⟩=some vr/\w'.frozen? ⟨p,3,none⟩=false/\(w'.setCell ⟨p,3,none⟩ v').cell? ⟨p,6,none⟩=some (.slice aH X2.length cH)/\RPk T aR cR w4 p (L1++[m]) X1 L2 X2 v' vg aX cX aH cH (w'.setCell ⟨p,3,none⟩ v')/\(CodT ag rg w->CodT ag rg (w'.setCell ⟨p,3,none⟩ v')):=by
 subst hn;have hb:=boxed w (.cells #[.int .i64 m] 3);have I2:=I.went hb;have hpw:=(Array.getElem?_eq_some_iff.1 I2.box).1;have hbx:=(hg.block p hpw (fun e=>by have:=(World.ownsRow.lt I2.row p e.symm).1;have:=I2.pl;omega)).trans I2.box;have I3:=I2.setL hown hg hl;exact⟨zAA hbx (k:=3) (by simp),zAM hbx,zAA I3.box (k:=6) (by simp),I3,fun h=>(zPV (h.went hb) I2.row hg).kept ⟨_,_,hbx⟩ (by decide) (Rg.zAj _ _ _ _)⟩
theorem RPk.appM(I:RPk T aR cR w4 p L1 X1 L2 X2 vr vg aX cX aH cH w){m}{n}(hn:L2.length=n)(hown:w'.ownsRow w4.heap.size 3 1 v' (n+1) (L2.map (.int .i64)++[.int .i64 m]))(hg:(w.alloc (.cells #[.int .i64 m] 3)).grownBy w' vg.ownBlock)(hl:v'.ownBlock=vg.ownBlock\/v'.ownBlock=some (w.alloc (.cells #[.int .i64 m] 3)).heap.size):
  w'.cell? ⟨p,5,none⟩=some vg/\w'.frozen? ⟨p,5,none⟩=false/\RPk T aR cR w4 p L1 X1 (L2++[m]) X2 vr v' aX cX aH cH (w'.setCell ⟨p,5,none⟩ v'):=by
 subst hn;have hb:=boxed w (.cells #[.int .i64 m] 3);have I2:=I.went hb;have hpw:=(Array.getElem?_eq_some_iff.1 I2.box).1;have hbx:=(hg.block p hpw (fun e=>by have:=(World.ownsRow.lt I2.gow p e.symm).1;have:=I2.pl;omega)).trans I2.box;have I3:=I2.setM hown hg hl;exact⟨zAA hbx (k:=5) (by simp),zAM hbx,I3⟩
end
theorem zOR(T:Tb)(aR:Option Addr)(cR:Nat)(aA:Option Addr)(cA:Nat)(aG:Option Addr)(cG:Nat)(w:World)(D:TAt T aR cR aA cA aG cG w)(S:TSm T)(hm:mayP T=true):
  Calls Tryz.prog 10 #[.agg (tvs T aR cR aA cA aG cG)] w (zAm T w):=by
 have PT:=zV7 (zIP hm);have SS:=zV7 S;have FF:=zV7 D.fit;have hpo:zBm T=(zAq T,true):=if_pos hm
 have YES:=zV7 (fun(w':World) aR cR aW cW aX cX aG cG aH cH (hb:Below w.heap.size w w') (hp:PAt (zAq T) aR cR aW cW aX cX aG cG aH cH w')=>(show zAm T w (.returned (.tuple #[.agg (pvs (zAq T) aR cR aW cW aX cX aG cG aH cH),.bool true])) w' from by
  rw[zAm,hpo]
  exact⟨aR,cR,aW,cW,aX,cX,aG,cG,aH,cH,rfl,hp,hb⟩))
 have RI:=zV7 (fun w1 (b:Below w.heap.size w w1)=>zGd T aR cR aA cA aG cG w1 (D.went b) S);rw[show zAI T=true from by unfold mayP at hm;rw[Bool.and_eq_true]at hm;exact hm.2]at RI;have DD:=zV7 (fun w1 (b:Below w.heap.size w w1)=>D.went b);have b1:=boxed w (.cells (tvs T aR cR aA cA aG cG) 26);have b2:=boxed (w.alloc (.cells (tvs T aR cR aA cA aG cG) 26)) (.cells nils 32);have B2:=zV7 (Gr.step b1 b2);have Z2:=zV7 ((zAp (T:=T) (aR:=aR) (cR:=cR) (aA:=aA) (cA:=cA) (aG:=aG) (cG:=cG) w 26).went b2);have Y2:=zV7 (zAd (w.alloc (.cells (tvs T aR cR aA cA aG cG) 26)) (.cells nils 32));rw[World.size_alloc]at Y2;have hal:=PT.out.a1;have hrl:=PT.out.r1;clear b1 b2 D S hm hpo;unfold tvs nils at*;have h1':¬(16383:Int)<(T.acts.length:Int):=by omega
 have h2':¬(16383:Int)<(T.rules.length:Int):=by omega
 obtain⟨z0,z1,z2,z3,z4⟩:=Z2.out;go_enter Tryz.func10,Tryz.ntmps10;go_wp2_with fail;generalize (w.alloc (.cells #[.slice aR T.rules.length cR,.int .i64 T.terms,.int .i64 T.nons,.slice aA T.acts.length cA,.slice aG T.goto.length cG] 26)).alloc (.cells #[.slice none 0 0,.int .i64 0,.int .i64 0,.slice none 0 0,.slice none 0 0,.slice none 0 0,.slice none 0 0] 32)=w2 at*;refine(RI.out _ B2.out).mono ?_;rintro e w3 ⟨rfl,hb3⟩;have B3:=zV7 (Gr.step B2.out hb3);have Y3:=zV7 ((hb3.block _ (Array.getElem?_eq_some_iff.1 Y2.out).1).trans Y2.out);have Z3:=zV7 (Z2.out.went hb3);clear z0 z1 z2 z3 z4 hb3 Y2 Z2 B2 RI;obtain⟨z0,z1,z2,z3,z4⟩:=Z3.out;have B4:=zV7 (boxed w3 (.cells #[.slice aR T.rules.length cR,.int .i64 T.terms,.int .i64 T.nons,.slice none 0 0,.slice none 0 0,.slice none 0 0,.slice none 0 0] 32));have HS4:=zV7 (show w3.heap.size<(w3.alloc (.cells #[.slice aR T.rules.length cR,.int .i64 T.terms,.int .i64 T.nons,.slice none 0 0,.slice none 0 0,.slice none 0 0,.slice none 0 0] 32)).heap.size by rw[World.size_alloc];exact Nat.lt_succ_self _);have I0:=zV7 (RPk.start (T:=T) (w3.alloc (.cells #[.slice aR T.rules.length cR,.int .i64 T.terms,.int .i64 T.nons,.slice none 0 0,.slice none 0 0,.slice none 0 0,.slice none 0 0] 32)) HS4.out (zAd w3 _));go_wp2_with fail;generalize w3.alloc (.cells #[.slice aR T.rules.length cR,.int .i64 T.terms,.int .i64 T.nons,.slice none 0 0,.slice none 0 0,.slice none 0 0,.slice none 0 0] 32)=w4 at*;clear z0 z1 z2 z3 z4;have WW:=zV7 (fun(w':World) (f:Fr (fun x=>x=w3.heap.size) w4 w')=>(show Below w3.heap.size w3 w' from B4.out.trans (f.below (fun x hx=>by omega) B4.out.size)));have ZW:=zV7 (fun(w':World) (f:Fr (fun x=>x=w3.heap.size) w4 w')=>Z3.out.went (WW.out w' f));have DW:=zV7 (fun(w':World) (f:Fr (fun x=>x=w3.heap.size) w4 w')=>DD.out w' (Gr.step B3.out (WW.out w' f)));have YW:=zV7 (fun(w':World) (f:Fr (fun x=>x=w3.heap.size) w4 w')=>((WW.out w' f).block _ (Array.getElem?_eq_some_iff.1 Y3.out).1).trans Y3.out);have HGA:=zV7 PT.out.ga;clear Z3;go_loopw [5] (fun x wr=>∃k:Nat,x=.int .i64 (k:Int)/\k<=T.acts.length/\RPi T aR cR w4 w3.heap.size k k wr) (fun x _=>T.acts.length-(intOf x).toNat)
 case atStart=>exact⟨0,rfl,Nat.zero_le _,_,_,_,_,_,_,I0.out⟩
 case round=>
  obtain⟨k,rfl,hk,vr,vg,aX,cX,aH,cH,hI⟩:=hrel;have I:=zV7 hI;clear hI I0;have fr0:=I.out.fr;obtain⟨z0,z1,z2,z3,z4⟩:=ZW.out wr fr0
  by_cases hlt:k<T.acts.length
  ·have hkl:(k:Int)<(T.acts.length:Int):=by omega
   have hkg:(k:Int)<(T.goto.length:Int):=by rw[HGA.out];omega
   have hkg2:k<T.goto.length:=by rw[HGA.out];exact hlt
   have dw:=DW.out wr fr0;obtain⟨ba,oa,ra,rca,rfl,p0,hra,_,_⟩:=dw.acts k hlt;obtain⟨bg,og,rg,rcg,rfl,q0,hrg,_,_⟩:=dw.goto k hkg2;have CAll:=zV7 (fun x (hx:x∈T.acts[k])=>(zCy ((PT.out.acts _ (List.getElem_mem hlt)).2 x hx) PT.out.a1 PT.out.r1));have CGll:=zV7 (fun x (hx:x∈T.goto[k])=>(zHE ((PT.out.goto _ (List.getElem_mem hkg2)).2 x hx) PT.out.a1));have LA:=SS.out.ar _ (List.getElem_mem hlt);have LG:=SS.out.gr _ (List.getElem_mem hkg2);have RAs:=zV7 (fun w' (b:Below wr.heap.size wr w')=>hra.went b);have RGs:=zV7 (fun w' (b:Below wr.heap.size wr w')=>hrg.went b);have CE:=zV7 (fun w' (b:Below wr.heap.size wr w')=>(show w'.cell? ⟨w.heap.size,3,none⟩=some (.slice (some ⟨ba,oa,none⟩) T.acts.length cA)/\w'.cell? ⟨w.heap.size,4,none⟩=some (.slice (some ⟨bg,og,none⟩) T.goto.length cG)/\w'.cell? ⟨ba,oa+k,none⟩=some (.slice ra T.acts[k].length rca)/\w'.cell? ⟨bg,og+k,none⟩=some (.slice rg T.goto[k].length rcg)from⟨cell_later b z3,cell_later b z4,cell_later b p0,cell_later b q0⟩));obtain⟨i16,hi16,hz0,hz1,hz2⟩:=info_parts zJ9;obtain⟨i1r,hj1,hy0,hy1,hy2⟩:=info_parts zA0;have hLA:(zAJ T).length=T.acts.length:=zCD T;have hLG:(zAL T).length=T.acts.length:=by rw[zCE];exact HGA.out
   have HA:k<(zAJ T).length:=by rw[hLA];exact hlt
   have HG:k<(zAL T).length:=by rw[hLG];exact hlt
   have eA:(zAJ T)[k]'HA=T.acts[k].map zAw:=by simp[zAJ]
   have eG:(zAL T)[k]'HG=T.goto[k].map zBF:=by simp[zAL]
   have E1:=zDk HA;have E2:=zBb HA;have E3:=zDk HG;have E4:=zBb HG;have lX1:=zA3 ((zAJ T).take k);have lX2:=zA3 ((zAL T).take k);have lL1:((idxs (zAJ T)).take k).length=k:=by rw[List.length_take,zAQ];omega
   have lL2:((idxs (zAL T)).take k).length=k:=by rw[List.length_take,zAQ];omega
   rw[List.length_take]at lX1 lX2;rw[eA]at E1 E2;rw[eG]at E3 E4;have NX:=zV7 (fun vr vg aX cX aH cH wn (h:RPk T aR cR w4 w3.heap.size ((idxs (zAJ T)).take k++[(plc (zAP ((zAJ T).take k)) (T.acts[k].map zAw):Int)]) (putR (zAP ((zAJ T).take k)) (T.acts[k].map zAw)) ((idxs (zAL T)).take k++[(plc (zAP ((zAL T).take k)) (T.goto[k].map zBF):Int)]) (putR (zAP ((zAL T).take k)) (T.goto[k].map zBF)) vr vg aX cX aH cH wn)=>(show RPi T aR cR w4 w3.heap.size (k+1) (k+1) wn from⟨vr,vg,aX,cX,aH,cH,by rw[E1,E2,E3,E4];exact h⟩));generalize (idxs (zAJ T)).take k=L1 at*;generalize zAP ((zAJ T).take k)=X1 at*;generalize (idxs (zAL T)).take k=L2 at*;generalize zAP ((zAL T).take k)=X2 at*;have lAm:(T.acts[k].map zAw).length=T.acts[k].length:=List.length_map _;have lGm:(T.goto[k].map zBF).length=T.goto[k].length:=List.length_map _;have gA:=zV7 (fun j (hj:j<T.acts[k].length)=>(show∀h:j<(T.acts[k].map zAw).length,(T.acts[k].map zAw)[j]'h=zAw T.acts[k][j]from fun h=>List.getElem_map _));have gG:=zV7 (fun j (hj:j<T.goto[k].length)=>(show∀h:j<(T.goto[k].map zBF).length,(T.goto[k].map zBF)[j]'h=zBF T.goto[k][j]from fun h=>List.getElem_map _));generalize T.acts[k].map zAw=cA' at*;generalize T.goto[k].map zBF=cG' at*;clear dw hra hrg p0 q0 fr0 E1 E2 E3 E4 eA eG HA HG hLA hLG;generalize T.acts[k]=rowA at*;generalize T.goto[k]=rowG at*;obtain⟨s3,s4,p0,q0⟩:=CE.out wr (.refl _ _);go_wp2_with fail;clear z0 z1 z2 z3 z4 s3 s4 p0 q0
   rename World=>wo
   go_loopw [6,8] (fun v x wz=>∃j:Nat,x=.int .i64 (j:Int)/\j<=rowA.length/\zE0 wo cA' j v wz) (fun _ x _=>rowA.length-(intOf x).toNat)
   case atStart=>exact⟨0,rfl,Nat.zero_le _,zE0.nil _ _⟩
   case round=>
    obtain⟨j,rfl,hj,hM⟩:=hrel;have M:=zV7 hM;obtain⟨s3,s4,p0,q0⟩:=CE.out _ hM.2;clear hM
    by_cases hjl:j<rowA.length
    ·obtain⟨rb,ro,rfl,c0,c1⟩:=(RAs.out _ M.out.2).at j hjl;have hx:=CAll.out _ (List.getElem_mem hjl);have CA:=zV7 (fun w1=>zOL rowA[j] hx.2.2.1 hx.2.2.2.1 hx.2.2.2.2.1 hx.2.2.2.2.2 w1);have ST:=zV7 (fun(wz w':World) (v v':Value) (h:zE0 wo cA' j v wz) (hown:w'.ownsRow wo.heap.size 48 1 v' (j+1) ((cA'.take j).map (.int .u16)++[.int .u16 (zAw rowA[j])])) (hg:wz.grownBy w' v.ownBlock)=>zE0.step h (by rw[lAm];exact hjl) (gA.out j hjl _) hown hg);have hjn:(j:Int)<(rowA.length:Int):=by omega
     generalize rowA[j]=x at*;obtain⟨x1,x2⟩:=x;dsimp only at*;generalize zAw (x1,x2)=cx at*;obtain⟨a6,c6,rfl⟩:=Rw.zAG M.out.1;have LIT:=zV7 (fun(w1:World) (h:zE0 wo cA' j (.slice a6 j c6) w1)=>(show(w1.alloc (.cells #[.int .u16 cx] 48)).ownsRow wo.heap.size 48 1 (.slice (some ⟨w1.heap.size,0,none⟩) 1 1) 1 [.int .u16 cx]/\wo.heap.size<=(w1.alloc (.cells #[.int .u16 cx] 48)).heap.size from⟨zCr _ w1 _ _ h.2.size _ rfl,Nat.le_trans h.2.size (boxed _ _).size⟩))
     go_wp2_with (first
      |(go_at_call 33;refine(CA.out _).mono ?_;rintro e w1 ⟨rfl,hb1⟩;have M1:=zV7 (M.out.went hb1);obtain⟨l1',l2⟩:=LIT.out w1 M1.out;have l1:=zV7 l1';have M2:=zV7 (M1.out.went (boxed w1 (.cells #[.int .u16 cx] 48)));clear hb1 l1')
      | (at_builtin;refine Rw.zAN _ rfl _ _ 66 rfl wo.heap.size 48 i16 (.int .u16 0) 1 2 Tryz.underlying66 hi16 hz0 hz1 hz2 rfl (by decide) (.slice a6 j c6) j _ rfl M2.out.1 wo.heap.size (.slice (some ⟨w1.heap.size,0,none⟩) 1 1) 1 [.int .u16 cx] rfl l1.out (by simp[Value.oneCell']) (by unfold maxLen;omega) (by omega) l2 ?_;intro v7 w7 hown7 hg7 _;have M7:=zV7 (ST.out _ _ _ _ M2.out hown7 hg7);clear hown7 hg7))
     go_roundw
     case rel=>exact⟨j+1,by go_num,by omega,M7.out⟩
     case measure=>first|(simp[intOf];omega)|omega
    ·obtain rfl:j=rowA.length:=by omega
     obtain⟨a6,c6,rfl,hA6,hc6,hb6⟩:=M.out.done lAm.symm;have A6:=zV7 hA6;have B6:=zV7 hb6;have hnl:¬(rowA.length:Int)<(rowA.length:Int):=by omega
     rw[lAm];rw[lAm]at hc6;clear hA6 hb6 M;go_wp2_with fail;clear s3 s4 p0 q0 hnl
     rename World=>wp
     go_loopw [7,9] (fun v x wz=>∃j:Nat,x=.int .i64 (j:Int)/\j<=rowG.length/\zE0 wp cG' j v wz) (fun _ x _=>rowG.length-(intOf x).toNat)
     case atStart=>exact⟨0,rfl,Nat.zero_le _,zE0.nil _ _⟩
     case round=>
      obtain⟨j,rfl,hj,hM⟩:=hrel;have M:=zV7 hM;obtain⟨s3,s4,p0,q0⟩:=CE.out _ (Gr.step B6.out hM.2);clear hM
      by_cases hjl:j<rowG.length
      ·obtain⟨rb,ro,rfl,c0⟩:=(RGs.out _ (Gr.step B6.out M.out.2)).at hjl;have hx:=CGll.out _ (List.getElem_mem hjl);have ST:=zV7 (fun(wz w':World) (v v':Value) (h:zE0 wp cG' j v wz) (hown:w'.ownsRow wp.heap.size 48 1 v' (j+1) ((cG'.take j).map (.int .u16)++[.int .u16 (zBF rowG[j])])) (hg:wz.grownBy w' v.ownBlock)=>zE0.step h (by rw[lGm];exact hjl) (gG.out j hjl _) hown hg);have hjn:(j:Int)<(rowG.length:Int):=by omega
       generalize rowG[j]=x at*;have hw1:IntKind.i64.wrap (x+1)=x+1:=by rw[IntKind.wrap_i64];omega
       have hw2:IntKind.u16.wrap (x+1)=x+1:=by
        show(x+1) % 65536= _;omega
       have hcg:zBF x=x+1:=rfl;rw[hcg]at ST;clear hx hcg;obtain⟨a7,c7,rfl⟩:=Rw.zAG M.out.1;have M2:=zV7 (M.out.went (boxed _ (.cells #[.int .u16 (x+1)] 48)));have l1:=zV7 (zCr wp.heap.size _ (.int .u16 (x+1)) 48 M.out.2.size _ rfl);have l2:=Nat.le_trans M.out.2.size (boxed _ (.cells #[.int .u16 (x+1)] 48)).size;go_wp2_with (at_builtin;refine Rw.zAN _ rfl _ _ 66 rfl wp.heap.size 48 i16 (.int .u16 0) 1 2 Tryz.underlying66 hi16 hz0 hz1 hz2 rfl (by decide) (.slice a7 j c7) j _ rfl M2.out.1 wp.heap.size (.slice (some ⟨_,0,none⟩) 1 1) 1 [.int .u16 (x+1)] rfl l1.out (by simp[Value.oneCell']) (by unfold maxLen;omega) (by omega) l2 ?_;intro v7 w7 hown7 hg7 _;have M7:=zV7 (ST.out _ _ _ _ M2.out hown7 hg7);clear hown7 hg7);go_roundw
       case rel=>exact⟨j+1,by go_num,by omega,M7.out⟩
       case measure=>first|(simp[intOf];omega)|omega
      ·obtain rfl:j=rowG.length:=by omega
       obtain⟨a7,c7,rfl,hA7,hc7,hb7⟩:=M.out.done lGm.symm
       rename World=>wy
       have I2:=zV7 (I.out.went (Gr.step B6.out hb7));have hr1:=I2.out.row;have hr2:=I2.out.gow;rw[lL1]at hr1;rw[lL2]at hr2;obtain⟨aW,cW,rfl⟩:=Rw.zAG hr1;obtain⟨aV,cV,rfl⟩:=Rw.zAG hr2;have PU1:=zV7 (zKe X1 cA' aX a6 cX c6 wy I2.out.rows (A6.out.went hb7) I2.out.rc (by rw[lAm];exact hc6) (by omega) (by omega));have A7:=zV7 hA7;have hnl:¬(rowG.length:Int)<(rowG.length:Int):=by omega
       have hnk:(k:Int)<(T.acts.length:Int):=hkl;rw[lGm]at hc7;have PU2:=zV7 (fun wn a c (hX:zCj a X2 wn) (hr:CodT a7 cG' wn) (hc:X2.length<=c)=>zKe X2 cG' a a7 c c7 wn hX hr hc (by rw[lGm];exact hc7) (by omega) (by omega));rw[lAm]at PU1;rw[lGm]at PU2;rw[lGm];have bx4:wy.cell? ⟨w3.heap.size,4,none⟩=some (.slice aX X1.length cX):=zAA I2.out.box (k:=4) (by simp);have LL1:=zV7 lL1;have LL2:=zV7 lL2;have hkc:k<=100000:=by omega
       clear hA7 hb7 M hr1 hr2 lL1 lL2 lAm lGm lX1 lX2 A6 B6 I gA gG CAll CGll RAs RGs CE hc6 hc7
       go_wp2_with (first
        |(go_at_call 34;(with_reducible refine(PU1.out).mono ?_);rintro e w8 ⟨a8,c8,rfl,hX8,hc8,hb8⟩;obtain⟨x4,g4,x3,hI3,hG3⟩:=RPk.putX (ag:=a7) (rg:=cG') I2.out hb8 hX8 hc8;have I3:=zV7 hI3;have G3:=zV7 (hG3 A7.out);obtain⟨r1',_,r3',r4⟩:=I3.out.lit (plc X1 cA':Int);rw[LL1.out]at r1';rw[World.size_setCell]at r3';have r1:=zV7 r1';have r3:=zV7 r3';clear hI3 hG3 hX8 hc8 hb8 r1' r3' PU1 A7)
        |(at_builtin;refine Rw.zAN _ rfl _ _ 29 rfl w4.heap.size 3 i1r (.int .i64 0) 1 8 Tryz.underlying29 hj1 hy0 hy1 hy2 rfl (by decide) (.slice aW k cW) k _ rfl r1.out w4.heap.size (.slice (some ⟨_,0,none⟩) 1 1) 1 [.int .i64 (plc X1 cA':Int)] rfl r3.out (by simp[Value.oneCell']) (by unfold maxLen;omega) (by omega) r4 ?_;intro v9 w9 hown9 hg9 hl9;obtain⟨a9,c9,rfl⟩:=Rw.zAG hown9;obtain⟨x3b,g3,x6,hI4,hG4⟩:=RPk.appL (ag:=a7) (rg:=cG') I3.out LL1.out hown9 hg9 hl9;have I4:=zV7 hI4;have P2:=zV7 (PU2.out _ aH cH I4.out.gows (hG4 G3.out) I4.out.gc);clear hI4 hG4 hown9 hg9 hl9 r1 r3 PU2)
        |(go_at_call 34;(with_reducible refine(P2.out).mono ?_);rintro e w10 ⟨a10,c10,rfl,hX10,hc10,hb10⟩;obtain⟨x6b,g6,x5,hI5⟩:=RPk.putY I4.out hb10 hX10 hc10;have I5:=zV7 hI5;obtain⟨_,q2',q3',q4⟩:=I5.out.lit (plc X2 cG':Int);rw[LL2.out]at q2';rw[World.size_setCell]at q3';have q2:=zV7 q2';have q3:=zV7 q3';clear hI5 hX10 hc10 hb10 q2' q3' P2)
        | (at_builtin;refine Rw.zAN _ rfl _ _ 29 rfl w4.heap.size 3 i1r (.int .i64 0) 1 8 Tryz.underlying29 hj1 hy0 hy1 hy2 rfl (by decide) (.slice aV k cV) k _ rfl q2.out w4.heap.size (.slice (some ⟨_,0,none⟩) 1 1) 1 [.int .i64 (plc X2 cG':Int)] rfl q3.out (by simp[Value.oneCell']) (by unfold maxLen;omega) (by omega) q4 ?_;intro v11 w11 hown11 hg11 hl11;obtain⟨a11,c11,rfl⟩:=Rw.zAG hown11;obtain⟨x5b,g5,hI6⟩:=RPk.appM I5.out LL2.out hown11 hg11 hl11;have I6:=zV7 hI6;clear hI6 hown11 hg11 hl11))
       go_roundw
       case rel=>exact⟨k+1,by go_num,by omega,NX.out _ _ _ _ _ _ _ I6.out⟩
       case measure=>first|(simp[intOf];omega)|omega
  ·obtain rfl:k=T.acts.length:=by omega
   have e1:(idxs (zAJ T)).take T.acts.length=idxs (zAJ T):=List.take_of_length_le (by rw[zAQ,zCD];exact Nat.le_refl _);have e2:(zAJ T).take T.acts.length=zAJ T:=List.take_of_length_le (by rw[zCD];exact Nat.le_refl _);have e3:(idxs (zAL T)).take T.acts.length=idxs (zAL T):=List.take_of_length_le (by rw[zAQ,zCE,HGA.out];exact Nat.le_refl _);have e4:(zAL T).take T.acts.length=zAL T:=List.take_of_length_le (by rw[zCE,HGA.out];exact Nat.le_refl _);rw[e1,e2,e3,e4]at I;obtain⟨aW,cW,rfl⟩:=Rw.zAG I.out.row;obtain⟨aV,cV,rfl⟩:=Rw.zAG I.out.gow;have hbx:=I.out.box;have t0:=zAA hbx (k:=0) (by simp);have t1:=zAA hbx (k:=1) (by simp);have t2:=zAA hbx (k:=2) (by simp);have t3:=zAA hbx (k:=3) (by simp);have t4:=zAA hbx (k:=4) (by simp);have t5:=zAA hbx (k:=5) (by simp);have t6:=zAA hbx (k:=6) (by simp);have Y:=YW.out wr fr0;have y0:=zAA Y (k:=0) (by simp);have y1:=zAA Y (k:=1) (by simp);have y2:=zAA Y (k:=2) (by simp);have y3:=zAA Y (k:=3) (by simp);have y4:=zAA Y (k:=4) (by simp);have y5:=zAA Y (k:=5) (by simp);have y6:=zAA Y (k:=6) (by simp);have f0:=zAM (k:=0) Y;have f1:=zAM (k:=1) Y;have f2:=zAM (k:=2) Y;have f3:=zAM (k:=3) Y;have f4:=zAM (k:=4) Y;have f5:=zAM (k:=5) Y;have f6:=zAM (k:=6) Y;simp only[List.getElem_toArray,List.getElem_cons_zero,List.getElem_cons_succ]at t0 t1 t2 t3 t4 t5 t6 y0 y1 y2 y3 y4 y5 y6;have hs3:w.heap.size+1<w3.heap.size:=(Array.getElem?_eq_some_iff.1 Y3.out).1;have BE:=zBp (Gr.step B3.out (WW.out wr fr0)) (Nat.le_succ w.heap.size) (.slice aR T.rules.length cR) (.int .i64 T.terms) (.int .i64 T.nons) (.slice aW (idxs (zAJ T)).length cW) (.slice aX (zAP (zAJ T)).length cX) (.slice aV (idxs (zAL T)).length cV) (.slice aH (zAP (zAL T)).length cH);have DE:=zQ8 PT.out SS.out FF.out (DD.out _ BE).rules (DD.out _ BE).rc (DD.out _ BE).rl I.out (q:=w.heap.size+1) ⟨_,_,Y⟩ (by have:=B4.out.size;omega) (zHN wr (w.heap.size+1) (.slice aR T.rules.length cR) (.int .i64 T.terms) (.int .i64 T.nons) (.slice aW (idxs (zAJ T)).length cW) (.slice aX (zAP (zAJ T)).length cX) (.slice aV (idxs (zAL T)).length cV) (.slice aH (zAP (zAL T)).length cH));have YF:=zV7 (show zAm T w (.returned (.tuple #[.agg #[.slice aR T.rules.length cR,.int .i64 T.terms,.int .i64 T.nons,.slice aW (idxs (zAJ T)).length cW,.slice aX (zAP (zAJ T)).length cX,.slice aV (idxs (zAL T)).length cV,.slice aH (zAP (zAL T)).length cH],.bool true])) (set7 wr (w.heap.size+1) (.slice aR T.rules.length cR) (.int .i64 T.terms) (.int .i64 T.nons) (.slice aW (idxs (zAJ T)).length cW) (.slice aX (zAP (zAJ T)).length cX) (.slice aV (idxs (zAL T)).length cV) (.slice aH (zAP (zAL T)).length cH))from YES.out _ _ _ _ _ _ _ _ _ _ _ BE DE.2.2);have EE:=zV7 (zDD Y (.slice aR T.rules.length cR) (.int .i64 T.terms) (.int .i64 T.nons) (.slice aW (idxs (zAJ T)).length cW) (.slice aX (zAP (zAJ T)).length cX) (.slice aV (idxs (zAL T)).length cV) (.slice aH (zAP (zAL T)).length cH));clear Y hbx BE DE e1 e2 e3 e4 I YES DW WW ZW YW;generalize (idxs (zAJ T)).length=n1 at*;generalize (zAP (zAJ T)).length=n2 at*;generalize (idxs (zAL T)).length=n3 at*;generalize (zAP (zAL T)).length=n4 at*;go_wp2_with fail;change bodyPost _ _ _ _ _ (set7 wr (w.heap.size+1) (.slice aR T.rules.length cR) (.int .i64 T.terms) (.int .i64 T.nons) (.slice aW n1 cW) (.slice aX n2 cX) (.slice aV n3 cV) (.slice aH n4 cH));obtain⟨d0,d1,d2,d3,d4,d5,d6⟩:=EE.out;generalize set7 wr (w.heap.size+1) (.slice aR T.rules.length cR) (.int .i64 T.terms) (.int .i64 T.nons) (.slice aW n1 cW) (.slice aX n2 cX) (.slice aV n3 cV) (.slice aH n4 cH)=wF at*;exact bodyPost_ret (v:=.tuple #[.agg #[.slice aR T.rules.length cR,.int .i64 T.terms,.int .i64 T.nons,.slice aW n1 cW,.slice aX n2 cX,.slice aV n3 cV,.slice aH n4 cH],.bool true]) (by simp[results,Tryz.results10,go_sem,d0,d1,d2,d3,d4,d5,d6]) rfl YF.out
end Pk
namespace Pk
open Gr (cell_later boxed drawn ivs zA0)
open Go.Proofs.YtegeamggbglneaaGreatDoor.Sep (Fr)
theorem zKI(w):(Instr.makeMap 61 none).run Tryz.prog w=.ok (.map (some w.heap.size)) (w.alloc (.map #[] 0)):=by kernel_rfl
theorem zC4(w)(o):Below w.heap.size w (w.alloc o).drew:=Gr.step (boxed w o) (drawn _)
theorem zKT(T:Tb)(aR:Option Addr)(cR:Nat)(aA:Option Addr)(cA:Nat)(aG:Option Addr)(cG:Nat)(w:World)(D:TAt T aR cR aA cA aG cG w)(S:TSm T)(hm:mayP T=true):
  Calls Tryz.prog 9 #[.agg (tvs T aR cR aA cA aG cG)] w (zAm T w):=by
 have PT:=zV7 (zIP hm);have SS:=zV7 S;have FF:=zV7 D.fit;have hpo:zBm T=(zAq T,true):=if_pos hm
 have YES:=zV7 (fun(w':World) aR cR aW cW aX cX aG cG aH cH (hb:Below w.heap.size w w') (hp:PAt (zAq T) aR cR aW cW aX cX aG cG aH cH w')=>(show zAm T w (.returned (.tuple #[.agg (pvs (zAq T) aR cR aW cW aX cX aG cG aH cH),.bool true])) w' from by
  rw[zAm,hpo]
  exact⟨aR,cR,aW,cW,aX,cX,aG,cG,aH,cH,rfl,hp,hb⟩))
 have RI:=zV7 (fun w1 (b:Below w.heap.size w w1)=>zIV T aR cR aA cA aG cG w1 (D.went b) S);rw[show zAI T=true from by unfold mayP at hm;rw[Bool.and_eq_true]at hm;exact hm.2]at RI;have CO:=zV7 (fun w1 (b:Below w.heap.size w w1)=>zGH T.rules aR cR w1 (D.went b).rules S.rl);have DD:=zV7 (fun w1 (b:Below w.heap.size w w1)=>D.went b);have b1:=boxed w (.cells (tvs T aR cR aA cA aG cG) 26);have b2:=boxed (w.alloc (.cells (tvs T aR cR aA cA aG cG) 26)) (.cells nils 32);have B2:=zV7 (Gr.step b1 b2);have Z2:=zV7 ((zAp (T:=T) (aR:=aR) (cR:=cR) (aA:=aA) (cA:=cA) (aG:=aG) (cG:=cG) w 26).went b2);have Y2:=zV7 (zAd (w.alloc (.cells (tvs T aR cR aA cA aG cG) 26)) (.cells nils 32));rw[World.size_alloc]at Y2;have hal:=PT.out.a1;have hrl:=PT.out.r1;clear b1 b2 D S hm hpo;unfold tvs nils at*;have h1':¬(16383:Int)<(T.acts.length:Int):=by omega
 have h2':¬(16383:Int)<(T.rules.length:Int):=by omega
 obtain⟨z0,z1,z2,z3,z4⟩:=Z2.out;go_enter Tryz.func9,Tryz.ntmps9;go_wp2_with fail;generalize (w.alloc (.cells #[.slice aR T.rules.length cR,.int .i64 T.terms,.int .i64 T.nons,.slice aA T.acts.length cA,.slice aG T.goto.length cG] 26)).alloc (.cells #[.slice none 0 0,.int .i64 0,.int .i64 0,.slice none 0 0,.slice none 0 0,.slice none 0 0,.slice none 0 0] 32)=w2 at*;refine(RI.out _ B2.out).mono ?_;rintro e w3 ⟨rfl,hb3⟩;have B3:=zV7 (Gr.step B2.out hb3);have Y3:=zV7 ((hb3.block _ (Array.getElem?_eq_some_iff.1 Y2.out).1).trans Y2.out);have Z3:=zV7 (Z2.out.went hb3);clear z0 z1 z2 z3 z4 hb3 Y2 Z2 B2 RI;obtain⟨z0,z1,z2,z3,z4⟩:=Z3.out;go_wp2_with fail
 have HQ:=zV7 (show∀w',Below w3.heap.size w3 w'->w'.cell? ⟨w.heap.size,0,none⟩=some (.slice aR T.rules.length cR)/\w'.cell? ⟨w.heap.size,1,none⟩=some (.int .i64 T.terms)/\w'.cell? ⟨w.heap.size,2,none⟩=some (.int .i64 T.nons)/\Below w3.heap.size w3 w' from
  fun w' b=>⟨cell_later b z0,cell_later b z1,cell_later b z2,b⟩)
 have hbd:=drawn w3;go_cut [4]from 31 (fun v wx=>∃(p b:Nat),v=.pointer (some ⟨p,0,none⟩)/\PkB T w3 b p wx)
 case first=>
  go_region_held3 (fun w'=>w'.cell? ⟨w.heap.size,0,none⟩=some (.slice aR T.rules.length cR)/\w'.cell? ⟨w.heap.size,1,none⟩=some (.int .i64 T.terms)/\w'.cell? ⟨w.heap.size,2,none⟩=some (.int .i64 T.nons)/\Below w3.heap.size w3 w')
   (exact HQ.out _ (by with_reducible first|assumption|exact zC4 _ _|exact zBp (by assumption) (Nat.le_refl _) _ _ _ _ _ _ _|exact Gr.step (by assumption) (boxed _ _)))
   (first
    | (go_at_call 27;((with_reducible refine(CO.out _ (Gr.step B3.out (by with_reducible first|assumption|exact zC4 _ _|exact Gr.step (by assumption) (boxed _ _)))).mono ?_));rintro e we ⟨b,rfl,hru,hbe⟩;have kE:Below w3.heap.size w3 we:=Gr.step (by with_reducible first|assumption|exact zC4 _ _|exact Gr.step (by assumption) (boxed _ _)) hbe;have RE:=zV7 hru;have BE:=zV7 hbe;clear hru hbe;first
     |((with_reducible have KB:=zV7 (kept_alloc BE.out));have y0:=zAA KB.out (k:=0) (by simp);have y1:=zAA KB.out (k:=1) (by simp);have y2:=zAA KB.out (k:=2) (by simp);have y3:=zAA KB.out (k:=3) (by simp);have y4:=zAA KB.out (k:=4) (by simp);have y5:=zAA KB.out (k:=5) (by simp);have y6:=zAA KB.out (k:=6) (by simp);have f0:=zAM (k:=0) KB.out;have f1:=zAM (k:=1) KB.out;have f2:=zAM (k:=2) KB.out;have f3:=zAM (k:=3) KB.out;have f4:=zAM (k:=4) KB.out;have f5:=zAM (k:=5) KB.out;have f6:=zAM (k:=6) KB.out)
     |skip)
    |fail)
  ·have OB:=zV7 (show PkB T w3 b we.heap.size _ from PkB.after kE (Nat.le_refl _) RE.out);go_wp2_with fail;go_meet
   case rel=>exact⟨_,_,rfl,OB.out⟩
  ·have OB:=zV7 (show PkB T w3 b w3.heap.size _ from PkB.ahead kE (by change w3.heap.size<(w3.alloc _).heap.size;rw[World.size_alloc];exact Nat.lt_succ_self _) KB.out RE.out);go_wp2_with fail;go_meet
   case rel=>exact⟨_,_,rfl,OB.out⟩
 case rest=>
  obtain⟨p,b,rfl,hOB⟩:=hcut;have OB:=zV7 hOB;clear hOB CO HQ;generalize wc=w5 at*
  have TW:=zV7 (fun(w':World) (f:Fr (fun x=>x=p) w5 w')=>(show Below w3.heap.size w3 w' from by
   have hlo:=OB.out.lo
   exact OB.out.below.trans (f.below (fun x hx=>by omega) OB.out.below.size)))
  have ZW:=zV7 (fun(w':World) (f:Fr (fun x=>x=p) w5 w')=>Z3.out.went (TW.out w' f));have DW:=zV7 (fun(w':World) (f:Fr (fun x=>x=p) w5 w')=>DD.out w' (Gr.step B3.out (TW.out w' f)));have YW:=zV7 (fun(w':World) (f:Fr (fun x=>x=p) w5 w')=>((TW.out w' f).block _ (Array.getElem?_eq_some_iff.1 Y3.out).1).trans Y3.out);obtain⟨z0,z1,z2,z3,z4⟩:=ZW.out w5 (.refl _ _);have hs1:(w5.alloc (.map #[] 0)).heap.size=w5.heap.size+1:=World.size_alloc _ _;have I0:=zV7 (zOE OB.out rfl rfl);have HGA:=zV7 PT.out.ga;have hmm:=zKI;have z3':((w5.alloc (.map #[] 0)).alloc (.cells #[.map (some w5.heap.size),.slice none 0 0,.slice none 0 0] 64)).cell? ⟨w.heap.size,3,none⟩=some (.slice aA T.acts.length cA):=cell_later (Gr.step (boxed _ _) (boxed _ _)) z3;clear DD Z3 z0 z1 z2 z4;have hp3:=OB.out.box;go_wp2_with fail;generalize (w5.alloc (.map #[] 0)).alloc (.cells #[.map (some w5.heap.size),.slice none 0 0,.slice none 0 0] 64)=w6 at*;clear z3 z3' hp3;go_loopw [36] (fun x wr=>∃(k:Nat) (v:Nat->Value) (vs:Nat->List Value) (vI:Nat->Value),x=.int .i64 (k:Int)/\k<=T.acts.length/\PkI w5 p (w5.heap.size+1) w5.heap.size (.slice (some ⟨b,0,none⟩) T.rules.length T.rules.length) (.int .i64 T.terms) (.int .i64 T.nons) (LX T k k) v vs vI (IX T k k) wr) (fun x _=>T.acts.length-(intOf x).toNat)
  case atStart=>exact⟨0,_,_,_,rfl,Nat.zero_le _,I0.out⟩
  case round=>
   obtain⟨k,v,vs,vI,rfl,hk,hI⟩:=hrel;have I:=zV7 hI;clear hI I0;have hLA:(zAJ T).length=T.acts.length:=zCD T;have hLG:(zAL T).length=T.acts.length:=by rw[zCE];exact HGA.out
   by_cases hlt:k<T.acts.length
   ·have hkl:(k:Int)<(T.acts.length:Int):=by omega
    have hkg:(k:Int)<(T.goto.length:Int):=by rw[HGA.out];omega
    have hkg2:k<T.goto.length:=by rw[HGA.out];exact hlt
    have HA:=zV7 (show k<(zAJ T).length by rw[hLA];exact hlt);have HG:=zV7 (show k<(zAL T).length by rw[hLG];exact hlt);have eA:(zAJ T)[k]'HA.out=T.acts[k].map zAw:=by simp[zAJ]
    have eG:(zAL T)[k]'HG.out=T.goto[k].map zBF:=by simp[zAL]
    have HLL:=zV7 (fun ka kg j=>zUB T ka kg j (by rw[hLA];omega) (by rw[hLG];omega));obtain⟨i1r,hj1,hy0,hy1,hy2⟩:=info_parts zA0;have fr0:=I.out.fr;obtain⟨z0,z1,z2,z3,z4⟩:=ZW.out wr fr0;have dw:=DW.out wr fr0;obtain⟨ba,oa,ra,rca,rfl,p0,hra,_,_⟩:=dw.acts k hlt
    have EA:=zV7 (zHu T.acts[k] ra rca wr.drew (hra.went (drawn wr)) (SS.out.ar _ (List.getElem_mem hlt)) (fun x hx=>by
     have:=zCy ((PT.out.acts _ (List.getElem_mem hlt)).2 x hx) PT.out.a1 PT.out.r1
     exact⟨this.2.2.1,this.2.2.2.1,this.2.2.2.2.1,this.2.2.2.2.2⟩))
    have CA:=zV7 (zSR PT.out SS.out hlt);have LAe:=zV7 (LX_a (T:=T) (ka:=k) (kg:=k) HA.out);have IAe:=zV7 (IX_a (T:=T) (ka:=k) (kg:=k) HA.out);rw[eA]at LAe IAe;have hmapA:(T.acts[k].map fun x=>Value.int .u16 (zAw x))=(T.acts[k].map zAw).map fun c=>Value.int .u16 c:=by rw[List.map_map];rfl
    have hlenA:(T.acts[k].map zAw).length=T.acts[k].length:=List.length_map _;rw[hmapA]at EA;generalize T.acts[k]=rowA at*;generalize rowA.map zAw=cA at*;obtain⟨il0,il1⟩:=zMA T (ka:=k) (kg:=k) (by omega) (by omega);obtain⟨aW,cW,i0⟩:=Rw.zAG (I.out.idx 0 (by decide));rw[il0]at i0;have c3:=I.out.cell (k:=0) (by decide);rw[i0]at c3
    have S1:=zV7 (fun(wa:World) (b1:Nat) (hlo:wr.drew.heap.size<=b1) (hh:wa.heap[b1]?=some (.cells (cA.map fun c=>Value.int .u16 c).toArray 48 (0,0))) (hb:Below wr.drew.heap.size wr.drew wa)=>
     (show PkI w5 p (w5.heap.size+1) w5.heap.size (.slice (some ⟨b,0,none⟩) T.rules.length T.rules.length) (.int .i64 T.terms) (.int .i64 T.nons) (LX T k k) v vs vI (IX T k k) wa/\Dat w5.heap.size cA (.slice (some ⟨b1,0,none⟩) rowA.length rowA.length) wa/\wa.cell? ⟨p,3,none⟩=some (.slice aW k cW)/\
      Calls Tryz.prog 28 #[.pointer (some ⟨w5.heap.size+1,0,none⟩),.int .i64 0,.slice (some ⟨b1,0,none⟩) rowA.length rowA.length] wa (zJl w5.heap.size (w5.heap.size+1) w5.heap.size (LX T k k) v vs 0 cA (.slice (some ⟨b1,0,none⟩) rowA.length rowA.length) wa)from by
      have I2:=I.out.went (Gr.step (drawn wr) hb);have c3':=I2.cell (k:=0) (by decide);rw[i0]at c3';have hp:=zFa wa I2.st 0 (by decide) cA (some ⟨b1,0,none⟩) rowA.length (zBq hh) CA.out (fun j _=>HLL.out k k j);rw[hlenA]at hp
      exact⟨I2,⟨b1,by rw[hlenA],hh,Nat.le_trans I.out.fr.size hlo⟩,c3',hp⟩))
    have S2:=zV7 (fun(wb:World) (v':Nat->Value) (vs':Nat->List Value) (h:PkI w5 p (w5.heap.size+1) w5.heap.size (.slice (some ⟨b,0,none⟩) T.rules.length T.rules.length) (.int .i64 T.terms) (.int .i64 T.nons) (upd (LX T k k) 0 (putR (LX T k k 0) cA)) v' vs' vI (IX T k k) wb)=>
     (show wb.cell? ⟨p,3,none⟩=some (.slice aW k cW)/\(wb.alloc (.cells #[.int .i64 (plc (LX T k k 0) cA:Int)] 3)).cell? ⟨p,3,none⟩=some (.slice aW k cW)/\(wb.alloc (.cells #[.int .i64 (plc (LX T k k 0) cA:Int)] 3)).ownsRow w5.heap.size 3 1 (.slice aW k cW) k (ivs (IX T k k 0))/\
      (wb.alloc (.cells #[.int .i64 (plc (LX T k k 0) cA:Int)] 3)).ownsRow w5.heap.size 3 1 (.slice (some ⟨wb.heap.size,0,none⟩) 1 1) 1 [.int .i64 (plc (LX T k k 0) cA:Int)]/\w5.heap.size<=(wb.alloc (.cells #[.int .i64 (plc (LX T k k 0) cA:Int)] 3)).heap.size from by
      have hb:=boxed wb (.cells #[.int .i64 (plc (LX T k k 0) cA:Int)] 3);have c3':=h.cell (k:=0) (by decide);rw[i0]at c3';have hr:=(h.went hb).idx 0 (by decide);rw[i0,il0]at hr
      exact⟨c3',cell_later hb c3',hr,zCr _ wb _ _ h.fr.size _ rfl,Nat.le_trans h.fr.size hb.size⟩))
    have S3:=zV7 (fun(wb:World) (v':Nat->Value) (vs':Nat->List Value) (h:PkI w5 p (w5.heap.size+1) w5.heap.size (.slice (some ⟨b,0,none⟩) T.rules.length T.rules.length) (.int .i64 T.terms) (.int .i64 T.nons) (upd (LX T k k) 0 (putR (LX T k k 0) cA)) v' vs' vI (IX T k k) wb)
      (v7:Value) (w7:World) (hown:w7.ownsRow w5.heap.size 3 1 v7 (k+1) (ivs (IX T k k 0)++[.int .i64 (plc (LX T k k 0) cA:Int)])) (hg:(wb.alloc (.cells #[.int .i64 (plc (LX T k k 0) cA:Int)] 3)).grownBy w7 (Value.slice aW k cW).ownBlock) (hl:v7.ownBlock=(Value.slice aW k cW).ownBlock\/v7.ownBlock=some (wb.alloc (.cells #[.int .i64 (plc (LX T k k 0) cA:Int)] 3)).heap.size)=>
     (show w7.cell? ⟨p,3,none⟩=some (.slice aW k cW)/\w7.frozen? ⟨p,3,none⟩=false/\∃vI',PkI w5 p (w5.heap.size+1) w5.heap.size (.slice (some ⟨b,0,none⟩) T.rules.length T.rules.length) (.int .i64 T.terms) (.int .i64 T.nons) (LX T (k+1) k) v' vs' vI' (IX T (k+1) k) (w7.setCell ⟨p,3,none⟩ v7)from by
      rw[←i0]at hg hl;have hb:=boxed wb (.cells #[.int .i64 (plc (LX T k k 0) cA:Int)] 3);have hm:=h.mid (by decide) hb hg;rw[←LAe.out,←IAe.out];have c3':=zAA hm (k:=3) (by simp[pkc]);refine⟨c3'.trans ?_,zAM hm,_,h.rowed (k:=0) (by decide) hb (by rw[il0];exact hown) hg hl⟩;rw[←i0]
      rfl))
    clear fr0 z0 z1 z2 z4 dw hra hmapA il0 il1;go_wp2_with fail;go_cut []from 37 to 63 (fun wx=>∃(v':Nat->Value) (vs':Nat->List Value) (vI':Nat->Value),PkI w5 p (w5.heap.size+1) w5.heap.size (.slice (some ⟨b,0,none⟩) T.rules.length T.rules.length) (.int .i64 T.terms) (.int .i64 T.nons) (LX T (k+1) k) v' vs' vI' (IX T (k+1) k) wx)
    case first=>
     go_region_law (first
      |(go_simp;go_at_call 29;(with_reducible refine(EA.out).mono ?_);rintro e wa ⟨b1,rfl,hlo1,hh1,hb1⟩;obtain⟨I2',D2',c32,PL'⟩:=S1.out wa b1 hlo1 hh1 hb1;have I2:=zV7 I2';have D2:=zV7 D2';have PL:=zV7 PL';clear I2' D2' PL' hlo1 hh1 hb1)
      |(go_simp;go_at_call 28;(with_reducible refine(PL.out).mono ?_);rintro e wb ⟨rfl,v',hst,hfr,_⟩;have I3:=zV7 (I2.out.placed (by decide) D2.out hst hfr);obtain⟨c33,c34,r3',o3',s3⟩:=S2.out wb _ _ I3.out;have R3:=zV7 r3';have O3:=zV7 o3';clear hst hfr r3' o3')
      | (refine Rw.zAH _ (by rfl) _ _ 29 (by rfl) w5.heap.size 3 i1r (.int .i64 0) 1 8 Tryz.underlying29 hj1 hy0 hy1 hy2 rfl (by decide) (.slice aW k cW) k _ (by rfl) R3.out w5.heap.size (.slice (some ⟨wb.heap.size,0,none⟩) 1 1) 1 [.int .i64 (plc (LX T k k 0) cA:Int)] (by rfl) O3.out (by simp[Value.oneCell']) (by unfold maxLen;omega) (by omega) s3 ?_;intro v7 w7 hown7 hg7 hloc7;obtain⟨a7,c7,rfl⟩:=Rw.zAG hown7;obtain⟨q9,f9,x7⟩:=S3.out wb _ _ I3.out _ w7 hown7 hg7 hloc7;have R7:=zV7 x7;clear hown7 hg7 hloc7 x7))
     all_goals
      go_wp2_with fail;go_meet
      case rel=>
       obtain⟨vI',x7⟩:=R7.out;exact⟨_,_,vI',x7⟩
    case rest=>
     clear EA CA LAe IAe S1 S2 S3 c3 i0 p0 I;obtain⟨v,vs,vI,hI⟩:=hcut;have I:=zV7 hI;clear hI;generalize wc=wr at*;have fr0:=I.out.fr;obtain⟨z0,z1,z2,z3,z4⟩:=ZW.out wr fr0;have dw:=DW.out wr fr0;obtain⟨ba2,oa2,ra2,rca2,rfl,p0,hra,_,_⟩:=dw.goto k hkg2
     have EG:=zV7 (zGr T.goto[k] ra2 rca2 wr.drew (hra.went (drawn wr)) (SS.out.gr _ (List.getElem_mem hkg2)) (fun x hx=>by
      have:=zHE ((PT.out.goto _ (List.getElem_mem hkg2)).2 x hx) PT.out.a1
      omega))
     have CG:=zV7 (zSS PT.out SS.out hkg2);have LGe:=zV7 (LX_g (T:=T) (ka:=k+1) (kg:=k) HG.out);have IGe:=zV7 (IX_g (T:=T) (ka:=k+1) (kg:=k) HG.out);rw[eG]at LGe IGe;have hmapG:(T.goto[k].map fun x=>Value.int .u16 (zBF x))=(T.goto[k].map zBF).map fun c=>Value.int .u16 c:=by rw[List.map_map];rfl
     have hlenG:(T.goto[k].map zBF).length=T.goto[k].length:=List.length_map _;rw[hmapG]at EG;generalize T.goto[k]=rowG at*;generalize rowG.map zBF=cG' at*;obtain⟨il0,il1⟩:=zMA T (ka:=k+1) (kg:=k) (by omega) (by omega);obtain⟨aW,cW,i1⟩:=Rw.zAG (I.out.idx 1 (by decide));rw[il1]at i1;have c5:=I.out.cell (k:=1) (by decide);rw[i1]at c5
     have S1:=zV7 (fun(wa:World) (b1:Nat) (hlo:wr.drew.heap.size<=b1) (hh:wa.heap[b1]?=some (.cells (cG'.map fun c=>Value.int .u16 c).toArray 48 (0,0))) (hb:Below wr.drew.heap.size wr.drew wa)=>
      (show PkI w5 p (w5.heap.size+1) w5.heap.size (.slice (some ⟨b,0,none⟩) T.rules.length T.rules.length) (.int .i64 T.terms) (.int .i64 T.nons) (LX T (k+1) k) v vs vI (IX T (k+1) k) wa/\Dat w5.heap.size cG' (.slice (some ⟨b1,0,none⟩) rowG.length rowG.length) wa/\wa.cell? ⟨p,5,none⟩=some (.slice aW k cW)/\
       Calls Tryz.prog 28 #[.pointer (some ⟨w5.heap.size+1,0,none⟩),.int .i64 1,.slice (some ⟨b1,0,none⟩) rowG.length rowG.length] wa (zJl w5.heap.size (w5.heap.size+1) w5.heap.size (LX T (k+1) k) v vs 1 cG' (.slice (some ⟨b1,0,none⟩) rowG.length rowG.length) wa)from by
       have I2:=I.out.went (Gr.step (drawn wr) hb);have c5':=I2.cell (k:=1) (by decide);rw[i1]at c5';have hp:=zFa wa I2.st 1 (by decide) cG' (some ⟨b1,0,none⟩) rowG.length (zBq hh) CG.out (fun j _=>HLL.out (k+1) k j);rw[hlenG]at hp
       exact⟨I2,⟨b1,by rw[hlenG],hh,Nat.le_trans I.out.fr.size hlo⟩,c5',hp⟩))
     have S2:=zV7 (fun(wb:World) (v':Nat->Value) (vs':Nat->List Value) (h:PkI w5 p (w5.heap.size+1) w5.heap.size (.slice (some ⟨b,0,none⟩) T.rules.length T.rules.length) (.int .i64 T.terms) (.int .i64 T.nons) (upd (LX T (k+1) k) 1 (putR (LX T (k+1) k 1) cG')) v' vs' vI (IX T (k+1) k) wb)=>
      (show wb.cell? ⟨p,5,none⟩=some (.slice aW k cW)/\(wb.alloc (.cells #[.int .i64 (plc (LX T (k+1) k 1) cG':Int)] 3)).cell? ⟨p,5,none⟩=some (.slice aW k cW)/\(wb.alloc (.cells #[.int .i64 (plc (LX T (k+1) k 1) cG':Int)] 3)).ownsRow w5.heap.size 3 1 (.slice aW k cW) k (ivs (IX T (k+1) k 1))/\
       (wb.alloc (.cells #[.int .i64 (plc (LX T (k+1) k 1) cG':Int)] 3)).ownsRow w5.heap.size 3 1 (.slice (some ⟨wb.heap.size,0,none⟩) 1 1) 1 [.int .i64 (plc (LX T (k+1) k 1) cG':Int)]/\w5.heap.size<=(wb.alloc (.cells #[.int .i64 (plc (LX T (k+1) k 1) cG':Int)] 3)).heap.size from by
       have hb:=boxed wb (.cells #[.int .i64 (plc (LX T (k+1) k 1) cG':Int)] 3);have c5':=h.cell (k:=1) (by decide);rw[i1]at c5';have hr:=(h.went hb).idx 1 (by decide);rw[i1,il1]at hr
       exact⟨c5',cell_later hb c5',hr,zCr _ wb _ _ h.fr.size _ rfl,Nat.le_trans h.fr.size hb.size⟩))
     have S3:=zV7 (fun(wb:World) (v':Nat->Value) (vs':Nat->List Value) (h:PkI w5 p (w5.heap.size+1) w5.heap.size (.slice (some ⟨b,0,none⟩) T.rules.length T.rules.length) (.int .i64 T.terms) (.int .i64 T.nons) (upd (LX T (k+1) k) 1 (putR (LX T (k+1) k 1) cG')) v' vs' vI (IX T (k+1) k) wb)
       (v7:Value) (w7:World) (hown:w7.ownsRow w5.heap.size 3 1 v7 (k+1) (ivs (IX T (k+1) k 1)++[.int .i64 (plc (LX T (k+1) k 1) cG':Int)])) (hg:(wb.alloc (.cells #[.int .i64 (plc (LX T (k+1) k 1) cG':Int)] 3)).grownBy w7 (Value.slice aW k cW).ownBlock) (hl:v7.ownBlock=(Value.slice aW k cW).ownBlock\/v7.ownBlock=some (wb.alloc (.cells #[.int .i64 (plc (LX T (k+1) k 1) cG':Int)] 3)).heap.size)=>
      (show w7.cell? ⟨p,5,none⟩=some (.slice aW k cW)/\w7.frozen? ⟨p,5,none⟩=false/\∃vI',PkI w5 p (w5.heap.size+1) w5.heap.size (.slice (some ⟨b,0,none⟩) T.rules.length T.rules.length) (.int .i64 T.terms) (.int .i64 T.nons) (LX T (k+1) (k+1)) v' vs' vI' (IX T (k+1) (k+1)) (w7.setCell ⟨p,5,none⟩ v7)from by
       rw[←i1]at hg hl;have hb:=boxed wb (.cells #[.int .i64 (plc (LX T (k+1) k 1) cG':Int)] 3);have hm:=h.mid (by decide) hb hg;rw[←LGe.out,←IGe.out];have c5':=zAA hm (k:=5) (by simp[pkc]);refine⟨c5'.trans ?_,zAM hm,_,h.rowed (k:=1) (by decide) hb (by rw[il1];exact hown) hg hl⟩;rw[←i1]
       rfl))
     clear fr0 z0 z1 z2 z3 dw hra hmapG il0 il1;go_wp2_with fail
     go_region_law (first
      |(go_simp;go_at_call 31;(with_reducible refine(EG.out).mono ?_);rintro e wa ⟨b1,rfl,hlo1,hh1,hb1⟩;obtain⟨I2',D2',c52,PL'⟩:=S1.out wa b1 hlo1 hh1 hb1;have I2:=zV7 I2';have D2:=zV7 D2';have PL:=zV7 PL';clear I2' D2' PL' hlo1 hh1 hb1)
      |(go_simp;go_at_call 28;(with_reducible refine(PL.out).mono ?_);rintro e wb ⟨rfl,v',hst,hfr,_⟩;have I3:=zV7 (I2.out.placed (by decide) D2.out hst hfr);obtain⟨c53,c54,r3',o3',s3⟩:=S2.out wb _ _ I3.out;have R3:=zV7 r3';have O3:=zV7 o3';clear hst hfr r3' o3')
      | (refine Rw.zAH _ (by rfl) _ _ 29 (by rfl) w5.heap.size 3 i1r (.int .i64 0) 1 8 Tryz.underlying29 hj1 hy0 hy1 hy2 rfl (by decide) (.slice aW k cW) k _ (by rfl) R3.out w5.heap.size (.slice (some ⟨wb.heap.size,0,none⟩) 1 1) 1 [.int .i64 (plc (LX T (k+1) k 1) cG':Int)] (by rfl) O3.out (by simp[Value.oneCell']) (by unfold maxLen;omega) (by omega) s3 ?_;intro v7 w7 hown7 hg7 hloc7;obtain⟨a7,c7,rfl⟩:=Rw.zAG hown7;obtain⟨q9,f9,x7⟩:=S3.out wb _ _ I3.out _ w7 hown7 hg7 hloc7;have R7:=zV7 x7;clear hown7 hg7 hloc7 x7))
     all_goals
      obtain⟨vI',x7⟩:=R7.out;have IE:=zV7 x7;clear x7 R7 S1 S2 S3 EG CG LGe IGe I;go_wp2_with fail;go_roundw
      case rel=>exact⟨k+1,_,_,_,by go_num,by omega,IE.out⟩
      case measure=>first|(simp[intOf];omega)|omega
   ·obtain rfl:k=T.acts.length:=by omega
    obtain⟨il0,il1⟩:=zMA T (ka:=T.acts.length) (kg:=T.acts.length) (by omega) (by omega);obtain⟨aX,cX,e0⟩:=Rw.zAG (I.out.st.row 0 (by decide));obtain⟨aH,cH,e1⟩:=Rw.zAG (I.out.st.row 1 (by decide));obtain⟨aW,cW,i0⟩:=Rw.zAG (I.out.idx 0 (by decide));obtain⟨aG',cG',i1⟩:=Rw.zAG (I.out.idx 1 (by decide));rw[il0]at i0;rw[il1]at i1;have hbx:=I.out.box;unfold pkc at hbx;rw[i0,i1]at hbx;have st:=I.out.st.box;rw[e0,e1]at st;have s1:=zAA st (k:=1) (by simp);have s2:=zAA st (k:=2) (by simp);have t0:=zAA hbx (k:=0) (by simp);have t1:=zAA hbx (k:=1) (by simp);have t2:=zAA hbx (k:=2) (by simp);have t3:=zAA hbx (k:=3) (by simp);have t4:=zAA hbx (k:=4) (by simp);have t5:=zAA hbx (k:=5) (by simp);have t6:=zAA hbx (k:=6) (by simp);have g4:=zAM (k:=4) hbx;have g6:=zAM (k:=6) hbx;simp only[List.getElem_toArray,List.getElem_cons_zero,List.getElem_cons_succ]at s1 s2 t0 t1 t2 t3 t4 t5 t6;clear hLA hLG il0 il1;go_wp2_with fail;go_region
    have hE:(((wr.setCell ⟨p,4,none⟩ (.slice aX (LX T T.acts.length T.acts.length 0).length cX)).setCell ⟨p,6,none⟩ (.slice aH (LX T T.acts.length T.acts.length 1).length cH)).drew).heap[p]?=some (.cells #[.slice (some ⟨b,0,none⟩) T.rules.length T.rules.length,.int .i64 T.terms,.int .i64 T.nons,.slice aW T.acts.length cW,.slice aX (LX T T.acts.length T.acts.length 0).length cX,.slice aG' T.acts.length cG',.slice aH (LX T T.acts.length T.acts.length 1).length cH] 32 (0,0)):=by
     show((wr.setCell ⟨p,4,none⟩ (.slice aX (LX T T.acts.length T.acts.length 0).length cX)).setCell ⟨p,6,none⟩ (.slice aH (LX T T.acts.length T.acts.length 1).length cH)).heap[p]?= _;rw[zAU (k:=6) (zAU (k:=4) hbx _)]
     rfl
    have hf:Fr (fun x=>x=p) wr ((wr.setCell ⟨p,4,none⟩ (.slice aX (LX T T.acts.length T.acts.length 0).length cX)).setCell ⟨p,6,none⟩ (.slice aH (LX T T.acts.length T.acts.length 1).length cH)).drew:=
     (((Fr.refl (fun x=>x=p) wr).setCell ⟨p,4,none⟩ rfl _).setCell ⟨p,6,none⟩ rfl _).drew
    have HF:=zV7 hf;have DN:=zV7 (fun(w':World) (hw:Fr (fun x=>x=p\/x<w3.heap.size) wr w')=>zN5 PT.out SS.out FF.out OB.out I.out e0 e1 i0 i1 hw);clear e0 e1 i0 i1 hbx st s1 s2 t0 t1 t2 t3 t4 t5 t6 g4 g6 hf;generalize LX T T.acts.length T.acts.length=LL at*;generalize ((wr.setCell ⟨p,4,none⟩ (.slice aX (LL 0).length cX)).setCell ⟨p,6,none⟩ (.slice aH (LL 1).length cH)).drew=wE at*;have FE:=zV7 (I.out.fr.trans HF.out fun x hx=> .inl hx);have Y:=YW.out wE FE.out;have t0:=zAA hE (k:=0) (by simp);have t1:=zAA hE (k:=1) (by simp);have t2:=zAA hE (k:=2) (by simp);have t3:=zAA hE (k:=3) (by simp);have t4:=zAA hE (k:=4) (by simp);have t5:=zAA hE (k:=5) (by simp);have t6:=zAA hE (k:=6) (by simp);have y0:=zAA Y (k:=0) (by simp);have y1:=zAA Y (k:=1) (by simp);have y2:=zAA Y (k:=2) (by simp);have y3:=zAA Y (k:=3) (by simp);have y4:=zAA Y (k:=4) (by simp);have y5:=zAA Y (k:=5) (by simp);have y6:=zAA Y (k:=6) (by simp);have f0:=zAM (k:=0) Y;have f1:=zAM (k:=1) Y;have f2:=zAM (k:=2) Y;have f3:=zAM (k:=3) Y;have f4:=zAM (k:=4) Y;have f5:=zAM (k:=5) Y;have f6:=zAM (k:=6) Y;simp only[List.getElem_toArray,List.getElem_cons_zero,List.getElem_cons_succ]at t0 t1 t2 t3 t4 t5 t6 y0 y1 y2 y3 y4 y5 y6;have EE:=zV7 (zDD Y (.slice (some ⟨b,0,none⟩) T.rules.length T.rules.length) (.int .i64 T.terms) (.int .i64 T.nons) (.slice aW T.acts.length cW) (.slice aX (LL 0).length cX) (.slice aG' T.acts.length cG') (.slice aH (LL 1).length cH));have BE:=zV7 (zBp (Gr.step B3.out (TW.out wE FE.out)) (Nat.le_succ w.heap.size) (.slice (some ⟨b,0,none⟩) T.rules.length T.rules.length) (.int .i64 T.terms) (.int .i64 T.nons) (.slice aW T.acts.length cW) (.slice aX (LL 0).length cX) (.slice aG' T.acts.length cG') (.slice aH (LL 1).length cH));have hs3:w.heap.size+1<w3.heap.size:=(Array.getElem?_eq_some_iff.1 Y3.out).1;have DE:=zV7 (DN.out _ ((HF.out.mono fun x hx=> .inl hx).trans ((zHN wE (w.heap.size+1) (.slice (some ⟨b,0,none⟩) T.rules.length T.rules.length) (.int .i64 T.terms) (.int .i64 T.nons) (.slice aW T.acts.length cW) (.slice aX (LL 0).length cX) (.slice aG' T.acts.length cG') (.slice aH (LL 1).length cH)).mono (T:=fun x=>x=p\/x<w3.heap.size) fun x hx=> .inr (by omega)) fun x hx=> .inl hx));clear Y hE;go_wp2_with fail;change bodyPost _ _ _ _ _ (set7 wE (w.heap.size+1) (.slice (some ⟨b,0,none⟩) T.rules.length T.rules.length) (.int .i64 T.terms) (.int .i64 T.nons) (.slice aW T.acts.length cW) (.slice aX (LL 0).length cX) (.slice aG' T.acts.length cG') (.slice aH (LL 1).length cH));obtain⟨e0,e1,e2,e3,e4,e5,e6⟩:=EE.out;have BF:=zV7 (show Below w.heap.size w (set7 wE (w.heap.size+1) (.slice (some ⟨b,0,none⟩) T.rules.length T.rules.length) (.int .i64 T.terms) (.int .i64 T.nons) (.slice aW T.acts.length cW) (.slice aX (LL 0).length cX) (.slice aG' T.acts.length cG') (.slice aH (LL 1).length cH))from BE.out);have DF:=zV7 (show _/\_/\_/\_/\PAt (zAq T) (some ⟨b,0,none⟩) T.rules.length aW cW aX cX aG' cG' aH cH (set7 wE (w.heap.size+1) (.slice (some ⟨b,0,none⟩) T.rules.length T.rules.length) (.int .i64 T.terms) (.int .i64 T.nons) (.slice aW T.acts.length cW) (.slice aX (LL 0).length cX) (.slice aG' T.acts.length cG') (.slice aH (LL 1).length cH))from DE.out);generalize set7 wE (w.heap.size+1) (.slice (some ⟨b,0,none⟩) T.rules.length T.rules.length) (.int .i64 T.terms) (.int .i64 T.nons) (.slice aW T.acts.length cW) (.slice aX (LL 0).length cX) (.slice aG' T.acts.length cG') (.slice aH (LL 1).length cH)=wF at*;obtain⟨d0,d1,d2,d3,dP⟩:=DF.out;have YF:=YES.out wF _ _ _ _ _ _ _ _ _ _ BF.out dP;unfold pvs at YF;rw[←d0,←d1,←d2,←d3]at YF;have YF:=zV7 YF;clear d0 d1 d2 d3 dP;refine bodyPost_ret (v:=.tuple #[.agg #[.slice (some ⟨b,0,none⟩) T.rules.length T.rules.length,.int .i64 T.terms,.int .i64 T.nons,.slice aW T.acts.length cW,.slice aX (LL 0).length cX,.slice aG' T.acts.length cG',.slice aH (LL 1).length cH],.bool true]) (by simp[results,Tryz.results9,go_sem,e0,e1,e2,e3,e4,e5,e6]) rfl YF.out
