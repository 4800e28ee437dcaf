/- Proof. -/
import Derived.Test.YtegeamggbglneaaGreatDoorPk28
import Derived.Test.YtegeamggbglneaaGreatDoorPk30
set_option maxHeartbeats 8000000
set_option maxRecDepth 100000
set_option linter.unusedVariables false
namespace Go.Proofs.YtegeamggbglneaaGreatDoor
open Go.RowKit Go.Maps
namespace Fi
open Gr
structure Pass (G:ai) (α:Type) where
 Inv:α->Prop
 Tr:α->Nat->α->Bool->Prop
 ms:α->Nat
 Fin:α->Prop
 zero:∀T,Inv T->Tr T 0 T false
 inv:∀T0 j T b,Tr T0 j T b->Inv T
 yes:∀T0 j T,Tr T0 j T true->ms T<ms T0
 fin:∀T0 j T,Tr T0 j T false->¬j<G.rules.length->Fin T
def Jv{G}{α}(Y:Pass G α)(St:α->World->Prop)(S:Nat->Prop)(T0:α)(j:Nat)(b0:Bool)(w:World)(e:Ending)(w':World):Prop:=
 ∃b T,e=.returned (.bool b)/\Y.Tr T0 (j+1) T (b0||b)/\St T w'/\Sep.Fr S w w'
def xh{G}{α}(Y:Pass G α)(St:α->World->Prop)(S:Nat->Prop)(w:World)(e:Ending)(w':World):Prop:=
 ∃v T,e=.returned v/\Y.Fin T/\St T w'/\Sep.Fr S w w'
def OQ{G}{α}(Y:Pass G α)(St:α->World->Prop)(S:Nat->Prop)(W:World)(g:Nat)(m:Value)(w:World):Prop:=
 ∃(T:α) (b:Bool),m=.bool b/\St T w/\Y.Inv T/\Sep.Fr S W w/\(b=true->Y.ms T+1<=g)/\(b=false->Y.Fin T)
def xj{G}{α}(Y:Pass G α)(St:α->World->Prop)(S:Nat->Prop)(W:World)(T0:α)(m i:Value)(w:World):Prop:=
 ∃(j:Nat) (T:α) (b:Bool),j<=G.rules.length/\i=.int .i64 j/\m=.bool b/\St T w/\Y.Tr T0 j T b/\Sep.Fr S W w
theorem zRm(p:Nat)(W0 w:World)(h:Sh)(G:ai)(k:bI h G W0){α:Type}(Y:Pass G α)(St:α->World->Prop)(S:Nat->Prop)(T0:α)
  (hr:G.rules.length<=300) (hb0:Below W0.heap.size W0 w) (hS:∀b,S b->W0.heap.size<=b)
  (vo:∀T w1 w2,St T w1->Below w1.heap.size w1 w2->St T w2)
  (add:∀T0 T j b0 w1 ra rc (hj:j<G.rules.length),St T w1->Y.Tr T0 j T b0->Below W0.heap.size W0 w1->Sep.Reads ra (aN G.rules[j].2) W0->G.rules[j].2.length<=rc->
   Calls Tryz.prog 160 #[.pointer (some ⟨p,0,none⟩),.agg #[.int .i64 G.rules[j].1,.slice ra G.rules[j].2.length rc]] w1 (Jv Y St S T0 j b0 w1))
  (h0:St T0 w) (hI:Y.Inv T0):
  Calls Tryz.prog 159 #[.slice h.a3 G.rules.length h.c3,.func (.func 160) #[.pointer (some ⟨p,0,none⟩)] #[]] w (xh Y St S w):=by
 obtain⟨a1,c1,a2,c2,a3,c3⟩:=h;dsimp only;have KG:=af k;have H0:=af h0;have I0:=af hI;have AD:=af add;have ST:=af vo;have BB:=af (show∀w',Sep.Fr S w w'->Below W0.heap.size W0 w' from fun w' f=>hb0.trans (f.below hS hb0.size));clear k hb0 hS vo add h0 hI;go_enter Tryz.func159,Tryz.ntmps159;go_wp2;go_loopg [4] (Y.ms T0+2) (fun g m wr=>OQ Y St S w g m wr)
 case atStart=>exact⟨T0,true,rfl,H0.out,I0.out,.refl _ _,fun _=>by omega,fun h=>by cases h⟩
 case round=>
  clear H0 I0;obtain⟨T,b,rfl,hs,hi,hf,hg,hn⟩:=hrel;have S1:=af hs;have I1:=af hi;have F1:=af hf;cases b with
  |false=>
   have N:=af (hn rfl);clear hs hi hf hg hn;go_wp2;go_end0;exact⟨_,T,rfl,N.out,S1.out,F1.out⟩
  |true=>
   have GG:=af (hg rfl);have Z:=af (Y.zero T hi);clear hs hi hf hg hn;go_wp2;go_loopw [4,10] (fun m i wr=>xj Y St S w T m i wr) (fun _ i _=>G.rules.length-(intOf i).toNat)
   case atStart=>exact⟨0,T,false,Nat.zero_le _,rfl,rfl,S1.out,Z.out,F1.out⟩
   case round=>
    clear S1 I1 F1 Z;obtain⟨j,U,b,hj,rfl,rfl,hs,ht,hf⟩:=hrel;have S1:=af hs;have R1:=af ht;have F1:=af hf;clear hs ht hf
    by_cases hlt:j<G.rules.length
    ·obtain⟨bb,o,ra,rc,e,h1,h2,h3,h4,h5⟩:=KG.out.rules j hlt;dsimp only at e;subst e;have g1:=(BB.out _ F1.out).cell (p:=⟨bb,o+j*2,none⟩) (World.block_lt_of_cell? _ _ h1) |>.trans h1;have g2:=(BB.out _ F1.out).cell (p:=⟨bb,o+j*2+1,none⟩) (World.block_lt_of_cell? _ _ h2) |>.trans h2;have AC:=af (fun w1 hs hb=>AD.out T U j b w1 ra rc hlt hs R1.out hb h3 h4);have hr1:=KG.out.r1;clear h1 h2 h3 h4 h5;generalize G.rules[j]=r at*;obtain⟨left,R⟩:=r;dsimp only at g1 g2 AC;have bx:=boxed wr (.cells #[.int .i64 left,.slice ra R.length rc] 55);have S2:=af (ST.out _ _ _ S1.out bx);have F2:=af (Rw.zU F1.out bx);clear bx;go_wp2_with fail;refine(AC.out _ S2.out (BB.out _ F2.out)).mono ?_;rintro e w3 ⟨b1,U2,rfl,vB,hs3,hf3⟩;have S3:=af hs3;have R3:=af vB;have F3:=af (F2.out.trans hf3 fun _ h=> .inl h);clear vB hs3 hf3;cases b1 with
     |false=>
      have R4:=af (show Y.Tr T (j+1) U2 b by have:=R3.out;rwa [Bool.or_false]at this);clear R3;go_wp2;go_roundw
      case rel=>exact⟨j+1,U2,b,by omega,by go_num,rfl,S3.out,R4.out,F3.out⟩
      case measure=>simp[intOf];omega
     |true=>
      have R4:=af (show Y.Tr T (j+1) U2 true by have:=R3.out;rwa [Bool.or_true]at this);clear R3;go_wp2;go_roundw
      case rel=>exact⟨j+1,U2,true,by omega,by go_num,rfl,S3.out,R4.out,F3.out⟩
      case measure=>simp[intOf];omega
    ·have I2:=af (Y.inv _ _ _ _ R1.out);have YS:=af (show b=true->Y.ms U<Y.ms T from fun e=>by subst e;exact Y.yes _ _ _ R1.out);have NO:=af (show b=false->Y.Fin U from fun e=>by subst e;exact Y.fin _ _ _ R1.out hlt);have hgg:=GG.out;go_wp2;go_roundg (Y.ms T)
     case measure=>omega
     case rel=>exact⟨U,b,rfl,S1.out,I2.out,F1.out,fun e=>by have:=YS.out e;omega,NO.out⟩
theorem zRn(p:Nat)(W0 w:World)(h:Sh)(G:ai)(k:bI h G W0){α:Type}(Y:Pass G α)(St:α->World->Prop)(S:Nat->Prop)(T0:α)
  (hr:G.rules.length<=300) (hb0:Below W0.heap.size W0 w) (hS:∀b,S b->W0.heap.size<=b)
  (vo:∀T w1 w2,St T w1->Below w1.heap.size w1 w2->St T w2)
  (add:∀T0 T j b0 w1 ra rc (hj:j<G.rules.length),St T w1->Y.Tr T0 j T b0->Below W0.heap.size W0 w1->Sep.Reads ra (aN G.rules[j].2) W0->G.rules[j].2.length<=rc->
   Calls Tryz.prog 161 #[.pointer (some ⟨p,0,none⟩),.agg #[.int .i64 G.rules[j].1,.slice ra G.rules[j].2.length rc]] w1 (Jv Y St S T0 j b0 w1))
  (h0:St T0 w) (hI:Y.Inv T0):
  Calls Tryz.prog 159 #[.slice h.a3 G.rules.length h.c3,.func (.func 161) #[.pointer (some ⟨p,0,none⟩)] #[]] w (xh Y St S w):=by
 obtain⟨a1,c1,a2,c2,a3,c3⟩:=h;dsimp only;have KG:=af k;have H0:=af h0;have I0:=af hI;have AD:=af add;have ST:=af vo;have BB:=af (show∀w',Sep.Fr S w w'->Below W0.heap.size W0 w' from fun w' f=>hb0.trans (f.below hS hb0.size));clear k hb0 hS vo add h0 hI;go_enter Tryz.func159,Tryz.ntmps159;go_wp2;go_loopg [4] (Y.ms T0+2) (fun g m wr=>OQ Y St S w g m wr)
 case atStart=>exact⟨T0,true,rfl,H0.out,I0.out,.refl _ _,fun _=>by omega,fun h=>by cases h⟩
 case round=>
  clear H0 I0;obtain⟨T,b,rfl,hs,hi,hf,hg,hn⟩:=hrel;have S1:=af hs;have I1:=af hi;have F1:=af hf;cases b with
  |false=>
   have N:=af (hn rfl);clear hs hi hf hg hn;go_wp2;go_end0;exact⟨_,T,rfl,N.out,S1.out,F1.out⟩
  |true=>
   have GG:=af (hg rfl);have Z:=af (Y.zero T hi);clear hs hi hf hg hn;go_wp2;go_loopw [4,10] (fun m i wr=>xj Y St S w T m i wr) (fun _ i _=>G.rules.length-(intOf i).toNat)
   case atStart=>exact⟨0,T,false,Nat.zero_le _,rfl,rfl,S1.out,Z.out,F1.out⟩
   case round=>
    clear S1 I1 F1 Z;obtain⟨j,U,b,hj,rfl,rfl,hs,ht,hf⟩:=hrel;have S1:=af hs;have R1:=af ht;have F1:=af hf;clear hs ht hf
    by_cases hlt:j<G.rules.length
    ·obtain⟨bb,o,ra,rc,e,h1,h2,h3,h4,h5⟩:=KG.out.rules j hlt;dsimp only at e;subst e;have g1:=(BB.out _ F1.out).cell (p:=⟨bb,o+j*2,none⟩) (World.block_lt_of_cell? _ _ h1) |>.trans h1;have g2:=(BB.out _ F1.out).cell (p:=⟨bb,o+j*2+1,none⟩) (World.block_lt_of_cell? _ _ h2) |>.trans h2;have AC:=af (fun w1 hs hb=>AD.out T U j b w1 ra rc hlt hs R1.out hb h3 h4);have hr1:=KG.out.r1;clear h1 h2 h3 h4 h5;generalize G.rules[j]=r at*;obtain⟨left,R⟩:=r;dsimp only at g1 g2 AC;have bx:=boxed wr (.cells #[.int .i64 left,.slice ra R.length rc] 55);have S2:=af (ST.out _ _ _ S1.out bx);have F2:=af (Rw.zU F1.out bx);clear bx;go_wp2_with fail;refine(AC.out _ S2.out (BB.out _ F2.out)).mono ?_;rintro e w3 ⟨b1,U2,rfl,vB,hs3,hf3⟩;have S3:=af hs3;have R3:=af vB;have F3:=af (F2.out.trans hf3 fun _ h=> .inl h);clear vB hs3 hf3;cases b1 with
     |false=>
      have R4:=af (show Y.Tr T (j+1) U2 b by have:=R3.out;rwa [Bool.or_false]at this);clear R3;go_wp2;go_roundw
      case rel=>exact⟨j+1,U2,b,by omega,by go_num,rfl,S3.out,R4.out,F3.out⟩
      case measure=>simp[intOf];omega
     |true=>
      have R4:=af (show Y.Tr T (j+1) U2 true by have:=R3.out;rwa [Bool.or_true]at this);clear R3;go_wp2;go_roundw
      case rel=>exact⟨j+1,U2,true,by omega,by go_num,rfl,S3.out,R4.out,F3.out⟩
      case measure=>simp[intOf];omega
    ·have I2:=af (Y.inv _ _ _ _ R1.out);have YS:=af (show b=true->Y.ms U<Y.ms T from fun e=>by subst e;exact Y.yes _ _ _ R1.out);have NO:=af (show b=false->Y.Fin U from fun e=>by subst e;exact Y.fin _ _ _ R1.out hlt);have hgg:=GG.out;go_wp2;go_roundg (Y.ms T)
     case measure=>omega
     case rel=>exact⟨U,b,rfl,S1.out,I2.out,F1.out,fun e=>by have:=YS.out e;omega,NO.out⟩
theorem zRl(p:Nat)(W0 w:World)(h:Sh)(G:ai)(k:bI h G W0){α:Type}(Y:Pass G α)(St:α->World->Prop)(S:Nat->Prop)(T0:α)
  (hr:G.rules.length<=300) (hb0:Below W0.heap.size W0 w) (hS:∀b,S b->W0.heap.size<=b)
  (vo:∀T w1 w2,St T w1->Below w1.heap.size w1 w2->St T w2)
  (add:∀T0 T j b0 w1 ra rc (hj:j<G.rules.length),St T w1->Y.Tr T0 j T b0->Below W0.heap.size W0 w1->Sep.Reads ra (aN G.rules[j].2) W0->G.rules[j].2.length<=rc->
   Calls Tryz.prog 162 #[.pointer (some ⟨p,0,none⟩),.agg #[.int .i64 G.rules[j].1,.slice ra G.rules[j].2.length rc]] w1 (Jv Y St S T0 j b0 w1))
  (h0:St T0 w) (hI:Y.Inv T0):
  Calls Tryz.prog 159 #[.slice h.a3 G.rules.length h.c3,.func (.func 162) #[.pointer (some ⟨p,0,none⟩)] #[]] w (xh Y St S w):=by
 obtain⟨a1,c1,a2,c2,a3,c3⟩:=h;dsimp only;have KG:=af k;have H0:=af h0;have I0:=af hI;have AD:=af add;have ST:=af vo;have BB:=af (show∀w',Sep.Fr S w w'->Below W0.heap.size W0 w' from fun w' f=>hb0.trans (f.below hS hb0.size));clear k hb0 hS vo add h0 hI;go_enter Tryz.func159,Tryz.ntmps159;go_wp2;go_loopg [4] (Y.ms T0+2) (fun g m wr=>OQ Y St S w g m wr)
 case atStart=>exact⟨T0,true,rfl,H0.out,I0.out,.refl _ _,fun _=>by omega,fun h=>by cases h⟩
 case round=>
  clear H0 I0;obtain⟨T,b,rfl,hs,hi,hf,hg,hn⟩:=hrel;have S1:=af hs;have I1:=af hi;have F1:=af hf;cases b with
  |false=>
   have N:=af (hn rfl);clear hs hi hf hg hn;go_wp2;go_end0;exact⟨_,T,rfl,N.out,S1.out,F1.out⟩
  |true=>
   have GG:=af (hg rfl);have Z:=af (Y.zero T hi);clear hs hi hf hg hn;go_wp2;go_loopw [4,10] (fun m i wr=>xj Y St S w T m i wr) (fun _ i _=>G.rules.length-(intOf i).toNat)
   case atStart=>exact⟨0,T,false,Nat.zero_le _,rfl,rfl,S1.out,Z.out,F1.out⟩
   case round=>
    clear S1 I1 F1 Z;obtain⟨j,U,b,hj,rfl,rfl,hs,ht,hf⟩:=hrel;have S1:=af hs;have R1:=af ht;have F1:=af hf;clear hs ht hf
    by_cases hlt:j<G.rules.length
    ·obtain⟨bb,o,ra,rc,e,h1,h2,h3,h4,h5⟩:=KG.out.rules j hlt;dsimp only at e;subst e;have g1:=(BB.out _ F1.out).cell (p:=⟨bb,o+j*2,none⟩) (World.block_lt_of_cell? _ _ h1) |>.trans h1;have g2:=(BB.out _ F1.out).cell (p:=⟨bb,o+j*2+1,none⟩) (World.block_lt_of_cell? _ _ h2) |>.trans h2;have AC:=af (fun w1 hs hb=>AD.out T U j b w1 ra rc hlt hs R1.out hb h3 h4);have hr1:=KG.out.r1;clear h1 h2 h3 h4 h5;generalize G.rules[j]=r at*;obtain⟨left,R⟩:=r;dsimp only at g1 g2 AC;have bx:=boxed wr (.cells #[.int .i64 left,.slice ra R.length rc] 55);have S2:=af (ST.out _ _ _ S1.out bx);have F2:=af (Rw.zU F1.out bx);clear bx;go_wp2_with fail;refine(AC.out _ S2.out (BB.out _ F2.out)).mono ?_;rintro e w3 ⟨b1,U2,rfl,vB,hs3,hf3⟩;have S3:=af hs3;have R3:=af vB;have F3:=af (F2.out.trans hf3 fun _ h=> .inl h);clear vB hs3 hf3;cases b1 with
     |false=>
      have R4:=af (show Y.Tr T (j+1) U2 b by have:=R3.out;rwa [Bool.or_false]at this);clear R3;go_wp2;go_roundw
      case rel=>exact⟨j+1,U2,b,by omega,by go_num,rfl,S3.out,R4.out,F3.out⟩
      case measure=>simp[intOf];omega
     |true=>
      have R4:=af (show Y.Tr T (j+1) U2 true by have:=R3.out;rwa [Bool.or_true]at this);clear R3;go_wp2;go_roundw
      case rel=>exact⟨j+1,U2,true,by omega,by go_num,rfl,S3.out,R4.out,F3.out⟩
      case measure=>simp[intOf];omega
    ·have I2:=af (Y.inv _ _ _ _ R1.out);have YS:=af (show b=true->Y.ms U<Y.ms T from fun e=>by subst e;exact Y.yes _ _ _ R1.out);have NO:=af (show b=false->Y.Fin U from fun e=>by subst e;exact Y.fin _ _ _ R1.out hlt);have hgg:=GG.out;go_wp2;go_roundg (Y.ms T)
     case measure=>omega
     case rel=>exact⟨U,b,rfl,S1.out,I2.out,F1.out,fun e=>by have:=YS.out e;omega,NO.out⟩
end Fi
namespace Fi
open Gr (ai Bx checkN cell_later iE jv lM)
open Bt (az aO)
open Rw (Bk)
structure y7 (G:ai):Prop where
 t:G.terms.length<=120
 n:G.ah.length<=120
 r:G.rules.length<=300
 known:iE G=true
 w:∀r∈G.rules,r.2.length<=8
theorem jq{G}(h:checkN G=0):y7 G:=by
 obtain⟨h1,_,_,h4,_,_⟩:=lM h;unfold jv at h1;simp only[Bool.or_eq_false_iff,decide_eq_false_iff_not,List.any_eq_false,decide_eq_true_eq]at h1;exact⟨by omega,by omega,by omega,h4,fun r hr=>by have:=h1.2 r hr;omega⟩
theorem uL{W w w'}{h}{G}{S}(k:Bx W h G w)(hF:Sep.Fr S w w')(hS:∀k,S k->W.heap.size<k):Bx W h G w':=by
 have e:w'.heap[W.heap.size]?=w.heap[W.heap.size]?:=hF.block _ (World.block_lt_of_cell? w ⟨W.heap.size,0,none⟩ k.box.x0) (fun e=>by have:=hS _ e;omega);refine⟨k.below.trans (hF.below (fun k hk=>Nat.le_of_lt (hS k hk)) k.below.size),?_⟩
 exact⟨(World.cell?_of_block (a:=⟨W.heap.size,0,none⟩) e).trans k.box.x0,(World.cell?_of_block (a:=⟨W.heap.size,1,none⟩) e).trans k.box.x1,
  (World.cell?_of_block (a:=⟨W.heap.size,2,none⟩) e).trans k.box.x2,(World.cell?_of_block (a:=⟨W.heap.size,3,none⟩) e).trans k.box.x3⟩
open Classical in
noncomputable def dB(P:Ix->Nat)(k:Ix)(x:Nat):Ix->Nat:=fun j=>if j=k then x else P j
theorem mL(P)(k)(x):dB P k x k=x:=by unfold dB;rw[if_pos rfl]
theorem ju(P){j k}(x)(h:j≠k):dB P k x j=P j:=by unfold dB;rw[if_neg h]
theorem fY.add{I J}{P D R}{V}{w w'}(h:fY I P D R V w)(hb:Below w.heap.size w w'){k}{po d}{B}(hs:az po d (R k) B w')(hp:w.heap.size<=po)(hd:w.heap.size<=d)(hJ:∀j,J j->I j\/j=k)(hI:¬I k):
  fY J (dB P k po) (dB D k d) R (upd V k B) w':=by
 have Ls:∀j,I j->D j<w.heap.size:=fun j hj=>(h.at_ j hj).ind
 have lt2:∀j,I j->P j<w.heap.size:=fun j hj=>(h.at_ j hj).inp
 have ne:∀j,I j->j≠k:=fun j hj e=>hI (e▸hj)
 refine⟨fun j hj=>?_,fun i j hi hj e=>?_,fun i j hi hj=>?_⟩
 ·rcases hJ j hj with h1|rfl
  ·rw[ju _ _ (ne j h1),ju _ _ (ne j h1),lh _ _ (ne j h1)];exact(h.went hb).at_ j h1
  ·rw[mL,mL,sJ];exact hs
 ·rcases hJ i hi with h1|rfl
  ·rcases hJ j hj with h2|rfl
   ·rw[ju _ _ (ne i h1),ju _ _ (ne j h2)]at e;exact h.inj i j h1 h2 e
   ·rw[ju _ _ (ne i h1),mL]at e;have:=Ls i h1;omega
  ·rcases hJ j hj with h2|rfl
   ·rw[mL,ju _ _ (ne j h2)]at e;have:=Ls j h2;omega
   ·rfl
 ·rcases hJ i hi with h1|rfl
  ·rcases hJ j hj with h2|rfl
   ·rw[ju _ _ (ne i h1),ju _ _ (ne j h2)];exact h.off i j h1 h2
   ·rw[ju _ _ (ne i h1),mL];have:=Ls i h1;omega
  ·rcases hJ j hj with h2|rfl
   ·rw[mL,ju _ _ (ne j h2)];have:=lt2 j h2;omega
   ·rw[mL,mL];exact hs.apart.symm
theorem fY.fr{I}{P D R}{V}{S}{w w'}(h:fY I P D R V w)(hF:Sep.Fr S w w')(hS:∀k,I k->¬S (P k)/\¬S (D k)):fY I P D R V w':=
 ⟨fun k hk=>(h.at_ k hk).keep hF.size (hF.block _ (h.at_ k hk).inp (hS k hk).1) (hF.block _ (h.at_ k hk).ind (hS k hk).2),h.inj,h.off⟩
def eH(t a b:Nat):Ix->Prop
 | .e=>True
 | .f s=>s<a
 | .g s=>t<s/\s<b
 | .o=>False
structure dX (P D:Ix->Nat) (p q1 q2 t n a b:Nat) (V:Ix->Nat->Bool) (w:World):Prop where
 box:Bk p #[.int .i64 (t:Int),.int .i64 (n:Int),.pointer (some ⟨P .e,0,none⟩),.slice (some ⟨q1,0,none⟩) n n,.slice (some ⟨q2,0,none⟩) n n] 258 w
 bN:∀s,s<n->w.cell? ⟨q1,s,none⟩=some (if s<a then .pointer (some ⟨P (.f s),0,none⟩)else .pointer none)
 follows:∀s,s<n->w.cell? ⟨q2,s,none⟩=some (if t<s/\s<b then .pointer (some ⟨P (.g s),0,none⟩)else .pointer none)
 j4:∀s,w.frozen? ⟨q1,s,none⟩=false
 j5:∀s,w.frozen? ⟨q2,s,none⟩=false
 l1:q1<w.heap.size
 l2:q2<w.heap.size
 dG:fY (eH t a b) P D (rm t n) V w
 off:∀k,eH t a b k->D k≠p/\D k≠q1/\D k≠q2/\P k≠q1/\P k≠q2
 n1:p≠q1
 n2:p≠q2
 n3:q1≠q2
 tn:t<n
 n4:n<=4000
theorem dX.went{P D}{p q1 q2 t n a b}{V}{w w'}(h:dX P D p q1 q2 t n a b V w)(hb:Below w.heap.size w w'):dX P D p q1 q2 t n a b V w':=
 ⟨h.box.went hb,fun s hs=>cell_later hb (h.bN s hs),fun s hs=>cell_later hb (h.follows s hs),fun s=>(hb.frozen (p:=⟨q1,s,none⟩) h.l1).trans (h.j4 s),fun s=>(hb.frozen (p:=⟨q2,s,none⟩) h.l2).trans (h.j5 s),
  Nat.lt_of_lt_of_le h.l1 hb.size,Nat.lt_of_lt_of_le h.l2 hb.size,h.dG.went hb,h.off,h.n1,h.n2,h.n3,h.tn,h.n4⟩
theorem dX.wrote{P D}{p q1 q2 t n a b}{V}{w w'}(h:dX P D p q1 q2 t n a b V w){k}(hk:eH t a b k){B}(hs:az (P k) (D k) (rm t n k) B w')(hK:aO (D k) w w'):dX P D p q1 q2 t n a b (upd V k B) w':=by
 have ho:=h.off k hk;have hF:Sep.Fr (fun b=>b=D k) w w':=⟨hK.os,hK.tape,hK.output,hK.size,fun i hi hb=>hK.block i hi hb⟩
 exact⟨h.box.fr hF (fun e=>ho.1 e.symm),fun s hs=>hF.cell (h.bN s hs) (fun e=>ho.2.1 e.symm),fun s hs=>hF.cell (h.follows s hs) (fun e=>ho.2.2.1 e.symm),
  fun s=>(World.frozen?_of_block (a:=⟨q1,s,none⟩) (hF.block _ h.l1 fun e=>ho.2.1 e.symm)).trans (h.j4 s),fun s=>(World.frozen?_of_block (a:=⟨q2,s,none⟩) (hF.block _ h.l2 fun e=>ho.2.2.1 e.symm)).trans (h.j5 s),
  Nat.lt_of_lt_of_le h.l1 hF.size,Nat.lt_of_lt_of_le h.l2 hF.size,h.dG.wrote hk hs hK,h.off,h.n1,h.n2,h.n3,h.tn,h.n4⟩
theorem dX.qw{P D}{p q1 q2 t n a b}{V}{w w'}(h:dX P D p q1 q2 t n a b V w)(ha:a<n)(hb:Below w.heap.size w w'){po d}{B}(hs:az po d (t+1) B w')(hp:w.heap.size<=po)(hd:w.heap.size<=d):
  dX (dB P (.f a) po) (dB D (.f a) d) p q1 q2 t n (a+1) b (upd V (.f a) B) (w'.setCell ⟨q1,a,none⟩ (.pointer (some ⟨po,0,none⟩))):=by
 have k:=h.went hb;have hF:Sep.Fr (fun i=>i=q1) w' (w'.setCell ⟨q1,a,none⟩ (.pointer (some ⟨po,0,none⟩))):=(Sep.Fr.refl (fun i=>i=q1) w').setCell ⟨q1,a,none⟩ rfl _;have hp0:=h.box.lt;have hq1:=h.l1;have hq2:=h.l2;have Lz:∀s,s≠a->(Ix.f s)≠.f a:=fun s e k=>e (by injection k)
 have hm:∀j,eH t (a+1) b j->eH t a b j\/j=.f a:=by
  rintro(_|s|s|_) hj
  ·exact .inl trivial
  ·by_cases e:s=a
   ·exact .inr (by rw[e])
   ·have:s<a+1:=hj;exact .inl (show s<a by omega)
  ·exact .inl hj
  ·exact hj.elim
 have ni:¬eH t a b (.f a):=Nat.lt_irrefl a;have Ke:=h.dG.add (J:=eH t (a+1) b) (k:=.f a) hb hs hp hd hm ni
 have ho:∀j,eH t (a+1) b j->dB D (.f a) d j≠p/\dB D (.f a) d j≠q1/\dB D (.f a) d j≠q2/\dB P (.f a) po j≠q1/\dB P (.f a) po j≠q2:=fun j hj=>by
  rcases hm j hj with h1|rfl
  ·have ne:j≠.f a:=fun e=>ni (e▸h1)
   rw[ju _ _ ne,ju _ _ ne];exact h.off j h1
  ·rw[mL,mL];omega
 refine⟨?_,fun s hs=>?_,fun s hs=>?_,fun s=>?_,fun s=>?_,?_,?_,Ke.fr hF fun j hj=>⟨(ho j hj).2.2.2.1,(ho j hj).2.1⟩,ho,h.n1,h.n2,h.n3,h.tn,h.n4⟩
 ·rw[ju _ _ (by intro e;cases e)];exact k.box.fr hF h.n1
 ·by_cases e:s=a
  ·subst e;rw[World.cell?_setCell_same _ _ _ (k.bN s hs),if_pos (by omega),mL]
  ·rw[World.cell?_setCell_other _ _ _ _ (by intro e2;exact e (congrArg Addr.off e2).symm),k.bN s hs,ju _ _ (Lz s e)]
   by_cases e3:s<a
   ·rw[if_pos e3,if_pos (by omega)]
   ·rw[if_neg e3,if_neg (by omega)]
 ·rw[ju _ _ (by intro e;cases e)];exact hF.cell (k.follows s hs) (fun e=>h.n3 e.symm)
 ·rw[World.frozen?_setCell];exact k.j4 s
 ·rw[World.frozen?_setCell];exact k.j5 s
 ·rw[Rw.En];exact k.l1
 ·rw[Rw.En];exact k.l2
theorem dX.qx{P D}{p q1 q2 t n a b}{V}{w w'}(h:dX P D p q1 q2 t n a b V w)(vp:b<n)(Sa:t<b)(hb:Below w.heap.size w w'){po d}{B}(hs:az po d (t+1) B w')(hp:w.heap.size<=po)(hd:w.heap.size<=d):
  dX (dB P (.g b) po) (dB D (.g b) d) p q1 q2 t n a (b+1) (upd V (.g b) B) (w'.setCell ⟨q2,b,none⟩ (.pointer (some ⟨po,0,none⟩))):=by
 have k:=h.went hb;have hF:Sep.Fr (fun i=>i=q2) w' (w'.setCell ⟨q2,b,none⟩ (.pointer (some ⟨po,0,none⟩))):=(Sep.Fr.refl (fun i=>i=q2) w').setCell ⟨q2,b,none⟩ rfl _;have hp0:=h.box.lt;have hq1:=h.l1;have hq2:=h.l2;have Lz:∀s,s≠b->(Ix.g s)≠.g b:=fun s e k=>e (by injection k)
 have hm:∀j,eH t a (b+1) j->eH t a b j\/j=.g b:=by
  rintro(_|s|s|_) hj
  ·exact .inl trivial
  ·exact .inl hj
  ·by_cases e:s=b
   ·exact .inr (by rw[e])
   ·have h1:t<s/\s<b+1:=hj;exact .inl (show t<s/\s<b by omega)
  ·exact hj.elim
 have ni:¬eH t a b (.g b):=fun hh=>Nat.lt_irrefl b hh.2
 have Ke:=h.dG.add (J:=eH t a (b+1)) (k:=.g b) hb hs hp hd hm ni
 have ho:∀j,eH t a (b+1) j->dB D (.g b) d j≠p/\dB D (.g b) d j≠q1/\dB D (.g b) d j≠q2/\dB P (.g b) po j≠q1/\dB P (.g b) po j≠q2:=fun j hj=>by
  rcases hm j hj with h1|rfl
  ·have ne:j≠.g b:=fun e=>ni (e▸h1)
   rw[ju _ _ ne,ju _ _ ne];exact h.off j h1
  ·rw[mL,mL];omega
 refine⟨?_,fun s hs=>?_,fun s hs=>?_,fun s=>?_,fun s=>?_,?_,?_,Ke.fr hF fun j hj=>⟨(ho j hj).2.2.2.2,(ho j hj).2.2.1⟩,ho,h.n1,h.n2,h.n3,h.tn,h.n4⟩
 ·rw[ju _ _ (by intro e;cases e)];exact k.box.fr hF h.n2
 ·rw[ju _ _ (by intro e;cases e)];exact hF.cell (k.bN s hs) h.n3
 ·by_cases e:s=b
  ·subst e;rw[World.cell?_setCell_same _ _ _ (k.follows s hs),if_pos (by omega),mL]
  ·rw[World.cell?_setCell_other _ _ _ _ (by intro e2;exact e (congrArg Addr.off e2).symm),k.follows s hs,ju _ _ (Lz s e)]
   by_cases e3:t<s/\s<b
   ·rw[if_pos e3,if_pos (by omega)]
   ·rw[if_neg e3,if_neg (by omega)]
 ·rw[World.frozen?_setCell];exact k.j4 s
 ·rw[World.frozen?_setCell];exact k.j5 s
 ·rw[Rw.En];exact k.l1
 ·rw[Rw.En];exact k.l2
theorem dX.rh{P D}{p q1 q2 t n a b}{V}{w}(h:dX P D p q1 q2 t n a b V w)(hb:b<=t):dX P D p q1 q2 t n a (b+1) V w:=by
 have hm:∀j,eH t a (b+1) j->eH t a b j:=by
  rintro(_|s|s|_) hj
  ·exact trivial
  ·exact hj
  ·have h1:t<s/\s<b+1:=hj;omega
  ·exact hj
 refine⟨h.box,h.bN,fun s hs=>?_,h.j4,h.j5,h.l1,h.l2,⟨fun k hk=>h.dG.at_ k (hm k hk),fun j k hj hk=>h.dG.inj j k (hm j hj) (hm k hk),fun j k hj hk=>h.dG.off j k (hm j hj) (hm k hk)⟩,fun k hk=>h.off k (hm k hk),h.n1,h.n2,h.n3,h.tn,h.n4⟩;rw[h.follows s hs]
 by_cases e3:t<s/\s<b
 ·rw[if_pos e3,if_pos (by omega)]
 ·rw[if_neg e3,if_neg (by omega)]
theorem dX.full{P D}{p q1 q2 t n}{V}{w}(h:dX P D p q1 q2 t n n n V w):cP (eH t n n) P D p q1 q2 t n V w:=
 ⟨h.box,fun s hs=>by rw[h.bN s hs,if_pos hs],fun s hs=>by
   rw[h.follows s hs]
   by_cases e:t<s
   ·rw[if_pos ⟨e,hs⟩,if_pos e]
   ·rw[if_neg (fun k=>e k.1),if_neg e],h.dG,fun k hk=>⟨(h.off k hk).1,(h.off k hk).2.1,(h.off k hk).2.2.1⟩,trivial,fun s hs=>hs,fun s h1 h2=>⟨h1,h2⟩,h.tn,h.n4⟩
