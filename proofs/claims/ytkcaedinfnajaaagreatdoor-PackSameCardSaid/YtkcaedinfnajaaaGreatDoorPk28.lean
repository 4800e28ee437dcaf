/- A part of the proof. -/
import Derived.Test.YtkcaedinfnajaaaGreatDoorPk27
import Derived.Test.YtkcaedinfnajaaaGreatDoorPk19
set_option maxHeartbeats 8000000
set_option maxRecDepth 100000
set_option linter.unusedVariables false
namespace Go.Proofs.YtkcaedinfnajaaaGreatDoor
open Go.RowKit Go.Maps
namespace Fi
open Gr
structure Pass (G:Gram) (α:Type) where
 Inv:α->Prop
 Tr:α->Nat->α->Bool->Prop
 ms:α->Nat
 Fin:α->Prop
 zero:∀T,Inv T->Tr T 0 T false
 inv:∀T0 j T b,Tr T0 j T b->Inv T
 yes:∀T0 j T,Tr T0 j T true->ms T<ms T0
 fin:∀T0 j T,Tr T0 j T false->¬j<G.rules.length->Fin T
def Trd{G:Gram}{α:Type}(Y:Pass G α)(St:α->World->Prop)(S:Nat->Prop)(T0:α)(j:Nat)(b0:Bool)(w:World)(e:Ending)(w':World):Prop:=
 ∃b T,e=.returned (.bool b)/\Y.Tr T0 (j+1) T (b0||b)/\St T w'/\Sep.Fr S w w'
def Setl{G:Gram}{α:Type}(Y:Pass G α)(St:α->World->Prop)(S:Nat->Prop)(w:World)(e:Ending)(w':World):Prop:=
 ∃v T,e=.returned v/\Y.Fin T/\St T w'/\Sep.Fr S w w'
def zRZ{G:Gram}{α:Type}(Y:Pass G α)(St:α->World->Prop)(S:Nat->Prop)(W:World)(g:Nat)(m:Value)(w:World):Prop:=
 ∃(T:α) (b:Bool),m=.bool b/\St T w/\Y.Inv T/\Sep.Fr S W w/\(b=true->Y.ms T+1<=g)/\(b=false->Y.Fin T)
def SlIn{G:Gram}{α:Type}(Y:Pass G α)(St:α->World->Prop)(S:Nat->Prop)(W:World)(T0:α)(m i:Value)(w:World):Prop:=
 ∃(j:Nat) (T:α) (b:Bool),j<=G.rules.length/\i=.int .i64 j/\m=.bool b/\St T w/\Y.Tr T0 j T b/\Sep.Fr S W w
theorem zQe(p:Nat)(W0 w:World)(h:Sh)(G:Gram)(k:GAt h G W0){α:Type}(Y:Pass G α)(St:α->World->Prop)(S:Nat->Prop)(T0:α)
  (hr:G.rules.length<=300) (hb0:Below W0.heap.size W0 w) (hS:∀b,S b->W0.heap.size<=b)
  (hSt:∀T w1 w2,St T w1->Below w1.heap.size w1 w2->St T w2)
  (add:∀T0 T j b0 w1 ra rc (hj:j<G.rules.length),St T w1->Y.Tr T0 j T b0->Below W0.heap.size W0 w1->Sep.Reads ra (ivs G.rules[j].2) W0->G.rules[j].2.length<=rc->
   Calls Tryz.prog 133 #[.pointer (some ⟨p,0,none⟩),.agg #[.int .i64 G.rules[j].1,.slice ra G.rules[j].2.length rc]] w1 (Trd Y St S T0 j b0 w1))
  (h0:St T0 w) (hI:Y.Inv T0):
  Calls Tryz.prog 132 #[.slice h.a3 G.rules.length h.c3,.func (.func 133) #[.pointer (some ⟨p,0,none⟩)] #[]] w (Setl Y St S w):=by
 obtain⟨a1,c1,a2,c2,a3,c3⟩:=h;dsimp only;have KG:=zVZ k;have H0:=zVZ h0;have I0:=zVZ hI;have AD:=zVZ add;have ST:=zVZ hSt;have BB:=zVZ (show∀w',Sep.Fr S w w'->Below W0.heap.size W0 w' from fun w' f=>hb0.trans (f.below hS hb0.size));clear k hb0 hS hSt add h0 hI;go_enter Tryz.func132,Tryz.ntmps132;go_wp2;go_loopg [4] (Y.ms T0+2) (fun g m wr=>zRZ Y St S w g m wr)
 case atStart=>exact⟨T0,true,rfl,H0.out,I0.out,.refl _ _,fun _=>by omega,fun h=>by cases h⟩
 case round=>
  clear H0 I0;obtain⟨T,b,rfl,hs,hi,hf,hg,hn⟩:=hrel;have S1:=zVZ hs;have I1:=zVZ hi;have F1:=zVZ hf;cases b with
  |false=>
   have N:=zVZ (hn rfl);clear hs hi hf hg hn;go_wp2;go_end0;exact⟨_,T,rfl,N.out,S1.out,F1.out⟩
  |true=>
   have GG:=zVZ (hg rfl);have Z:=zVZ (Y.zero T hi);clear hs hi hf hg hn;go_wp2;go_loopw [4,10] (fun m i wr=>SlIn Y St S w T m i wr) (fun _ i _=>G.rules.length-(intOf i).toNat)
   case atStart=>exact⟨0,T,false,Nat.zero_le _,rfl,rfl,S1.out,Z.out,F1.out⟩
   case round=>
    clear S1 I1 F1 Z;obtain⟨j,U,b,hj,rfl,rfl,hs,ht,hf⟩:=hrel;have S1:=zVZ hs;have R1:=zVZ ht;have F1:=zVZ hf;clear hs ht hf
    by_cases hlt:j<G.rules.length
    ·obtain⟨bb,o,ra,rc,e,h1,h2,h3,h4,h5⟩:=KG.out.rules j hlt;dsimp only at e;subst e;have g1:=(BB.out _ F1.out).cell (p:=⟨bb,o+j*2,none⟩) (World.block_lt_of_cell? _ _ h1) |>.trans h1;have g2:=(BB.out _ F1.out).cell (p:=⟨bb,o+j*2+1,none⟩) (World.block_lt_of_cell? _ _ h2) |>.trans h2;have AC:=zVZ (fun w1 hs hb=>AD.out T U j b w1 ra rc hlt hs R1.out hb h3 h4);have hr1:=KG.out.r1;clear h1 h2 h3 h4 h5;generalize G.rules[j]=r at*;obtain⟨left,R⟩:=r;dsimp only at g1 g2 AC;have bx:=boxed wr (.cells #[.int .i64 left,.slice ra R.length rc] 55);have S2:=zVZ (ST.out _ _ _ S1.out bx);have F2:=zVZ (Rw.zDr F1.out bx);clear bx;go_wp2_with fail;refine(AC.out _ S2.out (BB.out _ F2.out)).mono ?_;rintro e w3 ⟨b1,U2,rfl,ht3,hs3,hf3⟩;have S3:=zVZ hs3;have R3:=zVZ ht3;have F3:=zVZ (F2.out.trans hf3 fun _ h=> .inl h);clear ht3 hs3 hf3;cases b1 with
     |false=>
      have R4:=zVZ (show Y.Tr T (j+1) U2 b by have:=R3.out;rwa [Bool.or_false]at this);clear R3;go_wp2;go_roundw
      case rel=>exact⟨j+1,U2,b,by omega,by go_num,rfl,S3.out,R4.out,F3.out⟩
      case measure=>simp[intOf];omega
     |true=>
      have R4:=zVZ (show Y.Tr T (j+1) U2 true by have:=R3.out;rwa [Bool.or_true]at this);clear R3;go_wp2;go_roundw
      case rel=>exact⟨j+1,U2,true,by omega,by go_num,rfl,S3.out,R4.out,F3.out⟩
      case measure=>simp[intOf];omega
    ·have I2:=zVZ (Y.inv _ _ _ _ R1.out);have YS:=zVZ (show b=true->Y.ms U<Y.ms T from fun e=>by subst e;exact Y.yes _ _ _ R1.out);have NO:=zVZ (show b=false->Y.Fin U from fun e=>by subst e;exact Y.fin _ _ _ R1.out hlt);have hgg:=GG.out;go_wp2;go_roundg (Y.ms T)
     case measure=>omega
     case rel=>exact⟨U,b,rfl,S1.out,I2.out,F1.out,fun e=>by have:=YS.out e;omega,NO.out⟩
theorem zQf(p:Nat)(W0 w:World)(h:Sh)(G:Gram)(k:GAt h G W0){α:Type}(Y:Pass G α)(St:α->World->Prop)(S:Nat->Prop)(T0:α)
  (hr:G.rules.length<=300) (hb0:Below W0.heap.size W0 w) (hS:∀b,S b->W0.heap.size<=b)
  (hSt:∀T w1 w2,St T w1->Below w1.heap.size w1 w2->St T w2)
  (add:∀T0 T j b0 w1 ra rc (hj:j<G.rules.length),St T w1->Y.Tr T0 j T b0->Below W0.heap.size W0 w1->Sep.Reads ra (ivs G.rules[j].2) W0->G.rules[j].2.length<=rc->
   Calls Tryz.prog 134 #[.pointer (some ⟨p,0,none⟩),.agg #[.int .i64 G.rules[j].1,.slice ra G.rules[j].2.length rc]] w1 (Trd Y St S T0 j b0 w1))
  (h0:St T0 w) (hI:Y.Inv T0):
  Calls Tryz.prog 132 #[.slice h.a3 G.rules.length h.c3,.func (.func 134) #[.pointer (some ⟨p,0,none⟩)] #[]] w (Setl Y St S w):=by
 obtain⟨a1,c1,a2,c2,a3,c3⟩:=h;dsimp only;have KG:=zVZ k;have H0:=zVZ h0;have I0:=zVZ hI;have AD:=zVZ add;have ST:=zVZ hSt;have BB:=zVZ (show∀w',Sep.Fr S w w'->Below W0.heap.size W0 w' from fun w' f=>hb0.trans (f.below hS hb0.size));clear k hb0 hS hSt add h0 hI;go_enter Tryz.func132,Tryz.ntmps132;go_wp2;go_loopg [4] (Y.ms T0+2) (fun g m wr=>zRZ Y St S w g m wr)
 case atStart=>exact⟨T0,true,rfl,H0.out,I0.out,.refl _ _,fun _=>by omega,fun h=>by cases h⟩
 case round=>
  clear H0 I0;obtain⟨T,b,rfl,hs,hi,hf,hg,hn⟩:=hrel;have S1:=zVZ hs;have I1:=zVZ hi;have F1:=zVZ hf;cases b with
  |false=>
   have N:=zVZ (hn rfl);clear hs hi hf hg hn;go_wp2;go_end0;exact⟨_,T,rfl,N.out,S1.out,F1.out⟩
  |true=>
   have GG:=zVZ (hg rfl);have Z:=zVZ (Y.zero T hi);clear hs hi hf hg hn;go_wp2;go_loopw [4,10] (fun m i wr=>SlIn Y St S w T m i wr) (fun _ i _=>G.rules.length-(intOf i).toNat)
   case atStart=>exact⟨0,T,false,Nat.zero_le _,rfl,rfl,S1.out,Z.out,F1.out⟩
   case round=>
    clear S1 I1 F1 Z;obtain⟨j,U,b,hj,rfl,rfl,hs,ht,hf⟩:=hrel;have S1:=zVZ hs;have R1:=zVZ ht;have F1:=zVZ hf;clear hs ht hf
    by_cases hlt:j<G.rules.length
    ·obtain⟨bb,o,ra,rc,e,h1,h2,h3,h4,h5⟩:=KG.out.rules j hlt;dsimp only at e;subst e;have g1:=(BB.out _ F1.out).cell (p:=⟨bb,o+j*2,none⟩) (World.block_lt_of_cell? _ _ h1) |>.trans h1;have g2:=(BB.out _ F1.out).cell (p:=⟨bb,o+j*2+1,none⟩) (World.block_lt_of_cell? _ _ h2) |>.trans h2;have AC:=zVZ (fun w1 hs hb=>AD.out T U j b w1 ra rc hlt hs R1.out hb h3 h4);have hr1:=KG.out.r1;clear h1 h2 h3 h4 h5;generalize G.rules[j]=r at*;obtain⟨left,R⟩:=r;dsimp only at g1 g2 AC;have bx:=boxed wr (.cells #[.int .i64 left,.slice ra R.length rc] 55);have S2:=zVZ (ST.out _ _ _ S1.out bx);have F2:=zVZ (Rw.zDr F1.out bx);clear bx;go_wp2_with fail;refine(AC.out _ S2.out (BB.out _ F2.out)).mono ?_;rintro e w3 ⟨b1,U2,rfl,ht3,hs3,hf3⟩;have S3:=zVZ hs3;have R3:=zVZ ht3;have F3:=zVZ (F2.out.trans hf3 fun _ h=> .inl h);clear ht3 hs3 hf3;cases b1 with
     |false=>
      have R4:=zVZ (show Y.Tr T (j+1) U2 b by have:=R3.out;rwa [Bool.or_false]at this);clear R3;go_wp2;go_roundw
      case rel=>exact⟨j+1,U2,b,by omega,by go_num,rfl,S3.out,R4.out,F3.out⟩
      case measure=>simp[intOf];omega
     |true=>
      have R4:=zVZ (show Y.Tr T (j+1) U2 true by have:=R3.out;rwa [Bool.or_true]at this);clear R3;go_wp2;go_roundw
      case rel=>exact⟨j+1,U2,true,by omega,by go_num,rfl,S3.out,R4.out,F3.out⟩
      case measure=>simp[intOf];omega
    ·have I2:=zVZ (Y.inv _ _ _ _ R1.out);have YS:=zVZ (show b=true->Y.ms U<Y.ms T from fun e=>by subst e;exact Y.yes _ _ _ R1.out);have NO:=zVZ (show b=false->Y.Fin U from fun e=>by subst e;exact Y.fin _ _ _ R1.out hlt);have hgg:=GG.out;go_wp2;go_roundg (Y.ms T)
     case measure=>omega
     case rel=>exact⟨U,b,rfl,S1.out,I2.out,F1.out,fun e=>by have:=YS.out e;omega,NO.out⟩
theorem zQd(p:Nat)(W0 w:World)(h:Sh)(G:Gram)(k:GAt h G W0){α:Type}(Y:Pass G α)(St:α->World->Prop)(S:Nat->Prop)(T0:α)
  (hr:G.rules.length<=300) (hb0:Below W0.heap.size W0 w) (hS:∀b,S b->W0.heap.size<=b)
  (hSt:∀T w1 w2,St T w1->Below w1.heap.size w1 w2->St T w2)
  (add:∀T0 T j b0 w1 ra rc (hj:j<G.rules.length),St T w1->Y.Tr T0 j T b0->Below W0.heap.size W0 w1->Sep.Reads ra (ivs G.rules[j].2) W0->G.rules[j].2.length<=rc->
   Calls Tryz.prog 135 #[.pointer (some ⟨p,0,none⟩),.agg #[.int .i64 G.rules[j].1,.slice ra G.rules[j].2.length rc]] w1 (Trd Y St S T0 j b0 w1))
  (h0:St T0 w) (hI:Y.Inv T0):
  Calls Tryz.prog 132 #[.slice h.a3 G.rules.length h.c3,.func (.func 135) #[.pointer (some ⟨p,0,none⟩)] #[]] w (Setl Y St S w):=by
 obtain⟨a1,c1,a2,c2,a3,c3⟩:=h;dsimp only;have KG:=zVZ k;have H0:=zVZ h0;have I0:=zVZ hI;have AD:=zVZ add;have ST:=zVZ hSt;have BB:=zVZ (show∀w',Sep.Fr S w w'->Below W0.heap.size W0 w' from fun w' f=>hb0.trans (f.below hS hb0.size));clear k hb0 hS hSt add h0 hI;go_enter Tryz.func132,Tryz.ntmps132;go_wp2;go_loopg [4] (Y.ms T0+2) (fun g m wr=>zRZ Y St S w g m wr)
 case atStart=>exact⟨T0,true,rfl,H0.out,I0.out,.refl _ _,fun _=>by omega,fun h=>by cases h⟩
 case round=>
  clear H0 I0;obtain⟨T,b,rfl,hs,hi,hf,hg,hn⟩:=hrel;have S1:=zVZ hs;have I1:=zVZ hi;have F1:=zVZ hf;cases b with
  |false=>
   have N:=zVZ (hn rfl);clear hs hi hf hg hn;go_wp2;go_end0;exact⟨_,T,rfl,N.out,S1.out,F1.out⟩
  |true=>
   have GG:=zVZ (hg rfl);have Z:=zVZ (Y.zero T hi);clear hs hi hf hg hn;go_wp2;go_loopw [4,10] (fun m i wr=>SlIn Y St S w T m i wr) (fun _ i _=>G.rules.length-(intOf i).toNat)
   case atStart=>exact⟨0,T,false,Nat.zero_le _,rfl,rfl,S1.out,Z.out,F1.out⟩
   case round=>
    clear S1 I1 F1 Z;obtain⟨j,U,b,hj,rfl,rfl,hs,ht,hf⟩:=hrel;have S1:=zVZ hs;have R1:=zVZ ht;have F1:=zVZ hf;clear hs ht hf
    by_cases hlt:j<G.rules.length
    ·obtain⟨bb,o,ra,rc,e,h1,h2,h3,h4,h5⟩:=KG.out.rules j hlt;dsimp only at e;subst e;have g1:=(BB.out _ F1.out).cell (p:=⟨bb,o+j*2,none⟩) (World.block_lt_of_cell? _ _ h1) |>.trans h1;have g2:=(BB.out _ F1.out).cell (p:=⟨bb,o+j*2+1,none⟩) (World.block_lt_of_cell? _ _ h2) |>.trans h2;have AC:=zVZ (fun w1 hs hb=>AD.out T U j b w1 ra rc hlt hs R1.out hb h3 h4);have hr1:=KG.out.r1;clear h1 h2 h3 h4 h5;generalize G.rules[j]=r at*;obtain⟨left,R⟩:=r;dsimp only at g1 g2 AC;have bx:=boxed wr (.cells #[.int .i64 left,.slice ra R.length rc] 55);have S2:=zVZ (ST.out _ _ _ S1.out bx);have F2:=zVZ (Rw.zDr F1.out bx);clear bx;go_wp2_with fail;refine(AC.out _ S2.out (BB.out _ F2.out)).mono ?_;rintro e w3 ⟨b1,U2,rfl,ht3,hs3,hf3⟩;have S3:=zVZ hs3;have R3:=zVZ ht3;have F3:=zVZ (F2.out.trans hf3 fun _ h=> .inl h);clear ht3 hs3 hf3;cases b1 with
     |false=>
      have R4:=zVZ (show Y.Tr T (j+1) U2 b by have:=R3.out;rwa [Bool.or_false]at this);clear R3;go_wp2;go_roundw
      case rel=>exact⟨j+1,U2,b,by omega,by go_num,rfl,S3.out,R4.out,F3.out⟩
      case measure=>simp[intOf];omega
     |true=>
      have R4:=zVZ (show Y.Tr T (j+1) U2 true by have:=R3.out;rwa [Bool.or_true]at this);clear R3;go_wp2;go_roundw
      case rel=>exact⟨j+1,U2,true,by omega,by go_num,rfl,S3.out,R4.out,F3.out⟩
      case measure=>simp[intOf];omega
    ·have I2:=zVZ (Y.inv _ _ _ _ R1.out);have YS:=zVZ (show b=true->Y.ms U<Y.ms T from fun e=>by subst e;exact Y.yes _ _ _ R1.out);have NO:=zVZ (show b=false->Y.Fin U from fun e=>by subst e;exact Y.fin _ _ _ R1.out hlt);have hgg:=GG.out;go_wp2;go_roundg (Y.ms T)
     case measure=>omega
     case rel=>exact⟨U,b,rfl,S1.out,I2.out,F1.out,fun e=>by have:=YS.out e;omega,NO.out⟩
end Fi
namespace Fi
open Gr (Gram Sh Bx checkN cell_later zAs zBu zAj)
open Bt (SetAt Keeps)
open Rw (Bk)
structure Sml (G:Gram):Prop where
 t:G.terms.length<=120
 n:G.nons.length<=120
 r:G.rules.length<=300
 known:zAs G=true
 w:∀r∈G.rules,r.2.length<=8
theorem zA8{G:Gram}(h:checkN G=0):Sml G:=by
 obtain⟨h1,_,_,h4,_,_⟩:=zAj h;unfold zBu at h1;simp only[Bool.or_eq_false_iff,decide_eq_false_iff_not,List.any_eq_false,decide_eq_true_eq]at h1;exact⟨by omega,by omega,by omega,h4,fun r hr=>by have:=h1.2 r hr;omega⟩
theorem zGI{W w w':World}{h:Sh}{G:Gram}{S:Nat->Prop}(k:Bx W h G w)(hF:Sep.Fr S w w')(hS:∀k,S k->W.heap.size<k):Bx W h G w':=by
 have e:w'.heap[W.heap.size]?=w.heap[W.heap.size]?:=hF.block _ (World.block_lt_of_cell? w ⟨W.heap.size,0,none⟩ k.box.x0) (fun e=>by have:=hS _ e;omega);refine⟨k.below.trans (hF.below (fun k hk=>Nat.le_of_lt (hS k hk)) k.below.size),?_⟩
 exact⟨(World.cell?_of_block (a:=⟨W.heap.size,0,none⟩) e).trans k.box.x0,(World.cell?_of_block (a:=⟨W.heap.size,1,none⟩) e).trans k.box.x1,
  (World.cell?_of_block (a:=⟨W.heap.size,2,none⟩) e).trans k.box.x2,(World.cell?_of_block (a:=⟨W.heap.size,3,none⟩) e).trans k.box.x3⟩
open Classical in
noncomputable def updN(P:Ix->Nat)(k:Ix)(x:Nat):Ix->Nat:=fun j=>if j=k then x else P j
theorem zAn(P:Ix->Nat)(k:Ix)(x:Nat):updN P k x k=x:=by unfold updN;rw[if_pos rfl]
theorem zAT(P:Ix->Nat){j k:Ix}(x:Nat)(h:j≠k):updN P k x j=P j:=by unfold updN;rw[if_neg h]
theorem Fam.add{I J:Ix->Prop}{P D R:Ix->Nat}{V:Ix->Nat->Bool}{w w':World}(h:Fam I P D R V w)(hb:Below w.heap.size w w'){k:Ix}{po d:Nat}{B:Nat->Bool}(hs:SetAt po d (R k) B w')(hp:w.heap.size<=po)(hd:w.heap.size<=d)(hJ:∀j,J j->I j\/j=k)(hI:¬I k):
  Fam J (updN P k po) (updN D k d) R (upd V k B) w':=by
 have lt1:∀j,I j->D j<w.heap.size:=fun j hj=>(h.at_ j hj).ind
 have lt2:∀j,I j->P j<w.heap.size:=fun j hj=>(h.at_ j hj).inp
 have ne:∀j,I j->j≠k:=fun j hj e=>hI (e▸hj)
 refine⟨fun j hj=>?_,fun i j hi hj e=>?_,fun i j hi hj=>?_⟩
 ·rcases hJ j hj with h1|rfl
  ·rw[zAT _ _ (ne j h1),zAT _ _ (ne j h1),zAf _ _ (ne j h1)];exact(h.went hb).at_ j h1
  ·rw[zAn,zAn,zB2];exact hs
 ·rcases hJ i hi with h1|rfl
  ·rcases hJ j hj with h2|rfl
   ·rw[zAT _ _ (ne i h1),zAT _ _ (ne j h2)]at e;exact h.inj i j h1 h2 e
   ·rw[zAT _ _ (ne i h1),zAn]at e;have:=lt1 i h1;omega
  ·rcases hJ j hj with h2|rfl
   ·rw[zAn,zAT _ _ (ne j h2)]at e;have:=lt1 j h2;omega
   ·rfl
 ·rcases hJ i hi with h1|rfl
  ·rcases hJ j hj with h2|rfl
   ·rw[zAT _ _ (ne i h1),zAT _ _ (ne j h2)];exact h.off i j h1 h2
   ·rw[zAT _ _ (ne i h1),zAn];have:=lt1 i h1;omega
  ·rcases hJ j hj with h2|rfl
   ·rw[zAn,zAT _ _ (ne j h2)];have:=lt2 j h2;omega
   ·rw[zAn,zAn];exact hs.apart.symm
theorem Fam.fr{I:Ix->Prop}{P D R:Ix->Nat}{V:Ix->Nat->Bool}{S:Nat->Prop}{w w':World}(h:Fam I P D R V w)(hF:Sep.Fr S w w')(hS:∀k,I k->¬S (P k)/\¬S (D k)):Fam I P D R V w':=
 ⟨fun k hk=>(h.at_ k hk).keep hF.size (hF.block _ (h.at_ k hk).inp (hS k hk).1) (hF.block _ (h.at_ k hk).ind (hS k hk).2),h.inj,h.off⟩
def Iab(t a b:Nat):Ix->Prop
 | .e=>True
 | .f s=>s<a
 | .g s=>t<s/\s<b
 | .o=>False
structure PAt (P D:Ix->Nat) (p q1 q2 t n a b:Nat) (V:Ix->Nat->Bool) (w:World):Prop where
 box:Bk p #[.int .i64 (t:Int),.int .i64 (n:Int),.pointer (some ⟨P .e,0,none⟩),.slice (some ⟨q1,0,none⟩) n n,.slice (some ⟨q2,0,none⟩) n n] 231 w
 firsts:∀s,s<n->w.cell? ⟨q1,s,none⟩=some (if s<a then .pointer (some ⟨P (.f s),0,none⟩)else .pointer none)
 follows:∀s,s<n->w.cell? ⟨q2,s,none⟩=some (if t<s/\s<b then .pointer (some ⟨P (.g s),0,none⟩)else .pointer none)
 free1:∀s,w.frozen? ⟨q1,s,none⟩=false
 free2:∀s,w.frozen? ⟨q2,s,none⟩=false
 l1:q1<w.heap.size
 l2:q2<w.heap.size
 fam:Fam (Iab t a b) P D (rm t n) V w
 off:∀k,Iab t a b k->D k≠p/\D k≠q1/\D k≠q2/\P k≠q1/\P k≠q2
 n1:p≠q1
 n2:p≠q2
 n3:q1≠q2
 tn:t<n
 n4:n<=4000
theorem PAt.went{P D:Ix->Nat}{p q1 q2 t n a b:Nat}{V:Ix->Nat->Bool}{w w':World}(h:PAt P D p q1 q2 t n a b V w)(hb:Below w.heap.size w w'):PAt P D p q1 q2 t n a b V w':=
 ⟨h.box.went hb,fun s hs=>cell_later hb (h.firsts s hs),fun s hs=>cell_later hb (h.follows s hs),fun s=>(hb.frozen (p:=⟨q1,s,none⟩) h.l1).trans (h.free1 s),fun s=>(hb.frozen (p:=⟨q2,s,none⟩) h.l2).trans (h.free2 s),
  Nat.lt_of_lt_of_le h.l1 hb.size,Nat.lt_of_lt_of_le h.l2 hb.size,h.fam.went hb,h.off,h.n1,h.n2,h.n3,h.tn,h.n4⟩
theorem PAt.wrote{P D:Ix->Nat}{p q1 q2 t n a b:Nat}{V:Ix->Nat->Bool}{w w':World}(h:PAt P D p q1 q2 t n a b V w){k:Ix}(hk:Iab t a b k){B:Nat->Bool}(hs:SetAt (P k) (D k) (rm t n k) B w')(hK:Keeps (D k) w w'):PAt P D p q1 q2 t n a b (upd V k B) w':=by
 have ho:=h.off k hk;have hF:Sep.Fr (fun b=>b=D k) w w':=⟨hK.os,hK.tape,hK.output,hK.size,fun i hi hb=>hK.block i hi hb⟩
 exact⟨h.box.fr hF (fun e=>ho.1 e.symm),fun s hs=>hF.cell (h.firsts s hs) (fun e=>ho.2.1 e.symm),fun s hs=>hF.cell (h.follows s hs) (fun e=>ho.2.2.1 e.symm),
  fun s=>(World.frozen?_of_block (a:=⟨q1,s,none⟩) (hF.block _ h.l1 fun e=>ho.2.1 e.symm)).trans (h.free1 s),fun s=>(World.frozen?_of_block (a:=⟨q2,s,none⟩) (hF.block _ h.l2 fun e=>ho.2.2.1 e.symm)).trans (h.free2 s),
  Nat.lt_of_lt_of_le h.l1 hF.size,Nat.lt_of_lt_of_le h.l2 hF.size,h.fam.wrote hk hs hK,h.off,h.n1,h.n2,h.n3,h.tn,h.n4⟩
theorem PAt.fill1{P D:Ix->Nat}{p q1 q2 t n a b:Nat}{V:Ix->Nat->Bool}{w w':World}(h:PAt P D p q1 q2 t n a b V w)(ha:a<n)(hb:Below w.heap.size w w'){po d:Nat}{B:Nat->Bool}(hs:SetAt po d (t+1) B w')(hp:w.heap.size<=po)(hd:w.heap.size<=d):
  PAt (updN P (.f a) po) (updN D (.f a) d) p q1 q2 t n (a+1) b (upd V (.f a) B) (w'.setCell ⟨q1,a,none⟩ (.pointer (some ⟨po,0,none⟩))):=by
 have k:=h.went hb;have hF:Sep.Fr (fun i=>i=q1) w' (w'.setCell ⟨q1,a,none⟩ (.pointer (some ⟨po,0,none⟩))):=(Sep.Fr.refl (fun i=>i=q1) w').setCell ⟨q1,a,none⟩ rfl _;have hp0:=h.box.lt;have hq1:=h.l1;have hq2:=h.l2;have oth:∀s,s≠a->(Ix.f s)≠.f a:=fun s e k=>e (by injection k)
 have hm:∀j,Iab t (a+1) b j->Iab t a b j\/j=.f a:=by
  rintro(_|s|s|_) hj
  ·exact .inl trivial
  ·by_cases e:s=a
   ·exact .inr (by rw[e])
   ·have:s<a+1:=hj;exact .inl (show s<a by omega)
  ·exact .inl hj
  ·exact hj.elim
 have ni:¬Iab t a b (.f a):=Nat.lt_irrefl a;have hfa:=h.fam.add (J:=Iab t (a+1) b) (k:=.f a) hb hs hp hd hm ni
 have ho:∀j,Iab t (a+1) b j->updN D (.f a) d j≠p/\updN D (.f a) d j≠q1/\updN D (.f a) d j≠q2/\updN P (.f a) po j≠q1/\updN P (.f a) po j≠q2:=fun j hj=>by
  rcases hm j hj with h1|rfl
  ·have ne:j≠.f a:=fun e=>ni (e▸h1)
   rw[zAT _ _ ne,zAT _ _ ne];exact h.off j h1
  ·rw[zAn,zAn];omega
 refine⟨?_,fun s hs=>?_,fun s hs=>?_,fun s=>?_,fun s=>?_,?_,?_,hfa.fr hF fun j hj=>⟨(ho j hj).2.2.2.1,(ho j hj).2.1⟩,ho,h.n1,h.n2,h.n3,h.tn,h.n4⟩
 ·rw[zAT _ _ (by intro e;cases e)];exact k.box.fr hF h.n1
 ·by_cases e:s=a
  ·subst e;rw[World.cell?_setCell_same _ _ _ (k.firsts s hs),if_pos (by omega),zAn]
  ·rw[World.cell?_setCell_other _ _ _ _ (by intro e2;exact e (congrArg Addr.off e2).symm),k.firsts s hs,zAT _ _ (oth s e)]
   by_cases e3:s<a
   ·rw[if_pos e3,if_pos (by omega)]
   ·rw[if_neg e3,if_neg (by omega)]
 ·rw[zAT _ _ (by intro e;cases e)];exact hF.cell (k.follows s hs) (fun e=>h.n3 e.symm)
 ·rw[World.frozen?_setCell];exact k.free1 s
 ·rw[World.frozen?_setCell];exact k.free2 s
 ·rw[Rw.zDf];exact k.l1
 ·rw[Rw.zDf];exact k.l2
theorem PAt.fill2{P D:Ix->Nat}{p q1 q2 t n a b:Nat}{V:Ix->Nat->Bool}{w w':World}(h:PAt P D p q1 q2 t n a b V w)(hbn:b<n)(htb:t<b)(hb:Below w.heap.size w w'){po d:Nat}{B:Nat->Bool}(hs:SetAt po d (t+1) B w')(hp:w.heap.size<=po)(hd:w.heap.size<=d):
  PAt (updN P (.g b) po) (updN D (.g b) d) p q1 q2 t n a (b+1) (upd V (.g b) B) (w'.setCell ⟨q2,b,none⟩ (.pointer (some ⟨po,0,none⟩))):=by
 have k:=h.went hb;have hF:Sep.Fr (fun i=>i=q2) w' (w'.setCell ⟨q2,b,none⟩ (.pointer (some ⟨po,0,none⟩))):=(Sep.Fr.refl (fun i=>i=q2) w').setCell ⟨q2,b,none⟩ rfl _;have hp0:=h.box.lt;have hq1:=h.l1;have hq2:=h.l2;have oth:∀s,s≠b->(Ix.g s)≠.g b:=fun s e k=>e (by injection k)
 have hm:∀j,Iab t a (b+1) j->Iab t a b j\/j=.g b:=by
  rintro(_|s|s|_) hj
  ·exact .inl trivial
  ·exact .inl hj
  ·by_cases e:s=b
   ·exact .inr (by rw[e])
   ·have h1:t<s/\s<b+1:=hj;exact .inl (show t<s/\s<b by omega)
  ·exact hj.elim
 have ni:¬Iab t a b (.g b):=fun hh=>Nat.lt_irrefl b hh.2
 have hfa:=h.fam.add (J:=Iab t a (b+1)) (k:=.g b) hb hs hp hd hm ni
 have ho:∀j,Iab t a (b+1) j->updN D (.g b) d j≠p/\updN D (.g b) d j≠q1/\updN D (.g b) d j≠q2/\updN P (.g b) po j≠q1/\updN P (.g b) po j≠q2:=fun j hj=>by
  rcases hm j hj with h1|rfl
  ·have ne:j≠.g b:=fun e=>ni (e▸h1)
   rw[zAT _ _ ne,zAT _ _ ne];exact h.off j h1
  ·rw[zAn,zAn];omega
 refine⟨?_,fun s hs=>?_,fun s hs=>?_,fun s=>?_,fun s=>?_,?_,?_,hfa.fr hF fun j hj=>⟨(ho j hj).2.2.2.2,(ho j hj).2.2.1⟩,ho,h.n1,h.n2,h.n3,h.tn,h.n4⟩
 ·rw[zAT _ _ (by intro e;cases e)];exact k.box.fr hF h.n2
 ·rw[zAT _ _ (by intro e;cases e)];exact hF.cell (k.firsts s hs) h.n3
 ·by_cases e:s=b
  ·subst e;rw[World.cell?_setCell_same _ _ _ (k.follows s hs),if_pos (by omega),zAn]
  ·rw[World.cell?_setCell_other _ _ _ _ (by intro e2;exact e (congrArg Addr.off e2).symm),k.follows s hs,zAT _ _ (oth s e)]
   by_cases e3:t<s/\s<b
   ·rw[if_pos e3,if_pos (by omega)]
   ·rw[if_neg e3,if_neg (by omega)]
 ·rw[World.frozen?_setCell];exact k.free1 s
 ·rw[World.frozen?_setCell];exact k.free2 s
 ·rw[Rw.zDf];exact k.l1
 ·rw[Rw.zDf];exact k.l2
theorem PAt.skip2{P D:Ix->Nat}{p q1 q2 t n a b:Nat}{V:Ix->Nat->Bool}{w:World}(h:PAt P D p q1 q2 t n a b V w)(hb:b<=t):PAt P D p q1 q2 t n a (b+1) V w:=by
 have hm:∀j,Iab t a (b+1) j->Iab t a b j:=by
  rintro(_|s|s|_) hj
  ·exact trivial
  ·exact hj
  ·have h1:t<s/\s<b+1:=hj;omega
  ·exact hj
 refine⟨h.box,h.firsts,fun s hs=>?_,h.free1,h.free2,h.l1,h.l2,⟨fun k hk=>h.fam.at_ k (hm k hk),fun j k hj hk=>h.fam.inj j k (hm j hj) (hm k hk),fun j k hj hk=>h.fam.off j k (hm j hj) (hm k hk)⟩,fun k hk=>h.off k (hm k hk),h.n1,h.n2,h.n3,h.tn,h.n4⟩;rw[h.follows s hs]
 by_cases e3:t<s/\s<b
 ·rw[if_pos e3,if_pos (by omega)]
 ·rw[if_neg e3,if_neg (by omega)]
theorem PAt.full{P D:Ix->Nat}{p q1 q2 t n:Nat}{V:Ix->Nat->Bool}{w:World}(h:PAt P D p q1 q2 t n n n V w):SAt (Iab t n n) P D p q1 q2 t n V w:=
 ⟨h.box,fun s hs=>by rw[h.firsts s hs,if_pos hs],fun s hs=>by
   rw[h.follows s hs]
   by_cases e:t<s
   ·rw[if_pos ⟨e,hs⟩,if_pos e]
   ·rw[if_neg (fun k=>e k.1),if_neg e],h.fam,fun k hk=>⟨(h.off k hk).1,(h.off k hk).2.1,(h.off k hk).2.2.1⟩,trivial,fun s hs=>hs,fun s h1 h2=>⟨h1,h2⟩,h.tn,h.n4⟩
